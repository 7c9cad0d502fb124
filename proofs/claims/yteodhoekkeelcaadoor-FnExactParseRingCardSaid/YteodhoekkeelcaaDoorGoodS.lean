/- Whether a ring is one, in the model, and the laws' own helpers that copy rings and tell their size; no condition but that the ring's slice is at the head of a row of its own, and at most a million and a bit long. -/
import Derived.Test.YteodhoekkeelcaaDoorGood
import Derived.Test.YteodhoekkeelcaaDoorMakeC
import Derived.Test.YteodhoekkeelcaaDoorLetGo
namespace Go.Proofs.YteodhoekkeelcaaDoor
open Go.ChangeShapes Go.WideShapes Go.ChangeAt Go.RowKit

/-- do numbers and a step make a ring? -/
def goodB (xs : List Int) (k : Int) : Bool := decide (1 ≤ xs.length ∧ xs.length ≤ 200 ∧ 1 ≤ k ∧ k ≤ 1000000) && decide (xs.all okB = true ∧ xs.Nodup)
theorem goodB_off (xs : List Int) (k : Int) (h : ¬ Asked xs.length k) : goodB xs k = false := by
  unfold goodB
  rw [decide_eq_false (fun ⟨a, b, c, d⟩ => h ⟨by omega, by omega, c, d⟩)]
  rfl
theorem goodB_on (xs : List Int) (k : Int) (h : Asked xs.length k) : goodB xs k = decide (xs.all okB = true ∧ xs.Nodup) := by
  have h1 := h.p1; have h2 := h.p2
  unfold goodB
  rw [decide_eq_true ⟨by omega, by omega, h.k1, h.k2⟩]
  rfl

theorem iIsRing_any (g cap n : Nat) (xs : List Int) (k : Int) (B : Nat) (W : World) (hs : SlAt W B g cap n xs) :
    Calls Tryd.prog 40 #[.agg #[.slice (some ⟨g, 0, none⟩) n cap, .int .i64 k]] W fun e w' => e = .returned (.bool (goodB xs k)) ∧ Kp Nw W w' := by
  by_cases h : Asked n k
  · exact iIsRing_loop g cap n xs k B W hs h _ (by rw [goodB_on]; rw [hs.1]; exact h)
  · rw [goodB_off xs k (by rw [hs.1]; exact h)]
    exact iIsRing_off _ cap n k W h

theorem l1All_as (v : Value) (xs : List Int) (b : Bool) (W : World) (hv : Rd W v xs) (hl : xs.length ≤ 2000000) (hb : xs.all okB = b) :
    Calls Tryd.prog 63 #[v, .int .i64 0, .int .i64 999] W fun e w' => e = .returned (.bool b) ∧ W = w' := by
  subst hb
  exact l1All_any v xs W hv hl

set_option maxHeartbeats 1600000 in
theorem ciGood_any (g cap n : Nat) (xs : List Int) (k : Int) (B : Nat) (W : World) (hs : SlAt W B g cap n xs) (hcap : n ≤ cap) (hl : n ≤ 2000000) (b : Bool) (hb : b = goodB xs k) :
    Calls Tryd.prog 56 #[.agg #[.slice (some ⟨g, 0, none⟩) n cap, .int .i64 k]] W fun e w' => e = .returned (.bool b) ∧ Kp Nw W w' := by
  have HS := Lib.hid hs
  have HB := Lib.hid hb
  have HR : Hid (Rd W (.slice (some ⟨g, 0, none⟩) n cap) xs) := Lib.hid hs.sl.rd
  have HLE : Hid (xs.length ≤ 2000000) := Lib.hid (by rw [hs.1]; exact hl)
  clear hs hb
  by_cases hn : (n : Int) < 1 ∨ 200 < (n : Int)
  · have HF : Hid (b = false) := Lib.hid (by rw [HB.out]; exact goodB_off _ _ (fun h => by have h1 := h.p1; have h2 := h.p2; rw [HS.out.1] at h1 h2; omega))
    go_enter Tryd.func56, Tryd.ntmps56
    go_wp2_with (first | ((with_reducible refine (l1In_no (n : Int) _ _ _ hn).mono ?_); rintro e w' ⟨rfl, rfl⟩))
    go_ret
    exact ⟨ret_bool HF.out.symm, Kp.al _ _⟩
  · have n1 : 1 ≤ (n : Int) := by omega
    have n2 : (n : Int) ≤ 200 := by omega
    clear hn
    by_cases hok : xs.all okB = true
    · have HOK := Lib.hid hok
      clear hok
      by_cases hk : k < 1 ∨ 1000000 < k
      · have HF : Hid (b = false) := Lib.hid (by rw [HB.out]; exact goodB_off _ _ (fun h => by have h1 := h.k1; have h2 := h.k2; omega))
        go_enter Tryd.func56, Tryd.ntmps56
        go_wp2_with (first | ((with_reducible refine (l1In_yes (n : Int) _ _ _ n1 n2).mono ?_); rintro e w' ⟨rfl, rfl⟩) | ((with_reducible refine (l1In_no k _ _ _ hk).mono ?_); rintro e w' ⟨rfl, rfl⟩) | ((with_reducible refine (l1All_as _ xs true _ (HR.out.nw (.al _ _)) HLE.out HOK.out).mono ?_); rintro e w' ⟨rfl, rfl⟩))
        go_ret
        exact ⟨ret_bool HF.out.symm, Kp.al _ _⟩
      · have k1 : 1 ≤ k := by omega
        have k2 : k ≤ 1000000 := by omega
        clear hk
        have HG : Hid (goodB xs k = decide (xs.all okB = true ∧ xs.Nodup)) := Lib.hid (goodB_on _ _ ⟨by rw [HS.out.1]; omega, by rw [HS.out.1]; omega, k1, k2⟩)
        go_enter Tryd.func56, Tryd.ntmps56
        go_wp2_with (first | ((with_reducible refine (l1In_yes (n : Int) _ _ _ n1 n2).mono ?_); rintro e w' ⟨rfl, rfl⟩) | ((with_reducible refine (l1In_yes k _ _ _ k1 k2).mono ?_); rintro e w' ⟨rfl, rfl⟩) | ((with_reducible refine (l1All_as _ xs true _ (HR.out.nw (.al _ _)) HLE.out HOK.out).mono ?_); rintro e w' ⟨rfl, rfl⟩))
        go_loop [3, 4, 25] (fun _ _ i => ∃ j : Nat, j ≤ n ∧ i = .int .i64 j ∧ (xs.take j).Nodup) (fun _ _ i => n - (intOf i).toNat)
        case atStart => exact ⟨0, Nat.zero_le _, rfl, by simp⟩
        case round =>
          obtain ⟨j, hj, rfl, hn⟩ := hrel
          have HND := Lib.hid hn
          clear hn
          by_cases hlt : j < n
          · have hl' : j < xs.length := by rw [HS.out.1]; exact hlt
            have c := keepc (.al W (.cells #[.slice (some ⟨g, 0, none⟩) n cap, .int .i64 k] 24)) (HS.out.cell j hlt) (fun h => h)
            have c2 := HS.out.cell j hlt
            have hgl : g < W.heap.size := World.block_lt_of_cell? W _ c2
            obtain ⟨y, hy⟩ : ∃ y, xs.getD j 0 = y := ⟨_, rfl⟩
            have hx : xs[j] = y := by rw [← hy]; simp [hl']
            rw [hy] at c c2
            have HN : Hid ((xs.take (j + 1)).Nodup ↔ (xs.take j).Nodup ∧ y ∉ xs.take j) := Lib.hid (by rw [nodup_take hl', hx])
            have q6 := cut_to g n cap j (by omega)
            have h3 : (0 : Int) ≤ j := Int.natCast_nonneg _
            have h4 : (j : Int) < n := by omega
            have h5 : (j : Int) ≤ cap := by omega
            clear hy hx hl' c
            go_wp2_with fail
            refine (l1Has_any _ (xs.take j) y _ ((HS.out.take j (by omega)).nw (.al _ _)) (by have := HS.out.1; simp; omega)).mono ?_
            rintro e w' ⟨rfl, rfl⟩
            by_cases hin : y ∈ xs.take j
            · rw [decide_eq_true hin]
              have HF : Hid (b = false) := Lib.hid (by
                rw [HB.out, HG.out, decide_eq_false_iff_not]
                rintro ⟨_, hnd⟩
                exact (HN.out.1 (nodup_of_take (j + 1) hnd)).2 hin)
              clear hin
              go_wp2
              go_ret
              exact ⟨ret_bool HF.out.symm, Kp.al _ _⟩
            · rw [decide_eq_false hin]
              have HIN := Lib.hid hin
              clear hin
              go_wp2
              go_round
              case rel => exact ⟨j + 1, by omega, by go_num, HN.out.2 ⟨HND.out, HIN.out⟩⟩
              case measure => simp [intOf]; omega
          · have e : j = n := by omega
            subst e
            have ht : xs.take j = xs := List.take_of_length_le (by rw [HS.out.1]; exact Nat.le_refl _)
            have HF : Hid (b = true) := Lib.hid (by
              have h6 := HND.out
              rw [ht] at h6
              rw [HB.out, HG.out]; exact decide_eq_true ⟨HOK.out, h6⟩)
            clear ht
            go_wp2
            go_ret
            exact ⟨ret_bool HF.out.symm, Kp.al _ _⟩
    · have hok' : xs.all okB = false := by simpa using hok
      have HOK := Lib.hid hok'
      have HF : Hid (b = false) := Lib.hid (by rw [HB.out]; unfold goodB; rw [hok']; simp)
      clear hok hok'
      go_enter Tryd.func56, Tryd.ntmps56
      go_wp2_with (first | ((with_reducible refine (l1In_yes (n : Int) _ _ _ n1 n2).mono ?_); rintro e w' ⟨rfl, rfl⟩) | ((with_reducible refine (l1All_as _ xs false _ (HR.out.nw (.al _ _)) HLE.out HOK.out).mono ?_); rintro e w' ⟨rfl, rfl⟩))
      go_ret
      exact ⟨ret_bool HF.out.symm, Kp.al _ _⟩

/-- what a call returns that copies a ring -/
def CopyRes (W : World) (n : Nat) (xs : List Int) (k : Int) (e : Ending) (w' : World) : Prop := ∃ g, e = .returned (.agg #[.slice (some ⟨g, 0, none⟩) n n, .int .i64 k]) ∧ SlAt w' W.heap.size g n n xs ∧ Kp Nw W w' ∧ W.heap.size ≤ g ∧ g < w'.heap.size

end Go.Proofs.YteodhoekkeelcaaDoor
