/- Whether a ring is one, in the model, and the laws' own helpers that copy rings and tell their size; no condition but that the ring's slice is at the head of a row of its own, and at most a million and a bit long. -/
import Derived.Test.YtcekobdnghllcaaGood
import Derived.Test.YtcekobdnghllcaaMakeC
import Derived.Test.YtcekobdnghllcaaLetGo
namespace Go.Proofs.Ytcekobdnghllcaa
open Go.ChangeShapes Go.WideShapes Go.ChangeAt Go.RowKit

/-- do numbers and a step make a ring? -/
def goodB (xs : List Int) (k : Int) : Bool := decide (1 ≤ xs.length ∧ xs.length ≤ 200 ∧ 1 ≤ k ∧ k ≤ 1000000) && decide (xs.all okB = true ∧ xs.Nodup)
theorem goodB_off (xs : List Int) (k : Int) (h : ¬ Asked xs.length k) : goodB xs k = false := by
  unfold goodB
  rw [decide_eq_false (fun ⟨a, b, c, d⟩ => h ⟨by omega, by omega, c, d⟩)]
  rfl
theorem goodB_on (xs : List Int) (k : Int) (h : Asked xs.length k) : goodB xs k = decide (xs.all okB = true ∧ xs.Nodup) := by
  have h1 := h.p1; have h2 := h.p2
  unfold goodB
  rw [decide_eq_true ⟨by omega, by omega, h.k1, h.k2⟩]
  rfl

theorem iIsRing_any (g cap n : Nat) (xs : List Int) (k : Int) (B : Nat) (W : World) (hs : SlAt W B g cap n xs) :
    Calls Try.prog 27 #[.agg #[.slice (some ⟨g, 0, none⟩) n cap, .int .i64 k]] W fun e w' => e = .returned (.bool (goodB xs k)) ∧ Kp Nw W w' := by
  by_cases h : Asked n k
  · exact iIsRing_loop g cap n xs k B W hs h _ (by rw [goodB_on]; rw [hs.1]; exact h)
  · rw [goodB_off xs k (by rw [hs.1]; exact h)]
    exact iIsRing_off _ cap n k W h

theorem l1All_as (v : Value) (xs : List Int) (b : Bool) (W : World) (hv : Rd W v xs) (hl : xs.length ≤ 2000000) (hb : xs.all okB = b) :
    Calls Try.prog 39 #[v, .int .i64 0, .int .i64 999] W fun e w' => e = .returned (.bool b) ∧ W = w' := by
  subst hb
  exact l1All_any v xs W hv hl

set_option maxHeartbeats 1600000 in
theorem ciGood_any (g cap n : Nat) (xs : List Int) (k : Int) (B : Nat) (W : World) (hs : SlAt W B g cap n xs) (hcap : n ≤ cap) (hl : n ≤ 2000000) (b : Bool) (hb : b = goodB xs k) :
    Calls Try.prog 33 #[.agg #[.slice (some ⟨g, 0, none⟩) n cap, .int .i64 k]] W fun e w' => e = .returned (.bool b) ∧ Kp Nw W w' := by
  have HS := Lib.hid hs
  have HB := Lib.hid hb
  have HR : Hid (Rd W (.slice (some ⟨g, 0, none⟩) n cap) xs) := Lib.hid hs.sl.rd
  have HLE : Hid (xs.length ≤ 2000000) := Lib.hid (by rw [hs.1]; exact hl)
  clear hs hb
  by_cases hn : (n : Int) < 1 ∨ 200 < (n : Int)
  · have HF : Hid (b = false) := Lib.hid (by rw [HB.out]; exact goodB_off _ _ (fun h => by have h1 := h.p1; have h2 := h.p2; rw [HS.out.1] at h1 h2; omega))
    go_enter Try.func33, Try.ntmps33
    go_wp2_with (first | ((with_reducible refine (l1In_no (n : Int) _ _ _ hn).mono ?_); rintro e w' ⟨rfl, rfl⟩))
    go_ret
    exact ⟨ret_bool HF.out.symm, Kp.al _ _⟩
  · have n1 : 1 ≤ (n : Int) := by omega
    have n2 : (n : Int) ≤ 200 := by omega
    clear hn
    by_cases hok : xs.all okB = true
    · have HOK := Lib.hid hok
      clear hok
      by_cases hk : k < 1 ∨ 1000000 < k
      · have HF : Hid (b = false) := Lib.hid (by rw [HB.out]; exact goodB_off _ _ (fun h => by have h1 := h.k1; have h2 := h.k2; omega))
        go_enter Try.func33, Try.ntmps33
        go_wp2_with (first | ((with_reducible refine (l1In_yes (n : Int) _ _ _ n1 n2).mono ?_); rintro e w' ⟨rfl, rfl⟩) | ((with_reducible refine (l1In_no k _ _ _ hk).mono ?_); rintro e w' ⟨rfl, rfl⟩) | ((with_reducible refine (l1All_as _ xs true _ (HR.out.nw (.al _ _)) HLE.out HOK.out).mono ?_); rintro e w' ⟨rfl, rfl⟩))
        go_ret
        exact ⟨ret_bool HF.out.symm, Kp.al _ _⟩
      · have k1 : 1 ≤ k := by omega
        have k2 : k ≤ 1000000 := by omega
        clear hk
        have HG : Hid (goodB xs k = decide (xs.all okB = true ∧ xs.Nodup)) := Lib.hid (goodB_on _ _ ⟨by rw [HS.out.1]; omega, by rw [HS.out.1]; omega, k1, k2⟩)
        go_enter Try.func33, Try.ntmps33
        go_wp2_with (first | ((with_reducible refine (l1In_yes (n : Int) _ _ _ n1 n2).mono ?_); rintro e w' ⟨rfl, rfl⟩) | ((with_reducible refine (l1In_yes k _ _ _ k1 k2).mono ?_); rintro e w' ⟨rfl, rfl⟩) | ((with_reducible refine (l1All_as _ xs true _ (HR.out.nw (.al _ _)) HLE.out HOK.out).mono ?_); rintro e w' ⟨rfl, rfl⟩))
        go_loop [3, 4, 25] (fun _ _ i => ∃ j : Nat, j ≤ n ∧ i = .int .i64 j ∧ (xs.take j).Nodup) (fun _ _ i => n - (intOf i).toNat)
        case atStart => exact ⟨0, Nat.zero_le _, rfl, by simp⟩
        case round =>
          obtain ⟨j, hj, rfl, hn⟩ := hrel
          have HND := Lib.hid hn
          clear hn
          by_cases hlt : j < n
          · have hl' : j < xs.length := by rw [HS.out.1]; exact hlt
            have c := keepc (.al W (.cells #[.slice (some ⟨g, 0, none⟩) n cap, .int .i64 k] 24)) (HS.out.cell j hlt) (fun h => h)
            have c2 := HS.out.cell j hlt
            have hgl : g < W.heap.size := World.block_lt_of_cell? W _ c2
            obtain ⟨y, hy⟩ : ∃ y, xs.getD j 0 = y := ⟨_, rfl⟩
            have hx : xs[j] = y := by rw [← hy]; simp [hl']
            rw [hy] at c c2
            have HN : Hid ((xs.take (j + 1)).Nodup ↔ (xs.take j).Nodup ∧ y ∉ xs.take j) := Lib.hid (by rw [nodup_take hl', hx])
            have q6 := cut_to g n cap j (by omega)
            have h3 : (0 : Int) ≤ j := Int.natCast_nonneg _
            have h4 : (j : Int) < n := by omega
            have h5 : (j : Int) ≤ cap := by omega
            clear hy hx hl' c
            go_wp2_with fail
            refine (l1Has_any _ (xs.take j) y _ ((HS.out.take j (by omega)).nw (.al _ _)) (by have := HS.out.1; simp; omega)).mono ?_
            rintro e w' ⟨rfl, rfl⟩
            by_cases hin : y ∈ xs.take j
            · rw [decide_eq_true hin]
              have HF : Hid (b = false) := Lib.hid (by
                rw [HB.out, HG.out, decide_eq_false_iff_not]
                rintro ⟨_, hnd⟩
                exact (HN.out.1 (nodup_of_take (j + 1) hnd)).2 hin)
              clear hin
              go_wp2
              go_ret
              exact ⟨ret_bool HF.out.symm, Kp.al _ _⟩
            · rw [decide_eq_false hin]
              have HIN := Lib.hid hin
              clear hin
              go_wp2
              go_round
              case rel => exact ⟨j + 1, by omega, by go_num, HN.out.2 ⟨HND.out, HIN.out⟩⟩
              case measure => simp [intOf]; omega
          · have e : j = n := by omega
            subst e
            have ht : xs.take j = xs := List.take_of_length_le (by rw [HS.out.1]; exact Nat.le_refl _)
            have HF : Hid (b = true) := Lib.hid (by
              have h6 := HND.out
              rw [ht] at h6
              rw [HB.out, HG.out]; exact decide_eq_true ⟨HOK.out, h6⟩)
            clear ht
            go_wp2
            go_ret
            exact ⟨ret_bool HF.out.symm, Kp.al _ _⟩
    · have hok' : xs.all okB = false := by simpa using hok
      have HOK := Lib.hid hok'
      have HF : Hid (b = false) := Lib.hid (by rw [HB.out]; unfold goodB; rw [hok']; simp)
      clear hok hok'
      go_enter Try.func33, Try.ntmps33
      go_wp2_with (first | ((with_reducible refine (l1In_yes (n : Int) _ _ _ n1 n2).mono ?_); rintro e w' ⟨rfl, rfl⟩) | ((with_reducible refine (l1All_as _ xs false _ (HR.out.nw (.al _ _)) HLE.out HOK.out).mono ?_); rintro e w' ⟨rfl, rfl⟩))
      go_ret
      exact ⟨ret_bool HF.out.symm, Kp.al _ _⟩

theorem szIntS_any (A : Option Addr) (n c : Nat) (W : World) (hn : n ≤ maxLen) :
    Calls Try.prog 32 #[.slice A n c, .int .i64 1048576] W fun e w' => e = .returned (.int .i64 (if n ≤ 1048576 then 1048576 - (n : Int) else -1)) ∧ W = w' := by
  unfold maxLen at hn
  by_cases h : n ≤ 1048576
  · rw [if_pos h]
    have h1 : (0 : Int) ≤ 1048576 - (n : Int) := by omega
    go_enter Try.func32, Try.ntmps32
    go_wp2
    go_ret
    exact ⟨rfl, rfl⟩
  · rw [if_neg h]
    have h1 : 1048576 - (n : Int) < 0 := by omega
    go_enter Try.func32, Try.ntmps32
    go_wp2
    go_ret
    exact ⟨rfl, rfl⟩

theorem szRing_small (A : Option Addr) (n c : Nat) (k : Int) (W : World) (h : n ≤ 1048576) :
    Calls Try.prog 22 #[.agg #[.slice A n c, .int .i64 k], .int .i64 1048576] W fun e w' => e = .returned (.int .i64 (1048576 - (n : Int))) ∧ Kp Nw W w' := by
  have h1 : (0 : Int) ≤ 1048576 - (n : Int) := by omega
  go_enter Try.func22, Try.ntmps22
  go_wp2_with fail
  refine (szIntS_any A n c _ (by unfold maxLen; omega)).mono ?_
  rintro e w' ⟨rfl, rfl⟩
  rw [if_pos h]
  go_wp2
  go_ret
  exact ⟨rfl, Kp.al _ _⟩

theorem szRing_large (A : Option Addr) (n c : Nat) (k : Int) (W : World) (hn : n ≤ maxLen) (h : 1048576 < n) :
    Calls Try.prog 22 #[.agg #[.slice A n c, .int .i64 k], .int .i64 1048576] W fun e w' => e = .returned (.int .i64 (-1)) ∧ Kp Nw W w' := by
  go_enter Try.func22, Try.ntmps22
  go_wp2_with fail
  refine (szIntS_any A n c _ hn).mono ?_
  rintro e w' ⟨rfl, rfl⟩
  rw [if_neg (by omega)]
  go_wp2
  go_ret
  exact ⟨rfl, Kp.al _ _⟩

/-- what a call returns that copies a ring -/
def CopyRes (W : World) (n : Nat) (xs : List Int) (k : Int) (e : Ending) (w' : World) : Prop := ∃ g, e = .returned (.agg #[.slice (some ⟨g, 0, none⟩) n n, .int .i64 k]) ∧ SlAt w' W.heap.size g n n xs ∧ Kp Nw W w' ∧ W.heap.size ≤ g ∧ g < w'.heap.size

set_option maxHeartbeats 800000 in
theorem toIntS_any (u : Value) (n : Nat) (xs : List Int) (W : World) (hu : Rd W u xs) (hn : xs.length = n) (hl : n ≤ 1048576) :
    Calls Try.prog 35 #[u] W fun e w' => ∃ g, e = .returned (.slice (some ⟨g, 0, none⟩) n n) ∧ SlAt w' W.heap.size g n n xs ∧ Kp Nw W w' ∧ W.heap.size ≤ g ∧ g < w'.heap.size := by
  obtain ⟨i0, hi0, hz0, hz1, hz2⟩ := info_parts intInfo
  obtain ⟨A, c, rfl, hA⟩ := hu
  rw [hn]
  have HN := Lib.hid hn
  have HA := Lib.hid hA
  clear hn hA
  go_enter Try.func35, Try.ntmps35
  go_wp2_with (first | (at_make; refine wpList_make_full _ rfl _ _ 22 rfl W.heap.size 3 i0 (.int .i64 0) 1 Try.underlying22 hi0 hz0 hz1 _ _ _ _ n rfl rfl rfl rfl (by rw [hz2]; omega) (by unfold maxLen; omega) (Nat.le_refl _) ?_))
  intro w1 hown hgrow
  have hk1 : Kp Nw W w1 := (Kp.refl _ _).grown hgrow (fun g hg => by cases hg)
  have hgl : W.heap.size < w1.heap.size := (World.ownsRow.lt hown W.heap.size rfl).2
  have HS := Lib.hid (Sl.zeros hown)
  have HK := Lib.hid hk1
  clear hown hgrow hk1
  go_wp2
  go_loopw [4] (fun i wr => ∃ j : Nat, j ≤ n ∧ i = .int .i64 j ∧ SlAt wr W.heap.size W.heap.size n n (fill xs (List.replicate n 0) j) ∧ Kp Nw W wr ∧ W.heap.size < wr.heap.size) (fun i _ => n - (intOf i).toNat)
  case atStart => exact ⟨0, Nat.zero_le _, rfl, by rw [fill_zero]; exact HS.out, HK.out, hgl⟩
  case round =>
    rename_i wr
    obtain ⟨j, hj, rfl, hs, hk, hw⟩ := hrel
    have H := Lib.hid hs
    have HK2 := Lib.hid hk
    by_cases hlt : j < n
    · have cc := hs.cell j hlt
      have f0 := hs.frozen j
      obtain ⟨g, o, rfl, h0⟩ := HA.out j (by rw [HN.out]; exact hlt)
      have h1 := keepc hk h0 (fun h => h)
      have hx : xs[j]? = some (xs.getD j 0) := by simp [show j < xs.length by rw [HN.out]; exact hlt]
      obtain ⟨x, hxx⟩ : ∃ x, xs.getD j 0 = x := ⟨_, rfl⟩
      rw [hxx] at h1 hx
      have HX := Lib.hid hx
      have j0 : (0 : Int) ≤ j := Int.natCast_nonneg _
      have j1 : (j : Int) < n := by omega
      clear hs hk HS h0 hx hxx
      go_wp2
      go_roundw
      case rel =>
        refine ⟨j + 1, by omega, by go_num, ?_, HK2.out.setCell (.inr (Nat.le_refl _)) _, by simpa [World.setCell] using hw⟩
        have h2 := H.out.store j x
        rw [fill_set xs _ j x (by rw [List.length_replicate, HN.out]) (by rw [HN.out]; exact hlt) HX.out] at h2
        exact h2
      case measure => simp [intOf]; omega
    · have e : j = n := by omega
      subst e
      have hn1 := HN.out
      rw [show fill xs (List.replicate j 0) j = xs by
        have := fill_all xs (List.replicate j 0) (by rw [List.length_replicate, hn1])
        rwa [hn1] at this] at hs
      have H2 := Lib.hid hs
      clear hs HS hk hn1
      go_wp2
      go_ret
      exact ⟨W.heap.size, rfl, H2.out, HK2.out, Nat.le_refl _, hw⟩

set_option maxHeartbeats 800000 in
theorem toRing_any (A : Option Addr) (n c : Nat) (k : Int) (xs : List Int) (W : World) (hu : Rd W (.slice A n c) xs) (hn : xs.length = n) (hl : n ≤ 1048576) :
    Calls Try.prog 25 #[.agg #[.slice A n c, .int .i64 k]] W (CopyRes W n xs k) := by
  have HU := Lib.hid hu
  have HN := Lib.hid hn
  clear hu hn
  go_enter Try.func25, Try.ntmps25
  go_wp2_with fail
  refine (toIntS_any _ n xs _ (((HU.out.nw (.al _ _)).nw (.al _ _)).nw (.al _ _)) HN.out hl).mono ?_
  rintro e w1 ⟨g, rfl, hs, hk, hg1, hg2⟩
  obtain ⟨a0, a1, a2, a3⟩ := (((Own2.new W (.slice A n c) (.int .i64 k) 33).kp (.al _ (.cells #[.slice none 0 0, .int .i64 0] 24)) (fun h => h)).kp (.al _ (.cells #[.slice none 0 0, .int .i64 0] 24)) (fun h => h)).kp hk (fun h => h)
  obtain ⟨r0, r1, r2, r3⟩ := ((Own2.new (W.alloc (.cells #[.slice A n c, .int .i64 k] 33)) (.slice none 0 0) (.int .i64 0) 24).kp (.al _ (.cells #[.slice none 0 0, .int .i64 0] 24)) (fun h => h)).kp hk (fun h => h)
  obtain ⟨o0, o1, o2, o3⟩ := (Own2.new ((W.alloc (.cells #[.slice A n c, .int .i64 k] 33)).alloc (.cells #[.slice none 0 0, .int .i64 0] 24)) (.slice none 0 0) (.int .i64 0) 24).kp hk (fun h => h)
  simp only [World.size_alloc] at r0 r1 r2 r3 o0 o1 o2 o3 hg1
  obtain ⟨z0, z1⟩ := two_set _ (W.heap.size + 1) (.slice (some ⟨g, 0, none⟩) n n) (.int .i64 k) _ _
    (keeps _ _ ⟨W.heap.size + 1 + 1, 1, none⟩ (.int .i64 k) _ (keeps _ _ ⟨W.heap.size + 1 + 1, 0, none⟩ (.slice (some ⟨g, 0, none⟩) n n) _ r0 (by simp)) (by simp))
    (keeps _ _ ⟨W.heap.size + 1 + 1, 1, none⟩ (.int .i64 k) _ (keeps _ _ ⟨W.heap.size + 1 + 1, 0, none⟩ (.slice (some ⟨g, 0, none⟩) n n) _ r1 (by simp)) (by simp))
  have H := Lib.hid hs
  have HK := Lib.hid hk
  have k1 : Hid (Kp Nw W w1) := Lib.hid ((((Kp.al W _).nw (.al _ _)).nw (.al _ _)).nw hk)
  clear hs hk
  go_wp2
  refine bodyPost_ret (v := .agg #[.slice (some ⟨g, 0, none⟩) n n, .int .i64 k]) (by simp [results, Try.results25, go_sem, z0, z1]) rfl ⟨g, rfl, ?_, ?_, by omega, by simp [World.setCell]; omega⟩
  · have k2 : Kp (fun b => b = W.heap.size + 1 ∨ b = W.heap.size + 1 + 1) w1 w1 := Kp.refl _ _
    have h := H.out.sl.kp ((((k2.setCell (p := ⟨W.heap.size + 1 + 1, 0, none⟩) (.inl (.inr rfl)) (.slice (some ⟨g, 0, none⟩) n n)).setCell (p := ⟨W.heap.size + 1 + 1, 1, none⟩) (.inl (.inr rfl)) (.int .i64 k)).setCell (p := ⟨W.heap.size + 1, 0, none⟩) (.inl (.inl rfl)) (.slice (some ⟨g, 0, none⟩) n n)).setCell (p := ⟨W.heap.size + 1, 1, none⟩) (.inl (.inl rfl)) (.int .i64 k)) (fun g' hg' => by
      have e : g' = g := by simp [Value.ownBlock] at hg'; omega
      omega)
    exact ⟨H.out.1, by have h3 := (h.from (B' := W.heap.size) (by simp only [World.size_alloc]; omega)); unfold Sl at h3; rw [H.out.1] at h3; exact h3⟩
  · exact (((k1.out.setCell (.inr (by show W.heap.size ≤ W.heap.size + 1 + 1; omega)) _).setCell (.inr (by show W.heap.size ≤ W.heap.size + 1 + 1; omega)) _).setCell (.inr (by show W.heap.size ≤ W.heap.size + 1; omega)) _).setCell (.inr (by show W.heap.size ≤ W.heap.size + 1; omega)) _
end Go.Proofs.Ytcekobdnghllcaa
