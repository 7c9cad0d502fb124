/- Whether a ring is one (IsRing), in the program and in its model; no condition but that the ring's slice is at the head of a row of its own. -/
import Derived.Test.YtcekobdnghllcaaTurn
import Derived.Test.YtcekobdnghllcaaLow
import Derived.Test.YtcekobdnghllcaaRing
import Derived.Deep.OwnRows
import Derived.Outline
namespace Go.Proofs.Ytcekobdnghllcaa
open Go.ChangeShapes Go.WideShapes Go.ChangeAt Go.RowKit

/-- a number that a ring may have -/
def okB (x : Int) : Bool := decide (0 ≤ x ∧ x ≤ 999)
/-- numbers and a step that make a ring -/
structure Good (xs : List Int) (k : Int) : Prop where
  n1 : 1 ≤ xs.length
  n2 : xs.length ≤ 200
  ok : xs.all okB = true
  nd : xs.Nodup
  k1 : 1 ≤ k
  k2 : k ≤ 1000000

set_option maxHeartbeats 400000 in
theorem l1All_any (v : Value) (xs : List Int) (W : World) (hv : Rd W v xs) (hl : xs.length ≤ 2000000) :
    Calls Try.prog 39 #[v, .int .i64 0, .int .i64 999] W fun e w' => e = .returned (.bool (xs.all okB)) ∧ W = w' := by
  obtain ⟨n, hn⟩ : ∃ n, xs.length = n := ⟨_, rfl⟩
  obtain ⟨A, c, rfl, hA⟩ := hv
  rw [hn] at hl ⊢
  have HN := Lib.hid hn
  have HA := Lib.hid hA
  clear hn hA
  go_enter Try.func39, Try.ntmps39
  go_wp2
  go_loop [8, 11] (fun _ i => ∃ j : Nat, j ≤ n ∧ i = .int .i64 j ∧ (xs.take j).all okB = true) (fun _ i => n - (intOf i).toNat)
  case atStart => exact ⟨0, Nat.zero_le _, rfl, by simp⟩
  case round =>
    obtain ⟨j, hj, rfl, hf⟩ := hrel
    have HF := Lib.hid hf
    clear hf
    by_cases hlt : j < n
    · obtain ⟨g, o, rfl, hc⟩ := HA.out j (by rw [HN.out]; exact hlt)
      have hl' : j < xs.length := by rw [HN.out]; exact hlt
      obtain ⟨y, hy⟩ : ∃ y, xs.getD j 0 = y := ⟨_, rfl⟩
      have hx : xs[j] = y := by rw [← hy]; simp [hl']
      rw [hy] at hc
      have HT : Hid ((xs.take (j + 1)).all okB = ((xs.take j).all okB && okB y)) := Lib.hid (by rw [List.take_succ_eq_append_getElem hl', List.all_append, hx]; simp)
      have HM : Hid (y ∈ xs) := Lib.hid (by rw [← hx]; exact List.getElem_mem _)
      have h2 : (0 : Int) ≤ j := Int.natCast_nonneg _
      have h3 : (j : Int) < n := by omega
      clear hy hx hl'
      by_cases e : 0 ≤ y ∧ y ≤ 999
      · obtain ⟨e1, e2⟩ := e
        have HY : Hid (okB y = true) := Lib.hid (decide_eq_true ⟨e1, e2⟩)
        go_wp2_with (first | ((with_reducible refine (l1In_yes _ _ _ _ e1 e2).mono ?_); rintro e w' ⟨rfl, rfl⟩))
        go_round
        case rel => exact ⟨j + 1, by omega, by go_num, by rw [HT.out, HF.out, HY.out]; rfl⟩
        case measure => simp [intOf]; omega
      · have e' : y < 0 ∨ 999 < y := by omega
        have HY : Hid (xs.all okB = false) := Lib.hid (by
          rw [List.all_eq_false]
          exact ⟨y, HM.out, by simp [okB]; omega⟩)
        go_wp2_with (first | ((with_reducible refine (l1In_no _ _ _ _ e').mono ?_); rintro e w' ⟨rfl, rfl⟩))
        go_ret
        exact ⟨ret_bool HY.out.symm, rfl⟩
    · have e : j = n := by omega
      subst e
      have HY : Hid (xs.all okB = true) := Lib.hid (by have := HF.out; rwa [List.take_of_length_le (by rw [HN.out]; exact Nat.le_refl _)] at this)
      go_wp2
      go_ret
      exact ⟨ret_bool HY.out.symm, rfl⟩

set_option maxHeartbeats 400000 in
theorem l1Has_any (v : Value) (xs : List Int) (x : Int) (W : World) (hv : Rd W v xs) (hl : xs.length ≤ 2000000) :
    Calls Try.prog 40 #[v, .int .i64 x] W fun e w' => e = .returned (.bool (decide (x ∈ xs))) ∧ W = w' := by
  obtain ⟨n, hn⟩ : ∃ n, xs.length = n := ⟨_, rfl⟩
  obtain ⟨A, c, rfl, hA⟩ := hv
  rw [hn] at hl ⊢
  have HN := Lib.hid hn
  have HA := Lib.hid hA
  clear hn hA
  go_enter Try.func40, Try.ntmps40
  go_wp2
  go_loop [6, 9] (fun _ i => ∃ j : Nat, j ≤ n ∧ i = .int .i64 j ∧ x ∉ xs.take j) (fun _ i => n - (intOf i).toNat)
  case atStart => exact ⟨0, Nat.zero_le _, rfl, by simp⟩
  case round =>
    obtain ⟨j, hj, rfl, hf⟩ := hrel
    have HF := Lib.hid hf
    clear hf
    by_cases hlt : j < n
    · obtain ⟨g, o, rfl, hc⟩ := HA.out j (by rw [HN.out]; exact hlt)
      have hl' : j < xs.length := by rw [HN.out]; exact hlt
      obtain ⟨y, hy⟩ : ∃ y, xs.getD j 0 = y := ⟨_, rfl⟩
      have hx : xs[j] = y := by rw [← hy]; simp [hl']
      rw [hy] at hc
      have HT : Hid (xs.take (j + 1) = xs.take j ++ [y]) := Lib.hid (by rw [List.take_succ_eq_append_getElem hl', hx])
      have HM : Hid (y ∈ xs) := Lib.hid (by rw [← hx]; exact List.getElem_mem _)
      have h2 : (0 : Int) ≤ j := Int.natCast_nonneg _
      have h3 : (j : Int) < n := by omega
      clear hy hx hl'
      by_cases e : y = x
      · subst e
        go_wp2
        go_ret
        exact ⟨ret_bool (decide_eq_true HM.out).symm, rfl⟩
      · have e' : ¬ x = y := fun h => e h.symm
        go_wp2
        go_round
        case rel => exact ⟨j + 1, by omega, by go_num, by rw [HT.out]; simp [HF.out]; exact e'⟩
        case measure => simp [intOf]; omega
    · have e : j = n := by omega
      subst e
      have HY : Hid (¬ x ∈ xs) := Lib.hid (by have := HF.out; rwa [List.take_of_length_le (by rw [HN.out]; exact Nat.le_refl _)] at this)
      go_wp2
      go_ret
      exact ⟨ret_bool (decide_eq_false HY.out).symm, rfl⟩

def zc : Array Value := Array.replicate 1000 (Value.bool false)
@[go_sem] theorem zc_run (w : World) : Sem.run Try.prog (zeroValue 56) w = Result.ok (Value.agg zc) w := by kernel_rfl
@[go_sem] theorem zc_size : zc.size = 1000 := by kernel_rfl
@[simp] theorem zc_ne : zc ≠ #[] := by intro h; have := congrArg Array.size h; rw [zc_size] at this; simp at this
theorem seen0 : zc = Array.replicate 1000 (Value.bool false) := by kernel_rfl
theorem seen_row (w : World) : (w.alloc (.cells zc 56)).rowIs w.heap.size 56 1000 (fun _ => .bool false) := by
  have h := World.rowIs_alloc w zc 56 (fun _ => .bool false) (by rw [seen0]; intro i hi; simp at hi; simp [hi])
  rwa [show zc.size = 1000 by rw [seen0]; simp] at h
theorem rowIs_nw {w w' : World} {b : Nat} {t : TypeId} {n : Nat} {f : Nat → Value} (h : w.rowIs b t n f) (hk : Kp Nw w w') : w'.rowIs b t n f := h.of_block (hk.block b h.lt (fun h => h))

theorem nodup_take {xs : List Int} {j : Nat} (hl : j < xs.length) : (xs.take (j + 1)).Nodup ↔ (xs.take j).Nodup ∧ xs[j] ∉ xs.take j := by
  rw [List.take_succ_eq_append_getElem hl, List.nodup_append]
  constructor
  · rintro ⟨h1, _, h3⟩
    exact ⟨h1, fun hm => h3 _ hm _ (by simp) rfl⟩
  · rintro ⟨h1, h2⟩
    refine ⟨h1, by simp, fun a ha b hb e => ?_⟩
    rw [List.mem_singleton] at hb
    rw [e, hb] at ha
    exact h2 ha
theorem nodup_of_take {xs : List Int} (j : Nat) (h : xs.Nodup) : (xs.take j).Nodup := h.sublist (List.take_sublist _ _)

theorem goodB_of (xs : List Int) (k : Int) (h1 : 1 ≤ xs.length) (h2 : xs.length ≤ 200) (k1 : 1 ≤ k) (k2 : k ≤ 1000000) (ok : xs.all okB = true) (nd : xs.Nodup) : Good xs k := ⟨h1, h2, ok, nd, k1, k2⟩

set_option maxHeartbeats 1600000 in
theorem iIsRing_loop (g cap n : Nat) (xs : List Int) (k : Int) (B : Nat) (W : World) (hs : SlAt W B g cap n xs) (h : Asked n k) (b : Bool) (hb : b = decide (xs.all okB = true ∧ xs.Nodup)) :
    Calls Try.prog 27 #[.agg #[.slice (some ⟨g, 0, none⟩) n cap, .int .i64 k]] W fun e w' => e = .returned (.bool b) ∧ Kp Nw W w' := by
  have h1 := h.p1; have h2 := h.p2
  have hgl : g < W.heap.size := World.block_lt_of_cell? W ⟨g, 0, none⟩ (hs.cell 0 (by omega))
  have HS := Lib.hid hs
  have HB := Lib.hid hb
  clear hs hb
  go_enter Try.func27, Try.ntmps27
  go_wp2_with (first | ((with_reducible refine (isCount_yes _ _ _ h).mono ?_); rintro e w' ⟨rfl, rfl⟩))
  obtain ⟨W0, hW0⟩ : ∃ W0, W0 = (W.alloc (.cells #[.slice (some ⟨g, 0, none⟩) n cap, .int .i64 k] 24)).alloc (.cells zc 56) := ⟨_, rfl⟩
  have HR : Hid (W0.rowIs (W.heap.size + 1) 56 1000 (fun m => .bool (decide ((m : Int) ∈ xs.take 0)))) := Lib.hid (by
    rw [hW0]
    have := seen_row (W.alloc (.cells #[.slice (some ⟨g, 0, none⟩) n cap, .int .i64 k] 24))
    rw [World.size_alloc] at this
    simpa using this)
  have HK : Hid (Kp Nw W W0) := Lib.hid (by rw [hW0]; exact (Kp.al _ _).nw (.al _ _))
  rw [← hW0]
  clear hW0
  go_loopw [5, 16] (fun _ i wr => ∃ j : Nat, j ≤ n ∧ i = .int .i64 j ∧ (xs.take j).all okB = true ∧ (xs.take j).Nodup ∧ wr.rowIs (W.heap.size + 1) 56 1000 (fun m => .bool (decide ((m : Int) ∈ xs.take j))) ∧ Kp Nw W wr) (fun _ i _ => n - (intOf i).toNat)
  case atStart => exact ⟨0, Nat.zero_le _, rfl, by simp, by simp, HR.out, HK.out⟩
  case round =>
    rename_i wr
    obtain ⟨j, hj, rfl, ho, hn, hr, hk⟩ := hrel
    have HO := Lib.hid ho
    have HND := Lib.hid hn
    have HRW := Lib.hid hr
    have HKW := Lib.hid hk
    clear ho hn hr hk HR HK
    by_cases hlt : j < n
    · have hl' : j < xs.length := by rw [HS.out.1]; exact hlt
      have c := keepc HKW.out (HS.out.cell j hlt) (fun h => h)
      obtain ⟨y, hy⟩ : ∃ y, xs.getD j 0 = y := ⟨_, rfl⟩
      have hx : xs[j] = y := by rw [← hy]; simp [hl']
      rw [hy] at c
      have HT : Hid (xs.take (j + 1) = xs.take j ++ [y]) := Lib.hid (by rw [List.take_succ_eq_append_getElem hl', hx])
      have HA : Hid ((xs.take (j + 1)).all okB = ((xs.take j).all okB && okB y)) := Lib.hid (by rw [HT.out, List.all_append]; simp)
      have HN : Hid ((xs.take (j + 1)).Nodup ↔ (xs.take j).Nodup ∧ y ∉ xs.take j) := Lib.hid (by rw [nodup_take hl', hx])
      have HM : Hid (y ∈ xs) := Lib.hid (by rw [← hx]; exact List.getElem_mem _)
      have h3 : (0 : Int) ≤ j := Int.natCast_nonneg _
      have h4 : (j : Int) < n := by omega
      clear hy hx hl'
      by_cases e : 0 ≤ y ∧ y ≤ 999
      · obtain ⟨e1, e2⟩ := e
        obtain ⟨m, rfl⟩ : ∃ m : Nat, y = m := ⟨y.toNat, by omega⟩
        have HY : Hid (okB (m : Int) = true) := Lib.hid (decide_eq_true ⟨e1, e2⟩)
        have cm := HRW.out.cell (i := m) (by omega)
        have fm := HRW.out.frozen m
        have m1 : (m : Int) < 1000 := by omega
        by_cases hin : (m : Int) ∈ xs.take j
        · rw [decide_eq_true hin] at cm
          have HF : Hid (b = false) := Lib.hid (by
            rw [HB.out, decide_eq_false_iff_not]
            rintro ⟨_, hnd⟩
            exact (HN.out.1 (nodup_of_take (j + 1) hnd)).2 hin)
          clear hin
          go_wp2_with (first | ((with_reducible refine (within_yes _ _ _ _ e1 e2).mono ?_); rintro e w' ⟨rfl, rfl⟩))
          go_ret
          exact ⟨ret_bool HF.out.symm, HKW.out⟩
        · rw [decide_eq_false hin] at cm
          have HIN := Lib.hid hin
          clear hin
          go_wp2_with (first | ((with_reducible refine (within_yes _ _ _ _ e1 e2).mono ?_); rintro e w' ⟨rfl, rfl⟩))
          go_roundw
          case rel =>
            refine ⟨j + 1, by omega, by go_num, by rw [HA.out, HO.out, HY.out]; rfl, HN.out.2 ⟨HND.out, HIN.out⟩, ?_, HKW.out.setCell (.inr (by show W.heap.size ≤ W.heap.size + 1; omega)) _⟩
            refine (HRW.out.set m (.bool true)).congr (fun a ha => ?_)
            rw [HT.out]
            by_cases ea : a = m
            · rw [if_pos ea, ea]; simp
            · rw [if_neg ea]
              have : ¬ ((a : Int) = (m : Int)) := by omega
              simp [this]
          case measure => simp [intOf]; omega
      · have e' : y < 0 ∨ 999 < y := by omega
        have HF : Hid (b = false) := Lib.hid (by
          rw [HB.out, decide_eq_false_iff_not]
          rintro ⟨hok, _⟩
          have := List.all_eq_true.1 hok y HM.out
          simp [okB] at this
          omega)
        go_wp2_with (first | ((with_reducible refine (within_no _ _ _ _ e').mono ?_); rintro e w' ⟨rfl, rfl⟩))
        go_ret
        exact ⟨ret_bool HF.out.symm, HKW.out⟩
    · have e : j = n := by omega
      subst e
      have ht : xs.take j = xs := List.take_of_length_le (by rw [HS.out.1]; exact Nat.le_refl _)
      have HF : Hid (b = true) := Lib.hid (by
        have h5 := HO.out; have h6 := HND.out
        rw [ht] at h5 h6
        rw [HB.out]; exact decide_eq_true ⟨h5, h6⟩)
      clear ht
      go_wp2
      go_ret
      exact ⟨ret_bool HF.out.symm, HKW.out⟩

theorem iIsRing_off (A : Option Addr) (cap n : Nat) (k : Int) (W : World) (h : ¬ Asked n k) :
    Calls Try.prog 27 #[.agg #[.slice A n cap, .int .i64 k]] W fun e w' => e = .returned (.bool false) ∧ Kp Nw W w' := by
  go_enter Try.func27, Try.ntmps27
  go_wp2_with (first | ((with_reducible refine (isCount_no _ _ _ h).mono ?_); rintro e w' ⟨rfl, rfl⟩))
  go_ret
  exact ⟨rfl, Kp.al _ _⟩
end Go.Proofs.Ytcekobdnghllcaa
