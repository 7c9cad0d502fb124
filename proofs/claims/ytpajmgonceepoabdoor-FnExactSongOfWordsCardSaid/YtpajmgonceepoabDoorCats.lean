/- Cats: the laws' helpers on them (equal, mark, held, size, copy), cats that come in, opened, and whether there are cats, in the program and in its model; no condition but that the slices' cells are there. -/
import Derived.Test.YtpajmgonceepoabDoorGoodS
import Derived.Test.YtpajmgonceepoabDoorRingFn
import Derived.Test.YtpajmgonceepoabDoorOpen
namespace Go.Proofs.YtpajmgonceepoabDoor
open Go.ChangeShapes Go.WideShapes Go.ChangeAt Go.RowKit Go.Joins
def CatsRes0 (W : World) (zs : List Int) (kk : Int) (b : Bool) (e : Ending) (w' : World) : Prop := ∃ v, e = .returned (.tuple #[.agg #[v, .int .i64 kk], .bool b]) ∧ Sl w' W.heap.size v zs ∧ Kp Nw W w'

/-- a number of lives that a cat may have -/
def lifeB (x : Int) : Bool := decide (1 ≤ x ∧ x ≤ 9)
/-- do lives and a step make cats? -/
def catB (xs : List Int) (k : Int) : Bool := decide (1 ≤ xs.length ∧ xs.length ≤ 40 ∧ 1 ≤ k ∧ k ≤ 1000000) && xs.all lifeB
theorem catB_parts {xs : List Int} {k : Int} (h : catB xs k = true) : 1 ≤ xs.length ∧ xs.length ≤ 40 ∧ 1 ≤ k ∧ k ≤ 1000000 ∧ xs.all lifeB = true := by
  unfold catB at h
  rw [Bool.and_eq_true, decide_eq_true_eq] at h
  exact ⟨h.1.1, h.1.2.1, h.1.2.2.1, h.1.2.2.2, h.2⟩
theorem catB_off {xs : List Int} {k : Int} (h : ¬ (1 ≤ xs.length ∧ xs.length ≤ 40 ∧ 1 ≤ k ∧ k ≤ 1000000)) : catB xs k = false := by
  unfold catB; rw [decide_eq_false h]; rfl
theorem catB_on {xs : List Int} {k : Int} (h : 1 ≤ xs.length ∧ xs.length ≤ 40 ∧ 1 ≤ k ∧ k ≤ 1000000) : catB xs k = xs.all lifeB := by
  unfold catB; rw [decide_eq_true h]; rfl
theorem lifeB_get {xs : List Int} (h : xs.all lifeB = true) (j : Nat) (hj : j < xs.length) : 1 ≤ xs.getD j 0 ∧ xs.getD j 0 ≤ 9 := by
  have := List.all_eq_true.1 h (xs[j]) (List.getElem_mem _)
  simp [lifeB] at this
  simpa [hj] using this

set_option maxHeartbeats 400000 in
theorem l1All_lives (v : Value) (xs : List Int) (W : World) (hv : Rd W v xs) (hl : xs.length ≤ 2000000) :
    Calls Tryd.prog 25 #[v, .int .i64 1, .int .i64 9] W fun e w' => e = .returned (.bool (xs.all lifeB)) ∧ W = w' := by
  obtain ⟨n, hn⟩ : ∃ n, xs.length = n := ⟨_, rfl⟩
  obtain ⟨A, c, rfl, hA⟩ := hv
  rw [hn] at hl ⊢
  have HN := Lib.hid hn
  have HA := Lib.hid hA
  clear hn hA
  go_enter Tryd.func25, Tryd.ntmps25
  go_wp2
  go_loop [8, 11] (fun _ i => ∃ j : Nat, j ≤ n ∧ i = .int .i64 j ∧ (xs.take j).all lifeB = true) (fun _ i => n - (intOf i).toNat)
  case atStart => exact ⟨0, Nat.zero_le _, rfl, by simp⟩
  case round =>
    obtain ⟨j, hj, rfl, hf⟩ := hrel
    have HF := Lib.hid hf
    clear hf
    by_cases hlt : j < n
    · obtain ⟨g, o, rfl, hc⟩ := HA.out j (by rw [HN.out]; exact hlt)
      have hl' : j < xs.length := by rw [HN.out]; exact hlt
      obtain ⟨y, hy⟩ : ∃ y, xs.getD j 0 = y := ⟨_, rfl⟩
      have hx : xs[j] = y := by rw [← hy]; simp [hl']
      rw [hy] at hc
      have HT : Hid ((xs.take (j + 1)).all lifeB = ((xs.take j).all lifeB && lifeB y)) := Lib.hid (by rw [List.take_succ_eq_append_getElem hl', List.all_append, hx]; simp)
      have HM : Hid (y ∈ xs) := Lib.hid (by rw [← hx]; exact List.getElem_mem _)
      have h2 : (0 : Int) ≤ j := Int.natCast_nonneg _
      have h3 : (j : Int) < n := by omega
      clear hy hx hl'
      by_cases e : 1 ≤ y ∧ y ≤ 9
      · obtain ⟨e1, e2⟩ := e
        have HY : Hid (lifeB y = true) := Lib.hid (decide_eq_true ⟨e1, e2⟩)
        go_wp2_with (first | ((with_reducible refine (l1In_yes _ _ _ _ e1 e2).mono ?_); rintro e w' ⟨rfl, rfl⟩))
        go_round
        case rel => exact ⟨j + 1, by omega, by go_num, by rw [HT.out, HF.out, HY.out]; rfl⟩
        case measure => simp [intOf]; omega
      · have e' : y < 1 ∨ 9 < y := by omega
        have HY : Hid (xs.all lifeB = false) := Lib.hid (by
          rw [List.all_eq_false]
          exact ⟨y, HM.out, by simp [lifeB]; omega⟩)
        go_wp2_with (first | ((with_reducible refine (l1In_no _ _ _ _ e').mono ?_); rintro e w' ⟨rfl, rfl⟩))
        go_ret
        exact ⟨ret_bool HY.out.symm, rfl⟩
    · have e : j = n := by omega
      subst e
      have HY : Hid (xs.all lifeB = true) := Lib.hid (by have := HF.out; rwa [List.take_of_length_le (by rw [HN.out]; exact Nat.le_refl _)] at this)
      go_wp2
      go_ret
      exact ⟨ret_bool HY.out.symm, rfl⟩

theorem l1All_las (v : Value) (xs : List Int) (b : Bool) (W : World) (hv : Rd W v xs) (hl : xs.length ≤ 2000000) (hb : xs.all lifeB = b) :
    Calls Tryd.prog 25 #[v, .int .i64 1, .int .i64 9] W fun e w' => e = .returned (.bool b) ∧ W = w' := by
  subst hb
  exact l1All_lives v xs W hv hl

end Go.Proofs.YtpajmgonceepoabDoor
