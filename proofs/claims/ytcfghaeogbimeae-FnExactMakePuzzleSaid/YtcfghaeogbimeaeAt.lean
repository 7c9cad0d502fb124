/- Who goes at a turn (OutAt), at which turn one goes (TurnOut) and who is left behind turns (LeftAfter), in the program and in its model: both return the same; for all integers. -/
import Derived.Test.YtcfghaeogbimeaeOrder
import Derived.Test.YtcfghaeogbimeaeFrom
namespace Go.Proofs.Ytcfghaeogbimeae
open Go.ChangeShapes Go.WideShapes Go.ChangeAt Go.RowKit

theorem outs_length (k : Int) : ∀ (t : Nat) (l : List Int), (outs k t l).length = t
  | 0, _ => rfl
  | t + 1, l => by rw [outs, List.length_cons, outs_length k t]

/-- where a number stands first, or -1 -/
def fndD (x : Int) : List Int → Nat → Int
  | [], _ => -1
  | y :: r, j => if y = x then (j : Int) else fndD x r (j + 1)
theorem fndD_drop (x : Int) (xs : List Int) (j : Nat) (h : j < xs.length) : fndD x (xs.drop j) j = if xs.getD j 0 = x then (j : Int) else fndD x (xs.drop (j + 1)) (j + 1) := by
  rw [List.drop_eq_getElem_cons h, fndD]
  simp [h]

set_option maxHeartbeats 400000 in
theorem ciFind_any (v : Value) (xs : List Int) (x : Int) (W : World) (hv : Rd W v xs) (hl : xs.length ≤ 1000000) :
    Calls Try.prog 52 #[v, .int .i64 x] W fun e w' => e = .returned (.int .i64 (fndD x xs 0)) ∧ W = w' := by
  obtain ⟨n, hn⟩ : ∃ n, xs.length = n := ⟨_, rfl⟩
  obtain ⟨A, c, rfl, hA⟩ := hv
  rw [hn] at hl ⊢
  have HN := Lib.hid hn
  have HA := Lib.hid hA
  clear hn hA
  go_enter Try.func52, Try.ntmps52
  go_wp2
  go_loop [5, 6, 9] (fun _ _ i => ∃ j : Nat, j ≤ n ∧ i = .int .i64 j ∧ fndD x (xs.drop j) j = fndD x xs 0) (fun _ _ i => n - (intOf i).toNat)
  case atStart => exact ⟨0, Nat.zero_le _, rfl, rfl⟩
  case round =>
    obtain ⟨j, hj, rfl, hf⟩ := hrel
    by_cases hlt : j < n
    · obtain ⟨g, o, rfl, hc⟩ := HA.out j (by rw [HN.out]; exact hlt)
      have hd := fndD_drop x xs j (by rw [HN.out]; exact hlt)
      obtain ⟨y, hy⟩ : ∃ y, xs.getD j 0 = y := ⟨_, rfl⟩
      rw [hy] at hc hd
      have h2 : (0 : Int) ≤ j := Int.natCast_nonneg _
      have h3 : (j : Int) < n := by omega
      by_cases e : y = x
      · rw [if_pos e] at hd
        have HD := Lib.hid (hd.symm.trans hf)
        subst e
        clear hd hf hy
        go_wp2
        go_ret
        exact ⟨ret_int HD.out, rfl⟩
      · rw [if_neg e] at hd
        have HD := Lib.hid (hd.symm.trans hf)
        have e' : ¬ x = y := fun h => e h.symm
        clear hd hf hy
        go_wp2
        go_round
        case rel => exact ⟨j + 1, by omega, by go_num, HD.out⟩
        case measure => simp [intOf]; omega
    · have HF := Lib.hid hf
      have hdn := HN.out
      rw [List.drop_eq_nil_of_le (by omega), fndD] at hf
      have HF := Lib.hid hf
      clear hf hdn
      go_wp2
      go_ret
      exact ⟨ret_int HF.out, rfl⟩

set_option maxHeartbeats 400000 in
theorem index_any (v : Value) (xs : List Int) (x : Int) (W : World) (hv : Rd W v xs) (hl : xs.length ≤ 1000000) :
    Calls Try.prog 25 #[v, .int .i64 x] W fun e w' => e = .returned (.int .i64 (fndD x xs 0)) ∧ W = w' := by
  obtain ⟨n, hn⟩ : ∃ n, xs.length = n := ⟨_, rfl⟩
  obtain ⟨A, c, rfl, hA⟩ := hv
  rw [hn] at hl ⊢
  have HN := Lib.hid hn
  have HA := Lib.hid hA
  clear hn hA
  go_enter Try.func25, Try.ntmps25
  go_wp2
  go_loop [5, 8] (fun _ i => ∃ j : Nat, j ≤ n ∧ i = .int .i64 j ∧ fndD x (xs.drop j) j = fndD x xs 0) (fun _ i => n - (intOf i).toNat)
  case atStart => exact ⟨0, Nat.zero_le _, rfl, rfl⟩
  case round =>
    obtain ⟨j, hj, rfl, hf⟩ := hrel
    by_cases hlt : j < n
    · obtain ⟨g, o, rfl, hc⟩ := HA.out j (by rw [HN.out]; exact hlt)
      have hd := fndD_drop x xs j (by rw [HN.out]; exact hlt)
      obtain ⟨y, hy⟩ : ∃ y, xs.getD j 0 = y := ⟨_, rfl⟩
      rw [hy] at hc hd
      have h2 : (0 : Int) ≤ j := Int.natCast_nonneg _
      have h3 : (j : Int) < n := by omega
      by_cases e : y = x
      · rw [if_pos e] at hd
        have HD := Lib.hid (hd.symm.trans hf)
        subst e
        clear hd hf hy
        go_wp2
        go_ret
        exact ⟨ret_int HD.out, rfl⟩
      · rw [if_neg e] at hd
        have HD := Lib.hid (hd.symm.trans hf)
        have e' : ¬ x = y := fun h => e h.symm
        clear hd hf hy
        go_wp2
        go_round
        case rel => exact ⟨j + 1, by omega, by go_num, HD.out⟩
        case measure => simp [intOf]; omega
    · have HF := Lib.hid hf
      have hdn := HN.out
      rw [List.drop_eq_nil_of_le (by omega), fndD] at hf
      have HF := Lib.hid hf
      clear hf hdn
      go_wp2
      go_ret
      exact ⟨ret_int HF.out, rfl⟩

/-- what a call returns that tells a number, or fails -/
def IntRes (W : World) (x : Int) (e : Ending) (w' : World) : Prop := e = .returned (.tuple #[.int .i64 x, .bool true]) ∧ Kp Nw W w'
def IntFail (W : World) (e : Ending) (w' : World) : Prop := e = .returned (.tuple #[.int .i64 0, .bool false]) ∧ Kp Nw W w'

theorem ordP_getD (k : Int) (n t : Nat) (ht : t < n) : ((ordP k (marks 0 n)).getD t (0, 0)).2 = (outs k n (marks 0 n)).getD t 0 := by
  have h := ordP_snd k (marks 0 n)
  rw [marks_length] at h
  have hl : t < (ordP k (marks 0 n)).length := by rw [ordP_length, marks_length]; exact ht
  rw [← h]
  simp [hl]

end Go.Proofs.Ytcfghaeogbimeae
