/- The texts Sing, SingI, as one. -/
import Derived.Test.YtpajmgonceepoabDoorChan
import Derived.Test.YtpajmgonceepoabDoorSoM
namespace Go.Proofs.YtpajmgonceepoabDoor
open Go.ChangeShapes Go.WideShapes Go.ChangeAt Go.RowKit Go.Conc

def soLP {α : Type} (xs : List Int) (l : List α) : Nat → List α
  | 0 => l
  | j + 1 => rest (cnt xs j) (soLP xs l j)
def soTP (xs : List Int) (l : List (Int × Int)) : Nat → List (Int × Int)
  | 0 => []
  | j + 1 => soTP xs l j ++ [whoP (cnt xs j) (soLP xs l j)]
theorem soL_map (xs : List Int) (l : List (Int × Int)) : ∀ j, soL xs (l.map (·.2)) j = (soLP xs l j).map (·.2)
  | 0 => rfl
  | j + 1 => by rw [soL, soLP, soL_map xs l j, rest_map]
theorem soT_map (xs : List Int) (l : List (Int × Int)) : ∀ j, soT xs (l.map (·.2)) j = (soTP xs l j).map (·.2)
  | 0 => rfl
  | j + 1 => by rw [soT, soTP, soT_map xs l j, soL_map, who_map, List.map_append]; rfl
theorem soTP_length (xs : List Int) (l : List (Int × Int)) : ∀ j, (soTP xs l j).length = j
  | 0 => rfl
  | j + 1 => by rw [soTP, List.length_append, soTP_length xs l j]; rfl
theorem soTP_getD (xs : List Int) (l : List (Int × Int)) : ∀ (t r : Nat), r < t → (soTP xs l t).getD r (0, 0) = whoP (cnt xs r) (soLP xs l r)
  | 0, r, h => by omega
  | t + 1, r, h => by
    rw [soTP]
    by_cases hr : r < t
    · rw [← soTP_getD xs l t r hr]
      simp [soTP_length, List.getElem?_append_left, hr]
    · have e : r = t := by omega
      subst e
      simp [soTP_length]
theorem soLP_length {α : Type} (xs : List Int) (l : List α) : ∀ j, j ≤ l.length → (soLP xs l j).length = l.length - j
  | 0, _ => rfl
  | j + 1, h => by
    have h1 := soLP_length xs l j (by omega)
    have := rest_length (cnt xs j) (soLP xs l j) (by omega)
    rw [soLP]
    omega

/-- the counts of the first turns -/
def cntL (xs : List Int) (t : Nat) : List Int := (List.range t).map (cnt xs)
theorem cntL_snoc (xs : List Int) (t : Nat) : cntL xs (t + 1) = cntL xs t ++ [cnt xs t] := by simp [cntL, List.range_succ]
theorem cntL_length (xs : List Int) (t : Nat) : (cntL xs t).length = t := by simp [cntL]
theorem cntL_drop (xs : List Int) (t r : Nat) (h : r < t) : (cntL xs t).drop r = cnt xs r :: (cntL xs t).drop (r + 1) := by
  rw [List.drop_eq_getElem_cons (by rw [cntL_length]; exact h)]
  simp [cntL]

theorem chanElem : (Tryd.prog.info? 3).map (fun i => i.bytes) = some 8 := by kernel_rfl
/-- what a call returns that makes the counts -/
def CntRes (W : World) (xs : List Int) (t : Nat) (e : Ending) (w' : World) : Prop := ∃ c, e = .returned (.chan (some c)) ∧ Chn w' c t (cntL xs t) ∧ Kp Nw W w' ∧ W.heap.size ≤ c

theorem opsW_from {P : Program} {l : List Oper} {Q : Exit → Act → World → Prop} {a : Act} {w : World} (k : Nat) (h : wpList P l.toArray Q (l.drop k) a w) : OpsW P l.toArray Q (List.range' k (l.length - k)) a w := by
  refine OpsW.of_wp ?_
  have e := wpOps_eq_wpList (P := P) (ops := l.toArray) (Q := Q) (l.drop k) k (fun j => by simp)
  rw [List.length_drop] at e
  rw [e]
  exact h

end Go.Proofs.YtpajmgonceepoabDoor
namespace Go.Proofs.YtpajmgonceepoabDoor
open Go.ChangeShapes Go.WideShapes Go.ChangeAt Go.RowKit Go.Conc

theorem sgB_of {xs : List Int} (h1 : 1 ≤ xs.length) (h2 : xs.length ≤ 20) (h : ∀ j, j < xs.length → 1 ≤ xs.getD j 0 ∧ xs.getD j 0 ≤ 1000000) : sgB xs = true := by
  unfold sgB
  rw [Bool.and_eq_true]
  refine ⟨decide_eq_true ⟨h1, h2⟩, List.all_eq_true.2 fun x hx => ?_⟩
  obtain ⟨i, hi, rfl⟩ := List.getElem_of_mem hx
  have := h i hi
  simp [List.getD, hi] at this
  simp [okR]
  exact this

set_option maxHeartbeats 1600000 in
theorem iIsSong_is (A : Option Addr) (n c : Nat) (xs : List Int) (W : World) (hu : Rd W (.slice A n c) xs) (hn : xs.length = n) (hl : n ≤ 2000000) :
    Calls Tryd.prog 26 #[.agg #[.slice A n c]] W (BoolB W (sgB xs)) := by
  by_cases hlen : (n : Int) < 1 ∨ 20 < (n : Int)
  · have HF : Hid (sgB xs = false) := Lib.hid (by unfold sgB; rw [decide_eq_false (by omega)]; rfl)
    go_enter Tryd.func26, Tryd.ntmps26
    go_wp2_with (first | ((with_reducible refine (within_no (n : Int) _ _ _ hlen).mono ?_); rintro e w' ⟨rfl, rfl⟩))
    go_ret
    exact ⟨ret_bool HF.out.symm, Kp.al _ _⟩
  · have n1 : 1 ≤ (n : Int) := by omega
    have n2 : (n : Int) ≤ 20 := by omega
    clear hlen
    have HN := Lib.hid hn
    obtain ⟨A', c', e', hA⟩ := hu
    rw [hn] at e'
    injection e' with e1 e2 e3
    subst e1 e3
    obtain ⟨g, o, rfl, -⟩ := hA 0 (by omega)
    have HA : Hid (∀ i, i < n → W.cell? ⟨g, o + i, none⟩ = some (.int .i64 (xs.getD i 0))) := Lib.hid (fun i hi => by
      obtain ⟨g', o', e, hc⟩ := hA i (by omega)
      injection e with e
      injection e with e1 e2
      rw [e1, e2]; exact hc)
    clear hA hn
    go_enter Tryd.func26, Tryd.ntmps26
    go_wp2_with (first | ((with_reducible refine (within_yes (n : Int) _ _ _ n1 n2).mono ?_); rintro e w' ⟨rfl, rfl⟩))
    go_loopw [13] (fun i wr => ∃ j : Nat, j ≤ n ∧ i = .int .i64 j ∧ Hid (∀ q, q < j → 1 ≤ xs.getD q 0 ∧ xs.getD q 0 ≤ 1000000) ∧ wr = (W.alloc (.cells #[.slice (some ⟨g, o, none⟩) n c] 24))) (fun i _ => n - (intOf i).toNat)
    case atStart => exact ⟨0, Nat.zero_le _, rfl, Lib.hid (fun q hq => absurd hq (by omega)), by first | trivial | rfl⟩
    case round =>
      rename_i wr
      obtain ⟨j, hj, rfl, HALL, hwr⟩ := hrel
      subst hwr
      by_cases hp : j < n
      · obtain ⟨x, hx⟩ : ∃ x, xs.getD j 0 = x := ⟨_, rfl⟩
        have hc := keepc (.al W (.cells #[.slice (some ⟨g, o, none⟩) n c] 24)) (HA.out j hp) (fun h => h)
        rw [hx] at hc
        have HX := Lib.hid hx
        have j0 : (0 : Int) ≤ j := Int.natCast_nonneg _
        have j1 : (j : Int) < n := by omega
        clear hx
        by_cases hok : 1 ≤ x ∧ x ≤ 1000000
        · obtain ⟨x1, x2⟩ := hok
          go_wp2_with (first | ((with_reducible refine (within_yes x _ _ _ x1 x2).mono ?_); rintro e w' ⟨rfl, rfl⟩))
          go_roundw
          case rel =>
            refine ⟨j + 1, by omega, by go_num, Lib.hid (fun q hq => ?_), by first | trivial | rfl⟩
            by_cases h : q < j
            · exact HALL.out q h
            · have e : q = j := by omega
              subst e
              rw [HX.out]
              exact ⟨x1, x2⟩
          case measure => simp [intOf]; omega
        · have HF : Hid (sgB xs = false) := Lib.hid (by
            cases h : sgB xs with
            | false => rfl
            | true =>
              have := sgB_get h j (by rw [HN.out]; exact hp)
              rw [HX.out] at this
              exact absurd this hok)
          have hno : x < 1 ∨ 1000000 < x := by omega
          clear hok
          go_wp2_with (first | ((with_reducible refine (within_no x _ _ _ hno).mono ?_); rintro e w' ⟨rfl, rfl⟩))
          go_ret
          exact ⟨ret_bool HF.out.symm, Kp.al _ _⟩
      · have e : j = n := by omega
        subst e
        have HT : Hid (sgB xs = true) := Lib.hid (sgB_of (by have := HN.out; omega) (by have := HN.out; omega) (fun q hq => HALL.out q (by rw [HN.out] at hq; exact hq)))
        go_wp2
        go_ret
        exact ⟨ret_bool HT.out.symm, Kp.al _ _⟩

end Go.Proofs.YtpajmgonceepoabDoor
