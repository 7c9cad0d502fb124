/- Songs in the program: the counts come over a channel with room for all of them; who goes, who is left; no condition but that there are a song and people. -/
import Derived.Test.YtpajmgonceepoaaDoorChan
import Derived.Test.YtpajmgonceepoaaDoorSoM
namespace Go.Proofs.YtpajmgonceepoaaDoor
open Go.ChangeShapes Go.WideShapes Go.ChangeAt Go.RowKit Go.Conc

def soLP {α : Type} (xs : List Int) (l : List α) : Nat → List α
  | 0 => l
  | j + 1 => rest (cnt xs j) (soLP xs l j)
def soTP (xs : List Int) (l : List (Int × Int)) : Nat → List (Int × Int)
  | 0 => []
  | j + 1 => soTP xs l j ++ [whoP (cnt xs j) (soLP xs l j)]
theorem soL_map (xs : List Int) (l : List (Int × Int)) : ∀ j, soL xs (l.map (·.2)) j = (soLP xs l j).map (·.2)
  | 0 => rfl
  | j + 1 => by rw [soL, soLP, soL_map xs l j, rest_map]
theorem soT_map (xs : List Int) (l : List (Int × Int)) : ∀ j, soT xs (l.map (·.2)) j = (soTP xs l j).map (·.2)
  | 0 => rfl
  | j + 1 => by rw [soT, soTP, soT_map xs l j, soL_map, who_map, List.map_append]; rfl
theorem soTP_length (xs : List Int) (l : List (Int × Int)) : ∀ j, (soTP xs l j).length = j
  | 0 => rfl
  | j + 1 => by rw [soTP, List.length_append, soTP_length xs l j]; rfl
theorem soTP_getD (xs : List Int) (l : List (Int × Int)) : ∀ (t r : Nat), r < t → (soTP xs l t).getD r (0, 0) = whoP (cnt xs r) (soLP xs l r)
  | 0, r, h => by omega
  | t + 1, r, h => by
    rw [soTP]
    by_cases hr : r < t
    · rw [← soTP_getD xs l t r hr]
      simp [soTP_length, List.getElem?_append_left, hr]
    · have e : r = t := by omega
      subst e
      simp [soTP_length]
theorem soLP_length {α : Type} (xs : List Int) (l : List α) : ∀ j, j ≤ l.length → (soLP xs l j).length = l.length - j
  | 0, _ => rfl
  | j + 1, h => by
    have h1 := soLP_length xs l j (by omega)
    have := rest_length (cnt xs j) (soLP xs l j) (by omega)
    rw [soLP]
    omega

/-- the counts of the first turns -/
def cntL (xs : List Int) (t : Nat) : List Int := (List.range t).map (cnt xs)
theorem cntL_snoc (xs : List Int) (t : Nat) : cntL xs (t + 1) = cntL xs t ++ [cnt xs t] := by simp [cntL, List.range_succ]
theorem cntL_length (xs : List Int) (t : Nat) : (cntL xs t).length = t := by simp [cntL]
theorem cntL_drop (xs : List Int) (t r : Nat) (h : r < t) : (cntL xs t).drop r = cnt xs r :: (cntL xs t).drop (r + 1) := by
  rw [List.drop_eq_getElem_cons (by rw [cntL_length]; exact h)]
  simp [cntL]

theorem chanElem : (Tryd.prog.info? 3).map (fun i => i.bytes) = some 8 := by kernel_rfl
/-- what a call returns that makes the counts -/
def CntRes (W : World) (xs : List Int) (t : Nat) (e : Ending) (w' : World) : Prop := ∃ c, e = .returned (.chan (some c)) ∧ Chn w' c t (cntL xs t) ∧ Kp Nw W w' ∧ W.heap.size ≤ c

theorem opsW_from {P : Program} {l : List Oper} {Q : Exit → Act → World → Prop} {a : Act} {w : World} (k : Nat) (h : wpList P l.toArray Q (l.drop k) a w) : OpsW P l.toArray Q (List.range' k (l.length - k)) a w := by
  refine OpsW.of_wp ?_
  have e := wpOps_eq_wpList (P := P) (ops := l.toArray) (Q := Q) (l.drop k) k (fun j => by simp)
  rw [List.length_drop] at e
  rw [e]
  exact h

end Go.Proofs.YtpajmgonceepoaaDoor
