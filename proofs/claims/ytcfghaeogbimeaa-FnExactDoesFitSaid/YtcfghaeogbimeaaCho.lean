/- Rows of choices (two numbers each) in memory, and what a choice's methods return; no condition but that the rows have at most a million. -/
import Derived.Test.YtcfghaeogbimeaaDel
import Derived.Test.YtcfghaeogbimeaaLetGo
import Derived.Test.YtcfghaeogbimeaaDeckT
import Derived.Laws.StructEq
namespace Go.Proofs.Ytcfghaeogbimeaa
open Go.ChangeShapes Go.WideShapes Go.ChangeAt Go.RowKit
/-- who goes in a round -/
def peo (r : Int × Int) : List Int := if r.1 = r.2 then [r.1] else [r.1, r.2]
/-- does one go in a round -/
def hasC (x : Int) (r : Int × Int) : Bool := decide (r.1 = x) || decide (r.2 = x)
/-- the place of the first round in which one goes -/
def FirstC (x : Int) (rs : List (Int × Int)) (i : Nat) : Prop := i < rs.length ∧ hasC x (rs.getD i (0, 0)) = true ∧ ∀ j, j < i → hasC x (rs.getD j (0, 0)) = false
/-- where a choice stands first, or -1 -/
def fndC (x : Int × Int) : List (Int × Int) → Nat → Int
  | [], _ => -1
  | y :: r, j => if y = x then (j : Int) else fndC x r (j + 1)
theorem fndC_drop (x : Int × Int) (xs : List (Int × Int)) (j : Nat) (h : j < xs.length) : fndC x (xs.drop j) j = if xs.getD j (0, 0) = x then (j : Int) else fndC x (xs.drop (j + 1)) (j + 1) := by
  rw [List.drop_eq_getElem_cons h, fndC]
  simp [h]
theorem fndC_mem (x : Int × Int) : ∀ (xs : List (Int × Int)) (j : Nat), (0 ≤ fndC x xs j ↔ x ∈ xs)
  | [], j => by simp [fndC]
  | y :: r, j => by
    unfold fndC
    by_cases e : y = x
    · rw [if_pos e]
      exact ⟨fun _ => by rw [e]; exact List.mem_cons_self, fun _ => Int.natCast_nonneg _⟩
    · rw [if_neg e, fndC_mem x r (j + 1)]
      have e2 : ¬ x = y := fun h => e h.symm
      rw [List.mem_cons]
      exact ⟨.inr, fun h => h.resolve_left e2⟩
end Go.Proofs.Ytcfghaeogbimeaa
