/- Songs in the program: counting out by one, the order out, the last one; whether there is a song; no condition but that there are a song and people. -/
import Derived.Test.YtbndgkjnigehgabSing
namespace Go.Proofs.Ytbndgkjnigehgab
open Go.ChangeShapes Go.WideShapes Go.ChangeAt Go.RowKit Go.Conc

theorem sgB_of {xs : List Int} (h1 : 1 ≤ xs.length) (h2 : xs.length ≤ 20) (h : ∀ j, j < xs.length → 1 ≤ xs.getD j 0 ∧ xs.getD j 0 ≤ 1000000) : sgB xs = true := by
  unfold sgB
  rw [Bool.and_eq_true]
  refine ⟨decide_eq_true ⟨h1, h2⟩, List.all_eq_true.2 fun x hx => ?_⟩
  obtain ⟨i, hi, rfl⟩ := List.getElem_of_mem hx
  have := h i hi
  simp [List.getD, hi] at this
  simp [okR]
  exact this

/-- what counting out by a song returns -/
def SingRes (W : World) (xs : List Int) (p t : Nat) (e : Ending) (w' : World) : Prop :=
  ∃ C L G, e = .returned (.tuple #[.pointer (some ⟨C, 0, none⟩), .slice (some ⟨G, 0, none⟩) t t]) ∧ Ps w' G t (soTP xs (num (marks 0 p)) t) ∧ (∃ k, Fwd (soLP xs (num (marks 0 p)) t) C L p k w' 0) ∧ Kp Nw W w' ∧ W.heap.size ≤ C ∧ W.heap.size ≤ L ∧ W.heap.size ≤ G

end Go.Proofs.Ytbndgkjnigehgab
