/- The last ones to be there, in the program and in the model: the end of the order of all, in rising order; no condition. -/
import Derived.Sort.OwnSortedInts
import Derived.Test.YtbndgkjnigehgabShelf
import Derived.Test.YtbndgkjnigehgabPut
import Derived.Test.YtbndgkjnigehgabOrder
import Derived.Test.YtbndgkjnigehgabOutN
import Derived.Test.YtbndgkjnigehgabLwLastOnes
namespace Go.Proofs.Ytbndgkjnigehgab
open Go.ChangeShapes Go.WideShapes Go.ChangeAt Go.RowKit

theorem srt_length (ys : List Int) : (srt ys).length = ys.length := List.length_mergeSort ys
theorem sort_any (v : Value) (ys : List Int) (B : Nat) (W : World) (hv : Sl W B v ys) (hp : 0 < ys.length) (hl : ys.length ≤ 1000) :
    Calls Try.prog 31 #[v] W fun e w' => e = .returned (.tuple #[]) ∧ Sl w' B v (srt ys) ∧ Kp (fun b => v.ownBlock = some b) W w' := by
  rcases hv.2 with ⟨_, h⟩ | ⟨g, cap, cur, rfl, hB, hb, h1, h2, h3, h4⟩
  · omega
  · refine (Try.slices_Sort_int g 0 cap ys W (holds_of_blockI hb (by rw [Nat.mul_one] at h4; exact h4)) (Array.getElem?_eq_some_iff.1 hb).1 (by omega)).mono ?_
    rintro e w' ⟨rfl, n, os, rfl⟩
    refine ⟨rfl, ?_, (Kp.refl _ W).grown (grownBy_sortedI _) (fun g' hg => .inl (by cases hg; rfl))⟩
    have := ownsRow_sortedI (n := n) (os := os) (ss := ys) (ts := srt ys) (srt_length ys) hB hb h1 h2 h3
    unfold Sl
    rw [srt_length]
    exact this

end Go.Proofs.Ytbndgkjnigehgab
