/- More of the model's functions of decks: deals that are repeated, the last card, cuts, turned decks and shuffles; no condition but what the chapter asks. -/
import Derived.Test.YtcfghaeogbimeaaDeckS
import Derived.Test.YtcfghaeogbimeaaRot
import Derived.Deep.RegionLaw
namespace Go.Proofs.Ytcfghaeogbimeaa
open Go.ChangeShapes Go.WideShapes Go.ChangeAt Go.RowKit

theorem Sl.lit1 (w : World) (x : Int) : Sl (w.alloc (.cells #[.int .i64 x] 3)) w.heap.size (.slice (some ⟨w.heap.size, 0, none⟩) 1 1) [x] :=
  ⟨by simp, .inr ⟨w.heap.size, 1, #[.int .i64 x], rfl, Nat.le_refl _, heap_alloc_new w _, Nat.le_refl _, by unfold maxLen; omega, by simp, by simp⟩⟩
theorem Sl.lit2 (w : World) (x y : Int) : Sl (w.alloc (.cells #[.int .i64 x, .int .i64 y] 3)) w.heap.size (.slice (some ⟨w.heap.size, 0, none⟩) 2 2) [x, y] :=
  ⟨by simp, .inr ⟨w.heap.size, 2, #[.int .i64 x, .int .i64 y], rfl, Nat.le_refl _, heap_alloc_new w _, Nat.le_refl _, by unfold maxLen; omega, by simp, by simp⟩⟩

/-- deals that are repeated -/
def deals (u : Int) : Nat → List Int → List Int
  | 0, l => l
  | t + 1, l => deals u t (deal l (List.replicate l.length u))
theorem deals_length (u : Int) : ∀ (t : Nat) (l : List Int), (deals u t l).length = l.length
  | 0, l => rfl
  | t + 1, l => by rw [deals, deals_length u t, deal_length, List.length_replicate]

theorem ciPeople_as (m : Nat) (W : World) (hm : m ≤ 1000) : Calls Try.prog 35 #[.int .i64 ((m : Int) + 1)] W (Makes W (marks 0 (m + 1))) := ciPeople_any (m + 1) W (by omega)
end Go.Proofs.Ytcfghaeogbimeaa
