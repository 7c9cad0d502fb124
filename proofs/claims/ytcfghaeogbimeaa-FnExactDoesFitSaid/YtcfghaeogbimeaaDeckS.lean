/- The model's functions of decks: what each returns, told by plain lists; no condition but what the chapter asks. -/
import Derived.Test.YtcfghaeogbimeaaDeckF
import Derived.Test.YtcfghaeogbimeaaLaws
namespace Go.Proofs.Ytcfghaeogbimeaa
open Go.ChangeShapes Go.WideShapes Go.ChangeAt Go.RowKit

theorem okR_rep (u : Int) (n : Nat) (u0 : 0 ≤ u) (u1 : u ≤ 1000) : (List.replicate n u).all (okR 0 1000) = true := by
  rw [List.all_eq_true]
  intro y hy
  rw [List.eq_of_mem_replicate hy]
  exact decide_eq_true ⟨u0, u1⟩

end Go.Proofs.Ytcfghaeogbimeaa
