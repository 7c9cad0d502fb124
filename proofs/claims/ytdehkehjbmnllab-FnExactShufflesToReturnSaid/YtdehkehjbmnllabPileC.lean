/- A pile that is stored into a new variable, and whether a deck can be dealt with counts (canDeal), in the program; no condition but on lengths. -/
import Derived.Test.YtdehkehjbmnllabIsDeck
import Derived.Test.YtdehkehjbmnllabLaws4
namespace Go.Proofs.Ytdehkehjbmnllab
open Go.ChangeShapes Go.WideShapes Go.ChangeAt Go.RowKit

theorem new_pile (w : World) (Z c : List Int) (L : List Int) (n : Nat) (hZ : Z.length = 104) (hc : Cds c L) (hn : L.length = n) :
    ∃ w', (storeCells ⟨w.heap.size, 0, none⟩ (plc c n) 0).run Try.prog (w.alloc (.cells (plc Z 0).toArray 38)) = .ok () w' ∧ Pile w' w.heap.size L ∧ Kp Nw w w' ∧ (plc c n).length = 105 := by
  have b := Pb.new w Z 0
  refine ⟨_, run_storeCells_pile (n' := n) b hZ hc.1, ⟨c, hc, ?_⟩, (Kp.al w _).setRow (.inr (Nat.le_refl _)) _, by rw [plc_length, hc.1]⟩
  rw [hn]
  exact setRow_heap _ _ _ _ _ _ b

end Go.Proofs.Ytdehkehjbmnllab
