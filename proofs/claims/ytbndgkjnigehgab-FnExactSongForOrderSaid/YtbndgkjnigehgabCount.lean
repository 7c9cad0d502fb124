/- The program's countOut: it notes who goes at each turn, whatever one turn is; no condition but that there are at most a million turns. -/
import Derived.Test.YtbndgkjnigehgabMakeC
import Derived.Test.YtbndgkjnigehgabGo
namespace Go.Proofs.Ytbndgkjnigehgab
open Go.ChangeShapes Go.WideShapes Go.ChangeAt Go.RowKit

def CountRes (W : World) (turns : Nat) (os : List (Int × Int)) (St : World → Nat → Prop) (S : Nat → Prop) (e : Ending) (w' : World) : Prop :=
  ∃ G, e = .returned (.slice (some ⟨G, 0, none⟩) turns turns) ∧ Ps w' G turns os ∧ St w' turns ∧ Kp S W w' ∧ W.heap.size ≤ G

end Go.Proofs.Ytbndgkjnigehgab
