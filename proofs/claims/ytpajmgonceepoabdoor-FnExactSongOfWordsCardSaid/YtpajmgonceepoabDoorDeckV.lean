/- The model's BackDeck, MilkDeck and MongeDeck, told by plain lists; no condition but what the chapter asks. -/
import Derived.Test.YtpajmgonceepoabDoorDeckU
namespace Go.Proofs.YtpajmgonceepoabDoor
open Go.ChangeShapes Go.WideShapes Go.ChangeAt Go.RowKit
end Go.Proofs.YtpajmgonceepoabDoor
