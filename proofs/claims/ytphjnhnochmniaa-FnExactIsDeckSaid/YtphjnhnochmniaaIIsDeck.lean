/- What IsDeck gives in the program, told by plain lists: as the model; no condition but on lengths. -/
import Derived.Test.YtphjnhnochmniaaPileC
namespace Go.Proofs.Ytphjnhnochmniaa
open Go.ChangeShapes Go.WideShapes Go.ChangeAt Go.RowKit

theorem iIsDeck_all (g n B : Nat) (xs : List Int) (W : World) (hs : SlAt W B g n n xs) (hl : n ≤ 1048576) :
    Calls Try.prog 48 #[.slice (some ⟨g, 0, none⟩) n n] W (BoolB W (deckB xs)) := isDeck_any _ n n xs W hs.sl.rd hs.1 (by omega)
end Go.Proofs.Ytphjnhnochmniaa
