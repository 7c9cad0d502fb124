/- The law of HarderPuzzle at all arguments, given only what the program returns; no condition. -/
import Derived.Test.YtcfghaeogbimeaeLwPzHarderPuzzle
import Derived.Test.YtcfghaeogbimeaePzH
namespace Go.Proofs.Ytcfghaeogbimeae
open Go.ChangeShapes Go.WideShapes Go.ChangeAt Go.RowKit

theorem lawHarderPuzzle9 (A : Option Addr) (n c : Nat) (ps : List Cu) (W : World) (hu : RdC W (.slice A n c) ps) (hn : ps.length = n) (hm : n ≤ maxLen)
    (hI : ∀ (g B : Nat) (W : World), n ≤ 1048576 → ClAt W B g n n ps → Calls Try.prog 12 #[.agg #[.slice (some ⟨g, 0, none⟩) n n]] W (PuzB W (vHard ps).1 (vHard ps).2)) :
    Calls Try.prog 4 #[.agg #[.slice A n c]] W fun e w' => e = .returned (.bool true) ∧ Kp Nw W w' := by
  by_cases hl : n ≤ 1048576
  · exact lawHarderPuzzle_of A n c ps _ _ W hu hn hl (vHard_len ps) (Lib.hid fun g B W hs => sHarderPuzzle_any g n B ps W hs hl) (Lib.hid fun g B W hs => hI g B W hl hs)
  · exact lawHarderPuzzle_bigP A n c W hm (by omega)
end Go.Proofs.Ytcfghaeogbimeae
