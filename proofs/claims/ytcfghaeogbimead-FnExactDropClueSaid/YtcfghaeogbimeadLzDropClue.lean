/- The law of DropClue at all arguments, given only what the program returns; no condition. -/
import Derived.Test.YtcfghaeogbimeadLwPzDropClue
import Derived.Test.YtcfghaeogbimeadPzG
namespace Go.Proofs.Ytcfghaeogbimead
open Go.ChangeShapes Go.WideShapes Go.ChangeAt Go.RowKit

theorem lawDropClue9 (A : Option Addr) (n c : Nat) (ps : List Cu) (k : Int) (W : World) (hu : RdC W (.slice A n c) ps) (hn : ps.length = n) (hm : n ≤ maxLen)
    (hI : ∀ (g B : Nat) (W : World), n ≤ 1048576 → ClAt W B g n n ps → Calls Try.prog 9 #[.agg #[.slice (some ⟨g, 0, none⟩) n n], .int .i64 k] W (PuzB W (vDrop ps k).1 (vDrop ps k).2)) :
    Calls Try.prog 3 #[.agg #[.slice A n c], .int .i64 k] W fun e w' => e = .returned (.bool true) ∧ Kp Nw W w' := by
  by_cases hl : n ≤ 1048576
  · exact lawDropClue_of A n c ps k _ _ W hu hn hl (vDrop_len ps k) (Lib.hid fun g B W hs => sDropClue_any g n B ps k W hs hl) (Lib.hid fun g B W hs => hI g B W hl hs)
  · exact lawDropClue_bigP A n c k W hm (by omega)
end Go.Proofs.Ytcfghaeogbimead
