/- The law of FirstSolution at all arguments, given only what the program returns; no condition. -/
import Derived.Test.YtcfghaeogbimeabLwPzFirstSolution
import Derived.Test.YtcfghaeogbimeabPzF
namespace Go.Proofs.Ytcfghaeogbimeab
open Go.ChangeShapes Go.WideShapes Go.ChangeAt Go.RowKit

theorem lawFirstSolution9 (A : Option Addr) (n c : Nat) (ps : List Cu) (W : World) (hu : RdC W (.slice A n c) ps) (hn : ps.length = n) (hm : n ≤ maxLen)
    (hI : ∀ (g B : Nat) (W : World), n ≤ 1048576 → ClAt W B g n n ps → Calls Try.prog 18 #[.agg #[.slice (some ⟨g, 0, none⟩) n n]] W (Int2B W (vFirst ps).1 (vFirst ps).2.1 (vFirst ps).2.2)) :
    Calls Try.prog 5 #[.agg #[.slice A n c]] W fun e w' => e = .returned (.bool true) ∧ Kp Nw W w' := by
  by_cases hl : n ≤ 1048576
  · exact lawFirstSolution_of A n c ps _ _ _ W hu hn hl (Lib.hid fun g B W hs => sFirstSolution_any (some ⟨g, 0, none⟩) n n ps W hs.cl.rd hs.1 hm) (Lib.hid fun g B W hs => hI g B W hl hs)
  · exact lawFirstSolution_bigP A n c W hm (by omega)
end Go.Proofs.Ytcfghaeogbimeab
