/- The law of Solutions at all arguments, given only what the program returns; no condition. -/
import Derived.Test.YtcfghaeogbimeabLwPzSolutions
import Derived.Test.YtcfghaeogbimeabPzF
namespace Go.Proofs.Ytcfghaeogbimeab
open Go.ChangeShapes Go.WideShapes Go.ChangeAt Go.RowKit

theorem lawSolutions9 (A : Option Addr) (n c : Nat) (ps : List Cu) (W : World) (hu : RdC W (.slice A n c) ps) (hn : ps.length = n) (hm : n ≤ maxLen)
    (hI : ∀ (g B : Nat) (W : World), n ≤ 1048576 → ClAt W B g n n ps → Calls Try.prog 9 #[.agg #[.slice (some ⟨g, 0, none⟩) n n]] W (ListSB W (vSolutions ps).1 (vSolutions ps).2)) :
    Calls Try.prog 3 #[.agg #[.slice A n c]] W fun e w' => e = .returned (.bool true) ∧ Kp Nw W w' := by
  by_cases hl : n ≤ 1048576
  · exact lawSolutions_of A n c ps _ _ W hu hn hl (Nat.le_trans (vSol_len ps) (by omega)) (fun xs h => by have := vSol_two ps xs h; omega) (Lib.hid fun g B W hs => sSolutions_any (some ⟨g, 0, none⟩) n n ps W hs.cl.rd hs.1 hm) (Lib.hid fun g B W hs => hI g B W hl hs)
  · exact lawSolutions_bigP A n c W hm (by omega)
end Go.Proofs.Ytcfghaeogbimeab
