/- The law of PeopleOfSolutions at all arguments, given only what the program returns; no condition. -/
import Derived.Test.YtcfghaeogbimeacLwPzPeopleOfSolutions
import Derived.Test.YtcfghaeogbimeacPzE
namespace Go.Proofs.Ytcfghaeogbimeac
open Go.ChangeShapes Go.WideShapes Go.ChangeAt Go.RowKit

theorem lawPeopleOfSolutions9 (A : Option Addr) (n c : Nat) (ps : List Cu) (W : World) (hu : RdC W (.slice A n c) ps) (hn : ps.length = n) (hm : n ≤ maxLen)
    (hI : ∀ (g B : Nat) (W : World), n ≤ 1048576 → ClAt W B g n n ps → Calls Try.prog 9 #[.agg #[.slice (some ⟨g, 0, none⟩) n n]] W (ListB W (vPeopleOfSolutions ps).1 (vPeopleOfSolutions ps).2)) :
    Calls Try.prog 3 #[.agg #[.slice A n c]] W fun e w' => e = .returned (.bool true) ∧ Kp Nw W w' := by
  by_cases hl : n ≤ 1048576
  · exact lawPeopleOfSolutions_of A n c ps _ _ W hu hn hl (vPeople_len ps) (Lib.hid fun g B W hs => sPeopleOfSolutions_any (some ⟨g, 0, none⟩) n n ps W hs.cl.rd hs.1 hm) (Lib.hid fun g B W hs => hI g B W hl hs)
  · exact lawPeopleOfSolutions_bigP A n c W hm (by omega)
end Go.Proofs.Ytcfghaeogbimeac
