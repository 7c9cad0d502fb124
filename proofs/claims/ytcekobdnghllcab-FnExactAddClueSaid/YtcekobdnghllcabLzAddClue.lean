/- The law of AddClue at all arguments, given only what the program returns; no condition. -/
import Derived.Test.YtcekobdnghllcabLwPzAddClue
import Derived.Test.YtcekobdnghllcabPzAd
namespace Go.Proofs.Ytcekobdnghllcab
open Go.ChangeShapes Go.WideShapes Go.ChangeAt Go.RowKit

theorem lawAddClue9 (A : Option Addr) (n c : Nat) (ps : List Cu) (u : Cu) (W : World) (hu : RdC W (.slice A n c) ps) (hn : ps.length = n) (hm : n ≤ maxLen)
    (hI : ∀ (g B : Nat) (W : World), n ≤ 1048576 → ClAt W B g n n ps → Calls Try.prog 8 #[.agg #[.slice (some ⟨g, 0, none⟩) n n], .agg #[.int .i64 u.1, .int .i64 u.2.1, .int .i64 u.2.2]] W (PuzB W (vAdd ps u).1 (vAdd ps u).2)) :
    Calls Try.prog 3 #[.agg #[.slice A n c], .agg #[.int .i64 u.1, .int .i64 u.2.1, .int .i64 u.2.2]] W fun e w' => e = .returned (.bool true) ∧ Kp Nw W w' := by
  by_cases hl : n ≤ 1048576
  · exact lawAddClue_of A n c ps u.1 u.2.1 u.2.2 _ _ W hu hn hl (vAdd_len ps u) (Lib.hid fun g B W hs => sAddClue_any g n B ps u W hs hl) (Lib.hid fun g B W hs => hI g B W hl hs)
  · exact lawAddClue_bigP A n c u.1 u.2.1 u.2.2 W hm (by omega)
end Go.Proofs.Ytcekobdnghllcab
