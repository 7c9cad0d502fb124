/- The laws of chapter 8 return true at all arguments, given what the program returns for copies of the songs; the model's part is proved. -/
import Derived.Test.YtalikikafcicpacSoM
import Derived.Test.YtalikikafcicpacLwSo
namespace Go.Proofs.Ytalikikafcicpac
open Go.ChangeShapes Go.WideShapes Go.ChangeAt Go.RowKit
theorem lawBestTurn (A : Option Addr) (n c : Nat) (xs : List Int) (p : Int) (q : Int) (W : World) (hu : Rd W (.slice A n c) xs) (hn : xs.length = n) (hm : n ≤ maxLen)
    (hI : ∀ (g B : Nat) (W : World), n ≤ 1048576 → SlAt W B g n n xs → Calls Try.prog 15 #[.agg #[.slice (some ⟨g, 0, none⟩) n n], .int .i64 p, .int .i64 q] W (IntB W (vBest xs p q).1 (vBest xs p q).2)) :
    Calls Try.prog 4 #[.agg #[.slice A n c], .int .i64 p, .int .i64 q] W fun e w' => e = .returned (.bool true) ∧ Kp Nw W w' := by
  by_cases hl : n ≤ 1048576
  · exact lawBestTurn_of A n c xs p q _ _ W hu hn hl (Lib.hid fun g B W hs => sBestTurn_any g n B xs p q W hs hl) (Lib.hid fun g B W hs => hI g B W hl hs)
  · exact lawBestTurn_bigA A n c p q W hm (by omega)

theorem lawLastBySongs (A : Option Addr) (n c : Nat) (xs : List Int) (p : Int) (W : World) (hu : Rd W (.slice A n c) xs) (hn : xs.length = n) (hm : n ≤ maxLen)
    (hI : ∀ (g B : Nat) (W : World), n ≤ 1048576 → SlAt W B g n n xs → Calls Try.prog 8 #[.agg #[.slice (some ⟨g, 0, none⟩) n n], .int .i64 p] W (ListB W (vBySongs xs p).1 (vBySongs xs p).2)) :
    Calls Try.prog 3 #[.agg #[.slice A n c], .int .i64 p] W fun e w' => e = .returned (.bool true) ∧ Kp Nw W w' := by
  by_cases hl : n ≤ 1048576
  · exact lawLastBySongs_of A n c xs p _ _ W hu hn hl (vBySongs_len xs p) (Lib.hid fun g B W hs => sLastBySongs_any _ n n xs p W hs.sl.rd hs.1 (by omega)) (Lib.hid fun g B W hs => hI g B W hl hs)
  · exact lawLastBySongs_bigA A n c p W hm (by omega)

end Go.Proofs.Ytalikikafcicpac
