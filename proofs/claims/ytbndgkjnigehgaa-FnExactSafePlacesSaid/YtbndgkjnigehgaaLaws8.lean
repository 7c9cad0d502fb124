/- The laws of chapter 8 return true at all arguments, given what the program returns for copies of the songs; the model's part is proved. -/
import Derived.Test.YtbndgkjnigehgaaSoM
import Derived.Test.YtbndgkjnigehgaaLwSo
namespace Go.Proofs.Ytbndgkjnigehgaa
open Go.ChangeShapes Go.WideShapes Go.ChangeAt Go.RowKit
theorem lawSafePlaces (A : Option Addr) (n c : Nat) (xs : List Int) (p : Int) (k : Int) (W : World) (hu : Rd W (.slice A n c) xs) (hn : xs.length = n) (hm : n ≤ maxLen)
    (hI : ∀ (g B : Nat) (W : World), n ≤ 1048576 → SlAt W B g n n xs → Calls Try.prog 7 #[.agg #[.slice (some ⟨g, 0, none⟩) n n], .int .i64 p, .int .i64 k] W (ListB W (vSafe xs p k).1 (vSafe xs p k).2)) :
    Calls Try.prog 3 #[.agg #[.slice A n c], .int .i64 p, .int .i64 k] W fun e w' => e = .returned (.bool true) ∧ Kp Nw W w' := by
  by_cases hl : n ≤ 1048576
  · exact lawSafePlaces_of A n c xs p k _ _ W hu hn hl (vSafe_len xs p k) (Lib.hid fun g B W hs => sSafePlaces_any g n B xs p k W hs hl) (Lib.hid fun g B W hs => hI g B W hl hs)
  · exact lawSafePlaces_bigA A n c p k W hm (by omega)

end Go.Proofs.Ytbndgkjnigehgaa
