/- The laws of chapter 8 return true at all arguments, given what the program returns for copies of the songs; the model's part is proved. -/
import Derived.Test.YtbndgkjnigehgabSoM
import Derived.Test.YtbndgkjnigehgabLwSo
namespace Go.Proofs.Ytbndgkjnigehgab
open Go.ChangeShapes Go.WideShapes Go.ChangeAt Go.RowKit
theorem lawSongForOrder (A : Option Addr) (n c : Nat) (xs : List Int) (W : World) (hu : Rd W (.slice A n c) xs) (hn : xs.length = n) (hm : n ≤ maxLen)
    (hI : ∀ (g B : Nat) (W : World), n ≤ 1048576 → SlAt W B g n n xs → Calls Try.prog 6 #[.slice (some ⟨g, 0, none⟩) n n] W (SongB W (vSongFor xs).1 (vSongFor xs).2)) :
    Calls Try.prog 3 #[.slice A n c] W fun e w' => e = .returned (.bool true) ∧ Kp Nw W w' := by
  by_cases hl : n ≤ 1048576
  · exact lawSongForOrder_of A n c xs _ _ W hu hn hl (vSongFor_len xs) (Lib.hid fun g B W hs => sSongForOrder_any g n B xs W hs hl) (Lib.hid fun g B W hs => hI g B W hl hs)
  · exact lawSongForOrder_bigO A n c W hm (by omega)

end Go.Proofs.Ytbndgkjnigehgab
