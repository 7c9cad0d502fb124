/- The laws of chapter 8 return true at all arguments, given what the program returns for copies of the songs; the model's part is proved. -/
import Derived.Test.YtalikikafcicpaaSoM
import Derived.Test.YtalikikafcicpaaLwSo
namespace Go.Proofs.Ytalikikafcicpaa
open Go.ChangeShapes Go.WideShapes Go.ChangeAt Go.RowKit

theorem lawIsSong (A : Option Addr) (n c : Nat) (xs : List Int) (W : World) (hu : Rd W (.slice A n c) xs) (hn : xs.length = n) (hm : n ≤ maxLen)
    (hI : ∀ (g B : Nat) (W : World), n ≤ 1048576 → SlAt W B g n n xs → Calls Try.prog 11 #[.agg #[.slice (some ⟨g, 0, none⟩) n n]] W (BoolB W (sgB xs))) :
    Calls Try.prog 3 #[.agg #[.slice A n c]] W fun e w' => e = .returned (.bool true) ∧ Kp Nw W w' := by
  by_cases hl : n ≤ 1048576
  · exact lawIsSong_of A n c xs _ W hu hn hl (Lib.hid fun g B W hs => sIsSong_any _ n n xs W hs.sl.rd hs.1 (by omega)) (Lib.hid fun g B W hs => hI g B W hl hs)
  · exact lawIsSong_bigA A n c W hm (by omega)

theorem lawLeastSong (A : Option Addr) (n c : Nat) (xs : List Int) (W : World) (hu : Rd W (.slice A n c) xs) (hn : xs.length = n) (hm : n ≤ maxLen)
    (hI : ∀ (g B : Nat) (W : World), n ≤ 1048576 → SlAt W B g n n xs → Calls Try.prog 20 #[.agg #[.slice (some ⟨g, 0, none⟩) n n]] W (SongB W (vLeast xs).1 (vLeast xs).2)) :
    Calls Try.prog 6 #[.agg #[.slice A n c]] W fun e w' => e = .returned (.bool true) ∧ Kp Nw W w' := by
  by_cases hl : n ≤ 1048576
  · exact lawLeastSong_of A n c xs _ _ W hu hn hl (vLeast_len xs) (Lib.hid fun g B W hs => sLeastSong_any g n B xs W hs hl) (Lib.hid fun g B W hs => hI g B W hl hs)
  · exact lawLeastSong_bigA A n c W hm (by omega)

theorem lawTurnSong (A : Option Addr) (n c : Nat) (xs : List Int) (k : Int) (W : World) (hu : Rd W (.slice A n c) xs) (hn : xs.length = n) (hm : n ≤ maxLen)
    (hI : ∀ (g B : Nat) (W : World), n ≤ 1048576 → SlAt W B g n n xs → Calls Try.prog 18 #[.agg #[.slice (some ⟨g, 0, none⟩) n n], .int .i64 k] W (SongB W (vTurnSong xs k).1 (vTurnSong xs k).2)) :
    Calls Try.prog 5 #[.agg #[.slice A n c], .int .i64 k] W fun e w' => e = .returned (.bool true) ∧ Kp Nw W w' := by
  by_cases hl : n ≤ 1048576
  · exact lawTurnSong_of A n c xs k _ _ W hu hn hl (vTurnSong_len xs k) (Lib.hid fun g B W hs => sTurnSong_any g n B xs k W hs hl) (Lib.hid fun g B W hs => hI g B W hl hs)
  · exact lawTurnSong_bigA A n c k W hm (by omega)

theorem lawSongPeriod (A : Option Addr) (n c : Nat) (xs : List Int) (W : World) (hu : Rd W (.slice A n c) xs) (hn : xs.length = n) (hm : n ≤ maxLen)
    (hI : ∀ (g B : Nat) (W : World), n ≤ 1048576 → SlAt W B g n n xs → Calls Try.prog 22 #[.agg #[.slice (some ⟨g, 0, none⟩) n n]] W (IntB W (vPeriodS xs).1 (vPeriodS xs).2)) :
    Calls Try.prog 7 #[.agg #[.slice A n c]] W fun e w' => e = .returned (.bool true) ∧ Kp Nw W w' := by
  by_cases hl : n ≤ 1048576
  · exact lawSongPeriod_of A n c xs _ _ W hu hn hl (Lib.hid fun g B W hs => sSongPeriod_any g n B xs W hs hl) (Lib.hid fun g B W hs => hI g B W hl hs)
  · exact lawSongPeriod_bigA A n c W hm (by omega)

end Go.Proofs.Ytalikikafcicpaa
