/- The law of JoinSongs returns true at all arguments, given what the program returns for copies of the songs. -/
import Derived.Test.YtalikikafcicpaaSoJ
import Derived.Test.YtalikikafcicpaaLwSoJoinSongs
namespace Go.Proofs.Ytalikikafcicpaa
open Go.ChangeShapes Go.WideShapes Go.ChangeAt Go.RowKit
theorem lawJoinSongs (A : Option Addr) (n c : Nat) (xs : List Int) (B : Option Addr) (m d : Nat) (ys : List Int) (W : World) (hu : Rd W (.slice A n c) xs) (hn : xs.length = n) (hm : n ≤ maxLen) (hv : Rd W (.slice B m d) ys) (hn2 : ys.length = m) (hm2 : m ≤ maxLen)
    (hI : ∀ (g B1 h B2 : Nat) (W : World), n + m ≤ 1048576 → SlAt W B1 g n n xs → SlAt W B2 h m m ys → Calls Try.prog 14 #[.agg #[.slice (some ⟨g, 0, none⟩) n n], .agg #[.slice (some ⟨h, 0, none⟩) m m]] W (SongB W (vJoinSongs xs ys).1 (vJoinSongs xs ys).2)) :
    Calls Try.prog 4 #[.agg #[.slice A n c], .agg #[.slice B m d]] W fun e w' => e = .returned (.bool true) ∧ Kp Nw W w' := by
  by_cases hl : n ≤ 1048576
  · by_cases hl2 : n + m ≤ 1048576
    · exact lawJoinSongs_of A n c xs B m d ys _ _ W hu hn hv hn2 hl2 (vJoinSongs_len xs ys) (Lib.hid fun g B1 h B2 W hs hs2 => sJoinSongs_any g n B1 xs h m B2 ys W hs hs2 (by omega) (by omega)) (Lib.hid fun g B1 h B2 W hs hs2 => hI g B1 h B2 W hl2 hs hs2)
    · exact lawJoinSongs_bigB A n c B m d W hm2 hl (by omega)
  · exact lawJoinSongs_bigA A n c B m d W hm (by omega)
end Go.Proofs.Ytalikikafcicpaa
