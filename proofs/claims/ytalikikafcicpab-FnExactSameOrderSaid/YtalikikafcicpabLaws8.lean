/- The laws of chapter 8 return true at all arguments, given what the program returns for copies of the songs; the model's part is proved. -/
import Derived.Test.YtalikikafcicpabSoM
import Derived.Test.YtalikikafcicpabLwSo
namespace Go.Proofs.Ytalikikafcicpab
open Go.ChangeShapes Go.WideShapes Go.ChangeAt Go.RowKit
theorem lawSongOrder (A : Option Addr) (n c : Nat) (xs : List Int) (p : Int) (W : World) (hu : Rd W (.slice A n c) xs) (hn : xs.length = n) (hm : n ≤ maxLen)
    (hI : ∀ (g B : Nat) (W : World), n ≤ 1048576 → SlAt W B g n n xs → Calls Try.prog 11 #[.agg #[.slice (some ⟨g, 0, none⟩) n n], .int .i64 p] W (ListB W (vSoOrder xs p).1 (vSoOrder xs p).2)) :
    Calls Try.prog 3 #[.agg #[.slice A n c], .int .i64 p] W fun e w' => e = .returned (.bool true) ∧ Kp Nw W w' := by
  by_cases hl : n ≤ 1048576
  · exact lawSongOrder_of A n c xs p _ _ W hu hn hl (vSoOrder_len xs p) (Lib.hid fun g B W hs => sSongOrder_any _ n n xs p W hs.sl.rd hs.1 (by omega)) (Lib.hid fun g B W hs => hI g B W hl hs)
  · exact lawSongOrder_bigA A n c p W hm (by omega)

theorem lawSongLast (A : Option Addr) (n c : Nat) (xs : List Int) (p : Int) (W : World) (hu : Rd W (.slice A n c) xs) (hn : xs.length = n) (hm : n ≤ maxLen)
    (hI : ∀ (g B : Nat) (W : World), n ≤ 1048576 → SlAt W B g n n xs → Calls Try.prog 18 #[.agg #[.slice (some ⟨g, 0, none⟩) n n], .int .i64 p] W (IntB W (vSoLast xs p).1 (vSoLast xs p).2)) :
    Calls Try.prog 4 #[.agg #[.slice A n c], .int .i64 p] W fun e w' => e = .returned (.bool true) ∧ Kp Nw W w' := by
  by_cases hl : n ≤ 1048576
  · exact lawSongLast_of A n c xs p _ _ W hu hn hl (Lib.hid fun g B W hs => sSongLast_any _ n n xs p W hs.sl.rd hs.1 (by omega)) (Lib.hid fun g B W hs => hI g B W hl hs)
  · exact lawSongLast_bigA A n c p W hm (by omega)

theorem lawSongTurn (A : Option Addr) (n c : Nat) (xs : List Int) (p : Int) (q : Int) (W : World) (hu : Rd W (.slice A n c) xs) (hn : xs.length = n) (hm : n ≤ maxLen)
    (hI : ∀ (g B : Nat) (W : World), n ≤ 1048576 → SlAt W B g n n xs → Calls Try.prog 20 #[.agg #[.slice (some ⟨g, 0, none⟩) n n], .int .i64 p, .int .i64 q] W (IntB W (vSoTurn xs p q).1 (vSoTurn xs p q).2)) :
    Calls Try.prog 5 #[.agg #[.slice A n c], .int .i64 p, .int .i64 q] W fun e w' => e = .returned (.bool true) ∧ Kp Nw W w' := by
  by_cases hl : n ≤ 1048576
  · exact lawSongTurn_of A n c xs p q _ _ W hu hn hl (Lib.hid fun g B W hs => sSongTurn_any _ n n xs p q W hs.sl.rd hs.1 (by omega)) (Lib.hid fun g B W hs => hI g B W hl hs)
  · exact lawSongTurn_bigA A n c p q W hm (by omega)

theorem lawSongLeft (A : Option Addr) (n c : Nat) (xs : List Int) (p : Int) (t : Int) (W : World) (hu : Rd W (.slice A n c) xs) (hn : xs.length = n) (hm : n ≤ maxLen)
    (hI : ∀ (g B : Nat) (W : World), n ≤ 1048576 → SlAt W B g n n xs → Calls Try.prog 22 #[.agg #[.slice (some ⟨g, 0, none⟩) n n], .int .i64 p, .int .i64 t] W (ListB W (vSoLeft xs p t).1 (vSoLeft xs p t).2)) :
    Calls Try.prog 6 #[.agg #[.slice A n c], .int .i64 p, .int .i64 t] W fun e w' => e = .returned (.bool true) ∧ Kp Nw W w' := by
  by_cases hl : n ≤ 1048576
  · exact lawSongLeft_of A n c xs p t _ _ W hu hn hl (vSoLeft_len xs p t) (Lib.hid fun g B W hs => sSongLeft_any _ n n xs p t W hs.sl.rd hs.1 (by omega)) (Lib.hid fun g B W hs => hI g B W hl hs)
  · exact lawSongLeft_bigA A n c p t W hm (by omega)

theorem lawSameOrder (A : Option Addr) (n c : Nat) (xs : List Int) (B : Option Addr) (m d : Nat) (ys : List Int) (p : Int) (W : World) (hu : Rd W (.slice A n c) xs) (hn : xs.length = n) (hm : n ≤ maxLen) (hv : Rd W (.slice B m d) ys) (hn2 : ys.length = m) (hm2 : m ≤ maxLen)
    (hI : ∀ (g B1 h B2 : Nat) (W : World), n + m ≤ 1048576 → SlAt W B1 g n n xs → SlAt W B2 h m m ys → Calls Try.prog 24 #[.agg #[.slice (some ⟨g, 0, none⟩) n n], .agg #[.slice (some ⟨h, 0, none⟩) m m], .int .i64 p] W (Bool2B W (vSame xs ys p).1 (vSame xs ys p).2)) :
    Calls Try.prog 7 #[.agg #[.slice A n c], .agg #[.slice B m d], .int .i64 p] W fun e w' => e = .returned (.bool true) ∧ Kp Nw W w' := by
  by_cases hl : n ≤ 1048576
  · by_cases hl2 : n + m ≤ 1048576
    · exact lawSameOrder_of A n c xs B m d ys p _ _ W hu hn hv hn2 hl2 (Lib.hid fun g B1 h B2 W hs hs2 => sSameOrder_any _ n n xs _ m m ys p W hs.sl.rd hs.1 (by omega) hs2.sl.rd hs2.1 (by omega)) (Lib.hid fun g B1 h B2 W hs hs2 => hI g B1 h B2 W hl2 hs hs2)
    · exact lawSameOrder_bigB A n c B m d p W hm2 hl (by omega)
  · exact lawSameOrder_bigA A n c B m d p W hm (by omega)
end Go.Proofs.Ytalikikafcicpab
