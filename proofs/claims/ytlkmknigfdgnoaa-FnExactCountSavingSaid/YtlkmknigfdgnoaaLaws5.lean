/- Exact laws of steps that save from what the program and the model return; no other condition. -/
import Derived.Test.YtlkmknigfdgnoaaGrps
import Derived.Test.YtlkmknigfdgnoaaLw5
namespace Go.Proofs.Ytlkmknigfdgnoaa
open Go.ChangeShapes Go.WideShapes Go.ChangeAt Go.RowKit

theorem lawPeriodOfSteps (p : Int) (W : World) : Calls Try.prog 3 #[.int .i64 p] W fun e w' => e = .returned (.bool true) ∧ Kp Nw W w' :=
  lawPeriodOfSteps_of p _ _ W (Lib.hid fun W => sPeriodOfSteps_all p W) (Lib.hid fun W => iPeriodOfSteps_all p W)

theorem lawStepForLast (p u : Int) (W : World) : Calls Try.prog 5 #[.int .i64 p, .int .i64 u] W fun e w' => e = .returned (.bool true) ∧ Kp Nw W w' :=
  lawStepForLast_of p u _ _ W (Lib.hid fun W => sStepForLast_all p u W) (Lib.hid fun W => iStepForLast_all p u W)

theorem lawCountForLast (p u : Int) (W : World) : Calls Try.prog 6 #[.int .i64 p, .int .i64 u] W fun e w' => e = .returned (.bool true) ∧ Kp Nw W w' :=
  lawCountForLast_of p u _ _ W (Lib.hid fun W => sCountForLast_all p u W) (Lib.hid fun W => iCountForLast_all p u W)

theorem lawStepForFriends (p : Int) (W : World) : Calls Try.prog 11 #[.int .i64 p] W fun e w' => e = .returned (.bool true) ∧ Kp Nw W w' :=
  lawStepForFriends_of p _ _ W (Lib.hid fun W => sStepForFriends_all p W) (Lib.hid fun W => iStepForFriends_all p W)

theorem lawNextStepFor (p u s : Int) (W : World) : Calls Try.prog 14 #[.int .i64 p, .int .i64 u, .int .i64 s] W fun e w' => e = .returned (.bool true) ∧ Kp Nw W w' :=
  lawNextStepFor_of p u s _ _ W (Lib.hid fun W => sNextStepFor_all p u s W) (Lib.hid fun W => iNextStepFor_all p u s W)

theorem lawLastTable (p s : Int) (W : World) : Calls Try.prog 4 #[.int .i64 p, .int .i64 s] W fun e w' => e = .returned (.bool true) ∧ Kp Nw W w' :=
  lawLastTable_of p s _ _ W (vLastTable_len p s) (Lib.hid fun W => sLastTable_all p s W) (Lib.hid fun W => iLastTable_all p s W)

theorem lawStepSaving (p : Int) (A : Option Addr) (n c : Nat) (xs : List Int) (W : World) (hu : Rd W (.slice A n c) xs) (hn : xs.length = n) (hm : n ≤ maxLen) :
    Calls Try.prog 8 #[.int .i64 p, .slice A n c] W fun e w' => e = .returned (.bool true) ∧ Kp Nw W w' := by
  by_cases hl : n ≤ 1048576
  · exact lawStepSaving_of p A n c xs _ _ W hu hn hl (Lib.hid fun g B W hs => sStepSaving_all p _ xs W hs.sl.rd (by omega)) (Lib.hid fun g B W hs => iStepSaving_all p _ xs W hs.sl.rd (by omega))
  · exact lawStepSaving_bigd p A n c W hm (by omega)

theorem lawCountSaving (p : Int) (A : Option Addr) (n c : Nat) (xs : List Int) (W : World) (hu : Rd W (.slice A n c) xs) (hn : xs.length = n) (hm : n ≤ maxLen) :
    Calls Try.prog 9 #[.int .i64 p, .slice A n c] W fun e w' => e = .returned (.bool true) ∧ Kp Nw W w' := by
  by_cases hl : n ≤ 1048576
  · exact lawCountSaving_of p A n c xs _ _ W hu hn hl (Lib.hid fun g B W hs => sCountSaving_all p _ xs W hs.sl.rd (by omega)) (Lib.hid fun g B W hs => iCountSaving_all p _ xs W hs.sl.rd (by omega))
  · exact lawCountSaving_bigd p A n c W hm (by omega)
end Go.Proofs.Ytlkmknigfdgnoaa
