/- Exact laws of who can be left, best places, steps of the same order from what the program and the model return; no other condition. -/
import Derived.Test.YtlkmknigfdgnoaaBest
import Derived.Test.YtlkmknigfdgnoaaLw5b
namespace Go.Proofs.Ytlkmknigfdgnoaa
open Go.ChangeShapes Go.WideShapes Go.ChangeAt Go.RowKit

theorem lawCanBeLeft (p : Int) (W : World) : Calls Try.prog 7 #[.int .i64 p] W fun e w' => e = .returned (.bool true) ∧ Kp Nw W w' :=
  lawCanBeLeft_of p _ _ W (vCanBeLeft_len p) (Lib.hid fun W => sCanBeLeft_all p W) (Lib.hid fun W => iCanBeLeft_all p W)

theorem lawBestPlaces (p s : Int) (W : World) : Calls Try.prog 12 #[.int .i64 p, .int .i64 s] W fun e w' => e = .returned (.bool true) ∧ Kp Nw W w' :=
  lawBestPlaces_of p s _ _ W (vBestPlaces_len p s) (Lib.hid fun W => sBestPlaces_all p s W) (Lib.hid fun W => iBestPlaces_all p s W)

theorem lawSameOrderSteps (p s c : Int) (W : World) : Calls Try.prog 13 #[.int .i64 p, .int .i64 s, .int .i64 c] W fun e w' => e = .returned (.bool true) ∧ Kp Nw W w' :=
  lawSameOrderSteps_of p s c _ _ W (vSameOrderSteps_len p s c) (Lib.hid fun W => sSameOrderSteps_all p s c W) (Lib.hid fun W => iSameOrderSteps_all p s c W)
end Go.Proofs.Ytlkmknigfdgnoaa
