/- The law of MeanTurn returns true at all arguments, given what the program and the model return for copies of the lists; no other condition. -/
import Derived.Test.YtlkmknigfdgnoabLaws
namespace Go.Proofs.Ytlkmknigfdgnoab
open Go.ChangeShapes Go.WideShapes Go.ChangeAt Go.RowKit

/-- two numbers and yes or no, nothing old changed -/
def Int2B (W : World) (x y : Int) (b : Bool) (e : Ending) (w' : World) : Prop := e = .returned (.tuple #[.int .i64 x, .int .i64 y, .bool b]) ∧ Kp Nw W w'
set_option maxHeartbeats 3200000 in
set_option maxRecDepth 100000 in
theorem lawMeanTurn_of (p u s : Int) (z y : Int) (b : Bool) (W : World)
    (hS : Hid (∀ (W : World), Calls Try.prog 16 #[.int .i64 p, .int .i64 u, .int .i64 s] W (Int2B W z y b))) (hI : Hid (∀ (W : World), Calls Try.prog 17 #[.int .i64 p, .int .i64 u, .int .i64 s] W (Int2B W z y b))) :
    Calls Try.prog 7 #[.int .i64 p, .int .i64 u, .int .i64 s] W fun e w' => e = .returned (.bool true) ∧ Kp Nw W w' := by
  have HK := Lib.hid (Kp.refl Nw W)
  go_enter Try.func7, Try.ntmps7
  go_wp2_with fail
  refine (hS.out _ ).mono ?_
  rintro e w1 ⟨rfl, hk1⟩
  have HK := Lib.hid (HK.out.nw hk1)
  clear hk1
  go_wp2_with fail
  refine (hI.out _ ).mono ?_
  rintro e w2 ⟨rfl, hk2⟩
  have HK := Lib.hid (HK.out.nw hk2)
  clear hk2
  go_wp2
  go_ret
  exact ⟨rfl, HK.out⟩
end Go.Proofs.Ytlkmknigfdgnoab
