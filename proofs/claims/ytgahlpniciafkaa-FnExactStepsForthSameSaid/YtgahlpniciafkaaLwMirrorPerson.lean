/- The law of MirrorPerson returns true at all arguments, given what the program and the model return for copies of the lists; no other condition. -/
import Derived.Test.YtgahlpniciafkaaLaws
namespace Go.Proofs.Ytgahlpniciafkaa
open Go.ChangeShapes Go.WideShapes Go.ChangeAt Go.RowKit

set_option maxHeartbeats 3200000 in
set_option maxRecDepth 100000 in
theorem lawMirrorPerson_of (p : Int) (u : Int) (z : Int) (b : Bool) (W : World)
    (hS : Hid (∀ (W : World), Calls Try.prog 29 #[.int .i64 p, .int .i64 u] W (IntB W z b))) (hI : Hid (∀ (W : World), Calls Try.prog 30 #[.int .i64 p, .int .i64 u] W (IntB W z b))) :
    Calls Try.prog 10 #[.int .i64 p, .int .i64 u] W fun e w' => e = .returned (.bool true) ∧ Kp Nw W w' := by
  have HK := Lib.hid (Kp.refl Nw W)
  go_enter Try.func10, Try.ntmps10
  go_wp2_with fail
  refine (hS.out _ ).mono ?_
  rintro e w1 ⟨rfl, hk1⟩
  have HK := Lib.hid (HK.out.nw hk1)
  have z1 : W.heap.size ≤ w1.heap.size := hk1.size
  clear hk1
  go_wp2_with fail
  refine (hI.out _ ).mono ?_
  rintro e w2 ⟨rfl, hk2⟩
  have HK := Lib.hid (HK.out.nw hk2)
  have z2 : w1.heap.size ≤ w2.heap.size := hk2.size
  clear hk2
  go_wp2
  go_ret
  exact ⟨rfl, HK.out⟩
end Go.Proofs.Ytgahlpniciafkaa
