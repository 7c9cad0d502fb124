/- The law of StepsFirstOut returns true at all arguments, given what the program and the model return for copies of the lists; no other condition. -/
import Derived.Test.YtlkmknigfdgnoaaLaws
namespace Go.Proofs.Ytlkmknigfdgnoaa
open Go.ChangeShapes Go.WideShapes Go.ChangeAt Go.RowKit

set_option maxHeartbeats 800000 in
theorem lawStepsFirstOut_bigd (p : Int) (Ad : Option Addr) (nd cd : Nat) (W : World) (hmd : nd ≤ maxLen) (hb : 1048576 < nd) :
    Calls Try.prog 10 #[.int .i64 p, .slice Ad nd cd] W fun e w' => e = .returned (.bool true) ∧ Kp Nw W w' := by
  have hb2 : (1048576 : Int) < nd := by omega
  have hb3 : (nd : Int) ≤ 9223372036854775807 := by unfold maxLen at hmd; omega
  go_enter Try.func10, Try.ntmps10
  go_wp2
  go_ret
  exact ⟨rfl, Kp.refl _ _⟩

set_option maxHeartbeats 3200000 in
set_option maxRecDepth 100000 in
theorem lawStepsFirstOut_of (p : Int) (Ad : Option Addr) (nd cd : Nat) (xsd : List Int) (z : Int) (b : Bool) (W : World) (hud : Rd W (.slice Ad nd cd) xsd) (hnd : xsd.length = nd) (hd : nd ≤ 1048576)
    (hS : Hid (∀ (gd Bd : Nat) (W : World), SlAt W Bd gd nd nd xsd → Calls Try.prog 33 #[.int .i64 p, .slice (some ⟨gd, 0, none⟩) nd nd] W (IntB W z b))) (hI : Hid (∀ (gd Bd : Nat) (W : World), SlAt W Bd gd nd nd xsd → Calls Try.prog 34 #[.int .i64 p, .slice (some ⟨gd, 0, none⟩) nd nd] W (IntB W z b))) :
    Calls Try.prog 10 #[.int .i64 p, .slice Ad nd cd] W fun e w' => e = .returned (.bool true) ∧ Kp Nw W w' := by
  have HUd := Lib.hid hud
  have HNd := Lib.hid hnd
  have HLXd : Hid (xsd.length ≤ maxLen) := Lib.hid (by unfold maxLen; omega)
  have n0d : (0 : Int) ≤ nd := Int.natCast_nonneg _
  have q1d : (nd : Int) ≤ 1048576 := by omega
  clear hud hnd
  have HK := Lib.hid (Kp.refl Nw W)
  go_enter Try.func10, Try.ntmps10
  go_wp2_with fail
  refine (toIntS_any _ nd xsd _ (HUd.out.nw HK.out) HNd.out hd).mono ?_
  rintro e w1 ⟨g1, rfl, hs1, hk1, hg1, hl1⟩
  have HTd := Lib.hid hs1
  have RHTd : Hid (W.heap.size ≤ g1 ∧ g1 < w1.heap.size) := Lib.hid ⟨hg1, hl1⟩
  have HK := Lib.hid (HK.out.nw hk1)
  have z1 : W.heap.size ≤ w1.heap.size := hk1.size
  clear hs1 hk1 hg1 hl1
  go_wp2_with fail
  refine (hS.out g1 _ _ HTd.out).mono ?_
  rintro e w2 ⟨rfl, hk2⟩
  have HTd := Lib.hid (HTd.out.kq hk2 (fun h => h))
  have HK := Lib.hid (HK.out.nw hk2)
  have z2 : w1.heap.size ≤ w2.heap.size := hk2.size
  clear hk2
  go_wp2_with fail
  refine (toIntS_any _ nd xsd _ (HUd.out.nw HK.out) HNd.out hd).mono ?_
  rintro e w3 ⟨g3, rfl, hs3, hk3, hg3, hl3⟩
  have HXd := Lib.hid hs3
  have RHXd : Hid (w2.heap.size ≤ g3 ∧ g3 < w3.heap.size) := Lib.hid ⟨hg3, hl3⟩
  have HK := Lib.hid (HK.out.nw hk3)
  have z3 : w2.heap.size ≤ w3.heap.size := hk3.size
  clear hs3 hk3 hg3 hl3
  go_wp2_with fail
  refine (hI.out g3 _ _ HXd.out).mono ?_
  rintro e w4 ⟨rfl, hk4⟩
  have HXd := Lib.hid (HXd.out.kq hk4 (fun h => h))
  have HK := Lib.hid (HK.out.nw hk4)
  have z4 : w3.heap.size ≤ w4.heap.size := hk4.size
  clear hk4
  go_wp2_with fail
  refine (toIntS_any _ nd xsd _ (HUd.out.nw HK.out) HNd.out hd).mono ?_
  rintro e w5 ⟨g5, rfl, hs5, hk5, hg5, hl5⟩
  have HYd := Lib.hid hs5
  have RHYd : Hid (w4.heap.size ≤ g5 ∧ g5 < w5.heap.size) := Lib.hid ⟨hg5, hl5⟩
  have HXd := Lib.hid (HXd.out.kq hk5 (fun h => h))
  have HK := Lib.hid (HK.out.nw hk5)
  have z5 : w4.heap.size ≤ w5.heap.size := hk5.size
  clear hs5 hk5 hg5 hl5
  go_wp2_with fail
  refine (eqIntS_same _ _ xsd _ HXd.out.sl.rd HYd.out.sl.rd HLXd.out).mono ?_
  rintro e w6 ⟨rfl, d6, hd6⟩
  have hk6 : Kp Nw w5 w6 := by rw [hd6]; exact (Kp.refl _ _).drewN d6
  have z6 : w5.heap.size ≤ w6.heap.size := hk6.size
  clear hd6
  have HXd := Lib.hid (HXd.out.kq hk6 (fun h => h))
  have HYd := Lib.hid (HYd.out.kq hk6 (fun h => h))
  have HK := Lib.hid (HK.out.nw hk6)
  clear hk6
  go_wp2
  go_ret
  exact ⟨rfl, HK.out⟩
end Go.Proofs.Ytlkmknigfdgnoaa
