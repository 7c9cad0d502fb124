/- The texts LwPeriodOfSteps, LwLastTable, LwStepForLast, LwCountForLast, LwStepSaving, LwCountSaving, LwStepForFriends, LwNextStepFor, as one. -/
import Derived.Test.YtlkmknigfdgnoaaLaws
namespace Go.Proofs.Ytlkmknigfdgnoaa
open Go.ChangeShapes Go.WideShapes Go.ChangeAt Go.RowKit

set_option maxHeartbeats 3200000 in
set_option maxRecDepth 100000 in
theorem lawPeriodOfSteps_of (p : Int) (z : Int) (b : Bool) (W : World)
    (hS : Hid (∀ (W : World), Calls Try.prog 15 #[.int .i64 p] W (IntB W z b))) (hI : Hid (∀ (W : World), Calls Try.prog 16 #[.int .i64 p] W (IntB W z b))) :
    Calls Try.prog 3 #[.int .i64 p] W fun e w' => e = .returned (.bool true) ∧ Kp Nw W w' := by
  have HK := Lib.hid (Kp.refl Nw W)
  go_enter Try.func3, Try.ntmps3
  go_wp2_with fail
  refine (hS.out _ ).mono ?_
  rintro e w1 ⟨rfl, hk1⟩
  have HK := Lib.hid (HK.out.nw hk1)
  have z1 : W.heap.size ≤ w1.heap.size := hk1.size
  clear hk1
  go_wp2_with fail
  refine (hI.out _ ).mono ?_
  rintro e w2 ⟨rfl, hk2⟩
  have HK := Lib.hid (HK.out.nw hk2)
  have z2 : w1.heap.size ≤ w2.heap.size := hk2.size
  clear hk2
  go_wp2
  go_ret
  exact ⟨rfl, HK.out⟩
end Go.Proofs.Ytlkmknigfdgnoaa
namespace Go.Proofs.Ytlkmknigfdgnoaa
open Go.ChangeShapes Go.WideShapes Go.ChangeAt Go.RowKit

set_option maxHeartbeats 3200000 in
set_option maxRecDepth 100000 in
theorem lawLastTable_of (p : Int) (s : Int) (zs : List Int) (b : Bool) (W : World) (hlen : zs.length ≤ 1000000)
    (hS : Hid (∀ (W : World), Calls Try.prog 17 #[.int .i64 p, .int .i64 s] W (ListB W zs b))) (hI : Hid (∀ (W : World), Calls Try.prog 18 #[.int .i64 p, .int .i64 s] W (ListB W zs b))) :
    Calls Try.prog 4 #[.int .i64 p, .int .i64 s] W fun e w' => e = .returned (.bool true) ∧ Kp Nw W w' := by
  obtain ⟨m, hm⟩ : ∃ m, zs.length = m := ⟨_, rfl⟩
  have HL : Hid (zs.length ≤ maxLen) := Lib.hid (by unfold maxLen; omega)
  have hlen : m ≤ 1000000 := by omega
  have hm0 : (0 : Int) ≤ m := Int.natCast_nonneg _
  have HM := Lib.hid hm
  clear hm
  have HK := Lib.hid (Kp.refl Nw W)
  go_enter Try.func4, Try.ntmps4
  go_wp2_with fail
  refine (hS.out _ ).mono ?_
  rintro e w1 ⟨v1, rfl, hs1, hk1⟩
  obtain ⟨A1, c1, rfl⟩ := hs1.val HM.out
  have HV1 := Lib.hid hs1
  have O1 : Hid (∀ g, (Value.slice A1 m c1).ownBlock = some g → W.heap.size ≤ g ∧ g < w1.heap.size) := Lib.hid hs1.own_ge
  have HK := Lib.hid (HK.out.nw hk1)
  have z1 : W.heap.size ≤ w1.heap.size := hk1.size
  clear hs1 hk1
  go_wp2_with fail
  refine (hI.out _ ).mono ?_
  rintro e w2 ⟨v2, rfl, hs2, hk2⟩
  obtain ⟨A2, c2, rfl⟩ := hs2.val HM.out
  have HV2 := Lib.hid hs2
  have O2 : Hid (∀ g, (Value.slice A2 m c2).ownBlock = some g → w1.heap.size ≤ g ∧ g < w2.heap.size) := Lib.hid hs2.own_ge
  have HV1 := Lib.hid (HV1.out.below hk2.below')
  have HK := Lib.hid (HK.out.nw hk2)
  have z2 : w1.heap.size ≤ w2.heap.size := hk2.size
  clear hs2 hk2
  go_wp2_with fail
  refine (eqIntS_same _ _ zs _ HV2.out.rd HV1.out.rd HL.out).mono ?_
  rintro e w3 ⟨rfl, d3, hd3⟩
  have hk3 : Kp Nw w2 w3 := by rw [hd3]; exact (Kp.refl _ _).drewN d3
  have z3 : w2.heap.size ≤ w3.heap.size := hk3.size
  clear hd3
  have HV1 := Lib.hid (HV1.out.below hk3.below')
  have HV2 := Lib.hid (HV2.out.below hk3.below')
  have HK := Lib.hid (HK.out.nw hk3)
  clear hk3
  go_wp2_with fail
  refine (markIntS_any _ zs 1 _ _ HV2.out (by omega) (by omega) (by rw [HM.out]; omega)).mono ?_
  rintro e w4 ⟨rfl, hs4, hk4⟩
  rw [HM.out] at hs4 ⊢
  have z4 : w3.heap.size ≤ w4.heap.size := hk4.size
  have HV1 := Lib.hid (HV1.out.kp hk4 (fun g a b => by have := O1.out g a; have := O2.out g b; omega))
  have HK := Lib.hid (HK.out.after hk4 (fun g hg h2 => by have := O2.out g h2; omega))
  have HV2 := Lib.hid hs4
  clear hs4 hk4
  go_wp2_with fail
  refine (heldIntS_any _ 1 m _ HV2.out.rd (by omega) (by omega) (by omega)).mono ?_
  rintro e w5 ⟨rfl, rfl⟩
  go_wp2_with fail
  refine (hI.out _ ).mono ?_
  rintro e w6 ⟨v6, rfl, hs6, hk6⟩
  obtain ⟨A6, c6, rfl⟩ := hs6.val HM.out
  have HV6 := Lib.hid hs6
  have O6 : Hid (∀ g, (Value.slice A6 m c6).ownBlock = some g → w4.heap.size ≤ g ∧ g < w6.heap.size) := Lib.hid hs6.own_ge
  have HV1 := Lib.hid (HV1.out.below hk6.below')
  have HV2 := Lib.hid (HV2.out.below hk6.below')
  have HK := Lib.hid (HK.out.nw hk6)
  have z6 : w4.heap.size ≤ w6.heap.size := hk6.size
  clear hs6 hk6
  go_wp2_with fail
  refine (eqIntS_same _ _ zs _ HV6.out.rd HV1.out.rd HL.out).mono ?_
  rintro e w7 ⟨rfl, d7, hd7⟩
  have hk7 : Kp Nw w6 w7 := by rw [hd7]; exact (Kp.refl _ _).drewN d7
  have z7 : w6.heap.size ≤ w7.heap.size := hk7.size
  clear hd7
  have HV1 := Lib.hid (HV1.out.below hk7.below')
  have HV2 := Lib.hid (HV2.out.below hk7.below')
  have HV6 := Lib.hid (HV6.out.below hk7.below')
  have HK := Lib.hid (HK.out.nw hk7)
  clear hk7
  go_wp2_with fail
  refine (heldIntS_any _ 1 m _ HV2.out.rd (by omega) (by omega) (by omega)).mono ?_
  rintro e wl ⟨rfl, rfl⟩
  go_wp2
  go_ret
  exact ⟨rfl, HK.out⟩
end Go.Proofs.Ytlkmknigfdgnoaa
namespace Go.Proofs.Ytlkmknigfdgnoaa
open Go.ChangeShapes Go.WideShapes Go.ChangeAt Go.RowKit

set_option maxHeartbeats 3200000 in
set_option maxRecDepth 100000 in
theorem lawStepForLast_of (p : Int) (u : Int) (z : Int) (b : Bool) (W : World)
    (hS : Hid (∀ (W : World), Calls Try.prog 22 #[.int .i64 p, .int .i64 u] W (IntB W z b))) (hI : Hid (∀ (W : World), Calls Try.prog 23 #[.int .i64 p, .int .i64 u] W (IntB W z b))) :
    Calls Try.prog 5 #[.int .i64 p, .int .i64 u] W fun e w' => e = .returned (.bool true) ∧ Kp Nw W w' := by
  have HK := Lib.hid (Kp.refl Nw W)
  go_enter Try.func5, Try.ntmps5
  go_wp2_with fail
  refine (hS.out _ ).mono ?_
  rintro e w1 ⟨rfl, hk1⟩
  have HK := Lib.hid (HK.out.nw hk1)
  have z1 : W.heap.size ≤ w1.heap.size := hk1.size
  clear hk1
  go_wp2_with fail
  refine (hI.out _ ).mono ?_
  rintro e w2 ⟨rfl, hk2⟩
  have HK := Lib.hid (HK.out.nw hk2)
  have z2 : w1.heap.size ≤ w2.heap.size := hk2.size
  clear hk2
  go_wp2
  go_ret
  exact ⟨rfl, HK.out⟩
end Go.Proofs.Ytlkmknigfdgnoaa
namespace Go.Proofs.Ytlkmknigfdgnoaa
open Go.ChangeShapes Go.WideShapes Go.ChangeAt Go.RowKit

set_option maxHeartbeats 3200000 in
set_option maxRecDepth 100000 in
theorem lawCountForLast_of (p : Int) (u : Int) (z : Int) (b : Bool) (W : World)
    (hS : Hid (∀ (W : World), Calls Try.prog 24 #[.int .i64 p, .int .i64 u] W (IntB W z b))) (hI : Hid (∀ (W : World), Calls Try.prog 25 #[.int .i64 p, .int .i64 u] W (IntB W z b))) :
    Calls Try.prog 6 #[.int .i64 p, .int .i64 u] W fun e w' => e = .returned (.bool true) ∧ Kp Nw W w' := by
  have HK := Lib.hid (Kp.refl Nw W)
  go_enter Try.func6, Try.ntmps6
  go_wp2_with fail
  refine (hS.out _ ).mono ?_
  rintro e w1 ⟨rfl, hk1⟩
  have HK := Lib.hid (HK.out.nw hk1)
  have z1 : W.heap.size ≤ w1.heap.size := hk1.size
  clear hk1
  go_wp2_with fail
  refine (hI.out _ ).mono ?_
  rintro e w2 ⟨rfl, hk2⟩
  have HK := Lib.hid (HK.out.nw hk2)
  have z2 : w1.heap.size ≤ w2.heap.size := hk2.size
  clear hk2
  go_wp2
  go_ret
  exact ⟨rfl, HK.out⟩
end Go.Proofs.Ytlkmknigfdgnoaa
namespace Go.Proofs.Ytlkmknigfdgnoaa
open Go.ChangeShapes Go.WideShapes Go.ChangeAt Go.RowKit

set_option maxHeartbeats 800000 in
theorem lawStepSaving_bigd (p : Int) (Ad : Option Addr) (nd cd : Nat) (W : World) (hmd : nd ≤ maxLen) (hb : 1048576 < nd) :
    Calls Try.prog 8 #[.int .i64 p, .slice Ad nd cd] W fun e w' => e = .returned (.bool true) ∧ Kp Nw W w' := by
  have hb2 : (1048576 : Int) < nd := by omega
  have hb3 : (nd : Int) ≤ 9223372036854775807 := by unfold maxLen at hmd; omega
  go_enter Try.func8, Try.ntmps8
  go_wp2
  go_ret
  exact ⟨rfl, Kp.refl _ _⟩

set_option maxHeartbeats 3200000 in
set_option maxRecDepth 100000 in
theorem lawStepSaving_of (p : Int) (Ad : Option Addr) (nd cd : Nat) (xsd : List Int) (z : Int) (b : Bool) (W : World) (hud : Rd W (.slice Ad nd cd) xsd) (hnd : xsd.length = nd) (hd : nd ≤ 1048576)
    (hS : Hid (∀ (gd Bd : Nat) (W : World), SlAt W Bd gd nd nd xsd → Calls Try.prog 28 #[.int .i64 p, .slice (some ⟨gd, 0, none⟩) nd nd] W (IntB W z b))) (hI : Hid (∀ (gd Bd : Nat) (W : World), SlAt W Bd gd nd nd xsd → Calls Try.prog 30 #[.int .i64 p, .slice (some ⟨gd, 0, none⟩) nd nd] W (IntB W z b))) :
    Calls Try.prog 8 #[.int .i64 p, .slice Ad nd cd] W fun e w' => e = .returned (.bool true) ∧ Kp Nw W w' := by
  have HUd := Lib.hid hud
  have HNd := Lib.hid hnd
  have HLXd : Hid (xsd.length ≤ maxLen) := Lib.hid (by unfold maxLen; omega)
  have n0d : (0 : Int) ≤ nd := Int.natCast_nonneg _
  have q1d : (nd : Int) ≤ 1048576 := by omega
  clear hud hnd
  have HK := Lib.hid (Kp.refl Nw W)
  go_enter Try.func8, Try.ntmps8
  go_wp2_with fail
  refine (toIntS_any _ nd xsd _ (HUd.out.nw HK.out) HNd.out hd).mono ?_
  rintro e w1 ⟨g1, rfl, hs1, hk1, hg1, hl1⟩
  have HTd := Lib.hid hs1
  have RHTd : Hid (W.heap.size ≤ g1 ∧ g1 < w1.heap.size) := Lib.hid ⟨hg1, hl1⟩
  have HK := Lib.hid (HK.out.nw hk1)
  have z1 : W.heap.size ≤ w1.heap.size := hk1.size
  clear hs1 hk1 hg1 hl1
  go_wp2_with fail
  refine (hS.out g1 _ _ HTd.out).mono ?_
  rintro e w2 ⟨rfl, hk2⟩
  have HTd := Lib.hid (HTd.out.kq hk2 (fun h => h))
  have HK := Lib.hid (HK.out.nw hk2)
  have z2 : w1.heap.size ≤ w2.heap.size := hk2.size
  clear hk2
  go_wp2_with fail
  refine (toIntS_any _ nd xsd _ (HUd.out.nw HK.out) HNd.out hd).mono ?_
  rintro e w3 ⟨g3, rfl, hs3, hk3, hg3, hl3⟩
  have HXd := Lib.hid hs3
  have RHXd : Hid (w2.heap.size ≤ g3 ∧ g3 < w3.heap.size) := Lib.hid ⟨hg3, hl3⟩
  have HK := Lib.hid (HK.out.nw hk3)
  have z3 : w2.heap.size ≤ w3.heap.size := hk3.size
  clear hs3 hk3 hg3 hl3
  go_wp2_with fail
  refine (hI.out g3 _ _ HXd.out).mono ?_
  rintro e w4 ⟨rfl, hk4⟩
  have HXd := Lib.hid (HXd.out.kq hk4 (fun h => h))
  have HK := Lib.hid (HK.out.nw hk4)
  have z4 : w3.heap.size ≤ w4.heap.size := hk4.size
  clear hk4
  go_wp2_with fail
  refine (toIntS_any _ nd xsd _ (HUd.out.nw HK.out) HNd.out hd).mono ?_
  rintro e w5 ⟨g5, rfl, hs5, hk5, hg5, hl5⟩
  have HYd := Lib.hid hs5
  have RHYd : Hid (w4.heap.size ≤ g5 ∧ g5 < w5.heap.size) := Lib.hid ⟨hg5, hl5⟩
  have HXd := Lib.hid (HXd.out.kq hk5 (fun h => h))
  have HK := Lib.hid (HK.out.nw hk5)
  have z5 : w4.heap.size ≤ w5.heap.size := hk5.size
  clear hs5 hk5 hg5 hl5
  go_wp2_with fail
  refine (eqIntS_same _ _ xsd _ HXd.out.sl.rd HYd.out.sl.rd HLXd.out).mono ?_
  rintro e w6 ⟨rfl, d6, hd6⟩
  have hk6 : Kp Nw w5 w6 := by rw [hd6]; exact (Kp.refl _ _).drewN d6
  have z6 : w5.heap.size ≤ w6.heap.size := hk6.size
  clear hd6
  have HXd := Lib.hid (HXd.out.kq hk6 (fun h => h))
  have HYd := Lib.hid (HYd.out.kq hk6 (fun h => h))
  have HK := Lib.hid (HK.out.nw hk6)
  clear hk6
  go_wp2
  go_ret
  exact ⟨rfl, HK.out⟩
end Go.Proofs.Ytlkmknigfdgnoaa
namespace Go.Proofs.Ytlkmknigfdgnoaa
open Go.ChangeShapes Go.WideShapes Go.ChangeAt Go.RowKit

set_option maxHeartbeats 800000 in
theorem lawCountSaving_bigd (p : Int) (Ad : Option Addr) (nd cd : Nat) (W : World) (hmd : nd ≤ maxLen) (hb : 1048576 < nd) :
    Calls Try.prog 9 #[.int .i64 p, .slice Ad nd cd] W fun e w' => e = .returned (.bool true) ∧ Kp Nw W w' := by
  have hb2 : (1048576 : Int) < nd := by omega
  have hb3 : (nd : Int) ≤ 9223372036854775807 := by unfold maxLen at hmd; omega
  go_enter Try.func9, Try.ntmps9
  go_wp2
  go_ret
  exact ⟨rfl, Kp.refl _ _⟩

set_option maxHeartbeats 3200000 in
set_option maxRecDepth 100000 in
theorem lawCountSaving_of (p : Int) (Ad : Option Addr) (nd cd : Nat) (xsd : List Int) (z : Int) (b : Bool) (W : World) (hud : Rd W (.slice Ad nd cd) xsd) (hnd : xsd.length = nd) (hd : nd ≤ 1048576)
    (hS : Hid (∀ (gd Bd : Nat) (W : World), SlAt W Bd gd nd nd xsd → Calls Try.prog 31 #[.int .i64 p, .slice (some ⟨gd, 0, none⟩) nd nd] W (IntB W z b))) (hI : Hid (∀ (gd Bd : Nat) (W : World), SlAt W Bd gd nd nd xsd → Calls Try.prog 32 #[.int .i64 p, .slice (some ⟨gd, 0, none⟩) nd nd] W (IntB W z b))) :
    Calls Try.prog 9 #[.int .i64 p, .slice Ad nd cd] W fun e w' => e = .returned (.bool true) ∧ Kp Nw W w' := by
  have HUd := Lib.hid hud
  have HNd := Lib.hid hnd
  have HLXd : Hid (xsd.length ≤ maxLen) := Lib.hid (by unfold maxLen; omega)
  have n0d : (0 : Int) ≤ nd := Int.natCast_nonneg _
  have q1d : (nd : Int) ≤ 1048576 := by omega
  clear hud hnd
  have HK := Lib.hid (Kp.refl Nw W)
  go_enter Try.func9, Try.ntmps9
  go_wp2_with fail
  refine (toIntS_any _ nd xsd _ (HUd.out.nw HK.out) HNd.out hd).mono ?_
  rintro e w1 ⟨g1, rfl, hs1, hk1, hg1, hl1⟩
  have HTd := Lib.hid hs1
  have RHTd : Hid (W.heap.size ≤ g1 ∧ g1 < w1.heap.size) := Lib.hid ⟨hg1, hl1⟩
  have HK := Lib.hid (HK.out.nw hk1)
  have z1 : W.heap.size ≤ w1.heap.size := hk1.size
  clear hs1 hk1 hg1 hl1
  go_wp2_with fail
  refine (hS.out g1 _ _ HTd.out).mono ?_
  rintro e w2 ⟨rfl, hk2⟩
  have HTd := Lib.hid (HTd.out.kq hk2 (fun h => h))
  have HK := Lib.hid (HK.out.nw hk2)
  have z2 : w1.heap.size ≤ w2.heap.size := hk2.size
  clear hk2
  go_wp2_with fail
  refine (toIntS_any _ nd xsd _ (HUd.out.nw HK.out) HNd.out hd).mono ?_
  rintro e w3 ⟨g3, rfl, hs3, hk3, hg3, hl3⟩
  have HXd := Lib.hid hs3
  have RHXd : Hid (w2.heap.size ≤ g3 ∧ g3 < w3.heap.size) := Lib.hid ⟨hg3, hl3⟩
  have HK := Lib.hid (HK.out.nw hk3)
  have z3 : w2.heap.size ≤ w3.heap.size := hk3.size
  clear hs3 hk3 hg3 hl3
  go_wp2_with fail
  refine (hI.out g3 _ _ HXd.out).mono ?_
  rintro e w4 ⟨rfl, hk4⟩
  have HXd := Lib.hid (HXd.out.kq hk4 (fun h => h))
  have HK := Lib.hid (HK.out.nw hk4)
  have z4 : w3.heap.size ≤ w4.heap.size := hk4.size
  clear hk4
  go_wp2_with fail
  refine (toIntS_any _ nd xsd _ (HUd.out.nw HK.out) HNd.out hd).mono ?_
  rintro e w5 ⟨g5, rfl, hs5, hk5, hg5, hl5⟩
  have HYd := Lib.hid hs5
  have RHYd : Hid (w4.heap.size ≤ g5 ∧ g5 < w5.heap.size) := Lib.hid ⟨hg5, hl5⟩
  have HXd := Lib.hid (HXd.out.kq hk5 (fun h => h))
  have HK := Lib.hid (HK.out.nw hk5)
  have z5 : w4.heap.size ≤ w5.heap.size := hk5.size
  clear hs5 hk5 hg5 hl5
  go_wp2_with fail
  refine (eqIntS_same _ _ xsd _ HXd.out.sl.rd HYd.out.sl.rd HLXd.out).mono ?_
  rintro e w6 ⟨rfl, d6, hd6⟩
  have hk6 : Kp Nw w5 w6 := by rw [hd6]; exact (Kp.refl _ _).drewN d6
  have z6 : w5.heap.size ≤ w6.heap.size := hk6.size
  clear hd6
  have HXd := Lib.hid (HXd.out.kq hk6 (fun h => h))
  have HYd := Lib.hid (HYd.out.kq hk6 (fun h => h))
  have HK := Lib.hid (HK.out.nw hk6)
  clear hk6
  go_wp2
  go_ret
  exact ⟨rfl, HK.out⟩
end Go.Proofs.Ytlkmknigfdgnoaa
namespace Go.Proofs.Ytlkmknigfdgnoaa
open Go.ChangeShapes Go.WideShapes Go.ChangeAt Go.RowKit

set_option maxHeartbeats 3200000 in
set_option maxRecDepth 100000 in
theorem lawStepForFriends_of (p : Int) (z : Int) (b : Bool) (W : World)
    (hS : Hid (∀ (W : World), Calls Try.prog 35 #[.int .i64 p] W (IntB W z b))) (hI : Hid (∀ (W : World), Calls Try.prog 36 #[.int .i64 p] W (IntB W z b))) :
    Calls Try.prog 11 #[.int .i64 p] W fun e w' => e = .returned (.bool true) ∧ Kp Nw W w' := by
  have HK := Lib.hid (Kp.refl Nw W)
  go_enter Try.func11, Try.ntmps11
  go_wp2_with fail
  refine (hS.out _ ).mono ?_
  rintro e w1 ⟨rfl, hk1⟩
  have HK := Lib.hid (HK.out.nw hk1)
  have z1 : W.heap.size ≤ w1.heap.size := hk1.size
  clear hk1
  go_wp2_with fail
  refine (hI.out _ ).mono ?_
  rintro e w2 ⟨rfl, hk2⟩
  have HK := Lib.hid (HK.out.nw hk2)
  have z2 : w1.heap.size ≤ w2.heap.size := hk2.size
  clear hk2
  go_wp2
  go_ret
  exact ⟨rfl, HK.out⟩
end Go.Proofs.Ytlkmknigfdgnoaa
namespace Go.Proofs.Ytlkmknigfdgnoaa
open Go.ChangeShapes Go.WideShapes Go.ChangeAt Go.RowKit

set_option maxHeartbeats 3200000 in
set_option maxRecDepth 100000 in
theorem lawNextStepFor_of (p : Int) (u : Int) (s : Int) (z : Int) (b : Bool) (W : World)
    (hS : Hid (∀ (W : World), Calls Try.prog 41 #[.int .i64 p, .int .i64 u, .int .i64 s] W (IntB W z b))) (hI : Hid (∀ (W : World), Calls Try.prog 42 #[.int .i64 p, .int .i64 u, .int .i64 s] W (IntB W z b))) :
    Calls Try.prog 14 #[.int .i64 p, .int .i64 u, .int .i64 s] W fun e w' => e = .returned (.bool true) ∧ Kp Nw W w' := by
  have HK := Lib.hid (Kp.refl Nw W)
  go_enter Try.func14, Try.ntmps14
  go_wp2_with fail
  refine (hS.out _ ).mono ?_
  rintro e w1 ⟨rfl, hk1⟩
  have HK := Lib.hid (HK.out.nw hk1)
  have z1 : W.heap.size ≤ w1.heap.size := hk1.size
  clear hk1
  go_wp2_with fail
  refine (hI.out _ ).mono ?_
  rintro e w2 ⟨rfl, hk2⟩
  have HK := Lib.hid (HK.out.nw hk2)
  have z2 : w1.heap.size ≤ w2.heap.size := hk2.size
  clear hk2
  go_wp2
  go_ret
  exact ⟨rfl, HK.out⟩
end Go.Proofs.Ytlkmknigfdgnoaa
