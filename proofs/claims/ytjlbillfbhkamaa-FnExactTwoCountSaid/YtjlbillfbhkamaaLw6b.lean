/- The texts LwChosenByBoth, LwCountRoundsOfTwo, LwLastTogether, LwRoundOfPerson, LwStepsToMeet, as one. -/
import Derived.Test.YtjlbillfbhkamaaLaws
import Derived.Test.YtjlbillfbhkamaaLw6a
namespace Go.Proofs.Ytjlbillfbhkamaa
open Go.ChangeShapes Go.WideShapes Go.ChangeAt Go.RowKit

set_option maxHeartbeats 3200000 in
set_option maxRecDepth 100000 in
theorem lawChosenByBoth_of (p : Int) (s : Int) (u : Int) (zs : List Int) (b : Bool) (W : World) (hlen : zs.length ≤ 1000000)
    (hS : Hid (∀ (W : World), Calls Try.prog 14 #[.int .i64 p, .int .i64 s, .int .i64 u] W (ListB W zs b))) (hI : Hid (∀ (W : World), Calls Try.prog 15 #[.int .i64 p, .int .i64 s, .int .i64 u] W (ListB W zs b))) :
    Calls Try.prog 4 #[.int .i64 p, .int .i64 s, .int .i64 u] W fun e w' => e = .returned (.bool true) ∧ Kp Nw W w' := by
  obtain ⟨m, hm⟩ : ∃ m, zs.length = m := ⟨_, rfl⟩
  have HL : Hid (zs.length ≤ maxLen) := Lib.hid (by unfold maxLen; omega)
  have hlen : m ≤ 1000000 := by omega
  have hm0 : (0 : Int) ≤ m := Int.natCast_nonneg _
  have HM := Lib.hid hm
  clear hm
  have HK := Lib.hid (Kp.refl Nw W)
  go_enter Try.func4, Try.ntmps4
  go_wp2_with fail
  refine (hS.out _ ).mono ?_
  rintro e w1 ⟨v1, rfl, hs1, hk1⟩
  obtain ⟨A1, c1, rfl⟩ := hs1.val HM.out
  have HV1 := Lib.hid hs1
  have O1 : Hid (∀ g, (Value.slice A1 m c1).ownBlock = some g → W.heap.size ≤ g ∧ g < w1.heap.size) := Lib.hid hs1.own_ge
  have HK := Lib.hid (HK.out.nw hk1)
  have z1 : W.heap.size ≤ w1.heap.size := hk1.size
  clear hs1 hk1
  go_wp2_with fail
  refine (hI.out _ ).mono ?_
  rintro e w2 ⟨v2, rfl, hs2, hk2⟩
  obtain ⟨A2, c2, rfl⟩ := hs2.val HM.out
  have HV2 := Lib.hid hs2
  have O2 : Hid (∀ g, (Value.slice A2 m c2).ownBlock = some g → w1.heap.size ≤ g ∧ g < w2.heap.size) := Lib.hid hs2.own_ge
  have HV1 := Lib.hid (HV1.out.below hk2.below')
  have HK := Lib.hid (HK.out.nw hk2)
  have z2 : w1.heap.size ≤ w2.heap.size := hk2.size
  clear hs2 hk2
  go_wp2_with fail
  refine (eqIntS_same _ _ zs _ HV2.out.rd HV1.out.rd HL.out).mono ?_
  rintro e w3 ⟨rfl, d3, hd3⟩
  have hk3 : Kp Nw w2 w3 := by rw [hd3]; exact (Kp.refl _ _).drewN d3
  have z3 : w2.heap.size ≤ w3.heap.size := hk3.size
  clear hd3
  have HV1 := Lib.hid (HV1.out.below hk3.below')
  have HV2 := Lib.hid (HV2.out.below hk3.below')
  have HK := Lib.hid (HK.out.nw hk3)
  clear hk3
  go_wp2_with fail
  refine (markIntS_any _ zs 1 _ _ HV2.out (by omega) (by omega) (by rw [HM.out]; omega)).mono ?_
  rintro e w4 ⟨rfl, hs4, hk4⟩
  rw [HM.out] at hs4 ⊢
  have z4 : w3.heap.size ≤ w4.heap.size := hk4.size
  have HV1 := Lib.hid (HV1.out.kp hk4 (fun g a b => by have := O1.out g a; have := O2.out g b; omega))
  have HK := Lib.hid (HK.out.after hk4 (fun g hg h2 => by have := O2.out g h2; omega))
  have HV2 := Lib.hid hs4
  clear hs4 hk4
  go_wp2_with fail
  refine (heldIntS_any _ 1 m _ HV2.out.rd (by omega) (by omega) (by omega)).mono ?_
  rintro e w5 ⟨rfl, rfl⟩
  go_wp2_with fail
  refine (hI.out _ ).mono ?_
  rintro e w6 ⟨v6, rfl, hs6, hk6⟩
  obtain ⟨A6, c6, rfl⟩ := hs6.val HM.out
  have HV6 := Lib.hid hs6
  have O6 : Hid (∀ g, (Value.slice A6 m c6).ownBlock = some g → w4.heap.size ≤ g ∧ g < w6.heap.size) := Lib.hid hs6.own_ge
  have HV1 := Lib.hid (HV1.out.below hk6.below')
  have HV2 := Lib.hid (HV2.out.below hk6.below')
  have HK := Lib.hid (HK.out.nw hk6)
  have z6 : w4.heap.size ≤ w6.heap.size := hk6.size
  clear hs6 hk6
  go_wp2_with fail
  refine (eqIntS_same _ _ zs _ HV6.out.rd HV1.out.rd HL.out).mono ?_
  rintro e w7 ⟨rfl, d7, hd7⟩
  have hk7 : Kp Nw w6 w7 := by rw [hd7]; exact (Kp.refl _ _).drewN d7
  have z7 : w6.heap.size ≤ w7.heap.size := hk7.size
  clear hd7
  have HV1 := Lib.hid (HV1.out.below hk7.below')
  have HV2 := Lib.hid (HV2.out.below hk7.below')
  have HV6 := Lib.hid (HV6.out.below hk7.below')
  have HK := Lib.hid (HK.out.nw hk7)
  clear hk7
  go_wp2_with fail
  refine (heldIntS_any _ 1 m _ HV2.out.rd (by omega) (by omega) (by omega)).mono ?_
  rintro e wl ⟨rfl, rfl⟩
  go_wp2
  go_ret
  exact ⟨rfl, HK.out⟩
end Go.Proofs.Ytjlbillfbhkamaa
namespace Go.Proofs.Ytjlbillfbhkamaa
open Go.ChangeShapes Go.WideShapes Go.ChangeAt Go.RowKit

set_option maxHeartbeats 3200000 in
set_option maxRecDepth 100000 in
theorem lawCountRoundsOfTwo_of (p : Int) (s : Int) (u : Int) (z : Int) (b : Bool) (W : World)
    (hS : Hid (∀ (W : World), Calls Try.prog 19 #[.int .i64 p, .int .i64 s, .int .i64 u] W (IntB W z b))) (hI : Hid (∀ (W : World), Calls Try.prog 20 #[.int .i64 p, .int .i64 s, .int .i64 u] W (IntB W z b))) :
    Calls Try.prog 5 #[.int .i64 p, .int .i64 s, .int .i64 u] W fun e w' => e = .returned (.bool true) ∧ Kp Nw W w' := by
  have HK := Lib.hid (Kp.refl Nw W)
  go_enter Try.func5, Try.ntmps5
  go_wp2_with fail
  refine (hS.out _ ).mono ?_
  rintro e w1 ⟨rfl, hk1⟩
  have HK := Lib.hid (HK.out.nw hk1)
  have z1 : W.heap.size ≤ w1.heap.size := hk1.size
  clear hk1
  go_wp2_with fail
  refine (hI.out _ ).mono ?_
  rintro e w2 ⟨rfl, hk2⟩
  have HK := Lib.hid (HK.out.nw hk2)
  have z2 : w1.heap.size ≤ w2.heap.size := hk2.size
  clear hk2
  go_wp2
  go_ret
  exact ⟨rfl, HK.out⟩
end Go.Proofs.Ytjlbillfbhkamaa
namespace Go.Proofs.Ytjlbillfbhkamaa
open Go.ChangeShapes Go.WideShapes Go.ChangeAt Go.RowKit

set_option maxHeartbeats 3200000 in
set_option maxRecDepth 100000 in
theorem lawLastTogether_of (p : Int) (s : Int) (u : Int) (zs : List Int) (b : Bool) (W : World) (hlen : zs.length ≤ 1000000)
    (hS : Hid (∀ (W : World), Calls Try.prog 21 #[.int .i64 p, .int .i64 s, .int .i64 u] W (ListB W zs b))) (hI : Hid (∀ (W : World), Calls Try.prog 22 #[.int .i64 p, .int .i64 s, .int .i64 u] W (ListB W zs b))) :
    Calls Try.prog 6 #[.int .i64 p, .int .i64 s, .int .i64 u] W fun e w' => e = .returned (.bool true) ∧ Kp Nw W w' := by
  obtain ⟨m, hm⟩ : ∃ m, zs.length = m := ⟨_, rfl⟩
  have HL : Hid (zs.length ≤ maxLen) := Lib.hid (by unfold maxLen; omega)
  have hlen : m ≤ 1000000 := by omega
  have hm0 : (0 : Int) ≤ m := Int.natCast_nonneg _
  have HM := Lib.hid hm
  clear hm
  have HK := Lib.hid (Kp.refl Nw W)
  go_enter Try.func6, Try.ntmps6
  go_wp2_with fail
  refine (hS.out _ ).mono ?_
  rintro e w1 ⟨v1, rfl, hs1, hk1⟩
  obtain ⟨A1, c1, rfl⟩ := hs1.val HM.out
  have HV1 := Lib.hid hs1
  have O1 : Hid (∀ g, (Value.slice A1 m c1).ownBlock = some g → W.heap.size ≤ g ∧ g < w1.heap.size) := Lib.hid hs1.own_ge
  have HK := Lib.hid (HK.out.nw hk1)
  have z1 : W.heap.size ≤ w1.heap.size := hk1.size
  clear hs1 hk1
  go_wp2_with fail
  refine (hI.out _ ).mono ?_
  rintro e w2 ⟨v2, rfl, hs2, hk2⟩
  obtain ⟨A2, c2, rfl⟩ := hs2.val HM.out
  have HV2 := Lib.hid hs2
  have O2 : Hid (∀ g, (Value.slice A2 m c2).ownBlock = some g → w1.heap.size ≤ g ∧ g < w2.heap.size) := Lib.hid hs2.own_ge
  have HV1 := Lib.hid (HV1.out.below hk2.below')
  have HK := Lib.hid (HK.out.nw hk2)
  have z2 : w1.heap.size ≤ w2.heap.size := hk2.size
  clear hs2 hk2
  go_wp2_with fail
  refine (eqIntS_same _ _ zs _ HV2.out.rd HV1.out.rd HL.out).mono ?_
  rintro e w3 ⟨rfl, d3, hd3⟩
  have hk3 : Kp Nw w2 w3 := by rw [hd3]; exact (Kp.refl _ _).drewN d3
  have z3 : w2.heap.size ≤ w3.heap.size := hk3.size
  clear hd3
  have HV1 := Lib.hid (HV1.out.below hk3.below')
  have HV2 := Lib.hid (HV2.out.below hk3.below')
  have HK := Lib.hid (HK.out.nw hk3)
  clear hk3
  go_wp2_with fail
  refine (markIntS_any _ zs 1 _ _ HV2.out (by omega) (by omega) (by rw [HM.out]; omega)).mono ?_
  rintro e w4 ⟨rfl, hs4, hk4⟩
  rw [HM.out] at hs4 ⊢
  have z4 : w3.heap.size ≤ w4.heap.size := hk4.size
  have HV1 := Lib.hid (HV1.out.kp hk4 (fun g a b => by have := O1.out g a; have := O2.out g b; omega))
  have HK := Lib.hid (HK.out.after hk4 (fun g hg h2 => by have := O2.out g h2; omega))
  have HV2 := Lib.hid hs4
  clear hs4 hk4
  go_wp2_with fail
  refine (heldIntS_any _ 1 m _ HV2.out.rd (by omega) (by omega) (by omega)).mono ?_
  rintro e w5 ⟨rfl, rfl⟩
  go_wp2_with fail
  refine (hI.out _ ).mono ?_
  rintro e w6 ⟨v6, rfl, hs6, hk6⟩
  obtain ⟨A6, c6, rfl⟩ := hs6.val HM.out
  have HV6 := Lib.hid hs6
  have O6 : Hid (∀ g, (Value.slice A6 m c6).ownBlock = some g → w4.heap.size ≤ g ∧ g < w6.heap.size) := Lib.hid hs6.own_ge
  have HV1 := Lib.hid (HV1.out.below hk6.below')
  have HV2 := Lib.hid (HV2.out.below hk6.below')
  have HK := Lib.hid (HK.out.nw hk6)
  have z6 : w4.heap.size ≤ w6.heap.size := hk6.size
  clear hs6 hk6
  go_wp2_with fail
  refine (eqIntS_same _ _ zs _ HV6.out.rd HV1.out.rd HL.out).mono ?_
  rintro e w7 ⟨rfl, d7, hd7⟩
  have hk7 : Kp Nw w6 w7 := by rw [hd7]; exact (Kp.refl _ _).drewN d7
  have z7 : w6.heap.size ≤ w7.heap.size := hk7.size
  clear hd7
  have HV1 := Lib.hid (HV1.out.below hk7.below')
  have HV2 := Lib.hid (HV2.out.below hk7.below')
  have HV6 := Lib.hid (HV6.out.below hk7.below')
  have HK := Lib.hid (HK.out.nw hk7)
  clear hk7
  go_wp2_with fail
  refine (heldIntS_any _ 1 m _ HV2.out.rd (by omega) (by omega) (by omega)).mono ?_
  rintro e wl ⟨rfl, rfl⟩
  go_wp2
  go_ret
  exact ⟨rfl, HK.out⟩
end Go.Proofs.Ytjlbillfbhkamaa
namespace Go.Proofs.Ytjlbillfbhkamaa
open Go.ChangeShapes Go.WideShapes Go.ChangeAt Go.RowKit

set_option maxHeartbeats 3200000 in
set_option maxRecDepth 100000 in
theorem lawRoundOfPerson_of (p : Int) (s : Int) (u : Int) (q : Int) (z : Int) (b : Bool) (W : World)
    (hS : Hid (∀ (W : World), Calls Try.prog 23 #[.int .i64 p, .int .i64 s, .int .i64 u, .int .i64 q] W (IntB W z b))) (hI : Hid (∀ (W : World), Calls Try.prog 24 #[.int .i64 p, .int .i64 s, .int .i64 u, .int .i64 q] W (IntB W z b))) :
    Calls Try.prog 7 #[.int .i64 p, .int .i64 s, .int .i64 u, .int .i64 q] W fun e w' => e = .returned (.bool true) ∧ Kp Nw W w' := by
  have HK := Lib.hid (Kp.refl Nw W)
  go_enter Try.func7, Try.ntmps7
  go_wp2_with fail
  refine (hS.out _ ).mono ?_
  rintro e w1 ⟨rfl, hk1⟩
  have HK := Lib.hid (HK.out.nw hk1)
  have z1 : W.heap.size ≤ w1.heap.size := hk1.size
  clear hk1
  go_wp2_with fail
  refine (hI.out _ ).mono ?_
  rintro e w2 ⟨rfl, hk2⟩
  have HK := Lib.hid (HK.out.nw hk2)
  have z2 : w1.heap.size ≤ w2.heap.size := hk2.size
  clear hk2
  go_wp2
  go_ret
  exact ⟨rfl, HK.out⟩
end Go.Proofs.Ytjlbillfbhkamaa
namespace Go.Proofs.Ytjlbillfbhkamaa
open Go.ChangeShapes Go.WideShapes Go.ChangeAt Go.RowKit

set_option maxHeartbeats 3200000 in
set_option maxRecDepth 100000 in
theorem lawStepsToMeet_of (p u : Int) (z y : Int) (b : Bool) (W : World)
    (hS : Hid (∀ (W : World), Calls Try.prog 25 #[.int .i64 p, .int .i64 u] W (Int2B W z y b))) (hI : Hid (∀ (W : World), Calls Try.prog 26 #[.int .i64 p, .int .i64 u] W (Int2B W z y b))) :
    Calls Try.prog 8 #[.int .i64 p, .int .i64 u] W fun e w' => e = .returned (.bool true) ∧ Kp Nw W w' := by
  have HK := Lib.hid (Kp.refl Nw W)
  go_enter Try.func8, Try.ntmps8
  go_wp2_with fail
  refine (hS.out _ ).mono ?_
  rintro e w1 ⟨rfl, hk1⟩
  have HK := Lib.hid (HK.out.nw hk1)
  clear hk1
  go_wp2_with fail
  refine (hI.out _ ).mono ?_
  rintro e w2 ⟨rfl, hk2⟩
  have HK := Lib.hid (HK.out.nw hk2)
  clear hk2
  go_wp2
  go_ret
  exact ⟨rfl, HK.out⟩
end Go.Proofs.Ytjlbillfbhkamaa
