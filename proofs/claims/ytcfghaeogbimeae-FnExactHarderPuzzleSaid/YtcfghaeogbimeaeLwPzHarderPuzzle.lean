/- The law of HarderPuzzle: the frame, given what the model and the program return. -/
import Derived.Test.YtcfghaeogbimeaePuzB
import Derived.Test.YtcfghaeogbimeaeLwO7
import Derived.Test.YtcfghaeogbimeaeRes
import Derived.Test.YtcfghaeogbimeaeRingFn
namespace Go.Proofs.Ytcfghaeogbimeae
open Go.ChangeShapes Go.WideShapes Go.ChangeAt Go.RowKit

set_option maxHeartbeats 800000 in
theorem lawHarderPuzzle_bigP (AP : Option Addr) (nP cP : Nat) (W : World) (hm : nP ≤ maxLen) (hb : 1048576 < nP) :
    Calls Try.prog 4 #[.agg #[.slice AP nP cP]] W fun e w' => e = .returned (.bool true) ∧ Kp Nw W w' := by
  have HK := Lib.hid (Kp.refl Nw W)
  go_enter Try.func4, Try.ntmps4
  go_wp2_with fail
  refine (szPuzzle_large AP nP cP (1048576) _ hm (by omega) (by omega) (by omega)).mono ?_
  rintro e w1 ⟨rfl, hk1⟩
  have HK := Lib.hid ((HK.out.alloc (.cells #[.slice AP nP cP] 24)).nw hk1)
  have z1 : W.heap.size + 1 ≤ w1.heap.size := by have := hk1.size; simp only [World.size_alloc] at this; omega
  clear hk1
  go_wp2
  go_ret
  exact ⟨rfl, HK.out⟩

set_option maxHeartbeats 3200000 in
set_option maxRecDepth 100000 in
theorem lawHarderPuzzle_of (AP : Option Addr) (nP cP : Nat) (xsP : List Cu) (zs : List Cu) (b : Bool) (W : World) (huP : RdC W (.slice AP nP cP) xsP) (hnP : xsP.length = nP) (hso : nP ≤ 1048576) (hlen : zs.length ≤ 1000000)
    (hS : Hid (∀ (gP BP : Nat) (W : World), ClAt W BP gP nP nP xsP → Calls Try.prog 11 #[.agg #[.slice (some ⟨gP, 0, none⟩) nP nP]] W (PuzB W zs b))) (hI : Hid (∀ (gP BP : Nat) (W : World), ClAt W BP gP nP nP xsP → Calls Try.prog 12 #[.agg #[.slice (some ⟨gP, 0, none⟩) nP nP]] W (PuzB W zs b))) :
    Calls Try.prog 4 #[.agg #[.slice AP nP cP]] W fun e w' => e = .returned (.bool true) ∧ Kp Nw W w' := by
  obtain ⟨m, hm⟩ : ∃ m, zs.length = m := ⟨_, rfl⟩
  have HL : Hid (zs.length ≤ maxLen) := Lib.hid (by unfold maxLen; omega)
  have hlen : m ≤ 1000000 := by omega
  have hm0 : (0 : Int) ≤ m := Int.natCast_nonneg _
  have HM := Lib.hid hm
  clear hm
  have HUP := Lib.hid huP
  have HNP := Lib.hid hnP
  have hP : nP ≤ 1048576 := by omega
  have HLXP : Hid (xsP.length ≤ maxLen) := Lib.hid (by unfold maxLen; omega)
  have n0P : (0 : Int) ≤ nP := Int.natCast_nonneg _
  clear huP hnP
  have q1P : (0 : Int) ≤ 1048576 - (nP : Int) := by omega
  have HK := Lib.hid (Kp.refl Nw W)
  go_enter Try.func4, Try.ntmps4
  go_wp2_with fail
  refine (szPuzzle_small AP nP cP (1048576) _ (by omega) (by omega)).mono ?_
  rintro e w1 ⟨rfl, hk1⟩
  have HK := Lib.hid ((HK.out.alloc (.cells #[.slice AP nP cP] 24)).nw hk1)
  have z1 : W.heap.size + 1 ≤ w1.heap.size := by have := hk1.size; simp only [World.size_alloc] at this; omega
  have TP : Hid (w1.cell? ⟨W.heap.size, 0, none⟩ = some (.slice AP nP cP)) := Lib.hid (by have h := ((Own1.new W (.slice AP nP cP) 24).kp hk1 (fun h => h)).1; simpa only [World.size_alloc] using h)
  clear hk1
  have tTP := TP.out
  have yTP : W.heap.size < w1.heap.size := by omega
  go_wp2_with fail
  refine (toPuzzle_any AP nP cP xsP _ (HUP.out.nw HK.out) HNP.out hP).mono ?_
  rintro e w2 ⟨g2, rfl, hs2, hk2, hg2, hl2⟩
  have HTP := Lib.hid hs2
  have RHTP : Hid (w1.heap.size ≤ g2 ∧ g2 < w2.heap.size) := Lib.hid ⟨hg2, hl2⟩
  have TP := Lib.hid (keepc hk2 TP.out (fun h => h))
  have HK := Lib.hid (HK.out.nw hk2)
  have z2 : w1.heap.size ≤ w2.heap.size := hk2.size
  clear tTP yTP
  clear hs2 hk2 hg2 hl2
  go_wp2_with fail
  refine (hS.out g2 _ _ HTP.out).mono ?_
  rintro e w3 ⟨v3, rfl, hs3, hk3⟩
  obtain ⟨A3, c3, rfl⟩ := hs3.val HM.out
  have HV3 := Lib.hid hs3
  have O3 : Hid (∀ g, (Value.slice A3 m c3).ownBlock = some g → w2.heap.size ≤ g ∧ g < w3.heap.size) := Lib.hid (fun g hg => by have := hs3.own_ge g hg; omega)
  have TP := Lib.hid (keepc hk3 TP.out (fun h => h))
  have HTP := Lib.hid (HTP.out.kq hk3 (fun h => h))
  have HK := Lib.hid (HK.out.nw hk3)
  have z3 : w2.heap.size ≤ w3.heap.size := hk3.size
  clear hs3 hk3
  have tTP := TP.out
  have yTP : W.heap.size < w3.heap.size := by omega
  go_wp2_with fail
  have hkp := Kp.al w3 (.cells #[.slice A3 m c3] 30)
  have TP := Lib.hid (keepc hkp TP.out (fun h => h))
  have HV3 := Lib.hid (HV3.out.below hkp.below')
  have HK := Lib.hid (HK.out.nw hkp)
  clear hkp
  have TV3 : Hid ((w3.alloc (.cells #[.slice A3 m c3] 30)).cell? ⟨w3.heap.size, 0, none⟩ = some (.slice A3 m c3)) := Lib.hid (Own1.new w3 (.slice A3 m c3) 30).1
  refine (toPuzzle_any AP nP cP xsP _ (HUP.out.nw HK.out) HNP.out hP).mono ?_
  rintro e w4 ⟨g4, rfl, hs4, hk4, hg4, hl4⟩
  have HXP := Lib.hid hs4
  have hg4 : w3.heap.size + 1 ≤ g4 := by simp only [World.size_alloc] at hg4; omega
  have RHXP : Hid (w3.heap.size + 1 ≤ g4 ∧ g4 < w4.heap.size) := Lib.hid ⟨hg4, hl4⟩
  have TP := Lib.hid (keepc hk4 TP.out (fun h => h))
  have HV3 := Lib.hid (HV3.out.below hk4.below')
  have TV3 := Lib.hid (keepc hk4 TV3.out (fun h => h))
  have HK := Lib.hid (HK.out.nw hk4)
  have z4 : w3.heap.size + 1 ≤ w4.heap.size := by have := hk4.size; simp only [World.size_alloc] at this; omega
  clear tTP yTP
  clear hs4 hk4 hg4 hl4
  go_wp2_with fail
  have hkp := Kp.al w4 (.cells #[.slice (some ⟨g4, 0, none⟩) nP nP] 30)
  have TP := Lib.hid (keepc hkp TP.out (fun h => h))
  have HV3 := Lib.hid (HV3.out.below hkp.below')
  have TV3 := Lib.hid (keepc hkp TV3.out (fun h => h))
  have HXP := Lib.hid (HXP.out.kq hkp (fun h => h))
  have HK := Lib.hid (HK.out.nw hkp)
  clear hkp
  have TXP : Hid ((w4.alloc (.cells #[.slice (some ⟨g4, 0, none⟩) nP nP] 30)).cell? ⟨w4.heap.size, 0, none⟩ = some (.slice (some ⟨g4, 0, none⟩) nP nP)) := Lib.hid (Own1.new w4 (.slice (some ⟨g4, 0, none⟩) nP nP) 30).1
  refine (hI.out g4 _ _ HXP.out).mono ?_
  rintro e w5 ⟨v5, rfl, hs5, hk5⟩
  obtain ⟨A5, c5, rfl⟩ := hs5.val HM.out
  have HV5 := Lib.hid hs5
  have O5 : Hid (∀ g, (Value.slice A5 m c5).ownBlock = some g → w4.heap.size + 1 ≤ g ∧ g < w5.heap.size) := Lib.hid (fun g hg => by have := hs5.own_ge g hg; simp only [World.size_alloc] at this; omega)
  have TP := Lib.hid (keepc hk5 TP.out (fun h => h))
  have HV3 := Lib.hid (HV3.out.below hk5.below')
  have TV3 := Lib.hid (keepc hk5 TV3.out (fun h => h))
  have HXP := Lib.hid (HXP.out.kq hk5 (fun h => h))
  have TXP := Lib.hid (keepc hk5 TXP.out (fun h => h))
  have HK := Lib.hid (HK.out.nw hk5)
  have z5 : w4.heap.size + 1 ≤ w5.heap.size := by have := hk5.size; simp only [World.size_alloc] at this; omega
  clear hs5 hk5
  have tTV3 := TV3.out
  have yTV3 : w3.heap.size < w5.heap.size := by omega
  go_wp2_with fail
  have hkp := Kp.al w5 (.cells #[.slice A5 m c5] 30)
  have TP := Lib.hid (keepc hkp TP.out (fun h => h))
  have HV3 := Lib.hid (HV3.out.below hkp.below')
  have TV3 := Lib.hid (keepc hkp TV3.out (fun h => h))
  have HXP := Lib.hid (HXP.out.kq hkp (fun h => h))
  have TXP := Lib.hid (keepc hkp TXP.out (fun h => h))
  have HV5 := Lib.hid (HV5.out.below hkp.below')
  have HK := Lib.hid (HK.out.nw hkp)
  clear hkp
  have TV5 : Hid ((w5.alloc (.cells #[.slice A5 m c5] 30)).cell? ⟨w5.heap.size, 0, none⟩ = some (.slice A5 m c5)) := Lib.hid (Own1.new w5 (.slice A5 m c5) 30).1
  refine (eqPuzzle_same A5 A3 m c5 c3 zs _ HV5.out.rd HV3.out.rd HL.out).mono ?_
  rintro e w6 ⟨rfl, hk6⟩
  have TP := Lib.hid (keepc hk6 TP.out (fun h => h))
  have HV3 := Lib.hid (HV3.out.below hk6.below')
  have TV3 := Lib.hid (keepc hk6 TV3.out (fun h => h))
  have HXP := Lib.hid (HXP.out.kq hk6 (fun h => h))
  have TXP := Lib.hid (keepc hk6 TXP.out (fun h => h))
  have HV5 := Lib.hid (HV5.out.below hk6.below')
  have TV5 := Lib.hid (keepc hk6 TV5.out (fun h => h))
  have HK := Lib.hid (HK.out.nw hk6)
  have z6 : w5.heap.size + 1 ≤ w6.heap.size := by have := hk6.size; simp only [World.size_alloc] at this; omega
  clear tTV3 yTV3
  clear hk6
  have tTP := TP.out
  have tTXP := TXP.out
  go_wp2_with fail
  go_region_held3 (fun w' => Kp Nw w6 w' ∧ w'.cell? ⟨W.heap.size, 0, none⟩ = some (.slice AP nP cP) ∧ w'.cell? ⟨w4.heap.size, 0, none⟩ = some (.slice (some ⟨g4, 0, none⟩) nP nP))
    (first
      | exact ⟨(Kp.refl _ _).drew, TP.out, TXP.out⟩
      | exact ⟨hkW8, keepc hkW8 TP.out (fun h => h), keepc hkW8 TXP.out (fun h => h)⟩
      | exact ⟨hkW7, keepc hkW7 TP.out (fun h => h), keepc hkW7 TXP.out (fun h => h)⟩)
    (first
      | (go_at_call 8
         refine (toPuzzle_any AP nP cP xsP _ (HUP.out.nw (HK.out.nw (‹Kp Nw w6 _ ∧ _›.1))) HNP.out hP).mono ?_
         rintro e w7 ⟨g7, rfl, hs7, hk7, hg7, hl7⟩
         have hkW7 := (‹Kp Nw w6 _ ∧ _›.1).nw hk7)
      | (go_at_call 10
         refine (eqPuzzle_same _ _ nP _ _ xsP _ (HXP.out.cl.rd.nw (‹Kp Nw w6 _ ∧ _›.1)) hs7.cl.rd HLXP.out).mono ?_
         rintro e w8 ⟨rfl, hk8⟩
         have hkW8 := (‹Kp Nw w6 _ ∧ _›.1).nw hk8)
      | fail)
  clear tTP
  clear tTXP
  have TP := Lib.hid (keepc hkW8 TP.out (fun h => h))
  have HV3 := Lib.hid (HV3.out.below hkW8.below')
  have TV3 := Lib.hid (keepc hkW8 TV3.out (fun h => h))
  have HXP := Lib.hid (HXP.out.kq hkW8 (fun h => h))
  have TXP := Lib.hid (keepc hkW8 TXP.out (fun h => h))
  have HV5 := Lib.hid (HV5.out.below hkW8.below')
  have TV5 := Lib.hid (keepc hkW8 TV5.out (fun h => h))
  have HK := Lib.hid (HK.out.nw hkW8)
  have z8 : w6.heap.size ≤ w8.heap.size := hkW8.size
  clear hkW8 hkW7 hk7 hk8 hs7 hg7 hl7
  have tTXP := TXP.out
  have yTXP : w4.heap.size < w8.heap.size := by omega
  go_wp2_with fail
  refine (markPuzzle_any _ nP nP (1) xsP _ _ HXP.out.cl HNP.out (by omega) (by omega) (by rw [HNP.out]; omega)).mono ?_
  rintro e w9 ⟨rfl, _, hk9⟩
  have MP : Hid (∀ g, (Value.slice (some ⟨g4, 0, none⟩) nP nP).ownBlock = some g → g = g4) := Lib.hid (fun g hg => by simp [Value.ownBlock] at hg; omega)
  have MMP : Hid (∀ g, (Value.slice (some ⟨g4, 0, none⟩) nP nP).ownBlock = some g → _ ≤ g ∧ g < _) := Lib.hid (fun g hg => by rw [MP.out g hg]; exact RHXP.out)
  have TP := Lib.hid (keepc hk9 TP.out (fun hg => by have := MMP.out _ hg; simp only [] at this; omega))
  have HV3 := Lib.hid (HV3.out.kp hk9 (fun g a b => by have := O3.out g a; have := MMP.out g b; omega))
  have TV3 := Lib.hid (keepc hk9 TV3.out (fun hg => by have := MMP.out _ hg; simp only [] at this; omega))
  have TXP := Lib.hid (keepc hk9 TXP.out (fun hg => by have := MMP.out _ hg; simp only [] at this; omega))
  have HV5 := Lib.hid (HV5.out.kp hk9 (fun g a b => by have := O5.out g a; have := MMP.out g b; omega))
  have TV5 := Lib.hid (keepc hk9 TV5.out (fun hg => by have := MMP.out _ hg; simp only [] at this; omega))
  have HK := Lib.hid (HK.out.after hk9 (fun g hg h2 => by have := MMP.out g h2; omega))
  have z9 : w8.heap.size ≤ w9.heap.size := hk9.size
  clear hk9
  clear tTXP yTXP
  have tTV5 := TV5.out
  have yTV5 : w5.heap.size < w9.heap.size := by omega
  have tTV3 := TV3.out
  have yTV3 : w3.heap.size < w9.heap.size := by omega
  go_wp2_with fail
  refine (eqPuzzle_same A5 A3 m c5 c3 zs _ HV5.out.rd HV3.out.rd HL.out).mono ?_
  rintro e w10 ⟨rfl, hk10⟩
  have TP := Lib.hid (keepc hk10 TP.out (fun h => h))
  have HV3 := Lib.hid (HV3.out.below hk10.below')
  have TV3 := Lib.hid (keepc hk10 TV3.out (fun h => h))
  have HV5 := Lib.hid (HV5.out.below hk10.below')
  have TV5 := Lib.hid (keepc hk10 TV5.out (fun h => h))
  have HK := Lib.hid (HK.out.nw hk10)
  have z10 : w9.heap.size ≤ w10.heap.size := hk10.size
  clear tTV5 yTV5
  clear tTV3 yTV3
  clear hk10
  have tTV5 := TV5.out
  have yTV5 : w5.heap.size < w10.heap.size := by omega
  go_wp2_with fail
  refine (markPuzzle_any A5 m c5 1 zs _ _ HV5.out HM.out (by omega) (by omega) (by rw [HM.out]; omega)).mono ?_
  rintro e w11 ⟨rfl, hs11, hk11⟩
  have TP := Lib.hid (keepc hk11 TP.out (fun hg => by have := O5.out _ hg; simp only [] at this; omega))
  have HV3 := Lib.hid (HV3.out.kp hk11 (fun g a b => by have := O3.out g a; have := O5.out g b; omega))
  have TV3 := Lib.hid (keepc hk11 TV3.out (fun hg => by have := O5.out _ hg; simp only [] at this; omega))
  have TV5 := Lib.hid (keepc hk11 TV5.out (fun hg => by have := O5.out _ hg; simp only [] at this; omega))
  have HK := Lib.hid (HK.out.after hk11 (fun g hg h2 => by have := O5.out g h2; omega))
  have z11 : w10.heap.size ≤ w11.heap.size := hk11.size
  have HV5 := Lib.hid hs11
  clear hs11 hk11
  clear tTV5 yTV5
  have tTV5 := TV5.out
  have yTV5 : w5.heap.size < w11.heap.size := by omega
  go_wp2_with fail
  refine (heldPuzzle_any A5 m c5 1 _ HV5.out.rd (by omega) (by omega) (by omega)).mono ?_
  rintro e w12 ⟨rfl, hk12⟩
  have TP := Lib.hid (keepc hk12 TP.out (fun h => h))
  have HV3 := Lib.hid (HV3.out.below hk12.below')
  have TV3 := Lib.hid (keepc hk12 TV3.out (fun h => h))
  have HV5 := Lib.hid (HV5.out.below hk12.below')
  have TV5 := Lib.hid (keepc hk12 TV5.out (fun h => h))
  have HK := Lib.hid (HK.out.nw hk12)
  have z12 : w11.heap.size ≤ w12.heap.size := hk12.size
  clear tTV5 yTV5
  clear hk12
  have tTP := TP.out
  have yTP : W.heap.size < w12.heap.size := by omega
  go_wp2_with fail
  refine (toPuzzle_any AP nP cP xsP _ (HUP.out.nw HK.out) HNP.out hP).mono ?_
  rintro e w13 ⟨g13, rfl, hs13, hk13, hg13, hl13⟩
  have HZP := Lib.hid hs13
  have RHZP : Hid (w12.heap.size ≤ g13 ∧ g13 < w13.heap.size) := Lib.hid ⟨hg13, hl13⟩
  have TP := Lib.hid (keepc hk13 TP.out (fun h => h))
  have HV3 := Lib.hid (HV3.out.below hk13.below')
  have TV3 := Lib.hid (keepc hk13 TV3.out (fun h => h))
  have HV5 := Lib.hid (HV5.out.below hk13.below')
  have TV5 := Lib.hid (keepc hk13 TV5.out (fun h => h))
  have HK := Lib.hid (HK.out.nw hk13)
  have z13 : w12.heap.size ≤ w13.heap.size := hk13.size
  clear tTP yTP
  clear hs13 hk13 hg13 hl13
  go_wp2_with fail
  refine (hI.out g13 _ _ HZP.out).mono ?_
  rintro e w14 ⟨v14, rfl, hs14, hk14⟩
  obtain ⟨A14, c14, rfl⟩ := hs14.val HM.out
  have HV14 := Lib.hid hs14
  have O14 : Hid (∀ g, (Value.slice A14 m c14).ownBlock = some g → w13.heap.size ≤ g ∧ g < w14.heap.size) := Lib.hid (fun g hg => by have := hs14.own_ge g hg; omega)
  have TP := Lib.hid (keepc hk14 TP.out (fun h => h))
  have HV3 := Lib.hid (HV3.out.below hk14.below')
  have TV3 := Lib.hid (keepc hk14 TV3.out (fun h => h))
  have HV5 := Lib.hid (HV5.out.below hk14.below')
  have TV5 := Lib.hid (keepc hk14 TV5.out (fun h => h))
  have HZP := Lib.hid (HZP.out.kq hk14 (fun h => h))
  have HK := Lib.hid (HK.out.nw hk14)
  have z14 : w13.heap.size ≤ w14.heap.size := hk14.size
  clear hs14 hk14
  have tTV3 := TV3.out
  have yTV3 : w3.heap.size < w14.heap.size := by omega
  go_wp2_with fail
  have hkp := Kp.al w14 (.cells #[.slice A14 m c14] 30)
  have TP := Lib.hid (keepc hkp TP.out (fun h => h))
  have HV3 := Lib.hid (HV3.out.below hkp.below')
  have TV3 := Lib.hid (keepc hkp TV3.out (fun h => h))
  have HV5 := Lib.hid (HV5.out.below hkp.below')
  have TV5 := Lib.hid (keepc hkp TV5.out (fun h => h))
  have HV14 := Lib.hid (HV14.out.below hkp.below')
  have HK := Lib.hid (HK.out.nw hkp)
  clear hkp
  have TV14 : Hid ((w14.alloc (.cells #[.slice A14 m c14] 30)).cell? ⟨w14.heap.size, 0, none⟩ = some (.slice A14 m c14)) := Lib.hid (Own1.new w14 (.slice A14 m c14) 30).1
  refine (eqPuzzle_same A14 A3 m c14 c3 zs _ HV14.out.rd HV3.out.rd HL.out).mono ?_
  rintro e w15 ⟨rfl, hk15⟩
  have TP := Lib.hid (keepc hk15 TP.out (fun h => h))
  have HV3 := Lib.hid (HV3.out.below hk15.below')
  have TV3 := Lib.hid (keepc hk15 TV3.out (fun h => h))
  have HV5 := Lib.hid (HV5.out.below hk15.below')
  have TV5 := Lib.hid (keepc hk15 TV5.out (fun h => h))
  have HV14 := Lib.hid (HV14.out.below hk15.below')
  have TV14 := Lib.hid (keepc hk15 TV14.out (fun h => h))
  have HK := Lib.hid (HK.out.nw hk15)
  have z15 : w14.heap.size + 1 ≤ w15.heap.size := by have := hk15.size; simp only [World.size_alloc] at this; omega
  clear tTV3 yTV3
  clear hk15
  have tTV5 := TV5.out
  have yTV5 : w5.heap.size < w15.heap.size := by omega
  go_wp2_with fail
  refine (heldPuzzle_any A5 m c5 1 _ HV5.out.rd (by omega) (by omega) (by omega)).mono ?_
  rintro e w16 ⟨rfl, hk16⟩
  have TP := Lib.hid (keepc hk16 TP.out (fun h => h))
  have HV3 := Lib.hid (HV3.out.below hk16.below')
  have TV3 := Lib.hid (keepc hk16 TV3.out (fun h => h))
  have HV5 := Lib.hid (HV5.out.below hk16.below')
  have TV5 := Lib.hid (keepc hk16 TV5.out (fun h => h))
  have HV14 := Lib.hid (HV14.out.below hk16.below')
  have TV14 := Lib.hid (keepc hk16 TV14.out (fun h => h))
  have HK := Lib.hid (HK.out.nw hk16)
  have z16 : w15.heap.size ≤ w16.heap.size := hk16.size
  clear tTV5 yTV5
  clear hk16
  go_wp2
  go_ret
  exact ⟨rfl, HK.out⟩
end Go.Proofs.Ytcfghaeogbimeae
