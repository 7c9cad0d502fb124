/- The law of Solutions: the frame, given what the model and the program return. -/
import Derived.Test.YtcfghaeogbimeabMCl
import Derived.Test.YtcfghaeogbimeabLwO7
import Derived.Test.YtcfghaeogbimeabMTw
import Derived.Test.YtcfghaeogbimeabRes
import Derived.Test.YtcfghaeogbimeabRingFn
namespace Go.Proofs.Ytcfghaeogbimeab
open Go.ChangeShapes Go.WideShapes Go.ChangeAt Go.RowKit

set_option maxHeartbeats 800000 in
theorem lawSolutions_bigP (AP : Option Addr) (nP cP : Nat) (W : World) (hm : nP ≤ maxLen) (hb : 1048576 < nP) :
    Calls Try.prog 3 #[.agg #[.slice AP nP cP]] W fun e w' => e = .returned (.bool true) ∧ Kp Nw W w' := by
  have HK := Lib.hid (Kp.refl Nw W)
  go_enter Try.func3, Try.ntmps3
  go_wp2_with fail
  refine (szPuzzle_large AP nP cP (1048576) _ hm (by omega) (by omega) (by omega)).mono ?_
  rintro e w1 ⟨rfl, hk1⟩
  have HK := Lib.hid ((HK.out.alloc (.cells #[.slice AP nP cP] 24)).nw hk1)
  have z1 : W.heap.size + 1 ≤ w1.heap.size := by have := hk1.size; simp only [World.size_alloc] at this; omega
  clear hk1
  go_wp2
  go_ret
  exact ⟨rfl, HK.out⟩

set_option maxHeartbeats 3200000 in
set_option maxRecDepth 100000 in
theorem lawSolutions_of (AP : Option Addr) (nP cP : Nat) (xsP : List Cu) (xss : List (List Int)) (q : Bool) (W : World) (huP : RdC W (.slice AP nP cP) xsP) (hnP : xsP.length = nP) (hso : nP ≤ 1048576) (hxl : xss.length ≤ 1000) (hxl2 : ∀ xs ∈ xss, xs.length ≤ 1000)
    (hS : Hid (∀ (gP BP : Nat) (W : World), ClAt W BP gP nP nP xsP → Calls Try.prog 7 #[.agg #[.slice (some ⟨gP, 0, none⟩) nP nP]] W (ListSB W xss q))) (hI : Hid (∀ (gP BP : Nat) (W : World), ClAt W BP gP nP nP xsP → Calls Try.prog 9 #[.agg #[.slice (some ⟨gP, 0, none⟩) nP nP]] W (ListSB W xss q))) :
    Calls Try.prog 3 #[.agg #[.slice AP nP cP]] W fun e w' => e = .returned (.bool true) ∧ Kp Nw W w' := by
  obtain ⟨n, hn⟩ : ∃ n, xss.length = n := ⟨_, rfl⟩
  have hoff := offS_le xss 1000 hxl2
  have HB : Hid (∀ j, j < n → (1 : Int) + offS xss j ≤ 1000000000 ∧ (xss.getD j []).length ≤ 1000000000) := Lib.hid (fun j hj => by
    have h1 := hoff j (by omega)
    have h3 : j * 1000 ≤ 1000000 := by omega
    refine ⟨by omega, ?_⟩
    have h2 : xss.getD j [] ∈ xss := by
      have : xss.getD j [] = xss[j]'(by omega) := by simp [List.getD, show j < xss.length by omega]
      rw [this]; exact List.getElem_mem _
    have := hxl2 _ h2
    omega)
  have HTOT : Hid ((1 : Int) + offS xss n ≤ 1000000000) := Lib.hid (by have h1 := hoff n (by omega); omega)
  have HL2 : Hid (∀ xs ∈ xss, xs.length ≤ 1000000) := Lib.hid (fun xs h => by have := hxl2 xs h; omega)
  obtain ⟨tt, ht⟩ : ∃ t : Int, (1 : Int) + offS xss n = t := ⟨_, rfl⟩
  have t1 : 1 ≤ tt := by omega
  have tn : ¬ tt < 0 := by omega
  have HTT := Lib.hid ht
  have HN := Lib.hid hn
  have hln : n ≤ 1000 := by omega
  clear hn hoff ht hxl hxl2
  have HUP := Lib.hid huP
  have HNP := Lib.hid hnP
  have hP : nP ≤ 1048576 := by omega
  have HLXP : Hid (xsP.length ≤ maxLen) := Lib.hid (by unfold maxLen; omega)
  have n0P : (0 : Int) ≤ nP := Int.natCast_nonneg _
  clear huP hnP
  have q1P : (0 : Int) ≤ 1048576 - (nP : Int) := by omega
  have HK := Lib.hid (Kp.refl Nw W)
  go_enter Try.func3, Try.ntmps3
  go_wp2_with fail
  refine (szPuzzle_small AP nP cP (1048576) _ (by omega) (by omega)).mono ?_
  rintro e w1 ⟨rfl, hk1⟩
  have HK := Lib.hid ((HK.out.alloc (.cells #[.slice AP nP cP] 24)).nw hk1)
  have z1 : W.heap.size + 1 ≤ w1.heap.size := by have := hk1.size; simp only [World.size_alloc] at this; omega
  have TP : Hid (w1.cell? ⟨W.heap.size, 0, none⟩ = some (.slice AP nP cP)) := Lib.hid (by have h := ((Own1.new W (.slice AP nP cP) 24).kp hk1 (fun h => h)).1; simpa only [World.size_alloc] using h)
  clear hk1
  have tTP := TP.out
  have yTP : W.heap.size < w1.heap.size := by omega
  go_wp2_with fail
  refine (toPuzzle_any AP nP cP xsP _ (HUP.out.nw HK.out) HNP.out hP).mono ?_
  rintro e w2 ⟨g2, rfl, hs2, hk2, hg2, hl2⟩
  have HTP := Lib.hid hs2
  have RHTP : Hid (w1.heap.size ≤ g2 ∧ g2 < w2.heap.size) := Lib.hid ⟨hg2, hl2⟩
  have TP := Lib.hid (keepc hk2 TP.out (fun h => h))
  have HK := Lib.hid (HK.out.nw hk2)
  have z2 : w1.heap.size ≤ w2.heap.size := hk2.size
  clear tTP yTP
  clear hs2 hk2 hg2 hl2
  go_wp2_with fail
  refine (hS.out g2 _ _ HTP.out).mono ?_
  rintro e w3 ⟨v3, rfl, hs3, hk3⟩
  obtain ⟨A3, c3, rfl⟩ := hs3.val HN.out
  have HV3 := Lib.hid hs3
  have TP := Lib.hid (keepc hk3 TP.out (fun h => h))
  have HTP := Lib.hid (HTP.out.kq hk3 (fun h => h))
  have HK := Lib.hid (HK.out.nw hk3)
  have z3 : w2.heap.size ≤ w3.heap.size := hk3.size
  clear hs3 hk3
  have tTP := TP.out
  have yTP : W.heap.size < w3.heap.size := by omega
  go_wp2_with fail
  refine (toPuzzle_any AP nP cP xsP _ (HUP.out.nw HK.out) HNP.out hP).mono ?_
  rintro e w4 ⟨g4, rfl, hs4, hk4, hg4, hl4⟩
  have HXP := Lib.hid hs4
  have RHXP : Hid (w3.heap.size ≤ g4 ∧ g4 < w4.heap.size) := Lib.hid ⟨hg4, hl4⟩
  have TP := Lib.hid (keepc hk4 TP.out (fun h => h))
  have HV3 := Lib.hid (HV3.out.nw hk4)
  have HK := Lib.hid (HK.out.nw hk4)
  have z4 : w3.heap.size ≤ w4.heap.size := hk4.size
  clear tTP yTP
  clear hs4 hk4 hg4 hl4
  go_wp2_with fail
  have hkp := Kp.al w4 (.cells #[.slice (some ⟨g4, 0, none⟩) nP nP] 31)
  have TP := Lib.hid (keepc hkp TP.out (fun h => h))
  have HV3 := Lib.hid (HV3.out.nw hkp)
  have HXP := Lib.hid (HXP.out.kq hkp (fun h => h))
  have HK := Lib.hid (HK.out.nw hkp)
  clear hkp
  have TXP : Hid ((w4.alloc (.cells #[.slice (some ⟨g4, 0, none⟩) nP nP] 31)).cell? ⟨w4.heap.size, 0, none⟩ = some (.slice (some ⟨g4, 0, none⟩) nP nP)) := Lib.hid (Own1.new w4 (.slice (some ⟨g4, 0, none⟩) nP nP) 31).1
  refine (hI.out g4 _ _ HXP.out).mono ?_
  rintro e w5 ⟨v5, rfl, hs5, hk5⟩
  obtain ⟨A5, c5, rfl⟩ := hs5.val HN.out
  simp only [World.size_alloc] at hs5
  have HV5 := Lib.hid hs5
  have TP := Lib.hid (keepc hk5 TP.out (fun h => h))
  have HV3 := Lib.hid (HV3.out.nw hk5)
  have HXP := Lib.hid (HXP.out.kq hk5 (fun h => h))
  have TXP := Lib.hid (keepc hk5 TXP.out (fun h => h))
  have HK := Lib.hid (HK.out.nw hk5)
  have z5 : w4.heap.size + 1 ≤ w5.heap.size := by have := hk5.size; simp only [World.size_alloc] at this; omega
  clear hs5 hk5
  go_wp2_with fail
  refine (eqIntSS_same _ _ _ _ _ _ xss _ HV5.out HV3.out (by rw [HN.out]; omega) HL2.out).mono ?_
  rintro e w6 ⟨rfl, hk6⟩
  have TP := Lib.hid (keepc hk6 TP.out (fun h => h))
  have HV3 := Lib.hid (HV3.out.nw hk6)
  have HXP := Lib.hid (HXP.out.kq hk6 (fun h => h))
  have TXP := Lib.hid (keepc hk6 TXP.out (fun h => h))
  have HV5 := Lib.hid (HV5.out.nw hk6)
  have HK := Lib.hid (HK.out.nw hk6)
  have z6 : w5.heap.size ≤ w6.heap.size := hk6.size
  clear hk6
  have tTP := TP.out
  have tTXP := TXP.out
  go_wp2_with fail
  go_region_held3 (fun w' => Kp Nw w6 w' ∧ w'.cell? ⟨W.heap.size, 0, none⟩ = some (.slice AP nP cP) ∧ w'.cell? ⟨w4.heap.size, 0, none⟩ = some (.slice (some ⟨g4, 0, none⟩) nP nP))
    (first
      | exact ⟨(Kp.refl _ _).drew, TP.out, TXP.out⟩
      | exact ⟨hkW8, keepc hkW8 TP.out (fun h => h), keepc hkW8 TXP.out (fun h => h)⟩
      | exact ⟨hkW7, keepc hkW7 TP.out (fun h => h), keepc hkW7 TXP.out (fun h => h)⟩)
    (first
      | (go_at_call 8
         refine (toPuzzle_any AP nP cP xsP _ (HUP.out.nw (HK.out.nw (‹Kp Nw w6 _ ∧ _›.1))) HNP.out hP).mono ?_
         rintro e w7 ⟨g7, rfl, hs7, hk7, hg7, hl7⟩
         have hkW7 := (‹Kp Nw w6 _ ∧ _›.1).nw hk7)
      | (go_at_call 11
         refine (eqPuzzle_same _ _ nP _ _ xsP _ (HXP.out.cl.rd.nw (‹Kp Nw w6 _ ∧ _›.1)) hs7.cl.rd HLXP.out).mono ?_
         rintro e w8 ⟨rfl, hk8⟩
         have hkW8 := (‹Kp Nw w6 _ ∧ _›.1).nw hk8)
      | fail)
  clear tTP
  clear tTXP
  have TP := Lib.hid (keepc hkW8 TP.out (fun h => h))
  have HV3 := Lib.hid (HV3.out.nw hkW8)
  have HXP := Lib.hid (HXP.out.kq hkW8 (fun h => h))
  have TXP := Lib.hid (keepc hkW8 TXP.out (fun h => h))
  have HV5 := Lib.hid (HV5.out.nw hkW8)
  have HK := Lib.hid (HK.out.nw hkW8)
  have z8 : w6.heap.size ≤ w8.heap.size := hkW8.size
  clear hkW8 hkW7 hk7 hk8 hs7 hg7 hl7
  have tTXP := TXP.out
  have yTXP : w4.heap.size < w8.heap.size := by omega
  go_wp2_with fail
  refine (markPuzzle_any _ nP nP (1) xsP _ _ HXP.out.cl HNP.out (by omega) (by omega) (by rw [HNP.out]; omega)).mono ?_
  rintro e w9 ⟨rfl, _, hk9⟩
  have MP : Hid (∀ g, (Value.slice (some ⟨g4, 0, none⟩) nP nP).ownBlock = some g → g = g4) := Lib.hid (fun g hg => by simp [Value.ownBlock] at hg; omega)
  have MMP : Hid (∀ g, (Value.slice (some ⟨g4, 0, none⟩) nP nP).ownBlock = some g → _ ≤ g ∧ g < _) := Lib.hid (fun g hg => by rw [MP.out g hg]; exact RHXP.out)
  have TP := Lib.hid (keepc hk9 TP.out (fun hg => by have := MMP.out _ hg; simp only [] at this; omega))
  have HV3 := Lib.hid (HV3.out.kp hk9 (fun g _ _ h => by have := MMP.out g h; omega))
  have TXP := Lib.hid (keepc hk9 TXP.out (fun hg => by have := MMP.out _ hg; simp only [] at this; omega))
  have HV5 := Lib.hid (HV5.out.kp hk9 (fun g _ _ h => by have := MMP.out g h; omega))
  have HK := Lib.hid (HK.out.after hk9 (fun g hg h2 => by have := MMP.out g h2; omega))
  have z9 : w8.heap.size ≤ w9.heap.size := hk9.size
  clear hk9
  clear tTXP yTXP
  go_wp2_with fail
  refine (eqIntSS_same _ _ _ _ _ _ xss _ HV5.out HV3.out (by rw [HN.out]; omega) HL2.out).mono ?_
  rintro e w10 ⟨rfl, hk10⟩
  have TP := Lib.hid (keepc hk10 TP.out (fun h => h))
  have HV3 := Lib.hid (HV3.out.nw hk10)
  have HV5 := Lib.hid (HV5.out.nw hk10)
  have HK := Lib.hid (HK.out.nw hk10)
  have z10 : w9.heap.size ≤ w10.heap.size := hk10.size
  clear hk10
  go_wp2_with fail
  refine (markIntSS_any _ (w4.heap.size + 1) (w5.heap.size) n xss 1 _ HV5.out HN.out (by omega) HTOT.out (by omega) HB.out).mono ?_
  rw [HTT.out]
  rintro e w11 ⟨rfl, hs11, hk11⟩
  have TP := Lib.hid (keepc hk11 TP.out (fun hg => by simp only [] at hg; omega))
  have HV3 := Lib.hid (HV3.out.kp hk11 (fun g _ _ h => by omega))
  have HK := Lib.hid (HK.out.after hk11 (fun g hg h2 => by omega))
  have z11 : w10.heap.size ≤ w11.heap.size := hk11.size
  have HV5 := Lib.hid hs11
  clear hs11 hk11
  go_wp2_with fail
  refine (heldIntSS_any _ (w4.heap.size + 1) (w5.heap.size) n xss 1 _ HV5.out HN.out (by omega) (by omega) HB.out).mono ?_
  rw [HTT.out]
  rintro e wh ⟨rfl, rfl⟩
  have tTP := TP.out
  have yTP : W.heap.size < w11.heap.size := by omega
  go_wp2_with fail
  refine (toPuzzle_any AP nP cP xsP _ (HUP.out.nw HK.out) HNP.out hP).mono ?_
  rintro e w12 ⟨g12, rfl, hs12, hk12, hg12, hl12⟩
  have HZP := Lib.hid hs12
  have RHZP : Hid (w11.heap.size ≤ g12 ∧ g12 < w12.heap.size) := Lib.hid ⟨hg12, hl12⟩
  have TP := Lib.hid (keepc hk12 TP.out (fun h => h))
  have HV3 := Lib.hid (HV3.out.nw hk12)
  have HV5 := Lib.hid (HV5.out.nw hk12)
  have HK := Lib.hid (HK.out.nw hk12)
  have z12 : w11.heap.size ≤ w12.heap.size := hk12.size
  clear tTP yTP
  clear hs12 hk12 hg12 hl12
  go_wp2_with fail
  refine (hI.out g12 _ _ HZP.out).mono ?_
  rintro e w13 ⟨v13, rfl, hs13, hk13⟩
  obtain ⟨A13, c13, rfl⟩ := hs13.val HN.out
  have HV13 := Lib.hid hs13
  have TP := Lib.hid (keepc hk13 TP.out (fun h => h))
  have HV3 := Lib.hid (HV3.out.nw hk13)
  have HV5 := Lib.hid (HV5.out.nw hk13)
  have HZP := Lib.hid (HZP.out.kq hk13 (fun h => h))
  have HK := Lib.hid (HK.out.nw hk13)
  have z13 : w12.heap.size ≤ w13.heap.size := hk13.size
  clear hs13 hk13
  go_wp2_with fail
  refine (eqIntSS_same _ _ _ _ _ _ xss _ HV13.out HV3.out (by rw [HN.out]; omega) HL2.out).mono ?_
  rintro e w14 ⟨rfl, hk14⟩
  have TP := Lib.hid (keepc hk14 TP.out (fun h => h))
  have HV3 := Lib.hid (HV3.out.nw hk14)
  have HV5 := Lib.hid (HV5.out.nw hk14)
  have HV13 := Lib.hid (HV13.out.nw hk14)
  have HK := Lib.hid (HK.out.nw hk14)
  have z14 : w13.heap.size ≤ w14.heap.size := hk14.size
  clear hk14
  go_wp2_with fail
  refine (heldIntSS_any _ (w4.heap.size + 1) (w5.heap.size) n xss 1 _ HV5.out HN.out (by omega) (by omega) HB.out).mono ?_
  rw [HTT.out]
  rintro e wh ⟨rfl, rfl⟩
  go_wp2
  go_ret
  exact ⟨rfl, HK.out⟩
end Go.Proofs.Ytcfghaeogbimeab
