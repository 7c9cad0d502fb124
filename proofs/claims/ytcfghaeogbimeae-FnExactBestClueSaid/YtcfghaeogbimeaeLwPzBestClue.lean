/- The law of BestClue: the frame, given what the model and the program return. -/
import Derived.Test.YtcfghaeogbimeaeMCl
import Derived.Test.YtcfghaeogbimeaeLwO7
import Derived.Test.YtcfghaeogbimeaeRes
import Derived.Test.YtcfghaeogbimeaeRingFn
namespace Go.Proofs.Ytcfghaeogbimeae
open Go.ChangeShapes Go.WideShapes Go.ChangeAt Go.RowKit

set_option maxHeartbeats 800000 in
theorem lawBestClue_bigP (AP : Option Addr) (nP cP : Nat) (W : World) (hm : nP ≤ maxLen) (hb : 1048576 < nP) :
    Calls Try.prog 3 #[.agg #[.slice AP nP cP]] W fun e w' => e = .returned (.bool true) ∧ Kp Nw W w' := by
  have HK := Lib.hid (Kp.refl Nw W)
  go_enter Try.func3, Try.ntmps3
  go_wp2_with fail
  refine (szPuzzle_large AP nP cP (1048576) _ hm (by omega) (by omega) (by omega)).mono ?_
  rintro e w1 ⟨rfl, hk1⟩
  have HK := Lib.hid ((HK.out.alloc (.cells #[.slice AP nP cP] 24)).nw hk1)
  have z1 : W.heap.size + 1 ≤ w1.heap.size := by have := hk1.size; simp only [World.size_alloc] at this; omega
  clear hk1
  go_wp2
  go_ret
  exact ⟨rfl, HK.out⟩

set_option maxHeartbeats 3200000 in
set_option maxRecDepth 100000 in
theorem lawBestClue_of (AP : Option Addr) (nP cP : Nat) (xsP : List Cu) (z : Int) (b : Bool) (W : World) (huP : RdC W (.slice AP nP cP) xsP) (hnP : xsP.length = nP) (hso : nP ≤ 1048576)
    (hS : Hid (∀ (gP BP : Nat) (W : World), ClAt W BP gP nP nP xsP → Calls Try.prog 7 #[.agg #[.slice (some ⟨gP, 0, none⟩) nP nP]] W (IntB W z b))) (hI : Hid (∀ (gP BP : Nat) (W : World), ClAt W BP gP nP nP xsP → Calls Try.prog 9 #[.agg #[.slice (some ⟨gP, 0, none⟩) nP nP]] W (IntB W z b))) :
    Calls Try.prog 3 #[.agg #[.slice AP nP cP]] W fun e w' => e = .returned (.bool true) ∧ Kp Nw W w' := by
  have HUP := Lib.hid huP
  have HNP := Lib.hid hnP
  have hP : nP ≤ 1048576 := by omega
  have HLXP : Hid (xsP.length ≤ maxLen) := Lib.hid (by unfold maxLen; omega)
  have n0P : (0 : Int) ≤ nP := Int.natCast_nonneg _
  clear huP hnP
  have q1P : (0 : Int) ≤ 1048576 - (nP : Int) := by omega
  have HK := Lib.hid (Kp.refl Nw W)
  go_enter Try.func3, Try.ntmps3
  go_wp2_with fail
  refine (szPuzzle_small AP nP cP (1048576) _ (by omega) (by omega)).mono ?_
  rintro e w1 ⟨rfl, hk1⟩
  have HK := Lib.hid ((HK.out.alloc (.cells #[.slice AP nP cP] 24)).nw hk1)
  have z1 : W.heap.size + 1 ≤ w1.heap.size := by have := hk1.size; simp only [World.size_alloc] at this; omega
  have TP : Hid (w1.cell? ⟨W.heap.size, 0, none⟩ = some (.slice AP nP cP)) := Lib.hid (by have h := ((Own1.new W (.slice AP nP cP) 24).kp hk1 (fun h => h)).1; simpa only [World.size_alloc] using h)
  clear hk1
  have tTP := TP.out
  have yTP : W.heap.size < w1.heap.size := by omega
  go_wp2_with fail
  refine (toPuzzle_any AP nP cP xsP _ (HUP.out.nw HK.out) HNP.out hP).mono ?_
  rintro e w2 ⟨g2, rfl, hs2, hk2, hg2, hl2⟩
  have HTP := Lib.hid hs2
  have RHTP : Hid (w1.heap.size ≤ g2 ∧ g2 < w2.heap.size) := Lib.hid ⟨hg2, hl2⟩
  have TP := Lib.hid (keepc hk2 TP.out (fun h => h))
  have HK := Lib.hid (HK.out.nw hk2)
  have z2 : w1.heap.size ≤ w2.heap.size := hk2.size
  clear tTP yTP
  clear hs2 hk2 hg2 hl2
  go_wp2_with fail
  refine (hS.out g2 _ _ HTP.out).mono ?_
  rintro e w3 ⟨rfl, hk3⟩
  have TP := Lib.hid (keepc hk3 TP.out (fun h => h))
  have HTP := Lib.hid (HTP.out.kq hk3 (fun h => h))
  have HK := Lib.hid (HK.out.nw hk3)
  have z3 : w2.heap.size ≤ w3.heap.size := hk3.size
  clear hk3
  have tTP := TP.out
  have yTP : W.heap.size < w3.heap.size := by omega
  go_wp2_with fail
  refine (toPuzzle_any AP nP cP xsP _ (HUP.out.nw HK.out) HNP.out hP).mono ?_
  rintro e w4 ⟨g4, rfl, hs4, hk4, hg4, hl4⟩
  have HXP := Lib.hid hs4
  have RHXP : Hid (w3.heap.size ≤ g4 ∧ g4 < w4.heap.size) := Lib.hid ⟨hg4, hl4⟩
  have TP := Lib.hid (keepc hk4 TP.out (fun h => h))
  have HK := Lib.hid (HK.out.nw hk4)
  have z4 : w3.heap.size ≤ w4.heap.size := hk4.size
  clear tTP yTP
  clear hs4 hk4 hg4 hl4
  go_wp2_with fail
  have hkp := Kp.al w4 (.cells #[.slice (some ⟨g4, 0, none⟩) nP nP] 30)
  have TP := Lib.hid (keepc hkp TP.out (fun h => h))
  have HXP := Lib.hid (HXP.out.kq hkp (fun h => h))
  have HK := Lib.hid (HK.out.nw hkp)
  clear hkp
  have TXP : Hid ((w4.alloc (.cells #[.slice (some ⟨g4, 0, none⟩) nP nP] 30)).cell? ⟨w4.heap.size, 0, none⟩ = some (.slice (some ⟨g4, 0, none⟩) nP nP)) := Lib.hid (Own1.new w4 (.slice (some ⟨g4, 0, none⟩) nP nP) 30).1
  refine (hI.out g4 _ _ HXP.out).mono ?_
  rintro e w5 ⟨rfl, hk5⟩
  have TP := Lib.hid (keepc hk5 TP.out (fun h => h))
  have HXP := Lib.hid (HXP.out.kq hk5 (fun h => h))
  have TXP := Lib.hid (keepc hk5 TXP.out (fun h => h))
  have HK := Lib.hid (HK.out.nw hk5)
  have z5 : w4.heap.size + 1 ≤ w5.heap.size := by have := hk5.size; simp only [World.size_alloc] at this; omega
  clear hk5
  have tTP := TP.out
  have tTXP := TXP.out
  go_wp2_with fail
  go_region_held3 (fun w' => Kp Nw w5 w' ∧ w'.cell? ⟨W.heap.size, 0, none⟩ = some (.slice AP nP cP) ∧ w'.cell? ⟨w4.heap.size, 0, none⟩ = some (.slice (some ⟨g4, 0, none⟩) nP nP))
    (first
      | exact ⟨(Kp.refl _ _).drew, TP.out, TXP.out⟩
      | exact ⟨hkW7, keepc hkW7 TP.out (fun h => h), keepc hkW7 TXP.out (fun h => h)⟩
      | exact ⟨hkW6, keepc hkW6 TP.out (fun h => h), keepc hkW6 TXP.out (fun h => h)⟩)
    (first
      | (go_at_call 8
         refine (toPuzzle_any AP nP cP xsP _ (HUP.out.nw (HK.out.nw (‹Kp Nw w5 _ ∧ _›.1))) HNP.out hP).mono ?_
         rintro e w6 ⟨g6, rfl, hs6, hk6, hg6, hl6⟩
         have hkW6 := (‹Kp Nw w5 _ ∧ _›.1).nw hk6)
      | (go_at_call 10
         refine (eqPuzzle_same _ _ nP _ _ xsP _ (HXP.out.cl.rd.nw (‹Kp Nw w5 _ ∧ _›.1)) hs6.cl.rd HLXP.out).mono ?_
         rintro e w7 ⟨rfl, hk7⟩
         have hkW7 := (‹Kp Nw w5 _ ∧ _›.1).nw hk7)
      | fail)
  clear tTP
  clear tTXP
  have TP := Lib.hid (keepc hkW7 TP.out (fun h => h))
  have HXP := Lib.hid (HXP.out.kq hkW7 (fun h => h))
  have TXP := Lib.hid (keepc hkW7 TXP.out (fun h => h))
  have HK := Lib.hid (HK.out.nw hkW7)
  have z7 : w5.heap.size ≤ w7.heap.size := hkW7.size
  clear hkW7 hkW6 hk6 hk7 hs6 hg6 hl6
  go_wp2
  go_ret
  exact ⟨rfl, HK.out⟩
end Go.Proofs.Ytcfghaeogbimeae
