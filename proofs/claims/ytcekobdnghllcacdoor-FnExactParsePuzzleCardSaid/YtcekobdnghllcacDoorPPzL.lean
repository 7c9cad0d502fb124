/- The law of ParsePuzzle: the program reads exactly the texts that its model reads, into the same puzzle, in new memory; the world holds the library's tables and errors. -/
import Derived.Test.YtcekobdnghllcacDoorPPzJ
import Derived.Test.YtcekobdnghllcacDoorPPzS
import Derived.Test.YtcekobdnghllcacDoorMCl
import Derived.Test.YtcekobdnghllcacDoorLwO7
import Derived.Deep.DeepCutAuto
namespace Go.Proofs.YtcekobdnghllcacDoor
open Go.ChangeShapes Go.WideShapes Go.ChangeAt Go.RowKit

set_option maxHeartbeats 800000 in
theorem lawParsePuzzle_bigt (t : ByteArray) (W : World) (hm : t.size ≤ maxLen) (hb : (1048576 : Int) < t.size) :
    Calls Tryd.prog 3 #[.string t] W fun e w' => e = .returned (.bool true) ∧ Kp Nw W w' := by
  have hb3 : (t.size : Int) ≤ 9223372036854775807 := by unfold maxLen at hm; omega
  go_enter Tryd.func3, Tryd.ntmps3
  go_wp2
  go_ret
  exact ⟨rfl, Kp.refl _ _⟩

set_option maxHeartbeats 3200000 in
set_option maxRecDepth 100000 in
theorem lawParsePuzzle_of (t : ByteArray) (zs : List Cu) (b : Bool) (W : World) (ht : (t.size : Int) ≤ 1048576) (hlen : zs.length ≤ 1000000)
    (hS : Hid (∀ (W : World), Calls Tryd.prog 4 #[.string t] W (PuzB W zs b))) (hI : Hid (∀ (V : World), Kp Nw W V → Calls Tryd.prog 5 #[.string t] V (PuzB V zs b))) :
    Calls Tryd.prog 3 #[.string t] W fun e w' => e = .returned (.bool true) ∧ Kp Nw W w' := by
  obtain ⟨m, hm⟩ : ∃ m, zs.length = m := ⟨_, rfl⟩
  have HL : Hid (zs.length ≤ maxLen) := Lib.hid (by unfold maxLen; omega)
  have hlen : m ≤ 1000000 := by omega
  have hm0 : (0 : Int) ≤ m := Int.natCast_nonneg _
  have HM := Lib.hid hm
  clear hm
  have HK := Lib.hid (Kp.refl Nw W)
  go_enter Tryd.func3, Tryd.ntmps3
  go_wp2_with fail
  refine (hS.out _ ).mono ?_
  rintro e w1 ⟨v1, rfl, hs1, hk1⟩
  obtain ⟨A1, c1, rfl⟩ := hs1.val HM.out
  have HV1 := Lib.hid hs1
  have O1 : Hid (∀ g, (Value.slice A1 m c1).ownBlock = some g → W.heap.size ≤ g ∧ g < w1.heap.size) := Lib.hid (fun g hg => by have := hs1.own_ge g hg; omega)
  have HK := Lib.hid (HK.out.nw hk1)
  have z1 : W.heap.size ≤ w1.heap.size := hk1.size
  clear hs1 hk1
  go_wp2_with fail
  have hkp := Kp.al w1 (.cells #[.slice A1 m c1] 24)
  have HV1 := Lib.hid (HV1.out.below hkp.below')
  have HK := Lib.hid (HK.out.nw hkp)
  clear hkp
  have TV1 : Hid ((w1.alloc (.cells #[.slice A1 m c1] 24)).cell? ⟨w1.heap.size, 0, none⟩ = some (.slice A1 m c1)) := Lib.hid (Own1.new w1 (.slice A1 m c1) 24).1
  refine (hI.out _ HK.out).mono ?_
  rintro e w2 ⟨v2, rfl, hs2, hk2⟩
  obtain ⟨A2, c2, rfl⟩ := hs2.val HM.out
  have HV2 := Lib.hid hs2
  have O2 : Hid (∀ g, (Value.slice A2 m c2).ownBlock = some g → w1.heap.size + 1 ≤ g ∧ g < w2.heap.size) := Lib.hid (fun g hg => by have := hs2.own_ge g hg; simp only [World.size_alloc] at this; omega)
  have HV1 := Lib.hid (HV1.out.below hk2.below')
  have TV1 := Lib.hid (keepc hk2 TV1.out (fun h => h))
  have HK := Lib.hid (HK.out.nw hk2)
  have z2 : w1.heap.size + 1 ≤ w2.heap.size := by have := hk2.size; simp only [World.size_alloc] at this; omega
  clear hs2 hk2
  have tTV1 := TV1.out
  have yTV1 : w1.heap.size < w2.heap.size := by omega
  go_wp2_with fail
  have hkp := Kp.al w2 (.cells #[.slice A2 m c2] 24)
  have HV1 := Lib.hid (HV1.out.below hkp.below')
  have TV1 := Lib.hid (keepc hkp TV1.out (fun h => h))
  have HV2 := Lib.hid (HV2.out.below hkp.below')
  have HK := Lib.hid (HK.out.nw hkp)
  clear hkp
  have TV2 : Hid ((w2.alloc (.cells #[.slice A2 m c2] 24)).cell? ⟨w2.heap.size, 0, none⟩ = some (.slice A2 m c2)) := Lib.hid (Own1.new w2 (.slice A2 m c2) 24).1
  refine (eqPuzzle_same A2 A1 m c2 c1 zs _ HV2.out.rd HV1.out.rd HL.out).mono ?_
  rintro e w3 ⟨rfl, hk3⟩
  have HV1 := Lib.hid (HV1.out.below hk3.below')
  have TV1 := Lib.hid (keepc hk3 TV1.out (fun h => h))
  have HV2 := Lib.hid (HV2.out.below hk3.below')
  have TV2 := Lib.hid (keepc hk3 TV2.out (fun h => h))
  have HK := Lib.hid (HK.out.nw hk3)
  have z3 : w2.heap.size + 1 ≤ w3.heap.size := by have := hk3.size; simp only [World.size_alloc] at this; omega
  clear tTV1 yTV1
  clear hk3
  have tTV2 := TV2.out
  have yTV2 : w2.heap.size < w3.heap.size := by omega
  go_wp2_with fail
  refine (markPuzzle_any A2 m c2 1 zs _ _ HV2.out HM.out (by omega) (by omega) (by rw [HM.out]; omega)).mono ?_
  rintro e w4 ⟨rfl, hs4, hk4⟩
  have HV1 := Lib.hid (HV1.out.kp hk4 (fun g a b => by have := O1.out g a; have := O2.out g b; omega))
  have TV1 := Lib.hid (keepc hk4 TV1.out (fun hg => by have := O2.out _ hg; simp only [] at this; omega))
  have TV2 := Lib.hid (keepc hk4 TV2.out (fun hg => by have := O2.out _ hg; simp only [] at this; omega))
  have HK := Lib.hid (HK.out.after hk4 (fun g hg h2 => by have := O2.out g h2; omega))
  have z4 : w3.heap.size ≤ w4.heap.size := hk4.size
  have HV2 := Lib.hid hs4
  clear hs4 hk4
  clear tTV2 yTV2
  have tTV2 := TV2.out
  have yTV2 : w2.heap.size < w4.heap.size := by omega
  go_wp2_with fail
  refine (heldPuzzle_any A2 m c2 1 _ HV2.out.rd (by omega) (by omega) (by omega)).mono ?_
  rintro e w5 ⟨rfl, hk5⟩
  have HV1 := Lib.hid (HV1.out.below hk5.below')
  have TV1 := Lib.hid (keepc hk5 TV1.out (fun h => h))
  have HV2 := Lib.hid (HV2.out.below hk5.below')
  have TV2 := Lib.hid (keepc hk5 TV2.out (fun h => h))
  have HK := Lib.hid (HK.out.nw hk5)
  have z5 : w4.heap.size ≤ w5.heap.size := hk5.size
  clear tTV2 yTV2
  clear hk5
  go_wp2_with fail
  refine (hI.out _ HK.out).mono ?_
  rintro e w6 ⟨v6, rfl, hs6, hk6⟩
  obtain ⟨A6, c6, rfl⟩ := hs6.val HM.out
  have HV6 := Lib.hid hs6
  have O6 : Hid (∀ g, (Value.slice A6 m c6).ownBlock = some g → w5.heap.size ≤ g ∧ g < w6.heap.size) := Lib.hid (fun g hg => by have := hs6.own_ge g hg; omega)
  have HV1 := Lib.hid (HV1.out.below hk6.below')
  have TV1 := Lib.hid (keepc hk6 TV1.out (fun h => h))
  have HV2 := Lib.hid (HV2.out.below hk6.below')
  have TV2 := Lib.hid (keepc hk6 TV2.out (fun h => h))
  have HK := Lib.hid (HK.out.nw hk6)
  have z6 : w5.heap.size ≤ w6.heap.size := hk6.size
  clear hs6 hk6
  have tTV1 := TV1.out
  have yTV1 : w1.heap.size < w6.heap.size := by omega
  go_wp2_with fail
  have hkp := Kp.al w6 (.cells #[.slice A6 m c6] 24)
  have HV1 := Lib.hid (HV1.out.below hkp.below')
  have TV1 := Lib.hid (keepc hkp TV1.out (fun h => h))
  have HV2 := Lib.hid (HV2.out.below hkp.below')
  have TV2 := Lib.hid (keepc hkp TV2.out (fun h => h))
  have HV6 := Lib.hid (HV6.out.below hkp.below')
  have HK := Lib.hid (HK.out.nw hkp)
  clear hkp
  have TV6 : Hid ((w6.alloc (.cells #[.slice A6 m c6] 24)).cell? ⟨w6.heap.size, 0, none⟩ = some (.slice A6 m c6)) := Lib.hid (Own1.new w6 (.slice A6 m c6) 24).1
  refine (eqPuzzle_same A6 A1 m c6 c1 zs _ HV6.out.rd HV1.out.rd HL.out).mono ?_
  rintro e w7 ⟨rfl, hk7⟩
  have HV1 := Lib.hid (HV1.out.below hk7.below')
  have TV1 := Lib.hid (keepc hk7 TV1.out (fun h => h))
  have HV2 := Lib.hid (HV2.out.below hk7.below')
  have TV2 := Lib.hid (keepc hk7 TV2.out (fun h => h))
  have HV6 := Lib.hid (HV6.out.below hk7.below')
  have TV6 := Lib.hid (keepc hk7 TV6.out (fun h => h))
  have HK := Lib.hid (HK.out.nw hk7)
  have z7 : w6.heap.size + 1 ≤ w7.heap.size := by have := hk7.size; simp only [World.size_alloc] at this; omega
  clear tTV1 yTV1
  clear hk7
  have tTV2 := TV2.out
  have yTV2 : w2.heap.size < w7.heap.size := by omega
  go_wp2_with fail
  refine (heldPuzzle_any A2 m c2 1 _ HV2.out.rd (by omega) (by omega) (by omega)).mono ?_
  rintro e w8 ⟨rfl, hk8⟩
  have HV1 := Lib.hid (HV1.out.below hk8.below')
  have TV1 := Lib.hid (keepc hk8 TV1.out (fun h => h))
  have HV2 := Lib.hid (HV2.out.below hk8.below')
  have TV2 := Lib.hid (keepc hk8 TV2.out (fun h => h))
  have HV6 := Lib.hid (HV6.out.below hk8.below')
  have TV6 := Lib.hid (keepc hk8 TV6.out (fun h => h))
  have HK := Lib.hid (HK.out.nw hk8)
  have z8 : w7.heap.size ≤ w8.heap.size := hk8.size
  clear tTV2 yTV2
  clear hk8
  go_wp2
  go_ret
  exact ⟨rfl, HK.out⟩

theorem lawParsePuzzle (s : ByteArray) (W : World) (hT : Tabs W) (hM : Mx W) (hm : s.size ≤ maxLen) :
    Calls Tryd.prog 3 #[.string s] W fun e w' => e = .returned (.bool true) ∧ Kp Nw W w' := by
  obtain ⟨l, rfl⟩ : ∃ l : List UInt8, s = ⟨l.toArray⟩ := ⟨s.data.toList, rfl⟩
  by_cases h : (1048576 : Int) < (ByteArray.mk l.toArray).size
  · exact lawParsePuzzle_bigt _ W hm h
  · have hs : l.length ≤ 1048576 := by
      have e : (ByteArray.mk l.toArray).size = l.length := rfl
      omega
    have hc := pcs_count l
    refine lawParsePuzzle_of _ (if pgP l = true then (pcs l).map rdC else []) (pgP l) W (by omega) ?_ (Lib.hid fun w => sParsePuzzle_any l w hs _ _ rfl rfl) (Lib.hid fun w hk => iParsePuzzle_any l w (hT.nw hk) (hM.nw hk) (by omega) _ _ rfl rfl)
    by_cases hp : pgP l = true
    · rw [if_pos hp]
      have := (pgP_parts hp).1
      simp
      omega
    · rw [if_neg hp]; simp
end Go.Proofs.YtcekobdnghllcacDoor
