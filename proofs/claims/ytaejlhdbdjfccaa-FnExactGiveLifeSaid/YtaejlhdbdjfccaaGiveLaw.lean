/- The law of GiveLife returns true at all cats and every two integers: the program and its model make the same cats, in new memory, and the cats that are given read as before; no condition. -/
import Derived.Test.YtaejlhdbdjfccaaGive
namespace Go.Proofs.Ytaejlhdbdjfccaa
open Go.ChangeShapes Go.WideShapes Go.ChangeAt Go.RowKit

set_option maxHeartbeats 800000 in
theorem lawGiveLife_large (A : Option Addr) (n c : Nat) (k : Int) (p l : Int) (W : World) (hn : n ≤ maxLen) (h : 1048576 < n) :
    Calls Try.prog 13 #[.agg #[.slice A n c, .int .i64 k], .int .i64 p, .int .i64 l] W fun e w' => e = .returned (.bool true) ∧ Kp Nw W w' := by
  go_enter Try.func13, Try.ntmps13
  go_wp2_with fail
  refine (szCats_large A n c k _ hn h).mono ?_
  rintro e w1 ⟨rfl, hk1⟩
  have HK1 := Lib.hid ((Kp.al _ _).nw hk1)
  clear hk1
  go_wp2
  go_ret
  exact ⟨rfl, HK1.out⟩

set_option maxHeartbeats 3200000 in
set_option maxRecDepth 100000 in
theorem lawGiveLife_of (A : Option Addr) (n c : Nat) (k : Int) (p l : Int) (xs : List Int) (zs : List Int) (kk : Int) (b : Bool) (W : World) (hu : Rd W (.slice A n c) xs) (hn : xs.length = n) (h : n ≤ 1048576) (hlen : zs.length ≤ 1000000)
    (hS : Hid (∀ (g B : Nat) (W : World), SlAt W B g n n xs → Calls Try.prog 46 #[.agg #[.slice (some ⟨g, 0, none⟩) n n, .int .i64 k], .int .i64 p, .int .i64 l] W (CatsRes0 W zs kk b))) (hI : Hid (∀ (g B : Nat) (W : World), SlAt W B g n n xs → Calls Try.prog 47 #[.agg #[.slice (some ⟨g, 0, none⟩) n n, .int .i64 k], .int .i64 p, .int .i64 l] W (CatsRes0 W zs kk b))) :
    Calls Try.prog 13 #[.agg #[.slice A n c, .int .i64 k], .int .i64 p, .int .i64 l] W fun e w' => e = .returned (.bool true) ∧ Kp Nw W w' := by
  obtain ⟨m, hm⟩ : ∃ m, zs.length = m := ⟨_, rfl⟩
  have HU := Lib.hid hu
  have HN := Lib.hid hn
  have HL : Hid (zs.length ≤ maxLen) := Lib.hid (by unfold maxLen; omega)
  have HLX : Hid (xs.length ≤ maxLen) := Lib.hid (by unfold maxLen; omega)
  have hlen : m ≤ 1000000 := by omega
  have hm0 : (0 : Int) ≤ m := Int.natCast_nonneg _
  have hn0 : (0 : Int) ≤ n := Int.natCast_nonneg _
  have q0 : (0 : Int) ≤ 1048576 - (n : Int) := by omega
  have HM := Lib.hid hm
  clear hm hu hn
  go_enter Try.func13, Try.ntmps13
  go_wp2_with fail
  refine (szCats_small A n c k _ h).mono ?_
  rintro e w1 ⟨rfl, hk1⟩
  have T0 := Lib.hid ((Two.new W (.slice A n c) (.int .i64 k) 24).nw hk1)
  have HK := Lib.hid ((Kp.al _ _).nw hk1)
  have z1 : W.heap.size + 1 ≤ w1.heap.size := by have := hk1.size; simp at this; omega
  clear hk1
  obtain ⟨t0a, t0b⟩ := T0.out
  go_wp2_with fail
  refine (toCats_any A n c k xs _ (HU.out.nw HK.out) HN.out h).mono ?_
  rintro e w2 ⟨g2, rfl, hs2, hk2, hg2, hg2'⟩
  have HS2 := Lib.hid hs2
  have T0 := Lib.hid (T0.out.nw hk2)
  have HK := Lib.hid (HK.out.nw hk2)
  have z2 := hk2.size
  clear hs2 hk2
  clear t0a t0b
  go_wp2_with fail
  refine (hS.out g2 _ _ HS2.out).mono ?_
  rintro e w3 ⟨v3, rfl, hs3, hk3⟩
  obtain ⟨A3, c3, rfl⟩ := hs3.val HM.out
  have HS3 := Lib.hid hs3
  have O3 := Lib.hid hs3.own_ge
  have T0 := Lib.hid (T0.out.nw hk3)
  have HK := Lib.hid (HK.out.nw hk3)
  have z3 := hk3.size
  clear hs3 hk3
  have y03 : W.heap.size < w3.heap.size := by omega
  obtain ⟨t0a, t0b⟩ := T0.out
  go_wp2_with fail
  have T3 := Lib.hid (Two.new w3 (.slice A3 m c3) (.int .i64 kk) 27)
  have HS3 := Lib.hid (HS3.out.below (Kp.al w3 (.cells #[.slice A3 m c3, .int .i64 kk] 27)).below')
  have T0 := Lib.hid (T0.out.nw (.al w3 (.cells #[.slice A3 m c3, .int .i64 kk] 27)))
  have HK := Lib.hid (HK.out.nw (.al w3 (.cells #[.slice A3 m c3, .int .i64 kk] 27)))
  refine (toCats_any A n c k xs _ (HU.out.nw HK.out) HN.out h).mono ?_
  rintro e w4 ⟨g4, rfl, hs4, hk4, hg4, hg4'⟩
  have HS4 := Lib.hid hs4
  have T0 := Lib.hid (T0.out.nw hk4)
  have HS3 := Lib.hid (HS3.out.below hk4.below')
  have T3 := Lib.hid (T3.out.nw hk4)
  have HK := Lib.hid (HK.out.nw hk4)
  have z4 : w3.heap.size + 1 ≤ w4.heap.size := by have := hk4.size; simp at this; omega
  have hg4 : w3.heap.size + 1 ≤ g4 := by simp at hg4; omega
  have E4 : Hid (∀ g, (Value.slice (some ⟨g4, 0, none⟩) n n).ownBlock = some g → w3.heap.size + 1 ≤ g ∧ g < w4.heap.size) := Lib.hid (fun g hg => by simp [Value.ownBlock] at hg; omega)
  clear hs4 hk4
  clear t0a t0b
  go_wp2_with fail
  refine (hI.out g4 _ _ (HS4.out.alloc _)).mono ?_
  rintro e w5 ⟨v5, rfl, hs5, hk5⟩
  obtain ⟨A5, c5, rfl⟩ := hs5.val HM.out
  have HS5 := Lib.hid hs5
  have E5 : Hid (∀ g, (Value.slice A5 m c5).ownBlock = some g → w4.heap.size + 1 ≤ g ∧ g < w5.heap.size) := Lib.hid (fun g hg => by have := hs5.own_ge g hg; simp at this; omega)
  have T4 := Lib.hid ((Two.new w4 (.slice (some ⟨g4, 0, none⟩) n n) (.int .i64 k) 27).nw hk5)
  have HX := Lib.hid ((HS4.out.sl.below (Kp.al w4 (.cells #[.slice (some ⟨g4, 0, none⟩) n n, .int .i64 k] 27)).below').below hk5.below')
  have T0 := Lib.hid ((T0.out.nw (.al w4 (.cells #[.slice (some ⟨g4, 0, none⟩) n n, .int .i64 k] 27))).nw hk5)
  have HS3 := Lib.hid ((HS3.out.below (Kp.al w4 (.cells #[.slice (some ⟨g4, 0, none⟩) n n, .int .i64 k] 27)).below').below hk5.below')
  have T3 := Lib.hid ((T3.out.nw (.al w4 (.cells #[.slice (some ⟨g4, 0, none⟩) n n, .int .i64 k] 27))).nw hk5)
  have HK := Lib.hid ((HK.out.nw (.al w4 (.cells #[.slice (some ⟨g4, 0, none⟩) n n, .int .i64 k] 27))).nw hk5)
  have z5 : w4.heap.size + 1 ≤ w5.heap.size := by have := hk5.size; simp at this; omega
  clear hs5 hk5
  obtain ⟨t3a, t3b⟩ := T3.out
  have y35 : w3.heap.size < w5.heap.size := by omega
  go_wp2_with fail
  have T5 := Lib.hid (Two.new w5 (.slice A5 m c5) (.int .i64 kk) 27)
  have T0 := Lib.hid (T0.out.nw (.al w5 (.cells #[.slice A5 m c5, .int .i64 kk] 27)))
  have HS3 := Lib.hid (HS3.out.below (Kp.al w5 (.cells #[.slice A5 m c5, .int .i64 kk] 27)).below')
  have T3 := Lib.hid (T3.out.nw (.al w5 (.cells #[.slice A5 m c5, .int .i64 kk] 27)))
  have T4 := Lib.hid (T4.out.nw (.al w5 (.cells #[.slice A5 m c5, .int .i64 kk] 27)))
  have HX := Lib.hid (HX.out.below (Kp.al w5 (.cells #[.slice A5 m c5, .int .i64 kk] 27)).below')
  have HS5 := Lib.hid (HS5.out.below (Kp.al w5 (.cells #[.slice A5 m c5, .int .i64 kk] 27)).below')
  have HK := Lib.hid (HK.out.nw (.al w5 (.cells #[.slice A5 m c5, .int .i64 kk] 27)))
  refine (eqCats_same A5 A3 m c5 c3 kk zs _ HS5.out.rd HS3.out.rd HL.out).mono ?_
  rintro e w6 ⟨rfl, hk6⟩
  have z6 : w5.heap.size + 1 ≤ w6.heap.size := by have := hk6.size; simp at this; omega
  have T0 := Lib.hid (T0.out.nw hk6)
  have HS3 := Lib.hid (HS3.out.below hk6.below')
  have T3 := Lib.hid (T3.out.nw hk6)
  have T4 := Lib.hid (T4.out.nw hk6)
  have HX := Lib.hid (HX.out.below hk6.below')
  have HS5 := Lib.hid (HS5.out.below hk6.below')
  have T5 := Lib.hid (T5.out.nw hk6)
  have HK := Lib.hid (HK.out.nw hk6)
  clear hk6
  clear t3a t3b
  obtain ⟨t0a, t0b⟩ := T0.out
  obtain ⟨t4a, t4b⟩ := T4.out
  go_wp2_with fail
  go_region_held3 (fun w' => Kp Nw w6 w' ∧ w'.cell? ⟨W.heap.size, 0, none⟩ = some (.slice A n c) ∧ w'.cell? ⟨W.heap.size, 1, none⟩ = some (.int .i64 k) ∧ w'.cell? ⟨w4.heap.size, 0, none⟩ = some (.slice (some ⟨g4, 0, none⟩) n n) ∧ w'.cell? ⟨w4.heap.size, 1, none⟩ = some (.int .i64 k))
    (first
      | exact ⟨(Kp.refl _ _).drew, T0.out.1, T0.out.2, T4.out.1, T4.out.2⟩
      | exact ⟨hkW8, keepc hkW8 T0.out.1 (fun h => h), keepc hkW8 T0.out.2 (fun h => h), keepc hkW8 T4.out.1 (fun h => h), keepc hkW8 T4.out.2 (fun h => h)⟩
      | exact ⟨hkW7, keepc hkW7 T0.out.1 (fun h => h), keepc hkW7 T0.out.2 (fun h => h), keepc hkW7 T4.out.1 (fun h => h), keepc hkW7 T4.out.2 (fun h => h)⟩)
    (first
      | (go_at_call 20
         refine (toCats_any A n c k xs _ (HU.out.nw (HK.out.nw (‹Kp Nw w6 _ ∧ _›.1))) HN.out h).mono ?_
         rintro e w7 ⟨g7, rfl, hs7, hk7, hg7, hg7'⟩
         have hkW7 := (‹Kp Nw w6 _ ∧ _›.1).nw hk7)
      | (go_at_call 22
         refine (eqCats_same _ _ n _ _ k xs _ (HX.out.rd.nw (‹Kp Nw w6 _ ∧ _›.1)) hs7.sl.rd HLX.out).mono ?_
         rintro e w8 ⟨rfl, hk8⟩
         have hkW8 := (‹Kp Nw w6 _ ∧ _›.1).nw hk8))
  have z8 : w6.heap.size ≤ w8.heap.size := hkW8.size
  have T0 := Lib.hid (T0.out.nw hkW8)
  have HS3 := Lib.hid (HS3.out.below hkW8.below')
  have T3 := Lib.hid (T3.out.nw hkW8)
  have T4 := Lib.hid (T4.out.nw hkW8)
  have HX := Lib.hid (HX.out.below hkW8.below')
  have HS5 := Lib.hid (HS5.out.below hkW8.below')
  have T5 := Lib.hid (T5.out.nw hkW8)
  have HK := Lib.hid (HK.out.nw hkW8)
  clear hkW8 hkW7 hk7 hk8 hs7
  clear t0a t0b t4a t4b
  obtain ⟨t4a, t4b⟩ := T4.out
  go_wp2_with fail
  refine (markCats_any (some ⟨g4, 0, none⟩) n n 1 k xs _ _ HX.out HN.out (by omega) (by omega) (by rw [HN.out]; omega)).mono ?_
  rintro e w9 ⟨rfl, _, hk9⟩
  have z9 : w8.heap.size ≤ w9.heap.size := hk9.size
  have T0 := Lib.hid (T0.out.kp hk9 (fun hg => by have := E4.out _ hg; omega))
  have HS3 := Lib.hid (HS3.out.kp hk9 (fun g a b => by have := O3.out g a; have := E4.out g b; omega))
  have T3 := Lib.hid (T3.out.kp hk9 (fun hg => by have := E4.out _ hg; omega))
  have T4 := Lib.hid (T4.out.kp hk9 (fun hg => by have := E4.out _ hg; omega))
  have HS5 := Lib.hid (HS5.out.kp hk9 (fun g a b => by have := E5.out g a; have := E4.out g b; omega))
  have T5 := Lib.hid (T5.out.kp hk9 (fun hg => by have := E4.out _ hg; omega))
  have HK := Lib.hid (HK.out.after hk9 (fun g hg h2 => by have := E4.out g h2; omega))
  clear hk9
  clear t4a t4b
  obtain ⟨t3a, t3b⟩ := T3.out
  obtain ⟨t5a, t5b⟩ := T5.out
  go_wp2_with fail
  refine (eqCats_same A5 A3 m c5 c3 kk zs _ HS5.out.rd HS3.out.rd HL.out).mono ?_
  rintro e w10 ⟨rfl, hk10⟩
  have z10 : w9.heap.size ≤ w10.heap.size := hk10.size
  have T0 := Lib.hid (T0.out.nw hk10)
  have HS3 := Lib.hid (HS3.out.below hk10.below')
  have T3 := Lib.hid (T3.out.nw hk10)
  have HS5 := Lib.hid (HS5.out.below hk10.below')
  have T5 := Lib.hid (T5.out.nw hk10)
  have HK := Lib.hid (HK.out.nw hk10)
  clear hk10
  clear t3a t3b t5a t5b
  obtain ⟨t5a, t5b⟩ := T5.out
  go_wp2_with fail
  refine (markCats_any A5 m c5 1 kk zs _ _ HS5.out HM.out (by omega) (by omega) (by rw [HM.out]; omega)).mono ?_
  rintro e w11 ⟨rfl, hs11, hk11⟩
  have z11 : w10.heap.size ≤ w11.heap.size := hk11.size
  have T0 := Lib.hid (T0.out.kp hk11 (fun hg => by have := E5.out _ hg; omega))
  have HS3 := Lib.hid (HS3.out.kp hk11 (fun g a b => by have := O3.out g a; have := E5.out g b; omega))
  have T3 := Lib.hid (T3.out.kp hk11 (fun hg => by have := E5.out _ hg; omega))
  have T5 := Lib.hid (T5.out.kp hk11 (fun hg => by have := E5.out _ hg; omega))
  have HK := Lib.hid (HK.out.after hk11 (fun g hg h2 => by have := E5.out g h2; omega))
  have HS5 := Lib.hid hs11
  clear hk11 hs11
  clear t5a t5b
  obtain ⟨t5a, t5b⟩ := T5.out
  go_wp2_with fail
  refine (heldCats_any A5 m c5 1 kk _ HS5.out.rd (by omega) (by omega) (by omega)).mono ?_
  rintro e w12 ⟨rfl, hk12⟩
  have z12 : w11.heap.size ≤ w12.heap.size := hk12.size
  have T0 := Lib.hid (T0.out.nw hk12)
  have HS3 := Lib.hid (HS3.out.below hk12.below')
  have T3 := Lib.hid (T3.out.nw hk12)
  have HS5 := Lib.hid (HS5.out.below hk12.below')
  have T5 := Lib.hid (T5.out.nw hk12)
  have HK := Lib.hid (HK.out.nw hk12)
  clear hk12
  clear t5a t5b
  obtain ⟨t0a, t0b⟩ := T0.out
  go_wp2_with fail
  refine (toCats_any A n c k xs _ (HU.out.nw HK.out) HN.out h).mono ?_
  rintro e w13 ⟨g13, rfl, hs13, hk13, hg13, hg13'⟩
  have HS13 := Lib.hid hs13
  have z13 : w12.heap.size ≤ w13.heap.size := hk13.size
  have T0 := Lib.hid (T0.out.nw hk13)
  have HS3 := Lib.hid (HS3.out.below hk13.below')
  have T3 := Lib.hid (T3.out.nw hk13)
  have HS5 := Lib.hid (HS5.out.below hk13.below')
  have T5 := Lib.hid (T5.out.nw hk13)
  have HK := Lib.hid (HK.out.nw hk13)
  clear hs13 hk13
  clear t0a t0b
  go_wp2_with fail
  refine (hI.out g13 _ _ HS13.out).mono ?_
  rintro e w14 ⟨v14, rfl, hs14, hk14⟩
  obtain ⟨A14, c14, rfl⟩ := hs14.val HM.out
  have HS14 := Lib.hid hs14
  have z14 : w13.heap.size ≤ w14.heap.size := hk14.size
  have HS3 := Lib.hid (HS3.out.below hk14.below')
  have T3 := Lib.hid (T3.out.nw hk14)
  have HS5 := Lib.hid (HS5.out.below hk14.below')
  have T5 := Lib.hid (T5.out.nw hk14)
  have HK := Lib.hid (HK.out.nw hk14)
  clear hs14 hk14
  obtain ⟨t3a, t3b⟩ := T3.out
  have y3 : w3.heap.size < w14.heap.size := by omega
  have y5 : w5.heap.size < w14.heap.size := by omega
  go_wp2_with fail
  have HS3 := Lib.hid (HS3.out.below (Kp.al w14 (.cells #[.slice A14 m c14, .int .i64 kk] 27)).below')
  have T3 := Lib.hid (T3.out.nw (.al w14 (.cells #[.slice A14 m c14, .int .i64 kk] 27)))
  have HS5 := Lib.hid (HS5.out.below (Kp.al w14 (.cells #[.slice A14 m c14, .int .i64 kk] 27)).below')
  have T5 := Lib.hid (T5.out.nw (.al w14 (.cells #[.slice A14 m c14, .int .i64 kk] 27)))
  have HS14 := Lib.hid (HS14.out.below (Kp.al w14 (.cells #[.slice A14 m c14, .int .i64 kk] 27)).below')
  have HK := Lib.hid (HK.out.nw (.al w14 (.cells #[.slice A14 m c14, .int .i64 kk] 27)))
  refine (eqCats_same A14 A3 m c14 c3 kk zs _ HS14.out.rd HS3.out.rd HL.out).mono ?_
  rintro e w15 ⟨rfl, hk15⟩
  have HS3 := Lib.hid (HS3.out.below hk15.below')
  have T3 := Lib.hid (T3.out.nw hk15)
  have HS5 := Lib.hid (HS5.out.below hk15.below')
  have T5 := Lib.hid (T5.out.nw hk15)
  have HS14 := Lib.hid (HS14.out.below hk15.below')
  have HK := Lib.hid (HK.out.nw hk15)
  clear hk15
  clear t3a t3b
  obtain ⟨t5a, t5b⟩ := T5.out
  go_wp2_with fail
  refine (heldCats_any A5 m c5 1 kk _ HS5.out.rd (by omega) (by omega) (by omega)).mono ?_
  rintro e w16 ⟨rfl, hk16⟩
  have HK := Lib.hid (HK.out.nw hk16)
  clear hk16
  go_wp2
  go_ret
  exact ⟨rfl, HK.out⟩

theorem lawGiveLife (A : Option Addr) (n c : Nat) (k : Int) (p l : Int) (xs : List Int) (W : World) (hu : Rd W (.slice A n c) xs) (hn : xs.length = n) (hm : n ≤ maxLen) :
    Calls Try.prog 13 #[.agg #[.slice A n c, .int .i64 k], .int .i64 p, .int .i64 l] W fun e w' => e = .returned (.bool true) ∧ Kp Nw W w' := by
  by_cases h : n ≤ 1048576
  · by_cases hb : (catB xs k && decide (0 ≤ p ∧ p ≤ (n : Int) - 1)) = true
    · rw [Bool.and_eq_true, decide_eq_true_eq] at hb
      obtain ⟨hg, hp⟩ := hb
      obtain ⟨n1, n2, _, _, ha⟩ := catB_parts hg
      obtain ⟨q, rfl⟩ : ∃ q : Nat, p = q := ⟨p.toNat, by omega⟩
      obtain ⟨x1, x2⟩ := lifeB_get ha q (by omega)
      by_cases h1 : l < 0 ∨ 9 - xs.getD q 0 < l
      · by_cases h2 : l < 0 ∨ 9 < l
        · exact lawGiveLife_of A n c k q l xs [] 0 false W hu hn h (by simp) (Lib.hid fun g B W hs => sGive_off1 _ n n q xs k l W hs.sl.rd hn (by omega) hg (by omega) h2) (Lib.hid fun g B W hs => iGive_off _ n n q xs k l W hs.sl.rd hn (by omega) hg (by omega) h1)
        · exact lawGiveLife_of A n c k q l xs [] 0 false W hu hn h (by simp) (Lib.hid fun g B W hs => sGive_off2 _ n n q xs k l W hs.sl.rd hn (by omega) hg (by omega) (by omega) (by omega) (by omega)) (Lib.hid fun g B W hs => iGive_off _ n n q xs k l W hs.sl.rd hn (by omega) hg (by omega) h1)
      · exact lawGiveLife_of A n c k q l xs (xs.set q (xs.getD q 0 + l)) k true W hu hn h (by rw [List.length_set]; omega) (Lib.hid fun g B W hs => sGive_yes _ n n q xs k l W hs.sl.rd hn (by omega) hg (by omega) (by omega) (by omega)) (Lib.hid fun g B W hs => iGive_yes _ n n q xs k l W hs.sl.rd hn (by omega) hg (by omega) (by omega) (by omega))
    · have hb' : (catB xs k && decide (0 ≤ p ∧ p ≤ (n : Int) - 1)) = false := by simpa using hb
      exact lawGiveLife_of A n c k p l xs [] 0 false W hu hn h (by simp) (Lib.hid fun g B W hs => sGive_no _ n n xs k p l W hs.sl.rd hn (by omega) hb') (Lib.hid fun g B W hs => iGive_no _ n n xs k p l W hs.sl.rd hn (by omega) hb')
  · exact lawGiveLife_large A n c k p l W hm (by omega)
end Go.Proofs.Ytaejlhdbdjfccaa
