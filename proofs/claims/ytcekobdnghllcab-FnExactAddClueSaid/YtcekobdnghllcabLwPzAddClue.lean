/- The law of AddClue: the frame, given what the model and the program return. -/
import Derived.Test.YtcekobdnghllcabPuzB
import Derived.Test.YtcekobdnghllcabMCl
import Derived.Test.YtcekobdnghllcabLwO7
import Derived.Test.YtcekobdnghllcabRingFn
import Derived.Deep.DeepCutAuto
import Derived.Deep.RegionLaw
namespace Go.Proofs.Ytcekobdnghllcab
open Go.ChangeShapes Go.WideShapes Go.ChangeAt Go.RowKit

set_option maxHeartbeats 800000 in
theorem lawAddClue_bigP (AP : Option Addr) (nP cP : Nat) (u0 u1 u2 : Int) (W : World) (hm : nP ≤ maxLen) (hb : 1048576 < nP) :
    Calls Try.prog 3 #[.agg #[.slice AP nP cP], .agg #[.int .i64 u0, .int .i64 u1, .int .i64 u2]] W fun e w' => e = .returned (.bool true) ∧ Kp Nw W w' := by
  have HK := Lib.hid (Kp.refl Nw W)
  go_enter Try.func3, Try.ntmps3
  go_wp2_with fail
  refine (szPuzzle_large AP nP cP (1048576) _ hm (by omega) (by omega) (by omega)).mono ?_
  rintro e w1 ⟨rfl, hk1⟩
  have HK := Lib.hid (((HK.out.alloc (.cells #[.slice AP nP cP] 24)).alloc (.cells #[.int .i64 u0, .int .i64 u1, .int .i64 u2] 26)).nw hk1)
  have z1 : W.heap.size + 2 ≤ w1.heap.size := by have := hk1.size; simp only [World.size_alloc] at this; omega
  clear hk1
  go_wp2
  go_ret
  exact ⟨rfl, HK.out⟩

set_option maxHeartbeats 3200000 in
set_option maxRecDepth 100000 in
theorem lawAddClue_of (AP : Option Addr) (nP cP : Nat) (xsP : List Cu) (u0 u1 u2 : Int) (zs : List Cu) (b : Bool) (W : World) (huP : RdC W (.slice AP nP cP) xsP) (hnP : xsP.length = nP) (hso : nP ≤ 1048576) (hlen : zs.length ≤ 1000000)
    (hS : Hid (∀ (gP BP : Nat) (W : World), ClAt W BP gP nP nP xsP → Calls Try.prog 5 #[.agg #[.slice (some ⟨gP, 0, none⟩) nP nP], .agg #[.int .i64 u0, .int .i64 u1, .int .i64 u2]] W (PuzB W zs b))) (hI : Hid (∀ (gP BP : Nat) (W : World), ClAt W BP gP nP nP xsP → Calls Try.prog 8 #[.agg #[.slice (some ⟨gP, 0, none⟩) nP nP], .agg #[.int .i64 u0, .int .i64 u1, .int .i64 u2]] W (PuzB W zs b))) :
    Calls Try.prog 3 #[.agg #[.slice AP nP cP], .agg #[.int .i64 u0, .int .i64 u1, .int .i64 u2]] W fun e w' => e = .returned (.bool true) ∧ Kp Nw W w' := by
  obtain ⟨m, hm⟩ : ∃ m, zs.length = m := ⟨_, rfl⟩
  have HL : Hid (zs.length ≤ maxLen) := Lib.hid (by unfold maxLen; omega)
  have hlen : m ≤ 1000000 := by omega
  have hm0 : (0 : Int) ≤ m := Int.natCast_nonneg _
  have HM := Lib.hid hm
  clear hm
  have HUP := Lib.hid huP
  have HNP := Lib.hid hnP
  have hP : nP ≤ 1048576 := by omega
  have HLXP : Hid (xsP.length ≤ maxLen) := Lib.hid (by unfold maxLen; omega)
  have n0P : (0 : Int) ≤ nP := Int.natCast_nonneg _
  clear huP hnP
  have q1P : (0 : Int) ≤ 1048576 - (nP : Int) := by omega
  have HK := Lib.hid (Kp.refl Nw W)
  go_enter Try.func3, Try.ntmps3
  go_wp2_with fail
  refine (szPuzzle_small AP nP cP (1048576) _ (by omega) (by omega)).mono ?_
  rintro e w1 ⟨rfl, hk1⟩
  have HK := Lib.hid (((HK.out.alloc (.cells #[.slice AP nP cP] 24)).alloc (.cells #[.int .i64 u0, .int .i64 u1, .int .i64 u2] 26)).nw hk1)
  have z1 : W.heap.size + 2 ≤ w1.heap.size := by have := hk1.size; simp only [World.size_alloc] at this; omega
  have TP : Hid (w1.cell? ⟨W.heap.size, 0, none⟩ = some (.slice AP nP cP)) := Lib.hid (by have h := (((Own1.new W (.slice AP nP cP) 24).kp (.al _ (.cells #[.int .i64 u0, .int .i64 u1, .int .i64 u2] 26)) (fun h => h)).kp hk1 (fun h => h)).1; simpa only [World.size_alloc] using h)
  have hu9 := ((Own3.new (W.alloc (.cells #[.slice AP nP cP] 24)) (u0, u1, u2) 26).kp hk1 (fun h => h)).1
  simp only [World.size_alloc] at hu9
  have Tu0 : Hid (w1.cell? ⟨W.heap.size + 1, 0, none⟩ = some (.int .i64 u0)) := Lib.hid hu9.1
  have Tu1 : Hid (w1.cell? ⟨W.heap.size + 1, 1, none⟩ = some (.int .i64 u1)) := Lib.hid hu9.2.1
  have Tu2 : Hid (w1.cell? ⟨W.heap.size + 1, 2, none⟩ = some (.int .i64 u2)) := Lib.hid hu9.2.2
  clear hu9
  have HTC := Lib.hid (fun W => toClue_any (u0, u1, u2) W)
  simp only at HTC
  clear hk1
  have tTP := TP.out
  have tTu0 := Tu0.out
  have tTu1 := Tu1.out
  have tTu2 := Tu2.out
  have yA4 : W.heap.size < w1.heap.size := by omega
  have yB4 : W.heap.size + 1 < w1.heap.size := by omega
  go_wp2_with fail
  go_cut [6, 7] (fun p9 b9 wx => ∃ (bk : Nat) (A9 : Option Addr) (c9 : Nat), p9 = .pointer (some ⟨bk, 0, none⟩) ∧ b9 = .bool b ∧ w1.heap.size ≤ bk ∧ Hid (wx.cell? ⟨bk, 0, none⟩ = some (.slice A9 m c9)) ∧ Hid (Cl wx w1.heap.size (.slice A9 m c9) zs) ∧ Hid (∀ gg, (Value.slice A9 m c9).ownBlock = some gg → gg ≠ bk) ∧ Hid (Kp Nw w1 wx))
  case first =>
    go_region_law (first
      | (go_simp
         go_at_call 6
         with_reducible refine (toPuzzle_any AP nP cP xsP _ (HUP.out.nw (HK.out.nw (by first | exact Kp.refl _ _ | exact ((Kp.refl Nw _).alloc _) | exact (Kp.refl Nw _).drew | exact ((Kp.refl Nw _).alloc _).drew))) HNP.out hP).mono ?_
         rintro e w2 ⟨g2, rfl, hs2, hk2, hg2, hl2⟩
         have kA : Kp Nw w1 w2 := Kp.nw (by first | exact Kp.refl _ _ | exact ((Kp.refl Nw _).alloc _) | exact (Kp.refl Nw _).drew | exact ((Kp.refl Nw _).alloc _).drew) hk2
         have hcB0 := keepc kA Tu0.out (fun h => h)
         have hcB1 := keepc kA Tu1.out (fun h => h)
         have hcB2 := keepc kA Tu2.out (fun h => h)
         have yC : W.heap.size + 1 < w2.heap.size := Nat.lt_of_lt_of_le yB4 kA.size
         try have hz2 : Own1 w2 w1.heap.size (.slice none 0 0) := ((Own1.new w1 (.slice none 0 0) 30).kp (S := Nw) ((Kp.refl Nw _).drew) (fun h => h)).kp hk2 (fun h => h))
      | (go_simp
         go_at_call 7
         with_reducible refine (HTC.out _).mono ?_
         rintro e w3 ⟨rfl, hk3⟩
         have kB : Kp Nw w2 w3 := Kp.nw (by first | exact Kp.refl _ _ | exact ((Kp.refl Nw _).alloc _) | exact (Kp.refl Nw _).drew | exact ((Kp.refl Nw _).alloc _).drew) hk3
         first
           | have hz3 : Own1 w3 w1.heap.size (.slice none 0 0) := hz2.kp kB (fun h => h)
           | have hz3 : Own1 w3 w2.heap.size (.slice none 0 0) := (Own1.new w2 (.slice none 0 0) 30).kp hk3 (fun h => h)
           | skip)
      | (go_simp
         go_at_call 5
         with_reducible refine (hS.out g2 _ _ (hs2.kq (kB.nw (by first | exact Kp.refl _ _ | exact ((Kp.refl Nw _).alloc _) | exact (Kp.refl Nw _).drew | exact ((Kp.refl Nw _).alloc _).drew)) (fun h => h))).mono ?_
         rintro e w4 ⟨v4, rfl, hs4, hk4⟩
         obtain ⟨A4, c4, rfl⟩ := hs4.val HM.out
         have kC : Kp Nw w3 w4 := Kp.nw (by first | exact Kp.refl _ _ | exact ((Kp.refl Nw _).alloc _) | exact (Kp.refl Nw _).drew | exact ((Kp.refl Nw _).alloc _).drew) hk4
         have kD : Kp Nw w1 w4 := (kA.nw kB).nw kC
         have hge : ∀ gg, (Value.slice A4 m c4).ownBlock = some gg → w3.heap.size ≤ gg := fun gg e => by
           have h1 := (hs4.own_ge gg e).1
           first | exact h1 | exact Nat.le_trans (Nat.le_succ _) (by simpa using h1) | exact (by simpa using h1)
         have hS : Cl w4 w1.heap.size (.slice A4 m c4) zs := hs4.from (Nat.le_trans (kA.nw kB).size (by first | exact Nat.le_refl _ | simp))
         first
           | (have hz4 : Own1 w4 w1.heap.size (.slice none 0 0) := hz3.kp kC (fun h => h); have hne : ∀ gg, (Value.slice A4 m c4).ownBlock = some gg → gg ≠ w1.heap.size := (fun gg e => by have := hge gg e; have := World.block_lt_of_cell? w3 _ hz3.1; simp only [] at this; omega); obtain ⟨hz6, hz7⟩ := hz4)
           | (have hz4 : Own1 w4 w2.heap.size (.slice none 0 0) := hz3.kp kC (fun h => h); have hne : ∀ gg, (Value.slice A4 m c4).ownBlock = some gg → gg ≠ w2.heap.size := (fun gg e => by have := hge gg e; have := World.block_lt_of_cell? w3 _ hz3.1; simp only [] at this; omega); obtain ⟨hz6, hz7⟩ := hz4)
           | (have hz4 : Own1 w4 w3.heap.size (.slice none 0 0) := (Own1.new w3 (.slice none 0 0) 30).kp hk4 (fun h => h); have hne : ∀ gg, (Value.slice A4 m c4).ownBlock = some gg → gg ≠ w3.heap.size := (fun gg e => by have h1 := (hs4.own_ge gg e).1; simp at h1; omega); obtain ⟨hz6, hz7⟩ := hz4)
           | skip)
      | fail)
    all_goals
      go_wp2_with fail
      go_meet
      first
        | exact ⟨w4.heap.size, A4, c4, rfl, rfl, kD.size, Lib.hid (Own1.new w4 (.slice A4 m c4) 30).1, Lib.hid (hS.below (Kp.al w4 _).below'), Lib.hid (fun gg e => by have := (hs4.own_ge gg e).2; omega), Lib.hid (kD.nw (.al _ _))⟩
        | exact ⟨w1.heap.size, A4, c4, rfl, rfl, (Nat.le_refl _), Lib.hid (one_set w4 _ _ _ hz6), Lib.hid (hS.kp ((Kp.refl (fun b => b = w1.heap.size) w4).setCell (p := ⟨w1.heap.size, 0, none⟩) (.inl rfl) _) (fun gg a b => hne gg a b)), Lib.hid hne, Lib.hid (kD.setCell (.inr (Nat.le_refl _)) _)⟩
        | exact ⟨w2.heap.size, A4, c4, rfl, rfl, kA.size, Lib.hid (one_set w4 _ _ _ hz6), Lib.hid (hS.kp ((Kp.refl (fun b => b = w2.heap.size) w4).setCell (p := ⟨w2.heap.size, 0, none⟩) (.inl rfl) _) (fun gg a b => hne gg a b)), Lib.hid hne, Lib.hid (kD.setCell (.inr kA.size) _)⟩
        | exact ⟨w3.heap.size, A4, c4, rfl, rfl, (kA.nw kB).size, Lib.hid (one_set w4 _ _ _ hz6), Lib.hid (hS.kp ((Kp.refl (fun b => b = w3.heap.size) w4).setCell (p := ⟨w3.heap.size, 0, none⟩) (.inl rfl) _) (fun gg a b => hne gg a b)), Lib.hid hne, Lib.hid (kD.setCell (.inr (kA.nw kB).size) _)⟩
  rename World => w5
  obtain ⟨bk4, A4, c4, rfl, rfl, hbk4, HCV4, HV4, NE4, HKV4⟩ := hcut
  clear tTP
  clear tTu0
  clear tTu1
  clear tTu2
  clear yA4 yB4
  have O4 : Hid (∀ g, (Value.slice A4 m c4).ownBlock = some g → w1.heap.size ≤ g ∧ g < w5.heap.size) := Lib.hid HV4.out.own_ge
  have hkc := HKV4.out
  have TP := Lib.hid (keepc hkc TP.out (fun h => h))
  have Tu0 := Lib.hid (keepc hkc Tu0.out (fun h => h))
  have Tu1 := Lib.hid (keepc hkc Tu1.out (fun h => h))
  have Tu2 := Lib.hid (keepc hkc Tu2.out (fun h => h))
  have HK := Lib.hid (HK.out.nw hkc)
  have z4 : w1.heap.size ≤ w5.heap.size := hkc.size
  have zb4 : bk4 < w5.heap.size := World.block_lt_of_cell? w5 _ HCV4.out
  clear hkc
  have TV4 := HCV4
  have tTP := TP.out
  have yTP : W.heap.size < w5.heap.size := by omega
  go_upto_region 6 with (fail)
  go_cut [8] (fun p9 wx => ∃ (bk gx : Nat), p9 = .pointer (some ⟨bk, 0, none⟩) ∧ Hid (w5.heap.size ≤ gx ∧ gx < bk) ∧ Hid (wx.cell? ⟨bk, 0, none⟩ = some (.slice (some ⟨gx, 0, none⟩) nP nP)) ∧ Hid (ClAt wx w5.heap.size gx nP nP xsP) ∧ Hid (Kp Nw w5 wx))
  case first =>
    go_wp2_with fail
    refine (toPuzzle_any AP nP cP xsP _ (HUP.out.nw HK.out) HNP.out hP).mono ?_
    rintro e w6 ⟨g6, rfl, hs6, hk6, hg6, hl6⟩
    go_wp2_with fail
    go_meet
    exact ⟨w6.heap.size, g6, rfl, Lib.hid ⟨hg6, hl6⟩, Lib.hid (Own1.new w6 (.slice (some ⟨g6, 0, none⟩) nP nP) 30).1, Lib.hid (hs6.kq (.al w6 _) (fun h => h)), Lib.hid (hk6.nw (.al _ _))⟩
  rename World => w7
  obtain ⟨bx6, g6, rfl, RHXP, TXP, HXP, HKX⟩ := hcut
  clear tTP yTP
  have hkc := HKX.out
  have TP := Lib.hid (keepc hkc TP.out (fun h => h))
  have Tu0 := Lib.hid (keepc hkc Tu0.out (fun h => h))
  have Tu1 := Lib.hid (keepc hkc Tu1.out (fun h => h))
  have Tu2 := Lib.hid (keepc hkc Tu2.out (fun h => h))
  have HV4 := Lib.hid (HV4.out.below hkc.below')
  have TV4 := Lib.hid (keepc hkc TV4.out (fun h => h))
  have HK := Lib.hid (HK.out.nw hkc)
  have z6 : w5.heap.size ≤ w7.heap.size := hkc.size
  have zb6 : bx6 < w7.heap.size := World.block_lt_of_cell? w7 _ TXP.out
  clear hkc HKX
  have tTXP := TXP.out
  have tTu0 := Tu0.out
  have tTu1 := Tu1.out
  have tTu2 := Tu2.out
  have yA9 : bx6 < w7.heap.size := by omega
  have yB9 : W.heap.size + 1 < w7.heap.size := by omega
  go_wp2_with fail
  go_cut [9, 10] (fun p9 b9 wx => ∃ (bk : Nat) (A9 : Option Addr) (c9 : Nat), p9 = .pointer (some ⟨bk, 0, none⟩) ∧ b9 = .bool b ∧ w7.heap.size ≤ bk ∧ Hid (wx.cell? ⟨bk, 0, none⟩ = some (.slice A9 m c9)) ∧ Hid (Cl wx w7.heap.size (.slice A9 m c9) zs) ∧ Hid (∀ gg, (Value.slice A9 m c9).ownBlock = some gg → gg ≠ bk) ∧ Hid (Kp Nw w7 wx))
  case first =>
    have kA : Kp Nw w7 w7 := Kp.refl _ _
    go_region_law (first
      | (go_simp
         go_at_call 7
         with_reducible refine (HTC.out _).mono ?_
         rintro e w8 ⟨rfl, hk8⟩
         have kB : Kp Nw w7 w8 := Kp.nw (by first | exact Kp.refl _ _ | exact ((Kp.refl Nw _).alloc _) | exact (Kp.refl Nw _).drew | exact ((Kp.refl Nw _).alloc _).drew) hk8
         have hcX := keepc kB TXP.out (fun h => h)
         have yX9 : bx6 < w8.heap.size := Nat.lt_of_lt_of_le yA9 kB.size
         first
           | have hz8 : Own1 w8 w7.heap.size (.slice none 0 0) := ((Own1.new w7 (.slice none 0 0) 30).kp (S := Nw) ((Kp.refl Nw _).drew) (fun h => h)).kp hk8 (fun h => h)
           | skip)
      | (go_simp
         go_at_call 8
         with_reducible refine (hI.out g6 _ _ (HXP.out.kq (kB.nw (by first | exact Kp.refl _ _ | exact ((Kp.refl Nw _).alloc _) | exact (Kp.refl Nw _).drew | exact ((Kp.refl Nw _).alloc _).drew)) (fun h => h))).mono ?_
         rintro e w9 ⟨v9, rfl, hs9, hk9⟩
         obtain ⟨A9, c9, rfl⟩ := hs9.val HM.out
         have kC : Kp Nw w8 w9 := Kp.nw (by first | exact Kp.refl _ _ | exact ((Kp.refl Nw _).alloc _) | exact (Kp.refl Nw _).drew | exact ((Kp.refl Nw _).alloc _).drew) hk9
         have kD : Kp Nw w7 w9 := (kA.nw kB).nw kC
         have hge : ∀ gg, (Value.slice A9 m c9).ownBlock = some gg → w8.heap.size ≤ gg := fun gg e => by
           have h1 := (hs9.own_ge gg e).1
           first | exact h1 | exact Nat.le_trans (Nat.le_succ _) (by simpa using h1) | exact (by simpa using h1)
         have hS : Cl w9 w7.heap.size (.slice A9 m c9) zs := hs9.from (Nat.le_trans (kA.nw kB).size (by first | exact Nat.le_refl _ | simp))
         first
           | (have hz9 : Own1 w9 w7.heap.size (.slice none 0 0) := hz8.kp kC (fun h => h); have hne : ∀ gg, (Value.slice A9 m c9).ownBlock = some gg → gg ≠ w7.heap.size := (fun gg e => by have := hge gg e; have := World.block_lt_of_cell? w8 _ hz8.1; simp only [] at this; omega); obtain ⟨hz6, hz7⟩ := hz9)
           | (have hz9 : Own1 w9 w8.heap.size (.slice none 0 0) := (Own1.new w8 (.slice none 0 0) 30).kp hk9 (fun h => h); have hne : ∀ gg, (Value.slice A9 m c9).ownBlock = some gg → gg ≠ w8.heap.size := (fun gg e => by have h1 := (hs9.own_ge gg e).1; simp at h1; omega); obtain ⟨hz6, hz7⟩ := hz9)
           | skip)
      | fail)
    all_goals
      go_wp2_with fail
      go_meet
      first
        | exact ⟨w9.heap.size, A9, c9, rfl, rfl, kD.size, Lib.hid (Own1.new w9 (.slice A9 m c9) 30).1, Lib.hid (hS.below (Kp.al w9 _).below'), Lib.hid (fun gg e => by have := (hs9.own_ge gg e).2; omega), Lib.hid (kD.nw (.al _ _))⟩
        | exact ⟨w7.heap.size, A9, c9, rfl, rfl, (Nat.le_refl _), Lib.hid (one_set w9 _ _ _ hz6), Lib.hid (hS.kp ((Kp.refl (fun b => b = w7.heap.size) w9).setCell (p := ⟨w7.heap.size, 0, none⟩) (.inl rfl) _) (fun gg a b => hne gg a b)), Lib.hid hne, Lib.hid (kD.setCell (.inr (Nat.le_refl _)) _)⟩
        | exact ⟨w8.heap.size, A9, c9, rfl, rfl, (kA.nw kB).size, Lib.hid (one_set w9 _ _ _ hz6), Lib.hid (hS.kp ((Kp.refl (fun b => b = w8.heap.size) w9).setCell (p := ⟨w8.heap.size, 0, none⟩) (.inl rfl) _) (fun gg a b => hne gg a b)), Lib.hid hne, Lib.hid (kD.setCell (.inr (kA.nw kB).size) _)⟩
  rename World => w10
  obtain ⟨bk9, A9, c9, rfl, rfl, hbk9, HCV9, HV9, NE9, HKV9⟩ := hcut
  clear tTXP
  clear tTu0
  clear tTu1
  clear tTu2
  clear yA9 yB9
  have O9 : Hid (∀ g, (Value.slice A9 m c9).ownBlock = some g → w7.heap.size ≤ g ∧ g < w10.heap.size) := Lib.hid HV9.out.own_ge
  have hkc := HKV9.out
  have TP := Lib.hid (keepc hkc TP.out (fun h => h))
  have Tu0 := Lib.hid (keepc hkc Tu0.out (fun h => h))
  have Tu1 := Lib.hid (keepc hkc Tu1.out (fun h => h))
  have Tu2 := Lib.hid (keepc hkc Tu2.out (fun h => h))
  have HV4 := Lib.hid (HV4.out.below hkc.below')
  have TV4 := Lib.hid (keepc hkc TV4.out (fun h => h))
  have HXP := Lib.hid (HXP.out.kq hkc (fun h => h))
  have TXP := Lib.hid (keepc hkc TXP.out (fun h => h))
  have HK := Lib.hid (HK.out.nw hkc)
  have z9 : w7.heap.size ≤ w10.heap.size := hkc.size
  have zb9 : bk9 < w10.heap.size := World.block_lt_of_cell? w10 _ HCV9.out
  clear hkc
  have TV9 := HCV9
  have tTV9 := TV9.out
  have yTV9 : bk9 < w10.heap.size := by omega
  have tTV4 := TV4.out
  have yTV4 : bk4 < w10.heap.size := by omega
  go_wp2_with fail
  refine (eqPuzzle_same A9 A4 m c9 c4 zs _ HV9.out.rd HV4.out.rd HL.out).mono ?_
  rintro e w11 ⟨rfl, hk11⟩
  have TP := Lib.hid (keepc hk11 TP.out (fun h => h))
  have Tu0 := Lib.hid (keepc hk11 Tu0.out (fun h => h))
  have Tu1 := Lib.hid (keepc hk11 Tu1.out (fun h => h))
  have Tu2 := Lib.hid (keepc hk11 Tu2.out (fun h => h))
  have HV4 := Lib.hid (HV4.out.below hk11.below')
  have TV4 := Lib.hid (keepc hk11 TV4.out (fun h => h))
  have HXP := Lib.hid (HXP.out.kq hk11 (fun h => h))
  have TXP := Lib.hid (keepc hk11 TXP.out (fun h => h))
  have HV9 := Lib.hid (HV9.out.below hk11.below')
  have TV9 := Lib.hid (keepc hk11 TV9.out (fun h => h))
  have HK := Lib.hid (HK.out.nw hk11)
  have z11 : w10.heap.size ≤ w11.heap.size := hk11.size
  clear tTV9 yTV9
  clear tTV4 yTV4
  clear hk11
  have tTP := TP.out
  have tTXP := TXP.out
  go_wp2_with fail
  go_region_held3 (fun w' => Kp Nw w11 w' ∧ w'.cell? ⟨W.heap.size, 0, none⟩ = some (.slice AP nP cP) ∧ w'.cell? ⟨bx6, 0, none⟩ = some (.slice (some ⟨g6, 0, none⟩) nP nP))
    (first
      | exact ⟨(Kp.refl _ _).drew, TP.out, TXP.out⟩
      | exact ⟨hkW13, keepc hkW13 TP.out (fun h => h), keepc hkW13 TXP.out (fun h => h)⟩
      | exact ⟨hkW12, keepc hkW12 TP.out (fun h => h), keepc hkW12 TXP.out (fun h => h)⟩)
    (first
      | (go_at_call 6
         refine (toPuzzle_any AP nP cP xsP _ (HUP.out.nw (HK.out.nw (‹Kp Nw w11 _ ∧ _›.1))) HNP.out hP).mono ?_
         rintro e w12 ⟨g12, rfl, hs12, hk12, hg12, hl12⟩
         have hkW12 := (‹Kp Nw w11 _ ∧ _›.1).nw hk12)
      | (go_at_call 9
         refine (eqPuzzle_same _ _ nP _ _ xsP _ (HXP.out.cl.rd.nw (‹Kp Nw w11 _ ∧ _›.1)) hs12.cl.rd HLXP.out).mono ?_
         rintro e w13 ⟨rfl, hk13⟩
         have hkW13 := (‹Kp Nw w11 _ ∧ _›.1).nw hk13)
      | fail)
  clear tTP
  clear tTXP
  have TP := Lib.hid (keepc hkW13 TP.out (fun h => h))
  have Tu0 := Lib.hid (keepc hkW13 Tu0.out (fun h => h))
  have Tu1 := Lib.hid (keepc hkW13 Tu1.out (fun h => h))
  have Tu2 := Lib.hid (keepc hkW13 Tu2.out (fun h => h))
  have HV4 := Lib.hid (HV4.out.below hkW13.below')
  have TV4 := Lib.hid (keepc hkW13 TV4.out (fun h => h))
  have HXP := Lib.hid (HXP.out.kq hkW13 (fun h => h))
  have TXP := Lib.hid (keepc hkW13 TXP.out (fun h => h))
  have HV9 := Lib.hid (HV9.out.below hkW13.below')
  have TV9 := Lib.hid (keepc hkW13 TV9.out (fun h => h))
  have HK := Lib.hid (HK.out.nw hkW13)
  have z13 : w11.heap.size ≤ w13.heap.size := hkW13.size
  clear hkW13 hkW12 hk12 hk13 hs12 hg12 hl12
  have tTXP := TXP.out
  have yTXP : bx6 < w13.heap.size := by omega
  go_wp2_with fail
  refine (markPuzzle_any _ nP nP (1) xsP _ _ HXP.out.cl HNP.out (by omega) (by omega) (by rw [HNP.out]; omega)).mono ?_
  rintro e w14 ⟨rfl, _, hk14⟩
  have MP : Hid (∀ g, (Value.slice (some ⟨g6, 0, none⟩) nP nP).ownBlock = some g → g = g6) := Lib.hid (fun g hg => by simp [Value.ownBlock] at hg; omega)
  have MMP : Hid (∀ g, (Value.slice (some ⟨g6, 0, none⟩) nP nP).ownBlock = some g → _ ≤ g ∧ g < _) := Lib.hid (fun g hg => by rw [MP.out g hg]; exact RHXP.out)
  have TP := Lib.hid (keepc hk14 TP.out (fun hg => by have := MMP.out _ hg; simp only [] at this; omega))
  have Tu0 := Lib.hid (keepc hk14 Tu0.out (fun hg => by have := MMP.out _ hg; simp only [] at this; omega))
  have Tu1 := Lib.hid (keepc hk14 Tu1.out (fun hg => by have := MMP.out _ hg; simp only [] at this; omega))
  have Tu2 := Lib.hid (keepc hk14 Tu2.out (fun hg => by have := MMP.out _ hg; simp only [] at this; omega))
  have HV4 := Lib.hid (HV4.out.kp hk14 (fun g a b => by have := O4.out g a; have := MMP.out g b; omega))
  have TV4 := Lib.hid (keepc hk14 TV4.out (fun hg => by have := MMP.out _ hg; simp only [] at this; omega))
  have TXP := Lib.hid (keepc hk14 TXP.out (fun hg => by have := MMP.out _ hg; simp only [] at this; omega))
  have HV9 := Lib.hid (HV9.out.kp hk14 (fun g a b => by have := O9.out g a; have := MMP.out g b; omega))
  have TV9 := Lib.hid (keepc hk14 TV9.out (fun hg => by have := MMP.out _ hg; simp only [] at this; omega))
  have HK := Lib.hid (HK.out.after hk14 (fun g hg h2 => by have := MMP.out g h2; omega))
  have z14 : w13.heap.size ≤ w14.heap.size := hk14.size
  clear hk14
  clear tTXP yTXP
  have tTV9 := TV9.out
  have yTV9 : bk9 < w14.heap.size := by omega
  have tTV4 := TV4.out
  have yTV4 : bk4 < w14.heap.size := by omega
  go_wp2_with fail
  refine (eqPuzzle_same A9 A4 m c9 c4 zs _ HV9.out.rd HV4.out.rd HL.out).mono ?_
  rintro e w15 ⟨rfl, hk15⟩
  have TP := Lib.hid (keepc hk15 TP.out (fun h => h))
  have Tu0 := Lib.hid (keepc hk15 Tu0.out (fun h => h))
  have Tu1 := Lib.hid (keepc hk15 Tu1.out (fun h => h))
  have Tu2 := Lib.hid (keepc hk15 Tu2.out (fun h => h))
  have HV4 := Lib.hid (HV4.out.below hk15.below')
  have TV4 := Lib.hid (keepc hk15 TV4.out (fun h => h))
  have HV9 := Lib.hid (HV9.out.below hk15.below')
  have TV9 := Lib.hid (keepc hk15 TV9.out (fun h => h))
  have HK := Lib.hid (HK.out.nw hk15)
  have z15 : w14.heap.size ≤ w15.heap.size := hk15.size
  clear tTV9 yTV9
  clear tTV4 yTV4
  clear hk15
  have tTV9 := TV9.out
  have yTV9 : bk9 < w15.heap.size := by omega
  go_wp2_with fail
  refine (markPuzzle_any A9 m c9 1 zs _ _ HV9.out HM.out (by omega) (by omega) (by rw [HM.out]; omega)).mono ?_
  rintro e w16 ⟨rfl, hs16, hk16⟩
  have TP := Lib.hid (keepc hk16 TP.out (fun hg => by have := O9.out _ hg; simp only [] at this; omega))
  have Tu0 := Lib.hid (keepc hk16 Tu0.out (fun hg => by have := O9.out _ hg; simp only [] at this; omega))
  have Tu1 := Lib.hid (keepc hk16 Tu1.out (fun hg => by have := O9.out _ hg; simp only [] at this; omega))
  have Tu2 := Lib.hid (keepc hk16 Tu2.out (fun hg => by have := O9.out _ hg; simp only [] at this; omega))
  have HV4 := Lib.hid (HV4.out.kp hk16 (fun g a b => by have := O4.out g a; have := O9.out g b; omega))
  have TV4 := Lib.hid (keepc hk16 TV4.out (fun hg => by have := O9.out _ hg; simp only [] at this; omega))
  have TV9 := Lib.hid (keepc hk16 TV9.out (fun hg => NE9.out _ hg rfl))
  have HK := Lib.hid (HK.out.after hk16 (fun g hg h2 => by have := O9.out g h2; omega))
  have z16 : w15.heap.size ≤ w16.heap.size := hk16.size
  have HV9 := Lib.hid hs16
  clear hs16 hk16
  clear tTV9 yTV9
  have tTV9 := TV9.out
  have yTV9 : bk9 < w16.heap.size := by omega
  go_wp2_with fail
  refine (heldPuzzle_any A9 m c9 1 _ HV9.out.rd (by omega) (by omega) (by omega)).mono ?_
  rintro e w17 ⟨rfl, hk17⟩
  have TP := Lib.hid (keepc hk17 TP.out (fun h => h))
  have Tu0 := Lib.hid (keepc hk17 Tu0.out (fun h => h))
  have Tu1 := Lib.hid (keepc hk17 Tu1.out (fun h => h))
  have Tu2 := Lib.hid (keepc hk17 Tu2.out (fun h => h))
  have HV4 := Lib.hid (HV4.out.below hk17.below')
  have TV4 := Lib.hid (keepc hk17 TV4.out (fun h => h))
  have HV9 := Lib.hid (HV9.out.below hk17.below')
  have TV9 := Lib.hid (keepc hk17 TV9.out (fun h => h))
  have HK := Lib.hid (HK.out.nw hk17)
  have z17 : w16.heap.size ≤ w17.heap.size := hk17.size
  clear tTV9 yTV9
  clear hk17
  have tTP := TP.out
  have tTu0 := Tu0.out
  have tTu1 := Tu1.out
  have tTu2 := Tu2.out
  have yA20 : W.heap.size < w17.heap.size := by omega
  have yB20 : W.heap.size + 1 < w17.heap.size := by omega
  go_wp2_with fail
  go_cut [14, 15] (fun p9 b9 wx => ∃ (bk : Nat) (A9 : Option Addr) (c9 : Nat), p9 = .pointer (some ⟨bk, 0, none⟩) ∧ b9 = .bool b ∧ w17.heap.size ≤ bk ∧ Hid (wx.cell? ⟨bk, 0, none⟩ = some (.slice A9 m c9)) ∧ Hid (Cl wx w17.heap.size (.slice A9 m c9) zs) ∧ Hid (∀ gg, (Value.slice A9 m c9).ownBlock = some gg → gg ≠ bk) ∧ Hid (Kp Nw w17 wx))
  case first =>
    go_region_law (first
      | (go_simp
         go_at_call 6
         with_reducible refine (toPuzzle_any AP nP cP xsP _ (HUP.out.nw (HK.out.nw (by first | exact Kp.refl _ _ | exact ((Kp.refl Nw _).alloc _) | exact (Kp.refl Nw _).drew | exact ((Kp.refl Nw _).alloc _).drew))) HNP.out hP).mono ?_
         rintro e w18 ⟨g18, rfl, hs18, hk18, hg18, hl18⟩
         have kA : Kp Nw w17 w18 := Kp.nw (by first | exact Kp.refl _ _ | exact ((Kp.refl Nw _).alloc _) | exact (Kp.refl Nw _).drew | exact ((Kp.refl Nw _).alloc _).drew) hk18
         have hcB0 := keepc kA Tu0.out (fun h => h)
         have hcB1 := keepc kA Tu1.out (fun h => h)
         have hcB2 := keepc kA Tu2.out (fun h => h)
         have yC : W.heap.size + 1 < w18.heap.size := Nat.lt_of_lt_of_le yB20 kA.size
         try have hz18 : Own1 w18 w17.heap.size (.slice none 0 0) := ((Own1.new w17 (.slice none 0 0) 30).kp (S := Nw) ((Kp.refl Nw _).drew) (fun h => h)).kp hk18 (fun h => h))
      | (go_simp
         go_at_call 7
         with_reducible refine (HTC.out _).mono ?_
         rintro e w19 ⟨rfl, hk19⟩
         have kB : Kp Nw w18 w19 := Kp.nw (by first | exact Kp.refl _ _ | exact ((Kp.refl Nw _).alloc _) | exact (Kp.refl Nw _).drew | exact ((Kp.refl Nw _).alloc _).drew) hk19
         first
           | have hz19 : Own1 w19 w17.heap.size (.slice none 0 0) := hz18.kp kB (fun h => h)
           | have hz19 : Own1 w19 w18.heap.size (.slice none 0 0) := (Own1.new w18 (.slice none 0 0) 30).kp hk19 (fun h => h)
           | skip)
      | (go_simp
         go_at_call 8
         with_reducible refine (hI.out g18 _ _ (hs18.kq (kB.nw (by first | exact Kp.refl _ _ | exact ((Kp.refl Nw _).alloc _) | exact (Kp.refl Nw _).drew | exact ((Kp.refl Nw _).alloc _).drew)) (fun h => h))).mono ?_
         rintro e w20 ⟨v20, rfl, hs20, hk20⟩
         obtain ⟨A20, c20, rfl⟩ := hs20.val HM.out
         have kC : Kp Nw w19 w20 := Kp.nw (by first | exact Kp.refl _ _ | exact ((Kp.refl Nw _).alloc _) | exact (Kp.refl Nw _).drew | exact ((Kp.refl Nw _).alloc _).drew) hk20
         have kD : Kp Nw w17 w20 := (kA.nw kB).nw kC
         have hge : ∀ gg, (Value.slice A20 m c20).ownBlock = some gg → w19.heap.size ≤ gg := fun gg e => by
           have h1 := (hs20.own_ge gg e).1
           first | exact h1 | exact Nat.le_trans (Nat.le_succ _) (by simpa using h1) | exact (by simpa using h1)
         have hS : Cl w20 w17.heap.size (.slice A20 m c20) zs := hs20.from (Nat.le_trans (kA.nw kB).size (by first | exact Nat.le_refl _ | simp))
         first
           | (have hz20 : Own1 w20 w17.heap.size (.slice none 0 0) := hz19.kp kC (fun h => h); have hne : ∀ gg, (Value.slice A20 m c20).ownBlock = some gg → gg ≠ w17.heap.size := (fun gg e => by have := hge gg e; have := World.block_lt_of_cell? w19 _ hz19.1; simp only [] at this; omega); obtain ⟨hz6, hz7⟩ := hz20)
           | (have hz20 : Own1 w20 w18.heap.size (.slice none 0 0) := hz19.kp kC (fun h => h); have hne : ∀ gg, (Value.slice A20 m c20).ownBlock = some gg → gg ≠ w18.heap.size := (fun gg e => by have := hge gg e; have := World.block_lt_of_cell? w19 _ hz19.1; simp only [] at this; omega); obtain ⟨hz6, hz7⟩ := hz20)
           | (have hz20 : Own1 w20 w19.heap.size (.slice none 0 0) := (Own1.new w19 (.slice none 0 0) 30).kp hk20 (fun h => h); have hne : ∀ gg, (Value.slice A20 m c20).ownBlock = some gg → gg ≠ w19.heap.size := (fun gg e => by have h1 := (hs20.own_ge gg e).1; simp at h1; omega); obtain ⟨hz6, hz7⟩ := hz20)
           | skip)
      | fail)
    all_goals
      go_wp2_with fail
      go_meet
      first
        | exact ⟨w20.heap.size, A20, c20, rfl, rfl, kD.size, Lib.hid (Own1.new w20 (.slice A20 m c20) 30).1, Lib.hid (hS.below (Kp.al w20 _).below'), Lib.hid (fun gg e => by have := (hs20.own_ge gg e).2; omega), Lib.hid (kD.nw (.al _ _))⟩
        | exact ⟨w17.heap.size, A20, c20, rfl, rfl, (Nat.le_refl _), Lib.hid (one_set w20 _ _ _ hz6), Lib.hid (hS.kp ((Kp.refl (fun b => b = w17.heap.size) w20).setCell (p := ⟨w17.heap.size, 0, none⟩) (.inl rfl) _) (fun gg a b => hne gg a b)), Lib.hid hne, Lib.hid (kD.setCell (.inr (Nat.le_refl _)) _)⟩
        | exact ⟨w18.heap.size, A20, c20, rfl, rfl, kA.size, Lib.hid (one_set w20 _ _ _ hz6), Lib.hid (hS.kp ((Kp.refl (fun b => b = w18.heap.size) w20).setCell (p := ⟨w18.heap.size, 0, none⟩) (.inl rfl) _) (fun gg a b => hne gg a b)), Lib.hid hne, Lib.hid (kD.setCell (.inr kA.size) _)⟩
        | exact ⟨w19.heap.size, A20, c20, rfl, rfl, (kA.nw kB).size, Lib.hid (one_set w20 _ _ _ hz6), Lib.hid (hS.kp ((Kp.refl (fun b => b = w19.heap.size) w20).setCell (p := ⟨w19.heap.size, 0, none⟩) (.inl rfl) _) (fun gg a b => hne gg a b)), Lib.hid hne, Lib.hid (kD.setCell (.inr (kA.nw kB).size) _)⟩
  rename World => w21
  obtain ⟨bk20, A20, c20, rfl, rfl, hbk20, HCV20, HV20, NE20, HKV20⟩ := hcut
  clear tTP
  clear tTu0
  clear tTu1
  clear tTu2
  clear yA20 yB20
  have O20 : Hid (∀ g, (Value.slice A20 m c20).ownBlock = some g → w17.heap.size ≤ g ∧ g < w21.heap.size) := Lib.hid HV20.out.own_ge
  have hkc := HKV20.out
  have TP := Lib.hid (keepc hkc TP.out (fun h => h))
  have Tu0 := Lib.hid (keepc hkc Tu0.out (fun h => h))
  have Tu1 := Lib.hid (keepc hkc Tu1.out (fun h => h))
  have Tu2 := Lib.hid (keepc hkc Tu2.out (fun h => h))
  have HV4 := Lib.hid (HV4.out.below hkc.below')
  have TV4 := Lib.hid (keepc hkc TV4.out (fun h => h))
  have HV9 := Lib.hid (HV9.out.below hkc.below')
  have TV9 := Lib.hid (keepc hkc TV9.out (fun h => h))
  have HK := Lib.hid (HK.out.nw hkc)
  have z20 : w17.heap.size ≤ w21.heap.size := hkc.size
  have zb20 : bk20 < w21.heap.size := World.block_lt_of_cell? w21 _ HCV20.out
  clear hkc
  have TV20 := HCV20
  have tTV20 := TV20.out
  have yTV20 : bk20 < w21.heap.size := by omega
  have tTV4 := TV4.out
  have yTV4 : bk4 < w21.heap.size := by omega
  go_wp2_with fail
  refine (eqPuzzle_same A20 A4 m c20 c4 zs _ HV20.out.rd HV4.out.rd HL.out).mono ?_
  rintro e w22 ⟨rfl, hk22⟩
  have TP := Lib.hid (keepc hk22 TP.out (fun h => h))
  have Tu0 := Lib.hid (keepc hk22 Tu0.out (fun h => h))
  have Tu1 := Lib.hid (keepc hk22 Tu1.out (fun h => h))
  have Tu2 := Lib.hid (keepc hk22 Tu2.out (fun h => h))
  have HV4 := Lib.hid (HV4.out.below hk22.below')
  have TV4 := Lib.hid (keepc hk22 TV4.out (fun h => h))
  have HV9 := Lib.hid (HV9.out.below hk22.below')
  have TV9 := Lib.hid (keepc hk22 TV9.out (fun h => h))
  have HV20 := Lib.hid (HV20.out.below hk22.below')
  have TV20 := Lib.hid (keepc hk22 TV20.out (fun h => h))
  have HK := Lib.hid (HK.out.nw hk22)
  have z22 : w21.heap.size ≤ w22.heap.size := hk22.size
  clear tTV20 yTV20
  clear tTV4 yTV4
  clear hk22
  have tTV9 := TV9.out
  have yTV9 : bk9 < w22.heap.size := by omega
  go_wp2_with fail
  refine (heldPuzzle_any A9 m c9 1 _ HV9.out.rd (by omega) (by omega) (by omega)).mono ?_
  rintro e w23 ⟨rfl, hk23⟩
  have TP := Lib.hid (keepc hk23 TP.out (fun h => h))
  have Tu0 := Lib.hid (keepc hk23 Tu0.out (fun h => h))
  have Tu1 := Lib.hid (keepc hk23 Tu1.out (fun h => h))
  have Tu2 := Lib.hid (keepc hk23 Tu2.out (fun h => h))
  have HV4 := Lib.hid (HV4.out.below hk23.below')
  have TV4 := Lib.hid (keepc hk23 TV4.out (fun h => h))
  have HV9 := Lib.hid (HV9.out.below hk23.below')
  have TV9 := Lib.hid (keepc hk23 TV9.out (fun h => h))
  have HV20 := Lib.hid (HV20.out.below hk23.below')
  have TV20 := Lib.hid (keepc hk23 TV20.out (fun h => h))
  have HK := Lib.hid (HK.out.nw hk23)
  have z23 : w22.heap.size ≤ w23.heap.size := hk23.size
  clear tTV9 yTV9
  clear hk23
  go_wp2
  go_ret
  exact ⟨rfl, HK.out⟩
end Go.Proofs.Ytcekobdnghllcab
