/- The law of JoinSongs: the frame, given what the model and the program return. -/
import Derived.Test.YtalikikafcicpaaLwSo
import Derived.Deep.DeepCutAuto
import Derived.Deep.RegionLaw
namespace Go.Proofs.Ytalikikafcicpaa
open Go.ChangeShapes Go.WideShapes Go.ChangeAt Go.RowKit

set_option maxHeartbeats 800000 in
theorem lawJoinSongs_bigA (AA : Option Addr) (nA cA : Nat) (AB : Option Addr) (nB cB : Nat) (W : World) (hm : nA ≤ maxLen) (hb : 1048576 < nA) :
    Calls Try.prog 4 #[.agg #[.slice AA nA cA], .agg #[.slice AB nB cB]] W fun e w' => e = .returned (.bool true) ∧ Kp Nw W w' := by
  have HK := Lib.hid (Kp.refl Nw W)
  go_enter Try.func4, Try.ntmps4
  go_wp2_with fail
  refine (szSong_large AA nA cA (1048576) _ hm (by omega) (by omega) (by omega)).mono ?_
  rintro e w1 ⟨rfl, hk1⟩
  have HK := Lib.hid (((HK.out.alloc (.cells #[.slice AA nA cA] 24)).alloc (.cells #[.slice AB nB cB] 24)).nw hk1)
  have z1 : W.heap.size + 2 ≤ w1.heap.size := by have := hk1.size; simp only [World.size_alloc] at this; omega
  clear hk1
  go_wp2
  go_ret
  exact ⟨rfl, HK.out⟩

set_option maxHeartbeats 800000 in
theorem lawJoinSongs_bigB (AA : Option Addr) (nA cA : Nat) (AB : Option Addr) (nB cB : Nat) (W : World) (hm : nB ≤ maxLen) (hsA : nA ≤ 1048576) (hb : 1048576 < nA + nB) :
    Calls Try.prog 4 #[.agg #[.slice AA nA cA], .agg #[.slice AB nB cB]] W fun e w' => e = .returned (.bool true) ∧ Kp Nw W w' := by
  have qA : (0 : Int) ≤ 1048576 - (nA : Int) := by omega
  have HK := Lib.hid (Kp.refl Nw W)
  go_enter Try.func4, Try.ntmps4
  go_wp2_with fail
  refine (szSong_small AA nA cA (1048576) _ (by omega) (by omega)).mono ?_
  rintro e w1 ⟨rfl, hk1⟩
  have HK := Lib.hid (((HK.out.alloc (.cells #[.slice AA nA cA] 24)).alloc (.cells #[.slice AB nB cB] 24)).nw hk1)
  have z1 : W.heap.size + 2 ≤ w1.heap.size := by have := hk1.size; simp only [World.size_alloc] at this; omega
  have TA : Hid (w1.cell? ⟨W.heap.size, 0, none⟩ = some (.slice AA nA cA)) := Lib.hid (by have h := (((Own1.new W (.slice AA nA cA) 24).kp (.al _ (.cells #[.slice AB nB cB] 24)) (fun h => h)).kp hk1 (fun h => h)).1; simpa only [World.size_alloc] using h)
  have TB : Hid (w1.cell? ⟨W.heap.size + 1, 0, none⟩ = some (.slice AB nB cB)) := Lib.hid (by have h := ((Own1.new (W.alloc (.cells #[.slice AA nA cA] 24)) (.slice AB nB cB) 24).kp hk1 (fun h => h)).1; simpa only [World.size_alloc] using h)
  clear hk1
  have yB : W.heap.size + 1 < w1.heap.size := by omega
  have tB := TB.out
  go_wp2_with fail
  refine (szSong_large AB nB cB (1048576 - (nA : Int)) _ hm (by omega) (by omega) (by omega)).mono ?_
  rintro e w2 ⟨rfl, hk2⟩
  have HK := Lib.hid (HK.out.nw hk2)
  clear tB
  clear hk2
  go_wp2
  go_ret
  exact ⟨rfl, HK.out⟩

set_option maxHeartbeats 3200000 in
set_option maxRecDepth 100000 in
theorem lawJoinSongs_of (AA : Option Addr) (nA cA : Nat) (xsA : List Int) (AB : Option Addr) (nB cB : Nat) (xsB : List Int) (zs : List Int) (b : Bool) (W : World) (huA : Rd W (.slice AA nA cA) xsA) (hnA : xsA.length = nA) (huB : Rd W (.slice AB nB cB) xsB) (hnB : xsB.length = nB) (hso : nA + nB ≤ 1048576) (hlen : zs.length ≤ 1000000)
    (hS : Hid (∀ (gA BA : Nat) (gB BB : Nat) (W : World), SlAt W BA gA nA nA xsA → SlAt W BB gB nB nB xsB → Calls Try.prog 13 #[.agg #[.slice (some ⟨gA, 0, none⟩) nA nA], .agg #[.slice (some ⟨gB, 0, none⟩) nB nB]] W (SongB W zs b))) (hI : Hid (∀ (gA BA : Nat) (gB BB : Nat) (W : World), SlAt W BA gA nA nA xsA → SlAt W BB gB nB nB xsB → Calls Try.prog 14 #[.agg #[.slice (some ⟨gA, 0, none⟩) nA nA], .agg #[.slice (some ⟨gB, 0, none⟩) nB nB]] W (SongB W zs b))) :
    Calls Try.prog 4 #[.agg #[.slice AA nA cA], .agg #[.slice AB nB cB]] W fun e w' => e = .returned (.bool true) ∧ Kp Nw W w' := by
  obtain ⟨m, hm⟩ : ∃ m, zs.length = m := ⟨_, rfl⟩
  have HL : Hid (zs.length ≤ maxLen) := Lib.hid (by unfold maxLen; omega)
  have hlen : m ≤ 1000000 := by omega
  have hm0 : (0 : Int) ≤ m := Int.natCast_nonneg _
  have HM := Lib.hid hm
  clear hm
  have HUA := Lib.hid huA
  have HNA := Lib.hid hnA
  have hA : nA ≤ 1048576 := by omega
  have HLXA : Hid (xsA.length ≤ maxLen) := Lib.hid (by unfold maxLen; omega)
  have n0A : (0 : Int) ≤ nA := Int.natCast_nonneg _
  clear huA hnA
  have HUB := Lib.hid huB
  have HNB := Lib.hid hnB
  have hB : nB ≤ 1048576 := by omega
  have HLXB : Hid (xsB.length ≤ maxLen) := Lib.hid (by unfold maxLen; omega)
  have n0B : (0 : Int) ≤ nB := Int.natCast_nonneg _
  clear huB hnB
  have q1A : (0 : Int) ≤ 1048576 - (nA : Int) := by omega
  have q1B : (0 : Int) ≤ 1048576 - (nA : Int) - (nB : Int) := by omega
  have HK := Lib.hid (Kp.refl Nw W)
  go_enter Try.func4, Try.ntmps4
  go_wp2_with fail
  refine (szSong_small AA nA cA (1048576) _ (by omega) (by omega)).mono ?_
  rintro e w1 ⟨rfl, hk1⟩
  have HK := Lib.hid (((HK.out.alloc (.cells #[.slice AA nA cA] 24)).alloc (.cells #[.slice AB nB cB] 24)).nw hk1)
  have z1 : W.heap.size + 2 ≤ w1.heap.size := by have := hk1.size; simp only [World.size_alloc] at this; omega
  have TA : Hid (w1.cell? ⟨W.heap.size, 0, none⟩ = some (.slice AA nA cA)) := Lib.hid (by have h := (((Own1.new W (.slice AA nA cA) 24).kp (.al _ (.cells #[.slice AB nB cB] 24)) (fun h => h)).kp hk1 (fun h => h)).1; simpa only [World.size_alloc] using h)
  have TB : Hid (w1.cell? ⟨W.heap.size + 1, 0, none⟩ = some (.slice AB nB cB)) := Lib.hid (by have h := ((Own1.new (W.alloc (.cells #[.slice AA nA cA] 24)) (.slice AB nB cB) 24).kp hk1 (fun h => h)).1; simpa only [World.size_alloc] using h)
  clear hk1
  have tTB := TB.out
  have yTB : W.heap.size + 1 < w1.heap.size := by omega
  go_wp2_with fail
  refine (szSong_small AB nB cB (1048576 - (nA : Int)) _ (by omega) (by omega)).mono ?_
  rintro e w2 ⟨rfl, hk2⟩
  have TA := Lib.hid (keepc hk2 TA.out (fun h => h))
  have TB := Lib.hid (keepc hk2 TB.out (fun h => h))
  have HK := Lib.hid (HK.out.nw hk2)
  have z2 : w1.heap.size ≤ w2.heap.size := hk2.size
  clear tTB yTB
  clear hk2
  have tTA := TA.out
  have tTB := TB.out
  have yA5 : W.heap.size < w2.heap.size := by omega
  have yB5 : W.heap.size + 1 < w2.heap.size := by omega
  go_wp2_with fail
  go_cut [6, 7] (fun p9 b9 wx => ∃ (bk : Nat) (A9 : Option Addr) (c9 : Nat), p9 = .pointer (some ⟨bk, 0, none⟩) ∧ b9 = .bool b ∧ w2.heap.size ≤ bk ∧ Hid (wx.cell? ⟨bk, 0, none⟩ = some (.slice A9 m c9)) ∧ Hid (Sl wx w2.heap.size (.slice A9 m c9) zs) ∧ Hid (Kp Nw w2 wx))
  case first =>
    go_region_law (first
      | (go_simp
         go_at_call 10
         with_reducible refine (toSong_any AA nA cA xsA _ (HUA.out.nw (HK.out.nw (by first | exact Kp.refl _ _ | exact ((Kp.refl Nw _).alloc _) | exact (Kp.refl Nw _).drew | exact ((Kp.refl Nw _).alloc _).drew))) HNA.out hA).mono ?_
         rintro e w3 ⟨g3, rfl, hs3, hk3, hg3, hl3⟩
         have kA : Kp Nw w2 w3 := Kp.nw (by first | exact Kp.refl _ _ | exact ((Kp.refl Nw _).alloc _) | exact (Kp.refl Nw _).drew | exact ((Kp.refl Nw _).alloc _).drew) hk3
         have hcB := keepc kA TB.out (fun h => h)
         have yC : W.heap.size + 1 < w3.heap.size := Nat.lt_of_lt_of_le yB5 kA.size
         try have hz3 : Own1 w3 w2.heap.size (.slice none 0 0) := ((Own1.new w2 (.slice none 0 0) 27).kp (S := Nw) ((Kp.refl Nw _).drew) (fun h => h)).kp hk3 (fun h => h))
      | (go_simp
         go_at_call 10
         with_reducible refine (toSong_any AB nB cB xsB _ (HUB.out.nw ((HK.out.nw kA).nw (by first | exact Kp.refl _ _ | exact ((Kp.refl Nw _).alloc _) | exact (Kp.refl Nw _).drew | exact ((Kp.refl Nw _).alloc _).drew))) HNB.out hB).mono ?_
         rintro e w4 ⟨g4, rfl, hs4, hk4, hg4, hl4⟩
         have kB : Kp Nw w3 w4 := Kp.nw (by first | exact Kp.refl _ _ | exact ((Kp.refl Nw _).alloc _) | exact (Kp.refl Nw _).drew | exact ((Kp.refl Nw _).alloc _).drew) hk4
         first
           | have hz4 : Own1 w4 w2.heap.size (.slice none 0 0) := hz3.kp kB (fun h => h)
           | have hz4 : Own1 w4 w3.heap.size (.slice none 0 0) := (Own1.new w3 (.slice none 0 0) 27).kp hk4 (fun h => h)
           | skip)
      | (go_simp
         go_at_call 13
         with_reducible refine (hS.out g3 _ g4 _ _ (hs3.kq8 (kB.nw (by first | exact Kp.refl _ _ | exact ((Kp.refl Nw _).alloc _) | exact (Kp.refl Nw _).drew | exact ((Kp.refl Nw _).alloc _).drew)) (fun h => h)) (hs4.kq8 (S := Nw) (by first | exact Kp.refl _ _ | exact ((Kp.refl Nw _).alloc _) | exact (Kp.refl Nw _).drew | exact ((Kp.refl Nw _).alloc _).drew) (fun h => h))).mono ?_
         rintro e w5 ⟨v5, rfl, hs5, hk5⟩
         obtain ⟨A5, c5, rfl⟩ := hs5.val HM.out
         have kC : Kp Nw w4 w5 := Kp.nw (by first | exact Kp.refl _ _ | exact ((Kp.refl Nw _).alloc _) | exact (Kp.refl Nw _).drew | exact ((Kp.refl Nw _).alloc _).drew) hk5
         have kD : Kp Nw w2 w5 := (kA.nw kB).nw kC
         have hge : ∀ gg, (Value.slice A5 m c5).ownBlock = some gg → w4.heap.size ≤ gg := fun gg e => by
           have h1 := (hs5.own_ge gg e).1
           first | exact h1 | exact Nat.le_trans (Nat.le_succ _) (by simpa using h1) | exact (by simpa using h1)
         have hS : Sl w5 w2.heap.size (.slice A5 m c5) zs := hs5.from (Nat.le_trans (kA.nw kB).size (by first | exact Nat.le_refl _ | simp))
         first
           | (have hz5 : Own1 w5 w2.heap.size (.slice none 0 0) := hz4.kp kC (fun h => h); have hne : ∀ gg, (Value.slice A5 m c5).ownBlock = some gg → gg ≠ w2.heap.size := (fun gg e => by have := hge gg e; have := World.block_lt_of_cell? w4 _ hz4.1; simp only [] at this; omega); obtain ⟨hz6, hz7⟩ := hz5)
           | (have hz5 : Own1 w5 w3.heap.size (.slice none 0 0) := hz4.kp kC (fun h => h); have hne : ∀ gg, (Value.slice A5 m c5).ownBlock = some gg → gg ≠ w3.heap.size := (fun gg e => by have := hge gg e; have := World.block_lt_of_cell? w4 _ hz4.1; simp only [] at this; omega); obtain ⟨hz6, hz7⟩ := hz5)
           | (have hz5 : Own1 w5 w4.heap.size (.slice none 0 0) := (Own1.new w4 (.slice none 0 0) 27).kp hk5 (fun h => h); have hne : ∀ gg, (Value.slice A5 m c5).ownBlock = some gg → gg ≠ w4.heap.size := (fun gg e => by have h1 := (hs5.own_ge gg e).1; simp at h1; omega); obtain ⟨hz6, hz7⟩ := hz5)
           | skip)
      | fail)
    all_goals
      go_wp2_with fail
      go_meet
      first
        | exact ⟨w5.heap.size, A5, c5, rfl, rfl, kD.size, Lib.hid (Own1.new w5 (.slice A5 m c5) 27).1, Lib.hid (hS.below (Kp.al w5 _).below'), Lib.hid (kD.nw (.al _ _))⟩
        | exact ⟨w2.heap.size, A5, c5, rfl, rfl, (Nat.le_refl _), Lib.hid (one_set w5 _ _ _ hz6), Lib.hid (hS.kp ((Kp.refl (fun b => b = w2.heap.size) w5).setCell (p := ⟨w2.heap.size, 0, none⟩) (.inl rfl) _) (fun gg a b => hne gg a b)), Lib.hid (kD.setCell (.inr (Nat.le_refl _)) _)⟩
        | exact ⟨w3.heap.size, A5, c5, rfl, rfl, kA.size, Lib.hid (one_set w5 _ _ _ hz6), Lib.hid (hS.kp ((Kp.refl (fun b => b = w3.heap.size) w5).setCell (p := ⟨w3.heap.size, 0, none⟩) (.inl rfl) _) (fun gg a b => hne gg a b)), Lib.hid (kD.setCell (.inr kA.size) _)⟩
        | exact ⟨w4.heap.size, A5, c5, rfl, rfl, (kA.nw kB).size, Lib.hid (one_set w5 _ _ _ hz6), Lib.hid (hS.kp ((Kp.refl (fun b => b = w4.heap.size) w5).setCell (p := ⟨w4.heap.size, 0, none⟩) (.inl rfl) _) (fun gg a b => hne gg a b)), Lib.hid (kD.setCell (.inr (kA.nw kB).size) _)⟩
  obtain ⟨bk5, A5, c5, rfl, rfl, hbk5, HCV5, HV5, HKV5⟩ := hcut
  clear tTA
  clear tTB
  clear yA5 yB5
  have O5 : Hid (∀ g, (Value.slice A5 m c5).ownBlock = some g → w2.heap.size ≤ g ∧ g < wc.heap.size) := Lib.hid HV5.out.own_ge
  have hkc := HKV5.out
  have TA := Lib.hid (keepc hkc TA.out (fun h => h))
  have TB := Lib.hid (keepc hkc TB.out (fun h => h))
  have HK := Lib.hid (HK.out.nw hkc)
  have z5 : w2.heap.size ≤ wc.heap.size := hkc.size
  have zb5 : bk5 < wc.heap.size := World.block_lt_of_cell? wc _ HCV5.out
  clear hkc
  have TV5 := HCV5
  have tTA := TA.out
  have yTA : W.heap.size < wc.heap.size := by omega
  go_wp2_with fail
  refine (toSong_any AA nA cA xsA _ (HUA.out.nw HK.out) HNA.out hA).mono ?_
  rintro e w6 ⟨g6, rfl, hs6, hk6, hg6, hl6⟩
  have HXA := Lib.hid hs6
  have RHXA : Hid (wc.heap.size ≤ g6 ∧ g6 < w6.heap.size) := Lib.hid ⟨hg6, hl6⟩
  have TA := Lib.hid (keepc hk6 TA.out (fun h => h))
  have TB := Lib.hid (keepc hk6 TB.out (fun h => h))
  have HV5 := Lib.hid (HV5.out.below hk6.below')
  have TV5 := Lib.hid (keepc hk6 TV5.out (fun h => h))
  have HK := Lib.hid (HK.out.nw hk6)
  have z6 : wc.heap.size ≤ w6.heap.size := hk6.size
  clear tTA yTA
  clear hs6 hk6 hg6 hl6
  have tTB := TB.out
  have yTB : W.heap.size + 1 < w6.heap.size := by omega
  go_wp2_with fail
  have hkp := Kp.al w6 (.cells #[.slice (some ⟨g6, 0, none⟩) nA nA] 27)
  have TA := Lib.hid (keepc hkp TA.out (fun h => h))
  have TB := Lib.hid (keepc hkp TB.out (fun h => h))
  have HV5 := Lib.hid (HV5.out.below hkp.below')
  have TV5 := Lib.hid (keepc hkp TV5.out (fun h => h))
  have HXA := Lib.hid (HXA.out.kq8 hkp (fun h => h))
  have HK := Lib.hid (HK.out.nw hkp)
  clear hkp
  have TXA : Hid ((w6.alloc (.cells #[.slice (some ⟨g6, 0, none⟩) nA nA] 27)).cell? ⟨w6.heap.size, 0, none⟩ = some (.slice (some ⟨g6, 0, none⟩) nA nA)) := Lib.hid (Own1.new w6 (.slice (some ⟨g6, 0, none⟩) nA nA) 27).1
  refine (toSong_any AB nB cB xsB _ (HUB.out.nw HK.out) HNB.out hB).mono ?_
  rintro e w7 ⟨g7, rfl, hs7, hk7, hg7, hl7⟩
  have HXB := Lib.hid hs7
  have hg7 : w6.heap.size + 1 ≤ g7 := by simp only [World.size_alloc] at hg7; omega
  have RHXB : Hid (w6.heap.size + 1 ≤ g7 ∧ g7 < w7.heap.size) := Lib.hid ⟨hg7, hl7⟩
  have TA := Lib.hid (keepc hk7 TA.out (fun h => h))
  have TB := Lib.hid (keepc hk7 TB.out (fun h => h))
  have HV5 := Lib.hid (HV5.out.below hk7.below')
  have TV5 := Lib.hid (keepc hk7 TV5.out (fun h => h))
  have HXA := Lib.hid (HXA.out.kq8 hk7 (fun h => h))
  have TXA := Lib.hid (keepc hk7 TXA.out (fun h => h))
  have HK := Lib.hid (HK.out.nw hk7)
  have z7 : w6.heap.size + 1 ≤ w7.heap.size := by have := hk7.size; simp only [World.size_alloc] at this; omega
  clear tTB yTB
  clear hs7 hk7 hg7 hl7
  have tTXA := TXA.out
  have yTXA : w6.heap.size < w7.heap.size := by omega
  go_wp2_with fail
  have hkp := Kp.al w7 (.cells #[.slice (some ⟨g7, 0, none⟩) nB nB] 27)
  have TA := Lib.hid (keepc hkp TA.out (fun h => h))
  have TB := Lib.hid (keepc hkp TB.out (fun h => h))
  have HV5 := Lib.hid (HV5.out.below hkp.below')
  have TV5 := Lib.hid (keepc hkp TV5.out (fun h => h))
  have HXA := Lib.hid (HXA.out.kq8 hkp (fun h => h))
  have TXA := Lib.hid (keepc hkp TXA.out (fun h => h))
  have HXB := Lib.hid (HXB.out.kq8 hkp (fun h => h))
  have HK := Lib.hid (HK.out.nw hkp)
  clear hkp
  have TXB : Hid ((w7.alloc (.cells #[.slice (some ⟨g7, 0, none⟩) nB nB] 27)).cell? ⟨w7.heap.size, 0, none⟩ = some (.slice (some ⟨g7, 0, none⟩) nB nB)) := Lib.hid (Own1.new w7 (.slice (some ⟨g7, 0, none⟩) nB nB) 27).1
  refine (hI.out g6 _ g7 _ _ HXA.out HXB.out).mono ?_
  rintro e w8 ⟨v8, rfl, hs8, hk8⟩
  obtain ⟨A8, c8, rfl⟩ := hs8.val HM.out
  have HV8 := Lib.hid hs8
  have O8 : Hid (∀ g, (Value.slice A8 m c8).ownBlock = some g → w7.heap.size + 1 ≤ g ∧ g < w8.heap.size) := Lib.hid (fun g hg => by have := hs8.own_ge g hg; simp only [World.size_alloc] at this; omega)
  have TA := Lib.hid (keepc hk8 TA.out (fun h => h))
  have TB := Lib.hid (keepc hk8 TB.out (fun h => h))
  have HV5 := Lib.hid (HV5.out.below hk8.below')
  have TV5 := Lib.hid (keepc hk8 TV5.out (fun h => h))
  have HXA := Lib.hid (HXA.out.kq8 hk8 (fun h => h))
  have TXA := Lib.hid (keepc hk8 TXA.out (fun h => h))
  have HXB := Lib.hid (HXB.out.kq8 hk8 (fun h => h))
  have TXB := Lib.hid (keepc hk8 TXB.out (fun h => h))
  have HK := Lib.hid (HK.out.nw hk8)
  have z8 : w7.heap.size + 1 ≤ w8.heap.size := by have := hk8.size; simp only [World.size_alloc] at this; omega
  clear tTXA yTXA
  clear hs8 hk8
  have tTV5 := TV5.out
  have yTV5 : bk5 < w8.heap.size := by omega
  go_wp2_with fail
  have hkp := Kp.al w8 (.cells #[.slice A8 m c8] 27)
  have TA := Lib.hid (keepc hkp TA.out (fun h => h))
  have TB := Lib.hid (keepc hkp TB.out (fun h => h))
  have HV5 := Lib.hid (HV5.out.below hkp.below')
  have TV5 := Lib.hid (keepc hkp TV5.out (fun h => h))
  have HXA := Lib.hid (HXA.out.kq8 hkp (fun h => h))
  have TXA := Lib.hid (keepc hkp TXA.out (fun h => h))
  have HXB := Lib.hid (HXB.out.kq8 hkp (fun h => h))
  have TXB := Lib.hid (keepc hkp TXB.out (fun h => h))
  have HV8 := Lib.hid (HV8.out.below hkp.below')
  have HK := Lib.hid (HK.out.nw hkp)
  clear hkp
  have TV8 : Hid ((w8.alloc (.cells #[.slice A8 m c8] 27)).cell? ⟨w8.heap.size, 0, none⟩ = some (.slice A8 m c8)) := Lib.hid (Own1.new w8 (.slice A8 m c8) 27).1
  refine (eqSong_same A8 A5 m c8 c5 zs _ HV8.out.rd HV5.out.rd HL.out).mono ?_
  rintro e w9 ⟨rfl, hk9⟩
  have TA := Lib.hid (keepc hk9 TA.out (fun h => h))
  have TB := Lib.hid (keepc hk9 TB.out (fun h => h))
  have HV5 := Lib.hid (HV5.out.below hk9.below')
  have TV5 := Lib.hid (keepc hk9 TV5.out (fun h => h))
  have HXA := Lib.hid (HXA.out.kq8 hk9 (fun h => h))
  have TXA := Lib.hid (keepc hk9 TXA.out (fun h => h))
  have HXB := Lib.hid (HXB.out.kq8 hk9 (fun h => h))
  have TXB := Lib.hid (keepc hk9 TXB.out (fun h => h))
  have HV8 := Lib.hid (HV8.out.below hk9.below')
  have TV8 := Lib.hid (keepc hk9 TV8.out (fun h => h))
  have HK := Lib.hid (HK.out.nw hk9)
  have z9 : w8.heap.size + 1 ≤ w9.heap.size := by have := hk9.size; simp only [World.size_alloc] at this; omega
  clear tTV5 yTV5
  clear hk9
  have tTA := TA.out
  have tTXA := TXA.out
  go_wp2_with fail
  go_region_held3 (fun w' => Kp Nw w9 w' ∧ w'.cell? ⟨W.heap.size, 0, none⟩ = some (.slice AA nA cA) ∧ w'.cell? ⟨w6.heap.size, 0, none⟩ = some (.slice (some ⟨g6, 0, none⟩) nA nA))
    (first
      | exact ⟨(Kp.refl _ _).drew, TA.out, TXA.out⟩
      | exact ⟨hkW11, keepc hkW11 TA.out (fun h => h), keepc hkW11 TXA.out (fun h => h)⟩
      | exact ⟨hkW10, keepc hkW10 TA.out (fun h => h), keepc hkW10 TXA.out (fun h => h)⟩)
    (first
      | (go_at_call 10
         refine (toSong_any AA nA cA xsA _ (HUA.out.nw (HK.out.nw (‹Kp Nw w9 _ ∧ _›.1))) HNA.out hA).mono ?_
         rintro e w10 ⟨g10, rfl, hs10, hk10, hg10, hl10⟩
         have hkW10 := (‹Kp Nw w9 _ ∧ _›.1).nw hk10)
      | (go_at_call 12
         refine (eqSong_same _ _ nA _ _ xsA _ (HXA.out.sl.rd.nw (‹Kp Nw w9 _ ∧ _›.1)) hs10.sl.rd HLXA.out).mono ?_
         rintro e w11 ⟨rfl, hk11⟩
         have hkW11 := (‹Kp Nw w9 _ ∧ _›.1).nw hk11)
      | fail)
  clear tTA
  clear tTXA
  have TA := Lib.hid (keepc hkW11 TA.out (fun h => h))
  have TB := Lib.hid (keepc hkW11 TB.out (fun h => h))
  have HV5 := Lib.hid (HV5.out.below hkW11.below')
  have TV5 := Lib.hid (keepc hkW11 TV5.out (fun h => h))
  have HXA := Lib.hid (HXA.out.kq8 hkW11 (fun h => h))
  have TXA := Lib.hid (keepc hkW11 TXA.out (fun h => h))
  have HXB := Lib.hid (HXB.out.kq8 hkW11 (fun h => h))
  have TXB := Lib.hid (keepc hkW11 TXB.out (fun h => h))
  have HV8 := Lib.hid (HV8.out.below hkW11.below')
  have TV8 := Lib.hid (keepc hkW11 TV8.out (fun h => h))
  have HK := Lib.hid (HK.out.nw hkW11)
  have z11 : w9.heap.size ≤ w11.heap.size := hkW11.size
  clear hkW11 hkW10 hk10 hk11 hs10 hg10 hl10
  have tTB := TB.out
  have tTXB := TXB.out
  go_wp2_with fail
  go_region_held3 (fun w' => Kp Nw w11 w' ∧ w'.cell? ⟨W.heap.size + 1, 0, none⟩ = some (.slice AB nB cB) ∧ w'.cell? ⟨w7.heap.size, 0, none⟩ = some (.slice (some ⟨g7, 0, none⟩) nB nB))
    (first
      | exact ⟨(Kp.refl _ _).drew, TB.out, TXB.out⟩
      | exact ⟨hkW13, keepc hkW13 TB.out (fun h => h), keepc hkW13 TXB.out (fun h => h)⟩
      | exact ⟨hkW12, keepc hkW12 TB.out (fun h => h), keepc hkW12 TXB.out (fun h => h)⟩)
    (first
      | (go_at_call 10
         refine (toSong_any AB nB cB xsB _ (HUB.out.nw (HK.out.nw (‹Kp Nw w11 _ ∧ _›.1))) HNB.out hB).mono ?_
         rintro e w12 ⟨g12, rfl, hs12, hk12, hg12, hl12⟩
         have hkW12 := (‹Kp Nw w11 _ ∧ _›.1).nw hk12)
      | (go_at_call 12
         refine (eqSong_same _ _ nB _ _ xsB _ (HXB.out.sl.rd.nw (‹Kp Nw w11 _ ∧ _›.1)) hs12.sl.rd HLXB.out).mono ?_
         rintro e w13 ⟨rfl, hk13⟩
         have hkW13 := (‹Kp Nw w11 _ ∧ _›.1).nw hk13)
      | fail)
  clear tTB
  clear tTXB
  have TA := Lib.hid (keepc hkW13 TA.out (fun h => h))
  have TB := Lib.hid (keepc hkW13 TB.out (fun h => h))
  have HV5 := Lib.hid (HV5.out.below hkW13.below')
  have TV5 := Lib.hid (keepc hkW13 TV5.out (fun h => h))
  have HXA := Lib.hid (HXA.out.kq8 hkW13 (fun h => h))
  have TXA := Lib.hid (keepc hkW13 TXA.out (fun h => h))
  have HXB := Lib.hid (HXB.out.kq8 hkW13 (fun h => h))
  have TXB := Lib.hid (keepc hkW13 TXB.out (fun h => h))
  have HV8 := Lib.hid (HV8.out.below hkW13.below')
  have TV8 := Lib.hid (keepc hkW13 TV8.out (fun h => h))
  have HK := Lib.hid (HK.out.nw hkW13)
  have z13 : w11.heap.size ≤ w13.heap.size := hkW13.size
  clear hkW13 hkW12 hk12 hk13 hs12 hg12 hl12
  have tTXA := TXA.out
  have yTXA : w6.heap.size < w13.heap.size := by omega
  go_wp2_with fail
  refine (markSong_any _ nA nA (1) xsA _ _ HXA.out.sl HNA.out (by omega) (by omega) (by rw [HNA.out]; omega)).mono ?_
  rintro e w14 ⟨rfl, _, hk14⟩
  have MA : Hid (∀ g, (Value.slice (some ⟨g6, 0, none⟩) nA nA).ownBlock = some g → g = g6) := Lib.hid (fun g hg => by simp [Value.ownBlock] at hg; omega)
  have MMA : Hid (∀ g, (Value.slice (some ⟨g6, 0, none⟩) nA nA).ownBlock = some g → _ ≤ g ∧ g < _) := Lib.hid (fun g hg => by rw [MA.out g hg]; exact RHXA.out)
  have TA := Lib.hid (keepc hk14 TA.out (fun hg => by have := MMA.out _ hg; simp only [] at this; omega))
  have TB := Lib.hid (keepc hk14 TB.out (fun hg => by have := MMA.out _ hg; simp only [] at this; omega))
  have HV5 := Lib.hid (HV5.out.kp hk14 (fun g a b => by have := O5.out g a; have := MMA.out g b; omega))
  have TV5 := Lib.hid (keepc hk14 TV5.out (fun hg => by have := MMA.out _ hg; simp only [] at this; omega))
  have TXA := Lib.hid (keepc hk14 TXA.out (fun hg => by have := MMA.out _ hg; simp only [] at this; omega))
  have HXB := Lib.hid (HXB.out.kq8 hk14 (fun hg => by have := MMA.out _ hg; have := RHXB.out; omega))
  have TXB := Lib.hid (keepc hk14 TXB.out (fun hg => by have := MMA.out _ hg; simp only [] at this; omega))
  have HV8 := Lib.hid (HV8.out.kp hk14 (fun g a b => by have := O8.out g a; have := MMA.out g b; omega))
  have TV8 := Lib.hid (keepc hk14 TV8.out (fun hg => by have := MMA.out _ hg; simp only [] at this; omega))
  have HK := Lib.hid (HK.out.after hk14 (fun g hg h2 => by have := MMA.out g h2; omega))
  have z14 : w13.heap.size ≤ w14.heap.size := hk14.size
  clear hk14
  clear tTXA yTXA
  have tTXB := TXB.out
  have yTXB : w7.heap.size < w14.heap.size := by omega
  go_wp2_with fail
  refine (markSong_any _ nB nB (1 + (nA : Int)) xsB _ _ HXB.out.sl HNB.out (by omega) (by omega) (by rw [HNB.out]; omega)).mono ?_
  rintro e w15 ⟨rfl, _, hk15⟩
  have MB : Hid (∀ g, (Value.slice (some ⟨g7, 0, none⟩) nB nB).ownBlock = some g → g = g7) := Lib.hid (fun g hg => by simp [Value.ownBlock] at hg; omega)
  have MMB : Hid (∀ g, (Value.slice (some ⟨g7, 0, none⟩) nB nB).ownBlock = some g → _ ≤ g ∧ g < _) := Lib.hid (fun g hg => by rw [MB.out g hg]; exact RHXB.out)
  have TA := Lib.hid (keepc hk15 TA.out (fun hg => by have := MMB.out _ hg; simp only [] at this; omega))
  have TB := Lib.hid (keepc hk15 TB.out (fun hg => by have := MMB.out _ hg; simp only [] at this; omega))
  have HV5 := Lib.hid (HV5.out.kp hk15 (fun g a b => by have := O5.out g a; have := MMB.out g b; omega))
  have TV5 := Lib.hid (keepc hk15 TV5.out (fun hg => by have := MMB.out _ hg; simp only [] at this; omega))
  have TXB := Lib.hid (keepc hk15 TXB.out (fun hg => by have := MMB.out _ hg; simp only [] at this; omega))
  have HV8 := Lib.hid (HV8.out.kp hk15 (fun g a b => by have := O8.out g a; have := MMB.out g b; omega))
  have TV8 := Lib.hid (keepc hk15 TV8.out (fun hg => by have := MMB.out _ hg; simp only [] at this; omega))
  have HK := Lib.hid (HK.out.after hk15 (fun g hg h2 => by have := MMB.out g h2; omega))
  have z15 : w14.heap.size ≤ w15.heap.size := hk15.size
  clear hk15
  clear tTXB yTXB
  have tTV8 := TV8.out
  have yTV8 : w8.heap.size < w15.heap.size := by omega
  have tTV5 := TV5.out
  have yTV5 : bk5 < w15.heap.size := by omega
  go_wp2_with fail
  refine (eqSong_same A8 A5 m c8 c5 zs _ HV8.out.rd HV5.out.rd HL.out).mono ?_
  rintro e w16 ⟨rfl, hk16⟩
  have TA := Lib.hid (keepc hk16 TA.out (fun h => h))
  have TB := Lib.hid (keepc hk16 TB.out (fun h => h))
  have HV5 := Lib.hid (HV5.out.below hk16.below')
  have TV5 := Lib.hid (keepc hk16 TV5.out (fun h => h))
  have HV8 := Lib.hid (HV8.out.below hk16.below')
  have TV8 := Lib.hid (keepc hk16 TV8.out (fun h => h))
  have HK := Lib.hid (HK.out.nw hk16)
  have z16 : w15.heap.size ≤ w16.heap.size := hk16.size
  clear tTV8 yTV8
  clear tTV5 yTV5
  clear hk16
  have tTV8 := TV8.out
  have yTV8 : w8.heap.size < w16.heap.size := by omega
  go_wp2_with fail
  refine (markSong_any A8 m c8 1 zs _ _ HV8.out HM.out (by omega) (by omega) (by rw [HM.out]; omega)).mono ?_
  rintro e w17 ⟨rfl, hs17, hk17⟩
  have TA := Lib.hid (keepc hk17 TA.out (fun hg => by have := O8.out _ hg; simp only [] at this; omega))
  have TB := Lib.hid (keepc hk17 TB.out (fun hg => by have := O8.out _ hg; simp only [] at this; omega))
  have HV5 := Lib.hid (HV5.out.kp hk17 (fun g a b => by have := O5.out g a; have := O8.out g b; omega))
  have TV5 := Lib.hid (keepc hk17 TV5.out (fun hg => by have := O8.out _ hg; simp only [] at this; omega))
  have TV8 := Lib.hid (keepc hk17 TV8.out (fun hg => by have := O8.out _ hg; simp only [] at this; omega))
  have HK := Lib.hid (HK.out.after hk17 (fun g hg h2 => by have := O8.out g h2; omega))
  have z17 : w16.heap.size ≤ w17.heap.size := hk17.size
  have HV8 := Lib.hid hs17
  clear hs17 hk17
  clear tTV8 yTV8
  have tTV8 := TV8.out
  have yTV8 : w8.heap.size < w17.heap.size := by omega
  go_wp2_with fail
  refine (heldSong_any A8 m c8 1 _ HV8.out.rd (by omega) (by omega) (by omega)).mono ?_
  rintro e w18 ⟨rfl, hk18⟩
  have TA := Lib.hid (keepc hk18 TA.out (fun h => h))
  have TB := Lib.hid (keepc hk18 TB.out (fun h => h))
  have HV5 := Lib.hid (HV5.out.below hk18.below')
  have TV5 := Lib.hid (keepc hk18 TV5.out (fun h => h))
  have HV8 := Lib.hid (HV8.out.below hk18.below')
  have TV8 := Lib.hid (keepc hk18 TV8.out (fun h => h))
  have HK := Lib.hid (HK.out.nw hk18)
  have z18 : w17.heap.size ≤ w18.heap.size := hk18.size
  clear tTV8 yTV8
  clear hk18
  have tTA := TA.out
  have tTB := TB.out
  have yA21 : W.heap.size < w18.heap.size := by omega
  have yB21 : W.heap.size + 1 < w18.heap.size := by omega
  go_wp2_with fail
  go_cut [15, 16] (fun p9 b9 wx => ∃ (bk : Nat) (A9 : Option Addr) (c9 : Nat), p9 = .pointer (some ⟨bk, 0, none⟩) ∧ b9 = .bool b ∧ w18.heap.size ≤ bk ∧ Hid (wx.cell? ⟨bk, 0, none⟩ = some (.slice A9 m c9)) ∧ Hid (Sl wx w18.heap.size (.slice A9 m c9) zs) ∧ Hid (Kp Nw w18 wx))
  case first =>
    go_region_law (first
      | (go_simp
         go_at_call 10
         with_reducible refine (toSong_any AA nA cA xsA _ (HUA.out.nw (HK.out.nw (by first | exact Kp.refl _ _ | exact ((Kp.refl Nw _).alloc _) | exact (Kp.refl Nw _).drew | exact ((Kp.refl Nw _).alloc _).drew))) HNA.out hA).mono ?_
         rintro e w19 ⟨g19, rfl, hs19, hk19, hg19, hl19⟩
         have kA : Kp Nw w18 w19 := Kp.nw (by first | exact Kp.refl _ _ | exact ((Kp.refl Nw _).alloc _) | exact (Kp.refl Nw _).drew | exact ((Kp.refl Nw _).alloc _).drew) hk19
         have hcB := keepc kA TB.out (fun h => h)
         have yC : W.heap.size + 1 < w19.heap.size := Nat.lt_of_lt_of_le yB21 kA.size
         try have hz19 : Own1 w19 w18.heap.size (.slice none 0 0) := ((Own1.new w18 (.slice none 0 0) 27).kp (S := Nw) ((Kp.refl Nw _).drew) (fun h => h)).kp hk19 (fun h => h))
      | (go_simp
         go_at_call 10
         with_reducible refine (toSong_any AB nB cB xsB _ (HUB.out.nw ((HK.out.nw kA).nw (by first | exact Kp.refl _ _ | exact ((Kp.refl Nw _).alloc _) | exact (Kp.refl Nw _).drew | exact ((Kp.refl Nw _).alloc _).drew))) HNB.out hB).mono ?_
         rintro e w20 ⟨g20, rfl, hs20, hk20, hg20, hl20⟩
         have kB : Kp Nw w19 w20 := Kp.nw (by first | exact Kp.refl _ _ | exact ((Kp.refl Nw _).alloc _) | exact (Kp.refl Nw _).drew | exact ((Kp.refl Nw _).alloc _).drew) hk20
         first
           | have hz20 : Own1 w20 w18.heap.size (.slice none 0 0) := hz19.kp kB (fun h => h)
           | have hz20 : Own1 w20 w19.heap.size (.slice none 0 0) := (Own1.new w19 (.slice none 0 0) 27).kp hk20 (fun h => h)
           | skip)
      | (go_simp
         go_at_call 14
         with_reducible refine (hI.out g19 _ g20 _ _ (hs19.kq8 (kB.nw (by first | exact Kp.refl _ _ | exact ((Kp.refl Nw _).alloc _) | exact (Kp.refl Nw _).drew | exact ((Kp.refl Nw _).alloc _).drew)) (fun h => h)) (hs20.kq8 (S := Nw) (by first | exact Kp.refl _ _ | exact ((Kp.refl Nw _).alloc _) | exact (Kp.refl Nw _).drew | exact ((Kp.refl Nw _).alloc _).drew) (fun h => h))).mono ?_
         rintro e w21 ⟨v21, rfl, hs21, hk21⟩
         obtain ⟨A21, c21, rfl⟩ := hs21.val HM.out
         have kC : Kp Nw w20 w21 := Kp.nw (by first | exact Kp.refl _ _ | exact ((Kp.refl Nw _).alloc _) | exact (Kp.refl Nw _).drew | exact ((Kp.refl Nw _).alloc _).drew) hk21
         have kD : Kp Nw w18 w21 := (kA.nw kB).nw kC
         have hge : ∀ gg, (Value.slice A21 m c21).ownBlock = some gg → w20.heap.size ≤ gg := fun gg e => by
           have h1 := (hs21.own_ge gg e).1
           first | exact h1 | exact Nat.le_trans (Nat.le_succ _) (by simpa using h1) | exact (by simpa using h1)
         have hS : Sl w21 w18.heap.size (.slice A21 m c21) zs := hs21.from (Nat.le_trans (kA.nw kB).size (by first | exact Nat.le_refl _ | simp))
         first
           | (have hz21 : Own1 w21 w18.heap.size (.slice none 0 0) := hz20.kp kC (fun h => h); have hne : ∀ gg, (Value.slice A21 m c21).ownBlock = some gg → gg ≠ w18.heap.size := (fun gg e => by have := hge gg e; have := World.block_lt_of_cell? w20 _ hz20.1; simp only [] at this; omega); obtain ⟨hz6, hz7⟩ := hz21)
           | (have hz21 : Own1 w21 w19.heap.size (.slice none 0 0) := hz20.kp kC (fun h => h); have hne : ∀ gg, (Value.slice A21 m c21).ownBlock = some gg → gg ≠ w19.heap.size := (fun gg e => by have := hge gg e; have := World.block_lt_of_cell? w20 _ hz20.1; simp only [] at this; omega); obtain ⟨hz6, hz7⟩ := hz21)
           | (have hz21 : Own1 w21 w20.heap.size (.slice none 0 0) := (Own1.new w20 (.slice none 0 0) 27).kp hk21 (fun h => h); have hne : ∀ gg, (Value.slice A21 m c21).ownBlock = some gg → gg ≠ w20.heap.size := (fun gg e => by have h1 := (hs21.own_ge gg e).1; simp at h1; omega); obtain ⟨hz6, hz7⟩ := hz21)
           | skip)
      | fail)
    all_goals
      go_wp2_with fail
      go_meet
      first
        | exact ⟨w21.heap.size, A21, c21, rfl, rfl, kD.size, Lib.hid (Own1.new w21 (.slice A21 m c21) 27).1, Lib.hid (hS.below (Kp.al w21 _).below'), Lib.hid (kD.nw (.al _ _))⟩
        | exact ⟨w18.heap.size, A21, c21, rfl, rfl, (Nat.le_refl _), Lib.hid (one_set w21 _ _ _ hz6), Lib.hid (hS.kp ((Kp.refl (fun b => b = w18.heap.size) w21).setCell (p := ⟨w18.heap.size, 0, none⟩) (.inl rfl) _) (fun gg a b => hne gg a b)), Lib.hid (kD.setCell (.inr (Nat.le_refl _)) _)⟩
        | exact ⟨w19.heap.size, A21, c21, rfl, rfl, kA.size, Lib.hid (one_set w21 _ _ _ hz6), Lib.hid (hS.kp ((Kp.refl (fun b => b = w19.heap.size) w21).setCell (p := ⟨w19.heap.size, 0, none⟩) (.inl rfl) _) (fun gg a b => hne gg a b)), Lib.hid (kD.setCell (.inr kA.size) _)⟩
        | exact ⟨w20.heap.size, A21, c21, rfl, rfl, (kA.nw kB).size, Lib.hid (one_set w21 _ _ _ hz6), Lib.hid (hS.kp ((Kp.refl (fun b => b = w20.heap.size) w21).setCell (p := ⟨w20.heap.size, 0, none⟩) (.inl rfl) _) (fun gg a b => hne gg a b)), Lib.hid (kD.setCell (.inr (kA.nw kB).size) _)⟩
  obtain ⟨bk21, A21, c21, rfl, rfl, hbk21, HCV21, HV21, HKV21⟩ := hcut
  clear tTA
  clear tTB
  clear yA21 yB21
  have O21 : Hid (∀ g, (Value.slice A21 m c21).ownBlock = some g → w18.heap.size ≤ g ∧ g < wc.heap.size) := Lib.hid HV21.out.own_ge
  have hkc := HKV21.out
  have TA := Lib.hid (keepc hkc TA.out (fun h => h))
  have TB := Lib.hid (keepc hkc TB.out (fun h => h))
  have HV5 := Lib.hid (HV5.out.below hkc.below')
  have TV5 := Lib.hid (keepc hkc TV5.out (fun h => h))
  have HV8 := Lib.hid (HV8.out.below hkc.below')
  have TV8 := Lib.hid (keepc hkc TV8.out (fun h => h))
  have HK := Lib.hid (HK.out.nw hkc)
  have z21 : w18.heap.size ≤ wc.heap.size := hkc.size
  have zb21 : bk21 < wc.heap.size := World.block_lt_of_cell? wc _ HCV21.out
  clear hkc
  have TV21 := HCV21
  have tTV21 := TV21.out
  have yTV21 : bk21 < wc.heap.size := by omega
  have tTV5 := TV5.out
  have yTV5 : bk5 < wc.heap.size := by omega
  go_wp2_with fail
  refine (eqSong_same A21 A5 m c21 c5 zs _ HV21.out.rd HV5.out.rd HL.out).mono ?_
  rintro e w22 ⟨rfl, hk22⟩
  have TA := Lib.hid (keepc hk22 TA.out (fun h => h))
  have TB := Lib.hid (keepc hk22 TB.out (fun h => h))
  have HV5 := Lib.hid (HV5.out.below hk22.below')
  have TV5 := Lib.hid (keepc hk22 TV5.out (fun h => h))
  have HV8 := Lib.hid (HV8.out.below hk22.below')
  have TV8 := Lib.hid (keepc hk22 TV8.out (fun h => h))
  have HV21 := Lib.hid (HV21.out.below hk22.below')
  have TV21 := Lib.hid (keepc hk22 TV21.out (fun h => h))
  have HK := Lib.hid (HK.out.nw hk22)
  have z22 : wc.heap.size ≤ w22.heap.size := hk22.size
  clear tTV21 yTV21
  clear tTV5 yTV5
  clear hk22
  have tTV8 := TV8.out
  have yTV8 : w8.heap.size < w22.heap.size := by omega
  go_wp2_with fail
  refine (heldSong_any A8 m c8 1 _ HV8.out.rd (by omega) (by omega) (by omega)).mono ?_
  rintro e w23 ⟨rfl, hk23⟩
  have TA := Lib.hid (keepc hk23 TA.out (fun h => h))
  have TB := Lib.hid (keepc hk23 TB.out (fun h => h))
  have HV5 := Lib.hid (HV5.out.below hk23.below')
  have TV5 := Lib.hid (keepc hk23 TV5.out (fun h => h))
  have HV8 := Lib.hid (HV8.out.below hk23.below')
  have TV8 := Lib.hid (keepc hk23 TV8.out (fun h => h))
  have HV21 := Lib.hid (HV21.out.below hk23.below')
  have TV21 := Lib.hid (keepc hk23 TV21.out (fun h => h))
  have HK := Lib.hid (HK.out.nw hk23)
  have z23 : w22.heap.size ≤ w23.heap.size := hk23.size
  clear tTV8 yTV8
  clear hk23
  go_wp2
  go_ret
  exact ⟨rfl, HK.out⟩
end Go.Proofs.Ytalikikafcicpaa
