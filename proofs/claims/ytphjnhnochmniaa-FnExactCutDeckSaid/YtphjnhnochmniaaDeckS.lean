/- The model's functions of decks: what each returns, told by plain lists; no condition but what the chapter asks. -/
import Derived.Test.YtphjnhnochmniaaDeckF
import Derived.Test.YtphjnhnochmniaaLaws
namespace Go.Proofs.Ytphjnhnochmniaa
open Go.ChangeShapes Go.WideShapes Go.ChangeAt Go.RowKit

theorem okR_rep (u : Int) (n : Nat) (u0 : 0 ≤ u) (u1 : u ≤ 1000) : (List.replicate n u).all (okR 0 1000) = true := by
  rw [List.all_eq_true]
  intro y hy
  rw [List.eq_of_mem_replicate hy]
  exact decide_eq_true ⟨u0, u1⟩

theorem sIsDeck_any (g n B : Nat) (xs : List Int) (W : World) (hs : SlAt W B g n n xs) (hl : n ≤ 1048576) : Calls Try.prog 47 #[.slice (some ⟨g, 0, none⟩) n n] W (BoolB W (deckB xs)) := by
  obtain ⟨b, hb⟩ : ∃ b, b = deckB xs := ⟨_, rfl⟩
  rw [← hb]
  have HS := Lib.hid hs
  have HB := Lib.hid hb
  have hl2 : n ≤ 2000000 := by omega
  clear hs hb
  go_enter Try.func47, Try.ntmps47
  go_wp2_with fail
  refine (caGood_any g n n xs B _ HS.out (Nat.le_refl _) hl2 b HB.out).mono ?_
  rintro e w' ⟨rfl, rfl⟩
  go_wp2
  go_ret
  exact ⟨rfl, Kp.refl _ _⟩

set_option maxRecDepth 100000 in
set_option maxHeartbeats 1600000 in
theorem sDealDeck_no1 (g n B : Nat) (xs : List Int) (u : Int) (W : World) (hs : SlAt W B g n n xs) (hl : n ≤ 1048576) (hb : deckB xs = false) :
    Calls Try.prog 17 #[.slice (some ⟨g, 0, none⟩) n n, .int .i64 u] W (ListB W [] false) := by
  have HS := Lib.hid hs
  have HB : Hid (false = deckB xs) := Lib.hid hb.symm
  have hln : n ≤ n := Nat.le_refl _
  have hl2 : n ≤ 2000000 := by omega
  clear hs hb
  go_enter Try.func17, Try.ntmps17
  go_wp2_with (first | ((with_reducible refine (caGood_any g n n xs B _ HS.out hln hl2 false HB.out).mono ?_); rintro e w' ⟨rfl, rfl⟩))
  go_ret2
  exact ⟨_, rfl, Sl.nil _ _, Kp.refl _ _⟩

set_option maxRecDepth 100000 in
set_option maxHeartbeats 1600000 in
theorem sDealDeck_no2 (g n B : Nat) (xs : List Int) (u : Int) (W : World) (hs : SlAt W B g n n xs) (hl : n ≤ 1048576) (hb : deckB xs = true) (hu : u < 0 ∨ 1000 < u) :
    Calls Try.prog 17 #[.slice (some ⟨g, 0, none⟩) n n, .int .i64 u] W (ListB W [] false) := by
  have HS := Lib.hid hs
  have HB : Hid (true = deckB xs) := Lib.hid hb.symm
  have hln : n ≤ n := Nat.le_refl _
  have hl2 : n ≤ 2000000 := by omega
  clear hs hb
  go_enter Try.func17, Try.ntmps17
  go_wp2_with (first | ((with_reducible refine (caGood_any g n n xs B _ HS.out hln hl2 true HB.out).mono ?_); rintro e w' ⟨rfl, rfl⟩) | ((with_reducible refine (caUnder_no u _ hu).mono ?_); rintro e w' ⟨rfl, rfl⟩))
  go_ret2
  exact ⟨_, rfl, Sl.nil _ _, Kp.refl _ _⟩

set_option maxRecDepth 100000 in
set_option maxHeartbeats 1600000 in
theorem sDealDeck_yes (g n B : Nat) (xs : List Int) (u : Int) (W : World) (hs : SlAt W B g n n xs) (hl : n ≤ 1048576) (hb : deckB xs = true) (u0 : 0 ≤ u) (u1 : u ≤ 1000) :
    Calls Try.prog 17 #[.slice (some ⟨g, 0, none⟩) n n, .int .i64 u] W (ListB W (deal xs (List.replicate n u)) true) := by
  have HS := Lib.hid hs
  have HB : Hid (true = deckB xs) := Lib.hid hb.symm
  have hln : n ≤ n := Nat.le_refl _
  have hl2 : n ≤ 2000000 := by omega
  obtain ⟨d1, d2, _, _⟩ := deckB_parts hb
  have hn := hs.1
  rw [hn] at d1 d2
  have HN := Lib.hid hn
  clear hs hb hn
  go_enter Try.func17, Try.ntmps17
  go_wp2_with (first | ((with_reducible refine (caGood_any g n n xs B _ HS.out hln hl2 true HB.out).mono ?_); rintro e w' ⟨rfl, rfl⟩) | ((with_reducible refine (caUnder_yes u _ u0 u1).mono ?_); rintro e w' ⟨rfl, rfl⟩))
  refine (caSame_any n u _ (by omega)).mono ?_
  rintro e w1 ⟨v, rfl, hs1, hk1⟩
  obtain ⟨A1, c1, rfl⟩ := hs1.val (List.length_replicate)
  have HS1 := Lib.hid hs1
  have HK1 := Lib.hid hk1
  clear hs1 hk1
  go_wp2_with fail
  refine (caDeal_any (.slice (some ⟨g, 0, none⟩) n n) A1 n c1 xs (List.replicate n u) _ (HS.out.sl.rd.nw HK1.out) (fun h => by have := HN.out; rw [h] at this; simp at this; omega) HS1.out.rd (by simp) (by have := HN.out; omega) (by have := HN.out; omega) (okR_rep u n u0 u1)).mono ?_
  rintro e w2 ⟨v2, rfl, hs2, hk2⟩
  have HK2 := Lib.hid (HK1.out.nw hk2)
  have HS2 := Lib.hid (hs2.from HK1.out.size)
  clear hs2 hk2
  go_wp2
  go_ret2
  exact ⟨v2, rfl, HS2.out, HK2.out⟩

set_option maxRecDepth 100000 in
set_option maxHeartbeats 1600000 in
theorem sDeckFor_no1 (g n B : Nat) (xs : List Int) (u : Int) (W : World) (hs : SlAt W B g n n xs) (hl : n ≤ 1048576) (hb : deckB xs = false) :
    Calls Try.prog 23 #[.slice (some ⟨g, 0, none⟩) n n, .int .i64 u] W (ListB W [] false) := by
  have HS := Lib.hid hs
  have HB : Hid (false = deckB xs) := Lib.hid hb.symm
  have hln : n ≤ n := Nat.le_refl _
  have hl2 : n ≤ 2000000 := by omega
  clear hs hb
  go_enter Try.func23, Try.ntmps23
  go_wp2_with (first | ((with_reducible refine (caGood_any g n n xs B _ HS.out hln hl2 false HB.out).mono ?_); rintro e w' ⟨rfl, rfl⟩))
  go_ret2
  exact ⟨_, rfl, Sl.nil _ _, Kp.refl _ _⟩

set_option maxRecDepth 100000 in
set_option maxHeartbeats 1600000 in
theorem sDeckFor_no2 (g n B : Nat) (xs : List Int) (u : Int) (W : World) (hs : SlAt W B g n n xs) (hl : n ≤ 1048576) (hb : deckB xs = true) (hu : u < 0 ∨ 1000 < u) :
    Calls Try.prog 23 #[.slice (some ⟨g, 0, none⟩) n n, .int .i64 u] W (ListB W [] false) := by
  have HS := Lib.hid hs
  have HB : Hid (true = deckB xs) := Lib.hid hb.symm
  have hln : n ≤ n := Nat.le_refl _
  have hl2 : n ≤ 2000000 := by omega
  clear hs hb
  go_enter Try.func23, Try.ntmps23
  go_wp2_with (first | ((with_reducible refine (caGood_any g n n xs B _ HS.out hln hl2 true HB.out).mono ?_); rintro e w' ⟨rfl, rfl⟩) | ((with_reducible refine (caUnder_no u _ hu).mono ?_); rintro e w' ⟨rfl, rfl⟩))
  go_ret2
  exact ⟨_, rfl, Sl.nil _ _, Kp.refl _ _⟩

set_option maxRecDepth 100000 in
set_option maxHeartbeats 1600000 in
theorem sDeckFor_yes (g n B : Nat) (xs : List Int) (u : Int) (W : World) (hs : SlAt W B g n n xs) (hl : n ≤ 1048576) (hb : deckB xs = true) (u0 : 0 ≤ u) (u1 : u ≤ 1000) :
    Calls Try.prog 23 #[.slice (some ⟨g, 0, none⟩) n n, .int .i64 u] W (ListB W (scat xs (deal (marks 0 n) (List.replicate n u))) true) := by
  have HS := Lib.hid hs
  have HB : Hid (true = deckB xs) := Lib.hid hb.symm
  have hln : n ≤ n := Nat.le_refl _
  have hl2 : n ≤ 2000000 := by omega
  obtain ⟨d1, d2, _, _⟩ := deckB_parts hb
  have hn := hs.1
  rw [hn] at d1 d2
  have HN := Lib.hid hn
  clear hs hb hn
  go_enter Try.func23, Try.ntmps23
  go_wp2_with (first | ((with_reducible refine (caGood_any g n n xs B _ HS.out hln hl2 true HB.out).mono ?_); rintro e w' ⟨rfl, rfl⟩) | ((with_reducible refine (caUnder_yes u _ u0 u1).mono ?_); rintro e w' ⟨rfl, rfl⟩))
  refine (caSame_any n u _ (by omega)).mono ?_
  rintro e w1 ⟨v, rfl, hs1, hk1⟩
  obtain ⟨A1, c1, rfl⟩ := hs1.val (List.length_replicate)
  have HS1 := Lib.hid hs1
  have HK1 := Lib.hid hk1
  clear hs1 hk1
  go_wp2_with fail
  refine (caFor_any (some ⟨g, 0, none⟩) n n A1 c1 xs (List.replicate n u) _ (HS.out.sl.rd.nw HK1.out) HN.out HS1.out.rd (by simp) (by omega) (okR_rep u n u0 u1)).mono ?_
  rintro e w2 ⟨v2, rfl, hs2, hk2⟩
  have HK2 := Lib.hid (HK1.out.nw hk2)
  have HS2 := Lib.hid (hs2.from HK1.out.size)
  clear hs2 hk2
  go_wp2
  go_ret2
  exact ⟨v2, rfl, HS2.out, HK2.out⟩

set_option maxRecDepth 100000 in
set_option maxHeartbeats 1600000 in
theorem sDealFirst_no1 (g n B : Nat) (xs : List Int) (u : Int) (W : World) (hs : SlAt W B g n n xs) (hl : n ≤ 1048576) (hb : deckB xs = false) :
    Calls Try.prog 25 #[.slice (some ⟨g, 0, none⟩) n n, .int .i64 u] W (ListB W [] false) := by
  have HS := Lib.hid hs
  have HB : Hid (false = deckB xs) := Lib.hid hb.symm
  have hln : n ≤ n := Nat.le_refl _
  have hl2 : n ≤ 2000000 := by omega
  clear hs hb
  go_enter Try.func25, Try.ntmps25
  go_wp2_with (first | ((with_reducible refine (caGood_any g n n xs B _ HS.out hln hl2 false HB.out).mono ?_); rintro e w' ⟨rfl, rfl⟩))
  go_ret2
  exact ⟨_, rfl, Sl.nil _ _, Kp.refl _ _⟩

set_option maxRecDepth 100000 in
set_option maxHeartbeats 1600000 in
theorem sDealFirst_no2 (g n B : Nat) (xs : List Int) (u : Int) (W : World) (hs : SlAt W B g n n xs) (hl : n ≤ 1048576) (hb : deckB xs = true) (hu : u < 0 ∨ 1000 < u) :
    Calls Try.prog 25 #[.slice (some ⟨g, 0, none⟩) n n, .int .i64 u] W (ListB W [] false) := by
  have HS := Lib.hid hs
  have HB : Hid (true = deckB xs) := Lib.hid hb.symm
  have hln : n ≤ n := Nat.le_refl _
  have hl2 : n ≤ 2000000 := by omega
  clear hs hb
  go_enter Try.func25, Try.ntmps25
  go_wp2_with (first | ((with_reducible refine (caGood_any g n n xs B _ HS.out hln hl2 true HB.out).mono ?_); rintro e w' ⟨rfl, rfl⟩) | ((with_reducible refine (caUnder_no u _ hu).mono ?_); rintro e w' ⟨rfl, rfl⟩))
  go_ret2
  exact ⟨_, rfl, Sl.nil _ _, Kp.refl _ _⟩

set_option maxRecDepth 100000 in
set_option maxHeartbeats 1600000 in
theorem sDealFirst_yes (g n B : Nat) (xs : List Int) (u : Int) (W : World) (hs : SlAt W B g n n xs) (hl : n ≤ 1048576) (hb : deckB xs = true) (u0 : 0 ≤ u) (u1 : u ≤ 1000) :
    Calls Try.prog 25 #[.slice (some ⟨g, 0, none⟩) n n, .int .i64 u] W (ListB W (deal xs ((List.replicate n u).set 0 0)) true) := by
  have HS := Lib.hid hs
  have HB : Hid (true = deckB xs) := Lib.hid hb.symm
  have hln : n ≤ n := Nat.le_refl _
  have hl2 : n ≤ 2000000 := by omega
  obtain ⟨d1, d2, _, _⟩ := deckB_parts hb
  have hn := hs.1
  rw [hn] at d1 d2
  have HN := Lib.hid hn
  clear hs hb hn
  go_enter Try.func25, Try.ntmps25
  go_wp2_with (first | ((with_reducible refine (caGood_any g n n xs B _ HS.out hln hl2 true HB.out).mono ?_); rintro e w' ⟨rfl, rfl⟩) | ((with_reducible refine (caUnder_yes u _ u0 u1).mono ?_); rintro e w' ⟨rfl, rfl⟩))
  refine (caSame_any n u _ (by omega)).mono ?_
  rintro e w1 ⟨v, rfl, hs1, hk1⟩
  obtain ⟨g1, c1, hv, hat, hc1, hc2, hB1, hg1⟩ := hs1.at_ (by rw [List.length_replicate]; omega)
  rw [List.length_replicate] at hv hat hc1
  subst hv
  have HAT := Lib.hid hat
  have HK1 := Lib.hid hk1
  have cc := hat.cell 0 (by omega)
  have ff := hat.frozen 0
  have n0 : (0 : Int) < n := by omega
  have n0' : 0 < n := by omega
  clear hs1 hk1 hat
  go_wp2_with fail
  refine (caDeal_any (.slice (some ⟨g, 0, none⟩) n n) (some ⟨g1, 0, none⟩) n c1 xs ((List.replicate n u).set 0 0) _ (((HS.out.sl.rd).nw HK1.out).kp ((Kp.refl (fun b => b = g1) w1).setCell (p := ⟨g1, 0, none⟩) (.inl rfl) (.int .i64 0)) (fun A0 n1 c2 e hp h => by
      injection e with e1 e2 e3
      injection e1 with e1
      rw [← e1] at h
      have h9 : g = g1 := h
      have := (HS.out.sl.own_ge g rfl).2
      omega)) (fun h => by have := HN.out; rw [h] at this; simp at this; omega) (HAT.out.store 0 0).sl.rd (by simp) (by have := HN.out; omega) (by have := HN.out; omega) ?_).mono ?_
  · rw [List.all_eq_true]
    intro y hy
    rcases List.mem_or_eq_of_mem_set hy with h | h
    · rw [List.eq_of_mem_replicate h]; exact decide_eq_true ⟨u0, u1⟩
    · rw [h]; rfl
  rintro e w2 ⟨v2, rfl, hs2, hk2⟩
  have HK2 := Lib.hid ((HK1.out.setCell (p := ⟨g1, 0, none⟩) (.inr hB1) (.int .i64 0)).nw hk2)
  have HS2 := Lib.hid (hs2.from (B' := W.heap.size) (by simpa [World.setCell] using HK1.out.size))
  clear hs2 hk2
  go_wp2
  go_ret2
  exact ⟨v2, rfl, HS2.out, HK2.out⟩

set_option maxRecDepth 100000 in
set_option maxHeartbeats 1600000 in
theorem sDealCounts_no1 (g n B : Nat) (xs : List Int) (g2 m : Nat) (W : World) (hs : SlAt W B g n n xs) (hl : n ≤ 1048576) (hb : deckB xs = false) :
    Calls Try.prog 27 #[.slice (some ⟨g, 0, none⟩) n n, .slice (some ⟨g2, 0, none⟩) m m] W (ListB W [] false) := by
  have HS := Lib.hid hs
  have HB : Hid (false = deckB xs) := Lib.hid hb.symm
  have hln : n ≤ n := Nat.le_refl _
  have hl2 : n ≤ 2000000 := by omega
  clear hs hb
  go_enter Try.func27, Try.ntmps27
  go_wp2_with (first | ((with_reducible refine (caGood_any g n n xs B _ HS.out hln hl2 false HB.out).mono ?_); rintro e w' ⟨rfl, rfl⟩))
  go_ret2
  exact ⟨_, rfl, Sl.nil _ _, Kp.refl _ _⟩

set_option maxRecDepth 100000 in
set_option maxHeartbeats 1600000 in
theorem sDealCounts_no2 (g n B : Nat) (xs : List Int) (g2 m B2 : Nat) (us : List Int) (W : World) (hs : SlAt W B g n n xs) (hl : n ≤ 1048576) (hs2 : SlAt W B2 g2 m m us) (hm : m ≤ 1048576) (hb : deckB xs = true) (hc : countsB n us = false) :
    Calls Try.prog 27 #[.slice (some ⟨g, 0, none⟩) n n, .slice (some ⟨g2, 0, none⟩) m m] W (ListB W [] false) := by
  have HS := Lib.hid hs
  have HB : Hid (true = deckB xs) := Lib.hid hb.symm
  have hln : n ≤ n := Nat.le_refl _
  have hl2 : n ≤ 2000000 := by omega
  have HU := Lib.hid hs2.sl.rd
  have HM := Lib.hid hs2.1
  have hm2 : m ≤ 2000000 := by omega
  have HC : Hid (false = countsB n us) := Lib.hid hc.symm
  clear hs hb hs2 hc
  go_enter Try.func27, Try.ntmps27
  go_wp2_with (first | ((with_reducible refine (caGood_any g n n xs B _ HS.out hln hl2 true HB.out).mono ?_); rintro e w' ⟨rfl, rfl⟩) | ((with_reducible refine (caCounts_any n (some ⟨g2, 0, none⟩) m m us _ HU.out HM.out hm2 hl2 false HC.out).mono ?_); rintro e w' ⟨rfl, rfl⟩))
  go_ret2
  exact ⟨_, rfl, Sl.nil _ _, Kp.refl _ _⟩

set_option maxRecDepth 100000 in
set_option maxHeartbeats 1600000 in
theorem sDealCounts_yes (g n B : Nat) (xs : List Int) (g2 B2 : Nat) (us : List Int) (W : World) (hs : SlAt W B g n n xs) (hl : n ≤ 1048576) (hs2 : SlAt W B2 g2 n n us) (hb : deckB xs = true) (hc : countsB n us = true) :
    Calls Try.prog 27 #[.slice (some ⟨g, 0, none⟩) n n, .slice (some ⟨g2, 0, none⟩) n n] W (ListB W (deal xs us) true) := by
  have HS := Lib.hid hs
  have HB : Hid (true = deckB xs) := Lib.hid hb.symm
  have hln : n ≤ n := Nat.le_refl _
  have hl2 : n ≤ 2000000 := by omega
  have HU := Lib.hid hs2.sl.rd
  have HM := Lib.hid hs2.1
  have HC : Hid (true = countsB n us) := Lib.hid hc.symm
  obtain ⟨d1, d2, _, _⟩ := deckB_parts hb
  have hn := hs.1
  rw [hn] at d1 d2
  have HN := Lib.hid hn
  have hok : us.length = n ∧ us.all (okR 0 1000) = true := by unfold countsB at hc; rw [Bool.and_eq_true, decide_eq_true_eq] at hc; exact hc
  have HOK := Lib.hid hok.2
  clear hs hb hs2 hc hok hn
  go_enter Try.func27, Try.ntmps27
  go_wp2_with (first | ((with_reducible refine (caGood_any g n n xs B _ HS.out hln hl2 true HB.out).mono ?_); rintro e w' ⟨rfl, rfl⟩) | ((with_reducible refine (caCounts_any n (some ⟨g2, 0, none⟩) n n us _ HU.out HM.out hl2 hl2 true HC.out).mono ?_); rintro e w' ⟨rfl, rfl⟩))
  refine (caDeal_any (.slice (some ⟨g, 0, none⟩) n n) (some ⟨g2, 0, none⟩) n n xs us _ HS.out.sl.rd (fun h => by have := HN.out; rw [h] at this; simp at this; omega) HU.out HM.out (by have := HN.out; omega) (by have := HN.out; omega) HOK.out).mono ?_
  rintro e w2 ⟨v2, rfl, hs2, hk2⟩
  have HK2 := Lib.hid hk2
  have HS2 := Lib.hid hs2
  clear hs2 hk2
  go_wp2
  go_ret2
  exact ⟨v2, rfl, HS2.out, HK2.out⟩

set_option maxRecDepth 100000 in
set_option maxHeartbeats 1600000 in
theorem sDeckForCounts_no1 (g n B : Nat) (xs : List Int) (g2 m : Nat) (W : World) (hs : SlAt W B g n n xs) (hl : n ≤ 1048576) (hb : deckB xs = false) :
    Calls Try.prog 29 #[.slice (some ⟨g, 0, none⟩) n n, .slice (some ⟨g2, 0, none⟩) m m] W (ListB W [] false) := by
  have HS := Lib.hid hs
  have HB : Hid (false = deckB xs) := Lib.hid hb.symm
  have hln : n ≤ n := Nat.le_refl _
  have hl2 : n ≤ 2000000 := by omega
  clear hs hb
  go_enter Try.func29, Try.ntmps29
  go_wp2_with (first | ((with_reducible refine (caGood_any g n n xs B _ HS.out hln hl2 false HB.out).mono ?_); rintro e w' ⟨rfl, rfl⟩))
  go_ret2
  exact ⟨_, rfl, Sl.nil _ _, Kp.refl _ _⟩

set_option maxRecDepth 100000 in
set_option maxHeartbeats 1600000 in
theorem sDeckForCounts_no2 (g n B : Nat) (xs : List Int) (g2 m B2 : Nat) (us : List Int) (W : World) (hs : SlAt W B g n n xs) (hl : n ≤ 1048576) (hs2 : SlAt W B2 g2 m m us) (hm : m ≤ 1048576) (hb : deckB xs = true) (hc : countsB n us = false) :
    Calls Try.prog 29 #[.slice (some ⟨g, 0, none⟩) n n, .slice (some ⟨g2, 0, none⟩) m m] W (ListB W [] false) := by
  have HS := Lib.hid hs
  have HB : Hid (true = deckB xs) := Lib.hid hb.symm
  have hln : n ≤ n := Nat.le_refl _
  have hl2 : n ≤ 2000000 := by omega
  have HU := Lib.hid hs2.sl.rd
  have HM := Lib.hid hs2.1
  have hm2 : m ≤ 2000000 := by omega
  have HC : Hid (false = countsB n us) := Lib.hid hc.symm
  clear hs hb hs2 hc
  go_enter Try.func29, Try.ntmps29
  go_wp2_with (first | ((with_reducible refine (caGood_any g n n xs B _ HS.out hln hl2 true HB.out).mono ?_); rintro e w' ⟨rfl, rfl⟩) | ((with_reducible refine (caCounts_any n (some ⟨g2, 0, none⟩) m m us _ HU.out HM.out hm2 hl2 false HC.out).mono ?_); rintro e w' ⟨rfl, rfl⟩))
  go_ret2
  exact ⟨_, rfl, Sl.nil _ _, Kp.refl _ _⟩

set_option maxRecDepth 100000 in
set_option maxHeartbeats 1600000 in
theorem sDeckForCounts_yes (g n B : Nat) (xs : List Int) (g2 B2 : Nat) (us : List Int) (W : World) (hs : SlAt W B g n n xs) (hl : n ≤ 1048576) (hs2 : SlAt W B2 g2 n n us) (hb : deckB xs = true) (hc : countsB n us = true) :
    Calls Try.prog 29 #[.slice (some ⟨g, 0, none⟩) n n, .slice (some ⟨g2, 0, none⟩) n n] W (ListB W (scat xs (deal (marks 0 n) us)) true) := by
  have HS := Lib.hid hs
  have HB : Hid (true = deckB xs) := Lib.hid hb.symm
  have hln : n ≤ n := Nat.le_refl _
  have hl2 : n ≤ 2000000 := by omega
  have HU := Lib.hid hs2.sl.rd
  have HM := Lib.hid hs2.1
  have HC : Hid (true = countsB n us) := Lib.hid hc.symm
  obtain ⟨d1, d2, _, _⟩ := deckB_parts hb
  have hn := hs.1
  rw [hn] at d1 d2
  have HN := Lib.hid hn
  have hok : us.length = n ∧ us.all (okR 0 1000) = true := by unfold countsB at hc; rw [Bool.and_eq_true, decide_eq_true_eq] at hc; exact hc
  have HOK := Lib.hid hok.2
  clear hs hb hs2 hc hok hn
  go_enter Try.func29, Try.ntmps29
  go_wp2_with (first | ((with_reducible refine (caGood_any g n n xs B _ HS.out hln hl2 true HB.out).mono ?_); rintro e w' ⟨rfl, rfl⟩) | ((with_reducible refine (caCounts_any n (some ⟨g2, 0, none⟩) n n us _ HU.out HM.out hl2 hl2 true HC.out).mono ?_); rintro e w' ⟨rfl, rfl⟩))
  refine (caFor_any (some ⟨g, 0, none⟩) n n (some ⟨g2, 0, none⟩) n xs us _ HS.out.sl.rd HN.out HU.out HM.out (by omega) HOK.out).mono ?_
  rintro e w2 ⟨v2, rfl, hs2, hk2⟩
  have HK2 := Lib.hid hk2
  have HS2 := Lib.hid hs2
  clear hs2 hk2
  go_wp2
  go_ret2
  exact ⟨v2, rfl, HS2.out, HK2.out⟩
end Go.Proofs.Ytphjnhnochmniaa
