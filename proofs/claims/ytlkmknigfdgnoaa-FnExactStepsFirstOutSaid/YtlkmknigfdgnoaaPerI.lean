/- The program's period, tables and steps with the same order; no condition but what the chapter asks. -/
import Derived.Test.YtlkmknigfdgnoaaGcd
import Derived.Test.YtlkmknigfdgnoaaSav
namespace Go.Proofs.Ytlkmknigfdgnoaa
open Go.ChangeShapes Go.WideShapes Go.ChangeAt Go.RowKit

set_option maxHeartbeats 1600000 in
theorem periodOf_any (n : Nat) (W : World) (hp : 1 ≤ n) (hl : n ≤ 12) : Calls Try.prog 46 #[.int .i64 n] W (IntO W (perT n : Nat)) := by
  have n0 : (0 : Int) ≤ n := Int.natCast_nonneg _
  obtain ⟨R, hR⟩ : ∃ R, perT n = R := ⟨_, rfl⟩
  rw [hR]
  have HR := Lib.hid hR
  clear hR
  go_enter Try.func46, Try.ntmps46
  go_wp2
  go_loopw [3, 4] (fun o i wr => ∃ (j : Nat), 1 ≤ j ∧ j ≤ n ∧ i = .int .i64 ((j + 1 : Nat) : Int) ∧ o = .int .i64 (perT j : Nat) ∧ Kp Nw W wr) (fun _ i _ => n + 1 - (intOf i).toNat)
  case atStart => exact ⟨1, Nat.le_refl _, hp, rfl, rfl, Kp.refl _ _⟩
  case round =>
    obtain ⟨j, j1, jn, rfl, rfl, hk⟩ := hrel
    have HK := Lib.hid hk
    obtain ⟨L, hLe⟩ : ∃ L, perT j = L := ⟨_, rfl⟩
    have hL1 : 1 ≤ L := by rw [← hLe]; exact perT_pos j
    have hL2 : L ≤ 27720 := by rw [← hLe]; exact perT_le j (by omega)
    have HST : Hid (Nat.lcm L (j + 1) = perT (j + 1)) := Lib.hid (by rw [← hLe]; rfl)
    rw [hLe]
    have HL := Lib.hid hLe
    have j0 : (0 : Int) ≤ j := Int.natCast_nonneg _
    clear hk hLe
    by_cases hlt : j < n
    · have t1 : ((j + 1 : Nat) : Int) ≤ n := by omega
      have w2 : IntKind.i64.wrap (((j + 1 : Nat) : Int) + 1) = ((j + 1 + 1 : Nat) : Int) := by rw [IntWalk.i64_in _ (by omega)]; omega
      go_wp2_with fail
      refine (lcm_any L (j + 1) wr hL1 (by omega) (by omega)).mono ?_
      rw [HST.out]
      rintro e w1 ⟨rfl, hk1⟩
      have HK1 := Lib.hid (HK.out.nw hk1)
      clear hk1
      go_wp2
      go_roundw
      case rel => exact ⟨j + 1, by omega, by omega, by go_num, rfl, HK1.out⟩
      case measure => simp [intOf] <;> omega
    · have e : j = n := by omega
      subst e
      obtain rfl : L = R := by rw [← HL.out, HR.out]
      have t1 : ¬ ((j + 1 : Nat) : Int) ≤ j := by omega
      go_wp2
      go_ret
      exact ⟨rfl, HK.out⟩
theorem isFew_yes (p : Int) (w : World) (h0 : 1 ≤ p) (h1 : p ≤ 12) : Calls Try.prog 45 #[.int .i64 p] w fun e w' => e = .returned (.bool true) ∧ w = w' := by
  go_enter Try.func45, Try.ntmps45
  go_wp2_with (first | ((with_reducible refine (within_yes p _ _ _ h0 h1).mono ?_); rintro e w' ⟨rfl, rfl⟩))
  go_ret
  exact ⟨rfl, rfl⟩
theorem isFew_no (p : Int) (w : World) (h : p < 1 ∨ 12 < p) : Calls Try.prog 45 #[.int .i64 p] w fun e w' => e = .returned (.bool false) ∧ w = w' := by
  go_enter Try.func45, Try.ntmps45
  go_wp2_with (first | ((with_reducible refine (within_no p _ _ _ h).mono ?_); rintro e w' ⟨rfl, rfl⟩))
  go_ret
  exact ⟨rfl, rfl⟩
theorem isTable_yes (p s : Int) (w : World) (p0 : 1 ≤ p) (p1 : p ≤ 200) (s0 : 1 ≤ s) (s1 : s ≤ 200) : Calls Try.prog 49 #[.int .i64 p, .int .i64 s] w fun e w' => e = .returned (.bool true) ∧ w = w' := by
  go_enter Try.func49, Try.ntmps49
  go_wp2_with (first | ((with_reducible refine (within_yes p _ _ _ p0 p1).mono ?_); rintro e w' ⟨rfl, rfl⟩) | ((with_reducible refine (within_yes s _ _ _ s0 s1).mono ?_); rintro e w' ⟨rfl, rfl⟩))
  go_ret
  exact ⟨rfl, rfl⟩
theorem isTable_no1 (p s : Int) (w : World) (h : p < 1 ∨ 200 < p) : Calls Try.prog 49 #[.int .i64 p, .int .i64 s] w fun e w' => e = .returned (.bool false) ∧ w = w' := by
  go_enter Try.func49, Try.ntmps49
  go_wp2_with (first | ((with_reducible refine (within_no p _ _ _ h).mono ?_); rintro e w' ⟨rfl, rfl⟩))
  go_ret
  exact ⟨rfl, rfl⟩
theorem isTable_no2 (p s : Int) (w : World) (p0 : 1 ≤ p) (p1 : p ≤ 200) (h : s < 1 ∨ 200 < s) : Calls Try.prog 49 #[.int .i64 p, .int .i64 s] w fun e w' => e = .returned (.bool false) ∧ w = w' := by
  go_enter Try.func49, Try.ntmps49
  go_wp2_with (first | ((with_reducible refine (within_yes p _ _ _ p0 p1).mono ?_); rintro e w' ⟨rfl, rfl⟩) | ((with_reducible refine (within_no s _ _ _ h).mono ?_); rintro e w' ⟨rfl, rfl⟩))
  go_ret
  exact ⟨rfl, rfl⟩

theorem iPeriodOfSteps_all (p : Int) (W : World) : Calls Try.prog 16 #[.int .i64 p] W (IntB W (vPeriodOfSteps p).1 (vPeriodOfSteps p).2) := by
  unfold vPeriodOfSteps
  by_cases hp : 1 ≤ p ∧ p ≤ 12
  · rw [if_pos hp]
    obtain ⟨k, rfl⟩ : ∃ k : Nat, p = k := ⟨p.toNat, by omega⟩
    rw [Int.toNat_natCast]
    obtain ⟨p0, p1⟩ := hp
    obtain ⟨R, hR⟩ : ∃ R, perT k = R := ⟨_, rfl⟩
    rw [hR]
    have HR := Lib.hid hR
    clear hR
    go_enter Try.func16, Try.ntmps16
    go_wp2_with (first | ((with_reducible refine (isFew_yes _ _ p0 p1).mono ?_); rintro e w' ⟨rfl, rfl⟩))
    refine (periodOf_any k W (by omega) (by omega)).mono ?_
    rw [HR.out]
    rintro e w1 ⟨rfl, hk1⟩
    have HK := Lib.hid hk1
    clear hk1
    go_wp2
    go_ret2
    exact ⟨rfl, HK.out⟩
  · rw [if_neg hp]
    have h : p < 1 ∨ 12 < p := by omega
    clear hp
    go_enter Try.func16, Try.ntmps16
    go_wp2_with (first | ((with_reducible refine (isFew_no p _ h).mono ?_); rintro e w' ⟨rfl, rfl⟩))
    go_ret2
    exact ⟨rfl, Kp.refl _ _⟩

theorem lastsT_get (n s j : Nat) (h : j < s) : (lastsT n s)[j]? = some (lastN ((j : Int) + 1) (n - 1)) := by unfold lastsT; simp [h]
set_option maxRecDepth 100000 in
set_option maxHeartbeats 1600000 in
theorem iLastTable_yes (n s : Nat) (w0 : World) (n1 : 1 ≤ n) (n2 : n ≤ 200) (s1 : 1 ≤ s) (s2 : s ≤ 200) : Calls Try.prog 18 #[.int .i64 n, .int .i64 s] w0 (ListB w0 (lastsT n s) true) := by
  obtain ⟨i0, hi0, hz0, hz1, hz2⟩ := info_parts intInfo
  have p0 : 1 ≤ (n : Int) := by omega
  have p1 : (n : Int) ≤ 200 := by omega
  have q0 : 1 ≤ (s : Int) := by omega
  have q1 : (s : Int) ≤ 200 := by omega
  obtain ⟨A, hA⟩ : ∃ A, lastsT n s = A := ⟨_, rfl⟩
  have hAl : A.length = s := by rw [← hA, lastsT_length]
  have HAG : Hid (∀ j, j < s → A[j]? = some (lastN ((j : Int) + 1) (n - 1))) := Lib.hid (fun j hj => by rw [← hA]; exact lastsT_get n s j hj)
  have HAL := Lib.hid hAl
  have HBL : Hid (A.length = (List.replicate s (0 : Int)).length) := Lib.hid (by rw [List.length_replicate, hAl])
  rw [hA]
  clear hA hAl
  go_enter Try.func18, Try.ntmps18
  go_wp2_with (first | ((with_reducible refine (isTable_yes _ _ _ p0 p1 q0 q1).mono ?_); rintro e w' ⟨rfl, rfl⟩) | (first | (at_make; refine wpList_make_full _ rfl _ _ 25 rfl w0.heap.size 3 i0 (.int .i64 0) 1 Try.underlying25 hi0 hz0 hz1 _ _ _ _ s rfl rfl rfl rfl (by rw [hz2]; omega) (by unfold maxLen; omega) (Nat.le_refl _) ?_)))
  intro w3 hown hgrow
  have hk3 : Kp Nw w0 w3 := (Kp.refl Nw _).grown hgrow (fun g hg => by cases hg)
  have HS0 := Lib.hid (Sl.zeros hown)
  obtain ⟨gm, hgm⟩ : ∃ gm, gm = w0.heap.size := ⟨_, rfl⟩
  have HK3 := Lib.hid hk3
  have hl3 : gm < w3.heap.size := by rw [hgm]; exact (World.ownsRow.lt hown _ rfl).2
  rw [← hgm] at HS0 ⊢
  have HGM := Lib.hid hgm
  clear hown hgrow hk3 hgm
  go_wp2
  go_loopw [7, 16] (fun _ i wr => ∃ j : Nat, j ≤ s ∧ i = .int .i64 j ∧ SlAt wr gm gm s s (fill A (List.replicate s (0 : Int)) j) ∧ Kp (fun b => b = gm) w3 wr) (fun _ i _ => s - (intOf i).toNat)
  case atStart => exact ⟨0, Nat.zero_le _, rfl, by rw [fill_zero]; exact HS0.out, Kp.refl _ _⟩
  case round =>
    obtain ⟨j, hj, rfl, hs, hk⟩ := hrel
    have HS := Lib.hid hs
    have HK := Lib.hid hk
    by_cases hlt : j < s
    · have t1 : (j : Int) < s := by omega
      have w2 : IntKind.i64.wrap ((j : Int) + 1) = (j : Int) + 1 := IntWalk.i64_in _ (by omega)
      have cs := hs.cell j hlt
      have fs := hs.frozen j
      have HF := Lib.hid (fill_set A (List.replicate s (0 : Int)) j (lastN ((j : Int) + 1) (n - 1)) HBL.out (by rw [HAL.out]; exact hlt) (HAG.out j hlt))
      clear hs hk
      go_wp2_with fail
      refine (lastByFormula_any n ((j : Int) + 1) wr n1 (by omega) (by omega) (by omega)).mono ?_
      rintro e w' ⟨rfl, rfl⟩
      go_wp2
      go_roundw
      case rel => exact ⟨j + 1, by omega, by go_num, by rw [← HF.out]; exact HS.out.store j _, HK.out.setCell (.inl rfl) _⟩
      case measure => simp [intOf] <;> omega
    · have e : j = s := by omega
      subst e
      have t1 : ¬ (j : Int) < j := by omega
      have HSF := Lib.hid (Sl.from hs.sl (show w0.heap.size ≤ gm by have := HGM.out; omega))
      have HFA : Hid (fill A (List.replicate j (0 : Int)) j = A) := Lib.hid (by have := fill_all A (List.replicate j (0 : Int)) HBL.out; rw [HAL.out] at this; exact this)
      have HKF := Lib.hid (HK3.out.after hk (fun g hg h => by have h9 : g = gm := h; have := HGM.out; omega))
      clear hs hk
      go_wp2
      go_ret2
      exact ⟨.slice (some ⟨gm, 0, none⟩) j j, rfl, by rw [← HFA.out]; exact HSF.out, HKF.out⟩
theorem iLastTable_all (p s : Int) (W : World) : Calls Try.prog 18 #[.int .i64 p, .int .i64 s] W (ListB W (vLastTable p s).1 (vLastTable p s).2) := by
  unfold vLastTable
  by_cases hp : 1 ≤ p ∧ p ≤ 200
  · obtain ⟨p0, p1⟩ := hp
    by_cases hs : 1 ≤ s ∧ s ≤ 200
    · rw [if_pos ⟨p0, p1, hs.1, hs.2⟩]
      obtain ⟨n, rfl⟩ : ∃ n : Nat, p = n := ⟨p.toNat, by omega⟩
      obtain ⟨t, rfl⟩ : ∃ t : Nat, s = t := ⟨s.toNat, by omega⟩
      rw [Int.toNat_natCast, Int.toNat_natCast]
      exact iLastTable_yes n t W (by omega) (by omega) (by omega) (by omega)
    · rw [if_neg (fun h => hs ⟨h.2.2.1, h.2.2.2⟩)]
      have h : s < 1 ∨ 200 < s := by omega
      clear hs
      go_enter Try.func18, Try.ntmps18
      go_wp2_with (first | ((with_reducible refine (isTable_no2 p s _ p0 p1 h).mono ?_); rintro e w' ⟨rfl, rfl⟩))
      go_ret2
      exact ⟨.slice none 0 0, rfl, Sl.nil _ _, Kp.refl _ _⟩
  · rw [if_neg (fun h => hp ⟨h.1, h.2.1⟩)]
    have h : p < 1 ∨ 200 < p := by omega
    clear hp
    go_enter Try.func18, Try.ntmps18
    go_wp2_with (first | ((with_reducible refine (isTable_no1 p s _ h).mono ?_); rintro e w' ⟨rfl, rfl⟩))
    go_ret2
    exact ⟨.slice none 0 0, rfl, Sl.nil _ _, Kp.refl _ _⟩
end Go.Proofs.Ytlkmknigfdgnoaa
