/- The least step with remainders, in the program; no condition but at most twelve of them, none below 0. -/
import Derived.Test.YtgbmoipkgnklfaaIm7
import Derived.Test.YtgbmoipkgnklfaaGcd
namespace Go.Proofs.Ytgbmoipkgnklfaa
open Go.ChangeShapes Go.WideShapes Go.ChangeAt Go.RowKit

theorem dvd_perT : ∀ (n m : Nat), 1 ≤ m → m ≤ n → m ∣ perT n
  | 0, m, h1, h2 => by omega
  | n + 1, m, h1, h2 => by
    rw [perT]
    by_cases e : m = n + 1
    · subst e; exact Nat.dvd_lcm_right _ _
    · exact Nat.dvd_trans (dvd_perT n m h1 (by omega)) (Nat.dvd_lcm_left _ _)
theorem stP_bd (us : List Int) (n : Nat) : ∀ j, j ≤ n → ∀ s b, stP us n j = some (s, b) → b ∣ perT n
  | 0, _, s, b, h => by
    unfold stP at h
    injection h with h
    injection h with _ h2
    subst h2
    exact Nat.one_dvd _
  | j + 1, hj, s, b, h => by
    unfold stP at h
    split at h
    · cases h
    · rename_i s0 b0 h0
      have ih := stP_bd us n j (by omega) s0 b0 h0
      unfold nxtS at h
      split at h
      · cases h
      · injection h with h
        injection h with _ h2
        subst h2
        rw [lcmN_lcm]
        exact Nat.lcm_dvd ih (dvd_perT n (n - j) (by omega) (by omega))
def vStP (us : List Int) (n : Nat) : Int × Bool := match stP us n n with
  | none => (0, false)
  | some (s, b) => ((upS s b : Nat), true)

set_option maxRecDepth 1000000 in
set_option maxHeartbeats 6400000 in
theorem stepWith_any (A : Option Addr) (n c : Nat) (us : List Int) (W : World) (hu : Rd W (.slice A n c) us) (hn : us.length = n) (n1 : 1 ≤ n) (hl : n ≤ 12) (hpos : ∀ j, j < n → 0 ≤ us.getD j 0) :
    Calls Try.prog 21 #[.slice A n c] W (IntB W (vStP us n).1 (vStP us n).2) := by
  obtain ⟨A', c', hA', hcell⟩ := hu
  rw [hn] at hA' hcell
  injection hA' with e1 _ e3
  subst e1
  subst e3
  obtain ⟨g, o, rfl, _⟩ := hcell 0 (by omega)
  have HC : Hid (∀ k, k < n → W.cell? ⟨g, o + k, none⟩ = some (.int .i64 (us.getD k 0))) := Lib.hid (fun k hk => by
    obtain ⟨g9, o9, e9, h9⟩ := hcell k hk
    injection e9 with e9
    injection e9 with e1 e2
    subst e1 e2
    exact h9)
  have HPOS := Lib.hid hpos
  have HBD : Hid (∀ j, j ≤ n → ∀ s b, stP us n j = some (s, b) → 1 ≤ b ∧ b ≤ 27720 ∧ s < b ∧ ∀ m, m ∣ perT n → m ≤ 27720) := Lib.hid (fun j hj s b h => by
    have h1 := stP_bd us n j hj s b h
    have hp := perT_le n hl
    have hpp := perT_pos n
    have hle : ∀ m, m ∣ perT n → m ≤ 27720 := fun m hm => by have := Nat.le_of_dvd (by omega) hm; omega
    rcases stP_is us n j hj with ⟨h2, _⟩ | ⟨s', b', h2, _, h3⟩
    · rw [h] at h2; cases h2
    · rw [h] at h2
      injection h2 with h2
      injection h2 with e1 e2
      subst e1 e2
      exact ⟨by omega, hle _ h1, h3, hle⟩)
  have HDV : Hid (∀ j, j < n → ∀ s b, stP us n j = some (s, b) → Nat.lcm b (n - j) ∣ perT n) := Lib.hid (fun j hj s b h => Nat.lcm_dvd (stP_bd us n j (by omega) s b h) (dvd_perT n (n - j) (by omega) (by omega)))
  obtain ⟨R, hR⟩ : ∃ R, vStP us n = R := ⟨_, rfl⟩
  have HR := Lib.hid hR
  rw [hR]
  have n0 : (0 : Int) ≤ n := Int.natCast_nonneg _
  clear hcell hR hn hpos
  go_enter Try.func21, Try.ntmps21
  go_wp2
  go_loopw [4, 5, 6, 7, 8, 9, 12] (fun x y _ _ _ _ i wq => ∃ (j s b : Nat) (wr : World), j ≤ n ∧ i = .int .i64 j ∧ x = .int .i64 s ∧ y = .int .i64 b ∧ wr = wq ∧ stP us n j = some (s, b) ∧ Kp Nw W wr) (fun _ _ _ _ _ _ i _ => n - (intOf i).toNat)
  case atStart => exact ⟨0, 0, 1, _, Nat.zero_le _, rfl, rfl, rfl, rfl, rfl, Kp.refl _ _⟩
  case round =>
    obtain ⟨j, s, b, wr, hj, rfl, rfl, rfl, rfl, hst, hk⟩ := hrel
    have HST := Lib.hid hst
    have HK := Lib.hid hk
    have j0 : (0 : Int) ≤ j := Int.natCast_nonneg _
    have s0 : (0 : Int) ≤ s := Int.natCast_nonneg _
    have b0 : (0 : Int) ≤ b := Int.natCast_nonneg _
    obtain ⟨bd1, bd2, bd3, bd4⟩ := HBD.out j hj s b hst
    clear hst hk
    by_cases hlt : j < n
    · have j1 : (j : Int) < n := by omega
      have hdv := HDV.out j hlt s b HST.out
      obtain ⟨m, hm⟩ : ∃ m, n - j = m := ⟨_, rfl⟩
      have m1 : 1 ≤ m := by omega
      have m2 : m ≤ 12 := by omega
      rw [hm] at hdv
      have wb := bd4 _ hdv
      have hprd := prd m b m1 bd1
      obtain ⟨d, hd⟩ : ∃ d, Nat.lcm b m / b = d := ⟨_, rfl⟩
      rw [hd] at hprd
      have hwh := hprd.whole
      have hdp := hprd.pos
      obtain ⟨V, hV⟩ : ∃ V, Nat.lcm b m = V := ⟨_, rfl⟩
      rw [hV] at wb hwh
      have bV : b ≤ V := by rw [← hwh]; exact Nat.le_mul_of_pos_left b hdp
      have cx := keepc HK.out (HC.out j hlt) (fun h => h)
      have hr0 := HPOS.out j hlt
      obtain ⟨r, hr⟩ : ∃ r : Nat, us.getD j 0 = (r : Int) := ⟨(us.getD j 0).toNat, by omega⟩
      rw [hr] at cx
      have HNXT : Hid (stP us n (j + 1) = nxtS m b (tryN m b r d s)) := Lib.hid (by
        rw [stP, HST.out, hm, hr, Int.toNat_natCast]
        show nxtS m b (tryN m b r (Nat.lcm b m / b) s) = _
        rw [hd])
      have HWH := Lib.hid hwh
      have HV := Lib.hid hV
      have wm : IntKind.i64.wrap ((n : Int) - (j : Int)) = (m : Int) := by rw [IntWalk.i64_in _ (by omega)]; omega
      have r0 : (0 : Int) ≤ r := Int.natCast_nonneg _
      have m0 : (0 : Int) < m := by omega
      have mz1 : (m : Int) ≠ 0 := by omega
      have mz2 : ¬ (m : Int) = 0 := by omega
      have mz3 : ((m : Int) == 0) = false := by simp; omega
      have hjn : j + 1 ≤ n := hlt
      clear hr hm hd hV hdv bd4 hprd hwh hr0
      go_wp2_with (first | (go_at_call 40; refine (lcm_any b m _ bd1 (by omega) (by omega)).mono ?_; rw [HV.out]; rintro e w3 ⟨rfl, hk3⟩))
      have HK3 := Lib.hid (HK.out.nw hk3)
      clear hk3
      go_wp2
      go_loopw [4] (fun x wq => ∃ (i t : Nat) (wz : World), t = s + i * b ∧ t < V ∧ (∀ u, u < i → (s + u * b) % m ≠ r) ∧ x = .int .i64 t ∧ wz = wq ∧ Kp Nw W wz) (fun x _ => V - (intOf x).toNat)
      case atStart => exact ⟨0, s, _, by simp, by omega, fun u hu => by omega, rfl, rfl, HK3.out⟩
      case round =>
        obtain ⟨i, t, wz, ht, htV, hno, rfl, rfl, hkz⟩ := hrel
        have HT := Lib.hid ht
        have HNO := Lib.hid hno
        have HKZ := Lib.hid hkz
        have t0 : (0 : Int) ≤ t := Int.natCast_nonneg _
        have hmod : (t : Int).tmod (m : Int) = ((t % m : Nat) : Int) := by rw [Int.tmod_eq_emod_of_nonneg t0]; simp
        have hml : t % m < m := Nat.mod_lt _ m1
        obtain ⟨q, hq⟩ : ∃ q, t % m = q := ⟨_, rfl⟩
        rw [hq] at hmod hml
        have wq : IntKind.i64.wrap (q : Int) = (q : Int) := IntWalk.i64_in _ (by omega)
        have HQ := Lib.hid hq
        clear ht hno hkz hq
        by_cases hqr : q = r
        · subst hqr
          have HN2 : Hid (stP us n (j + 1) = some (t, V)) := Lib.hid (by
            have hid : i < d := by
              apply Classical.byContradiction
              intro hc
              have h1 : d * b ≤ i * b := Nat.mul_le_mul_right b (by omega)
              have h2 := HT.out
              have h3 := HWH.out
              omega
            rw [HNXT.out, tryN_some m b q d s i hid (by rw [← HT.out]; exact HQ.out) HNO.out, ← HT.out, nxtS, lcmN_lcm, HV.out])
          go_wp2
          go_roundw
          case rel => exact ⟨j + 1, t, V, _, hjn, by go_num, rfl, rfl, rfl, HN2.out, HKZ.out⟩
          case measure => simp [intOf] <;> omega
        · have hqri : ¬ (q : Int) = (r : Int) := by omega
          have hqrb : ((q : Int) != (r : Int)) = true := by simp; omega
          obtain ⟨t', ht'⟩ : ∃ t', t + b = t' := ⟨_, rfl⟩
          have wt : IntKind.i64.wrap ((t : Int) + (b : Int)) = (t' : Int) := by rw [IntWalk.i64_in _ (by omega)]; omega
          have HT2 : Hid (t' = s + (i + 1) * b) := Lib.hid (by rw [Nat.succ_mul, ← ht', HT.out]; omega)
          have HNO2 : Hid (∀ u, u < i + 1 → (s + u * b) % m ≠ r) := Lib.hid (fun u hu => by
            by_cases e : u = i
            · rw [e, ← HT.out, HQ.out]; exact hqr
            · exact HNO.out u (by omega))
          by_cases hge : V ≤ t'
          · have hgei : (V : Int) ≤ (t' : Int) := by omega
            have HFAIL : Hid (R = (0, false)) := Lib.hid (by
              have hid : d ≤ i + 1 := by
                apply Classical.byContradiction
                intro hc
                have h1 : (i + 2) * b ≤ d * b := Nat.mul_le_mul_right b (by omega)
                have h2 := HT2.out
                have h3 := HWH.out
                rw [show (i + 2) * b = (i + 1) * b + b by rw [Nat.succ_mul]] at h1
                omega
              have hnone : stP us n (j + 1) = none := by
                rw [HNXT.out, tryN_no m b r d s (fun u hu => HNO2.out u (by omega)), nxtS]
              have hn2 : stP us n n = none := by
                have := stP_none us n (j + 1) hnone (n - (j + 1))
                rw [show j + 1 + (n - (j + 1)) = n by omega] at this
                exact this
              rw [← HR.out, vStP, hn2])
            clear ht'
            go_wp2
            go_ret2
            exact ⟨by rw [HFAIL.out]; rfl, HKZ.out⟩
          · have hgei : ¬ (V : Int) ≤ (t' : Int) := by omega
            have hup : t < t' := by omega
            clear ht'
            go_wp2
            go_roundw
            case rel => exact ⟨i + 1, t', _, HT2.out, by omega, HNO2.out, rfl, rfl, HKZ.out⟩
            case measure => simp [intOf] <;> omega
    · have ej : j = n := by omega
      subst ej
      have t1 : ¬ (j : Int) < j := by omega
      have HFIN : Hid (R = (((upS s b : Nat) : Int), true)) := Lib.hid (by rw [← HR.out, vStP, HST.out])
      clear bd4
      by_cases hs0 : s = 0
      · subst hs0
        have HF2 : Hid (R = ((b : Int), true)) := Lib.hid (by rw [HFIN.out]; rfl)
        go_wp2
        go_ret2
        exact ⟨by rw [HF2.out]; rfl, HK.out⟩
      · have HF2 : Hid (R = ((s : Int), true)) := Lib.hid (by rw [HFIN.out]; unfold upS; rw [if_neg hs0])
        have hs1 : ¬ (s : Int) = 0 := by omega
        go_wp2
        go_ret2
        exact ⟨by rw [HF2.out]; rfl, HK.out⟩
end Go.Proofs.Ytgbmoipkgnklfaa
