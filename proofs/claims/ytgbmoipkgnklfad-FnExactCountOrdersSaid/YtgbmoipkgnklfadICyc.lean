/- The cycles of an order in the program, each told from its least number; the sign; how many orders there are; no condition but on lengths. -/
import Derived.Test.YtgbmoipkgnklfadIOrd
import Derived.Test.YtgbmoipkgnklfadPerI
namespace Go.Proofs.Ytgbmoipkgnklfad
open Go.ChangeShapes Go.WideShapes Go.ChangeAt Go.RowKit

theorem ordB_exch' {xs : List Int} (n : Nat) (hn : xs.length = n) (hb : ordB xs = true) : Exch (exOf xs) n := by
  obtain ⟨_, _, h3, h4⟩ := ordB_parts hb
  refine exch_of xs n hn (fun x hx => ?_) h4
  have := List.all_eq_true.1 h3 x hx
  unfold okR at this
  rw [decide_eq_true_eq] at this
  omega

set_option maxRecDepth 100000 in
set_option maxHeartbeats 1600000 in
theorem cycleFrom_any (xs : List Int) (n i : Nat) (W : World) (hn : xs.length = n) (hb : ordB xs = true) (hi : i < n) :
    Calls Try.prog 32 #[.agg (exC (exOn xs)).toArray, .int .i64 i] W (Makes W (cycP (exOf xs) n i)) := by
  have hp := ordB_parts hb
  have n2 : n ≤ 12 := by omega
  have hE := ordB_exch' n hn hb
  obtain ⟨hC1, hC2, hC3⟩ := cyc_spec hE i hi
  obtain ⟨C, hC⟩ : ∃ C, cyc (exOf xs) n i = C := ⟨_, rfl⟩
  have hCp : 1 ≤ C := by rw [← hC]; exact cyc_pos _ _ _
  rw [hC] at hC1 hC2 hC3
  have hfin : cycP (exOf xs) n i = cycU (exOf xs) i C := by unfold cycP; rw [hC]
  have HFIN := Lib.hid hfin
  have HC2 := Lib.hid hC2
  have HC3 := Lib.hid hC3
  have HLT : Hid (∀ t, itp (exOf xs) t i < n) := Lib.hid (fun t => itp_lt hE t i hi)
  have hel := exOn_len xs (by omega)
  have HEL := Lib.hid hel
  have HNX : Hid (∀ t, (exOn xs).getD (itp (exOf xs) t i) 0 = (itp (exOf xs) (t + 1) i : Int)) := Lib.hid (fun t => by
    have h1 := itp_lt hE t i hi
    rw [exOn_low xs _ (by omega)]
    have h9 := ordB_get hb (itp (exOf xs) t i) (by omega)
    show _ = ((xs.getD (itp (exOf xs) t i) 0).toNat : Int)
    omega)
  have hEb := Eb.new W (exOn xs)
  have i0 : (0 : Int) ≤ i := Int.natCast_nonneg _
  have i12 : (i : Int) < 12 := by omega
  have c1 := hEb.cell i (by rw [hel]; omega)
  have hn0 := HNX.out 0
  rw [show itp (exOf xs) 0 i = i from rfl] at hn0
  rw [hn0] at c1
  obtain ⟨e1, he1⟩ : ∃ e1, itp (exOf xs) (0 + 1) i = e1 := ⟨_, rfl⟩
  rw [he1] at c1
  have HE1 := Lib.hid he1
  have HEB := Lib.hid hEb
  have cl : (exC (exOn xs))[i]? = some (.int .i64 (e1 : Int)) := by
    rw [exC_get _ i (by rw [hel]; omega), hn0, he1]
  have ca : (exC (exOn xs)).toArray[i]? = some (.int .i64 (e1 : Int)) := by rw [List.getElem?_toArray]; exact cl
  clear hp hn hb hE hC hC2 hC3 hfin hel hn0 he1 hEb
  go_enter Try.func32, Try.ntmps32
  go_wp2
  obtain ⟨w2, hw2⟩ : ∃ w2, w2 = ((W.alloc (.cells (exC (exOn xs)).toArray 38)).alloc (.cells #[.int .i64 (i : Int)] 3)) := ⟨_, rfl⟩
  have HS2 : Hid (Sl w2 W.heap.size (.slice (some ⟨W.heap.size + 1, 0, none⟩) 1 1) [(i : Int)]) := Lib.hid (by
    have h9 := Sl.lit1 (W.alloc (.cells (exC (exOn xs)).toArray 38)) (i : Int)
    simp only [World.size_alloc] at h9
    rw [hw2]
    exact h9.from (by omega))
  have HB2 : Hid (Eb w2 W.heap.size (exOn xs)) := Lib.hid (by rw [hw2]; exact HEB.out.nw (.al _ _))
  have HK2 : Hid (Kp Nw W w2) := Lib.hid (by rw [hw2]; exact (Kp.al W _).nw (.al _ _))
  rw [← hw2]
  clear hw2 c1 cl ca
  go_loopw [5, 6] (fun v0 x wq => ∃ (t : Nat) (v : Value) (wr : World), 1 ≤ t ∧ t ≤ C ∧ v = v0 ∧ x = .int .i64 (itp (exOf xs) t i : Nat) ∧ wr = wq ∧ Sl wr W.heap.size v (cycU (exOf xs) i t) ∧ (∀ b, v.ownBlock = some b → b ≠ W.heap.size) ∧ Eb wr W.heap.size (exOn xs) ∧ Kp Nw W wr) (fun v0 _ _ => C + 1 - lenOf v0)
  case atStart => exact ⟨1, _, _, Nat.le_refl _, hCp, rfl, by rw [← HE1.out], rfl, HS2.out, fun b hb => by simp [Value.ownBlock] at hb; omega, HB2.out, HK2.out⟩
  case round =>
    obtain ⟨t, v, wr, t1, tC, rfl, rfl, rfl, hs, hv, hbb, hk⟩ := hrel
    have HS := Lib.hid hs
    have HV := Lib.hid hv
    have HBB := Lib.hid hbb
    have HK := Lib.hid hk
    have hy := HLT.out t
    obtain ⟨y, hyv⟩ : ∃ y, itp (exOf xs) t i = y := ⟨_, rfl⟩
    rw [hyv] at hy ⊢
    have HY := Lib.hid hyv
    have HUL := Lib.hid (cycU_len (exOf xs) i t)
    obtain ⟨A3, c3, rfl⟩ := hs.val HUL.out
    have y0 : (0 : Int) ≤ y := Int.natCast_nonneg _
    have y12 : (y : Int) < 12 := by omega
    clear hs hv hbb hk hyv
    by_cases he : y = i
    · have etC : t = C := by
        apply Classical.byContradiction
        intro hne
        exact HC3.out t t1 (by omega) (by rw [HY.out]; exact he)
      subst he
      subst etC
      have HF : Hid (Sl wr W.heap.size (.slice A3 t c3) (cycP (exOf xs) n y)) := Lib.hid (by rw [HFIN.out]; exact HS.out)
      go_wp2
      go_ret
      exact ⟨_, rfl, HF.out, HK.out⟩
    · have hne : ¬ (y : Int) = (i : Int) := by omega
      have htC : t < C := by
        have : t ≠ C := fun e => he (by rw [← HY.out, e]; exact HC2.out)
        omega
      have HSUC : Hid (cycU (exOf xs) i (t + 1) = cycU (exOf xs) i t ++ [(y : Int)]) := Lib.hid (by rw [cycU_succ, HY.out])
      have hz1 : W.heap.size ≤ wr.heap.size := HK.out.size
      have hzlt := HBB.out.lt
      have cy := HBB.out.cell y (by rw [HEL.out]; omega)
      have hnx := HNX.out t
      rw [HY.out] at hnx
      rw [hnx] at cy
      obtain ⟨z, hzv⟩ : ∃ z, itp (exOf xs) (t + 1) i = z := ⟨_, rfl⟩
      rw [hzv] at cy
      have CY := Lib.hid cy
      have HZV := Lib.hid hzv
      clear hnx hzv cy
      go_wp2_with (first | (at_builtin; refine wpList_app _ rfl (.tmp 18) (.tmp 20) rfl W.heap.size (.slice A3 t c3) _ (cycU (exOf xs) i t) [(y : Int)] rfl rfl (HS.out.below (Kp.al _ _).below') (Rd.one (g := wr.heap.size) (by simp)) nil_one (by rw [HUL.out]; simp; omega) (by simp; omega) ?_))
      intro v5 w5 hs5 hk5 hat5
      have kk : Kp (fun b => (Value.slice A3 t c3).ownBlock = some b) wr w5 := ((Kp.refl _ wr).alloc _).after hk5 (fun _ _ e => e)
      have HB5 := Lib.hid (HBB.out.kp kk (fun e => HV.out _ e rfl))
      have cy := HB5.out.cell y (by rw [HEL.out]; omega)
      have hnx := HNX.out t
      rw [HY.out] at hnx
      rw [hnx, HZV.out] at cy
      have HK5 := Lib.hid (HK.out.own HS.out kk)
      have HV5 : Hid (∀ b, v5.ownBlock = some b → b ≠ W.heap.size) := Lib.hid (by
        intro b hb e
        subst e
        rcases hat5 with h9 | h9
        · exact HV.out _ (by rw [← h9]; exact hb) rfl
        · rw [h9] at hb
          injection hb with hb
          omega)
      rw [← HSUC.out] at hs5
      have HS5 := Lib.hid hs5
      obtain ⟨A6, c6, rfl⟩ := hs5.val (cycU_len (exOf xs) i (t + 1))
      clear hs5 hk5 kk hat5 hnx
      go_wp2
      go_roundw
      case rel => exact ⟨t + 1, _, _, by omega, by omega, rfl, by rw [HZV.out], rfl, HS5.out, HV5.out, HB5.out, HK5.out⟩
      case measure => simp [lenOf] <;> omega

/-- the least of the first k + 1 -/
def mnN (ys : List Int) : Nat → Int
  | 0 => ys.getD 0 0
  | k + 1 => min (mnN ys k) (ys.getD (k + 1) 0)
theorem mnN_le (ys : List Int) : ∀ k j, j ≤ k → mnN ys k ≤ ys.getD j 0
  | 0, j, h => by
    have e : j = 0 := by omega
    subst e
    exact Int.le_refl _
  | k + 1, j, h => by
    unfold mnN
    by_cases e : j = k + 1
    · subst e; omega
    · have := mnN_le ys k j (by omega)
      omega
theorem mnN_mem (ys : List Int) : ∀ k, ∃ j, j ≤ k ∧ mnN ys k = ys.getD j 0
  | 0 => ⟨0, Nat.le_refl _, rfl⟩
  | k + 1 => by
    obtain ⟨j, h1, h2⟩ := mnN_mem ys k
    unfold mnN
    by_cases h : mnN ys k ≤ ys.getD (k + 1) 0
    · exact ⟨j, by omega, by omega⟩
    · exact ⟨k + 1, Nat.le_refl _, by omega⟩
theorem mnN_cyc {p : Nat → Nat} {n i : Nat} (h : Exch p n) (hi : i < n) : decide (mnN (cycP p n i) (cyc p n i - 1) = (i : Int)) = leastB p n i := by
  have hc := cyc_pos p n i
  have hg : ∀ j, j < cyc p n i → (cycP p n i).getD j 0 = (itp p j i : Int) := fun j hj => by simp [cycP, cycU, hj]
  have hz : (cycP p n i).getD 0 0 = (i : Int) := by rw [hg 0 (by omega)]; rfl
  cases hb : leastB p n i
  · rw [decide_eq_false_iff_not]
    intro e
    have hnot : ¬ ∀ k, i ≤ itp p k i := fun h9 => by
      rw [← leastB_iff h i hi, hb] at h9
      cases h9
    apply hnot
    intro k
    have h1 : k % cyc p n i < cyc p n i := Nat.mod_lt _ hc
    have h2 := mnN_le (cycP p n i) (cyc p n i - 1) (k % cyc p n i) (by omega)
    rw [hg _ h1, ← itp_mod h i hi, e] at h2
    omega
  · rw [decide_eq_true_eq]
    have h1 := (leastB_iff h i hi).1 hb
    have h2 := mnN_le (cycP p n i) (cyc p n i - 1) 0 (by omega)
    rw [hz] at h2
    obtain ⟨j, h3, h4⟩ := mnN_mem (cycP p n i) (cyc p n i - 1)
    rw [hg j (by omega)] at h4
    have := h1 j
    omega

set_option maxHeartbeats 1600000 in
theorem minInts_any (A : Option Addr) (n c : Nat) (ys : List Int) (W : World) (hu : Rd W (.slice A n c) ys) (hn : ys.length = n) (n1 : 1 ≤ n) (hl : n ≤ 1000) :
    Calls Try.prog 33 #[.slice A n c] W fun e w' => e = .returned (.int .i64 (mnN ys (n - 1))) ∧ W = w' := by
  obtain ⟨A', c', hA', hcell⟩ := hu
  rw [hn] at hA' hcell
  injection hA' with e1 _ e3
  subst e1
  subst e3
  obtain ⟨g, o, rfl, h0⟩ := hcell 0 (by omega)
  have HC : Hid (∀ k, k < n → W.cell? ⟨g, o + k, none⟩ = some (.int .i64 (ys.getD k 0))) := Lib.hid (fun k hk => by
    obtain ⟨g9, o9, e9, h9⟩ := hcell k hk
    injection e9 with e9
    injection e9 with e1 e2
    subst e1 e2
    exact h9)
  rw [Nat.add_zero] at h0
  obtain ⟨m0, hm0⟩ : ∃ m0, ys.getD 0 0 = m0 := ⟨_, rfl⟩
  rw [hm0] at h0
  have HM0 : Hid (mnN ys 0 = m0) := Lib.hid hm0
  have nn : ¬ (n : Int) < 1 := by omega
  have n0 : (0 : Int) < n := by omega
  obtain ⟨R, hR⟩ : ∃ R, mnN ys (n - 1) = R := ⟨_, rfl⟩
  have HR := Lib.hid hR
  rw [hR]
  clear hcell hm0 hR hn
  go_enter Try.func33, Try.ntmps33
  go_wp2
  go_loop [3, 4] (fun m i => ∃ k : Nat, 1 ≤ k ∧ k ≤ n ∧ i = .int .i64 k ∧ m = .int .i64 (mnN ys (k - 1))) (fun _ i => n - (intOf i).toNat)
  case atStart => exact ⟨1, Nat.le_refl _, n1, rfl, by rw [← HM0.out]⟩
  case round =>
    obtain ⟨k, k1, hk, rfl, rfl⟩ := hrel
    have k0 : (0 : Int) ≤ k := Int.natCast_nonneg _
    obtain ⟨q, rfl⟩ : ∃ q, k = q + 1 := ⟨k - 1, by omega⟩
    rw [Nat.add_sub_cancel]
    by_cases hlt : q + 1 < n
    · have j1 : ((q + 1 : Nat) : Int) < n := by omega
      have hc := HC.out (q + 1) hlt
      obtain ⟨y, hy⟩ : ∃ y, ys.getD (q + 1) 0 = y := ⟨_, rfl⟩
      rw [hy] at hc
      have HST : Hid (mnN ys (q + 1) = min (mnN ys q) y) := Lib.hid (by rw [mnN, hy])
      obtain ⟨M, hM⟩ : ∃ M, mnN ys q = M := ⟨_, rfl⟩
      rw [hM] at HST ⊢
      clear hy hM
      go_wp2
      go_round
      case rel => exact ⟨q + 1 + 1, by omega, by omega, by go_num, by rw [Nat.add_sub_cancel, HST.out]⟩
      case measure => simp [intOf] <;> omega
    · have e : q + 1 = n := by omega
      have hF : mnN ys q = R := by rw [← HR.out, ← e, Nat.add_sub_cancel]
      rw [hF]
      have j1 : ¬ ((q + 1 : Nat) : Int) < n := by omega
      clear e hF
      go_wp2
      go_ret
      exact ⟨rfl, rfl⟩
end Go.Proofs.Ytgbmoipkgnklfad
