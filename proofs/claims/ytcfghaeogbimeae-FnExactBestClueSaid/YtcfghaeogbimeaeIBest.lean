/- BestClue in the program; no condition. -/
import Derived.Test.YtcfghaeogbimeaePzM
import Derived.Test.YtcfghaeogbimeaeFitg
namespace Go.Proofs.Ytcfghaeogbimeae
open Go.ChangeShapes Go.WideShapes Go.ChangeAt Go.RowKit
set_option maxHeartbeats 1600000 in
theorem minInts_any (A : Option Addr) (n c : Nat) (ys : List Int) (W : World) (hu : Rd W (.slice A n c) ys) (hn : ys.length = n) (n1 : 1 ≤ n) (hl : n ≤ 1000) :
    Calls Try.prog 26 #[.slice A n c] W fun e w' => e = .returned (.int .i64 (mnN ys (n - 1))) ∧ W = w' := by
  obtain ⟨A', c', hA', hcell⟩ := hu
  rw [hn] at hA' hcell
  injection hA' with e1 _ e3
  subst e1
  subst e3
  obtain ⟨g, o, rfl, h0⟩ := hcell 0 (by omega)
  have HC : Hid (∀ k, k < n → W.cell? ⟨g, o + k, none⟩ = some (.int .i64 (ys.getD k 0))) := Lib.hid (fun k hk => by
    obtain ⟨g9, o9, e9, h9⟩ := hcell k hk
    injection e9 with e9
    injection e9 with e1 e2
    subst e1 e2
    exact h9)
  rw [Nat.add_zero] at h0
  obtain ⟨m0, hm0⟩ : ∃ m0, ys.getD 0 0 = m0 := ⟨_, rfl⟩
  rw [hm0] at h0
  have HM0 : Hid (mnN ys 0 = m0) := Lib.hid hm0
  have nn : ¬ (n : Int) < 1 := by omega
  have n0 : (0 : Int) < n := by omega
  obtain ⟨R, hR⟩ : ∃ R, mnN ys (n - 1) = R := ⟨_, rfl⟩
  have HR := Lib.hid hR
  rw [hR]
  clear hcell hm0 hR hn
  go_enter Try.func26, Try.ntmps26
  go_wp2
  go_loop [3, 4] (fun m i => ∃ k : Nat, 1 ≤ k ∧ k ≤ n ∧ i = .int .i64 k ∧ m = .int .i64 (mnN ys (k - 1))) (fun _ i => n - (intOf i).toNat)
  case atStart => exact ⟨1, Nat.le_refl _, n1, rfl, by rw [← HM0.out]⟩
  case round =>
    obtain ⟨k, k1, hk, rfl, rfl⟩ := hrel
    have k0 : (0 : Int) ≤ k := Int.natCast_nonneg _
    obtain ⟨q, rfl⟩ : ∃ q, k = q + 1 := ⟨k - 1, by omega⟩
    rw [Nat.add_sub_cancel]
    by_cases hlt : q + 1 < n
    · have j1 : ((q + 1 : Nat) : Int) < n := by omega
      have hc := HC.out (q + 1) hlt
      obtain ⟨y, hy⟩ : ∃ y, ys.getD (q + 1) 0 = y := ⟨_, rfl⟩
      rw [hy] at hc
      have HST : Hid (mnN ys (q + 1) = min (mnN ys q) y) := Lib.hid (by rw [mnN, hy])
      obtain ⟨M, hM⟩ : ∃ M, mnN ys q = M := ⟨_, rfl⟩
      rw [hM] at HST ⊢
      clear hy hM
      go_wp2
      go_round
      case rel => exact ⟨q + 1 + 1, by omega, by omega, by go_num, by (rw [Nat.add_sub_cancel, HST.out]) <;> (congr 1; split <;> omega)⟩
      case measure => simp [intOf] <;> omega
    · have e : q + 1 = n := by omega
      have hF : mnN ys q = R := by rw [← HR.out, ← e, Nat.add_sub_cancel]
      rw [hF]
      have j1 : ¬ ((q + 1 : Nat) : Int) < n := by omega
      clear e hF
      go_wp2
      go_ret
      exact ⟨rfl, rfl⟩

set_option maxRecDepth 100000 in
theorem best1_any (p : Cu) (W : World) (hp : cluB p = true) : Calls Try.prog 23 #[.agg #[.int .i64 p.1, .int .i64 p.2.1, .int .i64 p.2.2]] W fun e w' => e = .returned (.int .i64 ((solA [p] 10).length : Int)) ∧ Kp Nw W w' := by
  have HF := Lib.hid (fun w => countFitting_any (some ⟨w.heap.size, 0, none⟩) 1 1 [p] (w.alloc (.cells #[.int .i64 p.1, .int .i64 p.2.1, .int .i64 p.2.2] 49)) (Own3.new w p 49).one rfl (by omega) (by simp [hp]))
  obtain ⟨q, hq⟩ : ∃ q, (solA [p] 10).length = q := ⟨_, rfl⟩
  rw [hq] at HF ⊢
  obtain ⟨x, y, z⟩ := p
  simp only at HF ⊢
  clear hq hp
  have HF1 := Lib.hid (HF.out (W.alloc (.cells #[.int .i64 x, .int .i64 y, .int .i64 z] 49)))
  simp only [World.size_alloc] at HF1
  go_enter Try.func23, Try.ntmps23
  go_wp2_with fail
  refine HF1.out.mono ?_
  rintro e w1 ⟨rfl, hk1⟩
  have HK1 := Lib.hid hk1
  clear hk1
  go_wp2
  go_ret
  exact ⟨rfl, ((Kp.al W _).nw (.al _ _)).nw HK1.out⟩
set_option maxRecDepth 100000 in
set_option maxHeartbeats 1600000 in
theorem eachC_best (A : Option Addr) (n c : Nat) (ps : List Cu) (W : World) (hu : RdC W (.slice A n c) ps) (hn : ps.length = n) (hl : n ≤ 1000000) (hall : ps.all cluB = true) :
    Calls Try.prog 22 #[.slice A n c, .func (.func 23) #[] #[]] W (Makes W (cntL ps)) := by
  obtain ⟨i0, hi0, hz0, hz1, hz2⟩ := info_parts intInfo
  have HU := Lib.hid hu
  have HN := Lib.hid hn
  have HF : Hid ((cntL ps).length = n) := Lib.hid (by rw [cntL_len]; exact hn)
  have HGD : Hid (∀ j, j < n → cluB (ps.getD j (0, 0, 0)) = true ∧ (cntL ps).getD j 0 = ((solA [ps.getD j (0, 0, 0)] 10).length : Int)) := Lib.hid (fun j hj => by
    have hjl : j < ps.length := by omega
    have := List.all_eq_true.1 hall (ps[j]'hjl) (List.getElem_mem _)
    have e : ps.getD j (0, 0, 0) = ps[j]'hjl := by simp [List.getD, hjl]
    rw [e]
    exact ⟨this, by simp [cntL, hjl]⟩)
  clear hu hn hall
  go_enter Try.func22, Try.ntmps22
  go_wp2_with (first | (at_make; refine wpList_make_full _ rfl _ _ 46 rfl W.heap.size 3 i0 (.int .i64 0) 1 Try.underlying46 hi0 hz0 hz1 _ _ _ _ n rfl rfl rfl rfl (by rw [hz2]; omega) (by unfold maxLen; omega) (Nat.le_refl _) ?_))
  intro w1 hown hgrow
  have hk1 : Kp Nw W w1 := (Kp.refl _ _).grown hgrow (fun g hg => by cases hg)
  have HS := Lib.hid (Sl.zeros hown)
  have HK := Lib.hid hk1
  clear hown hgrow hk1
  go_wp2
  go_loopw [13] (fun i wy => ∃ (j : Nat) (wr : World), j ≤ n ∧ i = .int .i64 j ∧ wr = wy ∧ Hid (SlAt wr W.heap.size W.heap.size n n (fill (cntL ps) (List.replicate n 0) j)) ∧ Hid (Kp Nw W wr)) (fun i _ => n - (intOf i).toNat)
  case atStart => exact ⟨0, _, Nat.zero_le _, rfl, rfl, Lib.hid (by rw [fill_zero]; exact HS.out), HK⟩
  case round =>
    obtain ⟨j, wr, hj, rfl, rfl, H, HK2⟩ := hrel
    by_cases hlt : j < n
    · obtain ⟨A', c', hA', hcell⟩ := HU.out.nw HK2.out
      rw [HN.out] at hA'
      injection hA' with hA1 hA2 hA3
      subst hA1
      obtain ⟨g, o, rfl, hc⟩ := hcell j (by rw [HN.out]; exact hlt)
      obtain ⟨hcl, hcv⟩ := HGD.out j hlt
      obtain ⟨p, hp⟩ : ∃ p, ps.getD j (0, 0, 0) = p := ⟨_, rfl⟩
      rw [hp] at hc hcl hcv
      obtain ⟨a0, a1, a2⟩ := hc
      obtain ⟨y, hy⟩ : ∃ y, ((solA [p] 10).length : Int) = y := ⟨_, rfl⟩
      rw [hy] at hcv
      have HY := Lib.hid hcv
      have T1 := Lib.hid (fun w => best1_any p w hcl)
      rw [hy] at T1
      have kb : Kp Nw wr (wr.alloc (.cells #[.int .i64 p.1, .int .i64 p.2.1, .int .i64 p.2.2] 49)) := .al _ _
      have KB := Lib.hid kb
      have j0 : (0 : Int) ≤ j := Int.natCast_nonneg _
      have j1 : (j : Int) < n := by omega
      clear hcell hA2 hA3 hp hy hcl hcv kb
      go_wp2_with fail
      refine (T1.out _).mono ?_
      rintro e w2 ⟨rfl, hk2⟩
      have hs2 := H.out.kq (KB.out.nw hk2) (fun h => h)
      have f0 := hs2.frozen j
      have s0 := hs2.cell j hlt
      have H2 := Lib.hid hs2
      have HK3 := Lib.hid ((HK2.out.nw KB.out).nw hk2)
      clear hs2 hk2 T1 a0 a1 a2
      go_wp2
      go_roundw
      case rel =>
        refine ⟨j + 1, _, by omega, by go_num, rfl, Lib.hid ?_, Lib.hid (HK3.out.setCell (.inr (Nat.le_refl _)) _)⟩
        have h2 := H2.out.store j y
        rw [fill_set (cntL ps) _ j y (by simp [HF.out]) (by rw [HF.out]; exact hlt) (by rw [← HY.out]; simp [HF.out, hlt])] at h2
        exact h2
      case measure => simp [intOf]; omega
    · have e : j = n := by omega
      subst e
      have hn1 := HF.out
      have hs := H.out
      rw [show fill (cntL ps) (List.replicate j 0) j = cntL ps by
        have := fill_all (cntL ps) (List.replicate j 0) (by simp [hn1])
        rwa [hn1] at this] at hs
      have H3 := Lib.hid hs
      clear hs hn1
      go_wp2
      go_ret
      exact ⟨_, rfl, H3.out.sl, HK2.out⟩

set_option maxRecDepth 100000 in
set_option maxHeartbeats 3200000 in
theorem iBestClue_any (A : Option Addr) (n c : Nat) (ps : List Cu) (W : World) (hu : RdC W (.slice A n c) ps) (hn : ps.length = n) (hm : n ≤ maxLen) :
    Calls Try.prog 9 #[.agg #[.slice A n c]] W (IntB W (vBest ps).1 (vBest ps).2) := by
  have hk0 : Kp Nw W (W.alloc (.cells #[.slice A n c] 30)) := .al _ _
  obtain ⟨b, hb⟩ : ∃ b, puzB ps = b := ⟨_, rfl⟩
  have HC := Lib.hid (cluesOf_any A n c ps _ (hu.nw hk0) hn hm b hb)
  have HN := Lib.hid hn
  have HB := Lib.hid hb
  obtain ⟨r, hr⟩ : ∃ r, vBest ps = r := ⟨_, rfl⟩
  rw [hr]
  cases b
  · have HR : Hid (r = (0, false)) := Lib.hid (by rw [← hr]; unfold vBest; rw [if_neg (fun h => by rw [hb] at h; cases h.1)])
    simp only [Bool.false_eq_true, if_false] at HC
    clear hu hn hb hr hk0
    go_enter Try.func9, Try.ntmps9
    go_wp2_with fail
    refine HC.out.mono ?_
    rintro e w1 ⟨rfl, hk1⟩
    have HK1 := Lib.hid ((Kp.al W _).nw hk1)
    clear hk1
    go_wp2
    go_ret2
    rw [HR.out]
    exact ⟨rfl, HK1.out⟩
  · simp only [if_true] at HC
    by_cases hz : n = 0
    · have hp : ps = [] := List.eq_nil_of_length_eq_zero (by rw [HN.out]; exact hz)
      have HR : Hid (r = (0, false)) := Lib.hid (by rw [← hr]; unfold vBest; rw [if_neg (fun h => h.2 hp)])
      clear hu hn hb hr hk0 hp
      subst hz
      go_enter Try.func9, Try.ntmps9
      go_wp2_with fail
      refine HC.out.mono ?_
      rintro e w1 ⟨v1, rfl, hs1, hk1⟩
      obtain ⟨A1, c1, rfl⟩ := hs1.val HN.out
      have HK1 := Lib.hid ((Kp.al W _).nw hk1)
      clear hk1 hs1
      go_wp2
      go_ret2
      rw [HR.out]
      exact ⟨rfl, HK1.out⟩
    have HR : Hid (r = ((bst (cntL ps) n).1, true)) := Lib.hid (by rw [← hr]; unfold vBest; rw [if_pos ⟨hb, fun h => hz (by rw [← HN.out, h]; rfl)⟩, HN.out])
    have z1 : ¬ (n : Int) = 0 := by omega
    have z2 : ((n : Int) == 0) = false := by simpa using z1
    clear hu hn hb hr hk0
    obtain ⟨h6, hall⟩ := puz_parts HB.out
    have h7 : n ≤ 6 := by have := HN.out; omega
    go_enter Try.func9, Try.ntmps9
    go_wp2_with fail
    refine HC.out.mono ?_
    rintro e w1 ⟨v1, rfl, hs1, hk1⟩
    obtain ⟨A1, c1, rfl⟩ := hs1.val HN.out
    have HS1 := Lib.hid hs1.cl
    have HK1 := Lib.hid ((Kp.al W _).nw hk1)
    clear hk1 hs1
    go_wp2_with fail
    refine (eachC_best A1 n c1 ps _ HS1.out.rd HN.out (by omega) hall).mono ?_
    rintro e w2 ⟨v2, rfl, hs2, hk2⟩
    have hcl : (cntL ps).length = n := by rw [cntL_len]; exact HN.out
    obtain ⟨A2, c2, rfl⟩ := hs2.val hcl
    have HK2 := Lib.hid (HK1.out.nw hk2)
    have HS2 := Lib.hid hs2.rd
    have HCL := Lib.hid hcl
    have HMN := Lib.hid (minInts_any A2 n c2 (cntL ps) w2 hs2.rd hcl (by omega) (by omega))
    obtain ⟨mn, hmn⟩ : ∃ mn, mnN (cntL ps) (n - 1) = mn := ⟨_, rfl⟩
    rw [hmn] at HMN
    have HIX := Lib.hid (index_any (.slice A2 n c2) (cntL ps) mn w2 hs2.rd (by omega))
    have HFD : Hid (fndD mn (cntL ps) 0 = (bst (cntL ps) n).1) := Lib.hid (by
      obtain ⟨k, rfl⟩ : ∃ k, n = k + 1 := ⟨n - 1, by omega⟩
      rw [← hmn]
      exact bst_min (cntL ps) k hcl)
    rw [HFD.out] at HIX
    clear hs2 hk2 hcl hmn
    go_wp2_with fail
    refine HMN.out.mono ?_
    rintro e w3 ⟨rfl, rfl⟩
    go_wp2_with fail
    refine HIX.out.mono ?_
    rintro e w4 ⟨rfl, rfl⟩
    go_wp2
    go_ret2
    rw [HR.out]
    exact ⟨rfl, HK2.out⟩
end Go.Proofs.Ytcfghaeogbimeae
