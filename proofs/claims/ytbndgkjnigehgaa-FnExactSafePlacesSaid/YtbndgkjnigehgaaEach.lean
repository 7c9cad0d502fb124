/- The program's numberEach: the number that a closure gives to each one of a list; no condition but that the list is short. -/
import Derived.Test.YtbndgkjnigehgaaSingI
namespace Go.Proofs.Ytbndgkjnigehgaa
open Go.ChangeShapes Go.WideShapes Go.ChangeAt Go.RowKit
set_option maxHeartbeats 1600000 in
theorem each_safe (v : Value) (u1 : Value) (u2 : Value) (xs fs : List Int) (W : World) (hv : Rd W v xs) (n : Nat) (hn : xs.length = n) (hf : fs.length = n) (hl : n ≤ 1000000)
    (hstep : Hid (∀ (j : Nat) (w : World), j < n → Kp Nw W w → Calls Try.prog 25 #[.int .i64 (xs.getD j 0), u1, u2] w fun e w' => e = .returned (.int .i64 (fs.getD j 0)) ∧ Kp Nw w w')) :
    Calls Try.prog 23 #[v, .func (.func 25) #[] #[u1, u2]] W (Makes W fs) := by
  obtain ⟨i0, hi0, hz0, hz1, hz2⟩ := info_parts intInfo
  have HU := Lib.hid hv
  have HN := Lib.hid hn
  have HF := Lib.hid hf
  obtain ⟨A, c, rfl, _⟩ := hv
  rw [hn]
  clear hn hf
  go_enter Try.func23, Try.ntmps23
  go_wp2_with (first | (at_make; refine wpList_make_full _ rfl _ _ 22 rfl W.heap.size 3 i0 (.int .i64 0) 1 Try.underlying22 hi0 hz0 hz1 _ _ _ _ n rfl rfl rfl rfl (by rw [hz2]; omega) (by unfold maxLen; omega) (Nat.le_refl _) ?_))
  intro w1 hown hgrow
  have hk1 : Kp Nw W w1 := (Kp.refl _ _).grown hgrow (fun g hg => by cases hg)
  have HS := Lib.hid (Sl.zeros hown)
  have HK := Lib.hid hk1
  clear hown hgrow hk1
  go_wp2
  go_loopw [6, 7, 13] (fun _ _ i wr => ∃ j : Nat, j ≤ n ∧ i = .int .i64 j ∧ Hid (SlAt wr W.heap.size W.heap.size n n (fill fs (List.replicate n 0) j)) ∧ Hid (Kp Nw W wr)) (fun _ _ i _ => n - (intOf i).toNat)
  case atStart => exact ⟨0, Nat.zero_le _, rfl, Lib.hid (by rw [fill_zero]; exact HS.out), HK⟩
  case round =>
    rename_i wr
    obtain ⟨j, hj, rfl, H, HK2⟩ := hrel
    by_cases hlt : j < n
    · obtain ⟨A', c', hA', hcell⟩ := HU.out.nw' HK2.out
      rw [HN.out] at hA'
      injection hA' with hA1 hA2 hA3
      subst hA1
      obtain ⟨g, o, rfl, hc⟩ := hcell j (by rw [HN.out]; exact hlt)
      obtain ⟨x, hx⟩ : ∃ x, xs.getD j 0 = x := ⟨_, rfl⟩
      obtain ⟨y, hy⟩ : ∃ y, fs.getD j 0 = y := ⟨_, rfl⟩
      have HX := Lib.hid hx
      have HY := Lib.hid hy
      rw [hx] at hc
      have T1 := Lib.hid (hstep.out j wr hlt HK2.out)
      rw [hx, hy] at T1
      have j0 : (0 : Int) ≤ j := Int.natCast_nonneg _
      have j1 : (j : Int) < n := by omega
      clear hcell hA2 hA3 hx hy
      go_wp2_with fail
      refine T1.out.mono ?_
      rintro e w2 ⟨rfl, hk2⟩
      have hs2 := H.out.kq8 hk2 (fun h => h)
      have f0 := hs2.frozen j
      have s0 := hs2.cell j hlt
      have H2 := Lib.hid hs2
      have HK3 := Lib.hid (HK2.out.nw hk2)
      clear hs2 hk2 T1
      go_wp2
      go_roundw
      case rel =>
        refine ⟨j + 1, by omega, by go_num, Lib.hid ?_, Lib.hid (HK3.out.setCell (.inr (Nat.le_refl _)) _)⟩
        have h2 := H2.out.store j y
        rw [fill_set fs _ j y (by simp [HF.out]) (by rw [HF.out]; exact hlt) (by rw [← HY.out]; simp [HF.out, hlt])] at h2
        exact h2
      case measure => simp [intOf]; omega
    · have e : j = n := by omega
      subst e
      have hn1 := HF.out
      have hs := H.out
      rw [show fill fs (List.replicate j 0) j = fs by
        have := fill_all fs (List.replicate j 0) (by simp [hn1])
        rwa [hn1] at this] at hs
      have H3 := Lib.hid hs
      clear hs hn1
      go_wp2
      go_ret
      exact ⟨_, rfl, H3.out.sl, HK2.out⟩

end Go.Proofs.Ytbndgkjnigehgaa
