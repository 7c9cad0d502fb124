/- The program's DoesFit; whether a circle fits all clues, the circles that fit, how many they are; no condition but that the clues are clues and few. -/
import Derived.Test.YtcfghaeogbimeaaHid
import Derived.Test.YtcfghaeogbimeaaCluM
namespace Go.Proofs.Ytcfghaeogbimeaa
open Go.ChangeShapes Go.WideShapes Go.ChangeAt Go.RowKit

theorem isHidden_any (n k : Int) (W : World) : Calls Try.prog 25 #[.int .i64 n, .int .i64 k] W fun e w' => e = .returned (.bool (hidB n k)) ∧ W = w' := by
  by_cases hA : 1 ≤ n ∧ n ≤ 10
  · obtain ⟨y1, y2⟩ := hA
    by_cases hB : 1 ≤ k ∧ k ≤ 12
    · obtain ⟨y3, y4⟩ := hB
      have hr : hidB n k = true := by simp [hidB]; omega
      rw [hr]
      clear hr
      go_enter Try.func25, Try.ntmps25
      go_wp2_with (first | ((with_reducible refine (within_yes k 1 12 _ y3 y4).mono ?_); rintro e w' ⟨rfl, rfl⟩) | ((with_reducible refine (within_yes n 1 10 _ y1 y2).mono ?_); rintro e w' ⟨rfl, rfl⟩))
      go_ret
      exact ⟨rfl, rfl⟩
    · have y3 : k < 1 ∨ 12 < k := by omega
      have hr : hidB n k = false := by simp [hidB]; omega
      rw [hr]
      clear hr hB
      go_enter Try.func25, Try.ntmps25
      go_wp2_with (first | ((with_reducible refine (within_no k 1 12 _ y3).mono ?_); rintro e w' ⟨rfl, rfl⟩) | ((with_reducible refine (within_yes n 1 10 _ y1 y2).mono ?_); rintro e w' ⟨rfl, rfl⟩))
      go_ret
      exact ⟨rfl, rfl⟩
  · have y1 : n < 1 ∨ 10 < n := by omega
    have hr : hidB n k = false := by simp [hidB]; omega
    rw [hr]
    clear hr hA
    go_enter Try.func25, Try.ntmps25
    go_wp2_with (first | ((with_reducible refine (within_no n 1 10 _ y1).mono ?_); rintro e w' ⟨rfl, rfl⟩))
    go_ret
    exact ⟨rfl, rfl⟩


theorem hiddenOf_s (m : Nat) (k : Int) (W : World) (n2 : m + 1 ≤ 10) (k1 : 1 ≤ k) (k2 : k ≤ 12) :
    Calls Try.prog 26 #[.int .i64 ((m : Int) + 1), .int .i64 k] W fun e w' => ∃ A c, e = .returned (.agg #[.int .i64 ((m : Int) + 1), .int .i64 k, .slice A (m + 1) c]) ∧ Sl w' W.heap.size (.slice A (m + 1) c) (outs k (m + 1) (marks 0 (m + 1))) ∧ Kp Nw W w' := by
  have h := hiddenOf_any (m + 1) k W (by omega) n2 k1 k2
  rw [show ((m + 1 : Nat) : Int) = (m : Int) + 1 from rfl] at h
  refine h.mono ?_
  rintro e w' ⟨v, rfl, hs, hk⟩
  obtain ⟨A, c, rfl⟩ := hs.val (n := m + 1) (outs_length _ _ _)
  exact ⟨A, c, rfl, hs, hk⟩

set_option maxRecDepth 100000 in
set_option maxHeartbeats 1600000 in
theorem iDoesFit_any (p : Cu) (n k : Int) (W : World) : Calls Try.prog 15 #[.agg #[.int .i64 p.1, .int .i64 p.2.1, .int .i64 p.2.2], .int .i64 n, .int .i64 k] W (Bool2B W (vDoesFit p n k).1 (vDoesFit p n k).2) := by
  have HC := Lib.hid (iIsClue_any p)
  obtain ⟨b, hb⟩ : ∃ b, cluB p = b := ⟨_, rfl⟩
  rw [hb] at HC
  obtain ⟨d, hd⟩ : ∃ d, hidB n k = d := ⟨_, rfl⟩
  have HH := Lib.hid (isHidden_any n k)
  rw [hd] at HH
  have HB3 := Lib.hid (fun (w' : World) => box3 W p (w' := w'))
  obtain ⟨r, hr⟩ : ∃ r, vDoesFit p n k = r := ⟨_, rfl⟩
  rw [hr]
  cases b
  · have HR : Hid (r = (false, false)) := Lib.hid (by rw [← hr]; unfold vDoesFit; rw [if_neg (fun h => by rw [hb] at h; cases h.1)])
    obtain ⟨x, y, z⟩ := p
    simp only at HC HB3 ⊢
    clear hb hd hr
    go_enter Try.func15, Try.ntmps15
    go_wp2_with fail
    refine (HC.out _).mono ?_
    rintro e w1 ⟨rfl, hk1⟩
    have HK1 := Lib.hid ((Kp.al W _).nw hk1)
    clear hk1
    go_wp2
    go_ret2
    rw [HR.out]
    exact ⟨rfl, HK1.out⟩
  · cases d
    · have HR : Hid (r = (false, false)) := Lib.hid (by rw [← hr]; unfold vDoesFit; rw [if_neg (fun h => by rw [hd] at h; cases h.2)])
      obtain ⟨x, y, z⟩ := p
      simp only at HC HB3 ⊢
      clear hb hd hr
      go_enter Try.func15, Try.ntmps15
      go_wp2_with fail
      refine (HC.out _).mono ?_
      rintro e w1 ⟨rfl, hk1⟩
      have HK1 := Lib.hid ((Kp.al W _).nw hk1)
      clear hk1
      go_wp2_with fail
      refine (HH.out _).mono ?_
      rintro e w2 ⟨rfl, rfl⟩
      go_wp2
      go_ret2
      rw [HR.out]
      exact ⟨rfl, HK1.out⟩
    · have HR : Hid (r = (fitB p n.toNat k, true)) := Lib.hid (by rw [← hr]; unfold vDoesFit; rw [if_pos ⟨hb, hd⟩])
      unfold hidB at hd
      rw [Bool.and_eq_true, decide_eq_true_eq, decide_eq_true_eq] at hd
      obtain ⟨⟨n1, n2⟩, k1, k2⟩ := hd
      obtain ⟨m, rfl⟩ : ∃ m : Nat, n = m := ⟨n.toNat, by omega⟩
      rw [Int.toNat_natCast] at HR
      obtain ⟨m, rfl⟩ : ∃ q, m = q + 1 := ⟨m - 1, by omega⟩
      have HFT := Lib.hid (fun A c w (hv : Rd w (.slice A (m + 1) c) (outs k (m + 1) (marks 0 (m + 1)))) => fits_any p m k A c w hv (by omega) k1 k2 hb _ rfl)
      have HHO := Lib.hid (fun w => hiddenOf_s m k w (by omega) k1 k2)
      have HX := Lib.hid (fun (w' : World) (hk : Kp Nw (W.alloc (.cells #[.int .i64 p.1, .int .i64 p.2.1, .int .i64 p.2.2] 25)) w') => (Own3.new W p 25).kp hk (fun h => h))
      obtain ⟨f, hf⟩ : ∃ f, fitB p (m + 1) k = f := ⟨_, rfl⟩
      rw [hf] at HFT HR
      obtain ⟨x, y, z⟩ := p
      rw [show ((m + 1 : Nat) : Int) = (m : Int) + 1 from rfl] at HH ⊢
      simp only at HC HFT HX ⊢
      clear hb hr hf HB3
      go_enter Try.func15, Try.ntmps15
      go_wp2_with fail
      refine (HC.out _).mono ?_
      rintro e w1 ⟨rfl, hk1⟩
      have HQ1 := Lib.hid hk1
      have HK1 := Lib.hid ((Kp.al W _).nw hk1)
      clear hk1
      go_wp2_with fail
      refine (HH.out _).mono ?_
      rintro e w2 ⟨rfl, rfl⟩
      obtain ⟨⟨b0, b1, b2⟩, _⟩ := HX.out w1 HQ1.out
      simp only at b0 b1 b2
      go_wp2_with fail
      first
      | (go_region_law (first
        | (go_simp
           go_at_call 26
           refine (HHO.out _).mono ?_
           rintro e w3 ⟨A3, c3, rfl, hs3, hk3⟩
           have kW : Kp Nw w1 w3 := Kp.nw (by first | exact (Kp.refl Nw _).drew | exact (Kp.refl Nw _)) hk3
           obtain ⟨⟨d0, d1, d2⟩, _⟩ := HX.out w3 (HQ1.out.nw kW)
           simp only at d0 d1 d2)
        | (go_simp
           go_at_call 27
           refine (HFT.out A3 c3 _ hs3.rd).mono ?_
           rintro e w4 ⟨rfl, hk4⟩)
        | fail))
      | trivial
      all_goals
        have HK4 := Lib.hid ((HK1.out.nw kW).nw hk4)
        clear hk4 kW hs3 hk3
        go_wp2
        go_ret2
        rw [HR.out]
        exact ⟨rfl, HK4.out⟩


end Go.Proofs.Ytcfghaeogbimeaa
