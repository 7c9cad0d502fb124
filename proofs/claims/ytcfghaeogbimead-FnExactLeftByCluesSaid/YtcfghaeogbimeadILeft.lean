/- LeftByClues in the program; no condition. -/
import Derived.Test.YtcfghaeogbimeadPzL
import Derived.Test.YtcfghaeogbimeadFitg
namespace Go.Proofs.Ytcfghaeogbimead
open Go.ChangeShapes Go.WideShapes Go.ChangeAt Go.RowKit

set_option maxHeartbeats 1600000 in
theorem each_left (v : Value) (u1 : Value) (xs fs : List Int) (W : World) (hv : Rd W v xs) (n : Nat) (hn : xs.length = n) (hf : fs.length = n) (hl : n ≤ 1000000)
    (hstep : Hid (∀ (j : Nat) (w : World), j < n → Kp Nw W w → Calls Try.prog 39 #[.int .i64 (xs.getD j 0), u1] w fun e w' => e = .returned (.int .i64 (fs.getD j 0)) ∧ Kp Nw w w')) :
    Calls Try.prog 38 #[v, .func (.func 39) #[] #[u1]] W (Makes W fs) := by
  obtain ⟨i0, hi0, hz0, hz1, hz2⟩ := info_parts intInfo
  have HU := Lib.hid hv
  have HN := Lib.hid hn
  have HF := Lib.hid hf
  obtain ⟨A, c, rfl, _⟩ := hv
  rw [hn]
  clear hn hf
  go_enter Try.func38, Try.ntmps38
  go_wp2_with (first | (at_make; refine wpList_make_full _ rfl _ _ 41 rfl W.heap.size 3 i0 (.int .i64 0) 1 Try.underlying41 hi0 hz0 hz1 _ _ _ _ n rfl rfl rfl rfl (by rw [hz2]; omega) (by unfold maxLen; omega) (Nat.le_refl _) ?_))
  intro w1 hown hgrow
  have hk1 : Kp Nw W w1 := (Kp.refl _ _).grown hgrow (fun g hg => by cases hg)
  have HS := Lib.hid (Sl.zeros hown)
  have HK := Lib.hid hk1
  clear hown hgrow hk1
  go_wp2
  go_loopw [6, 7, 13] (fun _ _ i wr => ∃ j : Nat, j ≤ n ∧ i = .int .i64 j ∧ Hid (SlAt wr W.heap.size W.heap.size n n (fill fs (List.replicate n 0) j)) ∧ Hid (Kp Nw W wr)) (fun _ _ i _ => n - (intOf i).toNat)
  case atStart => exact ⟨0, Nat.zero_le _, rfl, Lib.hid (by rw [fill_zero]; exact HS.out), HK⟩
  case round =>
    rename_i wr
    obtain ⟨j, hj, rfl, H, HK2⟩ := hrel
    by_cases hlt : j < n
    · obtain ⟨A', c', hA', hcell⟩ := HU.out.nw' HK2.out
      rw [HN.out] at hA'
      injection hA' with hA1 hA2 hA3
      subst hA1
      obtain ⟨g, o, rfl, hc⟩ := hcell j (by rw [HN.out]; exact hlt)
      obtain ⟨x, hx⟩ : ∃ x, xs.getD j 0 = x := ⟨_, rfl⟩
      obtain ⟨y, hy⟩ : ∃ y, fs.getD j 0 = y := ⟨_, rfl⟩
      have HX := Lib.hid hx
      have HY := Lib.hid hy
      rw [hx] at hc
      have T1 := Lib.hid (hstep.out j wr hlt HK2.out)
      rw [hx, hy] at T1
      have j0 : (0 : Int) ≤ j := Int.natCast_nonneg _
      have j1 : (j : Int) < n := by omega
      clear hcell hA2 hA3 hx hy
      go_wp2_with fail
      refine T1.out.mono ?_
      rintro e w2 ⟨rfl, hk2⟩
      have hs2 := H.out.kq hk2 (fun h => h)
      have f0 := hs2.frozen j
      have s0 := hs2.cell j hlt
      have H2 := Lib.hid hs2
      have HK3 := Lib.hid (HK2.out.nw hk2)
      clear hs2 hk2 T1
      go_wp2
      go_roundw
      case rel =>
        refine ⟨j + 1, by omega, by go_num, Lib.hid ?_, Lib.hid (HK3.out.setCell (.inr (Nat.le_refl _)) _)⟩
        have h2 := H2.out.store j y
        rw [fill_set fs _ j y (by simp [HF.out]) (by rw [HF.out]; exact hlt) (by rw [← HY.out]; simp [HF.out, hlt])] at h2
        exact h2
      case measure => simp [intOf]; omega
    · have e : j = n := by omega
      subst e
      have hn1 := HF.out
      have hs := H.out
      rw [show fill fs (List.replicate j 0) j = fs by
        have := fill_all fs (List.replicate j 0) (by simp [hn1])
        rwa [hn1] at this] at hs
      have H3 := Lib.hid hs
      clear hs hn1
      go_wp2
      go_ret
      exact ⟨_, rfl, H3.out.sl, HK2.out⟩

theorem Co.form2 {w : World} {B : Nat} {v : Value} {ps : List Cu} (h : Co w B v ps) : (v = .slice none 0 0 ∧ ps = []) ∨ ∃ g c, v = .slice (some ⟨g, 0, none⟩) ps.length c ∧ ps.length ≤ c := by
  rcases h.2 with ⟨rfl, h0⟩ | ⟨g, cap, cur, rfl, _, _, h1, _⟩
  · exact .inl ⟨rfl, List.eq_nil_of_length_eq_zero h0⟩
  · exact .inr ⟨g, cap, rfl, h1⟩
set_option maxRecDepth 100000 in
theorem left1_any (b1 j : Nat) (v1 : Value) (ps : List Cu) (w : World) (hc : w.cell? ⟨b1, 0, none⟩ = some v1) (hf : (v1 = .slice none 0 0 ∧ ps = []) ∨ ∃ g c, v1 = .slice (some ⟨g, 0, none⟩) ps.length c ∧ ps.length ≤ c) (hr : RdC w v1 ps) (hj : j ≤ ps.length) (h6 : ps.length ≤ 6) (hall : ps.all cluB = true) :
    Calls Try.prog 39 #[.int .i64 j, .pointer (some ⟨b1, 0, none⟩)] w fun e w' => e = .returned (.int .i64 ((solA (ps.take j) 10).length : Int)) ∧ Kp Nw w w' := by
  obtain ⟨q, hq⟩ : ∃ q, (solA (ps.take j) 10).length = q := ⟨_, rfl⟩
  rcases hf with ⟨rfl, rfl⟩ | ⟨g, c, rfl, hcap⟩
  · obtain rfl : j = 0 := by simpa using hj
    have HF := Lib.hid (countFitting_any none 0 0 [] w (RdC.nil w) rfl (by omega) rfl)
    rw [show (solA [] 10).length = q from hq] at HF
    rw [hq]
    clear hq hr
    go_enter Try.func39, Try.ntmps39
    go_wp2_with fail
    refine (firstClues_nil _).mono ?_
    rintro e w1 ⟨rfl, rfl⟩
    go_wp2_with fail
    refine HF.out.mono ?_
    rintro e w2 ⟨rfl, hk2⟩
    have HK2 := Lib.hid hk2
    clear hk2
    go_wp2
    go_ret
    exact ⟨rfl, HK2.out⟩
  · have HF := Lib.hid (countFitting_any (some ⟨g, 0, none⟩) j j (ps.take j) w (hr.takeAd rfl hj) (by rw [List.length_take]; omega) (by omega) (take_all j hall))
    rw [hq] at HF ⊢
    obtain ⟨n, hn⟩ : ∃ n, ps.length = n := ⟨_, rfl⟩
    rw [hn] at hc hj hcap
    clear hq hr hn
    go_enter Try.func39, Try.ntmps39
    go_wp2_with fail
    refine (firstClues_any g n c j _ (by omega)).mono ?_
    rintro e w1 ⟨rfl, rfl⟩
    go_wp2_with fail
    refine HF.out.mono ?_
    rintro e w2 ⟨rfl, hk2⟩
    have HK2 := Lib.hid hk2
    clear hk2
    go_wp2
    go_ret
    exact ⟨rfl, HK2.out⟩

set_option maxRecDepth 100000 in
set_option maxHeartbeats 3200000 in
theorem iLeftByClues_any (A : Option Addr) (n c : Nat) (ps : List Cu) (W : World) (hu : RdC W (.slice A n c) ps) (hn : ps.length = n) (hm : n ≤ maxLen) :
    Calls Try.prog 17 #[.agg #[.slice A n c]] W (ListB W (vLeft ps).1 (vLeft ps).2) := by
  have hk0 : Kp Nw W (W.alloc (.cells #[.slice A n c] 28)) := .al _ _
  obtain ⟨b, hb⟩ : ∃ b, puzB ps = b := ⟨_, rfl⟩
  have HC := Lib.hid (cluesOf_any A n c ps _ (hu.nw hk0) hn hm b hb)
  have HN := Lib.hid hn
  have HB := Lib.hid hb
  obtain ⟨r, hr⟩ : ∃ r, vLeft ps = r := ⟨_, rfl⟩
  rw [hr]
  have hmf : ∀ (fn : Fn) (first cap : Array Value) (w : World), (Instr.makeFunc fn first cap).run Try.prog w = .ok (.func fn first cap) w := fun _ _ _ _ => rfl
  cases b
  · have HR : Hid (r = ([], false)) := Lib.hid (by rw [← hr]; unfold vLeft; rw [if_neg (fun h => by rw [hb] at h; cases h)])
    simp only [Bool.false_eq_true, if_false] at HC
    clear hu hn hb hr hk0
    go_enter Try.func17, Try.ntmps17
    go_wp2_with fail
    refine HC.out.mono ?_
    rintro e w1 ⟨rfl, hk1⟩
    have HK1 := Lib.hid ((Kp.al W _).nw hk1)
    clear hk1
    go_wp2
    go_ret2
    rw [HR.out]
    exact ⟨_, rfl, Sl.nil _ _, by first | exact HK1.out.nw (.al _ _) | exact HK1.out⟩
  · have HR : Hid (r = (leftT ps (n + 1), true)) := Lib.hid (by rw [← hr]; unfold vLeft; rw [if_pos hb, HN.out])
    simp only [if_true] at HC
    clear hu hn hb hr hk0
    obtain ⟨h6, hall⟩ := puz_parts HB.out
    have h7 : n ≤ 6 := by have := HN.out; omega
    have n0 : (0 : Int) ≤ n := Int.natCast_nonneg _
    have q1 : IntKind.i64.wrap ((n : Int) + 1) = (n : Int) + 1 := IntWalk.i64_in _ (by omega)
    go_enter Try.func17, Try.ntmps17
    go_wp2_with fail
    refine HC.out.mono ?_
    rintro e w1 ⟨v1, rfl, hs1, hk1⟩
    obtain ⟨A1, c1, rfl⟩ := hs1.val HN.out
    have HF := Lib.hid hs1.form2
    have HS1 := Lib.hid hs1.cl.rd
    have HK1 := Lib.hid ((Kp.al W _).nw hk1)
    have HX := Lib.hid (Own1.new w1 (.slice A1 n c1) 26).1
    have kb : Kp Nw w1 (w1.alloc (.cells #[.slice A1 n c1] 26)) := .al _ _
    have KB := Lib.hid kb
    clear hk1 hs1 kb
    go_wp2_with fail
    refine (firstNumbers_any (n + 1) _ (by omega)).mono ?_
    rintro e w2 ⟨v2, rfl, hs2, hk2⟩
    obtain ⟨A2, c2, rfl⟩ := hs2.val (n := n + 1) (marks_length 0 (n + 1))
    have HK2 := Lib.hid (KB.out.nw hk2)
    have HX2 := Lib.hid (keepc hk2 HX.out (fun h => h))
    have HE := Lib.hid (each_left (.slice A2 (n + 1) c2) (.pointer (some ⟨w1.heap.size, 0, none⟩)) (marks 0 (n + 1)) (leftT ps (n + 1)) w2 hs2.rd (n + 1) (marks_length 0 (n + 1)) (leftT_len ps (n + 1)) (by omega) (Lib.hid (fun j w hj hk => by
      have e1 : (marks 0 (n + 1)).getD j 0 = (j : Int) := by rw [marks_getD 0 (n + 1) j hj]; omega
      have e2 : (leftT ps (n + 1)).getD j 0 = ((solA (ps.take j) 10).length : Int) := by simp [leftT, hj]
      rw [e1, e2]
      exact left1_any w1.heap.size j (.slice A1 n c1) ps w (keepc hk HX2.out (fun h => h)) HF.out (HS1.out.nw (HK2.out.nw hk)) (by rw [HN.out]; omega) h6 hall)))
    clear hs2 hk2
    go_wp2_with fail
    refine HE.out.mono ?_
    rintro e w3 ⟨v3, rfl, hs3, hk3⟩
    have hz : W.heap.size ≤ w2.heap.size := (HK1.out.nw HK2.out).size
    have HS3 := Lib.hid (hs3.from (B' := W.heap.size) hz)
    have HK3 := Lib.hid ((HK1.out.nw HK2.out).nw hk3)
    clear hs3 hk3
    go_wp2
    go_ret2
    rw [HR.out]
    exact ⟨_, rfl, HS3.out, HK3.out⟩
end Go.Proofs.Ytcfghaeogbimead
