/- NeedlessClues in the program; no condition. -/
import Derived.Test.YtcfghaeogbimeacPzN
import Derived.Test.YtcfghaeogbimeacFitg
namespace Go.Proofs.Ytcfghaeogbimeac
open Go.ChangeShapes Go.WideShapes Go.ChangeAt Go.RowKit
theorem Co.form2 {w : World} {B : Nat} {v : Value} {ps : List Cu} (h : Co w B v ps) : (v = .slice none 0 0 ∧ ps = []) ∨ ∃ g c, v = .slice (some ⟨g, 0, none⟩) ps.length c ∧ ps.length ≤ c := by
  rcases h.2 with ⟨rfl, h0⟩ | ⟨g, cap, cur, rfl, _, _, h1, _⟩
  · exact .inl ⟨rfl, List.eq_nil_of_length_eq_zero h0⟩
  · exact .inr ⟨g, cap, rfl, h1⟩

set_option maxRecDepth 100000 in
set_option maxHeartbeats 3200000 in
theorem iNeedlessClues_any (A : Option Addr) (n c : Nat) (ps : List Cu) (W : World) (hu : RdC W (.slice A n c) ps) (hn : ps.length = n) (hm : n ≤ maxLen) :
    Calls Try.prog 18 #[.agg #[.slice A n c]] W (ListB W (vNeed ps).1 (vNeed ps).2) := by
  have hk0 : Kp Nw W (W.alloc (.cells #[.slice A n c] 31)) := .al _ _
  obtain ⟨b, hb⟩ : ∃ b, puzB ps = b := ⟨_, rfl⟩
  have HC := Lib.hid (cluesOf_any A n c ps _ (hu.nw hk0) hn hm b hb)
  have HN := Lib.hid hn
  have HB := Lib.hid hb
  obtain ⟨r, hr⟩ : ∃ r, vNeed ps = r := ⟨_, rfl⟩
  rw [hr]
  cases b
  · have HR : Hid (r = ([], false)) := Lib.hid (by rw [← hr]; unfold vNeed; rw [if_neg (fun h => by rw [hb] at h; cases h)])
    simp only [Bool.false_eq_true, if_false] at HC
    clear hu hn hb hr hk0
    go_enter Try.func18, Try.ntmps18
    go_wp2_with fail
    refine HC.out.mono ?_
    rintro e w1 ⟨rfl, hk1⟩
    have HK1 := Lib.hid ((Kp.al W _).nw hk1)
    clear hk1
    go_wp2
    go_ret2
    rw [HR.out]
    exact ⟨_, rfl, Sl.nil _ _, HK1.out⟩
  · have HR : Hid (r = (needT ps n, true)) := Lib.hid (by rw [← hr]; unfold vNeed; rw [if_pos hb, HN.out])
    simp only [if_true] at HC
    clear hu hn hb hr hk0
    obtain ⟨h6, hall⟩ := puz_parts HB.out
    have h7 : n ≤ 6 := by have := HN.out; omega
    go_enter Try.func18, Try.ntmps18
    go_wp2_with fail
    refine HC.out.mono ?_
    rintro e w1 ⟨v1, rfl, hs1, hk1⟩
    obtain ⟨A1, c1, rfl⟩ := hs1.val HN.out
    have HS1 := Lib.hid hs1.cl
    have HF := Lib.hid hs1.form2
    have n0 : (0 : Int) ≤ n := Int.natCast_nonneg _
    have hz1 : (W.alloc (.cells #[.slice A n c] 31)).heap.size ≤ w1.heap.size := hk1.size
    have HZ1 := Lib.hid hz1
    have HK1 := Lib.hid ((Kp.al W _).nw hk1)
    clear hk1 hs1 hz1
    go_wp2_with fail
    obtain ⟨q0, hq0⟩ : ∃ q0, (solA ps 10).length = q0 := ⟨_, rfl⟩
    have HQ0 := Lib.hid hq0
    have HF0 := Lib.hid (countFitting_any A1 n c1 ps _ HS1.out.rd HN.out h7 hall)
    rw [hq0] at HF0
    clear hq0
    refine HF0.out.mono ?_
    rintro e wa ⟨rfl, hka⟩
    have HKA := Lib.hid (HK1.out.nw hka)
    have HSA := Lib.hid (HS1.out.nw hka)
    have hza : w1.heap.size ≤ wa.heap.size := hka.size
    have HZA := Lib.hid hza
    clear hka hza
    go_wp2
    go_loopw [7, 20] (fun o i wy => ∃ (j : Nat) (v : Value) (wr : World), j ≤ n ∧ i = .int .i64 j ∧ v = o ∧ wr = wy ∧ Hid (Sl wr wa.heap.size v (needT ps j)) ∧ Hid (Kp Nw wa wr)) (fun _ i _ => n - (intOf i).toNat)
    case atStart => exact ⟨0, _, _, Nat.zero_le _, rfl, rfl, rfl, Lib.hid (Sl.nil _ _), Lib.hid (Kp.refl _ _)⟩
    case round =>
      obtain ⟨j, v, wr, hj, rfl, rfl, rfl, HS, HK⟩ := hrel
      have j0 : (0 : Int) ≤ j := Int.natCast_nonneg _
      by_cases hlt : j < n
      · have j1 : (j : Int) < n := by omega
        have hwl : (wo ps j).length = n - 1 := by have := wo_len ps j (by rw [HN.out]; exact hlt); rw [HN.out] at this; omega
        have HWL := Lib.hid hwl
        have HNX : Hid (needT ps (j + 1) = if (solA (wo ps j) 10).length = q0 then needT ps j ++ [(j : Int)] else needT ps j) := Lib.hid (by rw [← HQ0.out]; rfl)
        obtain ⟨q2, hq2⟩ : ∃ q2, (solA (wo ps j) 10).length = q2 := ⟨_, rfl⟩
        rw [hq2] at HNX
        have HQ2 := Lib.hid hq2
        have hnl := needT_len ps j
        clear hq2 hwl
        obtain ⟨g1, rfl, hcap⟩ : ∃ g1, A1 = some ⟨g1, 0, none⟩ ∧ n ≤ c1 := by
          rcases HF.out with ⟨_, h0⟩ | ⟨g1, c9, he, h9⟩
          · have := HN.out; rw [h0] at this; simp at this; omega
          · rw [HN.out] at he h9
            injection he with e1 _ e3
            exact ⟨g1, e1, by omega⟩
        go_wp2_with fail
        refine (withoutClue_any _ g1 n c1 j ps _ (HSA.out.nw HK.out) HN.out hcap hlt (by omega) (Nat.le_trans HZ1.out (Nat.le_trans HZA.out HK.out.size))).mono ?_
        rintro e w2 ⟨g2, c2, rfl, hat2, hs2, hk2⟩
        have HS2 := Lib.hid hs2.rd
        have HK2 := Lib.hid (HK.out.nw hk2)
        have HV2 := Lib.hid (HS.out.below hk2.below')
        have HF2 := Lib.hid (countFitting_any (some ⟨g2, 0, none⟩) (n - 1) c2 (wo ps j) _ hs2.rd HWL.out (by omega) (wo_all ps j hall))
        rw [HQ2.out] at HF2
        clear hs2 hk2
        go_wp2_with fail
        refine HF2.out.mono ?_
        rintro e w3 ⟨rfl, hk3⟩
        have HK3 := Lib.hid (HK2.out.nw hk3)
        have HS3 := Lib.hid (HV2.out.below hk3.below')
        have hz3 : wa.heap.size ≤ w3.heap.size := HK3.out.size
        clear hk3
        by_cases heq : q2 = q0
        · rw [if_pos heq] at HNX
          subst heq
          go_wp2_with (first | (at_builtin; refine wpList_app _ rfl (.tmp 29) (.tmp 31) rfl wa.heap.size v _ (needT ps j) [(j : Int)] rfl rfl (HS3.out.below (Kp.al _ _).below') (Rd.one (g := w3.heap.size) (by simp)) nil_one (by simp; omega) (by simp; omega) ?_))
          intro v5 w5 hs5 hk5 hat5
          have HS5 := Lib.hid hs5
          have hvb : ∀ b, v.ownBlock = some b → wa.heap.size ≤ b := fun b hb => (HS3.out.own_ge b hb).1
          have HK5 := Lib.hid ((HK3.out.nw (.al _ _)).after hk5 (fun g hg e => by have := hvb g e; omega))
          clear hs5 hk5 hat5 hvb
          go_wp2
          go_roundw
          case rel => exact ⟨j + 1, _, _, by omega, by go_num, rfl, rfl, Lib.hid (by rw [HNX.out]; exact HS5.out), HK5⟩
          case measure => simp [intOf]; omega
        · rw [if_neg heq] at HNX
          have y1 : ¬ (q2 : Int) = q0 := by omega
          have y2 : ((q2 : Int) == q0) = false := by simpa using y1
          go_wp2
          go_roundw
          case rel => exact ⟨j + 1, _, _, by omega, by go_num, rfl, rfl, Lib.hid (by rw [HNX.out]; exact HS3.out), HK3⟩
          case measure => simp [intOf]; omega
      · have e : j = n := by omega
        subst e
        have HS9 := Lib.hid (HS.out.from (B' := W.heap.size) HKA.out.size)
        go_wp2
        go_ret2
        rw [HR.out]
        exact ⟨_, rfl, HS9.out, HKA.out.nw HK.out⟩
end Go.Proofs.Ytcfghaeogbimeac
