/- HarderPuzzle in the program; no condition. -/
import Derived.Test.YtcfghaeogbimeaePzH
import Derived.Test.YtcfghaeogbimeaeFitg
namespace Go.Proofs.Ytcfghaeogbimeae
open Go.ChangeShapes Go.WideShapes Go.ChangeAt Go.RowKit

set_option maxRecDepth 100000 in
set_option maxHeartbeats 6400000 in
theorem iHarderPuzzle_any (g n B : Nat) (ps : List Cu) (W : World) (hs : ClAt W B g n n ps) (hl : n ≤ 1048576) :
    Calls Try.prog 12 #[.agg #[.slice (some ⟨g, 0, none⟩) n n]] W (PuzB W (vHard ps).1 (vHard ps).2) := by
  have HS := Lib.hid hs
  have HN : Hid (ps.length = n) := Lib.hid hs.1
  have HC0 := Lib.hid (fun b hb => cluesOf_any (some ⟨g, 0, none⟩) n n ps _ (hs.cl.rd.nw ((Kp.al W (.cells #[.slice (some ⟨g, 0, none⟩) n n] 30)).nw (.al _ (.cells #[.slice none 0 0] 30)))) hs.1 (by unfold maxLen; omega) b hb)
  rw [vHard, hs.1]
  clear hs
  cases hb : puzB ps
  · rw [if_neg (by simp)]
    have HCL := HC0.out false hb
    simp only [Bool.false_eq_true, if_false] at HCL
    have HCL := Lib.hid HCL
    clear hb
    go_enter Try.func12, Try.ntmps12
    go_wp2_with fail
    refine HCL.out.mono ?_
    rintro e w1 ⟨rfl, hk1⟩
    obtain ⟨kk1, hz1, cc1, rr1⟩ := puz_open _ W w1 hk1
    have HK1 := Lib.hid kk1
    have HR1 := Lib.hid rr1
    have hr1 := rr1.1
    have hr2 := rr1.2
    clear kk1 cc1 rr1 hk1
    have z0 := one_set w1 (W.heap.size + 1) (.slice none 0 0) _ HR1.out.1
    have HZ := Lib.hid (puz_none 1 hz1 HK1.out)
    go_wp2
    refine bodyPost_ret (v := .tuple #[.agg #[.slice none 0 0], .bool false]) (by simp [results, Try.results12, go_sem, z0]) rfl ⟨_, rfl, HZ.out.1, HZ.out.2⟩
  · have HCL := HC0.out true hb
    simp only [if_true] at HCL
    have HCL := Lib.hid HCL
    obtain ⟨n2, hall⟩ := puz_parts hb
    rw [HN.out] at n2
    clear hb
    by_cases hk : (solA ps 10).length = 1
    · rw [if_pos ⟨rfl, hk⟩]
      have hn1 : 1 ≤ n := by
        by_cases h0 : n = 0
        · have e : ps = [] := List.eq_nil_of_length_eq_zero (by rw [HN.out]; exact h0)
          rw [e, solA_nil] at hk
          omega
        · omega
      have HKD := Lib.hid (decide_eq_true hk)
      clear hk
      obtain ⟨R, hR⟩ : ∃ R, hrd n ps 0 = R := ⟨_, rfl⟩
      have HRR : Hid (hrd ps.length ps 0 = R) := Lib.hid (by rw [HN.out]; exact hR)
      rw [hR]
      clear hR
      go_enter Try.func12, Try.ntmps12
      go_wp2_with fail
      refine HCL.out.mono ?_
      rintro e w1 ⟨v1, rfl, hs1, hk1⟩
      obtain ⟨g1, c1, rfl, hat⟩ : ∃ g1 c1, v1 = .slice (some ⟨g1, 0, none⟩) n c1 ∧ n ≤ c1 := by
        rcases hs1.2 with ⟨_, h0⟩ | ⟨g1, cap, cur, he, _, _, h1, _⟩
        · have := HN.out; omega
        · rw [HN.out] at he h1; exact ⟨g1, cap, he, h1⟩
      obtain ⟨kk1, hz1, cc1, rr1⟩ := puz_open _ W w1 hk1
      have HK1 := Lib.hid kk1
      have HR1 := Lib.hid rr1
      have HS1 : Hid (Cl w1 (W.heap.size + 2) (.slice (some ⟨g1, 0, none⟩) n c1) ps) := Lib.hid (hs1.cl.from (by simp))
      have HSV := Lib.hid (areSolved_any (some ⟨g1, 0, none⟩) n c1 ps w1 hs1.cl.rd HN.out n2 hall)
      rw [HKD.out] at HSV
      clear kk1 cc1 rr1 hk1 hs1
      go_wp2_with fail
      refine HSV.out.mono ?_
      rintro e w3 ⟨rfl, hk2⟩
      have HSI := Lib.hid (HS1.out.nw hk2)
      have HRI := Lib.hid (HR1.out.kp hk2 (fun h => h))
      have HKI := Lib.hid (HK1.out.nw hk2)
      have hzi : W.heap.size + 2 ≤ w3.heap.size := Nat.le_trans hz1 hk2.size
      clear hk2
      go_wp2
      go_loopw [4, 6] (fun o i wy => ∃ (cs : List Cu) (k m c2 : Nat) (A2 : Option Addr) (wr : World), cs.length = m ∧ k ≤ m ∧ m ≤ 6 ∧ (1 ≤ m → ∃ g2, A2 = some ⟨g2, 0, none⟩ ∧ m ≤ c2) ∧ i = .int .i64 k ∧ o = .slice A2 m c2 ∧ wr = wy ∧ hrd (m - k) cs k = R ∧ cs.all cluB = true ∧ Hid (Cl wr (W.heap.size + 2) (.slice A2 m c2) cs) ∧ Hid (Own1 wr (W.heap.size + 1) (.slice none 0 0)) ∧ Hid (Kp Nw W wr) ∧ W.heap.size + 2 ≤ wr.heap.size) (fun o i _ => lenOf9 o - (intOf i).toNat)
      case atStart => exact ⟨ps, 0, n, c1, _, _, HN.out, Nat.zero_le _, n2, (fun _ => ⟨g1, rfl, hat⟩), rfl, rfl, rfl, by rw [Nat.sub_zero, ← HRR.out, HN.out], hall, HSI, HRI, HKI, hzi⟩
      case round =>
        obtain ⟨cs, k, m, c2, A2, wr, hm, hk, m6, hmc, rfl, rfl, rfl, hrr, hca, HS, HR, HK, hz⟩ := hrel
        have k0 : (0 : Int) ≤ k := Int.natCast_nonneg _
        have HM := Lib.hid hm
        have HCA := Lib.hid hca
        by_cases hlt : k < m
        · have k1 : (k : Int) < m := by omega
          obtain ⟨g2, rfl, hmc2⟩ := hmc (by omega)
          clear hmc
          have hwl : (wo cs k).length = m - 1 := by have := wo_len cs k (by omega); omega
          have HWL := Lib.hid hwl
          have hst : hrd (m - k) cs k = if (solA (wo cs k) 10).length = 1 then hrd (m - k - 1) (wo cs k) k else hrd (m - k - 1) cs (k + 1) := by
            obtain ⟨f, hf⟩ : ∃ f, m - k = f + 1 := ⟨m - k - 1, by omega⟩
            rw [hf, hrd, if_pos (by omega), Nat.add_sub_cancel]
          rw [hst] at hrr
          have HSR := Lib.hid hrr
          obtain ⟨b, hb⟩ : ∃ b, decide ((solA (wo cs k) 10).length = 1) = b := ⟨_, rfl⟩
          have HBB := Lib.hid hb
          clear hm hca hwl hst hrr hb
          go_wp2_with fail
          refine (withoutClue_any (W.heap.size + 2) g2 m c2 k cs _ HS.out HM.out hmc2 hlt (by omega) hz).mono ?_
          rintro e w2 ⟨g3, c3, rfl, hat3, hs2, hk2⟩
          have hat3 : 1 ≤ m - 1 → ∃ g9, some (⟨g3, 0, none⟩ : Addr) = some ⟨g9, 0, none⟩ ∧ m - 1 ≤ c3 := fun _ => ⟨g3, rfl, hat3⟩
          have hkz2 := hk2.size
          have HR2 := Lib.hid (HR.out.kp hk2 (fun h => h))
          have HK2 := Lib.hid (HK.out.nw hk2)
          have HSO := Lib.hid (HS.out.nw hk2)
          have HSV := Lib.hid (areSolved_any (some ⟨g3, 0, none⟩) (m - 1) c3 (wo cs k) w2 hs2.rd HWL.out (by omega) (wo_all cs k HCA.out))
          rw [HBB.out] at HSV
          have HS2 := Lib.hid hs2
          clear hs2 hk2
          go_wp2_with fail
          refine HSV.out.mono ?_
          rintro e w3 ⟨rfl, hk3⟩
          have HR3 := Lib.hid (HR2.out.kp hk3 (fun h => h))
          have HK3 := Lib.hid (HK2.out.nw hk3)
          have HS3 := Lib.hid (HS2.out.nw hk3)
          have HS4 := Lib.hid (HSO.out.nw hk3)
          have hz3 : W.heap.size + 2 ≤ w3.heap.size := Nat.le_trans (Nat.le_trans hz hkz2) hk3.size
          clear hk3 hkz2
          cases b
          · have hno := of_decide_eq_false HBB.out
            have HSR := HSR.out
            rw [if_neg hno] at HSR
            have HSR := Lib.hid HSR
            clear hno
            go_wp2
            go_roundw
            case rel => exact ⟨cs, k + 1, m, c2, _, _, HM.out, by omega, m6, (fun _ => ⟨g2, rfl, hmc2⟩), by go_num, rfl, rfl, by rw [show m - (k + 1) = m - k - 1 by omega]; exact HSR.out, HCA.out, HS4, HR3, HK3, hz3⟩
            case measure => simp [intOf, lenOf9]; omega
          · have hyes := of_decide_eq_true HBB.out
            have HSR := HSR.out
            rw [if_pos hyes] at HSR
            have HSR := Lib.hid HSR
            clear hyes
            go_wp2
            go_roundw
            case rel => exact ⟨wo cs k, k, m - 1, c3, _, _, HWL.out, by omega, by omega, hat3, rfl, rfl, rfl, by rw [show m - 1 - k = m - k - 1 by omega]; exact HSR.out, wo_all cs k HCA.out, HS3, HR3, HK3, hz3⟩
            case measure => simp [intOf, lenOf9]; omega
        · have hR : cs = R := by
            rw [← hrr, show m - k = 0 by omega]
            rfl
          subst hR
          obtain ⟨r0, r1⟩ := HR.out
          have z0 := one_set wr (W.heap.size + 1) (.slice A2 m c2) _ r0
          have HZ := Lib.hid (puz_close 1 (show Cl wr (W.heap.size + 1 + 1) _ cs from HS.out) HK.out)
          clear hca hrr hm
          go_wp2
          refine bodyPost_ret (v := .tuple #[.agg #[.slice A2 m c2], .bool true]) (by simp [results, Try.results12, go_sem, z0]) rfl ⟨_, rfl, HZ.out.1, HZ.out.2⟩
    · rw [if_neg (fun h => hk h.2)]
      have HKD := Lib.hid (decide_eq_false hk)
      clear hk
      go_enter Try.func12, Try.ntmps12
      go_wp2_with fail
      refine HCL.out.mono ?_
      rintro e w1 ⟨v1, rfl, hs1, hk1⟩
      obtain ⟨A1, c1, rfl⟩ := hs1.val HN.out
      obtain ⟨kk1, hz1, cc1, rr1⟩ := puz_open _ W w1 hk1
      have HK1 := Lib.hid kk1
      have HR1 := Lib.hid rr1
      have HSV := Lib.hid (areSolved_any A1 n c1 ps w1 hs1.cl.rd HN.out n2 hall)
      rw [HKD.out] at HSV
      clear kk1 cc1 rr1 hk1 hs1
      go_wp2_with fail
      refine HSV.out.mono ?_
      rintro e w2 ⟨rfl, hk2⟩
      have HK2 := Lib.hid (HK1.out.nw hk2)
      have hr3 := HR1.out.kp hk2 (fun h => h)
      obtain ⟨hr3a, hr3b⟩ := hr3
      have z0 := one_set w2 (W.heap.size + 1) (.slice none 0 0) _ hr3a
      have HZ := Lib.hid (puz_none 1 (Nat.le_trans hz1 hk2.size) HK2.out)
      clear hk2
      go_wp2
      refine bodyPost_ret (v := .tuple #[.agg #[.slice none 0 0], .bool false]) (by simp [results, Try.results12, go_sem, z0]) rfl ⟨_, rfl, HZ.out.1, HZ.out.2⟩
end Go.Proofs.Ytcfghaeogbimeae
