/- HarderPuzzle in the model; no condition. -/
import Derived.Test.YtcfghaeogbimeaePzG
import Derived.Test.YtcfghaeogbimeaePzE
namespace Go.Proofs.Ytcfghaeogbimeae
open Go.ChangeShapes Go.WideShapes Go.ChangeAt Go.RowKit

/-- the model's taking out, from an index on -/
def hrd : Nat → List Cu → Nat → List Cu
  | 0, cs, _ => cs
  | f + 1, cs, k => if k < cs.length then (if (solA (wo cs k) 10).length = 1 then hrd f (wo cs k) k else hrd f cs (k + 1)) else cs
theorem hrd_len : ∀ f cs k, (hrd f cs k).length ≤ cs.length
  | 0, cs, k => Nat.le_refl _
  | f + 1, cs, k => by
    rw [hrd]
    split
    · rename_i h
      split
      · have := hrd_len f (wo cs k) k
        have := wo_len cs k h
        omega
      · exact hrd_len f cs (k + 1)
    · exact Nat.le_refl _
/-- a slice's length -/
def lenOf9 : Value → Nat
  | .slice _ n _ => n
  | _ => 0
def vHard (ps : List Cu) : List Cu × Bool := if puzB ps = true ∧ (solA ps 10).length = 1 then (hrd ps.length ps 0, true) else ([], false)
theorem vHard_len (ps : List Cu) : (vHard ps).1.length ≤ 1000000 := by
  unfold vHard
  split
  · rename_i h
    have h6 := (puz_parts h.1).1
    have := hrd_len ps.length ps 0
    simp only
    omega
  · exact Nat.zero_le _
theorem solA_nil : (solA [] 10).length = 120 := by decide +kernel

set_option maxRecDepth 100000 in
set_option maxHeartbeats 6400000 in
theorem sHarderPuzzle_any (g n B : Nat) (ps : List Cu) (W : World) (hs : ClAt W B g n n ps) (hl : n ≤ 1048576) :
    Calls Try.prog 11 #[.agg #[.slice (some ⟨g, 0, none⟩) n n]] W (PuzB W (vHard ps).1 (vHard ps).2) := by
  have HS := Lib.hid hs
  have HN : Hid (ps.length = n) := Lib.hid hs.1
  rw [vHard, hs.1]
  clear hs
  cases hb : puzB ps
  · rw [if_neg (by simp)]
    have HB := Lib.hid hb
    clear hb
    go_enter Try.func11, Try.ntmps11
    go_wp2_with (first | (refine (pzGood_any _ n n ps _ (HS.out.cl.rd.nw ((Kp.al W _).nw (.al _ _))) HN.out (by unfold maxLen; omega) _ HB.out.symm).mono ?_; rintro e w1 ⟨rfl, hk1⟩; obtain ⟨kk1, hz1, cc1, rr1⟩ := puz_open _ W w1 hk1; have HK1 := Lib.hid kk1; have HC1 := Lib.hid cc1; have HR1 := Lib.hid rr1; have hc1 := cc1.1; have hr1 := rr1.1; have hr2 := rr1.2; clear kk1 cc1 rr1 hk1))
    have z0 := one_set w1 (W.heap.size + 1) (.slice none 0 0) _ HR1.out.1
    have HZ := Lib.hid (puz_none 1 hz1 HK1.out)
    go_wp2
    refine bodyPost_ret (v := .tuple #[.agg #[.slice none 0 0], .bool false]) (by simp [results, Try.results11, go_sem, z0]) rfl ⟨_, rfl, HZ.out.1, HZ.out.2⟩
  · have HB := Lib.hid hb
    obtain ⟨n2, hall⟩ := puz_parts hb
    rw [HN.out] at n2
    have HSV := Lib.hid (fun w (h : RdC w (.slice (some ⟨g, 0, none⟩) n n) ps) => pzSolved_any (some ⟨g, 0, none⟩) n n ps w h HN.out hb)
    clear hb
    by_cases hk : (solA ps 10).length = 1
    · rw [if_pos ⟨rfl, hk⟩]
      rw [decide_eq_true hk] at HSV
      have hn1 : 1 ≤ n := by
        by_cases h0 : n = 0
        · have e : ps = [] := List.eq_nil_of_length_eq_zero (by rw [HN.out]; exact h0)
          rw [e, solA_nil] at hk
          omega
        · omega
      clear hk
      obtain ⟨R, hR⟩ : ∃ R, hrd n ps 0 = R := ⟨_, rfl⟩
      have HRR : Hid (hrd ps.length ps 0 = R) := Lib.hid (by rw [HN.out]; exact hR)
      rw [hR]
      clear hR
      go_enter Try.func11, Try.ntmps11
      go_wp2_with (first | (refine (pzGood_any _ n n ps _ (HS.out.cl.rd.nw ((Kp.al W _).nw (.al _ _))) HN.out (by unfold maxLen; omega) _ HB.out.symm).mono ?_; rintro e w1 ⟨rfl, hk1⟩; obtain ⟨kk1, hz1, cc1, rr1⟩ := puz_open _ W w1 hk1; have HK1 := Lib.hid kk1; have HC1 := Lib.hid cc1; have HR1 := Lib.hid rr1; have hc1 := cc1.1; have hr1 := rr1.1; have hr2 := rr1.2; clear kk1 cc1 rr1 hk1))
      refine (HSV.out _ (HS.out.cl.rd.nw HK1.out)).mono ?_
      rintro e w2 ⟨rfl, hk2⟩
      have HK2 := Lib.hid (HK1.out.nw hk2)
      have HR2 := Lib.hid (HR1.out.kp hk2 (fun h => h))
      have HC2 := Lib.hid (HC1.out.kp hk2 (fun h => h))
      have hc2 := keepc (Kp.al w2 (.cells #[] 49)) HC2.out.1 (fun h => h)
      have hz2 : W.heap.size + 2 ≤ w2.heap.size := Nat.le_trans hz1 hk2.size
      have HL : Hid (([] : List Cu).length + ps.length ≤ 1000000) := Lib.hid (by rw [HN.out]; simp; omega)
      clear hk2
      go_wp2_with (first | (at_builtin; refine wpList_clus _ rfl (.tmp 17) (.tmp 19) rfl w2.heap.size (.slice (some ⟨w2.heap.size, 0, none⟩) 0 0) (.slice (some ⟨g, 0, none⟩) n n) [] ps rfl rfl (Co.empty w2 _ (Nat.le_refl _)) (HS.out.cl.rd.nw (HK2.out.nw (.al _ _))) (VnC.some_ _ _ n _ HN.out) HL.out (by simp) ?_))
      intro v3 w3 hs3 hk3
      have k3 : Kp Nw w2 w3 := (show Kp Nw w2 (w2.alloc (.cells #[] 49)) from .al _ _).after hk3 (fun b hb e => by simp [Value.ownBlock] at e; omega)
      have hs3 : Co w3 w2.heap.size v3 ps := by simpa using hs3
      obtain ⟨g1, c1, rfl, hat⟩ : ∃ g1 c1, v3 = .slice (some ⟨g1, 0, none⟩) n c1 ∧ n ≤ c1 := by
        rcases hs3.2 with ⟨_, h0⟩ | ⟨g1, cap, cur, he, _, _, h1, _⟩
        · have := HN.out; omega
        · rw [HN.out] at he h1; exact ⟨g1, cap, he, h1⟩
      have HSI : Hid (Cl w3 (W.heap.size + 2) (.slice (some ⟨g1, 0, none⟩) n c1) ps) := Lib.hid (hs3.cl.from hz2)
      have HRI := Lib.hid (HR2.out.kp k3 (fun h => h))
      have HKI := Lib.hid (HK2.out.nw k3)
      have hzi : W.heap.size + 2 ≤ w3.heap.size := Nat.le_trans hz2 k3.size
      clear hs3 hk3 k3 hc2
      go_wp2
      go_loopw [4, 5] (fun o i wy => ∃ (cs : List Cu) (k m c2 : Nat) (A2 : Option Addr) (wr : World), cs.length = m ∧ k ≤ m ∧ m ≤ 6 ∧ (1 ≤ m → ∃ g2, A2 = some ⟨g2, 0, none⟩ ∧ m ≤ c2) ∧ i = .int .i64 k ∧ o = .slice A2 m c2 ∧ wr = wy ∧ hrd (m - k) cs k = R ∧ cs.all cluB = true ∧ Hid (Cl wr (W.heap.size + 2) (.slice A2 m c2) cs) ∧ Hid (Own1 wr (W.heap.size + 1) (.slice none 0 0)) ∧ Hid (Kp Nw W wr) ∧ W.heap.size + 2 ≤ wr.heap.size) (fun o i _ => lenOf9 o - (intOf i).toNat)
      case atStart => exact ⟨ps, 0, n, c1, _, _, HN.out, Nat.zero_le _, n2, (fun _ => ⟨g1, rfl, hat⟩), rfl, rfl, rfl, by rw [Nat.sub_zero, ← HRR.out, HN.out], hall, HSI, HRI, HKI, hzi⟩
      case round =>
        obtain ⟨cs, k, m, c2, A2, wr, hm, hk, m6, hmc, rfl, rfl, rfl, hrr, hca, HS, HR, HK, hz⟩ := hrel
        have k0 : (0 : Int) ≤ k := Int.natCast_nonneg _
        have HM := Lib.hid hm
        have HCA := Lib.hid hca
        by_cases hlt : k < m
        · have k1 : (k : Int) < m := by omega
          obtain ⟨g2, rfl, hmc2⟩ := hmc (by omega)
          clear hmc
          have hwl : (wo cs k).length = m - 1 := by have := wo_len cs k (by omega); omega
          have HWL := Lib.hid hwl
          have hst : hrd (m - k) cs k = if (solA (wo cs k) 10).length = 1 then hrd (m - k - 1) (wo cs k) k else hrd (m - k - 1) cs (k + 1) := by
            obtain ⟨f, hf⟩ : ∃ f, m - k = f + 1 := ⟨m - k - 1, by omega⟩
            rw [hf, hrd, if_pos (by omega), Nat.add_sub_cancel]
          rw [hst] at hrr
          have HSR := Lib.hid hrr
          obtain ⟨b, hb⟩ : ∃ b, decide ((solA (wo cs k) 10).length = 1) = b := ⟨_, rfl⟩
          have HBB := Lib.hid hb
          clear hm hca hwl hst hrr hb
          go_wp2_with fail
          refine (pzWithout_any g2 m c2 k cs _ HS.out.rd HM.out hmc2 hlt (by omega)).mono ?_
          rintro e w2 ⟨v2, rfl, hs9, hk2⟩
          obtain ⟨A3, c3, rfl⟩ := hs9.val HWL.out
          have hat3 : 1 ≤ m - 1 → ∃ g3, A3 = some ⟨g3, 0, none⟩ ∧ m - 1 ≤ c3 := fun h1 => by
            rcases hs9.2 with ⟨he, h0⟩ | ⟨g3, cap, cur, he, _, _, h9, _⟩
            · have := HWL.out; omega
            · rw [HWL.out] at he h9
              injection he with e1 _ e3
              exact ⟨g3, e1, by omega⟩
          have hs2 : Cl w2 (W.heap.size + 2) (.slice A3 (m - 1) c3) (wo cs k) := hs9.cl.from hz
          have hkz2 := hk2.size
          clear hs9
          have HR2 := Lib.hid (HR.out.kp hk2 (fun h => h))
          have HK2 := Lib.hid (HK.out.nw hk2)
          have HSO := Lib.hid (HS.out.nw hk2)
          have HSV := Lib.hid (pzSolved_any A3 (m - 1) c3 (wo cs k) w2 hs2.rd HWL.out (by unfold puzB; rw [HWL.out, wo_all cs k HCA.out, decide_eq_true (by omega)]; rfl))
          rw [HBB.out] at HSV
          have HS2 := Lib.hid hs2
          clear hs2 hk2
          go_wp2_with fail
          refine HSV.out.mono ?_
          rintro e w3 ⟨rfl, hk3⟩
          have HR3 := Lib.hid (HR2.out.kp hk3 (fun h => h))
          have HK3 := Lib.hid (HK2.out.nw hk3)
          have HS3 := Lib.hid (HS2.out.nw hk3)
          have HS4 := Lib.hid (HSO.out.nw hk3)
          have hz3 : W.heap.size + 2 ≤ w3.heap.size := Nat.le_trans (Nat.le_trans hz hkz2) hk3.size
          clear hk3 hkz2
          cases b
          · have hno := of_decide_eq_false HBB.out
            have HSR := HSR.out
            rw [if_neg hno] at HSR
            have HSR := Lib.hid HSR
            clear hno
            go_wp2
            go_roundw
            case rel => exact ⟨cs, k + 1, m, c2, _, _, HM.out, by omega, m6, (fun _ => ⟨g2, rfl, hmc2⟩), by go_num, rfl, rfl, by rw [show m - (k + 1) = m - k - 1 by omega]; exact HSR.out, HCA.out, HS4, HR3, HK3, hz3⟩
            case measure => simp [intOf, lenOf9]; omega
          · have hyes := of_decide_eq_true HBB.out
            have HSR := HSR.out
            rw [if_pos hyes] at HSR
            have HSR := Lib.hid HSR
            clear hyes
            go_wp2
            go_roundw
            case rel => exact ⟨wo cs k, k, m - 1, c3, _, _, HWL.out, by omega, by omega, hat3, rfl, rfl, rfl, by rw [show m - 1 - k = m - k - 1 by omega]; exact HSR.out, wo_all cs k HCA.out, HS3, HR3, HK3, hz3⟩
            case measure => simp [intOf, lenOf9]; omega
        · have hR : cs = R := by
            rw [← hrr, show m - k = 0 by omega]
            rfl
          subst hR
          obtain ⟨r0, r1⟩ := HR.out
          have z0 := one_set wr (W.heap.size + 1) (.slice A2 m c2) _ r0
          have HZ := Lib.hid (puz_close 1 (show Cl wr (W.heap.size + 1 + 1) _ cs from HS.out) HK.out)
          clear hca hrr hm
          go_wp2
          refine bodyPost_ret (v := .tuple #[.agg #[.slice A2 m c2], .bool true]) (by simp [results, Try.results11, go_sem, z0]) rfl ⟨_, rfl, HZ.out.1, HZ.out.2⟩
    · rw [if_neg (fun h => hk h.2)]
      rw [decide_eq_false hk] at HSV
      clear hk
      go_enter Try.func11, Try.ntmps11
      go_wp2_with (first | (refine (pzGood_any _ n n ps _ (HS.out.cl.rd.nw ((Kp.al W _).nw (.al _ _))) HN.out (by unfold maxLen; omega) _ HB.out.symm).mono ?_; rintro e w1 ⟨rfl, hk1⟩; obtain ⟨kk1, hz1, cc1, rr1⟩ := puz_open _ W w1 hk1; have HK1 := Lib.hid kk1; have HC1 := Lib.hid cc1; have HR1 := Lib.hid rr1; have hc1 := cc1.1; have hr1 := rr1.1; have hr2 := rr1.2; clear kk1 cc1 rr1 hk1))
      refine (HSV.out _ (HS.out.cl.rd.nw HK1.out)).mono ?_
      rintro e w2 ⟨rfl, hk2⟩
      have HK2 := Lib.hid (HK1.out.nw hk2)
      have hr3 := HR1.out.kp hk2 (fun h => h)
      obtain ⟨hr3a, hr3b⟩ := hr3
      have z0 := one_set w2 (W.heap.size + 1) (.slice none 0 0) _ hr3a
      have HZ := Lib.hid (puz_none 1 (Nat.le_trans hz1 hk2.size) HK2.out)
      clear hk2
      go_wp2
      refine bodyPost_ret (v := .tuple #[.agg #[.slice none 0 0], .bool false]) (by simp [results, Try.results11, go_sem, z0]) rfl ⟨_, rfl, HZ.out.1, HZ.out.2⟩
end Go.Proofs.Ytcfghaeogbimeae
