/- The cycles of an order, its sign, and how many orders there are, in the program; no condition but on lengths. -/
import Derived.Test.YtgbmoipkgnklfadICyc
namespace Go.Proofs.Ytgbmoipkgnklfad
open Go.ChangeShapes Go.WideShapes Go.ChangeAt Go.RowKit

/-- the cycles that begin below a number -/
def cycT (p : Nat → Nat) (n j : Nat) : List (List Int) := (lstL p n j).map (cycP p n)
theorem cycT_yes {p : Nat → Nat} {n j : Nat} (h : leastB p n j = true) : cycT p n (j + 1) = cycT p n j ++ [cycP p n j] := by
  unfold cycT lstL
  rw [List.range_succ, List.filter_append, List.map_append]
  simp [h]
theorem cycT_no {p : Nat → Nat} {n j : Nat} (h : leastB p n j = false) : cycT p n (j + 1) = cycT p n j := by
  unfold cycT lstL
  rw [List.range_succ, List.filter_append]
  simp [h]
theorem cycT_len (p : Nat → Nat) (n j : Nat) : (cycT p n j).length ≤ j := by
  unfold cycT lstL
  rw [List.length_map]
  have := List.length_filter_le (leastB p n) (List.range j)
  rw [List.length_range] at this
  exact this

set_option maxRecDepth 1000000 in
set_option maxHeartbeats 3200000 in
theorem cycles_any (xs : List Int) (n : Nat) (W : World) (hn : xs.length = n) (hb : ordB xs = true) :
    Calls Try.prog 22 #[.agg (exC (exOn xs)).toArray, .int .i64 n] W fun e w' => ∃ v, e = .returned v ∧ SS w' W.heap.size w'.heap.size v (cycL xs) ∧ Kp Nw W w' := by
  have hp := ordB_parts hb
  have n2 : n ≤ 12 := by omega
  have hE := ordB_exch' n hn hb
  have HCF := Lib.hid (fun i (hi : i < n) (W : World) => cycleFrom_any xs n i W hn hb hi)
  have HMB := Lib.hid (fun i (hi : i < n) => mnN_cyc hE hi)
  have HCL : Hid (cycL xs = cycT (exOf xs) n n) := Lib.hid (cycL_is xs n hn hE)
  have HCB : Hid (∀ i, i < n → (cycP (exOf xs) n i).length = cyc (exOf xs) n i ∧ 1 ≤ cyc (exOf xs) n i ∧ cyc (exOf xs) n i ≤ n) := Lib.hid (fun i hi => ⟨cycU_len _ _ _, cyc_pos _ _ _, (cyc_spec hE i hi).1⟩)
  have HEL := Lib.hid (exOn_len xs (by omega))
  have hEb := Lib.hid (Eb.new W (exOn xs))
  have n0 : (0 : Int) ≤ n := Int.natCast_nonneg _
  clear hp hn hb hE
  go_enter Try.func22, Try.ntmps22
  go_wp2
  obtain ⟨w1, hw1⟩ : ∃ w1, w1 = W.alloc (.cells (exC (exOn xs)).toArray 38) := ⟨_, rfl⟩
  have HB1 : Hid (Eb w1 W.heap.size (exOn xs)) := Lib.hid (by rw [hw1]; exact hEb.out)
  have HK1 : Hid (Kp Nw W w1) := Lib.hid (by rw [hw1]; exact Kp.al _ _)
  obtain ⟨eb, heb⟩ : ∃ eb, eb = W.heap.size := ⟨_, rfl⟩
  rw [← heb] at HB1
  have HEBD : Hid (W.heap.size ≤ eb ∧ eb < w1.heap.size) := Lib.hid ⟨by omega, HB1.out.lt⟩
  rw [← hw1, ← heb]
  clear hw1 heb hEb
  go_loopw [5, 7, 9] (fun r0 _ x wq => ∃ (j : Nat) (r : Value) (wr : World), j ≤ n ∧ r = r0 ∧ x = .int .i64 j ∧ wr = wq ∧ SS wr w1.heap.size wr.heap.size r (cycT (exOf xs) n j) ∧ Kp Nw w1 wr) (fun _ _ x _ => n - (intOf x).toNat)
  case atStart => exact ⟨0, _, _, Nat.zero_le _, rfl, rfl, rfl, SS.nil _ _ _, Kp.refl _ _⟩
  case round =>
    obtain ⟨j, r, wr, hj, rfl, rfl, rfl, hss, hk⟩ := hrel
    have HSS := Lib.hid hss
    have HK := Lib.hid hk
    have j0 : (0 : Int) ≤ j := Int.natCast_nonneg _
    clear hss hk
    by_cases hlt : j < n
    · have j1 : (j : Int) < n := by omega
      have HBr := Lib.hid (HB1.out.nw HK.out)
      obtain ⟨hcl, hc1, hc2⟩ := HCB.out j hlt
      obtain ⟨C, hC⟩ : ∃ C, cyc (exOf xs) n j = C := ⟨_, rfl⟩
      obtain ⟨cy, hcy⟩ : ∃ cy, cycP (exOf xs) n j = cy := ⟨_, rfl⟩
      have hmb := HMB.out j hlt
      rw [hcy, hC] at hcl
      rw [hC] at hc1 hc2
      rw [hcy, hC] at hmb
      have HCY := Lib.hid hcy
      have HLC := Lib.hid hcl
      have HMBJ := Lib.hid hmb
      have hCF := Lib.hid (HCF.out j hlt wr)
      rw [hcy] at hCF
      obtain ⟨mm, hmm⟩ : ∃ mm, mnN cy (C - 1) = mm := ⟨_, rfl⟩
      rw [hmm] at HMBJ
      have HMM := Lib.hid hmm
      clear hcl hmb hC hcy hmm
      go_wp2_with (first
        | (refine wpList_load_ex rfl (.tmp 2) rfl eb rfl (exOn xs) HBr.out HEL.out ?_)
        | (go_at_call 32
           refine hCF.out.mono ?_
           rintro e w3 ⟨v3, rfl, hs3, hk3⟩
           obtain ⟨A3, c3, rfl⟩ := hs3.val HLC.out
           have HS3 := Lib.hid hs3
           have HK3 := Lib.hid hk3
           clear hs3 hk3)
        | (go_at_call 33
           refine (minInts_any A3 C c3 cy w3 HS3.out.rd HLC.out hc1 (by omega)).mono ?_
           rw [HMM.out]
           rintro e w' ⟨rfl, rfl⟩
           by_cases hmj : mm = (j : Int)
           · subst hmj
             have HY : Hid (cycT (exOf xs) n (j + 1) = cycT (exOf xs) n j ++ [cy]) := Lib.hid (by
               have h9 := HMBJ.out
               rw [decide_eq_true rfl] at h9
               rw [cycT_yes h9.symm, HCY.out])
             go_wp2_with (first | (at_builtin; refine wpList_ssM wr.heap.size _ rfl (.tmp 19) (.tmp 21) rfl w1.heap.size wr.heap.size w3.heap.size r (.slice A3 C c3) (cycT (exOf xs) n j) cy rfl rfl ((HSS.out.nw HK3.out).nw (Kp.al _ _)) (by have := HK3.out.size; simp; omega) (Nat.le_refl _) (HS3.out.below (Kp.al _ _).below') ((cell_of_row _ _ 0 _ _ _ (heap_alloc_new w3 _)).trans rfl) (by have := cycT_len (exOf xs) n j; omega) HK.out.size ?_))
             intro v5 w5 hs5 hk5
             have HS5 : Hid (SS w5 w1.heap.size w5.heap.size v5 (cycT (exOf xs) n (j + 1))) := Lib.hid (by rw [HY.out]; exact hs5)
             have HK5 := Lib.hid (((HK.out.nw HK3.out).nw (.al w3 (.cells #[.slice A3 C c3] 22))).after hk5 (fun g hg h => by have := (HSS.out.own g h).1; omega))
             clear hs5 hk5
             go_wp2
             go_roundw
             case rel => exact ⟨j + 1, v5, _, by omega, rfl, by go_num, rfl, HS5.out, HK5.out⟩
             case measure => simp [intOf] <;> omega
           · have HY : Hid (cycT (exOf xs) n (j + 1) = cycT (exOf xs) n j) := Lib.hid (by
               have h9 := HMBJ.out
               rw [decide_eq_false hmj] at h9
               rw [cycT_no h9.symm])
             have HS5 : Hid (SS w3 w1.heap.size w3.heap.size r (cycT (exOf xs) n (j + 1))) := Lib.hid (by rw [HY.out]; exact (HSS.out.nw HK3.out).from (Nat.le_refl _) HK3.out.size)
             have HK5 := Lib.hid (HK.out.nw HK3.out)
             go_wp2
             go_roundw
             case rel => exact ⟨j + 1, r, _, by omega, rfl, by go_num, rfl, HS5.out, HK5.out⟩
             case measure => simp [intOf] <;> omega)
        | fail)
    · have ej : j = n := by omega
      subst ej
      have t1 : ¬ (j : Int) < j := by omega
      have HF : Hid (SS wr W.heap.size wr.heap.size r (cycL xs)) := Lib.hid (by rw [HCL.out]; exact HSS.out.from HK1.out.size (Nat.le_refl _))
      have HKF := Lib.hid (HK1.out.nw HK.out)
      go_wp2
      go_ret
      exact ⟨r, rfl, HF.out, HKF.out⟩

set_option maxRecDepth 100000 in
set_option maxHeartbeats 3200000 in
theorem iCyclesOfOrder_any (g n B : Nat) (xs : List Int) (W : World) (hl : n ≤ 1048576) (hs : SlAt W B g n n xs) : Calls Try.prog 8 #[.slice (some ⟨g, 0, none⟩) n n] W (ListSB W (vCycles xs).1 (vCycles xs).2) := by
  have hlen := hs.1
  have HS := Lib.hid hs
  clear hs
  unfold vCycles
  cases hb : ordB xs
  · have HB := Lib.hid hb
    rw [if_neg (by simp)]
    clear hb hlen
    go_enter Try.func8, Try.ntmps8
    go_wp2_with fail
    refine (iIsOrder_any g n B xs W hl HS.out).mono ?_
    rw [HB.out]
    rintro e w1 ⟨rfl, hk1⟩
    have HK1 := Lib.hid hk1
    clear hk1
    go_wp2
    go_ret2
    exact ⟨_, rfl, SS.nil _ _ _, HK1.out⟩
  · have HB := Lib.hid hb
    have hp := ordB_parts hb
    rw [if_pos rfl]
    have n2 : n ≤ 12 := by omega
    have HLX := Lib.hid hlen
    clear hb hlen hp
    go_enter Try.func8, Try.ntmps8
    go_wp2_with fail
    refine (iIsOrder_any g n B xs W hl HS.out).mono ?_
    rw [HB.out]
    rintro e w1 ⟨rfl, hk1⟩
    have HK1 := Lib.hid hk1
    clear hk1
    go_wp2_with fail
    refine (exchangeOf_any _ n n xs w1 (HS.out.sl.rd.nw' HK1.out) HLX.out n2).mono ?_
    rintro e w2 ⟨rfl, hk2⟩
    have HK2 := Lib.hid (HK1.out.nw hk2)
    clear hk2
    go_wp2_with fail
    refine (cycles_any xs n w2 HLX.out HB.out).mono ?_
    rintro e w3 ⟨v, rfl, hv, hk3⟩
    have HV := Lib.hid (hv.from HK2.out.size (Nat.le_refl _))
    have HK3 := Lib.hid (HK2.out.nw hk3)
    clear hv hk3
    go_wp2
    go_ret2
    exact ⟨v, rfl, HV.out, HK3.out⟩

set_option maxRecDepth 100000 in
set_option maxHeartbeats 3200000 in
theorem iSignOfOrder_any (g n B : Nat) (xs : List Int) (W : World) (hl : n ≤ 1048576) (hs : SlAt W B g n n xs) : Calls Try.prog 15 #[.slice (some ⟨g, 0, none⟩) n n] W (IntB W (vSign xs).1 (vSign xs).2) := by
  have hlen := hs.1
  have HS := Lib.hid hs
  clear hs
  unfold vSign
  cases hb : ordB xs
  · have HB := Lib.hid hb
    rw [if_neg (by simp)]
    clear hb hlen
    go_enter Try.func15, Try.ntmps15
    go_wp2_with fail
    refine (iIsOrder_any g n B xs W hl HS.out).mono ?_
    rw [HB.out]
    rintro e w1 ⟨rfl, hk1⟩
    have HK1 := Lib.hid hk1
    clear hk1
    go_wp2
    go_ret2
    exact ⟨rfl, HK1.out⟩
  · have HB := Lib.hid hb
    have hp := ordB_parts hb
    rw [if_pos rfl]
    have n2 : n ≤ 12 := by omega
    have HLX := Lib.hid hlen
    obtain ⟨m, hm⟩ : ∃ m, (cycL xs).length = m := ⟨_, rfl⟩
    have hmn : m ≤ n := by
      rw [← hm, ← hlen]
      exact (cycs_len xs xs.length).2.1
    have HM := Lib.hid hm
    rw [hlen, hm]
    obtain ⟨d, hd⟩ : ∃ d, n - m = d := ⟨_, rfl⟩
    rw [hd]
    have wd : IntKind.i64.wrap ((n : Int) - (m : Int)) = (d : Int) := by rw [IntWalk.i64_in _ (by omega)]; omega
    have wt : (d : Int).tmod 2 = ((d % 2 : Nat) : Int) := by rw [Int.tmod_eq_emod_of_nonneg (by omega)]; simp
    obtain ⟨z, hz⟩ : ∃ z, d % 2 = z := ⟨_, rfl⟩
    rw [hz] at wt ⊢
    have hz2 : z < 2 := by omega
    have wz : IntKind.i64.wrap (z : Int) = (z : Int) := IntWalk.i64_in _ (by omega)
    have wz2 : IntKind.i64.wrap (2 * (z : Int)) = 2 * (z : Int) := IntWalk.i64_in _ (by omega)
    have wz3 : IntKind.i64.wrap (1 - 2 * (z : Int)) = 1 - 2 * (z : Int) := IntWalk.i64_in _ (by omega)
    have HV : Hid ((if z = 0 then (1 : Int) else -1) = 1 - 2 * (z : Int)) := Lib.hid (by split <;> omega)
    rw [HV.out]
    clear hb hlen hp hm hd hz hmn
    go_enter Try.func15, Try.ntmps15
    go_wp2_with fail
    refine (iIsOrder_any g n B xs W hl HS.out).mono ?_
    rw [HB.out]
    rintro e w1 ⟨rfl, hk1⟩
    have HK1 := Lib.hid hk1
    clear hk1
    go_wp2_with fail
    refine (exchangeOf_any _ n n xs w1 (HS.out.sl.rd.nw' HK1.out) HLX.out n2).mono ?_
    rintro e w2 ⟨rfl, hk2⟩
    have HK2 := Lib.hid (HK1.out.nw hk2)
    clear hk2
    go_wp2_with fail
    refine (cycles_any xs n w2 HLX.out HB.out).mono ?_
    rintro e w3 ⟨v, rfl, hv, hk3⟩
    obtain ⟨A, c, rfl⟩ := hv.val HM.out
    have HK3 := Lib.hid (HK2.out.nw hk3)
    clear hv hk3
    go_wp2
    go_ret2
    exact ⟨rfl, HK3.out⟩

theorem iCountOrders_any (p : Int) (W : World) : Calls Try.prog 17 #[.int .i64 p] W (IntB W (vPeriodOfSteps p).1 (vPeriodOfSteps p).2) := by
  unfold vPeriodOfSteps
  by_cases hp : 1 ≤ p ∧ p ≤ 12
  · rw [if_pos hp]
    obtain ⟨k, rfl⟩ : ∃ k : Nat, p = k := ⟨p.toNat, by omega⟩
    rw [Int.toNat_natCast]
    obtain ⟨p0, p1⟩ := hp
    obtain ⟨R, hR⟩ : ∃ R, perT k = R := ⟨_, rfl⟩
    rw [hR]
    have HR := Lib.hid hR
    clear hR
    go_enter Try.func17, Try.ntmps17
    go_wp2_with (first | ((with_reducible refine (isOrdered_yes (k : Int) _ p0 p1).mono ?_); rintro e w' ⟨rfl, rfl⟩))
    refine (periodOf_any k W (by omega) (by omega)).mono ?_
    rw [HR.out]
    rintro e w1 ⟨rfl, hk1⟩
    have HK := Lib.hid hk1
    clear hk1
    go_wp2
    go_ret2
    exact ⟨rfl, HK.out⟩
  · rw [if_neg hp]
    have h : p < 1 ∨ 12 < p := by omega
    clear hp
    go_enter Try.func17, Try.ntmps17
    go_wp2_with (first | ((with_reducible refine (isOrdered_no p _ h).mono ?_); rintro e w' ⟨rfl, rfl⟩))
    go_ret2
    exact ⟨rfl, Kp.refl _ _⟩
end Go.Proofs.Ytgbmoipkgnklfad
