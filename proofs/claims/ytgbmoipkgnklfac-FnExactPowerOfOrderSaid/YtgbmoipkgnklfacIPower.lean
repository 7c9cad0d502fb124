/- How often an order has to be joined until everybody is at the turn, in the program; no condition but on lengths. -/
import Derived.Test.YtgbmoipkgnklfacIOrd
import Derived.Test.YtgbmoipkgnklfacIJoin
namespace Go.Proofs.Ytgbmoipkgnklfac
open Go.ChangeShapes Go.WideShapes Go.ChangeAt Go.RowKit

/-- an order joined so often -/
def pwL (xs : List Int) (n t : Nat) : List Int := (List.range n).map fun i => (itp (exOf xs) t i : Int)
theorem pwL_len (xs : List Int) (n t : Nat) : (pwL xs n t).length = n := by simp [pwL]
theorem pwL_get (xs : List Int) (n t j : Nat) (h : j < n) : (pwL xs n t).getD j 0 = (itp (exOf xs) t j : Int) := by simp [pwL, h]
theorem pwL_one {xs : List Int} (n : Nat) (hn : xs.length = n) (hb : ordB xs = true) : pwL xs n 1 = xs := by
  apply List.ext_getElem (by rw [pwL_len, hn])
  intro i h1 h2
  have h9 := ordB_get hb i h2
  have e : xs.getD i 0 = xs[i] := by simp [List.getD, h2]
  rw [e] at h9
  simp only [pwL, List.getElem_map, List.getElem_range, itp, exOf]
  rw [e]
  omega
theorem ordB_exch {xs : List Int} (n : Nat) (hn : xs.length = n) (hb : ordB xs = true) : Exch (exOf xs) n := by
  obtain ⟨_, _, h3, h4⟩ := ordB_parts hb
  refine exch_of xs n hn (fun x hx => ?_) h4
  have := List.all_eq_true.1 h3 x hx
  unfold okR at this
  rw [decide_eq_true_eq] at this
  omega
theorem pwL_next {xs : List Int} (n t : Nat) (hn : xs.length = n) (hb : ordB xs = true) : joinL xs (pwL xs n t) = pwL xs n (t + 1) := by
  have hE := ordB_exch n hn hb
  apply List.ext_getElem (by rw [joinL_len, pwL_len, pwL_len])
  intro i h1 h2
  have hi : i < n := by rw [pwL_len] at h2; exact h2
  have hlt := itp_lt hE t i hi
  have h9 := ordB_get hb (itp (exOf xs) t i) (by omega)
  simp only [joinL, pwL, List.getElem_map, List.getElem_range, itp, exOf, Int.toNat_natCast]
  omega
theorem pwL_all {xs : List Int} (n t : Nat) (hn : xs.length = n) (n2 : n ≤ 12) (hb : ordB xs = true) : decide (exOn (pwL xs n t) = marks 0 12) = decide (lcmT (exOf xs) n n ∣ t) := by
  have hE := ordB_exch n hn hb
  apply decide_eq_decide.2
  rw [← lcmT_least hE t n (Nat.le_refl _)]
  constructor
  · intro e i hi
    have h1 := exOn_low (pwL xs n t) i (by rw [pwL_len]; exact hi)
    rw [e, marks_getD 0 12 i (by omega), pwL_get xs n t i hi] at h1
    omega
  · intro h
    have e : pwL xs n t = marks 0 n := by
      apply List.ext_getElem (by rw [pwL_len, marks_length])
      intro i h1 h2
      have hi : i < n := by rw [pwL_len] at h1; exact h1
      simp only [pwL, marks, List.getElem_map, List.getElem_range]
      rw [h i hi]
      omega
    rw [e, exOn_marks n n2]

set_option maxRecDepth 1000000 in
set_option maxHeartbeats 6400000 in
theorem iPowerOfOrder_yes (g n B : Nat) (xs : List Int) (W : World) (hl : n ≤ 1048576) (hs : SlAt W B g n n xs) (hb : ordB xs = true) : Calls Try.prog 15 #[.slice (some ⟨g, 0, none⟩) n n] W (IntB W (powT (cycL xs) (cycL xs).length : Nat) true) := by
  have hlen := hs.1
  have hp := ordB_parts hb
  have n1 : 1 ≤ n := by omega
  have n2 : n ≤ 12 := by omega
  have hE := ordB_exch n hlen hb
  obtain ⟨L, hL⟩ : ∃ L, lcmT (exOf xs) n n = L := ⟨_, rfl⟩
  have hL1 : 1 ≤ L := by rw [← hL]; exact lcmT_pos _ _ _
  have hLb : L ≤ 9000000000000 := by
    have hc := cycs_len xs xs.length
    have hbd : ∀ j, j < (cycL xs).length → 1 ≤ ((cycL xs).getD j []).length ∧ ((cycL xs).getD j []).length ≤ 12 := by
      intro j hj
      have e : (cycL xs).getD j [] = (cycL xs)[j] := by simp [List.getD, hj]
      rw [e]
      have := hc.2.2 _ (List.getElem_mem hj)
      omega
    have h1 := (powT_bd (cycL xs) hbd (cycL xs).length (Nat.le_refl _)).2
    rw [powT_is xs n hlen hE, hL] at h1
    have h2 : (12 : Nat) ^ (cycL xs).length ≤ 12 ^ 12 := Nat.pow_le_pow_right (by decide) (by have := hc.2.1; unfold cycL; omega)
    have h3 : (12 : Nat) ^ 12 = 8916100448256 := by decide
    omega
  rw [powT_is xs n hlen hE, hL]
  have HS := Lib.hid hs
  have HB := Lib.hid hb
  have HLX := Lib.hid hlen
  have HALL : Hid (∀ t, decide (exOn (pwL xs n t) = marks 0 12) = decide (L ∣ t)) := Lib.hid (fun t => by rw [pwL_all n t hlen n2 hb, hL])
  have HONE := Lib.hid (pwL_one n hlen hb)
  have HNEXT := Lib.hid (fun t => pwL_next n t hlen hb)
  have HBD : Hid (∀ t j, j < n → 0 ≤ (pwL xs n t).getD j 0 ∧ (pwL xs n t).getD j 0 < (n : Int)) := Lib.hid (fun t j hj => by
    rw [pwL_get xs n t j hj]
    have := itp_lt hE t j hj
    omega)
  have HPL : Hid (∀ t, (exOn (pwL xs n t)).length = 12) := Lib.hid (fun t => exOn_len _ (by rw [pwL_len]; exact n2))
  obtain ⟨hz0, _⟩ := zero_of_info exZero
  obtain ⟨Z, hZ⟩ : ∃ Z : List Int, Z = List.replicate 12 0 := ⟨_, rfl⟩
  have hZl : Z.length = 12 := by rw [hZ, List.length_replicate]
  have hz : ∀ w, (zeroValue 35).run Try.prog w = .ok (.agg (exC Z).toArray) w := by rw [hZ]; exact hz0
  have hl1 : (exC Z).length = 12 := by rw [exC_length, hZl]
  have HZL := Lib.hid hZl
  have hgd := exEqGuard
  have hAR := exArr
  clear hz0 hZ hZl hs hb hlen hp hE hL
  go_enter Try.func15, Try.ntmps15
  go_wp2_with fail
  refine (iIsOrder_any g n B xs W hl HS.out).mono ?_
  rw [HB.out]
  rintro e w1 ⟨rfl, hk1⟩
  have HK1 := Lib.hid hk1
  clear hk1
  go_wp2_with fail
  refine (joiner_any (n : Int) w1).mono ?_
  rintro e w2 ⟨gj, rfl, hc2, hz2, hz3, hk2⟩
  have HK2 := Lib.hid (HK1.out.nw hk2)
  have HC2 := Lib.hid hc2
  have HGL : Hid (gj < w2.heap.size) := Lib.hid hz3
  clear hc2 hz2 hz3 hk2
  go_wp2_with fail
  refine (exchangeOf_any _ n n xs w2 (HS.out.sl.rd.nw' HK2.out) HLX.out n2).mono ?_
  rintro e w3 ⟨rfl, hk3⟩
  obtain ⟨E, hEE⟩ : ∃ E, exOn xs = E := ⟨_, rfl⟩
  rw [hEE]
  have hEl : E.length = 12 := by have := HPL.out 1; rw [HONE.out, hEE] at this; exact this
  have b3 := Eb.new w3 Z
  have hst := run_storeCells_ex b3 HZL.out hEl
  have hl2 : (exC E).length = 12 := by rw [exC_length, hEl]
  obtain ⟨w4, hw4⟩ : ∃ w4, w4 = (w3.alloc (.cells (exC Z).toArray 35)).setRow w3.heap.size (exC E).toArray := ⟨_, rfl⟩
  have hz23 : w2.heap.size ≤ w3.heap.size := hk3.size
  have HB4 : Hid (Eb w4 w3.heap.size (exOn (pwL xs n 1))) := Lib.hid (by rw [hw4, HONE.out, hEE]; exact b3.row E)
  have HKJ : Hid (Kp Nw w2 w4) := Lib.hid (by rw [hw4]; exact (hk3.nw (.al _ (.cells (exC Z).toArray 35))).setRow' (.inr hz23) (exC E).toArray)
  clear b3 hk3
  go_wp2
  rw [← hw4]
  clear hst hw4 hEE hEl hl2
  go_loopw [5, 6] (fun u p wq => ∃ (t b : Nat) (wr : World), 1 ≤ t ∧ t ≤ L ∧ (∀ s, 1 ≤ s → s < t → ¬ L ∣ s) ∧ u = .int .i64 t ∧ p = .pointer (some ⟨b, 0, none⟩) ∧ wr = wq ∧ Eb wr b (exOn (pwL xs n t)) ∧ w2.heap.size ≤ b ∧ Kp Nw w2 wr) (fun u _ _ => L - (intOf u).toNat)
  case atStart => exact ⟨1, _, _, Nat.le_refl _, hL1, fun s h1 h2 => by omega, rfl, rfl, rfl, HB4.out, hz23, HKJ.out⟩
  case round =>
    obtain ⟨t, b, wr, t1, tL, hno, rfl, rfl, rfl, hbt, hbz, hk⟩ := hrel
    have HBT := Lib.hid hbt
    have HK := Lib.hid hk
    have HNO := Lib.hid hno
    have HTL := Lib.hid tL
    have t0 : (0 : Int) ≤ t := Int.natCast_nonneg _
    have wt : IntKind.i64.wrap ((t : Int) + 1) = (t : Int) + 1 := IntWalk.i64_in _ (by omega)
    obtain ⟨F, hF⟩ : ∃ F, exOn (pwL xs n t) = F := ⟨_, rfl⟩
    have hFl : F.length = 12 := by rw [← hF]; exact HPL.out t
    have hd := HALL.out t
    rw [hF] at HBT hd
    have HFF := Lib.hid hF
    have HFL := Lib.hid hFl
    obtain ⟨q, hq⟩ : ∃ q, decide (L ∣ t) = q := ⟨_, rfl⟩
    rw [hq] at hd
    have heq : ∀ w, (binOp .neq 35 (.agg (exC F).toArray) (.agg (exC (marks 0 12)).toArray)).run Try.prog w = .ok (.bool (!q)) w := fun w => by
      rw [run_neq_ex F (marks 0 12) w HFL.out (marks_length 0 12), hd]
    have hSC := exSizeC F hFl
    have HQ := Lib.hid hq
    clear hF hFl hd hbt hk hno hq tL
    go_wp2_with fail
    go_region_held3 (fun w' => Kp Nw wr w' ∧ w'.rangeAt b 0 (exC F))
      (first
        | exact ⟨(Kp.refl _ _).drew, HBT.out.range⟩
        | exact ⟨hkW4, (HBT.out.nw hkW4).range⟩
        | fail)
      (first
        | (go_at_call 26
           refine (everybodyAtTurn_any _).mono ?_
           rintro e w5 ⟨rfl, hk5⟩
           have hkW4 := (‹Kp Nw wr _ ∧ _›.1).nw hk5)
        | fail)
    have HBT5 := Lib.hid (HBT.out.nw hkW4)
    have HK5 := Lib.hid (HK.out.nw hkW4)
    clear hkW4 hk5
    cases q
    · have HND : Hid (¬ L ∣ t) := Lib.hid (of_decide_eq_false HQ.out)
      have htl : t < L := by
        have h1 := HTL.out
        have h2 : t ≠ L := fun e => HND.out (by rw [e]; exact Nat.dvd_refl _)
        omega
      clear hSC heq
      go_wp2_with (first
        | (refine wpList_load_ex rfl (.tmp 6) rfl b rfl F HBT5.out HFL.out ?_)
        | (go_at_call 20; refine (list_any F n _ n2).mono ?_; rintro e w6 ⟨b6, rfl, hb6, hz6, hk6⟩))
      have HR6 := Lib.hid (Eb.rd (xs := pwL xs n t) hb6 n n (pwL_len xs n t) (by rw [HFL.out]; exact n2) (fun j hj => by rw [← HFF.out, exOn_low _ j (by rw [pwL_len]; exact hj)]))
      have HBT6 := Lib.hid (HBT5.out.nw hk6)
      have HK6 := Lib.hid (HK5.out.nw hk6)
      have HPN := Lib.hid (HNEXT.out t)
      clear hb6 hz6 hk6
      go_wp2_with (first
        | (go_at_call 32
           refine (joiner1_any gj w6.heap.size n (some ⟨g, 0, none⟩) (some ⟨b6, 0, none⟩) n n xs (pwL xs n t) _ (keepc (HK6.out.nw (.al w6 _)) HC2.out (fun h => h)) ((cell_of_row _ _ 0 _ _ _ (heap_alloc_new w6 _)).trans rfl) ((cell_of_row _ _ 1 _ _ _ (heap_alloc_new w6 _)).trans rfl) n1 n2 (HS.out.sl.rd.nw' (HK2.out.nw (HK6.out.nw (.al w6 _)))) HLX.out (HR6.out.nw' (.al w6 _)) (pwL_len xs n t) (HBD.out t)).mono ?_
           rw [HPN.out]
           rintro e w7 ⟨rfl, hk7⟩
           obtain ⟨G, hG⟩ : ∃ G, exOn (pwL xs n (t + 1)) = G := ⟨_, rfl⟩
           rw [hG]
           have hGl : G.length = 12 := by rw [← hG]; exact HPL.out (t + 1)
           have hb7 := (HBT6.out.nw (.al w6 (.cells #[.slice (some ⟨g, 0, none⟩) n n, .slice (some ⟨b6, 0, none⟩) n n] 22))).nw hk7
           have hst := run_storeCells_ex hb7 HFL.out hGl
           have hl3 : (exC G).length = 12 := by rw [exC_length, hGl]
           have HB8 := Lib.hid (hb7.row G)
           have hK8 := (HK6.out.nw (.al w6 (.cells #[.slice (some ⟨g, 0, none⟩) n n, .slice (some ⟨b6, 0, none⟩) n n] 22))).nw hk7
           have HK8 := Lib.hid (hK8.setRow' (.inr hbz) (exC G).toArray)
           have HGG := Lib.hid hG
           have HGL2 := Lib.hid hGl
           obtain ⟨w8, hw8⟩ : ∃ w8, w8 = w7.setRow b (exC G).toArray := ⟨_, rfl⟩
           rw [← hw8] at hst HB8 HK8
           have b9 := Eb.new w8 Z
           have hst9 := run_storeCells_ex b9 HZL.out hGl
           have HB9 := Lib.hid (b9.row G)
           have HZ8 : Hid (w2.heap.size ≤ w8.heap.size) := Lib.hid HK8.out.size
           have HK9 := Lib.hid ((HK8.out.nw (.al w8 (.cells (exC Z).toArray 35))).setRow' (.inr HZ8.out) (exC G).toArray)
           clear hb7 hK8 hk7 b9 hG hGl hw8)
        | (refine wpList_load_ex rfl (.tmp 6) rfl b rfl G HB8.out HGL2.out ?_))
      go_roundw
      case rel => exact ⟨t + 1, _, _, by omega, by omega, fun s h1 h2 => by
          by_cases e : s = t
          · rw [e]; exact HND.out
          · exact HNO.out s h1 (by omega), by go_num, rfl, rfl, by rw [HGG.out]; exact HB9.out, HZ8.out, HK9.out⟩
      case measure => simp [intOf] <;> omega
    · have HD : Hid (L ∣ t) := Lib.hid (of_decide_eq_true HQ.out)
      have etl : t = L := by
        have h1 := HTL.out
        have h2 := Nat.le_of_dvd (by omega) HD.out
        omega
      subst etl
      have HF := Lib.hid (HK2.out.nw HK5.out)
      clear hSC heq
      go_wp2
      go_ret2
      exact ⟨rfl, HF.out⟩
theorem iPowerOfOrder_any (g n B : Nat) (xs : List Int) (W : World) (hl : n ≤ 1048576) (hs : SlAt W B g n n xs) : Calls Try.prog 15 #[.slice (some ⟨g, 0, none⟩) n n] W (IntB W (vPower xs).1 (vPower xs).2) := by
  unfold vPower
  cases hb : ordB xs
  · have HB := Lib.hid hb
    have HS := Lib.hid hs
    rw [if_neg (by simp)]
    clear hb hs
    go_enter Try.func15, Try.ntmps15
    go_wp2_with fail
    refine (iIsOrder_any g n B xs W hl HS.out).mono ?_
    rw [HB.out]
    rintro e w1 ⟨rfl, hk1⟩
    have HK1 := Lib.hid hk1
    clear hk1
    go_wp2
    go_ret2
    exact ⟨rfl, HK1.out⟩
  · rw [if_pos rfl]
    exact iPowerOfOrder_yes g n B xs W hl hs hb
end Go.Proofs.Ytgbmoipkgnklfac
