/- Parts of an exchange with their room told, and the function that joins two orders, in the program; no condition but at most twelve numbers. -/
import Derived.Test.YtgbmoipkgnklfacExE
import Derived.Test.YtgbmoipkgnklfacIm7
namespace Go.Proofs.Ytgbmoipkgnklfac
open Go.ChangeShapes Go.WideShapes Go.ChangeAt Go.RowKit

theorem ecut_room (b n : Nat) (h : n ≤ 12) (w : World) :
    (Instr.sliceAt 35 (.pointer (some ⟨b, 0, none⟩)) none (some (.int .i64 (n : Int))) (some (.int .i64 (n : Int)))).run Try.prog w = .ok (.slice (some ⟨b, 0, none⟩) n n) w := by
  rw [run_sliceAt_array_hm _ _ _ exArr _ _ _ _ (by omega) (by omega) (by rw [exLen]; omega), exElem]
  simp [slicedAt, Result.andThen, addr_add]
set_option maxRecDepth 100000 in
theorem list_any (c : List Int) (n : Nat) (W : World) (hn : n ≤ 12) :
    Calls Try.prog 20 #[.agg (exC c).toArray, .int .i64 n] W fun e w' => ∃ b, e = .returned (.slice (some ⟨b, 0, none⟩) n n) ∧ Eb w' b c ∧ W.heap.size ≤ b ∧ Kp Nw W w' := by
  have r1 := ecut_room W.heap.size n hn
  have n0 : (0 : Int) ≤ n := Int.natCast_nonneg _
  go_enter Try.func20, Try.ntmps20
  go_wp2
  go_ret
  exact ⟨W.heap.size, rfl, Eb.new W c, Nat.le_refl _, Kp.al _ _⟩
/-- the part of an exchange reads as the first of its numbers -/
theorem Eb.rd {w : World} {b : Nat} {c xs : List Int} (h : Eb w b c) (n cap : Nat) (hx : xs.length = n) (hc : n ≤ c.length) (he : ∀ j, j < n → c.getD j 0 = xs.getD j 0) : Rd w (.slice (some ⟨b, 0, none⟩) n cap) xs := by
  subst hx
  exact ⟨_, cap, rfl, fun k hk => ⟨b, 0, rfl, by rw [Nat.zero_add, ← he k hk]; exact h.cell k (by omega)⟩⟩

set_option maxRecDepth 100000 in
theorem joiner_any (p : Int) (W : World) : Calls Try.prog 19 #[.int .i64 p] W fun e w' =>
    ∃ g, e = .returned (.func (.func 32) #[] #[.pointer (some ⟨g, 0, none⟩)]) ∧ w'.cell? ⟨g, 0, none⟩ = some (.int .i64 p) ∧ W.heap.size ≤ g ∧ g < w'.heap.size ∧ Kp Nw W w' := by
  have hmf : ∀ (fn : Fn) (first cap : Array Value) (w : World), (Instr.makeFunc fn first cap).run Try.prog w = .ok (.func fn first cap) w := fun _ _ _ _ => rfl
  go_enter Try.func19, Try.ntmps19
  go_wp2
  go_ret
  exact ⟨W.heap.size, rfl, (cell_of_row _ _ 0 _ _ _ (heap_alloc_new W _)).trans rfl, Nat.le_refl _, by simp, Kp.al _ _⟩

/-- the numbers behind the first j of a round -/
def jstp (zs ss : List Int) (j : Nat) : List Int := joinL zs (ss.take j) ++ ss.drop j
theorem jstp_zero (zs ss : List Int) : jstp zs ss 0 = ss := rfl
theorem jstp_len (zs ss : List Int) (j : Nat) (h : j ≤ ss.length) : (jstp zs ss j).length = ss.length := by unfold jstp; rw [List.length_append, joinL_len, List.length_take, List.length_drop]; omega
theorem jstp_all (zs ss : List Int) (n : Nat) (h : ss.length = n) : jstp zs ss n = joinL zs ss := by
  unfold jstp; rw [List.take_of_length_le (by omega), List.drop_of_length_le (by omega), List.append_nil]
theorem jstp_set (zs ss : List Int) (j : Nat) (h : j < ss.length) : (exOn (jstp zs ss j)).set j (zs.getD (ss.getD j 0).toNat 0) = exOn (jstp zs ss (j + 1)) := by
  have hl := jstp_len zs ss j (by omega)
  have hl2 := jstp_len zs ss (j + 1) (by omega)
  unfold exOn
  rw [hl, hl2, List.set_append_left _ _ (by omega)]
  congr 1
  unfold jstp
  rw [joinL_take zs ss j h, List.drop_eq_getElem_cons h, List.set_append_right _ _ (by rw [joinL_len, List.length_take]; omega), joinL_len, List.length_take, Nat.min_eq_left (by omega), Nat.sub_self, List.set_cons_zero, List.append_assoc]
  rfl
/-- the orders joined behind so many rounds: the last one first -/
def jrn (xs ys : List Int) (n : Nat) : Nat → List Int
  | 0 => marks 0 n
  | 1 => ys
  | _ => joinL xs ys
theorem joinL_marks (ys : List Int) (n : Nat) (h : ys.length = n) : joinL ys (marks 0 n) = ys := by
  apply List.ext_getElem (by rw [joinL_len, marks_length, h])
  intro i h1 h2
  have hi : i < n := by rw [joinL_len, marks_length] at h1; exact h1
  unfold joinL marks
  simp [List.getD, h2]
theorem exOn_marks (n : Nat) (h : n ≤ 12) : exOn (marks 0 n) = marks 0 12 := by
  unfold exOn
  rw [marks_length]
  have e : marks 0 n = (marks 0 12).take n := by unfold marks; rw [← List.map_take, List.take_range, Nat.min_eq_left h]
  rw [e, List.take_append_drop]

set_option maxRecDepth 1000000 in
set_option maxHeartbeats 6400000 in
theorem joiner1_any (g h n : Nat) (A1 A2 : Option Addr) (c1 c2 : Nat) (xs ys : List Int) (W : World) (hg : W.cell? ⟨g, 0, none⟩ = some (.int .i64 n))
    (h0 : W.cell? ⟨h, 0, none⟩ = some (.slice A1 n c1)) (h1 : W.cell? ⟨h, 1, none⟩ = some (.slice A2 n c2)) (n1 : 1 ≤ n) (hn : n ≤ 12)
    (hx : Rd W (.slice A1 n c1) xs) (hxl : xs.length = n) (hy : Rd W (.slice A2 n c2) ys) (hyl : ys.length = n) (hb : ∀ j, j < n → 0 ≤ ys.getD j 0 ∧ ys.getD j 0 < (n : Int)) :
    Calls Try.prog 32 #[.slice (some ⟨h, 0, none⟩) 2 2, .pointer (some ⟨g, 0, none⟩)] W fun e w' => e = .returned (.agg (exC (exOn (joinL xs ys))).toArray) ∧ Kp Nw W w' := by
  obtain ⟨hz0, _⟩ := zero_of_info exZero
  obtain ⟨Z, hZ⟩ : ∃ Z : List Int, Z = List.replicate 12 0 := ⟨_, rfl⟩
  have hZl : Z.length = 12 := by rw [hZ, List.length_replicate]
  have hz : ∀ w, (zeroValue 35).run Try.prog w = .ok (.agg (exC Z).toArray) w := by rw [hZ]; exact hz0
  have hl1 : (exC Z).length = 12 := by rw [exC_length, hZl]
  obtain ⟨M, hM⟩ : ∃ M : List Int, M = marks 0 12 := ⟨_, rfl⟩
  have hMl : M.length = 12 := by rw [hM, marks_length]
  have hl2 : (exC M).length = 12 := by rw [exC_length, hMl]
  have HZL := Lib.hid hZl
  have HML := Lib.hid hMl
  have HM := Lib.hid hM
  have HG := Lib.hid hg
  have H0 := Lib.hid h0
  have H1 := Lib.hid h1
  have HX := Lib.hid hx
  have HXL := Lib.hid hxl
  have HY := Lib.hid hy
  have HYL := Lib.hid hyl
  have HB := Lib.hid hb
  have n0 : (0 : Int) ≤ n := Int.natCast_nonneg _
  have HRND : Hid (∀ r : Nat, r < 2 → ∃ (i : Nat) (A' : Option Addr) (c' : Nat) (zs : List Int), (1 : Int) - r = (i : Int) ∧ i < 2 ∧ W.cell? ⟨h, i, none⟩ = some (.slice A' n c') ∧ Rd W (.slice A' n c') zs ∧ zs.length = n ∧ jrn xs ys n (r + 1) = joinL zs (jrn xs ys n r) ∧ (jrn xs ys n r).length = n ∧ ∀ j, j < n → 0 ≤ (jrn xs ys n r).getD j 0 ∧ (jrn xs ys n r).getD j 0 < (n : Int)) := Lib.hid (by
    intro r hr
    rcases (show r = 0 ∨ r = 1 by omega) with rfl | rfl
    · refine ⟨1, A2, c2, ys, by omega, by omega, h1, hy, hyl, (joinL_marks ys n hyl).symm, marks_length _ _, fun j hj => ?_⟩
      show 0 ≤ (marks 0 n).getD j 0 ∧ (marks 0 n).getD j 0 < (n : Int)
      rw [marks_getD 0 n j hj]; omega
    · exact ⟨0, A1, c1, xs, by omega, by omega, h0, hx, hxl, rfl, hyl, hb⟩)
  clear hz0 hZ hZl hMl hg h0 h1 hx hxl hy hyl hb
  go_enter Try.func32, Try.ntmps32
  go_wp2_with fail
  refine (everybodyAtTurn_any _).mono ?_
  rw [← hM]
  rintro e w1 ⟨rfl, hk1⟩
  clear hM
  have b0 := (Eb.new W Z).nw hk1
  have b1 := Eb.new w1 Z
  have hst := run_storeCells_ex b1 HZL.out HML.out
  have hz1 : W.heap.size + 1 ≤ w1.heap.size := by have := hk1.size; simp at this; omega
  obtain ⟨J, hJ⟩ : ∃ J, J = w1.heap.size := ⟨_, rfl⟩
  obtain ⟨R, hR⟩ : ∃ R, R = W.heap.size := ⟨_, rfl⟩
  obtain ⟨w2, hw2⟩ : ∃ w2, w2 = (w1.alloc (.cells (exC Z).toArray 35)).setRow w1.heap.size (exC M).toArray := ⟨_, rfl⟩
  have HK2 : Hid (Kp Nw W w2) := Lib.hid (by rw [hw2]; exact (((Kp.al W (.cells (exC Z).toArray 35)).nw hk1).nw (.al _ (.cells (exC Z).toArray 35))).setRow' (.inr (by omega : W.heap.size ≤ w1.heap.size)) (exC M).toArray)
  have B1 : Hid (Eb w2 J M) := Lib.hid (by rw [hw2, hJ]; exact b1.row M)
  have B0 : Hid (Eb w2 R Z) := Lib.hid (by rw [hw2, hR]; exact (setRow_other _ _ _ _ (by omega)).trans (b0.nw (.al _ _)))
  have hJR : R < J ∧ W.heap.size ≤ R := by omega
  have HJR := Lib.hid hJR
  clear b0 b1 hk1 hJR
  go_wp2
  rw [← hw2, ← hJ, ← hR]
  clear hw2 hst hJ hR
  go_loopw [5] (fun i wq => ∃ (r : Nat) (wr : World), r ≤ 2 ∧ i = .int .i64 (1 - (r : Int)) ∧ wr = wq ∧ Eb wr J (exOn (jrn xs ys n r)) ∧ Kp (fun b => b = J) w2 wr) (fun i _ => (intOf i + 1).toNat)
  case atStart => exact ⟨0, _, by omega, by go_num, rfl, by rw [show jrn xs ys n 0 = marks 0 n from rfl, exOn_marks n hn, ← HM.out]; exact B1.out, Kp.refl _ _⟩
  case round =>
    obtain ⟨r, wr, hr, rfl, rfl, hbJ, hk⟩ := hrel
    have HBJ := Lib.hid hbJ
    have HK := Lib.hid hk
    clear hbJ hk
    by_cases hlt : r < 2
    · obtain ⟨i, A', c', zs, hi, hi2, hc, hrd, hzl, hstep, hsl, hsb⟩ := HRND.out r hlt
      obtain ⟨ss, hss⟩ : ∃ ss, jrn xs ys n r = ss := ⟨_, rfl⟩
      rw [hss] at HBJ hstep hsl hsb
      have HSTEP := Lib.hid hstep
      have HSB := Lib.hid hsb
      have HSL := Lib.hid hsl
      have HZZ := Lib.hid hzl
      obtain ⟨A9, c9, hA9, hcell⟩ := hrd
      rw [hzl] at hA9 hcell
      injection hA9 with e1 _ e3
      subst e1
      subst e3
      obtain ⟨g', o', rfl, _⟩ := hcell 0 (by omega)
      have HCELL : Hid (∀ k, k < n → W.cell? ⟨g', o' + k, none⟩ = some (.int .i64 (zs.getD k 0))) := Lib.hid (fun k hk => by
        obtain ⟨g9, o9, e9, h9⟩ := hcell k hk
        injection e9 with e9
        injection e9 with e1 e2
        subst e1 e2
        exact h9)
      have HC := Lib.hid hc
      have hel : (exOn ss).length = 12 := exOn_len ss (by omega)
      have HEL := Lib.hid hel
      have i0 : (0 : Int) ≤ i := Int.natCast_nonneg _
      have i1 : (i : Int) < 2 := by omega
      rw [hi]
      have wi : IntKind.i64.wrap ((i : Int) - 1) = (i : Int) - 1 := IntWalk.i64_in _ (by omega)
      have HI := Lib.hid hi
      clear hss hstep hsb hsl hzl hcell hc hel hi
      have HKW : Hid (Kp Nw W wr) := Lib.hid (HK2.out.after HK.out (fun g hg e => by have h9 : g = J := e; have := HJR.out; omega))
      have cg := keepc HKW.out HG.out (fun h => h)
      go_wp2_with (first | (refine wpList_load_ex rfl (.tmp 4) rfl J rfl (exOn ss) HBJ.out HEL.out ?_) | (go_at_call 20; refine (list_any (exOn ss) n _ hn).mono ?_; rintro e w5 ⟨b5, rfl, hb5, hz5, hk5⟩))
      have HB5 := Lib.hid hb5
      have HZ5 := Lib.hid hz5
      have HBJ5 := Lib.hid (HBJ.out.nw hk5)
      have HK5 := Lib.hid (HK.out.nw hk5)
      have HKW5 := Lib.hid (HKW.out.nw hk5)
      have hJlt := HBJ.out.lt
      have HNE : Hid (b5 ≠ J) := Lib.hid (by have := HZ5.out; omega)
      clear hb5 hz5 hk5 cg
      go_wp2
      go_loopw [20] (fun q wq => ∃ (j : Nat) (wz : World), j ≤ n ∧ q = .int .i64 j ∧ wz = wq ∧ Eb wz J (exOn (jstp zs ss j)) ∧ Kp (fun b => b = J) w5 wz) (fun q _ => n - (intOf q).toNat)
      case atStart => exact ⟨0, _, Nat.zero_le _, rfl, rfl, HBJ5.out, Kp.refl _ _⟩
      case round =>
        obtain ⟨j, wz, hj, rfl, rfl, hbz, hkz⟩ := hrel
        have HBZ := Lib.hid hbz
        have HKZ := Lib.hid hkz
        have j0 : (0 : Int) ≤ j := Int.natCast_nonneg _
        clear hbz hkz
        by_cases hjn : j < n
        · have j1 : (j : Int) < n := by omega
          have j12 : (j : Int) < 12 := by omega
          obtain ⟨y0, y1⟩ := HSB.out j hjn
          obtain ⟨y, hy⟩ : ∃ y : Nat, ss.getD j 0 = (y : Int) := ⟨(ss.getD j 0).toNat, by omega⟩
          rw [hy] at y1
          have hyn : y < n := by omega
          have yp : (0 : Int) ≤ y := Int.natCast_nonneg _
          have hset := jstp_set zs ss j (by rw [HSL.out]; exact hjn)
          rw [hy, Int.toNat_natCast] at hset
          have cj := HB5.out.cell j (by rw [HEL.out]; omega)
          rw [exOn_low ss j (by rw [HSL.out]; exact hjn), hy] at cj
          have cj := (HKZ.out.cell (p := ⟨b5, j, none⟩) (World.block_lt_of_cell? _ _ cj) HNE.out).trans cj
          have HKWZ : Kp Nw W wz := HKW5.out.after HKZ.out (fun g hg e => by have h9 : g = J := e; have := HJR.out; omega)
          have ch := keepc HKWZ HC.out (fun h => h)
          obtain ⟨x, hxv⟩ : ∃ x, zs.getD y 0 = x := ⟨_, rfl⟩
          have cx := keepc HKWZ (HCELL.out y hyn) (fun h => h)
          rw [hxv] at cx hset
          have cs := HBZ.out.cell j (by rw [exOn_len _ (by rw [jstp_len zs ss j (by rw [HSL.out]; omega), HSL.out]; omega)]; omega)
          have fs := HBZ.out.frozen j
          have HSET := Lib.hid hset
          clear hset hy hxv HKWZ y0
          go_wp2
          go_roundw
          case rel => exact ⟨j + 1, _, by omega, by go_num, rfl, by rw [← HSET.out]; exact HBZ.out.set j x, HKZ.out.setCell (.inl rfl) _⟩
          case measure => simp [intOf] <;> omega
        · have ej : j = n := by omega
          subst ej
          have t1 : ¬ (j : Int) < j := by omega
          have hfin : Eb wz J (exOn (jrn xs ys j (r + 1))) := by
            have h9 := HBZ.out
            rw [jstp_all zs ss j HSL.out, ← HSTEP.out] at h9
            exact h9
          have HF := Lib.hid hfin
          have HKF := Lib.hid (HK5.out.trans HKZ.out)
          clear hfin
          go_wp2
          go_roundw
          case rel => exact ⟨r + 1, _, by omega, by have := HI.out; go_num, rfl, HF.out, HKF.out⟩
          case measure => simp [intOf] <;> omega
    · have er : r = 2 := by omega
      subst er
      have hfl : (exOn (joinL xs ys)).length = 12 := exOn_len _ (by rw [joinL_len, HYL.out]; omega)
      obtain ⟨F, hF⟩ : ∃ F, exOn (joinL xs ys) = F := ⟨_, rfl⟩
      have HBF : Hid (Eb wr J F) := Lib.hid (by rw [← hF]; exact HBJ.out)
      rw [hF] at hfl
      have HFE := Lib.hid hF
      have HFL := Lib.hid hfl
      have hl3 : (exC F).length = 12 := by rw [exC_length, hfl]
      have hr0 := B0.out.kp HK.out (fun e => by have h9 : R = J := e; have := HJR.out; omega)
      have hst2 := run_storeCells_ex hr0 HZL.out hfl
      have HR := Lib.hid (hr0.row F)
      have HKF := Lib.hid ((HK2.out.after HK.out (fun g hg e => by have h9 : g = J := e; have := HJR.out; omega)).setRow' (.inr (by have := HJR.out; omega : W.heap.size ≤ R)) (exC F).toArray)
      clear hF hfl hr0
      go_wp2_with (first | (refine wpList_load_ex rfl (.tmp 4) rfl J rfl F HBF.out HFL.out ?_))
      refine bodyPost_ret (ret_ex rfl rfl HR.out HFL.out) rfl ?_
      exact ⟨by rw [HFE.out], HKF.out⟩
end Go.Proofs.Ytgbmoipkgnklfac
