/- The order with remainders, in the program; no condition but on lengths. -/
import Derived.Test.YtpbbfpgjhmjjoacLaws7
import Derived.Test.YtpbbfpgjhmjjoacIm7
import Derived.Test.YtpbbfpgjhmjjoacExO
import Derived.Test.YtpbbfpgjhmjjoacGo0
import Derived.Test.YtpbbfpgjhmjjoacOrder
import Derived.Test.YtpbbfpgjhmjjoacOvr
namespace Go.Proofs.Ytpbbfpgjhmjjoac
open Go.ChangeShapes Go.WideShapes Go.ChangeAt Go.RowKit

theorem er_map0 {α β : Type} (f : α → β) : ∀ (l : List α) (k : Nat), (l.eraseIdx k).map f = (l.map f).eraseIdx k
  | [], k => by simp
  | x :: l, 0 => by simp
  | x :: l, k + 1 => by simp [er_map0 f l k]
def RemOk (us : List Int) (n : Nat) : Prop := (1 ≤ n ∧ n ≤ 12) ∧ ∀ j, j < n → okU us j = true
set_option maxRecDepth 100000 in
set_option maxHeartbeats 1600000 in
theorem areRemainders_any (g n B : Nat) (us : List Int) (W : World) (hl : n ≤ 1048576) (hs : SlAt W B g n n us) (b : Bool) (hb : b = true ↔ RemOk us n) :
    Calls Try.prog 19 #[.slice (some ⟨g, 0, none⟩) n n] W (BoolB W b) := by
  have HS := Lib.hid hs
  have HB := Lib.hid hb
  have HN := Lib.hid hs.1
  have n0 : (0 : Int) ≤ n := Int.natCast_nonneg _
  clear hs hb
  by_cases hn : (1 : Int) ≤ n ∧ (n : Int) ≤ 12
  · obtain ⟨n1, n2⟩ := hn
    go_enter Try.func19, Try.ntmps19
    go_wp2_with (first | ((with_reducible refine (isOrdered_yes (n : Int) _ n1 n2).mono ?_); rintro e w' ⟨rfl, rfl⟩))
    go_loop [11] (fun i => ∃ j : Nat, j ≤ n ∧ i = .int .i64 j ∧ ∀ u, u < j → okU us u = true) (fun i => n - (intOf i).toNat)
    case atStart => exact ⟨0, Nat.zero_le _, rfl, fun u hu => by omega⟩
    case round =>
      obtain ⟨j, hj, rfl, hok⟩ := hrel
      have HOK := Lib.hid hok
      have j0 : (0 : Int) ≤ j := Int.natCast_nonneg _
      clear hok
      by_cases hlt : j < n
      · have j1 : (j : Int) < n := by omega
        have cj := HS.out.cell j hlt
        obtain ⟨x, hx⟩ : ∃ x, us.getD j 0 = x := ⟨_, rfl⟩
        rw [hx] at cj
        have w1 : IntKind.i64.wrap ((n : Int) - (j : Int)) = (n : Int) - (j : Int) := IntWalk.i64_in _ (by omega)
        have w2 : IntKind.i64.wrap ((n : Int) - (j : Int) - 1) = (n : Int) - (j : Int) - 1 := IntWalk.i64_in _ (by omega)
        have HOJ : Hid (okU us j = decide (0 ≤ x ∧ x ≤ (n : Int) - (j : Int) - 1)) := Lib.hid (by unfold okU okR; rw [hx, HN.out])
        clear hx
        by_cases hin : 0 ≤ x ∧ x ≤ (n : Int) - (j : Int) - 1
        · obtain ⟨x1, x2⟩ := hin
          have HJ2 : Hid (∀ u, u < j + 1 → okU us u = true) := Lib.hid (fun u hu => by
            by_cases e : u = j
            · rw [e, HOJ.out]; exact decide_eq_true ⟨x1, x2⟩
            · exact HOK.out u (by omega))
          go_wp2_with fail
          refine (within_yes x _ _ _ x1 x2).mono ?_
          rintro e w' ⟨rfl, rfl⟩
          go_wp2
          go_round
          case rel => exact ⟨j + 1, by omega, by go_num, HJ2.out⟩
          case measure => simp [intOf] <;> omega
        · have hno : x < 0 ∨ (n : Int) - (j : Int) - 1 < x := by omega
          have HF : Hid (b = false) := Lib.hid (by
            cases b
            · rfl
            · exfalso
              have h9 := (HB.out.1 rfl).2 j hlt
              rw [HOJ.out, decide_eq_true_eq] at h9
              exact hin h9)
          clear hin
          go_wp2_with fail
          refine (within_no x _ _ _ hno).mono ?_
          rintro e w' ⟨rfl, rfl⟩
          go_wp2
          go_ret
          exact ⟨ret_bool HF.out.symm, Kp.refl _ _⟩
      · have ej : j = n := by omega
        subst ej
        have t1 : ¬ (j : Int) < j := by omega
        have HF : Hid (b = true) := Lib.hid (HB.out.2 ⟨by omega, HOK.out⟩)
        go_wp2
        go_ret
        exact ⟨ret_bool HF.out.symm, Kp.refl _ _⟩
  · have hn' : (n : Int) < 1 ∨ 12 < (n : Int) := by omega
    have HF : Hid (b = false) := Lib.hid (by
      cases b
      · rfl
      · exfalso
        have h9 := (HB.out.1 rfl).1
        omega)
    clear hn
    go_enter Try.func19, Try.ntmps19
    go_wp2_with (first | ((with_reducible refine (isOrdered_no (n : Int) _ hn').mono ?_); rintro e w' ⟨rfl, rfl⟩))
    go_ret
    exact ⟨ret_bool HF.out.symm, Kp.refl _ _⟩

theorem place_back (u : Int) (m : Nat) : ((u + m - 1) % (m : Int)).toNat = place u m := by
  unfold place
  rw [show u + (m : Int) - 1 = (u - 1) + (m : Int) by omega, Int.add_emod_right]
def Om (us : List Int) (n C L : Nat) (w : World) (j : Nat) : Prop :=
  ∃ ps i q k, Ci w C L n ps q k ∧ ps.length + j = n ∧ Diff ps ∧ (0 < ps.length → i < ps.length ∧ ps.getD i (0, 0) = q) ∧ rot (ps.map (·.2)) i = oL us (marks 0 n) j
theorem Ci.setStep {w : World} {C L cap : Nat} {ps : List (Int × Int)} {q : Int × Int} {k : Int} (h : Ci w C L cap ps q k) (k' : Int) : Ci (w.setCell ⟨C, 3, none⟩ (.int .i64 k')) C L cap ps q k' :=
  ⟨Bk.set (C := C) h.1 3 (.int .i64 k'), h.2.other ⟨C, 3, none⟩ (fun e => h.ne e.symm) _⟩
set_option maxHeartbeats 1600000 in
theorem om_go {us : List Int} {n j i C L : Nat} {u : Int} {ps : List (Int × Int)} {q : Int × Int} (w : World) (hC : Ci w C L n ps q u) (hl : ps.length + j = n) (hj : j < n) (hd : Diff ps) (hi : i < ps.length) (hq : ps.getD i (0, 0) = q)
    (hr : rot (ps.map (·.2)) i = oL us (marks 0 n) j) (hu : us.getD j 0 = u) (u0 : 0 ≤ u) (u1 : u ≤ 12) :
    Calls Try.prog 22 #[.pointer (some ⟨C, 0, none⟩)] w fun e w' => ∃ p : Int × Int, e = .returned (.agg #[.int .i64 p.1, .int .i64 p.2]) ∧ oT us (marks 0 n) (j + 1) = oT us (marks 0 n) j ++ [p.2] ∧ Om us n C L w' (j + 1) ∧ Kp (fun g => g = C ∨ g = L) w w' := by
  have hml : (ps.map (·.2)).length = ps.length := List.length_map _
  have hol : (oL us (marks 0 n) j).length = ps.length := by rw [← hr, rot_length, hml]
  have hp := place_lt u ps.length (by omega)
  have hidx : ((us.getD j 0 + (oL us (marks 0 n) j).length - 1) % ((oL us (marks 0 n) j).length : Int)).toNat = place u ps.length := by
    rw [hu, hol, place_back]
  have hT : oT us (marks 0 n) (j + 1) = oT us (marks 0 n) j ++ [(oL us (marks 0 n) j).getD (place u ps.length) 0] := by rw [oT, hidx]
  have hL : oL us (marks 0 n) (j + 1) = cutAt (rot (ps.map (·.2)) i) (place u ps.length) := by rw [oL, hidx, hr]
  have hw : (oL us (marks 0 n) j).getD (place u ps.length) 0 = (ps.getD ((i + place u ps.length) % ps.length) (0, 0)).2 := by
    rw [← hr, rot_getD _ i _ _ (by rw [hml]; exact hi) (by rw [hml]; exact hp), hml]
    have hlt : (i + place u ps.length) % ps.length < ps.length := Nat.mod_lt _ (by omega)
    simp [List.getD, hlt]
  rw [hT, hw]
  by_cases h1 : ps.length = 1
  · obtain ⟨p, rfl⟩ := List.length_eq_one_iff.1 h1
    have e0 : i = 0 := by simpa using hi
    subst e0
    have eq : p = q := by simpa using hq
    subst eq
    refine (goForward0_last C L n p u w hC u0 (by omega)).mono fun e w' ⟨he, hC', hk⟩ => ⟨p, he, by simp [place_one], ⟨[], 0, p, u, hC', by simp at hl ⊢; omega, fun a b _ h => by simp at h, fun h => by simp at h, ?_⟩, hk⟩
    rw [hL]
    simp [rot, cutAt, place_one]
  · obtain ⟨m, hm⟩ : ∃ m, ps.length = m + 1 := ⟨ps.length - 1, by omega⟩
    have hj' := emod_add_place i ps.length u (by omega)
    have hbl : (i + place u ps.length) % ps.length < ps.length := Nat.mod_lt _ (by omega)
    have hel : (ps.eraseIdx ((i + place u ps.length) % ps.length)).length = m := by rw [List.length_eraseIdx, if_pos hbl]; omega
    refine (goForward0_any C L n i m ((i + place u ps.length) % ps.length) ((i + place u ps.length) % ps.length % m) ps _ q _ u w hC hm (by omega) (by omega) hq hd u0 (by omega) (by rw [hj', hm]; simp) rfl (Int.natCast_emod _ m).symm rfl).mono fun e w' ⟨he, hC', hk⟩ => ⟨_, he, rfl, ⟨_, (i + place u ps.length) % ps.length % m, _, u, hC', by omega, hd.erase _, fun _ => ⟨by rw [hel]; exact Nat.mod_lt _ (by omega), rfl⟩, ?_⟩, hk⟩
    have h3 := cut_rot (ps.map (·.2)) i (place u ps.length) (by rw [hml]; exact hi) (by rw [hml]; exact hp) (by rw [hml]; omega)
    rw [hL, h3, hml, show ps.length - 1 = m by omega, er_map0]
theorem person_num0 (a b : Int) : ∀ w : World, (Instr.field 38 (.agg #[.int .i64 a, .int .i64 b]) 1).run Try.prog w = .ok (.int .i64 b) w := fun _ => by kernel_rfl

set_option maxRecDepth 1000000 in
set_option maxHeartbeats 6400000 in
theorem iOrderOfRemainders_yes (g n B : Nat) (us : List Int) (W : World) (hl : n ≤ 1048576) (hs : SlAt W B g n n us) (hok : RemOk us n) :
    Calls Try.prog 8 #[.slice (some ⟨g, 0, none⟩) n n] W (ListB W (oT us (marks 0 n) n) true) := by
  obtain ⟨i0, hi0, hz0, hz1, hz2⟩ := info_parts intInfo
  obtain ⟨⟨n1, n2⟩, hoks⟩ := hok
  have HS := Lib.hid hs
  have HN := Lib.hid hs.1
  have n0 : (0 : Int) ≤ n := Int.natCast_nonneg _
  have HUB : Hid (∀ j, j < n → 0 ≤ us.getD j 0 ∧ us.getD j 0 ≤ (n : Int) - (j : Int) - 1) := Lib.hid (fun j hj => by
    have h9 := hoks j hj
    unfold okU okR at h9
    rw [decide_eq_true_eq, HN.out] at h9
    exact h9)
  have HAR := Lib.hid (areRemainders_any g n B us W hl hs true ⟨fun _ => ⟨⟨n1, n2⟩, hoks⟩, fun _ => rfl⟩)
  obtain ⟨R, hR⟩ : ∃ R, oT us (marks 0 n) n = R := ⟨_, rfl⟩
  have HR := Lib.hid hR
  rw [hR]
  clear hs hoks hR
  go_enter Try.func8, Try.ntmps8
  go_wp2_with fail
  refine HAR.out.mono ?_
  rintro e w0 ⟨rfl, hk0⟩
  have HK0 := Lib.hid hk0
  clear hk0
  go_wp2_with fail
  refine (firstNumbers_any n w0 (by omega)).mono ?_
  rintro e w1 ⟨v1, rfl, hs1, hk1⟩
  have HS1 := Lib.hid hs1
  have HK1 := Lib.hid (HK0.out.nw hk1)
  clear hs1 hk1
  go_wp2_with fail
  refine (circleOf_any v1 (marks 0 n) 0 w1 HS1.out.rd (by rw [marks_length]; omega) (by rw [marks_length]; omega)).mono ?_
  rintro e w2 ⟨C, L, rfl, hC, hk2, hzC, hzL⟩
  rw [marks_length] at hC
  have hOm : Om us n C L w2 0 := ⟨num (marks 0 n), 0, _, 0, hC, by rw [num_length, marks_length]; omega, num_diff _, fun h => ⟨h, by rw [num_getD _ 0 (by rw [marks_length]; omega)]; rfl⟩, by rw [num_snd]; simp [rot, oL]⟩
  have HOM := Lib.hid hOm
  have HCL : Hid (W.heap.size ≤ C ∧ W.heap.size ≤ L) := Lib.hid ⟨Nat.le_trans HK1.out.size hzC, Nat.le_trans HK1.out.size hzL⟩
  have HCLT : Hid (C < w2.heap.size ∧ L < w2.heap.size) := Lib.hid ⟨hC.lt, hC.2.lt⟩
  have HK2 := Lib.hid (HK1.out.nw hk2)
  clear hC hOm hk2 hzC hzL
  go_wp2_with (first | (at_make; refine wpList_make_full _ rfl _ _ 22 rfl w2.heap.size 3 i0 (.int .i64 0) 1 Try.underlying22 hi0 hz0 hz1 _ _ _ _ n rfl rfl rfl rfl (by rw [hz2]; omega) (by unfold maxLen; omega) (Nat.le_refl _) ?_))
  intro w3 hown hgrow
  have hk3 : Kp Nw w2 w3 := (Kp.refl Nw _).grown hgrow (fun g hg => by cases hg)
  have HS0 := Lib.hid (Sl.zeros hown)
  obtain ⟨gm, hgm⟩ : ∃ gm, gm = w2.heap.size := ⟨_, rfl⟩
  have HK3 := Lib.hid (HK2.out.nw hk3)
  have HOM3 : Hid (Om us n C L w3 0) := Lib.hid (by
    obtain ⟨ps, i, q, k, hC, r⟩ := HOM.out
    exact ⟨ps, i, q, k, hC.nw hk3, r⟩)
  rw [← hgm] at HS0 ⊢
  have HGM : Hid (W.heap.size ≤ gm ∧ C < gm ∧ L < gm) := Lib.hid (by have := HCLT.out; have := HK2.out.size; omega)
  have HGW : Hid (gm < w3.heap.size) := Lib.hid (by have h9 := HS0.out; exact (World.block_lt_of_cell? _ _ (SlAt.cell (n := n) (j := 0) ⟨by simp, h9.2⟩ (by omega))))
  clear hown hgrow hk3 hgm
  go_wp2
  go_loopw [20] (fun x wq => ∃ (j : Nat) (wr : World), j ≤ n ∧ x = .int .i64 j ∧ wr = wq ∧ SlAt wr gm gm n n (ovr n (oT us (marks 0 n) j)) ∧ Om us n C L wr j ∧ Kp Nw W wr ∧ gm < wr.heap.size) (fun x _ => n - (intOf x).toNat)
  case atStart => exact ⟨0, _, Nat.zero_le _, rfl, rfl, ⟨by simp [oT, ovr], HS0.out.2⟩, HOM3.out, HK3.out, HGW.out⟩
  case round =>
    obtain ⟨j, wr, hj, rfl, rfl, hsu, hom, hk, hgw⟩ := hrel
    have HSU := Lib.hid hsu
    have HK := Lib.hid hk
    have j0 : (0 : Int) ≤ j := Int.natCast_nonneg _
    by_cases hlt : j < n
    · have j1 : (j : Int) < n := by omega
      obtain ⟨ps, i, q, k, hC, hpl, hd, hiq, hrot⟩ := hom
      obtain ⟨hi, hq⟩ := hiq (by omega)
      obtain ⟨u0, u1⟩ := HUB.out j hlt
      obtain ⟨u, hu⟩ : ∃ u, us.getD j 0 = u := ⟨_, rfl⟩
      rw [hu] at u0 u1
      have u12 : u ≤ 12 := by omega
      have cx := keepc HK.out (HS.out.cell j hlt) (fun h => h)
      rw [hu] at cx
      obtain ⟨c0, c1, c2, c3⟩ := hC.cells
      have f3 := hC.frozen 3
      have HCI := Lib.hid (hC.setStep u)
      have HSU4 := Lib.hid (HSU.out.kq ((Kp.refl (fun b => b = C) wr).setCell (p := ⟨C, 3, none⟩) (.inl rfl) (.int .i64 u)) (fun e => by have h9 : gm = C := e; have := HGM.out; omega))
      have HK4 := Lib.hid (HK.out.setCell (p := ⟨C, 3, none⟩) (.inr HCL.out.1) (.int .i64 u))
      have HPL := Lib.hid hpl
      have HD := Lib.hid hd
      have HI := Lib.hid hi
      have HQ := Lib.hid hq
      have HRO := Lib.hid hrot
      have HU := Lib.hid hu
      have hrl : (oT us (marks 0 n) j).length = j := oT_len _ _ _
      have HRLN := Lib.hid hrl
      clear hsu hk hC hpl hd hiq hi hq hrot hu hrl c0 c1 c2 u1
      go_wp2_with fail
      refine (om_go _ HCI.out HPL.out hlt HD.out HI.out HQ.out HRO.out HU.out u0 u12).mono ?_
      rintro e w5 ⟨⟨p1, p2⟩, rfl, hT, hom5, hk5⟩
      have hpn := person_num0 p1 p2
      have hset : ovr n (oT us (marks 0 n) (j + 1)) = (ovr n (oT us (marks 0 n) j)).set j p2 := by
        have := ovr_snoc n (oT us (marks 0 n) j) p2 (by rw [HRLN.out]; exact hlt)
        rw [HRLN.out] at this
        rw [hT, this]
      have HT := Lib.hid hset
      have HOM5 := Lib.hid hom5
      have HSU5 := Lib.hid (HSU4.out.kq hk5 (fun e => by have := HGM.out; rcases e with e | e <;> omega))
      have HK5 := Lib.hid (HK4.out.after hk5 (fun g hg e => by have := HCL.out; rcases e with e | e <;> omega))
      have HG5 : Hid (gm < w5.heap.size) := Lib.hid (by have h9 := hk5.size; simp [World.setCell] at h9; omega)
      have cs := HSU5.out.cell j hlt
      have fs := HSU5.out.frozen j
      clear hT hset hom5 hk5 cx c3 f3
      go_wp2
      have HOM6 : Hid (Om us n C L (w5.setCell ⟨gm, j, none⟩ (.int .i64 p2)) (j + 1)) := Lib.hid (by
        obtain ⟨ps, i, q, k, hC, r⟩ := HOM5.out
        exact ⟨ps, i, q, k, hC.kp ((Kp.refl (fun b => b = gm) w5).setCell (p := ⟨gm, j, none⟩) (.inl rfl) (.int .i64 p2)) (fun e => by have h9 : C = gm := e; have := HGM.out; omega) (fun e => by have h9 : L = gm := e; have := HGM.out; omega), r⟩)
      go_roundw
      case rel => exact ⟨j + 1, _, by omega, by go_num, rfl, by rw [HT.out]; exact HSU5.out.store j p2, HOM6.out, HK5.out.setCell (.inr HGM.out.1) _, by simpa [World.setCell] using HG5.out⟩
      case measure => simp [intOf] <;> omega
    · have ej : j = n := by omega
      subst ej
      have t1 : ¬ (j : Int) < j := by omega
      have HSF : Hid (Sl wr W.heap.size (.slice (some ⟨gm, 0, none⟩) j j) R) := Lib.hid (by
        have h9 := hsu.sl
        rw [ovr_all j _ (oT_len _ _ _), HR.out] at h9
        exact h9.from HGM.out.1)
      clear hsu hom hk
      go_wp2
      go_ret2
      exact ⟨_, rfl, HSF.out, HK.out⟩
theorem iOrderOfRemainders_any (g n B : Nat) (us : List Int) (W : World) (hl : n ≤ 1048576) (hs : SlAt W B g n n us) :
    Calls Try.prog 8 #[.slice (some ⟨g, 0, none⟩) n n] W (ListB W (vOrR us).1 (vOrR us).2) := by
  have hlen := hs.1
  unfold vOrR
  rw [hlen]
  by_cases h : (1 ≤ n ∧ n ≤ 12) ∧ ∀ j, j < n → okU us j = true
  · rw [if_pos h]
    exact iOrderOfRemainders_yes g n B us W hl hs h
  · rw [if_neg h]
    have HAR := Lib.hid (areRemainders_any g n B us W hl hs false ⟨fun e => (by cases e), fun e => (h e).elim⟩)
    clear h hs hlen
    go_enter Try.func8, Try.ntmps8
    go_wp2_with fail
    refine HAR.out.mono ?_
    rintro e w0 ⟨rfl, hk0⟩
    have HK0 := Lib.hid hk0
    clear hk0
    go_wp2
    go_ret2
    exact ⟨.slice none 0 0, rfl, Sl.nil _ _, HK0.out⟩
end Go.Proofs.Ytpbbfpgjhmjjoac
