/- An order of at most twenty people: remainders, in the program; no condition but on lengths. -/
import Derived.Test.YtbndgkjnigehgabOrM
import Derived.Test.YtbndgkjnigehgabOutN
import Derived.Test.YtbndgkjnigehgabOvr
import Derived.Test.YtbndgkjnigehgabOrder
namespace Go.Proofs.Ytbndgkjnigehgab
open Go.ChangeShapes Go.WideShapes Go.ChangeAt Go.RowKit

/-- is a list an order of at most twenty people? -/
def ordC (xs : List Int) : Bool := decide (1 ≤ xs.length ∧ xs.length ≤ 20) && decide (xs.all (okR 0 ((xs.length : Int) - 1)) = true ∧ xs.Nodup)
theorem ordC_parts {xs : List Int} (h : ordC xs = true) : 1 ≤ xs.length ∧ xs.length ≤ 20 ∧ xs.all (okR 0 ((xs.length : Int) - 1)) = true ∧ xs.Nodup := by
  unfold ordC at h
  rw [Bool.and_eq_true, decide_eq_true_eq, decide_eq_true_eq] at h
  exact ⟨h.1.1, h.1.2, h.2.1, h.2.2⟩
theorem ordC_mem {xs : List Int} (h : ordC xs = true) (j : Nat) (hj : j < xs.length) : xs.getD j 0 ∈ marks 0 xs.length := by
  obtain ⟨h1, h2, h3, h4⟩ := ordC_parts h
  have := okR_get h3 j hj
  unfold marks
  rw [List.mem_map]
  exact ⟨(xs.getD j 0).toNat, by rw [List.mem_range]; omega, by omega⟩
theorem rem_perm8 {xs : List Int} (h : ordC xs = true) : ∀ j, j ≤ xs.length → (xs.take j ++ remL xs (marks 0 xs.length) j).Perm (marks 0 xs.length)
  | 0, _ => by rw [List.take_zero, List.nil_append]; exact List.Perm.refl _
  | j + 1, hj => by
    have ih := rem_perm8 h j (by omega)
    obtain ⟨_, _, _, h4⟩ := ordC_parts h
    have hm : xs.getD j 0 ∈ remL xs (marks 0 xs.length) j := by
      have h1 := (ih.mem_iff).2 (ordC_mem h j (by omega))
      rcases List.mem_append.1 h1 with h2 | h2
      · exfalso
        have hn := (nodup_take (xs := xs) (j := j) (by omega)).1 (nodup_of_take (j + 1) h4)
        have e : xs.getD j 0 = xs[j] := by simp [List.getD, show j < xs.length by omega]
        rw [e] at h2
        exact hn.2 h2
      · exact h2
    obtain ⟨_, a2, a3⟩ := atL_is _ _ hm
    have hp := cutAt_perm _ _ a2
    rw [a3] at hp
    have e : xs.take (j + 1) = xs.take j ++ [xs.getD j 0] := by
      rw [List.take_add_one]
      congr 1
      simp [show j < xs.length by omega]
    rw [remL, e, List.append_assoc]
    exact (List.Perm.append_left _ hp).trans ih
theorem rem_mem8 {xs : List Int} (h : ordC xs = true) (j : Nat) (hj : j < xs.length) : xs.getD j 0 ∈ remL xs (marks 0 xs.length) j := by
  obtain ⟨_, _, _, h4⟩ := ordC_parts h
  have h1 := ((rem_perm8 h j (by omega)).mem_iff).2 (ordC_mem h j hj)
  rcases List.mem_append.1 h1 with h2 | h2
  · exfalso
    have hn := (nodup_take (xs := xs) (j := j) hj).1 (nodup_of_take (j + 1) h4)
    have e : xs.getD j 0 = xs[j] := by simp [List.getD, hj]
    rw [e] at h2
    exact hn.2 h2
  · exact h2
theorem rem_len8 {xs : List Int} (h : ordC xs = true) (j : Nat) (hj : j ≤ xs.length) : (remL xs (marks 0 xs.length) j).length = xs.length - j := by
  have h1 := (rem_perm8 h j hj).length_eq
  rw [List.length_append, marks_length, List.length_take] at h1
  omega
theorem rot_mem8 {α : Type} (l : List α) (i : Nat) (x : α) : x ∈ rot l i ↔ x ∈ l := by
  unfold rot
  rw [List.mem_append, Or.comm, ← List.mem_append, List.take_append_drop]
theorem rot_nodup8 {α : Type} (l : List α) (i : Nat) (h : l.Nodup) : (rot l i).Nodup := by
  have hp : (rot l i).Perm l := by
    unfold rot
    exact (List.perm_append_comm).trans (by rw [List.take_append_drop])
  exact hp.symm.nodup h
theorem nodup_getD8 {l : List Int} (h : l.Nodup) (a b : Nat) (ha : a < l.length) (hb : b < l.length) (e : l.getD a 0 = l.getD b 0) : a = b := by
  have e1 : l.getD a 0 = l[a] := by simp [List.getD, ha]
  have e2 : l.getD b 0 = l[b] := by simp [List.getD, hb]
  rw [e1, e2] at e
  have hp := List.pairwise_iff_getElem.1 h
  rcases Nat.lt_trichotomy a b with hab | hab | hab
  · exact absurd e (hp a b ha hb hab)
  · exact hab
  · exact absurd e.symm (hp b a hb ha hab)
/-- where one stands, told from an index on -/
theorem at_rot8 (l : List Int) (i : Nat) (x : Int) (hd : l.Nodup) (hi : i < l.length) (hx : x ∈ l) : atL x l = (i + atL x (rot l i)) % l.length := by
  obtain ⟨_, a2, a3⟩ := atL_is x l hx
  obtain ⟨_, b2, b3⟩ := atL_is x (rot l i) ((rot_mem8 l i x).2 hx)
  rw [rot_length] at b2
  rw [rot_getD l i _ 0 hi b2] at b3
  exact nodup_getD8 hd _ _ a2 (Nat.mod_lt _ (by omega)) (a3.trans b3.symm)
/-- the remainder: how many are counted from the next one on -/
theorem rem_around8 (i a m : Nat) : ((((i + a) % m : Nat) : Int) - (i : Int) + 1) % (m : Int) = (((a + 1) % m : Nat) : Int) := by
  rw [Int.natCast_emod, Int.natCast_emod, Int.natCast_add, Int.natCast_add, Int.sub_eq_add_neg, Int.add_assoc, Int.emod_add_emod]
  congr 1
  omega
theorem cut_rot8 (l : List Int) (i a : Nat) (hi : i < l.length) (ha : a < l.length) (h2 : 2 ≤ l.length) :
    cutAt (rot l i) a = rot (l.eraseIdx ((i + a) % l.length)) ((i + a) % l.length % (l.length - 1)) := by
  rw [erase_rot l _ (Nat.mod_lt _ (by omega)) h2]
  unfold cutAt
  exact rot_rest l i a hi ha
/-- one turn of the circle, told from the next one on -/
theorem rm_step8 {xs : List Int} {n j i : Nat} {l : List Int} (hb : ordC xs = true) (hn : xs.length = n) (hj : j < n) (hl : l.length + j = n) (hi : i < l.length) (hr : rot l i = remL xs (marks 0 n) j) :
    ∃ a b, fndD (xs.getD j 0) l 0 = ((b : Nat) : Int) ∧ b = (i + a) % l.length ∧ a < l.length ∧ remT xs (marks 0 n) (j + 1) = remT xs (marks 0 n) j ++ [(((a + 1) % l.length : Nat) : Int)] ∧ remL xs (marks 0 n) (j + 1) = cutAt (rot l i) a := by
  have hm : xs.getD j 0 ∈ rot l i := by
    rw [hr]
    have := rem_mem8 hb j (by omega)
    rw [hn] at this
    exact this
  have hml := (rot_mem8 l i _).1 hm
  have hnd : l.Nodup := by
    have hp := rem_perm8 hb j (by omega)
    rw [hn, ← hr] at hp
    have h1 := (List.nodup_append.1 (hp.symm.nodup (marks_nodup 0 n))).2.1
    have h2 : (rot l i).Perm l := by
      unfold rot
      exact (List.perm_append_comm).trans (by rw [List.take_append_drop])
    exact h2.nodup h1
  obtain ⟨e1, e2, _⟩ := atL_is _ l hml
  obtain ⟨_, f2, _⟩ := atL_is _ (rot l i) hm
  rw [rot_length] at f2
  refine ⟨atL (xs.getD j 0) (rot l i), atL (xs.getD j 0) l, e1, at_rot8 l i _ hnd hi hml, f2, ?_, ?_⟩
  · rw [remT, ← hr, rot_length]
  · rw [remL, ← hr]

theorem er_map8 {α β : Type} (f : α → β) : ∀ (l : List α) (k : Nat), (l.eraseIdx k).map f = (l.map f).eraseIdx k
  | [], k => by simp
  | x :: l, 0 => by simp
  | x :: l, k + 1 => by simp [er_map8 f l k]
def Rm8 (xs : List Int) (n C L cap : Nat) (w : World) (j : Nat) : Prop :=
  ∃ ps i q, Ci w C L cap ps q 1 ∧ ps.length + j = n ∧ Diff ps ∧ (0 < ps.length → i < ps.length ∧ ps.getD i (0, 0) = q) ∧ rot (ps.map (·.2)) i = remL xs (marks 0 n) j
theorem Rm8.kp {xs : List Int} {n C L cap j : Nat} {w w' : World} {S : Nat → Prop} (h : Rm8 xs n C L cap w j) (hk : Kp S w w') (h1 : ¬ S C) (h2 : ¬ S L) : Rm8 xs n C L cap w' j := by
  obtain ⟨ps, i, q, hC, r⟩ := h
  exact ⟨ps, i, q, hC.kp hk h1 h2, r⟩

set_option maxHeartbeats 1600000 in
/-- the one at an index goes -/
theorem rm_letGo8 {xs : List Int} {n j i a b C L cap : Nat} {ps : List (Int × Int)} {q : Int × Int} (w : World) (hC : Ci w C L cap ps q 1) (hl : ps.length + j = n) (hn : n ≤ 20) (hd : Diff ps) (hi : i < ps.length)
    (hbe : b = (i + a) % ps.length) (ha : a < ps.length) (hrl : remL xs (marks 0 n) (j + 1) = cutAt (rot (ps.map (·.2)) i) a) :
    Calls Try.prog 29 #[.pointer (some ⟨C, 0, none⟩), .int .i64 b, .int .i64 b] w fun e w' => ∃ p : Int × Int, e = .returned (.agg #[.int .i64 p.1, .int .i64 p.2]) ∧ Rm8 xs n C L cap w' (j + 1) ∧ Kp (fun g => g = C ∨ g = L) w w' := by
  have hbl : b < ps.length := by rw [hbe]; exact Nat.mod_lt _ (by omega)
  by_cases h1 : ps.length = 1
  · obtain ⟨p, rfl⟩ := List.length_eq_one_iff.1 h1
    have e0 : b = 0 := by simpa using hbl
    have ea : a = 0 := by simpa using ha
    have ei : i = 0 := by simpa using hi
    subst e0
    subst ea
    subst ei
    refine (letGo_last C L cap _ p q 1 w hC).mono fun e w' ⟨he, hC', hk⟩ => ⟨p, he, ⟨[], 0, q, hC', by simp at hl ⊢; omega, fun a b _ h => by simp at h, fun h => by simp at h, ?_⟩, hk⟩
    rw [hrl]
    simp [rot, cutAt]
  · obtain ⟨m, hm⟩ : ∃ m, ps.length = m + 1 := ⟨ps.length - 1, by omega⟩
    have hel : (ps.eraseIdx b).length = m := by rw [List.length_eraseIdx, if_pos hbl]; omega
    refine (letGo_any C L cap b m (b % m) (b : Int) ps _ q _ 1 w hC hm (by omega) rfl (by omega) (by omega) (by omega) (Int.natCast_emod b m).symm rfl).mono fun e w' ⟨he, hC', hk⟩ => ⟨_, he, ⟨_, b % m, _, hC', by omega, hd.erase _, fun _ => ⟨by rw [hel]; exact Nat.mod_lt _ (by omega), rfl⟩, ?_⟩, hk⟩
    rw [hrl]
    have h2 : (ps.map (·.2)).length = ps.length := List.length_map _
    have h3 := cut_rot8 (ps.map (·.2)) i a (by rw [h2]; exact hi) (by rw [h2]; exact ha) (by rw [h2]; omega)
    rw [h3, h2, ← hbe, show ps.length - 1 = m by omega, er_map8]

set_option maxRecDepth 1000000 in
set_option maxHeartbeats 6400000 in
theorem remaindersOf_any8 (A : Option Addr) (n c : Nat) (xs : List Int) (W : World) (hu : Rd W (.slice A n c) xs) (hn : xs.length = n) (hb : ordC xs = true) :
    Calls Try.prog 17 #[.slice A n c] W (Makes W (remsOf xs)) := by
  obtain ⟨i0, hi0, hz0, hz1, hz2⟩ := info_parts intInfo
  have hp := ordC_parts hb
  have n1 : 1 ≤ n := by omega
  have n2 : n ≤ 20 := by omega
  obtain ⟨A', c', hA', hcell⟩ := hu
  rw [hn] at hA' hcell
  injection hA' with e1 _ e3
  subst e1
  subst e3
  obtain ⟨gx, ox, rfl, _⟩ := hcell 0 (by omega)
  have HC : Hid (∀ k, k < n → W.cell? ⟨gx, ox + k, none⟩ = some (.int .i64 (xs.getD k 0))) := Lib.hid (fun k hk => by
    obtain ⟨g9, o9, e9, h9⟩ := hcell k hk
    injection e9 with e9
    injection e9 with e1 e2
    subst e1 e2
    exact h9)
  have HB := Lib.hid hb
  have HN := Lib.hid hn
  have n0 : (0 : Int) ≤ n := Int.natCast_nonneg _
  obtain ⟨R, hR⟩ : ∃ R, remsOf xs = R := ⟨_, rfl⟩
  have HR : Hid (remT xs (marks 0 n) n = R) := Lib.hid (by rw [← hR, remsOf, hn])
  rw [hR]
  clear hcell hb hn hp hR
  go_enter Try.func17, Try.ntmps17
  go_wp2_with fail
  refine (firstNumbers_any n W (by omega)).mono ?_
  rintro e w1 ⟨v1, rfl, hs1, hk1⟩
  have HS1 := Lib.hid hs1
  have HK1 := Lib.hid hk1
  clear hs1 hk1
  go_wp2_with fail
  refine (circleOf_any v1 (marks 0 n) 1 w1 HS1.out.rd (by rw [marks_length]; omega) (by rw [marks_length]; omega)).mono ?_
  rintro e w2 ⟨C, L, rfl, hC, hk2, hzC, hzL⟩
  rw [marks_length] at hC
  have hRm : Rm8 xs n C L n w2 0 := ⟨num (marks 0 n), 0, _, hC, by rw [num_length, marks_length]; omega, num_diff _, fun h => ⟨h, by rw [num_getD _ 0 (by rw [marks_length]; omega)]; rfl⟩, by rw [num_snd]; simp [rot, remL]⟩
  have HRM := Lib.hid hRm
  have HCL : Hid (W.heap.size ≤ C ∧ W.heap.size ≤ L) := Lib.hid ⟨Nat.le_trans HK1.out.size hzC, Nat.le_trans HK1.out.size hzL⟩
  have HCLT : Hid (C < w2.heap.size ∧ L < w2.heap.size) := Lib.hid ⟨hC.lt, hC.2.lt⟩
  have HK2 := Lib.hid (HK1.out.nw hk2)
  clear hC hRm hk2 hzC hzL
  go_wp2_with (first | (at_make; refine wpList_make_full _ rfl _ _ 22 rfl w2.heap.size 3 i0 (.int .i64 0) 1 Try.underlying22 hi0 hz0 hz1 _ _ _ _ n rfl rfl rfl rfl (by rw [hz2]; omega) (by unfold maxLen; omega) (Nat.le_refl _) ?_))
  intro w3 hown hgrow
  have hk3 : Kp Nw w2 w3 := (Kp.refl Nw _).grown hgrow (fun g hg => by cases hg)
  have HS0 := Lib.hid (Sl.zeros hown)
  obtain ⟨gm, hgm⟩ : ∃ gm, gm = w2.heap.size := ⟨_, rfl⟩
  have HK3 := Lib.hid (HK2.out.nw hk3)
  have HRM3 := Lib.hid (HRM.out.kp hk3 (fun h => h) (fun h => h))
  rw [← hgm] at HS0 ⊢
  have HGM : Hid (W.heap.size ≤ gm ∧ C < gm ∧ L < gm) := Lib.hid (by have := HCLT.out; have := HK2.out.size; omega)
  have HGW : Hid (gm < w3.heap.size) := Lib.hid (by have h9 := HS0.out; exact (World.block_lt_of_cell? _ _ (SlAt.cell (n := n) (j := 0) ⟨by simp, h9.2⟩ (by omega))))
  clear hown hgrow hk3 hgm
  go_wp2
  go_loopw [17] (fun x wq => ∃ (j : Nat) (wr : World), j ≤ n ∧ x = .int .i64 j ∧ wr = wq ∧ SlAt wr gm gm n n (ovr n (remT xs (marks 0 n) j)) ∧ Rm8 xs n C L n wr j ∧ Kp Nw W wr ∧ gm < wr.heap.size) (fun x _ => n - (intOf x).toNat)
  case atStart => exact ⟨0, _, Nat.zero_le _, rfl, rfl, ⟨by simp [remT, ovr], HS0.out.2⟩, HRM3.out, HK3.out, HGW.out⟩
  case round =>
    obtain ⟨j, wr, hj, rfl, rfl, hsu, hrm, hk, hgw⟩ := hrel
    have HSU := Lib.hid hsu
    have HK := Lib.hid hk
    have j0 : (0 : Int) ≤ j := Int.natCast_nonneg _
    by_cases hlt : j < n
    · have j1 : (j : Int) < n := by omega
      obtain ⟨ps, i, q, hC, hpl, hd, hiq, hrot⟩ := hrm
      obtain ⟨hi, hq⟩ := hiq (by omega)
      have hml : (ps.map (·.2)).length = ps.length := List.length_map _
      obtain ⟨a, b, hf, hbe, ha, hrT, hrL⟩ := rm_step8 HB.out HN.out hlt (by rw [hml]; exact hpl) (by rw [hml]; exact hi) hrot
      rw [hml] at hbe ha hrT
      obtain ⟨x, hx⟩ : ∃ x, xs.getD j 0 = x := ⟨_, rfl⟩
      rw [hx] at hf
      obtain ⟨m, hm⟩ : ∃ m, ps.length = m := ⟨_, rfl⟩
      have hbm : b < m := by rw [hbe, hm]; exact Nat.mod_lt _ (by omega)
      have hm1 : 1 ≤ m := by omega
      have hm2 : m ≤ 20 := by omega
      have him : i < m := by omega
      have hra := rem_around8 i a m
      rw [hm] at hrT
      obtain ⟨z, hz⟩ : ∃ z, (a + 1) % m = z := ⟨_, rfl⟩
      rw [hz] at hrT hra
      rw [← hm, ← hbe, hm] at hra
      have cx := keepc HK.out (HC.out j hlt) (fun h => h)
      rw [hx] at cx
      obtain ⟨c0, c1, c2, c3⟩ := hC.cells
      rw [hm] at c2
      have hrl : (remT xs (marks 0 n) j).length = j := remT_len _ _ _
      have hst2 : ovr n (remT xs (marks 0 n) (j + 1)) = (ovr n (remT xs (marks 0 n) j)).set j (z : Int) := by
        have := ovr_snoc n (remT xs (marks 0 n) j) (z : Int) (by rw [hrl]; exact hlt)
        rw [hrl] at this
        rw [hrT, this]
      have cs := hsu.cell j hlt
      obtain ⟨u, hu⟩ : ∃ u, (ovr n (remT xs (marks 0 n) j)).getD j 0 = u := ⟨_, rfl⟩
      rw [hu] at cs
      clear hu
      have fs := hsu.frozen j
      have C2 := Lib.hid c2
      have CS := Lib.hid cs
      have FS := Lib.hid fs
      have HCI := Lib.hid hC
      have HPL := Lib.hid hpl
      have HD := Lib.hid hd
      have HI := Lib.hid hi
      have HQ := Lib.hid hq
      have HF := Lib.hid hf
      have HBE := Lib.hid hbe
      have HA := Lib.hid ha
      have HRL := Lib.hid hrL
      have HT := Lib.hid hst2
      have HRA := Lib.hid hra
      have HM := Lib.hid hm
      have HML := Lib.hid hml
      have b0 : (0 : Int) ≤ b := Int.natCast_nonneg _
      have i0' : (0 : Int) ≤ i := Int.natCast_nonneg _
      have q1 : IntKind.i64.wrap ((b : Int) - (i : Int)) = (b : Int) - (i : Int) := IntWalk.i64_in _ (by omega)
      have q2 : IntKind.i64.wrap ((b : Int) - (i : Int) + 1) = (b : Int) - (i : Int) + 1 := IntWalk.i64_in _ (by omega)
      have hgC : gm ≠ C ∧ gm ≠ L := by have := HGM.out; omega
      clear hsu hk hC hpl hd hiq hi hq hrot hf hbe ha hrT hrL hx hm hra hz hst2 hrl c0 c1 c3 hml cs fs
      go_wp2_with fail
      refine (numbersOf_any ⟨L, 0, none⟩ n m ps wr HCI.out.2.rdp HM.out (by omega)).mono ?_
      rintro e w5 ⟨v5, rfl, hs5, hk5⟩
      have HS5 := Lib.hid hs5
      have HK5 := Lib.hid hk5
      clear hs5 hk5 c2
      go_wp2_with fail
      refine (index_any v5 _ x w5 HS5.out.rd (by rw [HML.out, HM.out]; omega)).mono ?_
      rw [HF.out]
      rintro e w' ⟨rfl, rfl⟩
      have HCI5 := Lib.hid (HCI.out.nw HK5.out)
      have C25 := Lib.hid (keepc HK5.out C2.out (fun h => h))
      have CS5 := Lib.hid (keepc HK5.out CS.out (fun h => h))
      have FS5 := Lib.hid (keepf HK5.out hgw FS.out (fun h => h))
      have HSU5 := Lib.hid (HSU.out.kq HK5.out (fun h => h))
      go_wp2_with fail
      have c25 := C25.out
      have cs5 := CS5.out
      have fs5 := FS5.out
      go_region_law (first
        | (go_simp
           go_at_call 28
           refine (next_any C L n i ps q 1 _ (HCI5.out.nw (Kp.refl Nw w5).drew) HI.out HQ.out HD.out).mono ?_
           rintro e w6 ⟨rfl, hk6⟩
           have hkW6 : Kp Nw w5 w6 := (Kp.refl Nw w5).drew.nw hk6
           have c26 := keepc hkW6 C25.out (fun h => h)
           have cs6 := keepc hkW6 CS5.out (fun h => h)
           have fs6 := keepf hkW6 (World.block_lt_of_cell? _ _ CS5.out) FS5.out (fun h => h)
           clear hk6)
        | (go_simp
           go_at_call 27
           refine (around_any ((b : Int) - (i : Int) + 1) (m : Int) _ (by omega) (by omega) (by omega) (by omega)).mono ?_
           rw [HRA.out]
           rintro e w7 ⟨rfl, rfl⟩)
        | fail)
      all_goals
        have HS8 : Hid (SlAt (w6.setCell ⟨gm, j, none⟩ (.int .i64 (z : Int))) gm gm n n (ovr n (remT xs (marks 0 n) (j + 1)))) := Lib.hid (by rw [HT.out]; exact (HSU5.out.kq hkW6 (fun h => h)).store j (z : Int))
        have HCI8 := Lib.hid ((HCI5.out.nw hkW6).kp ((Kp.refl (fun g => g = gm) w6).setCell (p := ⟨gm, j, none⟩) (.inl rfl) (.int .i64 (z : Int))) (fun e => hgC.1 e.symm) (fun e => hgC.2 e.symm))
        have HK8 := Lib.hid (((HK.out.nw HK5.out).nw hkW6).setCell (p := ⟨gm, j, none⟩) (.inr HGM.out.1) (.int .i64 (z : Int)))
        have HG8 : Hid (gm < w6.heap.size) := Lib.hid (Nat.lt_of_lt_of_le hgw (Nat.le_trans HK5.out.size hkW6.size))
        clear hkW6 c26 cs6 fs6 c25 cs5 fs5
        go_wp2_with fail
        refine (rm_letGo8 _ HCI8.out HPL.out n2 HD.out HI.out HBE.out HA.out HRL.out).mono ?_
        rintro e w9 ⟨p9, rfl, hrm9, hk9⟩
        have HS9 := Lib.hid (HS8.out.kq hk9 (fun e => by rcases e with e | e <;> omega))
        have HRM9 := Lib.hid hrm9
        have HK9 := Lib.hid (HK8.out.after hk9 (fun g hg e => by have := HCL.out; rcases e with e | e <;> omega))
        have HG9 : Hid (gm < w9.heap.size) := Lib.hid (by have h9 := hk9.size; have := HG8.out; simp [World.setCell] at h9; omega)
        clear hrm9 hk9
        go_wp2
        go_roundw
        case rel => exact ⟨j + 1, _, by omega, by go_num, rfl, HS9.out, HRM9.out, HK9.out, HG9.out⟩
        case measure => simp [intOf] <;> omega
    · have ej : j = n := by omega
      subst ej
      have t1 : ¬ (j : Int) < j := by omega
      have HSF : Hid (Sl wr W.heap.size (.slice (some ⟨gm, 0, none⟩) j j) R) := Lib.hid (by
        have h9 := hsu.sl
        rw [ovr_all j _ (remT_len _ _ _), HR.out] at h9
        exact h9.from HGM.out.1)
      clear hsu hrm hk
      go_wp2
      go_ret
      exact ⟨_, rfl, HSF.out, HK.out⟩

end Go.Proofs.Ytbndgkjnigehgab
