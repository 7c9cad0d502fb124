/- The order in which people go who are counted backwards (BackOrder), in the program and in its model: both are the same list; for all integers. -/
import Derived.Test.YtgahlpniciafkaaGaps
namespace Go.Proofs.Ytgahlpniciafkaa
open Go.ChangeShapes Go.WideShapes Go.ChangeAt Go.RowKit

/-- people from the one at an index on, backwards -/
def back {α : Type} (l : List α) (i : Nat) : List α := (rot l ((i + 1) % l.length)).reverse
theorem back_length {α : Type} (l : List α) (i : Nat) : (back l i).length = l.length := by simp [back, rot_length]

theorem mod_back (i a n : Nat) (_hi : i < n) (ha : a < n) : ((i + 1) % n + (n - 1 - a)) % n = (i + n - a) % n := by
  rw [Nat.add_mod, Nat.mod_mod, ← Nat.add_mod]
  congr 1
  omega

theorem rest_back {α : Type} (k : Int) (l : List α) (i : Nat) (hi : i < l.length) (h2 : 2 ≤ l.length) :
    rest k (back l i) = (rot (l.eraseIdx ((i + l.length - place k l.length) % l.length)) ((i + l.length - place k l.length) % l.length % (l.length - 1))).reverse := by
  have hp := place_lt k l.length (by omega)
  rw [erase_rot l _ (Nat.mod_lt _ (by omega)) h2]
  have hs := rot_rest l ((i + 1) % l.length) (l.length - 1 - place k l.length) (Nat.mod_lt _ (by omega)) (by omega)
  rw [mod_back i (place k l.length) l.length hi hp] at hs
  rw [← hs]
  unfold rest
  rw [back_length]
  unfold back
  have hl := rot_length l ((i + 1) % l.length)
  rw [List.drop_reverse, List.take_reverse, List.reverse_append, hl]
  congr 2
  · rw [show l.length - (place k l.length + 1) = l.length - 1 - place k l.length by omega]
  · rw [show l.length - place k l.length = l.length - 1 - place k l.length + 1 by omega]

theorem back_getD {α : Type} (l : List α) (i a : Nat) (d : α) (hi : i < l.length) (ha : a < l.length) : (back l i).getD a d = l.getD ((i + l.length - a) % l.length) d := by
  have hl := rot_length l ((i + 1) % l.length)
  have h := rot_getD l ((i + 1) % l.length) (l.length - 1 - a) d (Nat.mod_lt _ (by omega)) (by omega)
  rw [mod_back i a l.length hi ha] at h
  rw [← h]
  unfold back
  simp only [List.getD]
  rw [List.getElem?_reverse (by rw [hl]; exact ha), hl]

theorem next_back (j m : Nat) (hm : 1 ≤ m) : ∃ j' : Nat, ((j : Int) - 1) % (m : Int) = (j' : Int) ∧ j' < m ∧ (j' + 1) % m = j % m := by
  have h1 := Int.emod_nonneg ((j : Int) - 1) (b := (m : Int)) (by omega)
  have h2 := Int.emod_lt_of_pos ((j : Int) - 1) (b := (m : Int)) (by omega)
  refine ⟨(((j : Int) - 1) % (m : Int)).toNat, by omega, by omega, ?_⟩
  have h : ((((((j : Int) - 1) % (m : Int)).toNat + 1) % m : Nat) : Int) = ((j % m : Nat) : Int) := by
    rw [Int.natCast_emod, Int.natCast_emod, Int.natCast_add, show (((((j : Int) - 1) % (m : Int)).toNat : Nat) : Int) = ((j : Int) - 1) % (m : Int) by omega]
    rw [Int.emod_add_emod]
    congr 1
    omega
  omega

theorem emod_sub_place (i n : Nat) (k : Int) (hi : i < n) : ((((i + n - place k n) % n : Nat)) : Int) = ((i : Int) - k + 1) % (n : Int) := by
  have hp := place_lt k n (by omega)
  rw [Int.natCast_emod, show ((i + n - place k n : Nat) : Int) = (i : Int) - (place k n : Int) + (n : Int) by omega, place_int k n (by omega), Int.add_emod_right, Int.sub_emod, Int.emod_emod, ← Int.sub_emod]
  congr 1
  omega

/-- the circle behind r turns backwards of the people l0, told from the one who is next on, backwards -/
def Bwd (l0 : List (Int × Int)) (C L cap : Nat) (k : Int) (w : World) (r : Nat) : Prop :=
  ∃ ps i q, Ci w C L cap ps q k ∧ ps.length + r = l0.length ∧ Diff ps ∧ (0 < ps.length → i < ps.length ∧ ps.getD i (0, 0) = q) ∧ back ps i = lefts k r l0

theorem Bwd.kp {l0 : List (Int × Int)} {C L cap : Nat} {k : Int} (r : Nat) (w w' : World) (S : Nat → Prop) (h : Bwd l0 C L cap k w r) (hk : Kp S w w') (h1 : ¬ S C) (h2 : ¬ S L) : Bwd l0 C L cap k w' r := by
  obtain ⟨ps, i, q, hC, hr⟩ := h
  exact ⟨ps, i, q, hC.kp hk h1 h2, hr⟩

theorem bwd_step (l0 : List (Int × Int)) (C L cap : Nat) (k : Int) (k1 : 1 ≤ k) (k2 : k ≤ 1000000) (turns : Nat) (ht : turns ≤ l0.length) (r : Nat) (w : World) (hr : r < turns) (h : Bwd l0 C L cap k w r) :
    Calls Try.prog 41 #[.pointer (some ⟨C, 0, none⟩)] w fun e w' =>
      e = .returned (.agg #[.int .i64 ((outsP k turns l0).getD r (0, 0)).1, .int .i64 ((outsP k turns l0).getD r (0, 0)).2]) ∧ Bwd l0 C L cap k w' (r + 1) ∧ Kp (fun b => b = C ∨ b = L) w w' := by
  obtain ⟨ps, i, q, hC, hn, hd, hi, hrot⟩ := h
  rw [outsP_getD k turns l0 r hr]
  obtain ⟨hi1, hi2⟩ := hi (by omega)
  have hlen : (lefts k r l0).length = ps.length := by rw [← hrot, back_length]
  have hp := place_lt k ps.length (by omega)
  have hw : whoP k (lefts k r l0) = ps.getD ((i + ps.length - place k ps.length) % ps.length) (0, 0) := by
    unfold whoP
    rw [hlen, ← hrot, back_getD ps i _ _ hi1 hp]
  by_cases h1 : ps.length = 1
  · obtain ⟨p, rfl⟩ := List.length_eq_one_iff.1 h1
    have e0 : i = 0 := by simpa using hi1
    subst e0
    have eq : p = q := by simpa using hi2
    subst eq
    have hw' : whoP k (lefts k r l0) = p := by rw [hw]; simp [place_one]
    rw [hw']
    refine (goBackward_last C L cap p k w hC k1 k2).mono fun e w' ⟨he, hC', hk⟩ => ⟨he, ⟨[], 0, p, hC', by simp at hn ⊢; omega, fun a b _ h => by simp at h, fun h => by simp at h, ?_⟩, hk⟩
    rw [lefts_succ, ← hrot]
    simp [back, rot, rest, place_one]
  · obtain ⟨m, hm⟩ : ∃ m, ps.length = m + 1 := ⟨ps.length - 1, by omega⟩
    have hj := emod_sub_place i ps.length k hi1
    rw [hw]
    obtain ⟨j', hj1, hj2, hj3⟩ := next_back ((i + ps.length - place k ps.length) % ps.length) m (by omega)
    refine (goBackward_any C L cap i m ((i + ps.length - place k ps.length) % ps.length) j' ps _ q _ k w hC hm (by omega) (by omega) hi2 hd k1 k2 (by rw [hj, hm]; simp) rfl hj1 rfl).mono fun e w' ⟨he, hC', hk⟩ => ⟨he, ⟨_, j', _, hC', ?_, hd.erase _, fun _ => ⟨?_, rfl⟩, ?_⟩, hk⟩
    · rw [List.length_eraseIdx, if_pos (Nat.mod_lt _ (by omega))]; omega
    · rw [List.length_eraseIdx, if_pos (Nat.mod_lt _ (by omega)), hm]
      exact hj2
    · rw [lefts_succ, ← hrot, rest_back k ps i hi1 (by omega)]
      unfold back
      rw [List.length_eraseIdx, if_pos (Nat.mod_lt _ (by omega)), show ps.length - 1 = m by omega, hj3]

/-- the person with a number, told the other way around -/
def mir (n : Nat) (x : Int) : Int := ((n : Int) - x) % (n : Int)
theorem back_marks (n : Nat) (hn : 0 < n) : back (marks 0 n) 0 = (marks 0 n).map (mir n) := by
  apply List.ext_getElem?
  intro j
  by_cases h : j < n
  · have h1 := back_getD (marks 0 n) 0 j 0 (by rw [marks_length]; exact hn) (by rw [marks_length]; exact h)
    rw [marks_length, marks_getD 0 n _ (Nat.mod_lt _ hn)] at h1
    have hl : j < (back (marks 0 n) 0).length := by rw [back_length, marks_length]; exact h
    have e1 : (back (marks 0 n) 0)[j]? = some ((back (marks 0 n) 0).getD j 0) := by simp [hl]
    rw [e1, h1, List.getElem?_map]
    have e2 : (marks 0 n)[j]? = some (j : Int) := by simp [marks, h]
    rw [e2]
    show some _ = some (mir n j)
    congr 1
    unfold mir
    rw [Int.zero_add, Int.natCast_emod]
    congr 1
    omega
  · have e : n ≤ j := by omega
    rw [List.getElem?_eq_none (by rw [back_length, marks_length]; exact e), List.getElem?_eq_none (by rw [List.length_map, marks_length]; exact e)]
theorem back_map {α β : Type} (f : α → β) (l : List α) (i : Nat) : (back l i).map f = back (l.map f) i := by simp [back, rot]
theorem who_mir (n : Nat) (_hn : 0 < n) (k : Int) (l : List Int) : who k (l.map (mir n)) = mir n (who k l) := by
  unfold who
  simp only [List.getD, List.length_map, List.getElem?_map]
  cases l[place k l.length]? with
  | some x => rfl
  | none => simp [mir]
theorem outs_mir (n : Nat) (hn : 0 < n) (k : Int) : ∀ (t : Nat) (l : List Int), outs k t (l.map (mir n)) = (outs k t l).map (mir n)
  | 0, _ => rfl
  | t + 1, l => by rw [outs, outs, List.map_cons, who_mir n hn, rest_map, outs_mir n hn k t]
theorem mir_tmod (n : Nat) (x : Int) (_h0 : 0 ≤ x) (h1 : x < n) : ((n : Int) - x).tmod (n : Int) = mir n x := by
  rw [Int.tmod_eq_emod_of_nonneg (by omega)]; rfl

theorem sBackOrder_no (p k : Int) (W : World) (h : ¬ Asked p k) :
    Calls Try.prog 12 #[.int .i64 p, .int .i64 k] W (ListRes W [] false) := by
  go_enter Try.func12, Try.ntmps12
  go_wp2_with (first | ((with_reducible refine (ciAsked_no _ _ _ h).mono ?_); rintro e w' ⟨rfl, rfl⟩))
  go_ret2
  exact ⟨_, rfl, Sl.nil _ _, Kp.refl _ _⟩

theorem iBackOrder_no (p k : Int) (W : World) (h : ¬ Asked p k) :
    Calls Try.prog 13 #[.int .i64 p, .int .i64 k] W (ListRes W [] false) := by
  go_enter Try.func13, Try.ntmps13
  go_wp2_with (first | ((with_reducible refine (isCount_no _ _ _ h).mono ?_); rintro e w' ⟨rfl, rfl⟩))
  go_ret2
  exact ⟨_, rfl, Sl.nil _ _, Kp.refl _ _⟩

set_option maxHeartbeats 1600000 in
theorem iBackOrder_yes (n : Nat) (k : Int) (W : World) (h : Asked n k) :
    Calls Try.prog 13 #[.int .i64 n, .int .i64 k] W (ListRes W ((outs k n (marks 0 n)).map (mir n)) true) := by
  have h1 := h.p1; have h2 := h.p2; have h5 := h.k1; have h6 := h.k2
  go_enter Try.func13, Try.ntmps13
  go_wp2_with (first | ((with_reducible refine (isCount_yes _ _ _ h).mono ?_); rintro e w' ⟨rfl, rfl⟩))
  refine (firstNumbers_any n W (by omega)).mono ?_
  rintro e w1 ⟨v, rfl, hs, hk⟩
  obtain ⟨A, c, rfl⟩ := hs.val (marks_length 0 n)
  have HS := Lib.hid hs
  have HK := Lib.hid hk
  clear hs hk
  go_wp2_with fail
  refine (circleOf_any _ (marks 0 n) k _ HS.out.rd (by rw [marks_length]; omega) (by rw [marks_length]; omega)).mono ?_
  rintro e w2 ⟨C, L, rfl, hC, hk, hC1, hL1⟩
  rw [marks_length] at hC
  have HC := Lib.hid hC
  have HK2 := Lib.hid (HK.out.nw hk)
  have z1 := HK.out.size
  clear hk hC
  go_wp2_with fail
  refine (countBackward C L n (outsP k n (back (num (marks 0 n)) 0)) (Bwd (back (num (marks 0 n)) 0) C L n k) w2 (outsP_length _ _ _) HC.out.lt HC.out.2.lt (Lib.hid Bwd.kp)
    (Lib.hid fun r w hr hst => bwd_step (back (num (marks 0 n)) 0) C L n k h5 h6 n (by rw [back_length, num_length, marks_length]; exact Nat.le_refl _) r w hr hst)
    ⟨num (marks 0 n), 0, _, HC.out, by rw [back_length]; rfl, num_diff _, fun _ => ⟨by rw [num_length, marks_length]; omega, num_getD _ 0 (by rw [marks_length]; omega)⟩, rfl⟩ (by omega)).mono ?_
  rintro e w3 ⟨G, rfl, hP, _, hk3, hG⟩
  have HP := Lib.hid hP
  have HK3 := Lib.hid (HK2.out.after hk3 (fun g hg h => by rcases h with h | h <;> omega))
  clear hP hk3
  go_wp2_with fail
  refine (numbersOf_any ⟨G, 0, none⟩ n n _ _ HP.out.rdp (outsP_length _ _ _) (by omega)).mono ?_
  rintro e w4 ⟨v4, rfl, hs4, hk4⟩
  rw [← outs_map, back_map, num_snd, back_marks n (by omega), outs_mir n (by omega)] at hs4
  have HS4 := Lib.hid (hs4.from HK3.out.size)
  have HK4 := Lib.hid (HK3.out.nw hk4)
  clear hs4 hk4
  go_wp2
  go_ret2
  exact ⟨v4, rfl, HS4.out, HK4.out⟩

set_option maxHeartbeats 1600000 in
theorem sBackOrder_yes (n : Nat) (k : Int) (W : World) (h : Asked n k) :
    Calls Try.prog 12 #[.int .i64 n, .int .i64 k] W (ListRes W ((outs k n (marks 0 n)).map (mir n)) true) := by
  have h1 := h.p1; have h2 := h.p2; have h5 := h.k1; have h6 := h.k2
  go_enter Try.func12, Try.ntmps12
  go_wp2_with (first | ((with_reducible refine (ciAsked_yes _ _ _ h).mono ?_); rintro e w' ⟨rfl, rfl⟩))
  refine (ciPeople_any n W (by omega)).mono ?_
  rintro e w1 ⟨v, rfl, hs, hk⟩
  have HS := Lib.hid hs
  have HK := Lib.hid hk
  clear hs hk
  go_wp2_with fail
  refine (ciOrder_any v k (marks 0 n) _ w1 HS.out (by rw [marks_length]; omega) h.k1 h.k2).mono ?_
  rintro e w2 ⟨v2, rfl, hs2, hk2⟩
  rw [marks_length] at hs2
  obtain ⟨g, cap, rfl, hs3, _, _, hgW, hgl⟩ := hs2.at_ (by rw [outs_length]; omega)
  rw [outs_length] at hs3 ⊢
  have HS3 := Lib.hid hs3
  have HK2 := Lib.hid (HK.out.nw hk2)
  clear hs2 hk2 hs3
  go_wp2
  go_loopw [6, 8, 18] (fun s _ i wr => ∃ (j : Nat) (u : Value), j ≤ n ∧ i = .int .i64 j ∧ u = s ∧ Sl wr w2.heap.size u (((outs k n (marks 0 n)).map (mir n)).take j) ∧ Kp Nw w2 wr) (fun _ _ i _ => n - (intOf i).toNat)
  case atStart => exact ⟨0, _, Nat.zero_le _, rfl, rfl, by simpa using Sl.nil _ _, Kp.refl _ _⟩
  case round =>
    rename_i wr
    obtain ⟨j, u, hj, rfl, rfl, hu, hk⟩ := hrel
    have HU := Lib.hid hu
    have HK3 := Lib.hid hk
    clear hu hk
    by_cases hlt : j < n
    · have c := keepc HK3.out (HS3.out.cell j hlt) (fun h => h)
      obtain ⟨b1, b2⟩ := outs_bd k n j hlt
      have ht : ((outs k n (marks 0 n)).map (mir n)).take (j + 1) = ((outs k n (marks 0 n)).map (mir n)).take j ++ [mir n ((outs k n (marks 0 n)).getD j 0)] := by
        have hl : j < (outs k n (marks 0 n)).length := by rw [outs_length]; exact hlt
        rw [List.take_add_one]
        simp [hl]
      obtain ⟨y, hy⟩ : ∃ y, (outs k n (marks 0 n)).getD j 0 = y := ⟨_, rfl⟩
      rw [hy] at c b1 b2 ht
      have q2 := mir_tmod n y b1 b2
      have e2 : ((n : Int) - y) % (n : Int) = mir n y := rfl
      have q1 : IntKind.i64.wrap ((n : Int) - y) = (n : Int) - y := IntWalk.i64_in _ (by omega)
      have HT := Lib.hid ht
      have hl : (((outs k n (marks 0 n)).map (mir n)).take j).length ≤ j := List.length_take_le _ _
      have HL := Lib.hid hl
      have j0 : (0 : Int) ≤ j := Int.natCast_nonneg _
      have j1 : (j : Int) < n := by omega
      have j2 : 0 ≤ (n : Int) - y := by omega
      clear ht hy hl
      go_wp2_with (first | (at_builtin; refine wpList_app _ rfl (.tmp 22) (.tmp 28) rfl w2.heap.size u _ (((outs k n (marks 0 n)).map (mir n)).take j) [mir n y] rfl rfl (HU.out.below (Kp.al _ _).below') (Rd.one (g := wr.heap.size) (by simp)) nil_one (by have := HL.out; simp only [List.length_cons, List.length_nil]; omega) (by have := HK3.out.size; simp; omega) ?_))
      intro v' w4 hs4 hk4 _
      have HS4 := Lib.hid hs4
      have HK4 := Lib.hid ((HK3.out.nw (.al _ _)).own (HU.out.below (Kp.al _ _).below') hk4)
      clear hs4 hk4
      go_wp2
      go_roundw
      case rel => exact ⟨j + 1, v', by omega, by go_num, rfl, by rw [HT.out]; exact HS4.out, HK4.out⟩
      case measure => simp [intOf]; omega
    · have e : j = n := by omega
      subst e
      have hu := HU.out
      rw [List.take_of_length_le (by rw [List.length_map, outs_length]; exact Nat.le_refl _)] at hu
      have HU := Lib.hid hu
      clear hu
      go_wp2
      go_ret2
      exact ⟨u, rfl, HU.out.from HK2.out.size, HK2.out.nw HK3.out⟩

set_option maxHeartbeats 1600000 in
theorem lawBackOrder_of (p k : Int) (xs : List Int) (b : Bool) (W : World) (hlen : xs.length ≤ 1000000)
    (hS : Hid (∀ W, Calls Try.prog 12 #[.int .i64 p, .int .i64 k] W (ListRes W xs b))) (hI : Hid (∀ W, Calls Try.prog 13 #[.int .i64 p, .int .i64 k] W (ListRes W xs b))) :
    Calls Try.prog 3 #[.int .i64 p, .int .i64 k] W fun e w' => e = .returned (.bool true) ∧ Kp Nw W w' := by
  obtain ⟨n, hn⟩ : ∃ n, xs.length = n := ⟨_, rfl⟩
  have HL : Hid (xs.length ≤ maxLen) := Lib.hid (by unfold maxLen; omega)
  have hlen : n ≤ 1000000 := by omega
  have hn0 : (0 : Int) ≤ n := Int.natCast_nonneg _
  have HN := Lib.hid hn
  clear hn
  go_enter Try.func3, Try.ntmps3
  go_wp2_with fail
  refine (hS.out _).mono ?_
  rintro e w1 ⟨v1, rfl, hs1, hk1⟩
  obtain ⟨A1, c1, rfl⟩ := hs1.val HN.out
  have HS1 := Lib.hid hs1; have HK1 := Lib.hid hk1; clear hs1 hk1
  go_wp2_with fail
  refine (hI.out _).mono ?_
  rintro e w2 ⟨v2, rfl, hs2, hk2⟩
  obtain ⟨A2, c2, rfl⟩ := hs2.val HN.out
  have O1 := Lib.hid HS1.out.own_ge
  have O2 := Lib.hid hs2.own_ge
  have HS1 := Lib.hid (HS1.out.below hk2.below')
  have HS2 := Lib.hid hs2; have HK2 := Lib.hid (HK1.out.nw hk2); have z2 := hk2.size; clear hs2 hk2
  go_wp2_with fail
  refine (eqIntS_same _ _ xs _ HS2.out.rd HS1.out.rd HL.out).mono ?_
  rintro e w3 ⟨rfl, d1, rfl⟩
  go_wp2_with fail
  refine (markIntS_any _ xs 1 _ _ (HS2.out.drewN d1) (by omega) (by omega) (by rw [HN.out]; omega)).mono ?_
  rintro e w4 ⟨rfl, hs4, hk4⟩
  rw [HN.out] at hs4 ⊢
  have HS1 := Lib.hid ((HS1.out.drewN d1).kp hk4 (fun g a b => by have := (O1.out g a).2; have := (O2.out g b).1; omega))
  have HS4 := Lib.hid hs4
  have HK4 := Lib.hid ((HK2.out.drewN d1).after hk4 (fun g hg b => by have := (O2.out g b).1; have := HK1.out.size; omega))
  clear hs4 hk4
  go_wp2_with fail
  refine (heldIntS_any _ 1 n _ HS4.out.rd (by omega) (by omega) (by omega)).mono ?_
  rintro e w5 ⟨rfl, rfl⟩
  go_wp2_with fail
  refine (hI.out _).mono ?_
  rintro e w6 ⟨v6, rfl, hs6, hk6⟩
  obtain ⟨A6, c6, rfl⟩ := hs6.val HN.out
  have HS4 := Lib.hid (HS4.out.below hk6.below')
  have HS1 := Lib.hid (HS1.out.below hk6.below')
  have HK6 := Lib.hid (HK4.out.nw hk6)
  have HS6 := Lib.hid hs6
  clear hs6 hk6
  go_wp2_with fail
  refine (eqIntS_same _ _ xs _ HS6.out.rd HS1.out.rd HL.out).mono ?_
  rintro e w7 ⟨rfl, d2, rfl⟩
  go_wp2_with fail
  refine (heldIntS_any _ 1 n _ (HS4.out.drewN d2).rd (by omega) (by omega) (by omega)).mono ?_
  rintro e w8 ⟨rfl, rfl⟩
  go_wp2
  go_ret
  exact ⟨rfl, HK6.out.drewN d2⟩

theorem lawBackOrder (p k : Int) (W : World) :
    Calls Try.prog 3 #[.int .i64 p, .int .i64 k] W fun e w' => e = .returned (.bool true) ∧ Kp Nw W w' := by
  by_cases h : Asked p k
  · obtain ⟨n, rfl⟩ : ∃ n : Nat, p = n := ⟨p.toNat, by have := h.p1; omega⟩
    have h2 := h.p2
    exact lawBackOrder_of n k ((outs k n (marks 0 n)).map (mir n)) true W (by rw [List.length_map, outs_length]; omega) (Lib.hid fun _ => sBackOrder_yes n k _ h) (Lib.hid fun _ => iBackOrder_yes n k _ h)
  · exact lawBackOrder_of p k [] false W (by simp) (Lib.hid fun _ => sBackOrder_no p k _ h) (Lib.hid fun _ => iBackOrder_no p k _ h)
end Go.Proofs.Ytgahlpniciafkaa
