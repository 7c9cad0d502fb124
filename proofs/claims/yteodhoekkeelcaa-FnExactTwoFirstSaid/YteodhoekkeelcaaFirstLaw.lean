/- The first people of the order out by twos (TwoFirst): the program and its model make the same list; no condition. -/
import Derived.Test.YteodhoekkeelcaaTwoFirst
import Derived.Test.YteodhoekkeelcaaTurnLaw
namespace Go.Proofs.Yteodhoekkeelcaa
open Go.ChangeShapes Go.WideShapes Go.ChangeAt Go.RowKit Go.IntWalk

theorem First.find {P : Rnd → Bool} {xs : List Rnd} {i : Nat} {x : Rnd} (h : First P xs i x) : xs.find? P = some x := by
  rw [List.find?_eq_some_iff_getElem]
  have hi := (List.getElem?_eq_some_iff.1 h.get)
  obtain ⟨hlt, hx⟩ := hi
  refine ⟨h.yes, i, hlt, hx, fun j hj => ?_⟩
  rw [h.no j xs[j] hj (List.getElem?_eq_getElem (by omega))]
  rfl
/-- who goes at a turn -/
def twv (p t : Nat) : Int := match (rounds p).find? (ltB t) with
  | some x => ((x.f + (t - x.b) * x.g : Nat) : Int)
  | none => 0
theorem twv_first {p t i : Nat} {x : Rnd} (h : First (ltB t) (rounds p) i x) : twv p t = ((x.f + (t - x.b) * x.g : Nat) : Int) := by
  unfold twv
  rw [h.find]
/-- who goes at the first turns -/
def tws (p c : Nat) : List Int := (List.range c).map (twv p)
theorem tws_len (p c : Nat) : (tws p c).length = c := by simp [tws]
theorem tws_succ (p c : Nat) : tws p (c + 1) = tws p c ++ [twv p c] := by simp [tws, List.range_succ]
theorem tws_add (p a k : Nat) : tws p (a + k) = tws p a ++ (List.range k).map fun i => twv p (a + i) := by
  unfold tws
  rw [List.range_add, List.map_append, List.map_map]
  rfl
theorem ext_tws (p c e : Nat) (x : Rnd) (he : e = x.b + x.s) (hF : ∀ t, x.b ≤ t → t < x.b + x.s → atv x t = twv p t) : ext c (tws p (min c x.b)) x = tws p (min c e) := by
  subst he
  unfold ext extTo
  rw [tws_len]
  obtain ⟨k, hk⟩ : ∃ k, min c (x.b + x.s) - min c x.b = k := ⟨_, rfl⟩
  rw [hk, show min c (x.b + x.s) = min c x.b + k by omega, tws_add]
  congr 1
  refine List.map_congr_left fun i hi => ?_
  have hik := List.mem_range.1 hi
  by_cases hc : c ≤ x.b
  · omega
  · rw [show min c x.b = x.b by omega]
    exact hF _ (by omega) (by omega)
theorem atv_in (x : Rnd) (t : Nat) (hf : x.f ≤ 4000000000000) (hb : x.b ≤ t) (hg : (t - x.b) * x.g ≤ 4000000000000) : atv x t = ((x.f + (t - x.b) * x.g : Nat) : Int) := by
  unfold atv
  have e : ((t : Int) - x.b) * x.g = (((t - x.b) * x.g : Nat) : Int) := by
    rw [show (t : Int) - x.b = ((t - x.b : Nat) : Int) by omega]
    simp
  rw [e]
  obtain ⟨y, hy⟩ : ∃ y, (t - x.b) * x.g = y := ⟨_, rfl⟩
  rw [hy] at hg ⊢
  rw [wrap64_in (y : Int) (by omega), wrap64_in _ (by omega)]
  omega
theorem acc_rnds (p c : Nat) (hp1 : 1 ≤ p) (hp2 : p ≤ 1000000000000) : ∀ (m f g l q : Nat) (pre : List Rnd) (a : List Int), l ≤ m → rounds p = pre ++ rnds p f g l q → Fit p f g l q → (∀ y ∈ pre, y.b + y.s ≤ p - l) → a = tws p (min c (p - l)) →
    (rnds p f g l q).foldl (fun a x => ext c a x) a = tws p (min c p) := by
  intro m
  induction m with
  | zero => intro f g l q pre a hl _ hf; have := hf.l1; omega
  | succ m ih =>
    intro f g l q pre a hl hx hf hpre ha
    have hl2 := hf.l2
    by_cases h2 : 2 ≤ l
    · have hb := rsz_bd l q h2 hf.q1
      have hbd := rnds_all p hp1 hp2 l f g l q (Nat.le_refl _) hf ⟨f + q * g, 2 * g, rsz l q, p - l⟩ (by rw [rnds_go p f g l q h2 hf.q1]; simp)
      rw [rnds_go p f g l q h2 hf.q1] at hx ⊢
      rw [List.foldl_cons]
      refine ih _ _ _ _ (pre ++ [⟨f + q * g, 2 * g, rsz l q, p - l⟩]) _ (by omega) (by rw [hx]; simp) (hf.next h2) ?_ ?_
      · intro y hy
        rcases List.mem_append.1 hy with h | h
        · have := hpre y h; omega
        · obtain rfl : y = _ := by simpa using h
          simp only; omega
      · rw [ha]
        refine ext_tws p c _ ⟨f + q * g, 2 * g, rsz l q, p - l⟩ (by simp only; omega) fun t h3 h4 => ?_
        simp only at h3 h4
        have hT : Turn p t l (t - (p - l)) := ⟨by omega, by omega⟩
        obtain ⟨a1, a2, a3⟩ := hT.hit hf h2 (by omega)
        have hall : ∀ y ∈ pre, ltB t y = false := fun y hy => by
          unfold ltB
          simp only [decide_eq_false_iff_not]
          have := hpre y hy; omega
        rw [twv_first (First.here hx hall a1)]
        refine atv_in _ _ (by have := hbd.2.2.2.2; simp only at this ⊢; omega) h3 ?_
        simp only
        refine Nat.le_trans ?_ (Nat.le_trans a3 (by omega))
        rw [show (t - (p - l)) * (2 * g) = g * (2 * (t - (p - l))) by rw [Nat.mul_comm 2 g, Nat.mul_comm _ (g * 2), Nat.mul_assoc]]
        exact Nat.mul_le_mul_left g (by omega)
    · rw [rnds_end p f g l q h2] at hx ⊢
      rw [List.foldl_cons, List.foldl_nil, ha]
      have hl1 := hf.l1
      rw [show p - l = p - 1 by omega]
      refine ext_tws p c _ ⟨f, g, 1, p - 1⟩ (by simp only; omega) fun t h3 h4 => ?_
      simp only at h3 h4
      have hT : Turn p t l (t - (p - l)) := ⟨by omega, by omega⟩
      obtain ⟨a1, a2⟩ := hT.last hf h2
      have hall : ∀ y ∈ pre, ltB t y = false := fun y hy => by
        unfold ltB
        simp only [decide_eq_false_iff_not]
        have := hpre y hy; omega
      rw [twv_first (First.here hx hall a1)]
      have hfg := hf.f1; have hg2 := hf.g2
      refine atv_in _ _ (by simp only; omega) h3 ?_
      simp only
      rw [show t - (p - 1) = 0 by omega]
      omega
theorem acc_rounds (p c : Nat) (hp1 : 1 ≤ p) (hp2 : p ≤ 1000000000000) (hc : c ≤ p) (ys : List Rok) (hy : ys.map (·.1) = rounds p) : acc c ys = tws p c := by
  have h := acc_rnds p c hp1 hp2 p 0 1 p 1 [] [] (Nat.le_refl _) rfl (Fit.start p hp1) (fun y hy => by cases hy) (by simp [tws])
  rw [show min c p = c by omega] at h
  rw [← h]
  unfold acc
  rw [show rnds p 0 1 p 1 = ys.map (·.1) from hy.symm, List.foldl_map]

theorem iTwoFirst_yes (p c : Nat) (w : World) (h : In p 1 1000000000000) (hc1 : c ≤ p) (hc2 : c ≤ 200) : Calls Try.prog 26 #[.int .i64 p, .int .i64 c] w (ListB w (tws p c) true) :=
  (callsIn_wide.1 (first_in 3 (Nat.le_refl _) p c w h hc1 hc2 _ rfl)).mono fun e w' hh => by
    obtain ⟨ys, h1, h2⟩ := hh
    have a1 := h.lo; have a2 := h.hi
    rwa [acc_rounds p c (by omega) (by omega) hc1 ys h1] at h2
theorem iTwoFirst_no1 (p c : Int) (W : World) (h : ¬ In p 1 1000000000000) : Calls Try.prog 26 #[.int .i64 p, .int .i64 c] W (ListB W [] false) := by
  go_enter Try.func26, Try.ntmps26
  go_wp2_with (first | ((with_reducible refine (isMany_no _ _ h).mono ?_); rintro e w' ⟨rfl, rfl⟩))
  go_ret2
  exact ⟨_, rfl, Sl.nil _ _, Kp.al _ _⟩
theorem iTwoFirst_no2 (p c M : Int) (W : World) (h : In p 1 1000000000000) (hM : (if (200 : Int) < p then 200 else p) = M) (hc : c < 0 ∨ M < c) : Calls Try.prog 26 #[.int .i64 p, .int .i64 c] W (ListB W [] false) := by
  have h1 := h.lo; have h2 := h.hi
  by_cases hp : (200 : Int) < p
  · obtain rfl : 200 = M := by rw [← hM]; rw [if_pos hp]
    clear hM
    go_enter Try.func26, Try.ntmps26
    go_wp2_with (first | ((with_reducible refine (isMany_yes _ _ h).mono ?_); rintro e w' ⟨rfl, rfl⟩) | ((with_reducible refine (within_no c _ _ _ (by omega)).mono ?_); rintro e w' ⟨rfl, rfl⟩))
    go_ret2
    exact ⟨_, rfl, Sl.nil _ _, Kp.al _ _⟩
  · obtain rfl : p = M := by rw [← hM]; rw [if_neg hp]
    clear hM
    go_enter Try.func26, Try.ntmps26
    go_wp2_with (first | ((with_reducible refine (isMany_yes _ _ h).mono ?_); rintro e w' ⟨rfl, rfl⟩) | ((with_reducible refine (within_no c _ _ _ (by omega)).mono ?_); rintro e w' ⟨rfl, rfl⟩))
    go_ret2
    exact ⟨_, rfl, Sl.nil _ _, Kp.al _ _⟩

theorem l1Least_any (a b M : Int) (w : World) (hM : (if b < a then b else a) = M) : Calls Try.prog 45 #[.int .i64 a, .int .i64 b] w fun e w' => e = .returned (.int .i64 M) ∧ w = w' := by
  by_cases h : b < a
  · obtain rfl : b = M := by rw [← hM]; rw [if_pos h]
    have h' : ¬ a < b := by omega
    clear hM
    go_enter Try.func45, Try.ntmps45
    go_wp2
    go_ret
    exact ⟨rfl, rfl⟩
  · obtain rfl : a = M := by rw [← hM]; rw [if_neg h]
    clear hM
    by_cases h2 : a < b
    · go_enter Try.func45, Try.ntmps45
      go_wp2
      go_ret
      exact ⟨rfl, rfl⟩
    · obtain rfl : a = b := by omega
      go_enter Try.func45, Try.ntmps45
      go_wp2
      go_ret
      exact ⟨rfl, rfl⟩

theorem sTwoFirst_no1 (p c : Int) (W : World) (h : ¬ In p 1 1000000000000) : Calls Try.prog 25 #[.int .i64 p, .int .i64 c] W (ListB W [] false) := by
  go_enter Try.func25, Try.ntmps25
  go_wp2_with (first | ((with_reducible refine (twGood_no _ _ h).mono ?_); rintro e w' ⟨rfl, rfl⟩))
  go_ret2
  exact listB_nil _ _
theorem sTwoFirst_no2 (p c M : Int) (W : World) (h : In p 1 1000000000000) (hM : (if (200 : Int) < p then 200 else p) = M) (hc : c < 0 ∨ M < c) : Calls Try.prog 25 #[.int .i64 p, .int .i64 c] W (ListB W [] false) := by
  have h1 := h.lo; have h2 := h.hi
  have HM := Lib.hid hM
  clear hM
  go_enter Try.func25, Try.ntmps25
  go_wp2_with (first | ((with_reducible refine (twGood_yes _ _ h).mono ?_); rintro e w' ⟨rfl, rfl⟩) | ((with_reducible refine (l1Least_any _ _ M _ HM.out).mono ?_); rintro e w' ⟨rfl, rfl⟩) | ((with_reducible refine (l1In_no c _ _ _ (by omega)).mono ?_); rintro e w' ⟨rfl, rfl⟩))
  go_ret2
  exact listB_nil _ _

set_option maxRecDepth 100000 in
set_option maxHeartbeats 1600000 in
theorem sTwoFirst_yes (p c : Nat) (W : World) (h : In p 1 1000000000000) (hc1 : c ≤ p) (hc2 : c ≤ 200) (M : Int) (hM : (if (200 : Int) < p then 200 else (p : Int)) = M) : Calls Try.prog 25 #[.int .i64 p, .int .i64 c] W (ListB W (tws p c) true) := by
  have h1 := h.lo; have h2 := h.hi
  have c0 : (0 : Int) ≤ c := Int.natCast_nonneg _
  have hcM : (c : Int) ≤ M := by rw [← hM]; split <;> omega
  have c2 : (c : Int) ≤ 200 := by omega
  have HM := Lib.hid hM
  clear hM
  go_enter Try.func25, Try.ntmps25
  go_wp2_with (first | ((with_reducible refine (twGood_yes _ _ h).mono ?_); rintro e w' ⟨rfl, rfl⟩) | ((with_reducible refine (l1Least_any _ _ M _ HM.out).mono ?_); rintro e w' ⟨rfl, rfl⟩) | ((with_reducible refine (l1In_yes _ _ _ _ (by omega) (by omega)).mono ?_); rintro e w' ⟨rfl, rfl⟩))
  go_loopw [6, 7] (fun s i wr => ∃ (q : Nat) (v : Value), q ≤ c ∧ i = .int .i64 q ∧ v = s ∧ Sl wr W.heap.size v (tws p q) ∧ Kp Nw W wr) (fun _ i _ => c - (intOf i).toNat)
  case atStart => exact ⟨0, _, by omega, rfl, rfl, by simpa [tws] using Sl.nil _ _, .refl _ _⟩
  case round =>
    rename_i wr
    obtain ⟨q, v, hq2, rfl, rfl, hs, hk⟩ := hrel
    have HS := Lib.hid hs
    have HK := Lib.hid hk
    clear hs hk
    have wle := tws_len p q
    have q2 : (q : Int) ≤ c := by omega
    by_cases hlt : q < c
    · have q1 : (q : Int) < c := by omega
      obtain ⟨i, x, hF, hx⟩ := lt_start p q (by omega)
      have e := twv_first hF
      have CC := Lib.hid (fun w => twAt_any p q i x w h (by omega) hF)
      obtain ⟨V, hV⟩ : ∃ V : Nat, x.f + (q - x.b) * x.g = V := ⟨_, rfl⟩
      rw [hV] at CC e
      have HE := Lib.hid (tws_succ p q)
      rw [e] at HE
      clear e hV hF hx
      go_wp2_with (first | ((with_reducible refine (CC.out _).mono ?_); rintro e w' ⟨rfl, rfl⟩) | (at_builtin; refine wpList_app _ rfl (.tmp 23) (.tmp 27) rfl W.heap.size v _ (tws p q) [(V : Int)] rfl rfl (HS.out.below (Kp.al _ _).below') (Rd.one (g := wr.heap.size) (by simp)) nil_one (by simp; omega) (by have := HK.out.size; simp; omega) ?_))
      intro v' w4 hs4 hk4 _
      have HS4 := Lib.hid hs4
      have HK4 := Lib.hid ((HK.out.nw (.al _ _)).own (HS.out.below (Kp.al _ _).below') hk4)
      clear hs4 hk4
      go_wp2
      go_roundw
      case rel => exact ⟨q + 1, v', by omega, by go_num, rfl, by rw [HE.out]; exact HS4.out, HK4.out⟩
      case measure => simp [intOf]; omega
    · obtain rfl : q = c := by omega
      go_wp2
      go_ret2
      exact ⟨v, rfl, HS.out, HK.out⟩

set_option maxHeartbeats 1600000 in
theorem lawTwoFirst_of (p : Int) (c : Int) (xs : List Int) (b : Bool) (W : World) (hlen : xs.length ≤ 1000000)
    (hS : Hid (∀ w, Kp Nw W w → Calls Try.prog 25 #[.int .i64 p, .int .i64 c] w (ListB w xs b))) (hI : Hid (∀ w, Kp Nw W w → Calls Try.prog 26 #[.int .i64 p, .int .i64 c] w (ListB w xs b))) :
    Calls Try.prog 9 #[.int .i64 p, .int .i64 c] W fun e w' => e = .returned (.bool true) ∧ Kp Nw W w' := by
  obtain ⟨n, hn⟩ : ∃ n, xs.length = n := ⟨_, rfl⟩
  have HL : Hid (xs.length ≤ maxLen) := Lib.hid (by unfold maxLen; omega)
  have hlen : n ≤ 1000000 := by omega
  have hn0 : (0 : Int) ≤ n := Int.natCast_nonneg _
  have HN := Lib.hid hn
  clear hn
  go_enter Try.func9, Try.ntmps9
  go_wp2_with fail
  refine (hS.out _ (.refl _ _)).mono ?_
  rintro e w1 ⟨v1, rfl, hs1, hk1⟩
  obtain ⟨A1, c1, rfl⟩ := hs1.val HN.out
  have HS1 := Lib.hid hs1; have HK1 := Lib.hid hk1; clear hs1 hk1
  go_wp2_with fail
  refine (hI.out _ HK1.out).mono ?_
  rintro e w2 ⟨v2, rfl, hs2, hk2⟩
  obtain ⟨A2, c2, rfl⟩ := hs2.val HN.out
  have O1 := Lib.hid HS1.out.own_ge
  have O2 := Lib.hid hs2.own_ge
  have HS1 := Lib.hid (HS1.out.below hk2.below')
  have HS2 := Lib.hid hs2; have HK2 := Lib.hid (HK1.out.nw hk2); have z2 := hk2.size; clear hs2 hk2
  go_wp2_with fail
  refine (eqIntS_same _ _ xs _ HS2.out.rd HS1.out.rd HL.out).mono ?_
  rintro e w3 ⟨rfl, d1, rfl⟩
  go_wp2_with fail
  refine (markIntS_any _ xs 1 _ _ (HS2.out.drewN d1) (by omega) (by omega) (by rw [HN.out]; omega)).mono ?_
  rintro e w4 ⟨rfl, hs4, hk4⟩
  rw [HN.out] at hs4 ⊢
  have HS1 := Lib.hid ((HS1.out.drewN d1).kp hk4 (fun g a b => by have := (O1.out g a).2; have := (O2.out g b).1; omega))
  have HS4 := Lib.hid hs4
  have HK4 := Lib.hid ((HK2.out.drewN d1).after hk4 (fun g hg b => by have := (O2.out g b).1; have := HK1.out.size; omega))
  clear hs4 hk4
  go_wp2_with fail
  refine (heldIntS_any _ 1 n _ HS4.out.rd (by omega) (by omega) (by omega)).mono ?_
  rintro e w5 ⟨rfl, rfl⟩
  go_wp2_with fail
  refine (hI.out _ HK4.out).mono ?_
  rintro e w6 ⟨v6, rfl, hs6, hk6⟩
  obtain ⟨A6, c6, rfl⟩ := hs6.val HN.out
  have HS4 := Lib.hid (HS4.out.below hk6.below')
  have HS1 := Lib.hid (HS1.out.below hk6.below')
  have HK6 := Lib.hid (HK4.out.nw hk6)
  have HS6 := Lib.hid hs6
  clear hs6 hk6
  go_wp2_with fail
  refine (eqIntS_same _ _ xs _ HS6.out.rd HS1.out.rd HL.out).mono ?_
  rintro e w7 ⟨rfl, d2, rfl⟩
  go_wp2_with fail
  refine (heldIntS_any _ 1 n _ (HS4.out.drewN d2).rd (by omega) (by omega) (by omega)).mono ?_
  rintro e w8 ⟨rfl, rfl⟩
  go_wp2
  go_ret
  exact ⟨rfl, HK6.out.drewN d2⟩

theorem lawTwoFirst (p c : Int) (W : World) :
    Calls Try.prog 9 #[.int .i64 p, .int .i64 c] W fun e w' => e = .returned (.bool true) ∧ Kp Nw W w' := by
  by_cases h : In p 1 1000000000000
  · have h1 := h.lo
    obtain ⟨M, hM⟩ : ∃ M, (if (200 : Int) < p then 200 else p) = M := ⟨_, rfl⟩
    by_cases hc : c < 0 ∨ M < c
    · exact lawTwoFirst_of p c [] false W (by simp) (Lib.hid fun w _ => sTwoFirst_no2 p c M w h hM hc) (Lib.hid fun w hk => iTwoFirst_no2 p c M w h hM hc)
    · have hM1 : M ≤ p ∧ M ≤ 200 := by rw [← hM]; split <;> omega
      obtain ⟨n, rfl⟩ : ∃ n : Nat, p = n := ⟨p.toNat, by omega⟩
      obtain ⟨k, rfl⟩ : ∃ k : Nat, c = k := ⟨c.toNat, by omega⟩
      exact lawTwoFirst_of n k (tws n k) true W (by rw [tws_len]; omega) (Lib.hid fun w _ => sTwoFirst_yes n k w h (by omega) (by omega) M hM) (Lib.hid fun w hk => iTwoFirst_yes n k w h (by omega) (by omega))
  · exact lawTwoFirst_of p c [] false W (by simp) (Lib.hid fun w _ => sTwoFirst_no1 p c w h) (Lib.hid fun w hk => iTwoFirst_no1 p c w h)
end Go.Proofs.Yteodhoekkeelcaa
