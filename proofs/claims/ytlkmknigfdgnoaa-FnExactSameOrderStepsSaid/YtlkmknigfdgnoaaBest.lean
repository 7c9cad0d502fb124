/- The texts BestS, BestI, as one. -/
import Derived.Test.YtlkmknigfdgnoaaLaws
import Derived.Test.YtlkmknigfdgnoaaSav
import Derived.Test.YtlkmknigfdgnoaaPerI
namespace Go.Proofs.Ytlkmknigfdgnoaa
open Go.ChangeShapes Go.WideShapes Go.ChangeAt Go.RowKit

/-- how often each person is left for the steps 1 .. s -/
def cntU (n s : Nat) : List Int := (List.range n).map (fun i : Nat => ((countK (isLast n (i : Int)) s : Nat) : Int))
theorem cntU_length (n s : Nat) : (cntU n s).length = n := by unfold cntU; simp
theorem cntU_get (n s i : Nat) (h : i < n) : (cntU n s).getD i 0 = ((countK (isLast n (i : Int)) s : Nat) : Int) := by
  rw [List.getD_eq_getElem?_getD, List.getElem?_eq_getElem (by rw [cntU_length]; exact h)]
  simp [cntU]
theorem cntU_zero (n : Nat) : cntU n 0 = List.replicate n 0 := by
  apply List.ext_getElem
  · rw [cntU_length, List.length_replicate]
  · intro i h1 h2
    rw [cntU_length] at h1
    simp [cntU, countK]
theorem cntU_full (n P : Nat) : cntD n P 0 = cntU n P := by
  unfold cntD cntU
  simp [countK]
theorem cntU_set (n m x : Nat) (hx : x < n) (e : lastN ((m : Int) + 1) (n - 1) = (x : Int)) : (cntU n m).set x ((cntU n m).getD x 0 + 1) = cntU n (m + 1) := by
  apply List.ext_getElem
  · rw [List.length_set, cntU_length, cntU_length]
  · intro i h1 h2
    rw [cntU_length] at h2
    have hil : isLast n (i : Int) (m + 1) = decide (x = i) := by
      unfold isLast
      rw [show ((m + 1 : Nat) : Int) = (m : Int) + 1 by omega, e]
      by_cases h : x = i
      · rw [decide_eq_true h, decide_eq_true (by omega)]
      · rw [decide_eq_false h, decide_eq_false (by omega)]
    have hm1 : (cntU n (m + 1))[i]'(by rw [cntU_length]; exact h2) = ((countK (isLast n (i : Int)) (m + 1) : Nat) : Int) := by simp [cntU]
    have hm : (cntU n m)[i]'(by rw [cntU_length]; exact h2) = ((countK (isLast n (i : Int)) m : Nat) : Int) := by simp [cntU]
    rw [List.getElem_set, hm1, countK, hil]
    by_cases h : x = i
    · subst h
      rw [if_pos rfl, cntU_get n m x hx, if_pos (decide_eq_true rfl)]
      omega
    · rw [if_neg h, hm, if_neg (by simp [h])]
      rfl
theorem cntU_bd (n s i : Nat) (h : i < n) : 0 ≤ (cntU n s).getD i 0 ∧ (cntU n s).getD i 0 ≤ s := by
  rw [cntU_get n s i h]
  have := countK_le (isLast n (i : Int)) s
  omega
/-- m is the greatest of a list -/
def IsMax (xs : List Int) (m : Int) : Prop := (∀ i, i < xs.length → xs.getD i 0 ≤ m) ∧ ∃ i, i < xs.length ∧ xs.getD i 0 = m
theorem IsMax.uniq {xs : List Int} {a b : Int} (h : IsMax xs a) (k : IsMax xs b) : a = b := by
  obtain ⟨i, h1, h2⟩ := h.2
  obtain ⟨j, k1, k2⟩ := k.2
  have := k.1 i h1
  have := h.1 j k1
  omega
def maxT (xs : List Int) : Nat → Int
  | 0 => xs.getD 0 0
  | j + 1 => if maxT xs j < xs.getD (j + 1) 0 then xs.getD (j + 1) 0 else maxT xs j
theorem maxT_is (xs : List Int) : ∀ j, (∀ i, i ≤ j → xs.getD i 0 ≤ maxT xs j) ∧ ∃ i, i ≤ j ∧ xs.getD i 0 = maxT xs j
  | 0 => ⟨fun i h => by rw [show i = 0 by omega]; exact Int.le_refl _, 0, Nat.le_refl _, rfl⟩
  | j + 1 => by
    obtain ⟨h1, i, hi, h2⟩ := maxT_is xs j
    rw [maxT]
    by_cases h : maxT xs j < xs.getD (j + 1) 0
    · rw [if_pos h]
      refine ⟨fun k hk => ?_, j + 1, Nat.le_refl _, rfl⟩
      by_cases e : k = j + 1
      · subst e; exact Int.le_refl _
      · have := h1 k (by omega)
        omega
    · rw [if_neg h]
      refine ⟨fun k hk => ?_, i, by omega, h2⟩
      by_cases e : k = j + 1
      · subst e; omega
      · exact h1 k (by omega)
/-- the greatest of a list that is not empty -/
def maxL (xs : List Int) : Int := maxT xs (xs.length - 1)
theorem maxL_is (xs : List Int) (h : 0 < xs.length) : IsMax xs (maxL xs) := by
  obtain ⟨h1, i, hi, h2⟩ := maxT_is xs (xs.length - 1)
  exact ⟨fun k hk => h1 k (by omega), i, by omega, h2⟩
theorem max_zero (n : Nat) (n1 : 1 ≤ n) : IsMax (cntU n 0) 0 := by
  refine ⟨fun i hi => ?_, 0, by rw [cntU_length]; omega, ?_⟩
  · rw [cntU_length] at hi
    rw [cntU_get n 0 i hi]; simp [countK]
  · rw [cntU_get n 0 0 (by omega)]; simp [countK]
theorem max_step (xs : List Int) (m : Int) (x : Nat) (hx : x < xs.length) (h : IsMax xs m) : IsMax (xs.set x (xs.getD x 0 + 1)) (if m > xs.getD x 0 + 1 then m else xs.getD x 0 + 1) := by
  have hg : ∀ i, i < xs.length → (xs.set x (xs.getD x 0 + 1)).getD i 0 = if x = i then xs.getD x 0 + 1 else xs.getD i 0 := fun i hi => by
    rw [List.getD_eq_getElem?_getD, List.getElem?_eq_getElem (by rw [List.length_set]; exact hi), List.getElem_set]
    by_cases e : x = i
    · rw [if_pos e, if_pos e]; rfl
    · rw [if_neg e, if_neg e]; simp [hi]
  have hl : (xs.set x (xs.getD x 0 + 1)).length = xs.length := List.length_set
  obtain ⟨h1, i, hi, h2⟩ := h
  by_cases hm : m > xs.getD x 0 + 1
  · rw [if_pos hm]
    refine ⟨fun k hk => ?_, i, by rw [hl]; exact hi, ?_⟩
    · rw [hl] at hk
      rw [hg k hk]
      have := h1 k hk
      split <;> omega
    · rw [hg i hi, if_neg (fun e => by subst e; omega)]
      exact h2
  · rw [if_neg hm]
    refine ⟨fun k hk => ?_, x, by rw [hl]; exact hx, ?_⟩
    · rw [hl] at hk
      rw [hg k hk]
      have := h1 k hk
      split <;> omega
    · rw [hg x hx, if_pos rfl]
/-- the first j places that hold m -/
def bestT (xs : List Int) (m : Int) (j : Nat) : List Int := ((List.range j).filter (fun i : Nat => decide (xs.getD i 0 = m))).map (fun i : Nat => (i : Int))
theorem bestT_yes (xs : List Int) (m : Int) (j : Nat) (h : xs.getD j 0 = m) : bestT xs m (j + 1) = bestT xs m j ++ [(j : Int)] := by
  unfold bestT
  rw [List.range_succ, List.filter_append, List.map_append, List.filter_cons_of_pos (by simpa using h)]
  rfl
theorem bestT_no (xs : List Int) (m : Int) (j : Nat) (h : ¬ xs.getD j 0 = m) : bestT xs m (j + 1) = bestT xs m j := by
  unfold bestT
  rw [List.range_succ, List.filter_append, List.map_append, List.filter_cons_of_neg (by simpa using h)]
  simp
theorem bestT_le (xs : List Int) (m : Int) : ∀ j, (bestT xs m j).length ≤ j
  | 0 => Nat.le_refl 0
  | j + 1 => by
    have := bestT_le xs m j
    by_cases h : xs.getD j 0 = m
    · rw [bestT_yes xs m j h, List.length_append]
      simp
      exact this
    · rw [bestT_no xs m j h]
      omega
def vBestPlaces (p s : Int) : List Int × Bool := if 1 ≤ p ∧ p ≤ 200 ∧ 1 ≤ s ∧ s ≤ 200 then (bestT (cntU p.toNat s.toNat) (maxL (cntU p.toNat s.toNat)) p.toNat, true) else ([], false)
theorem vBestPlaces_len (p s : Int) : (vBestPlaces p s).1.length ≤ 1000000 := by
  unfold vBestPlaces
  split
  · show (bestT _ _ p.toNat).length ≤ 1000000
    have := bestT_le (cntU p.toNat s.toNat) (maxL (cntU p.toNat s.toNat)) p.toNat
    omega
  · exact Nat.zero_le _

theorem l1Most_any (a b : Int) (w : World) : Calls Try.prog 65 #[.int .i64 a, .int .i64 b] w fun e w' => e = .returned (.int .i64 (if a > b then a else b)) ∧ w = w' := by
  by_cases h : a > b
  · rw [if_pos h]
    go_enter Try.func65, Try.ntmps65
    go_wp2
    go_ret
    exact ⟨rfl, rfl⟩
  · rw [if_neg h]
    have h2 : a ≤ b := by omega
    go_enter Try.func65, Try.ntmps65
    go_wp2
    go_ret
    exact ⟨rfl, rfl⟩
set_option maxRecDepth 100000 in
set_option maxHeartbeats 3200000 in
theorem sBestPlaces_yes (n s : Nat) (W : World) (n1 : 1 ≤ n) (n2 : n ≤ 200) (s1 : 1 ≤ s) (s2 : s ≤ 200) : Calls Try.prog 37 #[.int .i64 n, .int .i64 s] W (ListB W (bestT (cntU n s) (maxL (cntU n s)) n) true) := by
  obtain ⟨i0, hi0, hz0, hz1, hz2⟩ := info_parts intInfo
  have p0 : 1 ≤ (n : Int) := by omega
  have p1 : (n : Int) ≤ 200 := by omega
  have q0 : 1 ≤ (s : Int) := by omega
  have q1 : (s : Int) ≤ 200 := by omega
  obtain ⟨RES, hRES⟩ : ∃ RES, bestT (cntU n s) (maxL (cntU n s)) n = RES := ⟨_, rfl⟩
  rw [hRES]
  have HRES := Lib.hid hRES
  clear hRES
  go_enter Try.func37, Try.ntmps37
  go_wp2_with (first | ((with_reducible refine (saTable_yes _ _ _ p0 p1 q0 q1).mono ?_); rintro e w' ⟨rfl, rfl⟩) | (at_make; refine wpList_make_full _ rfl _ _ 25 rfl W.heap.size 3 i0 (.int .i64 0) 1 Try.underlying25 hi0 hz0 hz1 _ _ _ _ n rfl rfl rfl rfl (by rw [hz2]; omega) (by unfold maxLen; omega) (Nat.le_refl _) ?_))
  intro w3 hown hgrow
  have hk3 : Kp Nw W w3 := (Kp.refl Nw _).grown hgrow (fun g hg => by cases hg)
  have HS0 := Lib.hid (Sl.zeros hown)
  obtain ⟨gm, hgm⟩ : ∃ gm, gm = W.heap.size := ⟨_, rfl⟩
  have HK3 := Lib.hid hk3
  have hl3 : gm < w3.heap.size := by rw [hgm]; exact (World.ownsRow.lt hown _ rfl).2
  rw [← hgm] at HS0 ⊢
  have HGM := Lib.hid hgm
  clear hown hgrow hk3 hgm
  have HS1 : Hid (SlAt w3 gm gm n n (cntU n 0)) := Lib.hid (by rw [cntU_zero]; exact HS0.out)
  clear HS0
  go_wp2
  go_loopw [7, 8] (fun mv i wx => ∃ (t : Nat) (m : Int), t ≤ s ∧ i = .int .i64 ((t + 1 : Nat) : Int) ∧ mv = .int .i64 m ∧ IsMax (cntU n t) m ∧ SlAt wx gm gm n n (cntU n t) ∧ Kp (fun b => b = gm) w3 wx) (fun _ i _ => s + 1 - (intOf i).toNat)
  case atStart => exact ⟨0, 0, Nat.zero_le _, rfl, rfl, max_zero n n1, HS1.out, Kp.refl _ _⟩
  case round =>
    obtain ⟨t, m, ht, rfl, rfl, hm, hs, hk⟩ := hrel
    have HSX := Lib.hid hs
    have HKX := Lib.hid hk
    have HMX := Lib.hid hm
    have t0 : (0 : Int) ≤ t := Int.natCast_nonneg _
    by_cases htl : t < s
    · have t1 : ((t + 1 : Nat) : Int) ≤ s := by omega
      have w2 : IntKind.i64.wrap (((t + 1 : Nat) : Int) + 1) = ((t + 1 + 1 : Nat) : Int) := by rw [IntWalk.i64_in _ (by omega)]; omega
      obtain ⟨b1, b2⟩ := lastN_bd ((t : Int) + 1) (n - 1)
      obtain ⟨q, hq⟩ : ∃ q : Nat, lastN ((t : Int) + 1) (n - 1) = q := ⟨(lastN ((t : Int) + 1) (n - 1)).toNat, by omega⟩
      have ql : q < n := by omega
      have qn0 : (0 : Int) ≤ q := Int.natCast_nonneg _
      have qn1 : (q : Int) < n := by omega
      have HSET := Lib.hid (cntU_set n t q ql hq)
      have cs := hs.cell q ql
      have fs := hs.frozen q
      have hmx := max_step (cntU n t) m q (by rw [cntU_length]; exact ql) hm
      rw [HSET.out] at hmx
      have bd := cntU_bd n t q ql
      obtain ⟨v, hv⟩ : ∃ v, (cntU n t).getD q 0 = v := ⟨_, rfl⟩
      rw [hv] at cs HSET hmx bd
      have HQ2 : Hid (lastN ((t + 1 : Nat) : Int) (n - 1) = (q : Int)) := Lib.hid (by rw [show ((t + 1 : Nat) : Int) = (t : Int) + 1 by omega]; exact hq)
      have wv : IntKind.i64.wrap (v + 1) = v + 1 := IntWalk.i64_in _ (by omega)
      obtain ⟨m', hm'⟩ : ∃ m', (if m > v + 1 then m else v + 1) = m' := ⟨_, rfl⟩
      rw [hm'] at hmx
      have HM' := Lib.hid hm'
      have HMN := Lib.hid hmx
      clear hs hk hq b1 b2 hv hm hmx hm'
      go_wp2_with fail
      refine (ciLast_any n ((t + 1 : Nat) : Int) _ n1 (by omega) (by omega) (by omega)).mono ?_
      rw [HQ2.out]
      rintro e w' ⟨rfl, rfl⟩
      go_wp2_with fail
      refine (l1Most_any _ _ _).mono ?_
      rw [HM'.out]
      rintro e w' ⟨rfl, rfl⟩
      go_wp2
      go_roundw
      case rel => exact ⟨t + 1, m', by omega, by go_num, rfl, HMN.out, by rw [← HSET.out]; exact HSX.out.store q (v + 1), HKX.out.setCell (.inl rfl) _⟩
      case measure => simp [intOf] <;> omega
    · have e : t = s := by omega
      subst e
      have t1 : ¬ ((t + 1 : Nat) : Int) ≤ t := by omega
      obtain ⟨xs, hxs⟩ : ∃ xs, cntU n t = xs := ⟨_, rfl⟩
      rw [hxs] at hm hs HRES
      have hxl : xs.length = n := by rw [← hxs, cntU_length]
      have hmm : m = maxL xs := hm.uniq (maxL_is xs (by omega))
      have HSEQ : Hid (bestT xs m n = RES) := Lib.hid (by rw [hmm]; exact HRES.out)
      have HSA := Lib.hid hs
      have HK1 := Lib.hid (HK3.out.after hk (fun g hg h => by have h9 : g = gm := h; have := HGM.out; omega))
      clear hs hk hm hmm hxs hxl HSX HMX
      obtain ⟨wq, rfl⟩ : ∃ wq, wq = wr := ⟨_, rfl⟩
      go_wp2
      go_loopw [10, 41] (fun o i wr => ∃ (j : Nat) (r : Value), j ≤ n ∧ i = .int .i64 j ∧ r = o ∧ Sl wr wq.heap.size r (bestT xs m j) ∧ Kp Nw wq wr) (fun _ i _ => n - (intOf i).toNat)
      case atStart => exact ⟨0, _, Nat.zero_le _, rfl, rfl, Sl.nil _ _, Kp.refl _ _⟩
      case round =>
        obtain ⟨j, r, hj, rfl, rfl, hr, hk⟩ := hrel
        have HR := Lib.hid hr
        have HK := Lib.hid hk
        have j0 : (0 : Int) ≤ j := Int.natCast_nonneg _
        have hzz : wq.heap.size ≤ wr.heap.size := HK.out.size
        have hrl : (bestT xs m j).length ≤ 1000 := by have := bestT_le xs m j; omega
        clear hr
        by_cases hlt : j < n
        · have t1 : (j : Int) < n := by omega
          have w2 : IntKind.i64.wrap ((j : Int) + 1) = (j : Int) + 1 := IntWalk.i64_in _ (by omega)
          have c0 := (HSA.out.kq hk (fun h => h)).cell j hlt
          obtain ⟨k, hkk⟩ : ∃ k, xs.getD j 0 = k := ⟨_, rfl⟩
          rw [hkk] at c0
          clear hk
          by_cases hp : k = m
          · have HT := Lib.hid (bestT_yes xs m j (by rw [hkk]; exact hp))
            subst hp
            clear hkk
            go_wp2_with (first | (at_builtin; refine wpList_app _ rfl (.tmp 49) (.tmp 51) rfl wq.heap.size r _ (bestT xs k j) [(j : Int)] rfl rfl (HR.out.below ((Kp.refl Nw wr).alloc _).below') (Rd.one (g := wr.heap.size) (by simp)) nil_one (by simp; omega) (by simp; omega) ?_))
            intro r' w3 hs3 hk3 hat
            have HS3 := Lib.hid hs3
            have HK3 := Lib.hid ((HK.out.nw (.al _ _)).own (HR.out.below (Kp.al _ _).below') hk3)
            clear hs3 hk3 hat
            go_wp2
            go_roundw
            case rel => exact ⟨j + 1, r', by omega, by go_num, rfl, by rw [HT.out]; exact HS3.out, HK3.out⟩
            case measure => simp [intOf] <;> omega
          · have HT := Lib.hid (bestT_no xs m j (by rw [hkk]; exact hp))
            clear hkk
            go_wp2
            go_roundw
            case rel => exact ⟨j + 1, r, by omega, by go_num, rfl, by rw [HT.out]; exact HR.out, HK.out⟩
            case measure => simp [intOf] <;> omega
        · have e : j = n := by omega
          subst e
          have HRF := Lib.hid (Sl.from HR.out HK1.out.size)
          have HKF := Lib.hid (HK1.out.nw HK.out)
          clear hk
          go_wp2
          go_ret2
          exact ⟨r, rfl, by rw [← HSEQ.out]; exact HRF.out, HKF.out⟩
theorem sBestPlaces_all (p s : Int) (W : World) : Calls Try.prog 37 #[.int .i64 p, .int .i64 s] W (ListB W (vBestPlaces p s).1 (vBestPlaces p s).2) := by
  unfold vBestPlaces
  by_cases hp : 1 ≤ p ∧ p ≤ 200
  · obtain ⟨p0, p1⟩ := hp
    by_cases hs : 1 ≤ s ∧ s ≤ 200
    · rw [if_pos ⟨p0, p1, hs.1, hs.2⟩]
      obtain ⟨n, rfl⟩ : ∃ n : Nat, p = n := ⟨p.toNat, by omega⟩
      obtain ⟨t, rfl⟩ : ∃ t : Nat, s = t := ⟨s.toNat, by omega⟩
      rw [Int.toNat_natCast, Int.toNat_natCast]
      exact sBestPlaces_yes n t W (by omega) (by omega) (by omega) (by omega)
    · rw [if_neg (fun h => hs ⟨h.2.2.1, h.2.2.2⟩)]
      have h : s < 1 ∨ 200 < s := by omega
      clear hs
      go_enter Try.func37, Try.ntmps37
      go_wp2_with (first | ((with_reducible refine (saTable_no2 p s _ p0 p1 h).mono ?_); rintro e w' ⟨rfl, rfl⟩))
      go_ret2
      exact ⟨.slice none 0 0, rfl, Sl.nil _ _, Kp.refl _ _⟩
  · rw [if_neg (fun h => hp ⟨h.1, h.2.1⟩)]
    have h : p < 1 ∨ 200 < p := by omega
    clear hp
    go_enter Try.func37, Try.ntmps37
    go_wp2_with (first | ((with_reducible refine (saTable_no1 p s _ h).mono ?_); rintro e w' ⟨rfl, rfl⟩))
    go_ret2
    exact ⟨.slice none 0 0, rfl, Sl.nil _ _, Kp.refl _ _⟩
end Go.Proofs.Ytlkmknigfdgnoaa
namespace Go.Proofs.Ytlkmknigfdgnoaa
open Go.ChangeShapes Go.WideShapes Go.ChangeAt Go.RowKit

theorem sameT_get (s : Int) (P c j : Nat) (h : j < c) : (sameT s P c)[j]? = some (s + (((j + 1) * P : Nat) : Int)) := by unfold sameT; simp [h]
set_option maxRecDepth 100000 in
set_option maxHeartbeats 1600000 in
theorem iSameOrderSteps_yes (n c : Nat) (s : Int) (W : World) (n1 : 1 ≤ n) (n2 : n ≤ 12) (s0 : 1 ≤ s) (s1 : s ≤ 1000000) (hc : c ≤ 20) :
    Calls Try.prog 40 #[.int .i64 n, .int .i64 s, .int .i64 c] W (ListB W (sameT s (perT n) c) true) := by
  obtain ⟨i0, hi0, hz0, hz1, hz2⟩ := info_parts intInfo
  have p0 : 1 ≤ (n : Int) := by omega
  have p1 : (n : Int) ≤ 12 := by omega
  have c0 : 0 ≤ (c : Int) := by omega
  have c1 : (c : Int) ≤ 20 := by omega
  obtain ⟨P, hP⟩ : ∃ P, perT n = P := ⟨_, rfl⟩
  have hP2 : P ≤ 27720 := by rw [← hP]; exact perT_le n n2
  rw [hP]
  have HP := Lib.hid hP
  obtain ⟨A, hA⟩ : ∃ A, sameT s P c = A := ⟨_, rfl⟩
  have hAl : A.length = c := by rw [← hA, sameT_length]
  have HAG : Hid (∀ j, j < c → A[j]? = some (s + (((j + 1) * P : Nat) : Int))) := Lib.hid (fun j hj => by rw [← hA]; exact sameT_get s P c j hj)
  have HAL := Lib.hid hAl
  have HBL : Hid (A.length = (List.replicate c (0 : Int)).length) := Lib.hid (by rw [List.length_replicate, hAl])
  rw [hA]
  clear hA hAl hP
  go_enter Try.func40, Try.ntmps40
  go_wp2_with (first | ((with_reducible refine (isFew_yes _ _ p0 p1).mono ?_); rintro e w' ⟨rfl, rfl⟩) | ((with_reducible refine (within_yes s _ _ _ s0 s1).mono ?_); rintro e w' ⟨rfl, rfl⟩) | ((with_reducible refine (within_yes (c : Int) _ _ _ c0 c1).mono ?_); rintro e w' ⟨rfl, rfl⟩) | (at_make; refine wpList_make_full _ rfl _ _ 25 rfl W.heap.size 3 i0 (.int .i64 0) 1 Try.underlying25 hi0 hz0 hz1 _ _ _ _ c rfl rfl rfl rfl (by rw [hz2]; omega) (by unfold maxLen; omega) (Nat.le_refl _) ?_))
  intro w3 hown hgrow
  have hk3 : Kp Nw W w3 := (Kp.refl Nw _).grown hgrow (fun g hg => by cases hg)
  have HS0 := Lib.hid (Sl.zeros hown)
  obtain ⟨gm, hgm⟩ : ∃ gm, gm = W.heap.size := ⟨_, rfl⟩
  have HK3 := Lib.hid hk3
  have hl3 : gm < w3.heap.size := by rw [hgm]; exact (World.ownsRow.lt hown _ rfl).2
  rw [← hgm] at HS0 ⊢
  have HGM := Lib.hid hgm
  clear hown hgrow hk3 hgm
  go_wp2
  go_loopw [9, 27] (fun _ i wr => ∃ j : Nat, j ≤ c ∧ i = .int .i64 j ∧ SlAt wr gm gm c c (fill A (List.replicate c (0 : Int)) j) ∧ Kp (fun b => b = gm) w3 wr) (fun _ i _ => c - (intOf i).toNat)
  case atStart => exact ⟨0, Nat.zero_le _, rfl, by rw [fill_zero]; exact HS0.out, Kp.refl _ _⟩
  case round =>
    obtain ⟨j, hj, rfl, hs, hk⟩ := hrel
    have HS := Lib.hid hs
    have HK := Lib.hid hk
    by_cases hlt : j < c
    · have t1 : (j : Int) < c := by omega
      have w2 : IntKind.i64.wrap ((j : Int) + 1) = (j : Int) + 1 := IntWalk.i64_in _ (by omega)
      obtain ⟨M, hM⟩ : ∃ M, (j + 1) * P = M := ⟨_, rfl⟩
      have hMM : M ≤ 1000000 := by
        rw [← hM]
        exact Nat.le_trans (Nat.mul_le_mul (show j + 1 ≤ 20 by omega) hP2) (by omega)
      have wu : ((j : Int) + 1) * (P : Int) = (M : Int) := by rw [← hM, Int.natCast_mul]; rfl
      have M0 : (0 : Int) ≤ M := Int.natCast_nonneg _
      have M1 : (M : Int) ≤ 1000000 := by omega
      have wa : IntKind.i64.wrap (s + (M : Int)) = s + (M : Int) := IntWalk.i64_in _ (by omega)
      have HF := Lib.hid (fill_set A (List.replicate c (0 : Int)) j (s + (M : Int)) HBL.out (by rw [HAL.out]; exact hlt) (by rw [HAG.out j hlt, hM]))
      have HCS := Lib.hid (fun w' (h : Kp Nw wr w') => (hs.kq h (fun h => h)).cell j hlt)
      have HFS := Lib.hid (fun w' (h : Kp Nw wr w') => (hs.kq h (fun h => h)).frozen j)
      clear hs hk hM
      go_wp2_with fail
      refine (periodOf_any n wr n1 n2).mono ?_
      rw [HP.out]
      rintro e w4 ⟨rfl, hk4⟩
      have cs := HCS.out w4 hk4
      have fs := HFS.out w4 hk4
      have HS4 := Lib.hid (HS.out.kq hk4 (fun h => h))
      have HK4 := Lib.hid (HK.out.nw hk4)
      clear hk4
      go_wp2
      go_roundw
      case rel => exact ⟨j + 1, by omega, by go_num, by rw [← HF.out]; exact HS4.out.store j _, HK4.out.setCell (.inl rfl) _⟩
      case measure => simp [intOf] <;> omega
    · have e : j = c := by omega
      subst e
      have t1 : ¬ (j : Int) < j := by omega
      have HSF := Lib.hid (Sl.from hs.sl (show W.heap.size ≤ gm by have := HGM.out; omega))
      have HFA : Hid (fill A (List.replicate j (0 : Int)) j = A) := Lib.hid (by have := fill_all A (List.replicate j (0 : Int)) HBL.out; rw [HAL.out] at this; exact this)
      have HKF := Lib.hid (HK3.out.after hk (fun g hg h => by have h9 : g = gm := h; have := HGM.out; omega))
      clear hs hk
      go_wp2
      go_ret2
      exact ⟨.slice (some ⟨gm, 0, none⟩) j j, rfl, by rw [← HFA.out]; exact HSF.out, HKF.out⟩
theorem iSameOrderSteps_all (p s c : Int) (W : World) : Calls Try.prog 40 #[.int .i64 p, .int .i64 s, .int .i64 c] W (ListB W (vSameOrderSteps p s c).1 (vSameOrderSteps p s c).2) := by
  unfold vSameOrderSteps
  by_cases hp : 1 ≤ p ∧ p ≤ 12
  · obtain ⟨p0, p1⟩ := hp
    by_cases hs : 1 ≤ s ∧ s ≤ 1000000
    · obtain ⟨s0, s1⟩ := hs
      by_cases hc : 0 ≤ c ∧ c ≤ 20
      · rw [if_pos ⟨p0, p1, s0, s1, hc.1, hc.2⟩]
        obtain ⟨n, rfl⟩ : ∃ n : Nat, p = n := ⟨p.toNat, by omega⟩
        obtain ⟨t, rfl⟩ : ∃ t : Nat, c = t := ⟨c.toNat, by omega⟩
        rw [Int.toNat_natCast, Int.toNat_natCast]
        exact iSameOrderSteps_yes n t s W (by omega) (by omega) s0 s1 (by omega)
      · rw [if_neg (fun h => hc ⟨h.2.2.2.2.1, h.2.2.2.2.2⟩)]
        have h : c < 0 ∨ 20 < c := by omega
        clear hc
        go_enter Try.func40, Try.ntmps40
        go_wp2_with (first | ((with_reducible refine (isFew_yes _ _ p0 p1).mono ?_); rintro e w' ⟨rfl, rfl⟩) | ((with_reducible refine (within_yes s _ _ _ s0 s1).mono ?_); rintro e w' ⟨rfl, rfl⟩) | ((with_reducible refine (within_no c _ _ _ h).mono ?_); rintro e w' ⟨rfl, rfl⟩))
        go_ret2
        exact ⟨.slice none 0 0, rfl, Sl.nil _ _, Kp.refl _ _⟩
    · rw [if_neg (fun h => hs ⟨h.2.2.1, h.2.2.2.1⟩)]
      have h : s < 1 ∨ 1000000 < s := by omega
      clear hs
      go_enter Try.func40, Try.ntmps40
      go_wp2_with (first | ((with_reducible refine (isFew_yes _ _ p0 p1).mono ?_); rintro e w' ⟨rfl, rfl⟩) | ((with_reducible refine (within_no s _ _ _ h).mono ?_); rintro e w' ⟨rfl, rfl⟩))
      go_ret2
      exact ⟨.slice none 0 0, rfl, Sl.nil _ _, Kp.refl _ _⟩
  · rw [if_neg (fun h => hp ⟨h.1, h.2.1⟩)]
    have h : p < 1 ∨ 12 < p := by omega
    clear hp
    go_enter Try.func40, Try.ntmps40
    go_wp2_with (first | ((with_reducible refine (isFew_no p _ h).mono ?_); rintro e w' ⟨rfl, rfl⟩))
    go_ret2
    exact ⟨.slice none 0 0, rfl, Sl.nil _ _, Kp.refl _ _⟩

set_option maxRecDepth 100000 in
set_option maxHeartbeats 1600000 in
theorem timesLeft_any (n s : Nat) (W : World) (n1 : 1 ≤ n) (n2 : n ≤ 200) (s2 : s ≤ 27720) : Calls Try.prog 53 #[.int .i64 n, .int .i64 s] W (Makes W (cntU n s)) := by
  obtain ⟨i0, hi0, hz0, hz1, hz2⟩ := info_parts intInfo
  have n0 : (0 : Int) ≤ n := Int.natCast_nonneg _
  go_enter Try.func53, Try.ntmps53
  go_wp2_with (first | (at_make; refine wpList_make_full _ rfl _ _ 25 rfl W.heap.size 3 i0 (.int .i64 0) 1 Try.underlying25 hi0 hz0 hz1 _ _ _ _ n rfl rfl rfl rfl (by rw [hz2]; omega) (by unfold maxLen; omega) (Nat.le_refl _) ?_))
  intro w3 hown hgrow
  have hk3 : Kp Nw W w3 := (Kp.refl Nw _).grown hgrow (fun g hg => by cases hg)
  have HS0 := Lib.hid (Sl.zeros hown)
  obtain ⟨gm, hgm⟩ : ∃ gm, gm = W.heap.size := ⟨_, rfl⟩
  have HK3 := Lib.hid hk3
  have hl3 : gm < w3.heap.size := by rw [hgm]; exact (World.ownsRow.lt hown _ rfl).2
  rw [← hgm] at HS0 ⊢
  have HGM := Lib.hid hgm
  clear hown hgrow hk3 hgm
  have HS1 : Hid (SlAt w3 gm gm n n (cntU n 0)) := Lib.hid (by rw [cntU_zero]; exact HS0.out)
  clear HS0
  go_wp2
  go_loopw [6] (fun i wx => ∃ t : Nat, t ≤ s ∧ i = .int .i64 ((t + 1 : Nat) : Int) ∧ SlAt wx gm gm n n (cntU n t) ∧ Kp (fun b => b = gm) w3 wx) (fun i _ => s + 1 - (intOf i).toNat)
  case atStart => exact ⟨0, Nat.zero_le _, rfl, HS1.out, Kp.refl _ _⟩
  case round =>
    obtain ⟨t, ht, rfl, hs, hk⟩ := hrel
    have HSX := Lib.hid hs
    have HKX := Lib.hid hk
    have t0 : (0 : Int) ≤ t := Int.natCast_nonneg _
    by_cases htl : t < s
    · have t1 : ((t + 1 : Nat) : Int) ≤ s := by omega
      have w2 : IntKind.i64.wrap (((t + 1 : Nat) : Int) + 1) = ((t + 1 + 1 : Nat) : Int) := by rw [IntWalk.i64_in _ (by omega)]; omega
      obtain ⟨b1, b2⟩ := lastN_bd ((t : Int) + 1) (n - 1)
      obtain ⟨q, hq⟩ : ∃ q : Nat, lastN ((t : Int) + 1) (n - 1) = q := ⟨(lastN ((t : Int) + 1) (n - 1)).toNat, by omega⟩
      have ql : q < n := by omega
      have qn0 : (0 : Int) ≤ q := Int.natCast_nonneg _
      have qn1 : (q : Int) < n := by omega
      have HSET := Lib.hid (cntU_set n t q ql hq)
      have cs := hs.cell q ql
      have fs := hs.frozen q
      have bd := cntU_bd n t q ql
      obtain ⟨v, hv⟩ : ∃ v, (cntU n t).getD q 0 = v := ⟨_, rfl⟩
      rw [hv] at cs HSET bd
      have HQ2 : Hid (lastN ((t + 1 : Nat) : Int) (n - 1) = (q : Int)) := Lib.hid (by rw [show ((t + 1 : Nat) : Int) = (t : Int) + 1 by omega]; exact hq)
      have wv : IntKind.i64.wrap (v + 1) = v + 1 := IntWalk.i64_in _ (by omega)
      clear hs hk hq b1 b2 hv
      go_wp2_with fail
      refine (lastByFormula_any n ((t + 1 : Nat) : Int) _ n1 (by omega) (by omega) (by omega)).mono ?_
      rw [HQ2.out]
      rintro e w' ⟨rfl, rfl⟩
      go_wp2
      go_roundw
      case rel => exact ⟨t + 1, by omega, by go_num, by rw [← HSET.out]; exact HSX.out.store q (v + 1), HKX.out.setCell (.inl rfl) _⟩
      case measure => simp [intOf] <;> omega
    · have e : t = s := by omega
      subst e
      have t1 : ¬ ((t + 1 : Nat) : Int) ≤ t := by omega
      have HSF := Lib.hid (Sl.from hs.sl (show W.heap.size ≤ gm by have := HGM.out; omega))
      have HKF := Lib.hid (HK3.out.after hk (fun g hg h => by have h9 : g = gm := h; have := HGM.out; omega))
      clear hs hk
      go_wp2
      go_ret
      exact ⟨.slice (some ⟨gm, 0, none⟩) n n, rfl, HSF.out, HKF.out⟩

set_option maxRecDepth 100000 in
set_option maxHeartbeats 1600000 in
theorem iCanBeLeft_yes (n : Nat) (W : World) (n1 : 1 ≤ n) (n2 : n ≤ 12) : Calls Try.prog 27 #[.int .i64 n] W (ListB W (canT n n) true) := by
  have p0 : 1 ≤ (n : Int) := by omega
  have p1 : (n : Int) ≤ 12 := by omega
  obtain ⟨P, hP⟩ : ∃ P, perT n = P := ⟨_, rfl⟩
  have hP2 : P ≤ 27720 := by rw [← hP]; exact perT_le n n2
  obtain ⟨xs, hxs⟩ : ∃ xs, cntU n P = xs := ⟨_, rfl⟩
  have HXL : Hid (xs.length = n) := Lib.hid (by rw [← hxs, cntU_length])
  have HXG : Hid (∀ j, j < n → xs.getD j 0 = ((countK (isLast n (j : Int)) (perT n) : Nat) : Int)) := Lib.hid (fun j hj => by rw [← hxs, cntU_get n P j hj, hP])
  have HXS := Lib.hid hxs
  have HP := Lib.hid hP
  clear hxs hP
  go_enter Try.func27, Try.ntmps27
  go_wp2_with (first | ((with_reducible refine (isFew_yes _ _ p0 p1).mono ?_); rintro e w' ⟨rfl, rfl⟩))
  refine (periodOf_any n W n1 n2).mono ?_
  rw [HP.out]
  rintro e w0 ⟨rfl, hk0⟩
  have HK0 := Lib.hid hk0
  clear hk0
  go_wp2_with fail
  refine (timesLeft_any n P w0 n1 (by omega) hP2).mono ?_
  rw [HXS.out]
  rintro e w1 ⟨v1, rfl, hs1, hk1⟩
  have hs1 := Sl.from hs1 HK0.out.size
  have hk1 := HK0.out.nw hk1
  obtain ⟨g, cap, rfl, hsa, hc1, hc2, _, _⟩ := hs1.at_ (by rw [HXL.out]; omega)
  rw [HXL.out] at hsa hc1 ⊢
  have HSA := Lib.hid hsa
  have HK1 := Lib.hid hk1
  clear hs1 hk1 hsa
  go_wp2
  go_loopw [4, 15] (fun o i wr => ∃ (j : Nat) (r : Value), j ≤ n ∧ i = .int .i64 j ∧ r = o ∧ Sl wr w1.heap.size r (canT n j) ∧ Kp Nw w1 wr) (fun _ i _ => n - (intOf i).toNat)
  case atStart => exact ⟨0, _, Nat.zero_le _, rfl, rfl, Sl.nil _ _, Kp.refl _ _⟩
  case round =>
    obtain ⟨j, r, hj, rfl, rfl, hr, hk⟩ := hrel
    have HR := Lib.hid hr
    have HK := Lib.hid hk
    have j0 : (0 : Int) ≤ j := Int.natCast_nonneg _
    have hzz : w1.heap.size ≤ wr.heap.size := HK.out.size
    have hrl : (canT n j).length ≤ 1000 := by have := canT_le n j; omega
    clear hr
    by_cases hlt : j < n
    · have t1 : (j : Int) < n := by omega
      have w2 : IntKind.i64.wrap ((j : Int) + 1) = (j : Int) + 1 := IntWalk.i64_in _ (by omega)
      have c0 := (HSA.out.kq hk (fun h => h)).cell j hlt
      rw [HXG.out j hlt] at c0
      obtain ⟨k, hkk⟩ : ∃ k, countK (isLast n (j : Int)) (perT n) = k := ⟨_, rfl⟩
      rw [hkk] at c0
      clear hk
      by_cases hp : 0 < k
      · have HT := Lib.hid (canT_yes n j (by rw [hkk]; exact hp))
        have y1 : (0 : Int) < k := by omega
        clear hkk
        go_wp2_with (first | (at_builtin; refine wpList_app _ rfl (.tmp 22) (.tmp 24) rfl w1.heap.size r _ (canT n j) [(j : Int)] rfl rfl (HR.out.below ((Kp.refl Nw wr).alloc _).below') (Rd.one (g := wr.heap.size) (by simp)) nil_one (by simp; omega) (by simp; omega) ?_))
        intro r' w3 hs3 hk3 hat
        have HS3 := Lib.hid hs3
        have HK3 := Lib.hid ((HK.out.nw (.al _ _)).own (HR.out.below (Kp.al _ _).below') hk3)
        clear hs3 hk3 hat
        go_wp2
        go_roundw
        case rel => exact ⟨j + 1, r', by omega, by go_num, rfl, by rw [HT.out]; exact HS3.out, HK3.out⟩
        case measure => simp [intOf] <;> omega
      · have HT := Lib.hid (canT_no n j (by rw [hkk]; exact hp))
        have y1 : ¬ (0 : Int) < k := by omega
        clear hkk
        go_wp2
        go_roundw
        case rel => exact ⟨j + 1, r, by omega, by go_num, rfl, by rw [HT.out]; exact HR.out, HK.out⟩
        case measure => simp [intOf] <;> omega
    · have e : j = n := by omega
      subst e
      have HRF := Lib.hid (Sl.from HR.out HK1.out.size)
      have HKF := Lib.hid (HK1.out.nw HK.out)
      clear hk
      go_wp2
      go_ret2
      exact ⟨r, rfl, HRF.out, HKF.out⟩
theorem iCanBeLeft_all (p : Int) (W : World) : Calls Try.prog 27 #[.int .i64 p] W (ListB W (vCanBeLeft p).1 (vCanBeLeft p).2) := by
  unfold vCanBeLeft
  by_cases hp : 1 ≤ p ∧ p ≤ 12
  · rw [if_pos hp]
    obtain ⟨n, rfl⟩ : ∃ n : Nat, p = n := ⟨p.toNat, by omega⟩
    rw [Int.toNat_natCast]
    exact iCanBeLeft_yes n W (by omega) (by omega)
  · rw [if_neg hp]
    have h : p < 1 ∨ 12 < p := by omega
    clear hp
    go_enter Try.func27, Try.ntmps27
    go_wp2_with (first | ((with_reducible refine (isFew_no p _ h).mono ?_); rintro e w' ⟨rfl, rfl⟩))
    go_ret2
    exact ⟨.slice none 0 0, rfl, Sl.nil _ _, Kp.refl _ _⟩

set_option maxRecDepth 100000 in
set_option maxHeartbeats 800000 in
theorem max_any (v : Value) (xs : List Int) (W : World) (hv : Rd W v xs) (hp : 0 < xs.length) (hl : xs.length ≤ 1000000) :
    Calls Try.prog 66 #[v] W fun e w' => e = .returned (.int .i64 (maxL xs)) ∧ W = w' := by
  obtain ⟨n, hn⟩ : ∃ n, xs.length = n := ⟨_, rfl⟩
  obtain ⟨A, c, rfl, hA⟩ := hv
  obtain ⟨R, hR⟩ : ∃ R, maxL xs = R := ⟨_, rfl⟩
  have HR : Hid (maxT xs (n - 1) = R) := Lib.hid (by rw [← hR, ← hn]; rfl)
  rw [hR]
  rw [hn] at hp hl ⊢
  have HN := Lib.hid hn
  have HA := Lib.hid hA
  obtain ⟨g, o, rfl, hc⟩ := hA 0 (by omega)
  have HM0 : Hid (xs.getD 0 0 = maxT xs 0) := Lib.hid rfl
  rw [HM0.out, Nat.add_zero] at hc
  have n1 : (1 : Int) ≤ n := by omega
  have hz : (0 : Int) < n := by omega
  clear hn hA hR
  go_enter Try.func66, Try.ntmps66
  go_wp2
  go_loop [3, 4] (fun m i => ∃ j : Nat, j < n ∧ i = .int .i64 ((j + 1 : Nat) : Int) ∧ m = .int .i64 (maxT xs j)) (fun _ i => n - (intOf i).toNat)
  case atStart => exact ⟨0, by omega, rfl, rfl⟩
  case round =>
    obtain ⟨j, hj, rfl, rfl⟩ := hrel
    have j0 : (0 : Int) ≤ j := Int.natCast_nonneg _
    have w2 : IntKind.i64.wrap (((j + 1 : Nat) : Int) + 1) = ((j + 1 + 1 : Nat) : Int) := by rw [IntWalk.i64_in _ (by omega)]; omega
    obtain ⟨m, hm⟩ : ∃ m, maxT xs j = m := ⟨_, rfl⟩
    have HM := Lib.hid hm
    rw [hm]
    by_cases hlt : j + 1 < n
    · obtain ⟨g', o', e9, hc'⟩ := HA.out (j + 1) (by rw [HN.out]; exact hlt)
      obtain ⟨rfl, rfl⟩ : g' = g ∧ o' = o := by
        injection e9 with e9
        injection e9 with a1 a2 a3
        exact ⟨a1.symm, a2.symm⟩
      obtain ⟨x, hx⟩ : ∃ x, xs.getD (j + 1) 0 = x := ⟨_, rfl⟩
      rw [hx] at hc'
      have HS : Hid (maxT xs (j + 1) = if m < x then x else m) := Lib.hid (by rw [maxT, hm, hx])
      have t1 : ((j + 1 : Nat) : Int) < n := by omega
      have t2 : (0 : Int) ≤ ((j + 1 : Nat) : Int) := by omega
      clear hm hx e9
      by_cases hmx : m < x
      · have HT : Hid (maxT xs (j + 1) = x) := Lib.hid (by rw [HS.out, if_pos hmx])
        go_wp2
        go_round
        case rel => exact ⟨j + 1, hlt, by go_num, by rw [HT.out]⟩
        case measure => simp [intOf]; omega
      · have HT : Hid (maxT xs (j + 1) = m) := Lib.hid (by rw [HS.out, if_neg hmx])
        go_wp2
        go_round
        case rel => exact ⟨j + 1, hlt, by go_num, by rw [HT.out]⟩
        case measure => simp [intOf]; omega
    · have e : j = n - 1 := by omega
      have t1 : ¬ ((j + 1 : Nat) : Int) < n := by omega
      have HE : Hid (m = R) := Lib.hid (by rw [← HR.out, ← HM.out, e])
      clear hm e
      go_wp2
      go_ret
      exact ⟨ret_int HE.out, rfl⟩

set_option maxRecDepth 100000 in
set_option maxHeartbeats 1600000 in
theorem iBestPlaces_yes (n s : Nat) (W : World) (n1 : 1 ≤ n) (n2 : n ≤ 200) (s1 : 1 ≤ s) (s2 : s ≤ 200) : Calls Try.prog 38 #[.int .i64 n, .int .i64 s] W (ListB W (bestT (cntU n s) (maxL (cntU n s)) n) true) := by
  have p0 : 1 ≤ (n : Int) := by omega
  have p1 : (n : Int) ≤ 200 := by omega
  have q0 : 1 ≤ (s : Int) := by omega
  have q1 : (s : Int) ≤ 200 := by omega
  obtain ⟨xs, hxs⟩ : ∃ xs, cntU n s = xs := ⟨_, rfl⟩
  have hxl : xs.length = n := by rw [← hxs, cntU_length]
  rw [hxs]
  have HXS := Lib.hid hxs
  have HXL := Lib.hid hxl
  obtain ⟨m, hm⟩ : ∃ m, maxL xs = m := ⟨_, rfl⟩
  have HM := Lib.hid hm
  rw [hm]
  obtain ⟨RES, hRES⟩ : ∃ RES, bestT xs m n = RES := ⟨_, rfl⟩
  rw [hRES]
  have HSEQ := Lib.hid hRES
  clear hRES
  clear hxs hxl hm
  go_enter Try.func38, Try.ntmps38
  go_wp2_with (first | ((with_reducible refine (isTable_yes _ _ _ p0 p1 q0 q1).mono ?_); rintro e w' ⟨rfl, rfl⟩))
  refine (timesLeft_any n s W n1 n2 (by omega)).mono ?_
  rw [HXS.out]
  rintro e w1 ⟨v1, rfl, hs1, hk1⟩
  obtain ⟨g, cap, rfl, hsa, hc1, hc2, _, _⟩ := hs1.at_ (by rw [HXL.out]; omega)
  have HRD := Lib.hid hs1.rd
  rw [HXL.out] at hsa hc1 HRD ⊢
  have HSA := Lib.hid hsa
  have HK1 := Lib.hid hk1
  clear hs1 hk1 hsa
  go_wp2_with fail
  refine (max_any _ xs w1 HRD.out (by rw [HXL.out]; omega) (by rw [HXL.out]; omega)).mono ?_
  rw [HM.out]
  rintro e w' ⟨rfl, rfl⟩
  go_wp2
  go_loopw [8, 22] (fun o i wr => ∃ (j : Nat) (r : Value), j ≤ n ∧ i = .int .i64 j ∧ r = o ∧ Sl wr w1.heap.size r (bestT xs m j) ∧ Kp Nw w1 wr) (fun _ i _ => n - (intOf i).toNat)
  case atStart => exact ⟨0, _, Nat.zero_le _, rfl, rfl, Sl.nil _ _, Kp.refl _ _⟩
  case round =>
    obtain ⟨j, r, hj, rfl, rfl, hr, hk⟩ := hrel
    have HR := Lib.hid hr
    have HK := Lib.hid hk
    have j0 : (0 : Int) ≤ j := Int.natCast_nonneg _
    have hzz : w1.heap.size ≤ wr.heap.size := HK.out.size
    have hrl : (bestT xs m j).length ≤ 1000 := by have := bestT_le xs m j; omega
    clear hr
    by_cases hlt : j < n
    · have t1 : (j : Int) < n := by omega
      have w2 : IntKind.i64.wrap ((j : Int) + 1) = (j : Int) + 1 := IntWalk.i64_in _ (by omega)
      have c0 := (HSA.out.kq hk (fun h => h)).cell j hlt
      obtain ⟨k, hkk⟩ : ∃ k, xs.getD j 0 = k := ⟨_, rfl⟩
      rw [hkk] at c0
      clear hk
      by_cases hp : k = m
      · have HT := Lib.hid (bestT_yes xs m j (by rw [hkk]; exact hp))
        subst hp
        clear hkk
        go_wp2_with (first | (at_builtin; refine wpList_app _ rfl (.tmp 30) (.tmp 32) rfl w1.heap.size r _ (bestT xs k j) [(j : Int)] rfl rfl (HR.out.below ((Kp.refl Nw wr).alloc _).below') (Rd.one (g := wr.heap.size) (by simp)) nil_one (by simp; omega) (by simp; omega) ?_))
        intro r' w3 hs3 hk3 hat
        have HS3 := Lib.hid hs3
        have HK3 := Lib.hid ((HK.out.nw (.al _ _)).own (HR.out.below (Kp.al _ _).below') hk3)
        clear hs3 hk3 hat
        go_wp2
        go_roundw
        case rel => exact ⟨j + 1, r', by omega, by go_num, rfl, by rw [HT.out]; exact HS3.out, HK3.out⟩
        case measure => simp [intOf] <;> omega
      · have HT := Lib.hid (bestT_no xs m j (by rw [hkk]; exact hp))
        clear hkk
        go_wp2
        go_roundw
        case rel => exact ⟨j + 1, r, by omega, by go_num, rfl, by rw [HT.out]; exact HR.out, HK.out⟩
        case measure => simp [intOf] <;> omega
    · have e : j = n := by omega
      subst e
      have HRF := Lib.hid (Sl.from HR.out HK1.out.size)
      have HKF := Lib.hid (HK1.out.nw HK.out)
      clear hk
      go_wp2
      go_ret2
      exact ⟨r, rfl, by rw [← HSEQ.out]; exact HRF.out, HKF.out⟩
theorem iBestPlaces_all (p s : Int) (W : World) : Calls Try.prog 38 #[.int .i64 p, .int .i64 s] W (ListB W (vBestPlaces p s).1 (vBestPlaces p s).2) := by
  unfold vBestPlaces
  by_cases hp : 1 ≤ p ∧ p ≤ 200
  · obtain ⟨p0, p1⟩ := hp
    by_cases hs : 1 ≤ s ∧ s ≤ 200
    · rw [if_pos ⟨p0, p1, hs.1, hs.2⟩]
      obtain ⟨n, rfl⟩ : ∃ n : Nat, p = n := ⟨p.toNat, by omega⟩
      obtain ⟨t, rfl⟩ : ∃ t : Nat, s = t := ⟨s.toNat, by omega⟩
      rw [Int.toNat_natCast, Int.toNat_natCast]
      exact iBestPlaces_yes n t W (by omega) (by omega) (by omega) (by omega)
    · rw [if_neg (fun h => hs ⟨h.2.2.1, h.2.2.2⟩)]
      have h : s < 1 ∨ 200 < s := by omega
      clear hs
      go_enter Try.func38, Try.ntmps38
      go_wp2_with (first | ((with_reducible refine (isTable_no2 p s _ p0 p1 h).mono ?_); rintro e w' ⟨rfl, rfl⟩))
      go_ret2
      exact ⟨.slice none 0 0, rfl, Sl.nil _ _, Kp.refl _ _⟩
  · rw [if_neg (fun h => hp ⟨h.1, h.2.1⟩)]
    have h : p < 1 ∨ 200 < p := by omega
    clear hp
    go_enter Try.func38, Try.ntmps38
    go_wp2_with (first | ((with_reducible refine (isTable_no1 p s _ h).mono ?_); rintro e w' ⟨rfl, rfl⟩))
    go_ret2
    exact ⟨.slice none 0 0, rfl, Sl.nil _ _, Kp.refl _ _⟩
end Go.Proofs.Ytlkmknigfdgnoaa
