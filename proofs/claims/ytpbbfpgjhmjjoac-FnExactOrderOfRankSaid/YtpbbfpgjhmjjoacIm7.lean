/- Chapter 7's mathematics: cycles told from their least places, sorted orders, ranks and their digits, the least step with remainders, turned lists; no condition but the lists' own. -/
import Derived.Test.YtpbbfpgjhmjjoacPerm
import Derived.Test.YtpbbfpgjhmjjoacLaws7
import Derived.Test.YtpbbfpgjhmjjoacOutN
import Derived.Test.YtpbbfpgjhmjjoacSaveQ
import Derived.Test.YtpbbfpgjhmjjoacPut
import Derived.Test.YtpbbfpgjhmjjoacRot
namespace Go.Proofs.Ytpbbfpgjhmjjoac

/-! the cycles -/
theorem exOf_cast (xs : List Int) (i : Nat) (h : 0 ≤ xs.getD i 0) : (exOf xs i : Int) = xs.getD i 0 := by unfold exOf; omega
/-- the cycle from a place on, so many of it -/
def cycU (p : Nat → Nat) (i k : Nat) : List Int := (List.range k).map fun t : Nat => (itp p t i : Int)
def cycP (p : Nat → Nat) (n i : Nat) : List Int := cycU p i (cyc p n i)
theorem cycU_len (p : Nat → Nat) (i k : Nat) : (cycU p i k).length = k := by simp [cycU]
theorem cycU_succ (p : Nat → Nat) (i k : Nat) : cycU p i (k + 1) = cycU p i k ++ [(itp p k i : Int)] := by simp [cycU, List.range_succ]
/-- two places of a cycle, less than its length apart, are not the same -/
theorem itp_ne {p : Nat → Nat} {n : Nat} (h : Exch p n) (i : Nat) (hi : i < n) (a b : Nat) (hab : a < b) (hb : b < cyc p n i) : itp p a i ≠ itp p b i := by
  intro e
  obtain ⟨_, _, h3⟩ := cyc_spec h i hi
  have e2 : itp p a i = itp p a (itp p (b - a) i) := by rw [← itp_add, show a + (b - a) = b by omega]; exact e
  have e3 := itp_inj h a i _ hi (itp_lt h _ i hi) e2
  exact h3 (b - a) (by omega) (by omega) e3.symm
theorem itp_mod {p : Nat → Nat} {n : Nat} (h : Exch p n) (i : Nat) (hi : i < n) (k : Nat) : itp p k i = itp p (k % cyc p n i) i := by
  obtain ⟨_, h2, _⟩ := cyc_spec h i hi
  have hm : ∀ q r, itp p (q * cyc p n i + r) i = itp p r i := by
    intro q r
    induction q with
    | zero => simp
    | succ q ih => rw [show (q + 1) * cyc p n i + r = (q * cyc p n i + r) + cyc p n i by rw [Nat.succ_mul]; omega, itp_add, h2, ih]
  have := hm (k / cyc p n i) (k % cyc p n i)
  rw [Nat.mul_comm, Nat.div_add_mod] at this
  exact this
theorem cyc_dvd {p : Nat → Nat} {n : Nat} (h : Exch p n) (i : Nat) (hi : i < n) (k : Nat) : itp p k i = i ↔ cyc p n i ∣ k := by
  obtain ⟨_, h2, h3⟩ := cyc_spec h i hi
  constructor
  · intro e
    rw [itp_mod h i hi] at e
    apply Nat.dvd_of_mod_eq_zero
    apply Classical.byContradiction
    intro hne
    exact h3 _ (by omega) (Nat.mod_lt _ (cyc_pos p n i)) e
  · intro hd
    rw [itp_mod h i hi, Nat.mod_eq_zero_of_dvd hd]
    rfl
theorem lcmT_least {p : Nat → Nat} {n : Nat} (h : Exch p n) (k : Nat) : ∀ t, t ≤ n → ((∀ i, i < t → itp p k i = i) ↔ lcmT p n t ∣ k)
  | 0, _ => by simp [lcmT]
  | t + 1, ht => by
    have ih := lcmT_least h k t (by omega)
    have ht' : t < n := by omega
    rw [lcmT]
    constructor
    · intro ha
      exact Nat.lcm_dvd (ih.1 (fun i hi => ha i (by omega))) ((cyc_dvd h t ht' k).1 (ha t (by omega)))
    · intro hd i hi
      by_cases e : i = t
      · subst e
        exact (cyc_dvd h i ht' k).2 (Nat.dvd_trans (Nat.dvd_lcm_right _ _) hd)
      · exact ih.2 (Nat.dvd_trans (Nat.dvd_lcm_left _ _) hd) i (by omega)

/-- a walk along a cycle none of whose places is marked -/
theorem cycA_walk (xs : List Int) (n : Nat) (hn : xs.length = n) (h : Exch (exOf xs) n) (i : Nat) (hi : i < n) (s0 : List Bool) (hs0 : s0.length = n) (hf : ∀ k, s0.getD (itp (exOf xs) k i) true = false) :
    ∀ (d t f : Nat) (s : List Bool) (c : List Int), t + d = cyc (exOf xs) n i → d < f → s.length = n →
      (∀ a, a < n → s.getD a true = (s0.getD a true || decide (∃ k, k < t ∧ itp (exOf xs) k i = a))) →
      ∃ s', cycA xs f s (itp (exOf xs) t i) c = (s', c ++ (cycU (exOf xs) i (cyc (exOf xs) n i)).drop t) ∧ s'.length = n ∧
        ∀ a, a < n → s'.getD a true = (s0.getD a true || decide (∃ k, k < cyc (exOf xs) n i ∧ itp (exOf xs) k i = a))
  | 0, t, f, s, c, htd, hdf, hs, hst => by
    obtain ⟨g, rfl⟩ : ∃ g, f = g + 1 := ⟨f - 1, by omega⟩
    have et : t = cyc (exOf xs) n i := by omega
    obtain ⟨_, h2, _⟩ := cyc_spec h i hi
    have hc := cyc_pos (exOf xs) n i
    have hseen : s.getD (itp (exOf xs) t i) true = true := by
      rw [hst _ (itp_lt h t i hi), et, h2]
      simp
      exact Or.inr ⟨0, by omega, rfl⟩
    refine ⟨s, ?_, hs, fun a ha => by rw [hst a ha, et]⟩
    rw [cycA, if_pos hseen, et, List.drop_of_length_le (by rw [cycU_len]; exact Nat.le_refl _), List.append_nil]
  | d + 1, t, f, s, c, htd, hdf, hs, hst => by
    obtain ⟨g, rfl⟩ : ∃ g, f = g + 1 := ⟨f - 1, by omega⟩
    have hlt := itp_lt h t i hi
    have hseen : ¬ s.getD (itp (exOf xs) t i) true = true := by
      rw [hst _ hlt, hf t]
      simp
      intro k hk e
      exact itp_ne h i hi k t hk (by omega) e
    obtain ⟨s', e1, e2, e3⟩ := cycA_walk xs n hn h i hi s0 hs0 hf d (t + 1) g (s.set (itp (exOf xs) t i) true) (c ++ [(itp (exOf xs) t i : Int)]) (by omega) (by omega) (by rw [List.length_set]; exact hs) (by
      intro a ha
      by_cases e : a = itp (exOf xs) t i
      · subst e
        have hl : itp (exOf xs) t i < s.length := by omega
        have : (s.set (itp (exOf xs) t i) true).getD (itp (exOf xs) t i) true = true := by rw [List.getD_eq_getElem?_getD, List.getElem?_set_self hl]; rfl
        rw [this]
        symm
        simp
        exact Or.inr ⟨t, by omega, rfl⟩
      · have : (s.set (itp (exOf xs) t i) true).getD a true = s.getD a true := by simp [List.getD, Ne.symm e]
        rw [this, hst a ha]
        congr 1
        apply decide_eq_decide.2
        constructor
        · rintro ⟨k, hk, e'⟩; exact ⟨k, by omega, e'⟩
        · rintro ⟨k, hk, e'⟩
          refine ⟨k, ?_, e'⟩
          by_cases e2 : k = t
          · subst e2; exact absurd e'.symm e
          · omega)
    refine ⟨s', ?_, e2, e3⟩
    rw [cycA, if_neg hseen]
    have hx : (xs.getD (itp (exOf xs) t i) 0).toNat = itp (exOf xs) (t + 1) i := rfl
    rw [hx, e1]
    congr 1
    have hl : t < (cycU (exOf xs) i (cyc (exOf xs) n i)).length := by rw [cycU_len]; omega
    rw [List.drop_eq_getElem_cons hl, List.append_assoc]
    congr 1
    simp [cycU]
/-- does a place begin its cycle, being the least of it? -/
def leastB (p : Nat → Nat) (n i : Nat) : Bool := decide (∀ k, k < n → i ≤ itp p k i)
theorem leastB_iff {p : Nat → Nat} {n : Nat} (h : Exch p n) (i : Nat) (hi : i < n) : leastB p n i = true ↔ ∀ k, i ≤ itp p k i := by
  unfold leastB
  rw [decide_eq_true_eq]
  constructor
  · intro ha k
    rw [itp_mod h i hi]
    exact ha _ (Nat.lt_of_lt_of_le (Nat.mod_lt _ (cyc_pos p n i)) (cyc_spec h i hi).1)
  · intro ha k _
    exact ha k
def lstL (p : Nat → Nat) (n i : Nat) : List Nat := (List.range i).filter (leastB p n)
/-- a place behind which some lesser one's cycle comes is no least one -/
theorem itp_back2 {p : Nat → Nat} {n : Nat} (h : Exch p n) (i : Nat) (hi : i < n) (k : Nat) : ∃ m, itp p m (itp p k i) = i := by
  obtain ⟨_, h2, _⟩ := cyc_spec h i hi
  refine ⟨k * (cyc p n i) - k, ?_⟩
  have hc := cyc_pos p n i
  have : k ≤ k * cyc p n i := Nat.le_mul_of_pos_right k hc
  rw [← itp_add, show k * cyc p n i - k + k = k * cyc p n i by omega]
  exact (cyc_dvd h i hi _).2 (Nat.dvd_mul_left _ _)
theorem cycs_is (xs : List Int) (n : Nat) (hn : xs.length = n) (h : Exch (exOf xs) n) : ∀ i, i ≤ n →
    (cycs xs i).1.length = n ∧ (∀ a, a < n → (cycs xs i).1.getD a true = decide (∃ j, j < i ∧ ∃ k, k < n ∧ itp (exOf xs) k j = a)) ∧ (cycs xs i).2 = (lstL (exOf xs) n i).map (cycP (exOf xs) n)
  | 0, _ => by
    refine ⟨by simp [cycs, hn], fun a ha => ?_, by simp [cycs, lstL]⟩
    simp [cycs, List.getD, hn, ha]
  | i + 1, hi => by
    obtain ⟨h1, h2, h3⟩ := cycs_is xs n hn h i (by omega)
    have hin : i < n := by omega
    have hle := (cyc_spec h i hin).1
    by_cases hseen : (cycs xs i).1.getD i true = true
    · have hne : leastB (exOf xs) n i = false := by
        rw [h2 i hin, decide_eq_true_eq] at hseen
        obtain ⟨j, hj, k, hk, e⟩ := hseen
        cases hb : leastB (exOf xs) n i
        · rfl
        · exfalso
          obtain ⟨m, hm⟩ := itp_back2 h j (by omega) k
          have := (leastB_iff h i hin).1 hb m
          rw [e] at hm
          omega
      rw [cycs, if_pos hseen]
      refine ⟨h1, fun a ha => ?_, ?_⟩
      · rw [h2 a ha]
        apply decide_eq_decide.2
        constructor
        · rintro ⟨j, hj, r⟩; exact ⟨j, by omega, r⟩
        · rintro ⟨j, hj, k, hk, e⟩
          by_cases e2 : j = i
          · subst e2
            rw [h2 j hin, decide_eq_true_eq] at hseen
            obtain ⟨j', hj', k', hk', e'⟩ := hseen
            refine ⟨j', hj', (k + k') % cyc (exOf xs) n j', Nat.lt_of_lt_of_le (Nat.mod_lt _ (cyc_pos _ _ _)) (cyc_spec h j' (by omega)).1, ?_⟩
            rw [← itp_mod h j' (by omega), itp_add, e', e]
          · exact ⟨j, by omega, k, hk, e⟩
      · rw [h3, lstL, lstL, List.range_succ, List.filter_append]
        simp [hne]
    · have hnot : ∀ j, j < i → ∀ k, itp (exOf xs) k j ≠ i := by
        intro j hj k e
        apply hseen
        rw [h2 i hin, decide_eq_true_eq]
        refine ⟨j, hj, k % cyc (exOf xs) n j, Nat.lt_of_lt_of_le (Nat.mod_lt _ (cyc_pos _ _ _)) (cyc_spec h j (by omega)).1, ?_⟩
        rw [← itp_mod h j (by omega), e]
      have hls : leastB (exOf xs) n i = true := by
        rw [leastB_iff h i hin]
        intro k
        apply Classical.byContradiction
        intro hc
        obtain ⟨m, hm⟩ := itp_back2 h i hin k
        exact hnot _ (by omega) m hm
      have hf : ∀ k, (cycs xs i).1.getD (itp (exOf xs) k i) true = false := by
        intro k
        rw [h2 _ (itp_lt h k i hin), decide_eq_false_iff_not]
        rintro ⟨j, hj, k', hk', e⟩
        obtain ⟨m, hm⟩ := itp_back2 h i hin k
        rw [← e, ← itp_add] at hm
        exact hnot j hj _ hm
      obtain ⟨s', e1, e2, e3⟩ := cycA_walk xs n hn h i hin (cycs xs i).1 h1 hf (cyc (exOf xs) n i) 0 (xs.length + 1) (cycs xs i).1 [] (by omega) (by omega) h1 (by
        intro a ha
        have : ¬ ∃ k, k < 0 ∧ itp (exOf xs) k i = a := by rintro ⟨k, hk, _⟩; omega
        rw [decide_eq_false this, Bool.or_false])
      rw [show itp (exOf xs) 0 i = i from rfl] at e1
      rw [cycs, if_neg hseen, e1]
      refine ⟨e2, fun a ha => ?_, ?_⟩
      · show s'.getD a true = _
        rw [e3 a ha, h2 a ha, ← Bool.decide_or]
        apply decide_eq_decide.2
        constructor
        · rintro (⟨j, hj, k, hk, e⟩ | ⟨k, hk, e⟩)
          · exact ⟨j, by omega, k, hk, e⟩
          · exact ⟨i, by omega, k, by omega, e⟩
        · rintro ⟨j, hj, k, hk, e⟩
          by_cases e2 : j = i
          · subst e2
            exact Or.inr ⟨k % cyc (exOf xs) n j, Nat.mod_lt _ (cyc_pos _ _ _), by rw [← itp_mod h j hin, e]⟩
          · exact Or.inl ⟨j, by omega, k, hk, e⟩
      · show (cycs xs i).2 ++ _ = _
        rw [h3, lstL, lstL, List.range_succ, List.filter_append, List.map_append]
        congr 1
        simp [hls, cycP]
theorem cycL_is (xs : List Int) (n : Nat) (hn : xs.length = n) (h : Exch (exOf xs) n) : cycL xs = (lstL (exOf xs) n n).map (cycP (exOf xs) n) := by
  unfold cycL
  rw [hn]
  exact (cycs_is xs n hn h n (Nat.le_refl _)).2.2
theorem lcmN_lcm (x y : Nat) : lcmN x y = Nat.lcm x y := by
  unfold lcmN
  rw [Nat.lcm, Nat.mul_comm (x / Nat.gcd x y), ← Nat.mul_div_assoc _ (Nat.gcd_dvd_left x y), Nat.mul_comm]
theorem powT_app (a b : List (List Int)) : ∀ j, j ≤ a.length → powT (a ++ b) j = powT a j
  | 0, _ => rfl
  | j + 1, h => by
    rw [powT, powT, powT_app a b j (by omega)]
    congr 2
    simp [List.getD, List.getElem?_append_left (show j < a.length by omega)]
theorem powT_lst {p : Nat → Nat} {n : Nat} (h : Exch p n) : ∀ i, i ≤ n → powT ((lstL p n i).map (cycP p n)) (lstL p n i).length = lcmT p n i
  | 0, _ => by simp [lstL, powT, lcmT]
  | i + 1, hi => by
    have ih := powT_lst h i (by omega)
    have hin : i < n := by omega
    cases hb : leastB p n i
    · have e : lstL p n (i + 1) = lstL p n i := by unfold lstL; rw [List.range_succ, List.filter_append]; simp [hb]
      rw [e, ih]
      have hex : ∃ k, itp p k i < i := by
        apply Classical.byContradiction
        intro hc
        have : leastB p n i = true := (leastB_iff h i hin).2 (fun k => by
          apply Classical.byContradiction
          intro hk
          exact hc ⟨k, by omega⟩)
        rw [hb] at this
        cases this
      obtain ⟨k, hk⟩ := hex
      exact (lcmT_skip h i k hin hk).symm
    · have e : lstL p n (i + 1) = lstL p n i ++ [i] := by unfold lstL; rw [List.range_succ, List.filter_append]; simp [hb]
      rw [e, List.length_append, List.length_singleton, powT, List.map_append, powT_app _ _ _ (by simp), ih, lcmN_lcm, lcmT]
      congr 1
      simp [List.getD, cycP, cycU_len]
theorem powT_is (xs : List Int) (n : Nat) (hn : xs.length = n) (h : Exch (exOf xs) n) : powT (cycL xs) (cycL xs).length = lcmT (exOf xs) n n := by
  rw [cycL_is xs n hn h, List.length_map]
  exact powT_lst h n (Nat.le_refl _)

theorem marks_lt (n : Nat) : (marks 0 n).Pairwise (· < ·) := by
  unfold marks
  rw [List.pairwise_map]
  exact List.Pairwise.imp (by intro a b h; omega) List.pairwise_lt_range
theorem marks_mem_iff (n : Nat) (x : Int) : x ∈ marks 0 n ↔ 0 ≤ x ∧ x < (n : Int) := by
  unfold marks
  rw [List.mem_map]
  constructor
  · rintro ⟨a, ha, rfl⟩
    have := List.mem_range.1 ha
    omega
  · intro h
    exact ⟨x.toNat, List.mem_range.2 (by omega), by omega⟩
/-! an order is sorted into 0, 1, .. -/
theorem ord_srt (xs : List Int) (n : Nat) (hn : xs.length = n) : (xs.all (okR 0 ((n : Int) - 1)) = true ∧ xs.Nodup) ↔ srt xs = marks 0 n := by
  constructor
  · rintro ⟨ha, hd⟩
    have hm : ∀ x ∈ xs, x ∈ marks 0 n := fun x hx => by
      have := List.all_eq_true.1 ha x hx
      unfold okR at this
      rw [decide_eq_true_eq] at this
      rw [marks_mem_iff]
      omega
    have hm2 := sub_all xs (marks 0 n) hd hm (by rw [marks_length]; omega)
    refine (srt_is xs (marks 0 n) (marks_lt n) ?_).symm
    exact (List.perm_ext_iff_of_nodup (marks_nodup 0 n) hd).2 (fun x => ⟨fun h => hm2 x h, fun h => hm x h⟩)
  · intro e
    have hp : (marks 0 n).Perm xs := by rw [← e]; exact List.mergeSort_perm _ _
    refine ⟨?_, hp.nodup_iff.1 (marks_nodup 0 n)⟩
    rw [List.all_eq_true]
    intro x hx
    have := (marks_mem_iff n x).1 (hp.mem_iff.2 hx)
    unfold okR
    rw [decide_eq_true_eq]
    omega
/-! the rank by one product after the other -/
def hornT (xs : List Int) : Nat → Nat
  | 0 => 0
  | t + 1 => hornT xs t * (xs.length - t) + lessC xs t (xs.length - (t + 1))
theorem horn_rank (xs : List Int) : ∀ t, t ≤ xs.length → hornT xs t * facN (xs.length - t) = rankT xs t
  | 0, _ => by simp [hornT, rankT]
  | t + 1, ht => by
    have ih := horn_rank xs t (by omega)
    obtain ⟨m, hm⟩ : ∃ m, xs.length - t = m + 1 := ⟨xs.length - t - 1, by omega⟩
    have e1 : xs.length - (t + 1) = m := by omega
    have e2 : xs.length - 1 - t = m := by omega
    rw [hornT, rankT, e1, e2, ← ih, hm, facN, Nat.add_mul, Nat.mul_assoc, Nat.mul_comm (m + 1) (facN m)]
theorem horn_is (xs : List Int) : hornT xs xs.length = rankN xs := by
  have := horn_rank xs xs.length (Nat.le_refl _)
  rw [Nat.sub_self] at this
  simpa [facN, rankN] using this
/-- how many of a list are less than a number, of the first so many -/
def cntL (ys : List Int) (x : Int) : Nat → Nat
  | 0 => 0
  | k + 1 => cntL ys x k + (if ys.getD k 0 < x then 1 else 0)
theorem cntL_less (xs : List Int) (t : Nat) (ht : t < xs.length) : ∀ k, cntL (xs.drop t) (xs.getD t 0) (k + 1) = lessC xs t k
  | 0 => by simp [cntL, lessC, List.getD]
  | k + 1 => by
    have ih := cntL_less xs t ht k
    rw [cntL, ih, lessC]
    congr 2
    simp [List.getD, show t + (k + 1) = t + 1 + k by omega]
theorem cntL_le (ys : List Int) (x : Int) : ∀ k, cntL ys x k ≤ k
  | 0 => Nat.le_refl _
  | k + 1 => by
    have := cntL_le ys x k
    unfold cntL
    split <;> omega
/-! the digits of a rank -/
/-- what is left of a rank behind the digits of 1 .. m, and the digit of m -/
def qT (r m : Nat) : Nat := r / facN m
def dgT (r m : Nat) : Nat := (r / facN (m - 1)) % m
theorem qT_succ (r m : Nat) : qT r m / (m + 1) = qT r (m + 1) := by unfold qT; rw [facN, Nat.div_div_eq_div_mul]
theorem rk_dig (n r : Nat) (h : r < facN n) : ∀ j, j < n → rkR n r j / facN (n - j - 1) = dgT r (n - j) := by
  have hr : ∀ j, j ≤ n → rkR n r j = r % facN (n - j) := by
    intro j
    induction j with
    | zero => intro _; rw [rkR, Nat.sub_zero, Nat.mod_eq_of_lt h]
    | succ j ih =>
      intro hj
      obtain ⟨m, hm⟩ : ∃ m, n - j = m + 1 := ⟨n - j - 1, by omega⟩
      rw [rkR, ih (by omega), show n - j - 1 = n - (j + 1) by omega, show n - (j + 1) = m by omega, hm, facN]
      exact Nat.mod_mul_right_mod _ _ _
  intro j hj
  obtain ⟨m, hm⟩ : ∃ m, n - j = m + 1 := ⟨n - j - 1, by omega⟩
  rw [hr j (by omega), dgT, hm, Nat.add_sub_cancel, facN]
  exact Nat.mod_mul_right_div_self _ _ _

/-! the step of an order: the model tries steps from 1 on, the program remainders from 0 on -/
theorem tryN_some (m b r : Nat) : ∀ (k s i : Nat), i < k → (s + i * b) % m = r → (∀ u, u < i → (s + u * b) % m ≠ r) → tryN m b r k s = some (s + i * b)
  | 0, s, i, h, _, _ => by omega
  | k + 1, s, 0, _, h2, _ => by
    rw [Nat.zero_mul, Nat.add_zero] at h2
    rw [tryN, if_pos h2, Nat.zero_mul, Nat.add_zero]
  | k + 1, s, i + 1, h1, h2, h3 => by
    have h0 := h3 0 (by omega)
    rw [Nat.zero_mul, Nat.add_zero] at h0
    have e : ∀ u, s + b + u * b = s + (u + 1) * b := fun u => by rw [Nat.succ_mul]; omega
    rw [tryN, if_neg h0, tryN_some m b r k (s + b) i (by omega) (by rw [e]; exact h2) (fun u hu => by rw [e]; exact h3 (u + 1) (by omega)), e]
theorem tryN_no (m b r : Nat) : ∀ (k s : Nat), (∀ u, u < k → (s + u * b) % m ≠ r) → tryN m b r k s = none
  | 0, _, _ => rfl
  | k + 1, s, h => by
    have h0 := h 0 (by omega)
    rw [Nat.zero_mul, Nat.add_zero] at h0
    rw [tryN, if_neg h0]
    refine tryN_no m b r k (s + b) (fun u hu => ?_)
    have := h (u + 1) (by omega)
    rw [Nat.succ_mul] at this
    rw [show s + b + u * b = s + (u * b + b) by omega]
    exact this
/-- the first that fits, if one does -/
theorem first_of (P : Nat → Prop) [DecidablePred P] : ∀ k, (∃ i, i < k ∧ P i ∧ ∀ u, u < i → ¬ P u) ∨ ∀ u, u < k → ¬ P u
  | 0 => Or.inr (fun u h => by omega)
  | k + 1 => by
    rcases first_of P k with ⟨i, h1, h2, h3⟩ | h
    · exact Or.inl ⟨i, by omega, h2, h3⟩
    · by_cases hk : P k
      · exact Or.inl ⟨k, by omega, hk, h⟩
      · refine Or.inr (fun u hu => ?_)
        by_cases e : u = k
        · subst e; exact hk
        · exact h u (by omega)
structure Prd (m b d : Nat) : Prop where
  m1 : 1 ≤ m
  b1 : 1 ≤ b
  whole : d * b = Nat.lcm b m
  le : d ≤ m
  pos : 1 ≤ d
theorem prd (m b : Nat) (m1 : 1 ≤ m) (b1 : 1 ≤ b) : Prd m b (Nat.lcm b m / b) := by
  have hdv : b ∣ Nat.lcm b m := Nat.dvd_lcm_left b m
  have e : Nat.lcm b m / b * b = Nat.lcm b m := Nat.div_mul_cancel hdv
  have hp : 0 < Nat.lcm b m := Nat.lcm_pos b1 m1
  refine ⟨m1, b1, e, ?_, ?_⟩
  · have h1 : Nat.lcm b m ∣ b * m := Nat.lcm_dvd (Nat.dvd_mul_right b m) (Nat.dvd_mul_left m b)
    have h2 : Nat.lcm b m ≤ b * m := Nat.le_of_dvd (Nat.mul_pos b1 m1) h1
    exact Nat.div_le_of_le_mul h2
  · exact Nat.div_pos (Nat.le_of_dvd hp hdv) b1
theorem Prd.per {m b d : Nat} (h : Prd m b d) (s i : Nat) : (s + i * b) % m = (s + (i % d) * b) % m := by
  have hd : m ∣ d * b := by rw [h.whole]; exact Nat.dvd_lcm_right b m
  have e : s + i * b = s + (i % d) * b + (d * b) * (i / d) := by
    have h1 : d * (i / d) + i % d = i := Nat.div_add_mod i d
    have h2 : i * b = (d * (i / d)) * b + (i % d) * b := by rw [← Nat.add_mul, h1]
    rw [h2, Nat.mul_right_comm]
    omega
  obtain ⟨c, hc⟩ := hd
  rw [e, hc, Nat.mul_assoc, Nat.add_mul_mod_self_left]
theorem Prd.least {m b d : Nat} (h : Prd m b d) (i : Nat) (h0 : 0 < i) (h1 : i < d) : (i * b) % m ≠ 0 := by
  intro e
  have h2 : Nat.lcm b m ∣ i * b := Nat.lcm_dvd (Nat.dvd_mul_left b i) (Nat.dvd_of_mod_eq_zero e)
  rw [← h.whole] at h2
  have h3 := Nat.le_of_dvd (Nat.mul_pos h0 h.b1) h2
  have h4 : i * b < d * b := Nat.mul_lt_mul_of_pos_right h1 h.b1
  omega
/-- the model's step for the program's remainder -/
def upS (s b : Nat) : Nat := if s = 0 then b else s
theorem try_both {m b d : Nat} (h : Prd m b d) (r s : Nat) (hs : s < b) :
    (tryN m b r d s = none ∧ tryN m b r m (upS s b) = none) ∨
    ∃ x, tryN m b r d s = some x ∧ x < Nat.lcm b m ∧ tryN m b r m (upS s b) = some (upS x (Nat.lcm b m)) := by
  have hlt : ∀ i, i < d → s + i * b < Nat.lcm b m := fun i hi => by
    rw [← h.whole]
    have h1 : (i + 1) * b ≤ d * b := Nat.mul_le_mul_right b hi
    rw [Nat.succ_mul] at h1
    omega
  rcases first_of (fun i => (s + i * b) % m = r) d with ⟨i, h1, h2, h3⟩ | hno
  · refine Or.inr ⟨s + i * b, tryN_some m b r d s i h1 h2 h3, hlt i h1, ?_⟩
    by_cases hs0 : s = 0
    · subst hs0
      have eu : upS 0 b = b := rfl
      rw [eu]
      have e : ∀ u, b + u * b = 0 + (u + 1) * b := fun u => by rw [Nat.succ_mul]; omega
      cases i with
      | zero =>
        have hp := h.pos
        have hw := h.whole
        have e2 : upS (0 + 0 * b) (Nat.lcm b m) = b + (d - 1) * b := by
          rw [e, show d - 1 + 1 = d by omega, hw, Nat.zero_mul, Nat.zero_add]
          simp [upS]
        rw [e2]
        have h2' : r = 0 := by rw [← h2]; simp
        refine tryN_some m b r m b (d - 1) (by have := h.le; omega) ?_ ?_
        · rw [e, show d - 1 + 1 = d by omega, hw, h2', Nat.zero_add]
          exact Nat.mod_eq_zero_of_dvd (Nat.dvd_lcm_right b m)
        · intro u hu
          rw [e, Nat.zero_add, h2']
          exact h.least (u + 1) (by omega) (by omega)
      | succ i =>
        have hb := h.b1
        have hx : 0 < (i + 1) * b := Nat.mul_pos (by omega) hb
        have e2 : upS (0 + (i + 1) * b) (Nat.lcm b m) = b + i * b := by
          unfold upS
          rw [if_neg (by omega), e]
        rw [e2]
        refine tryN_some m b r m b i (by have := h.le; omega) (by rw [e]; exact h2) ?_
        intro u hu
        rw [e]
        exact h3 (u + 1) (by omega)
    · have eu : upS s b = s := by unfold upS; rw [if_neg hs0]
      have e2 : upS (s + i * b) (Nat.lcm b m) = s + i * b := by unfold upS; rw [if_neg (by omega)]
      rw [eu, e2]
      exact tryN_some m b r m s i (by have := h.le; omega) h2 h3
  · refine Or.inl ⟨tryN_no m b r d s hno, ?_⟩
    refine tryN_no m b r m (upS s b) (fun u _ => ?_)
    by_cases hs0 : s = 0
    · subst hs0
      have eu : upS 0 b = b := rfl
      rw [eu, show b + u * b = 0 + (u + 1) * b by rw [Nat.succ_mul]; omega, h.per]
      exact hno _ (Nat.mod_lt _ h.pos)
    · have eu : upS s b = s := by unfold upS; rw [if_neg hs0]
      rw [eu, h.per]
      exact hno _ (Nat.mod_lt _ h.pos)
/-- the program's remainder and period, behind the first j turns -/
def stP (us : List Int) (n : Nat) : Nat → Option (Nat × Nat)
  | 0 => some (0, 1)
  | j + 1 => match stP us n j with
    | none => none
    | some (s, b) => nxtS (n - j) b (tryN (n - j) b (us.getD j 0).toNat (Nat.lcm b (n - j) / b) s)
theorem lcmN_lcm' (x y : Nat) : lcmN x y = Nat.lcm x y := lcmN_lcm x y
theorem stP_is (us : List Int) (n : Nat) : ∀ j, j ≤ n → (stP us n j = none ∧ stN us n j = none) ∨ ∃ s b, stP us n j = some (s, b) ∧ stN us n j = some (upS s b, b) ∧ s < b
  | 0, _ => Or.inr ⟨0, 1, rfl, rfl, by omega⟩
  | j + 1, hj => by
    rcases stP_is us n j (by omega) with ⟨h1, h2⟩ | ⟨s, b, h1, h2, h3⟩
    · left
      rw [stP, stN, h1, h2]
      exact ⟨rfl, rfl⟩
    · rw [stP, stN, h1, h2]
      show (nxtS (n - j) b (tryN (n - j) b (us.getD j 0).toNat (Nat.lcm b (n - j) / b) s) = none ∧ nxtS (n - j) b (tryN (n - j) b (us.getD j 0).toNat (n - j) (upS s b)) = none) ∨ _
      rcases try_both (prd (n - j) b (by omega) (by omega)) (us.getD j 0).toNat s h3 with ⟨e1, e2⟩ | ⟨x, e1, e2, e3⟩
      · left
        rw [e1, e2]
        exact ⟨rfl, rfl⟩
      · right
        refine ⟨x, Nat.lcm b (n - j), ?_, ?_, e2⟩
        · show nxtS (n - j) b (tryN (n - j) b (us.getD j 0).toNat (Nat.lcm b (n - j) / b) s) = _
          rw [e1, nxtS, lcmN_lcm]
        · show nxtS (n - j) b (tryN (n - j) b (us.getD j 0).toNat (n - j) (upS s b)) = _
          rw [e3, nxtS, lcmN_lcm]
theorem stP_none (us : List Int) (n j : Nat) (h : stP us n j = none) : ∀ k, stP us n (j + k) = none
  | 0 => h
  | k + 1 => by rw [Nat.add_succ, stP, stP_none us n j h k]

theorem rot_mem {α : Type} (l : List α) (i : Nat) (x : α) : x ∈ rot l i ↔ x ∈ l := by
  unfold rot
  rw [List.mem_append, Or.comm, ← List.mem_append, List.take_append_drop]
theorem rot_nodup {α : Type} (l : List α) (i : Nat) (h : l.Nodup) : (rot l i).Nodup := by
  have hp : (rot l i).Perm l := by
    unfold rot
    exact (List.perm_append_comm).trans (by rw [List.take_append_drop])
  exact hp.symm.nodup h
theorem nodup_getD {l : List Int} (h : l.Nodup) (a b : Nat) (ha : a < l.length) (hb : b < l.length) (e : l.getD a 0 = l.getD b 0) : a = b := by
  have e1 : l.getD a 0 = l[a] := by simp [List.getD, ha]
  have e2 : l.getD b 0 = l[b] := by simp [List.getD, hb]
  rw [e1, e2] at e
  have hp := List.pairwise_iff_getElem.1 h
  rcases Nat.lt_trichotomy a b with hab | hab | hab
  · exact absurd e (hp a b ha hb hab)
  · exact hab
  · exact absurd e.symm (hp b a hb ha hab)
/-- where one stands, told from an index on -/
theorem at_rot (l : List Int) (i : Nat) (x : Int) (hd : l.Nodup) (hi : i < l.length) (hx : x ∈ l) : atL x l = (i + atL x (rot l i)) % l.length := by
  obtain ⟨_, a2, a3⟩ := atL_is x l hx
  obtain ⟨_, b2, b3⟩ := atL_is x (rot l i) ((rot_mem l i x).2 hx)
  rw [rot_length] at b2
  rw [rot_getD l i _ 0 hi b2] at b3
  exact nodup_getD hd _ _ a2 (Nat.mod_lt _ (by omega)) (a3.trans b3.symm)
/-- the remainder: how many are counted from the next one on -/
theorem rem_around (i a m : Nat) : ((((i + a) % m : Nat) : Int) - (i : Int) + 1) % (m : Int) = (((a + 1) % m : Nat) : Int) := by
  rw [Int.natCast_emod, Int.natCast_emod, Int.natCast_add, Int.natCast_add, Int.sub_eq_add_neg, Int.add_assoc, Int.emod_add_emod]
  congr 1
  omega
theorem cut_rot (l : List Int) (i a : Nat) (hi : i < l.length) (ha : a < l.length) (h2 : 2 ≤ l.length) :
    cutAt (rot l i) a = rot (l.eraseIdx ((i + a) % l.length)) ((i + a) % l.length % (l.length - 1)) := by
  rw [erase_rot l _ (Nat.mod_lt _ (by omega)) h2]
  unfold cutAt
  exact rot_rest l i a hi ha
end Go.Proofs.Ytpbbfpgjhmjjoac
