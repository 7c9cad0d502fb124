/- Steps by which a list is saved: their period, the least one behind a step, how many there are; mathematics alone. -/
import Derived.Test.YtpbbfpgjhmjjoacOutN
import Derived.Test.YtpbbfpgjhmjjoacSaveM
import Derived.Test.YtpbbfpgjhmjjoacSaveT
namespace Go.Proofs.Ytpbbfpgjhmjjoac

/-- the least number that n, n - 1 .., t numbers, divide -/
def pT (n : Nat) : Nat → Nat
  | 0 => 1
  | t + 1 => Nat.lcm (pT n t) (n - t)
theorem pT_pos (n : Nat) : ∀ t, t ≤ n → 1 ≤ pT n t
  | 0, _ => Nat.le_refl 1
  | t + 1, h => Nat.lcm_pos (pT_pos n t (by omega)) (by omega)
theorem pT_le (n t : Nat) (hn : n ≤ 16) (h : t ≤ n) : pT n t ≤ 720720 := by
  have : ∀ i : Fin 17, ∀ j : Fin 17, pT i j ≤ 720720 := by decide +kernel
  exact this ⟨n, by omega⟩ ⟨t, by omega⟩
theorem pT_dvd (n : Nat) : ∀ t i, i < t → (n - i) ∣ pT n t
  | t + 1, i, h => by
    rw [pT]
    by_cases e : i = t
    · subst e
      exact Nat.dvd_lcm_right _ _
    · exact Nat.dvd_trans (pT_dvd n t i (by omega)) (Nat.dvd_lcm_left _ _)
theorem pT_up (n t : Nat) : pT n t ∣ pT n (t + 1) := Nat.dvd_lcm_left _ _
theorem pT_mono (n : Nat) : ∀ t u, t ≤ u → pT n t ∣ pT n u
  | t, 0, h => by
    have : t = 0 := by omega
    subst this
    exact Nat.dvd_refl _
  | t, u + 1, h => by
    by_cases e : t = u + 1
    · subst e
      exact Nat.dvd_refl _
    · exact Nat.dvd_trans (pT_mono n t u (by omega)) (pT_up n u)
theorem perT_dvd : ∀ n i, 1 ≤ i → i ≤ n → i ∣ perT n
  | n + 1, i, h1, h2 => by
    rw [perT]
    by_cases e : i = n + 1
    · subst e
      exact Nat.dvd_lcm_right _ _
    · exact Nat.dvd_trans (perT_dvd n i h1 (by omega)) (Nat.dvd_lcm_left _ _)
  | 0, i, h1, h2 => by omega
theorem pT_perT (n : Nat) : ∀ t, t ≤ n → pT n t ∣ perT n
  | 0, _ => Nat.one_dvd _
  | t + 1, h => Nat.lcm_dvd (pT_perT n t (by omega)) (perT_dvd n (n - t) (by omega) (by omega))
theorem outN_congr (k k' : Int) (m : Nat) : ∀ t, (∀ i : Nat, i ≤ t → ((m : Int) + i + 1) ∣ k - k') → outN k m t = outN k' m t
  | 0, h => by
    unfold outN
    have h0 := h 0 (Nat.le_refl 0)
    apply Int.emod_eq_emod_iff_emod_sub_eq_zero.2
    rw [show k - 1 - (k' - 1) = k - k' by omega]
    exact Int.emod_eq_zero_of_dvd (by simpa using h0)
  | t + 1, h => by
    unfold outN
    rw [outN_congr k k' m t (fun i hi => h i (by omega))]
    have h0 := h (t + 1) (Nat.le_refl _)
    apply Int.emod_eq_emod_iff_emod_sub_eq_zero.2
    rw [show outN k' m t + k - (outN k' m t + k') = k - k' by omega]
    refine Int.emod_eq_zero_of_dvd ?_
    rw [show ((m : Int) + ((t + 1 : Nat) : Int) + 1) = (m : Int) + t + 2 by omega] at h0
    exact h0

/-- whether by a step none of a list goes at the first t turns of n people -/
def okT (n : Nat) (sv : List Int) : Nat → Nat → Bool
  | 0, _ => true
  | t + 1, k => okT n sv t k && !(sv.contains (outN (k : Int) (n - 1 - t) t))
theorem okT_per (n : Nat) (sv : List Int) : ∀ t, t ≤ n → ∀ k P : Nat, pT n t ∣ P → okT n sv t (k + P) = okT n sv t k
  | 0, _, _, _, _ => rfl
  | t + 1, h, k, P, hd => by
    rw [okT, okT, okT_per n sv t (by omega) k P (Nat.dvd_trans (pT_up n t) hd)]
    congr 3
    refine outN_congr _ _ _ _ (fun i hi => ?_)
    have e : ((k + P : Nat) : Int) - (k : Int) = (P : Int) := by omega
    rw [e, show ((n - 1 - t : Nat) : Int) + i + 1 = ((n - (t - i) : Nat) : Int) by omega, Int.natCast_dvd_natCast]
    exact Nat.dvd_trans (pT_dvd n (t + 1) (t - i) (by omega)) hd
theorem okT_mono (n : Nat) (sv : List Int) (k t : Nat) : ∀ u, t ≤ u → okT n sv t k = false → okT n sv u k = false
  | 0, h, e => by
    have : t = 0 := by omega
    subst this
    exact e
  | u + 1, h, e => by
    by_cases e2 : t = u + 1
    · subst e2
      exact e
    · rw [okT, okT_mono n sv k t u (by omega) e]
      rfl
theorem okT_iff (n : Nat) (sv : List Int) (k : Nat) : ∀ t, t ≤ n → (okT n sv t k = true ↔ ∀ x ∈ (outs (k : Int) n (marks 0 n)).take t, ¬ x ∈ sv)
  | 0, _ => by simp [okT]
  | t + 1, h => by
    have ih := okT_iff n sv k t (by omega)
    have hl : t < (outs (k : Int) n (marks 0 n)).length := by rw [outs_length]; omega
    have hg := order_getD (k : Int) n t (by omega)
    rw [List.getD_eq_getElem?_getD, List.getElem?_eq_getElem hl] at hg
    have hg' : (outs (k : Int) n (marks 0 n))[t] = outN (k : Int) (n - 1 - t) t := by simpa using hg
    rw [okT, Bool.and_eq_true, ih, ← List.take_append_getElem hl, hg']
    constructor
    · rintro ⟨h1, h2⟩ x hx
      rcases List.mem_append.1 hx with hx | hx
      · exact h1 x hx
      · have := List.mem_singleton.1 hx
        subst this
        simpa using h2
    · intro h1
      refine ⟨fun x hx => h1 x (List.mem_append.2 (.inl hx)), ?_⟩
      have := h1 _ (List.mem_append.2 (.inr (List.mem_singleton.2 rfl)))
      simpa using this

/-! a list of different ones in another -/
theorem sub_len {α : Type} [BEq α] [LawfulBEq α] : ∀ (a b : List α), a.Nodup → (∀ x ∈ a, x ∈ b) → a.length ≤ b.length
  | [], b, _, _ => Nat.zero_le _
  | x :: a, b, hn, h => by
    obtain ⟨h1, h2⟩ := List.nodup_cons.1 hn
    have hx : x ∈ b := h x (by simp)
    have := sub_len a (b.erase x) h2 (fun y hy => by
      have hne : y ≠ x := fun e => h1 (e ▸ hy)
      exact (List.mem_erase_of_ne hne).2 (h y (by simp [hy])))
    rw [List.length_erase_of_mem hx] at this
    have hp := List.length_pos_of_mem hx
    simp
    omega
theorem sub_all {α : Type} [BEq α] [LawfulBEq α] (a b : List α) (hn : a.Nodup) (h : ∀ x ∈ a, x ∈ b) (hl : b.length ≤ a.length) : ∀ x ∈ b, x ∈ a := by
  intro x hx
  apply Classical.byContradiction
  intro hc
  have := sub_len (x :: a) b (List.nodup_cons.2 ⟨hc, hn⟩) (fun y hy => by
    rcases List.mem_cons.1 hy with e | hy
    · exact e ▸ hx
    · exact h y hy)
  simp at this
  omega
/-- none of the saved ones goes at the first turns just if the last ones are all of them -/
theorem saved_iff (o sv : List Int) (n : Nat) (ho : o.Nodup) (hol : o.length = n) (hs : sv.Nodup) (hsl : sv.length ≤ n) (hm : ∀ x ∈ sv, x ∈ o) :
    (∀ x ∈ o.take (n - sv.length), ¬ x ∈ sv) ↔ ∀ x ∈ o.drop (n - sv.length), x ∈ sv := by
  have hd : (o.drop (n - sv.length)).length = sv.length := by rw [List.length_drop, hol]; omega
  have hap : (o.take (n - sv.length) ++ o.drop (n - sv.length)).Nodup := by rw [List.take_append_drop]; exact ho
  obtain ⟨n1, n2, n3⟩ := List.nodup_append.1 hap
  constructor
  · intro h
    refine sub_all sv _ hs (fun x hx => ?_) (by omega)
    have := hm x hx
    rw [← List.take_append_drop (n - sv.length) o] at this
    rcases List.mem_append.1 this with h1 | h1
    · exact absurd hx (h x h1)
    · exact h1
  · intro h x hx hxs
    have := sub_all _ sv n2 h (by omega) x hxs
    exact n3 x hx x this rfl
theorem countK_add (f : Nat → Bool) (a : Nat) : ∀ b, countK f (a + b) = countK f a + countK (fun k => f (a + k)) b
  | 0 => rfl
  | b + 1 => by
    rw [show a + (b + 1) = (a + b) + 1 by omega, countK, countK, countK_add f a b]
    rw [show a + b + 1 = a + (b + 1) by omega]
    omega
theorem countK_congr (f g : Nat → Bool) : ∀ n, (∀ k, 1 ≤ k → k ≤ n → f k = g k) → countK f n = countK g n
  | 0, _ => rfl
  | n + 1, h => by
    rw [countK, countK, countK_congr f g n (fun k h1 h2 => h k h1 (by omega)), h (n + 1) (by omega) (by omega)]
theorem countK_mul (f : Nat → Bool) (P : Nat) (hp : ∀ k, f (k + P) = f k) : ∀ q, countK f (q * P) = q * countK f P
  | 0 => by simp [countK]
  | q + 1 => by
    rw [Nat.succ_mul, Nat.add_comm (q * P) P, countK_add, Nat.succ_mul, ← countK_mul f P hp q, Nat.add_comm]
    congr 1
    exact countK_congr _ _ _ (fun k _ _ => by rw [Nat.add_comm P k]; exact hp k)
theorem countK_filter (f : Nat → Bool) : ∀ n, countK f n = ((List.range n).filter (fun i => f (i + 1))).length
  | 0 => rfl
  | n + 1 => by
    rw [countK, countK_filter f n, List.range_succ, List.filter_append, List.length_append]
    congr 1
    by_cases h : f (n + 1) = true
    · simp [h]
    · simp [h]
theorem per_mul (S : Nat → Bool) (P : Nat) (hp : ∀ k, S (k + P) = S k) (k : Nat) : ∀ q, S (k + q * P) = S k
  | 0 => by simp
  | q + 1 => by rw [Nat.succ_mul, ← Nat.add_assoc, hp, per_mul S P hp k q]
theorem per_mod (S : Nat → Bool) (P : Nat) (hp : ∀ k, S (k + P) = S k) (a b : Nat) (h : a % P = b % P) : S a = S b := by
  have ha := per_mul S P hp (a % P) (a / P)
  have hb := per_mul S P hp (b % P) (b / P)
  rw [Nat.mul_comm, Nat.mod_add_div] at ha hb
  rw [ha, hb, h]
/-- whether a number is among the steps of one period -/
def KeyP (S : Nat → Bool) (P k : Nat) : Prop := 1 ≤ k ∧ k ≤ P ∧ S k = true
/-- the number of one period that a number stands for -/
def resK (P v : Nat) : Nat := (v - 1) % P + 1
theorem resK_key (S : Nat → Bool) (P : Nat) (P1 : 1 ≤ P) (hp : ∀ k, S (k + P) = S k) (v : Nat) (h1 : 1 ≤ v) (hv : S v = true) : KeyP S P (resK P v) := by
  have hl : (v - 1) % P < P := Nat.mod_lt _ P1
  refine ⟨by unfold resK; omega, by unfold resK; omega, ?_⟩
  rw [← hv]
  refine per_mod S P hp _ _ ?_
  unfold resK
  rw [Nat.mod_add_mod]
  congr 1
  omega
theorem resK_self (P k : Nat) (h1 : 1 ≤ k) (h2 : k ≤ P) : resK P k = k := by
  unfold resK
  rw [Nat.mod_eq_of_lt (by omega)]
  omega
theorem resK_add (P k : Nat) (h1 : 1 ≤ k) : resK P (k + P) = resK P k := by
  unfold resK
  rw [show k + P - 1 = k - 1 + P by omega, Nat.add_mod_right]
theorem resK_mul (P k : Nat) (h1 : 1 ≤ k) : ∀ q, resK P (k + q * P) = resK P k
  | 0 => by simp
  | q + 1 => by rw [Nat.succ_mul, ← Nat.add_assoc, resK_add P _ (by omega), resK_mul P k h1 q]
theorem resK_form (P v : Nat) (h1 : 1 ≤ v) : v = resK P v + (v - 1) / P * P := by
  have := Nat.mod_add_div (v - 1) P
  rw [Nat.mul_comm] at this
  unfold resK
  omega
/-- two numbers that stand for the same, none a period behind the other -/
theorem resK_next (P f v q : Nat) (hf : 1 ≤ f) (hf2 : f ≤ P) (hv : 1 ≤ v) (h : resK P v = f) : v < f + (q + 1) * P ↔ (v < f + q * P ∨ v = f + q * P) := by
  have e := resK_form P v hv
  rw [h] at e
  obtain ⟨d, hd⟩ : ∃ d, (v - 1) / P = d := ⟨_, rfl⟩
  rw [hd] at e
  have P1 : 1 ≤ P := by omega
  constructor
  · intro hl
    have : d < q + 1 := by
      apply Classical.byContradiction
      intro hc
      have := Nat.mul_le_mul_right P (show q + 1 ≤ d by omega)
      omega
    have := Nat.mul_le_mul_right P (show d ≤ q by omega)
    omega
  · rw [Nat.succ_mul]
    omega
/-- the least number behind s that stands for k -/
def valI (s P k : Nat) : Int := (s : Int) + 1 + ((k : Int) - s - 1) % (P : Int)
theorem valI_nat (S : Nat → Bool) (P : Nat) (P1 : 1 ≤ P) (hp : ∀ k, S (k + P) = S k) (s k : Nat) (hk : KeyP S P k) : ∃ v : Nat, valI s P k = v ∧ s < v ∧ v ≤ s + P ∧ S v = true := by
  have h1 := Int.emod_nonneg ((k : Int) - s - 1) (b := (P : Int)) (by omega)
  have h2 := Int.emod_lt_of_pos ((k : Int) - s - 1) (b := (P : Int)) (by omega)
  refine ⟨(valI s P k).toNat, by unfold valI; omega, by unfold valI; omega, by unfold valI; omega, ?_⟩
  rw [← hk.2.2]
  refine per_mod S P hp _ _ ?_
  have e : (((valI s P k).toNat : Nat) : Int) = (s : Int) + 1 + ((k : Int) - s - 1) % (P : Int) := by unfold valI; omega
  have e2 : ((((valI s P k).toNat) % P : Nat) : Int) = ((k % P : Nat) : Int) := by
    rw [Int.natCast_emod, e, Int.natCast_emod, Int.add_emod_emod]
    congr 1
    omega
  omega
theorem valI_hit (S : Nat → Bool) (P : Nat) (P1 : 1 ≤ P) (hp : ∀ k, S (k + P) = S k) (s v : Nat) (h1 : s < v) (h2 : v ≤ s + P) (hv : S v = true) : ∃ k, KeyP S P k ∧ valI s P k = v := by
  refine ⟨resK P v, resK_key S P P1 hp v (by omega) hv, ?_⟩
  unfold valI
  have e := resK_form P v (by omega)
  have e2 : ((resK P v : Nat) : Int) - s - 1 = ((v : Int) - s - 1) + (P : Int) * (-(((v - 1) / P : Nat) : Int)) := by
    have : (v : Int) = (resK P v : Nat) + (((v - 1) / P : Nat) : Int) * (P : Int) := by
      rw [← Int.natCast_mul, ← Int.natCast_add]
      exact congrArg Nat.cast e
    rw [Int.mul_neg, Int.mul_comm (P : Int)]
    omega
  rw [e2, Int.add_mul_emod_self_left, Int.emod_eq_of_lt (by omega) (by omega)]
  omega
/-- the least of all steps that is greater than s -/
def Nxt (S : Nat → Bool) (s P : Nat) (r : Int) (b : Bool) : Prop := (b = true ∧ ∃ m : Nat, r = m ∧ s < m ∧ m ≤ s + P ∧ S m = true ∧ ∀ i, s < i → i < m → S i = false) ∨ (b = false ∧ r = 0 ∧ ∀ k, 1 ≤ k → S k = false)
theorem nxt_some (S : Nat → Bool) (P : Nat) (P1 : 1 ≤ P) (hp : ∀ k, S (k + P) = S k) (s : Nat) (m : Int) (h1 : m ≤ (s : Int) + P) (h2 : ∀ k, KeyP S P k → m ≤ valI s P k) (h3 : m = (s : Int) + P ∨ ∃ k, KeyP S P k ∧ m = valI s P k) (h4 : ∃ k, KeyP S P k) : Nxt S s P m true := by
  have h5 : ∃ k, KeyP S P k ∧ m = valI s P k := by
    rcases h3 with h3 | h3
    · obtain ⟨k, hk⟩ := h4
      obtain ⟨v, e, v1, v2, _⟩ := valI_nat S P P1 hp s k hk
      have := h2 k hk
      exact ⟨k, hk, by omega⟩
    · exact h3
  obtain ⟨k, hk, e⟩ := h5
  obtain ⟨v, e2, v1, v2, v3⟩ := valI_nat S P P1 hp s k hk
  refine .inl ⟨rfl, v, by omega, v1, v2, v3, fun i i1 i2 => ?_⟩
  cases hi : S i
  · rfl
  · obtain ⟨k', hk', e'⟩ := valI_hit S P P1 hp s i i1 (by omega) hi
    have := h2 k' hk'
    omega
theorem nxt_none (S : Nat → Bool) (P : Nat) (P1 : 1 ≤ P) (hp : ∀ k, S (k + P) = S k) (s : Nat) (h : ∀ k, ¬ KeyP S P k) : Nxt S s P 0 false := by
  refine .inr ⟨rfl, rfl, fun k k1 => ?_⟩
  cases hi : S k
  · rfl
  · exact absurd (resK_key S P P1 hp k k1 hi) (h _)
theorem nxt_first (S f : Nat → Bool) (P Q : Nat) (r : Int) (b : Bool) (h : Nxt S 0 P r b) (hPQ : P ≤ Q) (hf : ∀ k, 1 ≤ k → f k = S k) : firstK f Q = (r, b) := by
  rcases h with ⟨rfl, m, rfl, m1, m2, m3, m4⟩ | ⟨rfl, rfl, h⟩
  · obtain ⟨j, rfl⟩ : ∃ j, m = j + 1 := ⟨m - 1, by omega⟩
    exact firstK_hit f Q j (by omega) (by rw [hf _ (by omega)]; exact m3) (fun i hi => by rw [hf _ (by omega)]; exact m4 _ (by omega) (by omega))
  · exact firstK_none f Q (fun i hi => by rw [hf _ (by omega)]; exact h _ (by omega))
theorem nxt_next (S g : Nat → Bool) (s P Q : Nat) (r : Int) (b : Bool) (h : Nxt S s P r b) (hPQ : P ≤ Q) (hg : ∀ i, 1 ≤ i → g i = S (s + i)) : (if (firstK g Q).2 = true then ((s : Int) + (firstK g Q).1, true) else (0, false)) = (r, b) := by
  rcases h with ⟨rfl, m, rfl, m1, m2, m3, m4⟩ | ⟨rfl, rfl, h⟩
  · obtain ⟨j, rfl⟩ : ∃ j, m = s + (j + 1) := ⟨m - s - 1, by omega⟩
    rw [firstK_hit g Q j (by omega) (by rw [hg _ (by omega)]; exact m3) (fun i hi => by rw [hg _ (by omega)]; exact m4 _ (by omega) (by omega))]
    simp
  · rw [firstK_none g Q (fun i hi => by rw [hg _ (by omega)]; exact h _ (by omega))]
    rfl
/-- the model's group: the last ones by a step are all of a list -/
def grpL (n : Nat) (sv : List Int) (k : Nat) : Bool := ((outs (k : Int) n (marks 0 n)).drop (n - sv.length)).all (fun x => sv.contains x)
/-- .. the first ones -/
def grpF (n : Nat) (sv : List Int) (k : Nat) : Bool := ((outs (k : Int) n (marks 0 n)).take sv.length).all (fun x => sv.contains x)
/-- a list of different ones of n people -/
structure Few (n : Nat) (sv : List Int) : Prop where
  nd : sv.Nodup
  le : sv.length ≤ n
  inn : ∀ x ∈ sv, x ∈ marks 0 n
theorem mem_marks (n : Nat) (x : Int) : x ∈ marks 0 n ↔ 0 ≤ x ∧ x < n := by
  unfold marks
  rw [List.mem_map]
  constructor
  · rintro ⟨i, hi, e⟩
    have := List.mem_range.1 hi
    omega
  · intro h
    exact ⟨x.toNat, List.mem_range.2 (by omega), by omega⟩
theorem Few.ok (n : Nat) (sv : List Int) (h : Few n sv) (k : Nat) : okT n sv (n - sv.length) k = grpL n sv k := by
  have h1 := okT_iff n sv k (n - sv.length) (by omega)
  have h2 := saved_iff (outs (k : Int) n (marks 0 n)) sv n (outs_nodup _ n) (outs_length _ _ _) h.nd h.le (fun x hx => (outs_perm (k : Int) n _ (marks_length 0 n)).mem_iff.2 (h.inn x hx))
  have h3 : grpL n sv k = true ↔ ∀ x ∈ (outs (k : Int) n (marks 0 n)).drop (n - sv.length), x ∈ sv := by
    unfold grpL
    rw [List.all_eq_true]
    simp
  have h4 := h1.trans (h2.trans h3.symm)
  cases ha : okT n sv (n - sv.length) k <;> cases hb : grpL n sv k
  · rfl
  · rw [h4.2 hb] at ha; cases ha
  · rw [h4.1 ha] at hb; cases hb
  · rfl
theorem grpL_one (n : Nat) (u : Int) (k : Nat) (n1 : 1 ≤ n) : grpL n [u] k = isLast n u k := by
  have hl : n - 1 < (outs (k : Int) n (marks 0 n)).length := by rw [outs_length]; omega
  have hg := order_getD (k : Int) n (n - 1) (by omega)
  rw [List.getD_eq_getElem?_getD, List.getElem?_eq_getElem hl, show n - 1 - (n - 1) = 0 by omega, outN_last] at hg
  have hg' : (outs (k : Int) n (marks 0 n))[n - 1] = lastN (k : Int) (n - 1) := by simpa using hg
  unfold grpL isLast
  show ((outs (k : Int) n (marks 0 n)).drop (n - 1)).all _ = _
  rw [List.drop_eq_getElem_cons hl, hg', List.drop_eq_nil_of_le (by rw [outs_length]; omega)]
  simp
/-- those of n people who are not in a list -/
def others (n : Nat) (l : List Int) : List Int := (marks 0 n).filter (fun x => !l.contains x)
theorem others_few (n : Nat) (l : List Int) : Few n (others n l) := by
  refine ⟨(marks_nodup 0 n).filter _, ?_, fun x hx => (List.mem_filter.1 hx).1⟩
  have := List.length_filter_le (fun x => !l.contains x) (marks 0 n)
  rw [marks_length] at this
  exact this
theorem others_len (n : Nat) (l : List Int) (h : Few n l) : (others n l).length = n - l.length := by
  have h1 : (l ++ others n l).length ≤ n := by
    have := sub_len (l ++ others n l) (marks 0 n) (List.nodup_append.2 ⟨h.nd, (others_few n l).nd, fun a ha b hb e => by
      subst e
      have := (List.mem_filter.1 hb).2
      simp [ha] at this⟩) (fun x hx => by
        rcases List.mem_append.1 hx with hx | hx
        · exact h.inn x hx
        · exact (List.mem_filter.1 hx).1)
    rw [marks_length] at this
    exact this
  have h2 : (marks 0 n).length ≤ (l ++ others n l).length := sub_len _ _ (marks_nodup 0 n) (fun x hx => by
    rw [List.mem_append]
    by_cases hc : x ∈ l
    · exact .inl hc
    · exact .inr (List.mem_filter.2 ⟨hx, by simpa using hc⟩))
  rw [marks_length] at h2
  rw [List.length_append] at h1 h2
  omega
theorem okT_others (n : Nat) (l : List Int) (h : Few n l) (k : Nat) : okT n (others n l) l.length k = grpF n l k := by
  have h1 := okT_iff n (others n l) k l.length h.le
  have h3 : grpF n l k = true ↔ ∀ x ∈ (outs (k : Int) n (marks 0 n)).take l.length, x ∈ l := by
    unfold grpF
    rw [List.all_eq_true]
    simp
  have h2 : (∀ x ∈ (outs (k : Int) n (marks 0 n)).take l.length, ¬ x ∈ others n l) ↔ ∀ x ∈ (outs (k : Int) n (marks 0 n)).take l.length, x ∈ l := by
    constructor
    · intro h5 x hx
      have hm : x ∈ marks 0 n := (outs_perm (k : Int) n _ (marks_length 0 n)).mem_iff.1 (List.mem_of_mem_take hx)
      apply Classical.byContradiction
      intro hc
      exact h5 x hx (List.mem_filter.2 ⟨hm, by simpa using hc⟩)
    · intro h5 x hx hc
      have := (List.mem_filter.1 hc).2
      simp [h5 x hx] at this
  have h4 := h1.trans (h2.trans h3.symm)
  cases ha : okT n (others n l) l.length k <;> cases hb : grpF n l k
  · rfl
  · rw [h4.2 hb] at ha; cases ha
  · rw [h4.1 ha] at hb; cases hb
  · rfl
end Go.Proofs.Ytpbbfpgjhmjjoac
