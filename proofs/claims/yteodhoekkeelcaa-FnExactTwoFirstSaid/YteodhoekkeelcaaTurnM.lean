/- TwoTurn, TwoAt and TwoRound in the model, and that the program says the same; no condition. -/
import Derived.Test.YteodhoekkeelcaaTurns
namespace Go.Proofs.Yteodhoekkeelcaa
open Go.ChangeShapes Go.WideShapes Go.ChangeAt Go.RowKit Go.IntWalk

theorem ret_two {a b c d : Int} (h : a = c) (k : b = d) : Ending.returned (.tuple #[.int .i64 a, .int .i64 b]) = .returned (.tuple #[.int .i64 c, .int .i64 d]) := by rw [h, k]
theorem First.unique {P : Rnd → Bool} {xs : List Rnd} {i j : Nat} {x y : Rnd} (h : First P xs i x) (k : First P xs j y) : i = j ∧ x = y := by
  have e : i = j := by
    rcases Nat.lt_trichotomy i j with a | a | a
    · have := k.no i x a h.get; rw [h.yes] at this; cases this
    · exact a
    · have := h.no j y a k.get; rw [k.yes] at this; cases this
  subst e
  have := h.get.symm.trans k.get
  injection this with this
  exact ⟨rfl, this⟩
theorem First.here {P : Rnd → Bool} {xs pre rest : List Rnd} {x : Rnd} (hx : xs = pre ++ x :: rest) (hp : ∀ y ∈ pre, P y = false) (hy : P x = true) : First P xs pre.length x := by
  subst hx
  refine ⟨by simp, hy, fun j y hj hg => ?_⟩
  rw [List.getElem?_append_left hj] at hg
  exact hp y (List.mem_of_getElem? hg)
theorem step_all {P : Rnd → Bool} {pre : List Rnd} {x : Rnd} (hp : ∀ y ∈ pre, P y = false) (hy : P x = false) : ∀ y ∈ pre ++ [x], P y = false := by
  intro y h
  rcases List.mem_append.1 h with h | h
  · exact hp y h
  · obtain rfl : y = x := by simpa using h
    exact hy

/-- who is in which place -/
theorem mod_at (f g n : Nat) (hf : f < g) : (f + g * n) % (2 * g) = f + (n % 2) * g := by
  obtain ⟨t, ht⟩ : ∃ t, n = 2 * t + n % 2 := ⟨n / 2, by omega⟩
  have h2 : n % 2 < 2 := Nat.mod_lt _ (by omega)
  generalize n % 2 = r at *
  subst ht
  rw [show f + g * (2 * t + r) = f + r * g + 2 * g * t by rw [Nat.mul_add, ← Nat.mul_assoc, Nat.mul_comm g 2, Nat.mul_comm g r]; omega, Nat.add_mul_mod_self_left]
  refine Nat.mod_eq_of_lt ?_
  rcases (show r = 0 ∨ r = 1 by omega) with rfl | rfl <;> omega
/-- a person in a place of those who are left -/
structure Place (k f g l n : Nat) : Prop where
  is : k = f + g * n
  lt : n < l
theorem Place.hit {p k f g l n q : Nat} (h : Place k f g l n) (hf : Fit p f g l q) (hq : n % 2 = q) : hasB k ⟨f + q * g, 2 * g, rsz l q, p - l⟩ = true ∧ f + q * g ≤ k ∧ (k - (f + q * g)) / (2 * g) = n / 2 := by
  have hg := hf.g1
  have e : k = (f + q * g) + 2 * g * (n / 2) := by
    rw [h.is]
    have : n = 2 * (n / 2) + q := by omega
    generalize n / 2 = t at *
    subst this
    rw [Nat.mul_add, ← Nat.mul_assoc, Nat.mul_comm g 2, Nat.mul_comm g q]; omega
  refine ⟨?_, by omega, ?_⟩
  · unfold hasB
    simp only [decide_eq_true_eq]
    rw [h.is, mod_at f g n hf.f1, hq]
  · rw [e, Nat.add_sub_cancel_left, Nat.mul_div_cancel_left _ (by omega)]
theorem Place.miss {p k f g l n q : Nat} (h : Place k f g l n) (hf : Fit p f g l q) (hl : 2 ≤ l) (hq : n % 2 ≠ q) : hasB k ⟨f + q * g, 2 * g, rsz l q, p - l⟩ = false ∧ Place k (f + (1 - q) * g) (2 * g) (l - rsz l q) (n / 2) := by
  have hg := hf.g1
  have hq1 := hf.q1
  have hlt := h.lt
  refine ⟨?_, ?_, ?_⟩
  · unfold hasB
    simp only [decide_eq_false_iff_not]
    rw [h.is, mod_at f g n hf.f1]
    intro e
    have e2 : (n % 2) * g = q * g := by omega
    exact hq (Nat.eq_of_mul_eq_mul_right (by omega) e2)
  · rw [h.is]
    have : n = 2 * (n / 2) + (1 - q) := by omega
    generalize n / 2 = t at *
    subst this
    rw [Nat.mul_add, ← Nat.mul_assoc, Nat.mul_comm g 2, Nat.mul_comm g (1 - q)]; omega
  · unfold rsz
    rcases (show q = 0 ∨ q = 1 by omega) with rfl | rfl <;> omega
theorem Place.last {p k f g l n q : Nat} (h : Place k f g l n) (hf : Fit p f g l q) (hl : ¬ 2 ≤ l) : hasB k ⟨f, g, 1, p - 1⟩ = true ∧ k = f := by
  have h1 := h.lt; have h2 := hf.l1
  obtain rfl : n = 0 := by omega
  have e : k = f := by have := h.is; simpa using this
  subst e
  refine ⟨?_, rfl⟩
  unfold hasB
  simp only [decide_eq_true_eq]
  exact Nat.mod_eq_of_lt hf.f1
/-- there is a round in which the person goes -/
theorem has_first (p k : Nat) : ∀ (m f g l q n : Nat) (pre : List Rnd), l ≤ m → rounds p = pre ++ rnds p f g l q → Fit p f g l q → Place k f g l n → (∀ y ∈ pre, hasB k y = false) →
    ∃ i x, First (hasB k) (rounds p) i x ∧ x.f ≤ k := by
  intro m
  induction m with
  | zero => intro f g l q n pre hl _ hf; have := hf.l1; omega
  | succ m ih =>
    intro f g l q n pre hl hx hf hp hall
    by_cases h2 : 2 ≤ l
    · rw [rnds_go p f g l q h2 hf.q1] at hx
      by_cases hq : n % 2 = q
      · obtain ⟨a, b, _⟩ := hp.hit hf hq
        exact ⟨_, _, First.here hx hall a, b⟩
      · obtain ⟨a, b⟩ := hp.miss hf h2 hq
        have hb := rsz_bd l q h2 hf.q1
        exact ih _ _ _ _ _ (pre ++ [⟨f + q * g, 2 * g, rsz l q, p - l⟩]) (by omega) (by rw [hx]; simp) (hf.next h2) b (step_all hall a)
    · rw [rnds_end p f g l q h2] at hx
      obtain ⟨a, b⟩ := hp.last hf h2
      exact ⟨_, _, First.here hx hall a, by simp only; omega⟩
theorem has_start (p k : Nat) (h : k < p) : ∃ i x, First (hasB k) (rounds p) i x ∧ x.f ≤ k :=
  has_first p k p 0 1 p 1 k [] (Nat.le_refl _) rfl (Fit.start p (by omega)) ⟨by omega, h⟩ (fun y hy => by cases hy)

/-- a turn of those that are still to come -/
structure Turn (p k l t : Nat) : Prop where
  is : k = (p - l) + t
  lt : t < l
theorem Turn.hit {p k f g l t q : Nat} (h : Turn p k l t) (hf : Fit p f g l q) (hl : 2 ≤ l) (ht : t < rsz l q) : ltB k ⟨f + q * g, 2 * g, rsz l q, p - l⟩ = true ∧ k - (p - l) = t ∧ g * (2 * t + q) ≤ p - 1 := by
  refine ⟨?_, by have := h.is; omega, ?_⟩
  · unfold ltB
    simp only [decide_eq_true_eq]
    have := h.is; omega
  · have hm := hf.m
    refine Nat.le_trans ?_ hm
    rw [Nat.mul_comm]
    refine Nat.mul_le_mul_right g ?_
    have hq := hf.q1
    unfold rsz at ht
    rcases (show q = 0 ∨ q = 1 by omega) with rfl | rfl <;> omega
theorem Turn.miss {p k f g l t q : Nat} (h : Turn p k l t) (hf : Fit p f g l q) (hl : 2 ≤ l) (ht : ¬ t < rsz l q) : ltB k ⟨f + q * g, 2 * g, rsz l q, p - l⟩ = false ∧ Turn p k (l - rsz l q) (t - rsz l q) := by
  have h1 := h.is; have h2 := h.lt; have h3 := hf.l2
  have hb := rsz_bd l q hl hf.q1
  refine ⟨?_, by omega, by omega⟩
  unfold ltB
  simp only [decide_eq_false_iff_not]
  omega
theorem Turn.last {p k f g l t q : Nat} (h : Turn p k l t) (hf : Fit p f g l q) (hl : ¬ 2 ≤ l) : ltB k ⟨f, g, 1, p - 1⟩ = true ∧ k = p - 1 := by
  have h1 := h.is; have h2 := h.lt; have h3 := hf.l1; have h4 := hf.l2
  refine ⟨?_, by omega⟩
  unfold ltB
  simp only [decide_eq_true_eq]
  omega
theorem lt_first (p k : Nat) : ∀ (m f g l q t : Nat) (pre : List Rnd), l ≤ m → rounds p = pre ++ rnds p f g l q → Fit p f g l q → Turn p k l t → (∀ y ∈ pre, ltB k y = false) →
    ∃ i x, First (ltB k) (rounds p) i x ∧ x.b ≤ k ∧ (k - x.b) * x.g ≤ p - 1 := by
  intro m
  induction m with
  | zero => intro f g l q n pre hl _ hf; have := hf.l1; omega
  | succ m ih =>
    intro f g l q t pre hl hx hf hp hall
    by_cases h2 : 2 ≤ l
    · rw [rnds_go p f g l q h2 hf.q1] at hx
      by_cases ht : t < rsz l q
      · obtain ⟨a, b, c⟩ := hp.hit hf h2 ht
        refine ⟨_, _, First.here hx hall a, ?_, ?_⟩
        · have := hp.is; simp only; omega
        · simp only
          rw [b]
          refine Nat.le_trans ?_ c
          rw [show t * (2 * g) = g * (2 * t) by rw [Nat.mul_comm 2 g, Nat.mul_comm t, Nat.mul_assoc]]
          exact Nat.mul_le_mul_left g (by omega)
      · obtain ⟨a, b⟩ := hp.miss hf h2 ht
        have hb := rsz_bd l q h2 hf.q1
        exact ih _ _ _ _ _ (pre ++ [⟨f + q * g, 2 * g, rsz l q, p - l⟩]) (by omega) (by rw [hx]; simp) (hf.next h2) b (step_all hall a)
    · rw [rnds_end p f g l q h2] at hx
      obtain ⟨a, b⟩ := hp.last hf h2
      exact ⟨_, _, First.here hx hall a, by simp only; omega, by simp only; rw [b, Nat.sub_self, Nat.zero_mul]; omega⟩
theorem lt_start (p k : Nat) (h : k < p) : ∃ i x, First (ltB k) (rounds p) i x ∧ x.b ≤ k ∧ (k - x.b) * x.g ≤ p - 1 :=
  lt_first p k p 0 1 p 1 k [] (Nat.le_refl _) rfl (Fit.start p (by omega)) ⟨by omega, h⟩ (fun y hy => by cases hy)
set_option maxRecDepth 100000 in
set_option maxHeartbeats 3200000 in
theorem twTurn_any (p k i : Nat) (x : Rnd) (W : World) (h : In p 1 1000000000000) (hk : k < p) (hF : First (hasB k) (rounds p) i x) :
    Calls Try.prog 33 #[.int .i64 p, .int .i64 k] W fun e w' => e = .returned (.tuple #[.int .i64 (x.b + (k - x.f) / x.g : Nat), .int .i64 i]) ∧ W = w' := by
  have h1 := h.lo; have h2 := h.hi
  have HF := Lib.hid hF
  have HLEN := Lib.hid (rounds_len p (by omega))
  obtain ⟨V, hV⟩ : ∃ V, x.b + (k - x.f) / x.g = V := ⟨_, rfl⟩
  rw [hV]
  have HVV := Lib.hid hV
  clear hF hV
  go_enter Try.func33, Try.ntmps33
  go_wp2
  go_loop [0, 1, 6, 7, 8, 9, 10] (fun a b t r s _ _ => ∃ (pre : List Rnd) (f g m n T : Nat) (q : Bool), a = .int .i64 m ∧ b = .int .i64 n ∧ t = .int .i64 T ∧ r = .int .i64 (pre.length : Nat) ∧ s = .bool q ∧ Hid (T + m = p) ∧ Hid (rounds p = pre ++ rnds p f g m q.toNat) ∧ Hid (Fit p f g m q.toNat) ∧ Hid (Place k f g m n) ∧ Hid (∀ y ∈ pre, hasB k y = false)) (fun a _ _ _ _ _ _ => (intOf a).toNat)
  case atStart => exact ⟨[], 0, 1, p, k, 0, true, rfl, rfl, rfl, rfl, rfl, Lib.hid (by omega), Lib.hid rfl, Lib.hid (Fit.start p (by omega)), Lib.hid ⟨by omega, hk⟩, Lib.hid (fun y hy => by cases hy)⟩
  case round =>
    obtain ⟨pre, f, g, m, n, T, q, rfl, rfl, rfl, rfl, rfl, hT, hx, hfit, hp, hall⟩ := hrel
    have hmp := hfit.out.l2
    have hm0 := hfit.out.l1
    have hnm := hp.out.lt
    have hTp : T ≤ p := by have := hT.out; omega
    have hpl : pre.length ≤ 40 := by
      have := HLEN.out
      rw [hx.out] at this
      have c : 1 ≤ (rnds p f g m q.toNat).length := by rw [rnds]; split <;> simp
      simp only [List.length_append] at this
      omega
    obtain ⟨L, hL⟩ : ∃ L, pre.length = L := ⟨_, rfl⟩
    have HL := Lib.hid hL
    rw [hL] at hpl
    rw [hL]
    clear hL
    by_cases hm : 2 ≤ m
    · have hx2 := hx.out
      rw [rnds_go p f g m q.toNat hm hfit.out.q1] at hx2
      have HX := Lib.hid hx2
      clear hx2
      have HN := Lib.hid (hfit.out.next hm)
      have hb := rsz_bd m q.toNat hm hfit.out.q1
      cases q
      · simp only [Bool.toNat_false] at hb HX HN
        by_cases hq : n % 2 = 0
        · obtain ⟨a, _, d⟩ := hp.out.hit hfit.out (by simpa using hq)
          simp only [Bool.toNat_false] at a d
          obtain ⟨e1, e2⟩ := HF.out.unique (First.here HX.out hall.out a)
          subst e2
          have HV : Hid ((V : Int) = (T : Int) + (n : Int) / 2) := Lib.hid (by have e3 := HVV.out; simp only at e3; rw [d] at e3; have := hT.out; omega)
          have HE := Lib.hid (e1.trans HL.out)
          have hn2 : (n : Int) % 2 = 0 := by omega
          clear a d e1 hq
          go_wp2
          go_ret2
          exact ⟨ret_two HV.out.symm (by rw [HE.out]), rfl⟩
        · obtain ⟨a, d⟩ := hp.out.miss hfit.out hm (by simpa using hq)
          simp only [Bool.toNat_false] at a d
          have HA := Lib.hid (step_all hall.out a)
          have HD := Lib.hid d
          have HL2 : Hid ((pre ++ [(⟨f + 0 * g, 2 * g, rsz m 0, p - m⟩ : Rnd)]).length = L + 1) := Lib.hid (by simp [HL.out])
          have HX2 := Lib.hid (show rounds p = (pre ++ [⟨f + 0 * g, 2 * g, rsz m 0, p - m⟩]) ++ rnds p (f + (1 - 0) * g) (2 * g) (m - rsz m 0) ((m + 0) % 2) by rw [HX.out]; simp)
          have hn2 : (n : Int) % 2 = 1 := by omega
          have hsz : rsz m 0 = (m + 1) / 2 := by unfold rsz; omega
          have HSZ := Lib.hid hsz
          clear a d hq hsz HX hx
          by_cases hodd : m % 2 = 0
          · have ho : (m : Int) % 2 = 0 := by omega
            have e2 : Hid ((m + 0) % 2 = 0) := Lib.hid (by omega)
            rw [e2.out] at HX2 HN
            clear hodd
            go_wp2
            go_round
            case rel => 
              refine ⟨pre ++ [⟨f + 0 * g, 2 * g, rsz m 0, p - m⟩], f + (1 - 0) * g, 2 * g, m - rsz m 0, n / 2, T + rsz m 0, false, ?_, ?_, ?_, ?_, rfl, Lib.hid (by have := hT.out; omega), HX2, HN, HD, HA⟩
              · rw [HSZ.out]; congr 1; omega
              · congr 1
              · rw [HSZ.out]; congr 1
              · rw [HL2.out]; congr 1
            case measure => simp [intOf]; omega
          · have ho : (m : Int) % 2 = 1 := by omega
            have e2 : Hid ((m + 0) % 2 = 1) := Lib.hid (by omega)
            rw [e2.out] at HX2 HN
            clear hodd
            go_wp2
            go_round
            case rel => 
              refine ⟨pre ++ [⟨f + 0 * g, 2 * g, rsz m 0, p - m⟩], f + (1 - 0) * g, 2 * g, m - rsz m 0, n / 2, T + rsz m 0, true, ?_, ?_, ?_, ?_, rfl, Lib.hid (by have := hT.out; omega), HX2, HN, HD, HA⟩
              · rw [HSZ.out]; congr 1; omega
              · congr 1
              · rw [HSZ.out]; congr 1
              · rw [HL2.out]; congr 1
            case measure => simp [intOf]; omega
      · simp only [Bool.toNat_true] at hb HX HN
        by_cases hq : n % 2 = 1
        · obtain ⟨a, _, d⟩ := hp.out.hit hfit.out (by simpa using hq)
          simp only [Bool.toNat_true] at a d
          obtain ⟨e1, e2⟩ := HF.out.unique (First.here HX.out hall.out a)
          subst e2
          have HV : Hid ((V : Int) = (T : Int) + (n : Int) / 2) := Lib.hid (by have e3 := HVV.out; simp only at e3; rw [d] at e3; have := hT.out; omega)
          have HE := Lib.hid (e1.trans HL.out)
          have hn2 : (n : Int) % 2 = 1 := by omega
          clear a d e1 hq
          go_wp2
          go_ret2
          exact ⟨ret_two HV.out.symm (by rw [HE.out]), rfl⟩
        · obtain ⟨a, d⟩ := hp.out.miss hfit.out hm (by simpa using hq)
          simp only [Bool.toNat_true] at a d
          have HA := Lib.hid (step_all hall.out a)
          have HD := Lib.hid d
          have HL2 : Hid ((pre ++ [(⟨f + 1 * g, 2 * g, rsz m 1, p - m⟩ : Rnd)]).length = L + 1) := Lib.hid (by simp [HL.out])
          have HX2 := Lib.hid (show rounds p = (pre ++ [⟨f + 1 * g, 2 * g, rsz m 1, p - m⟩]) ++ rnds p (f + (1 - 1) * g) (2 * g) (m - rsz m 1) ((m + 1) % 2) by rw [HX.out]; simp)
          have hn2 : (n : Int) % 2 = 0 := by omega
          have hsz : rsz m 1 = m / 2 := by unfold rsz; omega
          have HSZ := Lib.hid hsz
          clear a d hq hsz HX hx
          by_cases hodd : m % 2 = 0
          · have ho : (m : Int) % 2 = 0 := by omega
            have e2 : Hid ((m + 1) % 2 = 1) := Lib.hid (by omega)
            rw [e2.out] at HX2 HN
            clear hodd
            go_wp2
            go_round
            case rel => 
              refine ⟨pre ++ [⟨f + 1 * g, 2 * g, rsz m 1, p - m⟩], f + (1 - 1) * g, 2 * g, m - rsz m 1, n / 2, T + rsz m 1, true, ?_, ?_, ?_, ?_, rfl, Lib.hid (by have := hT.out; omega), HX2, HN, HD, HA⟩
              · rw [HSZ.out]; congr 1; omega
              · congr 1
              · rw [HSZ.out]; congr 1
              · rw [HL2.out]; congr 1
            case measure => simp [intOf]; omega
          · have ho : (m : Int) % 2 = 1 := by omega
            have e2 : Hid ((m + 1) % 2 = 0) := Lib.hid (by omega)
            rw [e2.out] at HX2 HN
            clear hodd
            go_wp2
            go_round
            case rel => 
              refine ⟨pre ++ [⟨f + 1 * g, 2 * g, rsz m 1, p - m⟩], f + (1 - 1) * g, 2 * g, m - rsz m 1, n / 2, T + rsz m 1, false, ?_, ?_, ?_, ?_, rfl, Lib.hid (by have := hT.out; omega), HX2, HN, HD, HA⟩
              · rw [HSZ.out]; congr 1; omega
              · congr 1
              · rw [HSZ.out]; congr 1
              · rw [HL2.out]; congr 1
            case measure => simp [intOf]; omega
    · obtain ⟨a, b⟩ := hp.out.last hfit.out hm
      have hm1 : m = 1 := by omega
      subst hm1
      have hx2 := hx.out
      rw [rnds_end p f g 1 _ hm] at hx2
      obtain ⟨e1, e2⟩ := HF.out.unique (First.here hx2 hall.out a)
      subst e2
      have HV : Hid ((V : Int) = T) := Lib.hid (by have e3 := HVV.out; simp only at e3; rw [b, Nat.sub_self, Nat.zero_div] at e3; have := hT.out; omega)
      have HE := Lib.hid (e1.trans HL.out)
      clear a b hx2 e1 hm
      go_wp2
      go_ret2
      exact ⟨ret_two HV.out.symm (by rw [HE.out]), rfl⟩

set_option maxRecDepth 100000 in
set_option maxHeartbeats 3200000 in
theorem twAt_any (p k i : Nat) (x : Rnd) (W : World) (h : In p 1 1000000000000) (hk : k < p) (hF : First (ltB k) (rounds p) i x) :
    Calls Try.prog 39 #[.int .i64 p, .int .i64 k] W fun e w' => e = .returned (.int .i64 (x.f + (k - x.b) * x.g : Nat)) ∧ W = w' := by
  have h1 := h.lo; have h2 := h.hi
  have HF := Lib.hid hF
  obtain ⟨V, hV⟩ : ∃ V, x.f + (k - x.b) * x.g = V := ⟨_, rfl⟩
  rw [hV]
  have HVV := Lib.hid hV
  clear hF hV
  go_enter Try.func39, Try.ntmps39
  go_wp2
  go_loop [0, 1, 5, 6, 7, 8, 9] (fun a t vf vg s _ _ => ∃ (pre : List Rnd) (f g m n : Nat) (q : Bool), a = .int .i64 m ∧ t = .int .i64 n ∧ vf = .int .i64 f ∧ vg = .int .i64 g ∧ s = .bool q ∧ Hid (rounds p = pre ++ rnds p f g m q.toNat) ∧ Hid (Fit p f g m q.toNat) ∧ Hid (Turn p k m n) ∧ Hid (∀ y ∈ pre, ltB k y = false)) (fun a _ _ _ _ _ _ => (intOf a).toNat)
  case atStart => exact ⟨[], 0, 1, p, k, true, rfl, rfl, rfl, rfl, rfl, Lib.hid rfl, Lib.hid (Fit.start p (by omega)), Lib.hid ⟨by omega, hk⟩, Lib.hid (fun y hy => by cases hy)⟩
  case round =>
    obtain ⟨pre, f, g, m, n, q, rfl, rfl, rfl, rfl, rfl, hx, hfit, hp, hall⟩ := hrel
    have hmp := hfit.out.l2
    have hm0 := hfit.out.l1
    have hnm := hp.out.lt
    have hg2 := hfit.out.g2
    have hfg := hfit.out.f1
    by_cases hm : 2 ≤ m
    · have hx2 := hx.out
      rw [rnds_go p f g m q.toNat hm hfit.out.q1] at hx2
      have HX := Lib.hid hx2
      clear hx2
      have HN := Lib.hid (hfit.out.next hm)
      have hb := rsz_bd m q.toNat hm hfit.out.q1
      cases q
      · simp only [Bool.toNat_false] at hb HX HN
        have hsz : rsz m 0 = (m + 1) / 2 := by unfold rsz; omega
        have HSZ := Lib.hid hsz
        by_cases hq : n < rsz m 0
        · obtain ⟨a, d, c⟩ := hp.out.hit hfit.out hm hq
          simp only [Bool.toNat_false] at a d c
          obtain ⟨e1, e2⟩ := HF.out.unique (First.here HX.out hall.out a)
          subst e2
          obtain ⟨y, hy⟩ : ∃ y, g * (2 * n + 0) = y := ⟨_, rfl⟩
          rw [hy] at c
          have HV : Hid ((V : Int) = (f : Int) + y) := Lib.hid (by
            have e3 := HVV.out
            simp only at e3
            rw [d] at e3
            have e4 : n * (2 * g) + 0 * g = y := by rw [← hy, Nat.mul_add, Nat.mul_comm n, Nat.mul_comm 2 g, Nat.mul_assoc, Nat.mul_comm g 0]
            omega)
          have m0 : (g : Int) * (2 * (n : Int)) = y := by rw [← hy]; simp
          have m1 : IntKind.i64.wrap ((g : Int) * (2 * (n : Int))) = y := by rw [m0]; exact i64_in _ (by omega)
          have hq2 : n < (m + 1) / 2 := by omega
          clear a d e1 hq m0 hy hsz
          go_wp2
          go_ret
          exact ⟨ret_int HV.out.symm, rfl⟩
        · obtain ⟨a, d⟩ := hp.out.miss hfit.out hm hq
          simp only [Bool.toNat_false] at a d
          have HA := Lib.hid (step_all hall.out a)
          have HD := Lib.hid d
          have HX2 := Lib.hid (show rounds p = (pre ++ [⟨f + 0 * g, 2 * g, rsz m 0, p - m⟩]) ++ rnds p (f + (1 - 0) * g) (2 * g) (m - rsz m 0) ((m + 0) % 2) by rw [HX.out]; simp)
          have hq2 : ¬ n < (m + 1) / 2 := by omega
          clear a d hq hsz HX hx
          by_cases hodd : m % 2 = 0
          · have ho : (m : Int) % 2 = 0 := by omega
            have e2 : Hid ((m + 0) % 2 = 0) := Lib.hid (by omega)
            rw [e2.out] at HX2 HN
            clear hodd
            go_wp2
            go_round
            case rel =>
              refine ⟨pre ++ [⟨f + 0 * g, 2 * g, rsz m 0, p - m⟩], f + (1 - 0) * g, 2 * g, m - rsz m 0, n - rsz m 0, false, ?_, ?_, ?_, ?_, rfl, HX2, HN, HD, HA⟩
              · rw [HSZ.out]; congr 1; omega
              · rw [HSZ.out]; congr 1; omega
              · congr 1; simp
              · congr 1; omega
            case measure => simp [intOf]; omega
          · have ho : (m : Int) % 2 = 1 := by omega
            have e2 : Hid ((m + 0) % 2 = 1) := Lib.hid (by omega)
            rw [e2.out] at HX2 HN
            clear hodd
            go_wp2
            go_round
            case rel =>
              refine ⟨pre ++ [⟨f + 0 * g, 2 * g, rsz m 0, p - m⟩], f + (1 - 0) * g, 2 * g, m - rsz m 0, n - rsz m 0, true, ?_, ?_, ?_, ?_, rfl, HX2, HN, HD, HA⟩
              · rw [HSZ.out]; congr 1; omega
              · rw [HSZ.out]; congr 1; omega
              · congr 1; simp
              · congr 1; omega
            case measure => simp [intOf]; omega
      · simp only [Bool.toNat_true] at hb HX HN
        have hsz : rsz m 1 = m / 2 := by unfold rsz; omega
        have HSZ := Lib.hid hsz
        by_cases hq : n < rsz m 1
        · obtain ⟨a, d, c⟩ := hp.out.hit hfit.out hm hq
          simp only [Bool.toNat_true] at a d c
          obtain ⟨e1, e2⟩ := HF.out.unique (First.here HX.out hall.out a)
          subst e2
          obtain ⟨y, hy⟩ : ∃ y, g * (2 * n + 1) = y := ⟨_, rfl⟩
          rw [hy] at c
          have HV : Hid ((V : Int) = (f : Int) + y) := Lib.hid (by
            have e3 := HVV.out
            simp only at e3
            rw [d] at e3
            have e4 : n * (2 * g) + 1 * g = y := by rw [← hy, Nat.mul_add, Nat.mul_comm n, Nat.mul_comm 2 g, Nat.mul_assoc, Nat.mul_comm g 1]
            omega)
          have m0 : (g : Int) * (2 * (n : Int) + 1) = y := by rw [← hy]; simp
          have m1 : IntKind.i64.wrap ((g : Int) * (2 * (n : Int) + 1)) = y := by rw [m0]; exact i64_in _ (by omega)
          have hq2 : n < m / 2 := by omega
          clear a d e1 hq m0 hy hsz
          go_wp2
          go_ret
          exact ⟨ret_int HV.out.symm, rfl⟩
        · obtain ⟨a, d⟩ := hp.out.miss hfit.out hm hq
          simp only [Bool.toNat_true] at a d
          have HA := Lib.hid (step_all hall.out a)
          have HD := Lib.hid d
          have HX2 := Lib.hid (show rounds p = (pre ++ [⟨f + 1 * g, 2 * g, rsz m 1, p - m⟩]) ++ rnds p (f + (1 - 1) * g) (2 * g) (m - rsz m 1) ((m + 1) % 2) by rw [HX.out]; simp)
          have hq2 : ¬ n < m / 2 := by omega
          clear a d hq hsz HX hx
          by_cases hodd : m % 2 = 0
          · have ho : (m : Int) % 2 = 0 := by omega
            have e2 : Hid ((m + 1) % 2 = 1) := Lib.hid (by omega)
            rw [e2.out] at HX2 HN
            clear hodd
            go_wp2
            go_round
            case rel =>
              refine ⟨pre ++ [⟨f + 1 * g, 2 * g, rsz m 1, p - m⟩], f + (1 - 1) * g, 2 * g, m - rsz m 1, n - rsz m 1, true, ?_, ?_, ?_, ?_, rfl, HX2, HN, HD, HA⟩
              · rw [HSZ.out]; congr 1; omega
              · rw [HSZ.out]; congr 1; omega
              · congr 1; simp
              · congr 1; omega
            case measure => simp [intOf]; omega
          · have ho : (m : Int) % 2 = 1 := by omega
            have e2 : Hid ((m + 1) % 2 = 0) := Lib.hid (by omega)
            rw [e2.out] at HX2 HN
            clear hodd
            go_wp2
            go_round
            case rel =>
              refine ⟨pre ++ [⟨f + 1 * g, 2 * g, rsz m 1, p - m⟩], f + (1 - 1) * g, 2 * g, m - rsz m 1, n - rsz m 1, false, ?_, ?_, ?_, ?_, rfl, HX2, HN, HD, HA⟩
              · rw [HSZ.out]; congr 1; omega
              · rw [HSZ.out]; congr 1; omega
              · congr 1; simp
              · congr 1; omega
            case measure => simp [intOf]; omega
    · obtain ⟨a, b⟩ := hp.out.last hfit.out hm
      have hm1 : m = 1 := by omega
      subst hm1
      have hx2 := hx.out
      rw [rnds_end p f g 1 _ hm] at hx2
      obtain ⟨e1, e2⟩ := HF.out.unique (First.here hx2 hall.out a)
      subst e2
      have HV : Hid ((V : Int) = f) := Lib.hid (by have e3 := HVV.out; simp only at e3; rw [b, Nat.sub_self, Nat.zero_mul] at e3; omega)
      clear a b hx2 e1 hm
      go_wp2
      go_ret
      exact ⟨ret_int HV.out.symm, rfl⟩
end Go.Proofs.Yteodhoekkeelcaa
