/- Exchanges of places: how many times until each place comes back (the least common multiple of the cycles' lengths); mathematics alone, no condition but that the places are 0 .. n - 1, each once. -/
import Derived.Test.YtpbbfpgjhmjjoacLow
namespace Go.Proofs.Ytpbbfpgjhmjjoac

/-- k times the exchange -/
def itp (p : Nat → Nat) : Nat → Nat → Nat
  | 0, i => i
  | k + 1, i => p (itp p k i)
structure Exch (p : Nat → Nat) (n : Nat) : Prop where
  lt : ∀ i, i < n → p i < n
  inj : ∀ i j, i < n → j < n → p i = p j → i = j
theorem itp_add (p : Nat → Nat) (a b i : Nat) : itp p (a + b) i = itp p a (itp p b i) := by
  induction a with
  | zero => simp [itp]
  | succ a ih => rw [show a + 1 + b = (a + b) + 1 by omega, itp, itp, ih]
theorem itp_comm (p : Nat → Nat) (a b i : Nat) : itp p a (itp p b i) = itp p b (itp p a i) := by
  rw [← itp_add, ← itp_add, Nat.add_comm]
theorem itp_lt {p : Nat → Nat} {n : Nat} (h : Exch p n) (k i : Nat) (hi : i < n) : itp p k i < n := by
  induction k with
  | zero => exact hi
  | succ k ih => exact h.lt _ ih
theorem itp_inj {p : Nat → Nat} {n : Nat} (h : Exch p n) (k i j : Nat) (hi : i < n) (hj : j < n) (e : itp p k i = itp p k j) : i = j := by
  induction k with
  | zero => exact e
  | succ k ih => exact ih (h.inj _ _ (itp_lt h k i hi) (itp_lt h k j hj) e)
theorem nodup_len : ∀ (n : Nat) (l : List Nat), l.Nodup → (∀ x ∈ l, x < n) → l.length ≤ n
  | 0, l, _, h => by
    cases l with
    | nil => simp
    | cons x l => exact absurd (h x (by simp)) (by omega)
  | n + 1, l, hd, h => by
    have h1 : (l.erase n).Nodup := hd.erase n
    have h2 : ∀ x ∈ l.erase n, x < n := fun x hx => by
      have h3 := h x (List.mem_of_mem_erase hx)
      have h4 : x ≠ n := fun e => by
        subst e
        exact hd.not_mem_erase hx
      omega
    have h5 := nodup_len n _ h1 h2
    have h6 := List.length_erase (a := n) (l := l)
    split at h6 <;> omega
theorem itp_back {p : Nat → Nat} {n : Nat} (h : Exch p n) (i : Nat) (hi : i < n) : ∃ k, k < n ∧ itp p (k + 1) i = i := by
  apply Classical.byContradiction
  intro hno
  have hne : ∀ k, k < n → itp p (k + 1) i ≠ i := fun k hk e => hno ⟨k, hk, e⟩
  have hnd : ((List.range (n + 1)).map (fun k => itp p k i)).Nodup := by
    rw [List.Nodup, List.pairwise_map]
    refine List.Pairwise.imp_of_mem ?_ (List.pairwise_lt_range (n := n + 1))
    intro a b ha hb hab e
    have hb' := List.mem_range.1 hb
    have e2 : itp p a i = itp p a (itp p (b - a) i) := by rw [← itp_add, show a + (b - a) = b by omega]; exact e
    have e3 := itp_inj h a i _ hi (itp_lt h _ i hi) e2
    have e4 := hne (b - a - 1) (by omega)
    rw [show b - a - 1 + 1 = b - a by omega] at e4
    exact e4 e3.symm
  have := nodup_len n _ hnd (fun x hx => by
    obtain ⟨k, _, rfl⟩ := List.mem_map.1 hx
    exact itp_lt h k i hi)
  simp at this
  omega
/-- the length of the cycle that a place lies in -/
def cyc (p : Nat → Nat) (n i : Nat) : Nat := ((List.range n).find? (fun k => itp p (k + 1) i == i)).getD 0 + 1
theorem cyc_is {p : Nat → Nat} {n i c : Nat} (hc : 1 ≤ c) (hn : c ≤ n) (he : itp p c i = i) (hm : ∀ m, 1 ≤ m → m < c → itp p m i ≠ i) : cyc p n i = c := by
  have : (List.range n).find? (fun k => itp p (k + 1) i == i) = some (c - 1) := by
    rw [List.find?_range_eq_some]
    refine ⟨?_, List.mem_range.2 (by omega), ?_⟩
    · show (itp p (c - 1 + 1) i == i) = true
      rw [show c - 1 + 1 = c by omega, he]
      exact beq_self_eq_true i
    · intro j hj
      have := hm (j + 1) (by omega) (by omega)
      simpa using this
  unfold cyc
  rw [this]
  show c - 1 + 1 = c
  omega
theorem cyc_spec {p : Nat → Nat} {n : Nat} (h : Exch p n) (i : Nat) (hi : i < n) : cyc p n i ≤ n ∧ itp p (cyc p n i) i = i ∧ ∀ m, 1 ≤ m → m < cyc p n i → itp p m i ≠ i := by
  obtain ⟨k, hk, e⟩ := itp_back h i hi
  cases hf : (List.range n).find? (fun k => itp p (k + 1) i == i) with
  | none =>
    have := List.find?_eq_none.1 hf k (List.mem_range.2 hk)
    exact absurd (beq_iff_eq.2 e) this
  | some c =>
    have hs := List.find?_range_eq_some.1 hf
    have e1 : cyc p n i = c + 1 := by unfold cyc; rw [hf]; rfl
    rw [e1]
    refine ⟨by have := List.mem_range.1 hs.2.1; omega, beq_iff_eq.1 hs.1, ?_⟩
    intro m m1 m2 em
    have := hs.2.2 (m - 1) (by omega)
    rw [show m - 1 + 1 = m by omega, em] at this
    simp at this
theorem cyc_pos (p : Nat → Nat) (n i : Nat) : 1 ≤ cyc p n i := by unfold cyc; omega
theorem cyc_on {p : Nat → Nat} {n : Nat} (h : Exch p n) (k i : Nat) (hi : i < n) : cyc p n (itp p k i) = cyc p n i := by
  obtain ⟨h1, h2, h3⟩ := cyc_spec h i hi
  refine cyc_is (cyc_pos p n i) h1 (by rw [itp_comm, h2]) ?_
  intro m m1 m2 e
  rw [itp_comm] at e
  exact h3 m m1 m2 (itp_inj h k _ _ (itp_lt h m i hi) hi e)
/-- behind how many times the first t places have come back -/
def lcmT (p : Nat → Nat) (n : Nat) : Nat → Nat
  | 0 => 1
  | t + 1 => Nat.lcm (lcmT p n t) (cyc p n t)
theorem lcmT_pos (p : Nat → Nat) (n t : Nat) : 1 ≤ lcmT p n t := by
  induction t with
  | zero => exact Nat.le_refl 1
  | succ t ih => exact Nat.lcm_pos ih (cyc_pos p n t)
theorem lcmT_dvd (p : Nat → Nat) (n t : Nat) : ∀ i, i < t → cyc p n i ∣ lcmT p n t := by
  induction t with
  | zero => intro i hi; omega
  | succ t ih =>
    intro i hi
    rw [lcmT]
    by_cases e : i = t
    · subst e
      exact Nat.dvd_lcm_right _ _
    · exact Nat.dvd_trans (ih i (by omega)) (Nat.dvd_lcm_left _ _)
theorem lcmT_mono (p : Nat → Nat) (n t d : Nat) : lcmT p n t ∣ lcmT p n (t + d) := by
  induction d with
  | zero => exact Nat.dvd_refl _
  | succ d ih => exact Nat.dvd_trans ih (Nat.dvd_lcm_left _ _)
theorem lcmT_le (p : Nat → Nat) (n t u : Nat) (h : t ≤ u) : lcmT p n t ≤ lcmT p n u := by
  obtain ⟨d, rfl⟩ : ∃ d, u = t + d := ⟨u - t, by omega⟩
  exact Nat.le_of_dvd (lcmT_pos p n _) (lcmT_mono p n t d)
/-- a place whose cycle holds a lesser one adds nothing -/
theorem lcmT_skip {p : Nat → Nat} {n : Nat} (h : Exch p n) (t k : Nat) (ht : t < n) (hl : itp p k t < t) : lcmT p n (t + 1) = lcmT p n t := by
  rw [lcmT]
  have h1 := lcmT_dvd p n t _ hl
  rw [cyc_on h k t ht] at h1
  exact Nat.dvd_antisymm (Nat.lcm_dvd (Nat.dvd_refl _) h1) (Nat.dvd_lcm_left _ _)
theorem lcmT_step (p : Nat → Nat) (n t c : Nat) (hc : cyc p n t = c) : lcmT p n t / Nat.gcd (lcmT p n t) c * c = lcmT p n (t + 1) := by
  rw [lcmT, hc, Nat.lcm, Nat.mul_comm (lcmT p n t) c, Nat.mul_div_assoc _ (Nat.gcd_dvd_left _ _), Nat.mul_comm]
/-- behind how many times all places come back, if that is not too great -/
def ret (p : Nat → Nat) (n : Nat) : Int × Bool := if lcmT p n n ≤ 1000000000 then ((lcmT p n n : Nat), true) else (0, false)
/-- the exchange that a list is -/
def exOf (ps : List Int) : Nat → Nat := fun i => (ps.getD i 0).toNat
theorem exch_of (ps : List Int) (n : Nat) (hn : ps.length = n) (hb : ∀ x ∈ ps, 0 ≤ x ∧ x < (n : Int)) (hd : ps.Nodup) : Exch (exOf ps) n := by
  have hg : ∀ i, i < n → ∃ h : i < ps.length, ps.getD i 0 = ps[i] := fun i hi => by
    have h : i < ps.length := by omega
    exact ⟨h, by rw [List.getD_eq_getElem?_getD, List.getElem?_eq_getElem h]; rfl⟩
  refine ⟨fun i hi => ?_, fun i j hi hj e => ?_⟩
  · obtain ⟨h, e⟩ := hg i hi
    have := hb _ (List.getElem_mem h)
    unfold exOf
    rw [e]
    omega
  · obtain ⟨h1, e1⟩ := hg i hi
    obtain ⟨h2, e2⟩ := hg j hj
    have b1 := hb _ (List.getElem_mem h1)
    have b2 := hb _ (List.getElem_mem h2)
    unfold exOf at e
    rw [e1, e2] at e
    have e3 : ps[i] = ps[j] := by omega
    have hp := List.pairwise_iff_getElem.1 hd
    rcases Nat.lt_trichotomy i j with hij | hij | hij
    · exact absurd e3 (hp i j h1 h2 hij)
    · exact hij
    · exact absurd e3.symm (hp j i h2 h1 hij)
end Go.Proofs.Ytpbbfpgjhmjjoac
