/- Rounds of every second one as the program counts them: first, gap, size and how many went before; no program in it; no condition. -/
import Derived.Test.YteodhoekkeelcaaRows
namespace Go.Proofs.Yteodhoekkeelcaa

/-- a round: who goes first, the gap, how many go, how many went before -/
structure Rnd where
  f : Nat
  g : Nat
  s : Nat
  b : Nat
/-- how many go in a round with so many left, the first one passed over or not -/
def rsz (l q : Nat) : Nat := (l + 1 - q) / 2
theorem rsz_bd (l q : Nat) (hl : 2 ≤ l) (hq : q ≤ 1) : 1 ≤ rsz l q ∧ rsz l q < l ∧ 2 * (l - rsz l q) ≤ l + 1 := by unfold rsz; omega
/-- the rounds of p people from one on at which l are left, from f on in gaps g, the first one passed over (1) or not (0) -/
def rnds (p f g l q : Nat) : List Rnd :=
  if _h : 2 ≤ l ∧ q ≤ 1 then ⟨f + q * g, 2 * g, rsz l q, p - l⟩ :: rnds p (f + (1 - q) * g) (2 * g) (l - rsz l q) ((l + q) % 2) else [⟨f, g, 1, p - 1⟩]
termination_by l
decreasing_by
  have := rsz_bd l q _h.1 _h.2
  omega
theorem rnds_go (p f g l q : Nat) (hl : 2 ≤ l) (hq : q ≤ 1) : rnds p f g l q = ⟨f + q * g, 2 * g, rsz l q, p - l⟩ :: rnds p (f + (1 - q) * g) (2 * g) (l - rsz l q) ((l + q) % 2) := by rw [rnds, dif_pos ⟨hl, hq⟩]
theorem rnds_end (p f g l q : Nat) (hl : ¬ 2 ≤ l) : rnds p f g l q = [⟨f, g, 1, p - 1⟩] := by rw [rnds, dif_neg (fun h => hl h.1)]
theorem rnds_len (k : Nat) : ∀ p f g l q, l ≤ 2 ^ k → (rnds p f g l q).length ≤ k + 1 := by
  induction k with
  | zero => intro p f g l q h; rw [rnds_end _ _ _ _ _ (by omega)]; simp
  | succ k ih =>
    intro p f g l q h
    rw [rnds]
    split
    · rename_i hh
      have := rsz_bd l q hh.1 hh.2
      rw [Nat.pow_succ] at h
      rw [List.length_cons]
      have := ih p (f + (1 - q) * g) (2 * g) (l - rsz l q) ((l + q) % 2) (by omega)
      omega
    · simp
/-- the rounds of p people -/
def rounds (p : Nat) : List Rnd := rnds p 0 1 p 1
theorem rounds_len (p : Nat) (h : p ≤ 1000000000000) : (rounds p).length ≤ 41 := by
  have e : (2 : Nat) ^ 40 = 1099511627776 := by simp
  exact rnds_len 40 p 0 1 p 1 (by omega)
/-- gaps and who is first stay small -/
structure Fit (p f g l q : Nat) : Prop where
  g1 : 1 ≤ g
  f1 : f < g
  l1 : 1 ≤ l
  l2 : l ≤ p
  q1 : q ≤ 1
  m : (l - 1) * g ≤ p - 1
  g2 : g ≤ 2 * p
theorem Fit.gap {p f g l q : Nat} (h : Fit p f g l q) (hl : 2 ≤ l) : g ≤ p - 1 := by
  have := Nat.mul_le_mul_right g (show 1 ≤ l - 1 by omega)
  have := h.m
  omega
theorem Fit.next {p f g l q : Nat} (h : Fit p f g l q) (hl : 2 ≤ l) : Fit p (f + (1 - q) * g) (2 * g) (l - rsz l q) ((l + q) % 2) := by
  have hs := rsz_bd l q hl h.q1
  have h1 := h.f1; have h2 := h.g1; have h3 := h.l2; have h4 := h.q1; have h5 := h.m
  have hg := h.gap hl
  refine ⟨by omega, ?_, by omega, by omega, by omega, ?_, by omega⟩
  · rcases (show q = 0 ∨ q = 1 by omega) with rfl | rfl
    · simp; omega
    · simp; omega
  · refine Nat.le_trans ?_ h5
    rw [show (l - rsz l q - 1) * (2 * g) = (2 * (l - rsz l q - 1)) * g by rw [Nat.mul_comm 2 g, ← Nat.mul_assoc, Nat.mul_right_comm, Nat.mul_comm 2]]
    exact Nat.mul_le_mul_right g (by omega)
theorem Fit.start (p : Nat) (h : 1 ≤ p) : Fit p 0 1 p 1 := ⟨by omega, by omega, h, by omega, by omega, by omega, by omega⟩
/-- rounds have gaps of at least 1, and small numbers -/
theorem rnds_all (p : Nat) (hp1 : 1 ≤ p) (hp2 : p ≤ 1000000000000) : ∀ (m f g l q : Nat), l ≤ m → Fit p f g l q → ∀ x ∈ rnds p f g l q, 1 ≤ x.g ∧ x.g ≤ 4000000000000 ∧ x.b ≤ 1000000000000 ∧ x.s ≤ 1000000000000 ∧ x.f ≤ 2000000000000 := by
  intro m
  induction m with
  | zero => intro f g l q hl hf; have := hf.l1; omega
  | succ m ih =>
    intro f g l q hl hf x hx
    by_cases h2 : 2 ≤ l
    · rw [rnds_go p f g l q h2 hf.q1] at hx
      have hb := rsz_bd l q h2 hf.q1
      have hg := hf.gap h2
      have h3 := hf.l2; have h4 := hf.g1; have h5 := hf.f1
      rcases List.mem_cons.1 hx with rfl | hx
      · refine ⟨by simp only; omega, by simp only; omega, by simp only; omega, by simp only; omega, ?_⟩
        simp only
        rcases (show q = 0 ∨ q = 1 by have := hf.q1; omega) with rfl | rfl
        · simp; omega
        · simp; omega
      · exact ih _ _ _ _ (by omega) (hf.next h2) x hx
    · rw [rnds_end p f g l q h2] at hx
      obtain rfl : x = ⟨f, g, 1, p - 1⟩ := by simpa using hx
      have h5 := hf.f1; have h4 := hf.g1; have h6 := hf.g2
      refine ⟨h4, ?_, ?_, ?_, ?_⟩ <;> simp only <;> omega
/-- numbers of a round -/
structure Ok (x : Rnd) : Prop where
  f : x.f ≤ 4000000000000
  g : x.g ≤ 4000000000000
  s : x.s ≤ 1000000000000
  b : x.b ≤ 1000000000000
theorem rounds_ok (p : Nat) (hp1 : 1 ≤ p) (hp2 : p ≤ 1000000000000) (x : Rnd) (hx : x ∈ rounds p) : Ok x := by
  have h := rnds_all p hp1 hp2 p 0 1 p 1 (Nat.le_refl _) (Fit.start p hp1) x hx
  exact ⟨by have := h.2.2.2.2; omega, h.2.1, h.2.2.2.1, h.2.2.1⟩
end Go.Proofs.Yteodhoekkeelcaa
