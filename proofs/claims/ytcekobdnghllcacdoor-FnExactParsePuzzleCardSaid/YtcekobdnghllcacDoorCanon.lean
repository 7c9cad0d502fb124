/- Decimal numerals without a superfluous zero: a text is one if and only if it is the digits of its value. No program in it; no condition. -/
import Derived.Lib.ItoaNum
namespace Go.Proofs.YtcekobdnghllcacDoor

/-- the value of a text of digits -/
def val (l : List UInt8) : Nat := l.foldl (fun a b => 10 * a + (b.toNat - 48)) 0
def isDig (b : UInt8) : Bool := decide (48 ≤ b.toNat ∧ b.toNat ≤ 57)
/-- digits alone, at least one, no superfluous zero ahead -/
def canon (l : List UInt8) : Bool := !l.isEmpty && l.all isDig && (l.head? != some 48 || l.length == 1)

theorem val_snoc (l : List UInt8) (b : UInt8) : val (l ++ [b]) = 10 * val l + (b.toNat - 48) := by simp [val]
theorem dig_back (b : UInt8) (h : isDig b = true) : UInt8.ofNat (48 + (b.toNat - 48)) = b := by
  have := of_decide_eq_true h
  rw [show 48 + (b.toNat - 48) = b.toNat by omega]
  simp
theorem dig_toNat (d : Nat) (h : d < 10) : (UInt8.ofNat (48 + d)).toNat = 48 + d := by
  rw [UInt8.toNat_ofNat']
  omega
theorem dig_of (d : Nat) (h : d < 10) : isDig (UInt8.ofNat (48 + d)) = true := by
  unfold isDig
  rw [dig_toNat d h]
  simp
  omega

theorem digits_canon (n : Nat) : canon (Lib.decDigits n) = true ∧ val (Lib.decDigits n) = n ∧ (0 < n → (Lib.decDigits n).head? ≠ some 48) := by
  induction n using Nat.strongRecOn with
  | ind n ih =>
    by_cases h : n < 10
    · rw [Lib.decDigits_one h]
      refine ⟨?_, ?_, ?_⟩
      · have := dig_of n h
        simp only [canon, List.all_cons, List.all_nil, this, List.isEmpty_cons, List.length_cons, List.length_nil]
        simp
      · have := dig_toNat n h
        simp only [val, List.foldl]
        omega
      · intro h0 e
        simp only [List.head?_cons, Option.some.injEq] at e
        have := congrArg UInt8.toNat e
        rw [dig_toNat n h] at this
        simp at this
        omega
    · rw [Lib.decDigits, dif_neg h]
      obtain ⟨h1, h2, h3⟩ := ih (n / 10) (by omega)
      have h4 := h3 (by omega)
      have hd : n % 10 < 10 := by omega
      unfold canon at h1 ⊢
      simp only [Bool.and_eq_true] at h1
      obtain ⟨⟨a1, a2⟩, a3⟩ := h1
      have hne : Lib.decDigits (n / 10) ≠ [] := by intro e; rw [e] at a1; simp at a1
      have hh : (Lib.decDigits (n / 10) ++ [UInt8.ofNat (48 + n % 10)]).head? = (Lib.decDigits (n / 10)).head? := by
        cases hc : Lib.decDigits (n / 10) with
        | nil => exact absurd hc hne
        | cons x r => rfl
      refine ⟨?_, ?_, ?_⟩
      · rw [hh, List.all_append, a2]
        have : ((Lib.decDigits (n / 10)).head? != some 48) = true := by simpa using h4
        rw [this]
        simp only [List.all_cons, List.all_nil, dig_of _ hd]
        simp
      · rw [val_snoc, h2, dig_toNat _ hd]
        omega
      · intro _
        rw [hh]
        exact h4

theorem canon_digits : ∀ (k : Nat) (l : List UInt8), l.length ≤ k → canon l = true → Lib.decDigits (val l) = l ∧ (l.head? ≠ some 48 → 0 < val l) := by
  intro k
  induction k with
  | zero => intro l hl h; cases l with
    | nil => simp [canon] at h
    | cons x r => simp at hl
  | succ k ih =>
    intro l hl h
    rcases List.eq_nil_or_concat l with rfl | ⟨r, b, rfl⟩
    · simp [canon] at h
    · rw [List.concat_eq_append] at hl h ⊢
      have hlen : (r ++ [b]).length = r.length + 1 := by simp
      unfold canon at h
      simp only [Bool.and_eq_true, List.all_append, List.all_cons, List.all_nil, Bool.and_true] at h
      obtain ⟨⟨_, a2, a2'⟩, a3⟩ := h
      have hb := of_decide_eq_true a2'
      by_cases hr : r = []
      · subst hr
        have e : val ([] ++ [b]) = b.toNat - 48 := by rw [val_snoc]; simp [val]
        rw [e, Lib.decDigits_one (by omega), dig_back b a2']
        refine ⟨rfl, fun hz => ?_⟩
        rcases Nat.lt_or_ge 48 b.toNat with g | g
        · omega
        · exact absurd (by simp only [List.nil_append, List.head?_cons, Option.some.injEq]; exact UInt8.toNat_inj.1 (by simp; omega)) hz
      · have hh : (r ++ [b]).head? = r.head? := by cases r with
          | nil => exact absurd rfl hr
          | cons x s => rfl
        have hrl : 0 < r.length := List.length_pos_iff.2 hr
        have h0 : r.head? ≠ some 48 := by
          rw [hh, hlen] at a3
          intro e
          rw [e] at a3
          simp at a3
          exact hr a3
        have hc : canon r = true := by
          unfold canon
          rw [a2]
          have : (r.head? != some 48) = true := by simpa using h0
          rw [this]
          simp [hr]
        obtain ⟨i1, i2⟩ := ih r (by omega) hc
        have i3 := i2 h0
        rw [val_snoc]
        refine ⟨?_, fun _ => by omega⟩
        rw [Lib.decDigits, dif_neg (by omega), show (10 * val r + (b.toNat - 48)) / 10 = val r by omega, show (10 * val r + (b.toNat - 48)) % 10 = b.toNat - 48 by omega, i1, dig_back b a2']

theorem canon_iff (l : List UInt8) : canon l = true ↔ Lib.decDigits (val l) = l := by
  constructor
  · intro h; exact (canon_digits _ l (Nat.le_refl _) h).1
  · intro h; rw [← h]; exact (digits_canon _).1
end Go.Proofs.YtcekobdnghllcacDoor
