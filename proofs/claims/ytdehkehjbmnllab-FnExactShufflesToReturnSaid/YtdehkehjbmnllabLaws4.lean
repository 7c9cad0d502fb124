/- The texts Canon, Read, Split, Perm, Return, ReturnS, Spell, SpellS, Model4, LwIsDeck, LwDealDeck, LwDeckFor, LwDealFirst, LwDealCounts, LwDeckForCounts, LwSpellCounts, LwSpellDeck, LwDealTimes, LwDealsToReturn, LwLastDealt, LwCutDeck, LwBackDeck, LwMilkDeck, LwMongeDeck, LwShufflesToReturn, Laws4, as one. -/
import Derived.Lib.ItoaNum
import Derived.Test.YtdehkehjbmnllabNumS
import Derived.IntWalk
import Derived.Test.YtdehkehjbmnllabApp
import Derived.Test.YtdehkehjbmnllabMake
import Derived.Test.YtdehkehjbmnllabText
import Derived.Test.YtdehkehjbmnllabLow
import Derived.Test.YtdehkehjbmnllabDeckT
import Derived.Test.YtdehkehjbmnllabDeckV
import Derived.Test.YtdehkehjbmnllabOrdMath
import Derived.Laws.RangeAny
import Derived.Test.YtdehkehjbmnllabDeckS
import Derived.Test.YtdehkehjbmnllabLaws
namespace Go.Proofs.Ytdehkehjbmnllab

/-- the value of a text of digits -/
def val (l : List UInt8) : Nat := l.foldl (fun a b => 10 * a + (b.toNat - 48)) 0
def isDig (b : UInt8) : Bool := decide (48 ≤ b.toNat ∧ b.toNat ≤ 57)
/-- digits alone, at least one, no superfluous zero ahead -/
def canon (l : List UInt8) : Bool := !l.isEmpty && l.all isDig && (l.head? != some 48 || l.length == 1)

theorem val_snoc (l : List UInt8) (b : UInt8) : val (l ++ [b]) = 10 * val l + (b.toNat - 48) := by simp [val]
theorem dig_back (b : UInt8) (h : isDig b = true) : UInt8.ofNat (48 + (b.toNat - 48)) = b := by
  have := of_decide_eq_true h
  rw [show 48 + (b.toNat - 48) = b.toNat by omega]
  simp
theorem dig_toNat (d : Nat) (h : d < 10) : (UInt8.ofNat (48 + d)).toNat = 48 + d := by
  rw [UInt8.toNat_ofNat']
  omega
theorem dig_of (d : Nat) (h : d < 10) : isDig (UInt8.ofNat (48 + d)) = true := by
  unfold isDig
  rw [dig_toNat d h]
  simp
  omega

theorem digits_canon (n : Nat) : canon (Lib.decDigits n) = true ∧ val (Lib.decDigits n) = n ∧ (0 < n → (Lib.decDigits n).head? ≠ some 48) := by
  induction n using Nat.strongRecOn with
  | ind n ih =>
    by_cases h : n < 10
    · rw [Lib.decDigits_one h]
      refine ⟨?_, ?_, ?_⟩
      · have := dig_of n h
        simp only [canon, List.all_cons, List.all_nil, this, List.isEmpty_cons, List.length_cons, List.length_nil]
        simp
      · have := dig_toNat n h
        simp only [val, List.foldl]
        omega
      · intro h0 e
        simp only [List.head?_cons, Option.some.injEq] at e
        have := congrArg UInt8.toNat e
        rw [dig_toNat n h] at this
        simp at this
        omega
    · rw [Lib.decDigits, dif_neg h]
      obtain ⟨h1, h2, h3⟩ := ih (n / 10) (by omega)
      have h4 := h3 (by omega)
      have hd : n % 10 < 10 := by omega
      unfold canon at h1 ⊢
      simp only [Bool.and_eq_true] at h1
      obtain ⟨⟨a1, a2⟩, a3⟩ := h1
      have hne : Lib.decDigits (n / 10) ≠ [] := by intro e; rw [e] at a1; simp at a1
      have hh : (Lib.decDigits (n / 10) ++ [UInt8.ofNat (48 + n % 10)]).head? = (Lib.decDigits (n / 10)).head? := by
        cases hc : Lib.decDigits (n / 10) with
        | nil => exact absurd hc hne
        | cons x r => rfl
      refine ⟨?_, ?_, ?_⟩
      · rw [hh, List.all_append, a2]
        have : ((Lib.decDigits (n / 10)).head? != some 48) = true := by simpa using h4
        rw [this]
        simp only [List.all_cons, List.all_nil, dig_of _ hd]
        simp
      · rw [val_snoc, h2, dig_toNat _ hd]
        omega
      · intro _
        rw [hh]
        exact h4

theorem canon_digits : ∀ (k : Nat) (l : List UInt8), l.length ≤ k → canon l = true → Lib.decDigits (val l) = l ∧ (l.head? ≠ some 48 → 0 < val l) := by
  intro k
  induction k with
  | zero => intro l hl h; cases l with
    | nil => simp [canon] at h
    | cons x r => simp at hl
  | succ k ih =>
    intro l hl h
    rcases List.eq_nil_or_concat l with rfl | ⟨r, b, rfl⟩
    · simp [canon] at h
    · rw [List.concat_eq_append] at hl h ⊢
      have hlen : (r ++ [b]).length = r.length + 1 := by simp
      unfold canon at h
      simp only [Bool.and_eq_true, List.all_append, List.all_cons, List.all_nil, Bool.and_true] at h
      obtain ⟨⟨_, a2, a2'⟩, a3⟩ := h
      have hb := of_decide_eq_true a2'
      by_cases hr : r = []
      · subst hr
        have e : val ([] ++ [b]) = b.toNat - 48 := by rw [val_snoc]; simp [val]
        rw [e, Lib.decDigits_one (by omega), dig_back b a2']
        refine ⟨rfl, fun hz => ?_⟩
        rcases Nat.lt_or_ge 48 b.toNat with g | g
        · omega
        · exact absurd (by simp only [List.nil_append, List.head?_cons, Option.some.injEq]; exact UInt8.toNat_inj.1 (by simp; omega)) hz
      · have hh : (r ++ [b]).head? = r.head? := by cases r with
          | nil => exact absurd rfl hr
          | cons x s => rfl
        have hrl : 0 < r.length := List.length_pos_iff.2 hr
        have h0 : r.head? ≠ some 48 := by
          rw [hh, hlen] at a3
          intro e
          rw [e] at a3
          simp at a3
          exact hr a3
        have hc : canon r = true := by
          unfold canon
          rw [a2]
          have : (r.head? != some 48) = true := by simpa using h0
          rw [this]
          simp [hr]
        obtain ⟨i1, i2⟩ := ih r (by omega) hc
        have i3 := i2 h0
        rw [val_snoc]
        refine ⟨?_, fun _ => by omega⟩
        rw [Lib.decDigits, dif_neg (by omega), show (10 * val r + (b.toNat - 48)) / 10 = val r by omega, show (10 * val r + (b.toNat - 48)) % 10 = b.toNat - 48 by omega, i1, dig_back b a2']

theorem canon_iff (l : List UInt8) : canon l = true ↔ Lib.decDigits (val l) = l := by
  constructor
  · intro h; exact (canon_digits _ l (Nat.le_refl _) h).1
  · intro h; rw [← h]; exact (digits_canon _).1
end Go.Proofs.Ytdehkehjbmnllab
namespace Go.Proofs.Ytdehkehjbmnllab
open Go.ChangeShapes Go.WideShapes Go.ChangeAt Go.RowKit Go.IntWalk

/-- the value of a numeral of one to six digits, else -1 -/
def rd6 (l : List UInt8) : Int := if 1 ≤ l.length ∧ l.length ≤ 6 ∧ canon l = true then (val l : Int) else -1

theorem bget (l : List UInt8) (i : Nat) (h : i < l.length) (h' : i < (ByteArray.mk l.toArray).size) : (ByteArray.mk l.toArray)[i]'h' = l[i]'h := by
  show (l.toArray)[i]'_ = _
  simp

theorem val_lt : ∀ (k : Nat) (l : List UInt8), l.length ≤ k → l.all isDig = true → val l < 10 ^ l.length := by
  intro k
  induction k with
  | zero => intro l hl _; cases l with
    | nil => simp [val]
    | cons x r => simp at hl
  | succ k ih =>
    intro l hl h
    rcases List.eq_nil_or_concat l with rfl | ⟨r, b, rfl⟩
    · simp [val]
    · rw [List.concat_eq_append] at hl h ⊢
      simp only [List.all_append, List.all_cons, List.all_nil, Bool.and_true, Bool.and_eq_true] at h
      have hb := of_decide_eq_true h.2
      have hr := ih r (by simp at hl; omega) h.1
      rw [val_snoc, List.length_append, List.length_cons, List.length_nil, Nat.pow_succ]
      omega
theorem rd6_all (l : List UInt8) (h1 : 1 ≤ l.length) (h6 : l.length ≤ 6) (hz : ¬ (l[0] = 48 ∧ 1 < l.length)) (h : l.all isDig = true) : rd6 l = val l := by
  have hc : canon l = true := ?_
  · unfold rd6
    rw [if_pos ⟨h1, h6, hc⟩]
  unfold canon
  rw [h]
  cases l with
  | nil => simp at h1
  | cons c r =>
    simp only [List.getElem_cons_zero, List.length_cons] at hz
    simp only [List.isEmpty_cons, List.head?_cons, List.length_cons]
    by_cases e : c = 48
    · have : r.length = 0 := by
        have : ¬ (1 < r.length + 1) := fun g => hz ⟨e, g⟩
        omega
      simp [this]
    · simp [e]
theorem rd6_not (l : List UInt8) (h : l.all isDig = false) : rd6 l = -1 := by
  unfold rd6
  rw [if_neg]
  rintro ⟨_, _, hc⟩
  unfold canon at hc
  rw [h] at hc
  simp at hc
theorem all_step (l : List UInt8) (j : Nat) (h : j < l.length) (hd : (l.take j).all isDig = true) (hb : isDig l[j] = true) : (l.take (j + 1)).all isDig = true := by
  rw [List.take_succ_eq_append_getElem h, List.all_append, hd]
  simp [hb]
theorem not_all (l : List UInt8) (j : Nat) (h : j < l.length) (hb : isDig l[j] = false) : l.all isDig = false := by
  rw [List.all_eq_false]
  exact ⟨l[j], List.getElem_mem _, by simp [hb]⟩

end Go.Proofs.Ytdehkehjbmnllab
namespace Go.Proofs.Ytdehkehjbmnllab
open Go.ChangeShapes Go.WideShapes Go.ChangeAt Go.RowKit

theorem strInfoS : (Try.prog.info? 9).map (fun i => (i.zero, i.size, i.bytes)) = some (some (.string ⟨#[]⟩), 1, 16) := by kernel_rfl
/-- the value of a string -/
def sval (l : List UInt8) : Value := .string ⟨l.toArray⟩
/-- a slice value holds a list of strings at the head of a row of its own, from block B on -/
def SlT (w : World) (B : Nat) (v : Value) (ls : List (List UInt8)) : Prop := w.ownsRow B 9 1 v ls.length (ls.map sval)
theorem SlT.nw {w w' : World} {B : Nat} {v : Value} {ls : List (List UInt8)} (h : SlT w B v ls) (hk : Kp Nw w w') : SlT w' B v ls :=
  World.ownsRow.kept (row := none) h ⟨hk.os, hk.tape, hk.output, hk.size, fun k hl _ => hk.block k hl (fun h => h)⟩ (by
    rcases h.2 with ⟨rfl, _⟩ | ⟨g, cap, cur, rfl, _⟩
    · exact .inl rfl
    · exact .inr (by simp [Value.ownBlock]))
theorem svals_one (ls : List (List UInt8)) : ∀ u ∈ ls.map sval, u.oneCell' = true := by
  intro u hu
  obtain ⟨l, _, rfl⟩ := List.mem_map.1 hu
  rfl

/-- the pieces of a text between the bytes b; cur: what has been read of the piece under way -/
def sp (b : UInt8) (cur : List UInt8) : List UInt8 → List (List UInt8)
  | [] => [cur]
  | c :: r => if c = b then cur :: sp b [] r else sp b (cur ++ [c]) r
theorem ext_eq (l : List UInt8) (f j : Nat) : (ByteArray.mk l.toArray).extract f j = ⟨((l.take j).drop f).toArray⟩ := by
  apply ByteArray.ext
  rw [ByteArray.data_extract]
  apply Array.ext'
  rw [Array.toList_extract]
  simp [List.extract_eq_take_drop, List.drop_take]
theorem sp_hit (l : List UInt8) (b : UInt8) (f j : Nat) (h : j < l.length) (e : l[j] = b) : sp b ((l.take j).drop f) (l.drop j) = (l.take j).drop f :: sp b ((l.take (j + 1)).drop (j + 1)) (l.drop (j + 1)) := by
  rw [List.drop_eq_getElem_cons h, sp, if_pos e]
  congr 2
  rw [List.drop_eq_nil_of_le (by simp; omega)]
theorem sp_miss (l : List UInt8) (b : UInt8) (f j : Nat) (h : j < l.length) (hf : f ≤ j) (e : l[j] ≠ b) : sp b ((l.take j).drop f) (l.drop j) = sp b ((l.take (j + 1)).drop f) (l.drop (j + 1)) := by
  rw [List.drop_eq_getElem_cons h, sp, if_neg e, List.take_succ_eq_append_getElem h, List.drop_append_of_le_length (by rw [List.length_take]; omega)]
theorem sp_end (l : List UInt8) (b : UInt8) (f : Nat) : sp b ((l.take l.length).drop f) (l.drop l.length) = [l.drop f] := by
  rw [List.drop_length, List.take_length, sp]

end Go.Proofs.Ytdehkehjbmnllab
namespace Go.Proofs.Ytdehkehjbmnllab

/-- k times the exchange -/
def itp (p : Nat → Nat) : Nat → Nat → Nat
  | 0, i => i
  | k + 1, i => p (itp p k i)
structure Exch (p : Nat → Nat) (n : Nat) : Prop where
  lt : ∀ i, i < n → p i < n
  inj : ∀ i j, i < n → j < n → p i = p j → i = j
theorem itp_add (p : Nat → Nat) (a b i : Nat) : itp p (a + b) i = itp p a (itp p b i) := by
  induction a with
  | zero => simp [itp]
  | succ a ih => rw [show a + 1 + b = (a + b) + 1 by omega, itp, itp, ih]
theorem itp_comm (p : Nat → Nat) (a b i : Nat) : itp p a (itp p b i) = itp p b (itp p a i) := by
  rw [← itp_add, ← itp_add, Nat.add_comm]
theorem itp_lt {p : Nat → Nat} {n : Nat} (h : Exch p n) (k i : Nat) (hi : i < n) : itp p k i < n := by
  induction k with
  | zero => exact hi
  | succ k ih => exact h.lt _ ih
theorem itp_inj {p : Nat → Nat} {n : Nat} (h : Exch p n) (k i j : Nat) (hi : i < n) (hj : j < n) (e : itp p k i = itp p k j) : i = j := by
  induction k with
  | zero => exact e
  | succ k ih => exact ih (h.inj _ _ (itp_lt h k i hi) (itp_lt h k j hj) e)
theorem nodup_len : ∀ (n : Nat) (l : List Nat), l.Nodup → (∀ x ∈ l, x < n) → l.length ≤ n
  | 0, l, _, h => by
    cases l with
    | nil => simp
    | cons x l => exact absurd (h x (by simp)) (by omega)
  | n + 1, l, hd, h => by
    have h1 : (l.erase n).Nodup := hd.erase n
    have h2 : ∀ x ∈ l.erase n, x < n := fun x hx => by
      have h3 := h x (List.mem_of_mem_erase hx)
      have h4 : x ≠ n := fun e => by
        subst e
        exact hd.not_mem_erase hx
      omega
    have h5 := nodup_len n _ h1 h2
    have h6 := List.length_erase (a := n) (l := l)
    split at h6 <;> omega
theorem itp_back {p : Nat → Nat} {n : Nat} (h : Exch p n) (i : Nat) (hi : i < n) : ∃ k, k < n ∧ itp p (k + 1) i = i := by
  apply Classical.byContradiction
  intro hno
  have hne : ∀ k, k < n → itp p (k + 1) i ≠ i := fun k hk e => hno ⟨k, hk, e⟩
  have hnd : ((List.range (n + 1)).map (fun k => itp p k i)).Nodup := by
    rw [List.Nodup, List.pairwise_map]
    refine List.Pairwise.imp_of_mem ?_ (List.pairwise_lt_range (n := n + 1))
    intro a b ha hb hab e
    have hb' := List.mem_range.1 hb
    have e2 : itp p a i = itp p a (itp p (b - a) i) := by rw [← itp_add, show a + (b - a) = b by omega]; exact e
    have e3 := itp_inj h a i _ hi (itp_lt h _ i hi) e2
    have e4 := hne (b - a - 1) (by omega)
    rw [show b - a - 1 + 1 = b - a by omega] at e4
    exact e4 e3.symm
  have := nodup_len n _ hnd (fun x hx => by
    obtain ⟨k, _, rfl⟩ := List.mem_map.1 hx
    exact itp_lt h k i hi)
  simp at this
  omega
/-- the length of the cycle that a place lies in -/
def cyc (p : Nat → Nat) (n i : Nat) : Nat := ((List.range n).find? (fun k => itp p (k + 1) i == i)).getD 0 + 1
theorem cyc_is {p : Nat → Nat} {n i c : Nat} (hc : 1 ≤ c) (hn : c ≤ n) (he : itp p c i = i) (hm : ∀ m, 1 ≤ m → m < c → itp p m i ≠ i) : cyc p n i = c := by
  have : (List.range n).find? (fun k => itp p (k + 1) i == i) = some (c - 1) := by
    rw [List.find?_range_eq_some]
    refine ⟨?_, List.mem_range.2 (by omega), ?_⟩
    · show (itp p (c - 1 + 1) i == i) = true
      rw [show c - 1 + 1 = c by omega, he]
      exact beq_self_eq_true i
    · intro j hj
      have := hm (j + 1) (by omega) (by omega)
      simpa using this
  unfold cyc
  rw [this]
  show c - 1 + 1 = c
  omega
theorem cyc_spec {p : Nat → Nat} {n : Nat} (h : Exch p n) (i : Nat) (hi : i < n) : cyc p n i ≤ n ∧ itp p (cyc p n i) i = i ∧ ∀ m, 1 ≤ m → m < cyc p n i → itp p m i ≠ i := by
  obtain ⟨k, hk, e⟩ := itp_back h i hi
  cases hf : (List.range n).find? (fun k => itp p (k + 1) i == i) with
  | none =>
    have := List.find?_eq_none.1 hf k (List.mem_range.2 hk)
    exact absurd (beq_iff_eq.2 e) this
  | some c =>
    have hs := List.find?_range_eq_some.1 hf
    have e1 : cyc p n i = c + 1 := by unfold cyc; rw [hf]; rfl
    rw [e1]
    refine ⟨by have := List.mem_range.1 hs.2.1; omega, beq_iff_eq.1 hs.1, ?_⟩
    intro m m1 m2 em
    have := hs.2.2 (m - 1) (by omega)
    rw [show m - 1 + 1 = m by omega, em] at this
    simp at this
theorem cyc_pos (p : Nat → Nat) (n i : Nat) : 1 ≤ cyc p n i := by unfold cyc; omega
theorem cyc_on {p : Nat → Nat} {n : Nat} (h : Exch p n) (k i : Nat) (hi : i < n) : cyc p n (itp p k i) = cyc p n i := by
  obtain ⟨h1, h2, h3⟩ := cyc_spec h i hi
  refine cyc_is (cyc_pos p n i) h1 (by rw [itp_comm, h2]) ?_
  intro m m1 m2 e
  rw [itp_comm] at e
  exact h3 m m1 m2 (itp_inj h k _ _ (itp_lt h m i hi) hi e)
/-- behind how many times the first t places have come back -/
def lcmT (p : Nat → Nat) (n : Nat) : Nat → Nat
  | 0 => 1
  | t + 1 => Nat.lcm (lcmT p n t) (cyc p n t)
theorem lcmT_pos (p : Nat → Nat) (n t : Nat) : 1 ≤ lcmT p n t := by
  induction t with
  | zero => exact Nat.le_refl 1
  | succ t ih => exact Nat.lcm_pos ih (cyc_pos p n t)
theorem lcmT_dvd (p : Nat → Nat) (n t : Nat) : ∀ i, i < t → cyc p n i ∣ lcmT p n t := by
  induction t with
  | zero => intro i hi; omega
  | succ t ih =>
    intro i hi
    rw [lcmT]
    by_cases e : i = t
    · subst e
      exact Nat.dvd_lcm_right _ _
    · exact Nat.dvd_trans (ih i (by omega)) (Nat.dvd_lcm_left _ _)
theorem lcmT_mono (p : Nat → Nat) (n t d : Nat) : lcmT p n t ∣ lcmT p n (t + d) := by
  induction d with
  | zero => exact Nat.dvd_refl _
  | succ d ih => exact Nat.dvd_trans ih (Nat.dvd_lcm_left _ _)
theorem lcmT_le (p : Nat → Nat) (n t u : Nat) (h : t ≤ u) : lcmT p n t ≤ lcmT p n u := by
  obtain ⟨d, rfl⟩ : ∃ d, u = t + d := ⟨u - t, by omega⟩
  exact Nat.le_of_dvd (lcmT_pos p n _) (lcmT_mono p n t d)
/-- a place whose cycle holds a lesser one adds nothing -/
theorem lcmT_skip {p : Nat → Nat} {n : Nat} (h : Exch p n) (t k : Nat) (ht : t < n) (hl : itp p k t < t) : lcmT p n (t + 1) = lcmT p n t := by
  rw [lcmT]
  have h1 := lcmT_dvd p n t _ hl
  rw [cyc_on h k t ht] at h1
  exact Nat.dvd_antisymm (Nat.lcm_dvd (Nat.dvd_refl _) h1) (Nat.dvd_lcm_left _ _)
theorem lcmT_step (p : Nat → Nat) (n t c : Nat) (hc : cyc p n t = c) : lcmT p n t / Nat.gcd (lcmT p n t) c * c = lcmT p n (t + 1) := by
  rw [lcmT, hc, Nat.lcm, Nat.mul_comm (lcmT p n t) c, Nat.mul_div_assoc _ (Nat.gcd_dvd_left _ _), Nat.mul_comm]
/-- behind how many times all places come back, if that is not too great -/
def ret (p : Nat → Nat) (n : Nat) : Int × Bool := if lcmT p n n ≤ 1000000000 then ((lcmT p n n : Nat), true) else (0, false)
/-- the exchange that a list is -/
def exOf (ps : List Int) : Nat → Nat := fun i => (ps.getD i 0).toNat
theorem exch_of (ps : List Int) (n : Nat) (hn : ps.length = n) (hb : ∀ x ∈ ps, 0 ≤ x ∧ x < (n : Int)) (hd : ps.Nodup) : Exch (exOf ps) n := by
  have hg : ∀ i, i < n → ∃ h : i < ps.length, ps.getD i 0 = ps[i] := fun i hi => by
    have h : i < ps.length := by omega
    exact ⟨h, by rw [List.getD_eq_getElem?_getD, List.getElem?_eq_getElem h]; rfl⟩
  refine ⟨fun i hi => ?_, fun i j hi hj e => ?_⟩
  · obtain ⟨h, e⟩ := hg i hi
    have := hb _ (List.getElem_mem h)
    unfold exOf
    rw [e]
    omega
  · obtain ⟨h1, e1⟩ := hg i hi
    obtain ⟨h2, e2⟩ := hg j hj
    have b1 := hb _ (List.getElem_mem h1)
    have b2 := hb _ (List.getElem_mem h2)
    unfold exOf at e
    rw [e1, e2] at e
    have e3 : ps[i] = ps[j] := by omega
    have hp := List.pairwise_iff_getElem.1 hd
    rcases Nat.lt_trichotomy i j with hij | hij | hij
    · exact absurd e3 (hp i j h1 h2 hij)
    · exact hij
    · exact absurd e3.symm (hp j i h2 h1 hij)
end Go.Proofs.Ytdehkehjbmnllab
namespace Go.Proofs.Ytdehkehjbmnllab
open Go.ChangeShapes Go.WideShapes Go.ChangeAt Go.RowKit

set_option maxRecDepth 100000 in
set_option maxHeartbeats 3200000 in
theorem caReturn_any (A : Option Addr) (n c : Nat) (ps : List Int) (W : World) (hu : Rd W (.slice A n c) ps) (hn : ps.length = n) (hp : 1 ≤ n) (hl : n ≤ 1000) (hb : ∀ x ∈ ps, 0 ≤ x ∧ x < (n : Int)) (hd : ps.Nodup) :
    Calls Try.prog 23 #[.slice A n c] W (IntB W (ret (exOf ps) n).1 (ret (exOf ps) n).2) := by
  obtain ⟨A', c', hAc, hA⟩ := id hu
  have eA : A = A' := by injection hAc
  subst eA
  obtain ⟨g0, o0, rfl, _⟩ := hA 0 (by omega)
  obtain ⟨p, hpp⟩ : ∃ p, p = exOf ps := ⟨_, rfl⟩
  have HX := Lib.hid (hpp ▸ exch_of ps n hn hb hd)
  have HA : Hid (∀ k, k < n → W.cell? ⟨g0, o0 + k, none⟩ = some (.int .i64 (p k : Nat))) := Lib.hid (fun k hk => by
    obtain ⟨g, o, e, hc⟩ := hA k (by omega)
    injection e with e
    injection e with e1 e2
    subst e1 e2
    rw [hc, hpp]
    have h : k < ps.length := by omega
    have eg : ps.getD k 0 = ps[k] := by rw [List.getD_eq_getElem?_getD, List.getElem?_eq_getElem h]; rfl
    have := hb _ (List.getElem_mem h)
    unfold exOf
    rw [eg]
    congr 2
    omega)
  rw [← hpp]
  have n0 : (0 : Int) ≤ n := Int.natCast_nonneg _
  clear hu hn hA hAc hpp hb hd
  obtain ⟨R, hR⟩ : ∃ R, ret p n = R := ⟨_, rfl⟩
  rw [hR]
  have HRR := Lib.hid hR
  clear hR
  go_enter Try.func23, Try.ntmps23
  go_wp2
  go_loopw [4, 12] (fun a i wr => ∃ (t : Nat), t ≤ n ∧ i = .int .i64 t ∧ a = .int .i64 (lcmT p n t : Nat) ∧ lcmT p n t ≤ 1000000000 ∧ Kp Nw W wr) (fun _ i _ => n - (intOf i).toNat)
  case atStart => exact ⟨0, Nat.zero_le _, rfl, rfl, by simp [lcmT], Kp.refl _ _⟩
  case round =>
    obtain ⟨t, ht, rfl, rfl, hL, hk⟩ := hrel
    have HK := Lib.hid hk
    obtain ⟨L, hLe⟩ : ∃ L, lcmT p n t = L := ⟨_, rfl⟩
    rw [hLe] at hL ⊢
    have HL := Lib.hid hLe
    have hL1 : 1 ≤ L := by rw [← hLe]; exact lcmT_pos p n t
    have t0 : (0 : Int) ≤ t := Int.natCast_nonneg _
    clear hk hLe
    by_cases hlt : t < n
    · have t1 : (t : Int) < n := by omega
      have c0 := keepc HK.out (HA.out t hlt) (fun h => h)
      have w2 : IntKind.i64.wrap ((t : Int) + 1) = ((t + 1 : Nat) : Int) := by rw [IntWalk.i64_in _ (by omega)]; omega
      go_wp2
      go_region
      all_goals go_wp2
      all_goals
        go_loopw [6, 7] (fun l a wx => ∃ (k : Nat), 1 ≤ k ∧ k ≤ n ∧ l = .int .i64 k ∧ a = .int .i64 (itp p k t : Nat) ∧ (∀ m, 1 ≤ m → m < k → t < itp p m t) ∧ Kp Nw W wx) (fun l _ _ => n - (intOf l).toNat)
        case atStart => exact ⟨1, Nat.le_refl _, hp, rfl, rfl, fun m m1 m2 => by omega, HK.out.drew⟩
        case round =>
          obtain ⟨k, k1, kn, rfl, rfl, hm, hk⟩ := hrel
          have HK2 := Lib.hid hk
          have HM := Lib.hid hm
          obtain ⟨x, hx⟩ : ∃ x, itp p k t = x := ⟨_, rfl⟩
          rw [hx]
          have HXX := Lib.hid hx
          have hxn : x < n := by rw [← hx]; exact itp_lt HX.out k t hlt
          have x0 : (0 : Int) ≤ x := Int.natCast_nonneg _
          have x1 : (x : Int) < n := by omega
          have k0 : (0 : Int) ≤ k := Int.natCast_nonneg _
          clear hk hm hx
          by_cases hgt : t < x
          · have g1 : (t : Int) < x := by omega
            have hkn : k < n := by
              obtain ⟨c1, c2, c3⟩ := cyc_spec HX.out t hlt
              apply Classical.byContradiction
              intro hge
              have ek : cyc p n t ≤ k := by omega
              have hc1 := cyc_pos p n t
              by_cases e : cyc p n t = k
              · rw [e, HXX.out] at c2
                omega
              · have := HM.out _ hc1 (by omega)
                rw [c2] at this
                omega
            have c1 := keepc HK2.out (HA.out x hxn) (fun h => h)
            have wk : IntKind.i64.wrap ((k : Int) + 1) = ((k + 1 : Nat) : Int) := by rw [IntWalk.i64_in _ (by omega)]; omega
            go_wp2
            go_roundw
            case rel =>
              refine ⟨k + 1, by omega, by omega, rfl, by rw [itp, HXX.out], ?_, HK2.out⟩
              intro m m1 m2
              by_cases e : m = k
              · subst e
                rw [HXX.out]
                exact hgt
              · exact HM.out m m1 (by omega)
            case measure => simp [intOf] <;> omega
          · have g1 : ¬ (t : Int) < x := by omega
            by_cases hlo : x < t
            · have g2 : (x : Int) < t := by omega
              have HS := Lib.hid (lcmT_skip HX.out t k hlt (by rw [HXX.out]; exact hlo))
              go_wp2
              go_roundw
              case rel => exact ⟨t + 1, by omega, rfl, by rw [HS.out, HL.out], by rw [HS.out, HL.out]; exact hL, HK2.out⟩
              case measure => simp [intOf] <;> omega
            · have e : x = t := by omega
              subst e
              have g2 : ¬ (x : Int) < x := by omega
              have hc : cyc p n x = k := cyc_is k1 kn HXX.out (fun m m1 m2 e => by have := HM.out m m1 m2; omega)
              have HS := Lib.hid (lcmT_step p n x k hc)
              rw [HL.out] at HS
              have hk2 : k ≤ 1000 := by omega
              go_wp2
              go_loopw [8, 9] (fun a b wy => ∃ (y z : Nat), a = .int .i64 y ∧ b = .int .i64 z ∧ y ≤ 1000000000 ∧ z ≤ 1000000000 ∧ Nat.gcd y z = Nat.gcd L k ∧ Kp Nw W wy) (fun _ b _ => (intOf b).toNat)
              case atStart => exact ⟨L, k, rfl, rfl, hL, by omega, rfl, HK2.out⟩
              case round =>
                obtain ⟨y, z, rfl, rfl, hy, hz, hg, hk⟩ := hrel
                have HK3 := Lib.hid hk
                have HG := Lib.hid hg
                have y0 : (0 : Int) ≤ y := Int.natCast_nonneg _
                have z0 : (0 : Int) ≤ z := Int.natCast_nonneg _
                clear hk hg
                by_cases hz0 : 0 < z
                · have z1 : (0 : Int) < z := by omega
                  have z2 : ¬ (z : Int) = 0 := by omega
                  have hml : y % z < z := Nat.mod_lt _ hz0
                  have wm : IntKind.i64.wrap ((y : Int).tmod z) = ((y % z : Nat) : Int) := by rw [Int.tmod_eq_emod_of_nonneg y0, ← Int.natCast_emod, IntWalk.i64_in _ (by omega)]
                  go_wp2
                  go_region
                  all_goals go_wp2
                  all_goals
                    go_roundw
                    case rel => exact ⟨z, y % z, rfl, rfl, by omega, by omega, by rw [← HG.out, Nat.gcd_comm y z, Nat.gcd_rec z y, Nat.gcd_comm], HK3.out.drew⟩
                    case measure => simp [intOf] <;> omega
                · have ez : z = 0 := by omega
                  subst ez
                  have hyg : y = Nat.gcd L k := by rw [← HG.out, Nat.gcd_zero_right]
                  have hyp : 1 ≤ y := by rw [hyg]; exact Nat.gcd_pos_of_pos_left k hL1
                  have y2 : ¬ (y : Int) = 0 := by omega
                  obtain ⟨q, hq⟩ : ∃ q, L / y = q := ⟨_, rfl⟩
                  have hqL : q ≤ L := by rw [← hq]; exact Nat.div_le_self _ _
                  obtain ⟨M, hM⟩ : ∃ M, q * k = M := ⟨_, rfl⟩
                  have hMM : M ≤ 1000000000000 := by
                    rw [← hM]
                    exact Nat.le_trans (Nat.mul_le_mul hqL hk2) (by omega)
                  have HM2 : Hid (lcmT p n (x + 1) = M) := Lib.hid (by rw [← HS.out, ← hyg, hq, hM])
                  have wd : (L : Int) / y = (q : Int) := by rw [← Int.natCast_ediv, hq]
                  have wu : (q : Int) * k = (M : Int) := by rw [← Int.natCast_mul, hM]
                  have q0 : (0 : Int) ≤ q := Int.natCast_nonneg _
                  have q1 : (q : Int) ≤ 1000000000 := by omega
                  have M1 : (M : Int) ≤ 1000000000000 := by omega
                  have M0 : (0 : Int) ≤ M := Int.natCast_nonneg _
                  clear hM hq hyg
                  by_cases hbig : 1000000000 < M
                  · have b1 : (1000000000 : Int) < M := by omega
                    have hr : ¬ lcmT p n n ≤ 1000000000 := by
                      have := lcmT_le p n (x + 1) n (by omega)
                      rw [HM2.out] at this
                      omega
                    have HE : Hid (R = (0, false)) := Lib.hid (by rw [← HRR.out]; unfold ret; rw [if_neg hr])
                    go_wp2
                    go_ret2
                    rw [HE.out]
                    exact ⟨rfl, HK3.out⟩
                  · have b1 : ¬ (1000000000 : Int) < M := by omega
                    go_wp2
                    go_roundw
                    case rel => exact ⟨x + 1, by omega, rfl, by rw [HM2.out], by rw [HM2.out]; omega, HK3.out⟩
                    case measure => simp [intOf] <;> omega
    · have e : t = n := by omega
      subst e
      have HE : Hid (R = ((L : Int), true)) := Lib.hid (by rw [← HRR.out]; unfold ret; rw [HL.out, if_pos hL])
      go_wp2
      go_ret2
      rw [HE.out]
      exact ⟨rfl, HK.out⟩
end Go.Proofs.Ytdehkehjbmnllab
namespace Go.Proofs.Ytdehkehjbmnllab
open Go.ChangeShapes Go.WideShapes Go.ChangeAt Go.RowKit

theorem milk_part (xs : List Int) : ∀ j, 2 * j ≤ xs.length → (milkN xs j ++ (xs.drop j).take (xs.length - 2 * j)).Perm xs
  | 0, _ => by simp [milkN]
  | j + 1, h => by
    refine List.Perm.trans ?_ (milk_part xs j (by omega))
    have h1 : j < xs.length := by omega
    have h2 : xs.length - 1 - j < xs.length := by omega
    have e : (xs.drop j).take (xs.length - 2 * j) = xs.getD j 0 :: ((xs.drop (j + 1)).take (xs.length - 2 * (j + 1)) ++ [xs.getD (xs.length - 1 - j) 0]) := by
      rw [List.drop_eq_getElem_cons h1, show xs.length - 2 * j = (xs.length - 2 * (j + 1) + 1) + 1 by omega, List.take_succ_cons]
      congr 1
      · rw [List.getD_eq_getElem?_getD, List.getElem?_eq_getElem h1]; rfl
      · rw [List.take_succ_eq_append_getElem (by rw [List.length_drop]; omega), List.getElem_drop]
        congr 2
        rw [List.getD_eq_getElem?_getD, List.getElem?_eq_getElem h2]
        have : j + 1 + (xs.length - 2 * (j + 1)) = xs.length - 1 - j := by omega
        simp [this]
    rw [e, milkN]
    obtain ⟨r, hr⟩ : ∃ r, (xs.drop (j + 1)).take (xs.length - 2 * (j + 1)) = r := ⟨_, rfl⟩
    rw [hr]
    obtain ⟨x, hx⟩ : ∃ x, xs.getD j 0 = x := ⟨_, rfl⟩
    obtain ⟨y, hy⟩ : ∃ y, xs.getD (xs.length - 1 - j) 0 = y := ⟨_, rfl⟩
    rw [hx, hy]
    refine List.Perm.symm (List.perm_middle.trans ?_)
    refine List.Perm.cons x ?_
    rw [← List.append_assoc]
    exact List.perm_append_singleton y (milkN xs j ++ r)
theorem milk_perm (xs : List Int) : (milk xs).Perm xs := by
  refine List.Perm.trans ?_ (milk_part xs (xs.length / 2) (by omega))
  unfold milk
  split
  · rename_i h
    have h1 : xs.length / 2 < xs.length := by omega
    rw [show xs.length - 2 * (xs.length / 2) = 0 + 1 by omega, List.drop_eq_getElem_cons h1, List.take_succ_cons, List.take_zero]
    have e : xs.getD (xs.length / 2) 0 = xs[xs.length / 2] := by rw [List.getD_eq_getElem?_getD, List.getElem?_eq_getElem h1]; rfl
    rw [e]
    exact (List.perm_append_singleton _ _).symm
  · rw [show xs.length - 2 * (xs.length / 2) = 0 by omega, List.take_zero, List.append_nil]
theorem mon_part (xs : List Int) : ∀ j, j ≤ xs.length → (monN xs j).Perm (xs.take j)
  | 0, _ => by simp [monN]
  | j + 1, h => by
    have h1 : j < xs.length := by omega
    have e : xs.getD j 0 = xs[j] := by rw [List.getD_eq_getElem?_getD, List.getElem?_eq_getElem h1]; rfl
    rw [List.take_succ_eq_append_getElem h1, ← e, monN]
    have hp := mon_part xs j (by omega)
    split
    · exact (hp.cons _).trans (List.perm_append_singleton _ _).symm
    · exact hp.append_right _
theorem monge_perm (xs : List Int) : (monge xs).Perm xs := by
  have := mon_part xs xs.length (Nat.le_refl _)
  rw [List.take_length] at this
  exact this
theorem perm_places {l : List Int} {n : Nat} (h : l.Perm (marks 0 n)) : (∀ x ∈ l, 0 ≤ x ∧ x < (n : Int)) ∧ l.Nodup :=
  ⟨fun x hx => marks_mem n x (h.mem_iff.1 hx), h.nodup_iff.2 (marks_nodup 0 n)⟩
/-- the deal as an exchange of places -/
theorem deal_perm (n : Nat) (u : Int) : (deal (marks 0 n) (List.replicate n u)).Perm (marks 0 n) := by
  rw [deal_same]
  exact outs_perm (u + 1) n _ (marks_length 0 n)

theorem sShufflesToReturn_no1 (p k : Int) (W : World) (h : p < 1 ∨ 104 < p) : Calls Try.prog 13 #[.int .i64 p, .int .i64 k] W (IntB W 0 false) := by
  go_enter Try.func13, Try.ntmps13
  go_wp2_with (first | ((with_reducible refine (caCards_no p _ h).mono ?_); rintro e w' ⟨rfl, rfl⟩))
  go_ret2
  exact ⟨rfl, Kp.refl _ _⟩
set_option maxHeartbeats 1600000 in
theorem sShufflesToReturn_no2 (p k : Int) (W : World) (n1 : 1 ≤ p) (n2 : p ≤ 104) (k0 : k ≠ 0) (k1 : k ≠ 1) (k2 : k ≠ 2) : Calls Try.prog 13 #[.int .i64 p, .int .i64 k] W (IntB W 0 false) := by
  go_enter Try.func13, Try.ntmps13
  go_wp2_with (first | ((with_reducible refine (caCards_yes _ _ n1 n2).mono ?_); rintro e w' ⟨rfl, rfl⟩))
  go_ret2
  exact ⟨rfl, Kp.refl _ _⟩

set_option maxRecDepth 100000 in
set_option maxHeartbeats 1600000 in
theorem sShufflesToReturn_k0 (n : Nat) (W : World) (hn : 1 ≤ n) (hm : n ≤ 104) :
    Calls Try.prog 13 #[.int .i64 n, .int .i64 0] W (IntB W (ret (exOf (milk (marks 0 n))) n).1 (ret (exOf (milk (marks 0 n))) n).2) := by
  have n0 : (0 : Int) ≤ n := Int.natCast_nonneg _
  have n1 : 1 ≤ (n : Int) := by omega
  have n2 : (n : Int) ≤ 104 := by omega
  obtain ⟨ps, hps⟩ : ∃ ps, milk (marks 0 n) = ps := ⟨_, rfl⟩
  have hpp : ps.Perm (marks 0 n) := hps ▸ milk_perm _
  have hpl : ps.length = n := by rw [hpp.length_eq, marks_length]
  have HPL := Lib.hid hpl
  have HPP := Lib.hid hpp
  have HPS := Lib.hid hps
  rw [hps]
  clear hps hpp hpl
  obtain ⟨R, hR⟩ : ∃ R, ret (exOf ps) n = R := ⟨_, rfl⟩
  rw [hR]
  have HR := Lib.hid hR
  clear hR
  go_enter Try.func13, Try.ntmps13
  go_wp2_with (first | ((with_reducible refine (caCards_yes _ _ n1 n2).mono ?_); rintro e w' ⟨rfl, rfl⟩))
  refine (ciPeople_any n W (by omega)).mono ?_
  rintro e w1 ⟨v1, rfl, hs1, hk1⟩
  obtain ⟨A1, c1, rfl⟩ := hs1.val (marks_length 0 n)
  have HS1 := Lib.hid hs1
  have HK1 := Lib.hid hk1
  clear hs1 hk1
  go_wp2_with fail
  refine (caMilk_any A1 n c1 (marks 0 n) w1 HS1.out.rd (marks_length 0 n) hn (by omega)).mono ?_
  rintro e w3 ⟨v3, rfl, hs3, hk3⟩
  rw [HPS.out] at hs3
  obtain ⟨A3, c3, rfl⟩ := hs3.val HPL.out
  have HS3 := Lib.hid hs3
  have HK3 := Lib.hid (HK1.out.nw hk3)
  clear hs3 hk3
  go_wp2_with fail
  refine (caReturn_any A3 n c3 ps w3 HS3.out.rd HPL.out hn (by omega) (perm_places HPP.out).1 (perm_places HPP.out).2).mono ?_
  rw [HR.out]
  rintro e w4 ⟨rfl, hk4⟩
  have HK4 := Lib.hid (HK3.out.nw hk4)
  clear hk4
  go_wp2
  go_ret2
  exact ⟨rfl, HK4.out⟩

set_option maxRecDepth 100000 in
set_option maxHeartbeats 1600000 in
theorem sShufflesToReturn_k1 (n : Nat) (W : World) (hn : 1 ≤ n) (hm : n ≤ 104) :
    Calls Try.prog 13 #[.int .i64 n, .int .i64 1] W (IntB W (ret (exOf (monge (marks 0 n))) n).1 (ret (exOf (monge (marks 0 n))) n).2) := by
  have n0 : (0 : Int) ≤ n := Int.natCast_nonneg _
  have n1 : 1 ≤ (n : Int) := by omega
  have n2 : (n : Int) ≤ 104 := by omega
  obtain ⟨ps, hps⟩ : ∃ ps, monge (marks 0 n) = ps := ⟨_, rfl⟩
  have hpp : ps.Perm (marks 0 n) := hps ▸ monge_perm _
  have hpl : ps.length = n := by rw [hpp.length_eq, marks_length]
  have HPL := Lib.hid hpl
  have HPP := Lib.hid hpp
  have HPS := Lib.hid hps
  rw [hps]
  clear hps hpp hpl
  obtain ⟨R, hR⟩ : ∃ R, ret (exOf ps) n = R := ⟨_, rfl⟩
  rw [hR]
  have HR := Lib.hid hR
  clear hR
  go_enter Try.func13, Try.ntmps13
  go_wp2_with (first | ((with_reducible refine (caCards_yes _ _ n1 n2).mono ?_); rintro e w' ⟨rfl, rfl⟩))
  refine (ciPeople_any n W (by omega)).mono ?_
  rintro e w1 ⟨v1, rfl, hs1, hk1⟩
  obtain ⟨A1, c1, rfl⟩ := hs1.val (marks_length 0 n)
  have HS1 := Lib.hid hs1
  have HK1 := Lib.hid hk1
  clear hs1 hk1
  go_wp2_with fail
  refine (caMonge_any A1 n c1 (marks 0 n) w1 HS1.out.rd (marks_length 0 n) hn (by omega)).mono ?_
  rintro e w3 ⟨v3, rfl, hs3, hk3⟩
  rw [HPS.out] at hs3
  obtain ⟨A3, c3, rfl⟩ := hs3.val HPL.out
  have HS3 := Lib.hid hs3
  have HK3 := Lib.hid (HK1.out.nw hk3)
  clear hs3 hk3
  go_wp2_with fail
  refine (caReturn_any A3 n c3 ps w3 HS3.out.rd HPL.out hn (by omega) (perm_places HPP.out).1 (perm_places HPP.out).2).mono ?_
  rw [HR.out]
  rintro e w4 ⟨rfl, hk4⟩
  have HK4 := Lib.hid (HK3.out.nw hk4)
  clear hk4
  go_wp2
  go_ret2
  exact ⟨rfl, HK4.out⟩

set_option maxRecDepth 100000 in
set_option maxHeartbeats 1600000 in
theorem sShufflesToReturn_k2 (n : Nat) (W : World) (hn : 1 ≤ n) (hm : n ≤ 104) :
    Calls Try.prog 13 #[.int .i64 n, .int .i64 2] W (IntB W (ret (exOf ((marks 0 n).reverse)) n).1 (ret (exOf ((marks 0 n).reverse)) n).2) := by
  have n0 : (0 : Int) ≤ n := Int.natCast_nonneg _
  have n1 : 1 ≤ (n : Int) := by omega
  have n2 : (n : Int) ≤ 104 := by omega
  obtain ⟨ps, hps⟩ : ∃ ps, (marks 0 n).reverse = ps := ⟨_, rfl⟩
  have hpp : ps.Perm (marks 0 n) := hps ▸ List.reverse_perm _
  have hpl : ps.length = n := by rw [hpp.length_eq, marks_length]
  have HPL := Lib.hid hpl
  have HPP := Lib.hid hpp
  have HPS := Lib.hid hps
  rw [hps]
  clear hps hpp hpl
  obtain ⟨R, hR⟩ : ∃ R, ret (exOf ps) n = R := ⟨_, rfl⟩
  rw [hR]
  have HR := Lib.hid hR
  clear hR
  go_enter Try.func13, Try.ntmps13
  go_wp2_with (first | ((with_reducible refine (caCards_yes _ _ n1 n2).mono ?_); rintro e w' ⟨rfl, rfl⟩))
  refine (ciPeople_any n W (by omega)).mono ?_
  rintro e w1 ⟨v1, rfl, hs1, hk1⟩
  obtain ⟨A1, c1, rfl⟩ := hs1.val (marks_length 0 n)
  have HS1 := Lib.hid hs1
  have HK1 := Lib.hid hk1
  clear hs1 hk1
  go_wp2_with fail
  refine (caBack_any A1 n c1 (marks 0 n) w1 HS1.out.rd (marks_length 0 n) (by omega)).mono ?_
  rintro e w3 ⟨v3, rfl, hs3, hk3⟩
  rw [HPS.out] at hs3
  obtain ⟨A3, c3, rfl⟩ := hs3.val HPL.out
  have HS3 := Lib.hid hs3
  have HK3 := Lib.hid (HK1.out.nw hk3)
  clear hs3 hk3
  go_wp2_with fail
  refine (caReturn_any A3 n c3 ps w3 HS3.out.rd HPL.out hn (by omega) (perm_places HPP.out).1 (perm_places HPP.out).2).mono ?_
  rw [HR.out]
  rintro e w4 ⟨rfl, hk4⟩
  have HK4 := Lib.hid (HK3.out.nw hk4)
  clear hk4
  go_wp2
  go_ret2
  exact ⟨rfl, HK4.out⟩
end Go.Proofs.Ytdehkehjbmnllab
namespace Go.Proofs.Ytdehkehjbmnllab
open Go.ChangeShapes Go.WideShapes Go.ChangeAt Go.RowKit

theorem SlT.atd {w : World} {B : Nat} {v : Value} {ls : List (List UInt8)} (h : SlT w B v ls) (hp : 0 < ls.length) :
    ∃ g cap, v = .slice (some ⟨g, 0, none⟩) ls.length cap ∧ ls.length ≤ cap ∧ ∀ j, j < ls.length → w.cell? ⟨g, j, none⟩ = some (sval (ls.getD j [])) := by
  rcases h.2 with ⟨rfl, hn⟩ | ⟨g, cap, cur, rfl, hb, hg, h1, h2, h3, h4⟩
  · omega
  · refine ⟨g, cap, rfl, h1, fun j hj => ?_⟩
    have e : cur.toList[j]? = (ls.map sval)[j]? := by
      rw [← h4, List.getElem?_take_of_lt (by omega)]
    simp only [World.cell?, hg]
    rw [← Array.getElem?_toList, e]
    simp [hj]
/-- a letter; a word -/
def letter (b : UInt8) : Bool := decide (97 ≤ b.toNat ∧ b.toNat ≤ 122)
def okWord (w : List UInt8) : Bool := decide (1 ≤ w.length ∧ w.length ≤ 20) && w.all letter
/-- how many letters the words have -/
def lens (ws : List (List UInt8)) : List Int := ws.map (fun w => (w.length : Int))
/-- whether a text is words, so many at most -/
def spellB (l : List UInt8) : Bool := decide (l.length ≤ 2184) && (sp 32 [] l).all okWord && decide ((sp 32 [] l).length ≤ 104)
theorem sp_one (b : UInt8) : ∀ (l cur : List UInt8), 1 ≤ (sp b cur l).length
  | [], cur => by simp [sp]
  | c :: r, cur => by
    rw [sp]
    split
    · simp
    · exact sp_one b r _
theorem sp_few (b : UInt8) : ∀ (l cur : List UInt8), (sp b cur l).length ≤ l.length + 1
  | [], cur => by simp [sp]
  | c :: r, cur => by
    rw [sp]
    split
    · have := sp_few b r []
      simp only [List.length_cons]
      omega
    · have := sp_few b r (cur ++ [c])
      simp only [List.length_cons]
      omega
theorem sp_short (b : UInt8) (k : Nat) : ∀ (l cur : List UInt8), cur.length + l.length ≤ k → ∀ w ∈ sp b cur l, w.length ≤ k
  | [], cur, h, w, hw => by
    simp [sp] at hw
    subst hw
    simp at h
    omega
  | c :: r, cur, h, w, hw => by
    rw [List.length_cons] at h
    rw [sp] at hw
    split at hw
    · rcases List.mem_cons.1 hw with rfl | hw
      · omega
      · exact sp_short b k r [] (by simp; omega) w hw
    · exact sp_short b k r (cur ++ [c]) (by simp; omega) w hw
theorem lens_snoc (ws : List (List UInt8)) (j : Nat) (h : j < ws.length) : lens (ws.take (j + 1)) = lens (ws.take j) ++ [((ws.getD j []).length : Int)] := by
  unfold lens
  rw [List.take_succ_eq_append_getElem h, List.map_append, List.getD_eq_getElem?_getD, List.getElem?_eq_getElem h]
  rfl
theorem okWord_bad (w : List UInt8) (i : Nat) (h : i < w.length) (hb : w[i].toNat < 97 ∨ 122 < w[i].toNat) : okWord w = false := by
  have : w.all letter = false := by
    rw [List.all_eq_false]
    refine ⟨w[i], List.getElem_mem h, ?_⟩
    unfold letter
    simp
    omega
  unfold okWord
  rw [this, Bool.and_false]
theorem okWord_good (w : List UInt8) (h1 : 1 ≤ w.length) (h2 : w.length ≤ 20) (h : ∀ i (hi : i < w.length), 97 ≤ w[i].toNat ∧ w[i].toNat ≤ 122) : okWord w = true := by
  have : w.all letter = true := by
    rw [List.all_eq_true]
    intro x hx
    obtain ⟨i, hi, e⟩ := List.mem_iff_getElem.1 hx
    have := h i hi
    rw [e] at this
    exact decide_eq_true this
  unfold okWord
  rw [this, Bool.and_true]
  exact decide_eq_true ⟨h1, h2⟩
theorem spell_bad (l : List UInt8) (j : Nat) (hj : j < (sp 32 [] l).length) (h : okWord ((sp 32 [] l).getD j []) = false) : spellB l = false := by
  have : (sp 32 [] l).all okWord = false := by
    rw [List.all_eq_false]
    refine ⟨(sp 32 [] l)[j], List.getElem_mem hj, ?_⟩
    rw [List.getD_eq_getElem?_getD, List.getElem?_eq_getElem hj] at h
    simp at h
    simp [h]
  unfold spellB
  rw [this, Bool.and_false, Bool.false_and]
theorem spell_good (l : List UInt8) (hl : l.length ≤ 2184) (h : ∀ j, j < (sp 32 [] l).length → okWord ((sp 32 [] l).getD j []) = true) : spellB l = decide ((sp 32 [] l).length ≤ 104) := by
  have : (sp 32 [] l).all okWord = true := by
    rw [List.all_eq_true]
    intro x hx
    obtain ⟨j, hj, e⟩ := List.mem_iff_getElem.1 hx
    have := h j hj
    rw [List.getD_eq_getElem?_getD, List.getElem?_eq_getElem hj] at this
    simpa [e] using this
  unfold spellB
  rw [this, Bool.and_true, decide_eq_true hl, Bool.true_and]
/-- the result: a list and whether there are words; the list counts only if so -/
def Spelt (W : World) (l : List UInt8) (e : Ending) (w' : World) : Prop := ∃ v, e = .returned (.tuple #[v, .bool (spellB l)]) ∧ (spellB l = true → Sl w' W.heap.size v (lens (sp 32 [] l))) ∧ Kp Nw W w'

end Go.Proofs.Ytdehkehjbmnllab
namespace Go.Proofs.Ytdehkehjbmnllab
open Go.ChangeShapes Go.WideShapes Go.ChangeAt Go.RowKit

theorem lens_length (ws : List (List UInt8)) : (lens ws).length = ws.length := by unfold lens; rw [List.length_map]
theorem spell_parts {l : List UInt8} (h : spellB l = true) : (sp 32 [] l).length ≤ 104 ∧ (lens (sp 32 [] l)).all (okR 0 1000) = true := by
  unfold spellB at h
  rw [Bool.and_eq_true, Bool.and_eq_true] at h
  refine ⟨of_decide_eq_true h.2, ?_⟩
  rw [List.all_eq_true]
  intro x hx
  unfold lens at hx
  obtain ⟨w, hw, rfl⟩ := List.mem_map.1 hx
  have h1 := List.all_eq_true.1 h.1.2 w hw
  unfold okWord at h1
  rw [Bool.and_eq_true] at h1
  have h2 := of_decide_eq_true h1.1
  exact decide_eq_true ⟨by omega, by omega⟩

end Go.Proofs.Ytdehkehjbmnllab
namespace Go.Proofs.Ytdehkehjbmnllab
open Go.ChangeShapes Go.WideShapes Go.ChangeAt Go.RowKit

theorem set0_len (n : Nat) (u : Int) : ((List.replicate n u).set 0 0).length = n := by rw [List.length_set, List.length_replicate]

def vDealDeck (xs : List Int) (u : Int) : List Int × Bool := if deckB xs = true ∧ 0 ≤ u ∧ u ≤ 1000 then (deal xs (List.replicate xs.length u), true) else ([], false)
theorem vDealDeck_len (xs : List Int) (u : Int) : (vDealDeck xs u).1.length ≤ 1000000 := by
  unfold vDealDeck
  split
  · rename_i h
    have h1 := deckB_parts (show deckB xs = true from h.1)
    show (deal xs (List.replicate xs.length u)).length ≤ 1000000
    rw [deal_length, List.length_replicate]; omega
  · exact Nat.zero_le _
def vDeckFor (xs : List Int) (u : Int) : List Int × Bool := if deckB xs = true ∧ 0 ≤ u ∧ u ≤ 1000 then (scat xs (deal (marks 0 xs.length) (List.replicate xs.length u)), true) else ([], false)
theorem vDeckFor_len (xs : List Int) (u : Int) : (vDeckFor xs u).1.length ≤ 1000000 := by
  unfold vDeckFor
  split
  · rename_i h
    have h1 := deckB_parts (show deckB xs = true from h.1)
    show (scat xs (deal (marks 0 xs.length) (List.replicate xs.length u))).length ≤ 1000000
    rw [scat_length]; omega
  · exact Nat.zero_le _
def vDealFirst (xs : List Int) (u : Int) : List Int × Bool := if deckB xs = true ∧ 0 ≤ u ∧ u ≤ 1000 then (deal xs ((List.replicate xs.length u).set 0 0), true) else ([], false)
theorem vDealFirst_len (xs : List Int) (u : Int) : (vDealFirst xs u).1.length ≤ 1000000 := by
  unfold vDealFirst
  split
  · rename_i h
    have h1 := deckB_parts (show deckB xs = true from h.1)
    show (deal xs ((List.replicate xs.length u).set 0 0)).length ≤ 1000000
    rw [deal_length, set0_len]; omega
  · exact Nat.zero_le _
def vDealTimes (xs : List Int) (u t : Int) : List Int × Bool := if deckB xs = true ∧ 0 ≤ u ∧ u ≤ 1000 ∧ 0 ≤ t ∧ t ≤ 100 then (deals u t.toNat xs, true) else ([], false)
theorem vDealTimes_len (xs : List Int) (u t : Int) : (vDealTimes xs u t).1.length ≤ 1000000 := by
  unfold vDealTimes
  split
  · rename_i h
    have h1 := deckB_parts (show deckB xs = true from h.1)
    show (deals u t.toNat xs).length ≤ 1000000
    rw [deals_length]; omega
  · exact Nat.zero_le _
def vCutDeck (xs : List Int) (a : Int) : List Int × Bool := if deckB xs = true ∧ 0 ≤ a ∧ a ≤ (xs.length : Int) then (rot xs a.toNat, true) else ([], false)
theorem vCutDeck_len (xs : List Int) (a : Int) : (vCutDeck xs a).1.length ≤ 1000000 := by
  unfold vCutDeck
  split
  · rename_i h
    have h1 := deckB_parts (show deckB xs = true from h.1)
    show (rot xs a.toNat).length ≤ 1000000
    rw [rot_length]; omega
  · exact Nat.zero_le _
def vBackDeck (xs : List Int) : List Int × Bool := if deckB xs = true then (xs.reverse, true) else ([], false)
theorem vBackDeck_len (xs : List Int) : (vBackDeck xs ).1.length ≤ 1000000 := by
  unfold vBackDeck
  split
  · rename_i h
    have h1 := deckB_parts (show deckB xs = true from h)
    show (xs.reverse).length ≤ 1000000
    rw [List.length_reverse]; omega
  · exact Nat.zero_le _
theorem sBackDeck_all (g n B : Nat) (xs : List Int) (W : World) (hs : SlAt W B g n n xs) (hl : n ≤ 1048576) :
    Calls Try.prog 15 #[.slice (some ⟨g, 0, none⟩) n n] W (ListB W (vBackDeck xs ).1 (vBackDeck xs ).2) := by
  have hn : xs.length = n := hs.1
  unfold vBackDeck
  by_cases hb : deckB xs = true
  · rw [if_pos hb]
    exact sBackDeck_yes g n B xs W hs hl hb
  · rw [if_neg hb]
    exact sBackDeck_no g n B xs W hs hl (by simpa using hb)

def vMilkDeck (xs : List Int) : List Int × Bool := if deckB xs = true then (milk xs, true) else ([], false)
theorem vMilkDeck_len (xs : List Int) : (vMilkDeck xs ).1.length ≤ 1000000 := by
  unfold vMilkDeck
  split
  · rename_i h
    have h1 := deckB_parts (show deckB xs = true from h)
    show (milk xs).length ≤ 1000000
    rw [milk_length]; omega
  · exact Nat.zero_le _
theorem sMilkDeck_all (g n B : Nat) (xs : List Int) (W : World) (hs : SlAt W B g n n xs) (hl : n ≤ 1048576) :
    Calls Try.prog 7 #[.slice (some ⟨g, 0, none⟩) n n] W (ListB W (vMilkDeck xs ).1 (vMilkDeck xs ).2) := by
  have hn : xs.length = n := hs.1
  unfold vMilkDeck
  by_cases hb : deckB xs = true
  · rw [if_pos hb]
    exact sMilkDeck_yes g n B xs W hs hl hb
  · rw [if_neg hb]
    exact sMilkDeck_no g n B xs W hs hl (by simpa using hb)

def vMongeDeck (xs : List Int) : List Int × Bool := if deckB xs = true then (monge xs, true) else ([], false)
theorem vMongeDeck_len (xs : List Int) : (vMongeDeck xs ).1.length ≤ 1000000 := by
  unfold vMongeDeck
  split
  · rename_i h
    have h1 := deckB_parts (show deckB xs = true from h)
    show (monge xs).length ≤ 1000000
    unfold monge; rw [monN_length]; omega
  · exact Nat.zero_le _
theorem sMongeDeck_all (g n B : Nat) (xs : List Int) (W : World) (hs : SlAt W B g n n xs) (hl : n ≤ 1048576) :
    Calls Try.prog 17 #[.slice (some ⟨g, 0, none⟩) n n] W (ListB W (vMongeDeck xs ).1 (vMongeDeck xs ).2) := by
  have hn : xs.length = n := hs.1
  unfold vMongeDeck
  by_cases hb : deckB xs = true
  · rw [if_pos hb]
    exact sMongeDeck_yes g n B xs W hs hl hb
  · rw [if_neg hb]
    exact sMongeDeck_no g n B xs W hs hl (by simpa using hb)

def vDealCounts (xs us : List Int) : List Int × Bool := if deckB xs = true ∧ countsB xs.length us = true then (deal xs us, true) else ([], false)
theorem vDealCounts_len (xs us : List Int) : (vDealCounts xs us).1.length ≤ 1000000 := by
  unfold vDealCounts
  split
  · rename_i h
    have h1 := deckB_parts h.1
    have h2 := h.2
    unfold countsB at h2
    rw [Bool.and_eq_true] at h2
    have h3 := of_decide_eq_true h2.1
    show (deal xs us).length ≤ 1000000
    rw [deal_length]; omega
  · exact Nat.zero_le _
def vDeckForCounts (xs us : List Int) : List Int × Bool := if deckB xs = true ∧ countsB xs.length us = true then (scat xs (deal (marks 0 xs.length) us), true) else ([], false)
theorem vDeckForCounts_len (xs us : List Int) : (vDeckForCounts xs us).1.length ≤ 1000000 := by
  unfold vDeckForCounts
  split
  · rename_i h
    have h1 := deckB_parts h.1
    have h2 := h.2
    unfold countsB at h2
    rw [Bool.and_eq_true] at h2
    have h3 := of_decide_eq_true h2.1
    show (scat xs (deal (marks 0 xs.length) us)).length ≤ 1000000
    rw [scat_length]; omega
  · exact Nat.zero_le _
def vSpellCounts (l : List UInt8) : List Int × Bool := if spellB l = true then (lens (sp 32 [] l), true) else ([], false)
theorem vSpellCounts_len (l : List UInt8) : (vSpellCounts l).1.length ≤ 1000000 := by
  unfold vSpellCounts
  split
  · rename_i h
    have h1 := (spell_parts h).1
    show (lens (sp 32 [] l)).length ≤ 1000000
    rw [lens_length]
    omega
  · exact Nat.zero_le _
def vSpellDeck (xs : List Int) (l : List UInt8) : List Int × Bool := if spellB l = true ∧ deckB xs = true ∧ xs.length = (sp 32 [] l).length then (scat xs (deal (marks 0 xs.length) (lens (sp 32 [] l))), true) else ([], false)
theorem vSpellDeck_len (xs : List Int) (l : List UInt8) : (vSpellDeck xs l).1.length ≤ 1000000 := by
  unfold vSpellDeck
  split
  · rename_i h
    have h1 := deckB_parts h.2.1
    show (scat xs (deal (marks 0 xs.length) (lens (sp 32 [] l)))).length ≤ 1000000
    rw [scat_length]
    omega
  · exact Nat.zero_le _
def vDealsToReturn (p u : Int) : Int × Bool := if 1 ≤ p ∧ p ≤ 104 ∧ 0 ≤ u ∧ u ≤ 1000 then ret (exOf (deal (marks 0 p.toNat) (List.replicate p.toNat u))) p.toNat else (0, false)
def vLastDealt (p u : Int) : Int × Bool := if 1 ≤ p ∧ p ≤ 104 ∧ 0 ≤ u ∧ u ≤ 1000 then ((deal (marks 0 p.toNat) (List.replicate p.toNat u)).getD (p.toNat - 1) 0, true) else (0, false)
def vShufflesToReturn (p k : Int) : Int × Bool :=
  if 1 ≤ p ∧ p ≤ 104 then
    if k = 0 then ret (exOf (milk (marks 0 p.toNat))) p.toNat
    else if k = 1 then ret (exOf (monge (marks 0 p.toNat))) p.toNat
    else if k = 2 then ret (exOf (marks 0 p.toNat).reverse) p.toNat
    else (0, false)
  else (0, false)
theorem sShufflesToReturn_all (p k : Int) (W : World) : Calls Try.prog 13 #[.int .i64 p, .int .i64 k] W (IntB W (vShufflesToReturn p k).1 (vShufflesToReturn p k).2) := by
  unfold vShufflesToReturn
  by_cases hp : 1 ≤ p ∧ p ≤ 104
  · rw [if_pos hp]
    obtain ⟨n, rfl⟩ : ∃ n : Nat, p = n := ⟨p.toNat, by omega⟩
    rw [Int.toNat_natCast]
    by_cases k0 : k = 0
    · subst k0
      rw [if_pos rfl]
      exact sShufflesToReturn_k0 n W (by omega) (by omega)
    · rw [if_neg k0]
      by_cases k1 : k = 1
      · subst k1
        rw [if_pos rfl]
        exact sShufflesToReturn_k1 n W (by omega) (by omega)
      · rw [if_neg k1]
        by_cases k2 : k = 2
        · subst k2
          rw [if_pos rfl]
          exact sShufflesToReturn_k2 n W (by omega) (by omega)
        · rw [if_neg k2]
          exact sShufflesToReturn_no2 n k W hp.1 hp.2 k0 k1 k2
  · rw [if_neg hp]
    exact sShufflesToReturn_no1 p k W (by omega)
end Go.Proofs.Ytdehkehjbmnllab
namespace Go.Proofs.Ytdehkehjbmnllab
open Go.ChangeShapes Go.WideShapes Go.ChangeAt Go.RowKit
end Go.Proofs.Ytdehkehjbmnllab
namespace Go.Proofs.Ytdehkehjbmnllab
open Go.ChangeShapes Go.WideShapes Go.ChangeAt Go.RowKit
end Go.Proofs.Ytdehkehjbmnllab
namespace Go.Proofs.Ytdehkehjbmnllab
open Go.ChangeShapes Go.WideShapes Go.ChangeAt Go.RowKit
end Go.Proofs.Ytdehkehjbmnllab
namespace Go.Proofs.Ytdehkehjbmnllab
open Go.ChangeShapes Go.WideShapes Go.ChangeAt Go.RowKit
end Go.Proofs.Ytdehkehjbmnllab
namespace Go.Proofs.Ytdehkehjbmnllab
open Go.ChangeShapes Go.WideShapes Go.ChangeAt Go.RowKit
end Go.Proofs.Ytdehkehjbmnllab
namespace Go.Proofs.Ytdehkehjbmnllab
open Go.ChangeShapes Go.WideShapes Go.ChangeAt Go.RowKit
end Go.Proofs.Ytdehkehjbmnllab
namespace Go.Proofs.Ytdehkehjbmnllab
open Go.ChangeShapes Go.WideShapes Go.ChangeAt Go.RowKit
end Go.Proofs.Ytdehkehjbmnllab
namespace Go.Proofs.Ytdehkehjbmnllab
open Go.ChangeShapes Go.WideShapes Go.ChangeAt Go.RowKit
end Go.Proofs.Ytdehkehjbmnllab
namespace Go.Proofs.Ytdehkehjbmnllab
open Go.ChangeShapes Go.WideShapes Go.ChangeAt Go.RowKit
end Go.Proofs.Ytdehkehjbmnllab
namespace Go.Proofs.Ytdehkehjbmnllab
open Go.ChangeShapes Go.WideShapes Go.ChangeAt Go.RowKit
end Go.Proofs.Ytdehkehjbmnllab
namespace Go.Proofs.Ytdehkehjbmnllab
open Go.ChangeShapes Go.WideShapes Go.ChangeAt Go.RowKit
end Go.Proofs.Ytdehkehjbmnllab
namespace Go.Proofs.Ytdehkehjbmnllab
open Go.ChangeShapes Go.WideShapes Go.ChangeAt Go.RowKit
end Go.Proofs.Ytdehkehjbmnllab
namespace Go.Proofs.Ytdehkehjbmnllab
open Go.ChangeShapes Go.WideShapes Go.ChangeAt Go.RowKit

set_option maxHeartbeats 800000 in
theorem lawBackDeck_bigd (Ad : Option Addr) (nd cd : Nat) (W : World) (hmd : nd ≤ maxLen) (hb : 1048576 < nd) :
    Calls Try.prog 5 #[.slice Ad nd cd] W fun e w' => e = .returned (.bool true) ∧ Kp Nw W w' := by
  have hb2 : (1048576 : Int) < nd := by omega
  have hb3 : (nd : Int) ≤ 9223372036854775807 := by unfold maxLen at hmd; omega
  go_enter Try.func5, Try.ntmps5
  go_wp2
  go_ret
  exact ⟨rfl, Kp.refl _ _⟩

set_option maxHeartbeats 3200000 in
set_option maxRecDepth 100000 in
theorem lawBackDeck_of (Ad : Option Addr) (nd cd : Nat) (xsd : List Int) (zs : List Int) (b : Bool) (W : World) (hud : Rd W (.slice Ad nd cd) xsd) (hnd : xsd.length = nd) (hd : nd ≤ 1048576) (hlen : zs.length ≤ 1000000)
    (hS : Hid (∀ (gd Bd : Nat) (W : World), SlAt W Bd gd nd nd xsd → Calls Try.prog 15 #[.slice (some ⟨gd, 0, none⟩) nd nd] W (ListB W zs b))) (hI : Hid (∀ (gd Bd : Nat) (W : World), SlAt W Bd gd nd nd xsd → Calls Try.prog 16 #[.slice (some ⟨gd, 0, none⟩) nd nd] W (ListB W zs b))) :
    Calls Try.prog 5 #[.slice Ad nd cd] W fun e w' => e = .returned (.bool true) ∧ Kp Nw W w' := by
  obtain ⟨m, hm⟩ : ∃ m, zs.length = m := ⟨_, rfl⟩
  have HL : Hid (zs.length ≤ maxLen) := Lib.hid (by unfold maxLen; omega)
  have hlen : m ≤ 1000000 := by omega
  have hm0 : (0 : Int) ≤ m := Int.natCast_nonneg _
  have HM := Lib.hid hm
  clear hm
  have HUd := Lib.hid hud
  have HNd := Lib.hid hnd
  have HLXd : Hid (xsd.length ≤ maxLen) := Lib.hid (by unfold maxLen; omega)
  have n0d : (0 : Int) ≤ nd := Int.natCast_nonneg _
  have q1d : (nd : Int) ≤ 1048576 := by omega
  clear hud hnd
  have HK := Lib.hid (Kp.refl Nw W)
  go_enter Try.func5, Try.ntmps5
  go_wp2_with fail
  refine (toIntS_any _ nd xsd _ (HUd.out.nw HK.out) HNd.out hd).mono ?_
  rintro e w1 ⟨g1, rfl, hs1, hk1, hg1, hl1⟩
  have HTd := Lib.hid hs1
  have RHTd : Hid (W.heap.size ≤ g1 ∧ g1 < w1.heap.size) := Lib.hid ⟨hg1, hl1⟩
  have HK := Lib.hid (HK.out.nw hk1)
  have z1 : W.heap.size ≤ w1.heap.size := hk1.size
  clear hs1 hk1 hg1 hl1
  go_wp2_with fail
  refine (hS.out g1 _ _ HTd.out).mono ?_
  rintro e w2 ⟨v2, rfl, hs2, hk2⟩
  obtain ⟨A2, c2, rfl⟩ := hs2.val HM.out
  have HV2 := Lib.hid hs2
  have O2 : Hid (∀ g, (Value.slice A2 m c2).ownBlock = some g → w1.heap.size ≤ g ∧ g < w2.heap.size) := Lib.hid hs2.own_ge
  have HTd := Lib.hid (HTd.out.kq hk2 (fun h => h))
  have HK := Lib.hid (HK.out.nw hk2)
  have z2 : w1.heap.size ≤ w2.heap.size := hk2.size
  clear hs2 hk2
  go_wp2_with fail
  refine (toIntS_any _ nd xsd _ (HUd.out.nw HK.out) HNd.out hd).mono ?_
  rintro e w3 ⟨g3, rfl, hs3, hk3, hg3, hl3⟩
  have HXd := Lib.hid hs3
  have RHXd : Hid (w2.heap.size ≤ g3 ∧ g3 < w3.heap.size) := Lib.hid ⟨hg3, hl3⟩
  have HV2 := Lib.hid (HV2.out.below hk3.below')
  have HK := Lib.hid (HK.out.nw hk3)
  have z3 : w2.heap.size ≤ w3.heap.size := hk3.size
  clear hs3 hk3 hg3 hl3
  go_wp2_with fail
  refine (hI.out g3 _ _ HXd.out).mono ?_
  rintro e w4 ⟨v4, rfl, hs4, hk4⟩
  obtain ⟨A4, c4, rfl⟩ := hs4.val HM.out
  have HV4 := Lib.hid hs4
  have O4 : Hid (∀ g, (Value.slice A4 m c4).ownBlock = some g → w3.heap.size ≤ g ∧ g < w4.heap.size) := Lib.hid hs4.own_ge
  have HV2 := Lib.hid (HV2.out.below hk4.below')
  have HXd := Lib.hid (HXd.out.kq hk4 (fun h => h))
  have HK := Lib.hid (HK.out.nw hk4)
  have z4 : w3.heap.size ≤ w4.heap.size := hk4.size
  clear hs4 hk4
  go_wp2_with fail
  refine (eqIntS_same _ _ zs _ HV4.out.rd HV2.out.rd HL.out).mono ?_
  rintro e w5 ⟨rfl, d5, hd5⟩
  have hk5 : Kp Nw w4 w5 := by rw [hd5]; exact (Kp.refl _ _).drewN d5
  have z5 : w4.heap.size ≤ w5.heap.size := hk5.size
  clear hd5
  have HV2 := Lib.hid (HV2.out.below hk5.below')
  have HXd := Lib.hid (HXd.out.kq hk5 (fun h => h))
  have HV4 := Lib.hid (HV4.out.below hk5.below')
  have HK := Lib.hid (HK.out.nw hk5)
  clear hk5
  go_wp2_with fail
  refine (toIntS_any _ nd xsd _ (HUd.out.nw HK.out) HNd.out hd).mono ?_
  rintro e w6 ⟨g6, rfl, hs6, hk6, hg6, hl6⟩
  have HYd := Lib.hid hs6
  have RHYd : Hid (w5.heap.size ≤ g6 ∧ g6 < w6.heap.size) := Lib.hid ⟨hg6, hl6⟩
  have HV2 := Lib.hid (HV2.out.below hk6.below')
  have HXd := Lib.hid (HXd.out.kq hk6 (fun h => h))
  have HV4 := Lib.hid (HV4.out.below hk6.below')
  have HK := Lib.hid (HK.out.nw hk6)
  have z6 : w5.heap.size ≤ w6.heap.size := hk6.size
  clear hs6 hk6 hg6 hl6
  go_wp2_with fail
  refine (eqIntS_same _ _ xsd _ HXd.out.sl.rd HYd.out.sl.rd HLXd.out).mono ?_
  rintro e w7 ⟨rfl, d7, hd7⟩
  have hk7 : Kp Nw w6 w7 := by rw [hd7]; exact (Kp.refl _ _).drewN d7
  have z7 : w6.heap.size ≤ w7.heap.size := hk7.size
  clear hd7
  have HV2 := Lib.hid (HV2.out.below hk7.below')
  have HXd := Lib.hid (HXd.out.kq hk7 (fun h => h))
  have HV4 := Lib.hid (HV4.out.below hk7.below')
  have HYd := Lib.hid (HYd.out.kq hk7 (fun h => h))
  have HK := Lib.hid (HK.out.nw hk7)
  clear hk7
  go_wp2_with fail
  refine (markIntS_any _ xsd (1) _ _ HXd.out.sl (by omega) (by omega) (by rw [HNd.out]; omega)).mono ?_
  rintro e w8 ⟨rfl, _, hk8⟩
  rw [HNd.out]
  have z8 : w7.heap.size ≤ w8.heap.size := hk8.size
  have Md : Hid (∀ g, (Value.slice (some ⟨g3, 0, none⟩) nd nd).ownBlock = some g → w2.heap.size ≤ g ∧ g < w3.heap.size) := Lib.hid (fun g hg => by
    have e9 : g = g3 := by simp [Value.ownBlock] at hg; omega
    rw [e9]; exact RHXd.out)
  have HV2 := Lib.hid (HV2.out.kp hk8 (fun g a b => by have := O2.out g a; have := Md.out g b; omega))
  have HV4 := Lib.hid (HV4.out.kp hk8 (fun g a b => by have := O4.out g a; have := Md.out g b; omega))
  have HK := Lib.hid (HK.out.after hk8 (fun g hg h2 => by have := Md.out g h2; omega))
  clear hk8
  go_wp2_with fail
  refine (eqIntS_same _ _ zs _ HV4.out.rd HV2.out.rd HL.out).mono ?_
  rintro e w9 ⟨rfl, d9, hd9⟩
  have hk9 : Kp Nw w8 w9 := by rw [hd9]; exact (Kp.refl _ _).drewN d9
  have z9 : w8.heap.size ≤ w9.heap.size := hk9.size
  clear hd9
  have HV2 := Lib.hid (HV2.out.below hk9.below')
  have HV4 := Lib.hid (HV4.out.below hk9.below')
  have HK := Lib.hid (HK.out.nw hk9)
  clear hk9
  go_wp2_with fail
  refine (markIntS_any _ zs 1 _ _ HV4.out (by omega) (by omega) (by rw [HM.out]; omega)).mono ?_
  rintro e w10 ⟨rfl, hs10, hk10⟩
  rw [HM.out] at hs10 ⊢
  have z10 : w9.heap.size ≤ w10.heap.size := hk10.size
  have HV2 := Lib.hid (HV2.out.kp hk10 (fun g a b => by have := O2.out g a; have := O4.out g b; omega))
  have HK := Lib.hid (HK.out.after hk10 (fun g hg h2 => by have := O4.out g h2; omega))
  have HV4 := Lib.hid hs10
  clear hs10 hk10
  go_wp2_with fail
  refine (heldIntS_any _ 1 m _ HV4.out.rd (by omega) (by omega) (by omega)).mono ?_
  rintro e w11 ⟨rfl, rfl⟩
  go_wp2_with fail
  refine (toIntS_any _ nd xsd _ (HUd.out.nw HK.out) HNd.out hd).mono ?_
  rintro e w12 ⟨g12, rfl, hs12, hk12, hg12, hl12⟩
  have HZd := Lib.hid hs12
  have RHZd : Hid (w10.heap.size ≤ g12 ∧ g12 < w12.heap.size) := Lib.hid ⟨hg12, hl12⟩
  have HV2 := Lib.hid (HV2.out.below hk12.below')
  have HV4 := Lib.hid (HV4.out.below hk12.below')
  have HK := Lib.hid (HK.out.nw hk12)
  have z12 : w10.heap.size ≤ w12.heap.size := hk12.size
  clear hs12 hk12 hg12 hl12
  go_wp2_with fail
  refine (hI.out g12 _ _ HZd.out).mono ?_
  rintro e w13 ⟨v13, rfl, hs13, hk13⟩
  obtain ⟨A13, c13, rfl⟩ := hs13.val HM.out
  have HV13 := Lib.hid hs13
  have O13 : Hid (∀ g, (Value.slice A13 m c13).ownBlock = some g → w12.heap.size ≤ g ∧ g < w13.heap.size) := Lib.hid hs13.own_ge
  have HV2 := Lib.hid (HV2.out.below hk13.below')
  have HV4 := Lib.hid (HV4.out.below hk13.below')
  have HZd := Lib.hid (HZd.out.kq hk13 (fun h => h))
  have HK := Lib.hid (HK.out.nw hk13)
  have z13 : w12.heap.size ≤ w13.heap.size := hk13.size
  clear hs13 hk13
  go_wp2_with fail
  refine (eqIntS_same _ _ zs _ HV13.out.rd HV2.out.rd HL.out).mono ?_
  rintro e w14 ⟨rfl, d14, hd14⟩
  have hk14 : Kp Nw w13 w14 := by rw [hd14]; exact (Kp.refl _ _).drewN d14
  have z14 : w13.heap.size ≤ w14.heap.size := hk14.size
  clear hd14
  have HV2 := Lib.hid (HV2.out.below hk14.below')
  have HV4 := Lib.hid (HV4.out.below hk14.below')
  have HV13 := Lib.hid (HV13.out.below hk14.below')
  have HK := Lib.hid (HK.out.nw hk14)
  clear hk14
  go_wp2_with fail
  refine (heldIntS_any _ 1 m _ HV4.out.rd (by omega) (by omega) (by omega)).mono ?_
  rintro e wl ⟨rfl, rfl⟩
  go_wp2
  go_ret
  exact ⟨rfl, HK.out⟩
end Go.Proofs.Ytdehkehjbmnllab
namespace Go.Proofs.Ytdehkehjbmnllab
open Go.ChangeShapes Go.WideShapes Go.ChangeAt Go.RowKit

set_option maxHeartbeats 800000 in
theorem lawMilkDeck_bigd (Ad : Option Addr) (nd cd : Nat) (W : World) (hmd : nd ≤ maxLen) (hb : 1048576 < nd) :
    Calls Try.prog 3 #[.slice Ad nd cd] W fun e w' => e = .returned (.bool true) ∧ Kp Nw W w' := by
  have hb2 : (1048576 : Int) < nd := by omega
  have hb3 : (nd : Int) ≤ 9223372036854775807 := by unfold maxLen at hmd; omega
  go_enter Try.func3, Try.ntmps3
  go_wp2
  go_ret
  exact ⟨rfl, Kp.refl _ _⟩

set_option maxHeartbeats 3200000 in
set_option maxRecDepth 100000 in
theorem lawMilkDeck_of (Ad : Option Addr) (nd cd : Nat) (xsd : List Int) (zs : List Int) (b : Bool) (W : World) (hud : Rd W (.slice Ad nd cd) xsd) (hnd : xsd.length = nd) (hd : nd ≤ 1048576) (hlen : zs.length ≤ 1000000)
    (hS : Hid (∀ (gd Bd : Nat) (W : World), SlAt W Bd gd nd nd xsd → Calls Try.prog 7 #[.slice (some ⟨gd, 0, none⟩) nd nd] W (ListB W zs b))) (hI : Hid (∀ (gd Bd : Nat) (W : World), SlAt W Bd gd nd nd xsd → Calls Try.prog 9 #[.slice (some ⟨gd, 0, none⟩) nd nd] W (ListB W zs b))) :
    Calls Try.prog 3 #[.slice Ad nd cd] W fun e w' => e = .returned (.bool true) ∧ Kp Nw W w' := by
  obtain ⟨m, hm⟩ : ∃ m, zs.length = m := ⟨_, rfl⟩
  have HL : Hid (zs.length ≤ maxLen) := Lib.hid (by unfold maxLen; omega)
  have hlen : m ≤ 1000000 := by omega
  have hm0 : (0 : Int) ≤ m := Int.natCast_nonneg _
  have HM := Lib.hid hm
  clear hm
  have HUd := Lib.hid hud
  have HNd := Lib.hid hnd
  have HLXd : Hid (xsd.length ≤ maxLen) := Lib.hid (by unfold maxLen; omega)
  have n0d : (0 : Int) ≤ nd := Int.natCast_nonneg _
  have q1d : (nd : Int) ≤ 1048576 := by omega
  clear hud hnd
  have HK := Lib.hid (Kp.refl Nw W)
  go_enter Try.func3, Try.ntmps3
  go_wp2_with fail
  refine (toIntS_any _ nd xsd _ (HUd.out.nw HK.out) HNd.out hd).mono ?_
  rintro e w1 ⟨g1, rfl, hs1, hk1, hg1, hl1⟩
  have HTd := Lib.hid hs1
  have RHTd : Hid (W.heap.size ≤ g1 ∧ g1 < w1.heap.size) := Lib.hid ⟨hg1, hl1⟩
  have HK := Lib.hid (HK.out.nw hk1)
  have z1 : W.heap.size ≤ w1.heap.size := hk1.size
  clear hs1 hk1 hg1 hl1
  go_wp2_with fail
  refine (hS.out g1 _ _ HTd.out).mono ?_
  rintro e w2 ⟨v2, rfl, hs2, hk2⟩
  obtain ⟨A2, c2, rfl⟩ := hs2.val HM.out
  have HV2 := Lib.hid hs2
  have O2 : Hid (∀ g, (Value.slice A2 m c2).ownBlock = some g → w1.heap.size ≤ g ∧ g < w2.heap.size) := Lib.hid hs2.own_ge
  have HTd := Lib.hid (HTd.out.kq hk2 (fun h => h))
  have HK := Lib.hid (HK.out.nw hk2)
  have z2 : w1.heap.size ≤ w2.heap.size := hk2.size
  clear hs2 hk2
  go_wp2_with fail
  refine (toIntS_any _ nd xsd _ (HUd.out.nw HK.out) HNd.out hd).mono ?_
  rintro e w3 ⟨g3, rfl, hs3, hk3, hg3, hl3⟩
  have HXd := Lib.hid hs3
  have RHXd : Hid (w2.heap.size ≤ g3 ∧ g3 < w3.heap.size) := Lib.hid ⟨hg3, hl3⟩
  have HV2 := Lib.hid (HV2.out.below hk3.below')
  have HK := Lib.hid (HK.out.nw hk3)
  have z3 : w2.heap.size ≤ w3.heap.size := hk3.size
  clear hs3 hk3 hg3 hl3
  go_wp2_with fail
  refine (hI.out g3 _ _ HXd.out).mono ?_
  rintro e w4 ⟨v4, rfl, hs4, hk4⟩
  obtain ⟨A4, c4, rfl⟩ := hs4.val HM.out
  have HV4 := Lib.hid hs4
  have O4 : Hid (∀ g, (Value.slice A4 m c4).ownBlock = some g → w3.heap.size ≤ g ∧ g < w4.heap.size) := Lib.hid hs4.own_ge
  have HV2 := Lib.hid (HV2.out.below hk4.below')
  have HXd := Lib.hid (HXd.out.kq hk4 (fun h => h))
  have HK := Lib.hid (HK.out.nw hk4)
  have z4 : w3.heap.size ≤ w4.heap.size := hk4.size
  clear hs4 hk4
  go_wp2_with fail
  refine (eqIntS_same _ _ zs _ HV4.out.rd HV2.out.rd HL.out).mono ?_
  rintro e w5 ⟨rfl, d5, hd5⟩
  have hk5 : Kp Nw w4 w5 := by rw [hd5]; exact (Kp.refl _ _).drewN d5
  have z5 : w4.heap.size ≤ w5.heap.size := hk5.size
  clear hd5
  have HV2 := Lib.hid (HV2.out.below hk5.below')
  have HXd := Lib.hid (HXd.out.kq hk5 (fun h => h))
  have HV4 := Lib.hid (HV4.out.below hk5.below')
  have HK := Lib.hid (HK.out.nw hk5)
  clear hk5
  go_wp2_with fail
  refine (toIntS_any _ nd xsd _ (HUd.out.nw HK.out) HNd.out hd).mono ?_
  rintro e w6 ⟨g6, rfl, hs6, hk6, hg6, hl6⟩
  have HYd := Lib.hid hs6
  have RHYd : Hid (w5.heap.size ≤ g6 ∧ g6 < w6.heap.size) := Lib.hid ⟨hg6, hl6⟩
  have HV2 := Lib.hid (HV2.out.below hk6.below')
  have HXd := Lib.hid (HXd.out.kq hk6 (fun h => h))
  have HV4 := Lib.hid (HV4.out.below hk6.below')
  have HK := Lib.hid (HK.out.nw hk6)
  have z6 : w5.heap.size ≤ w6.heap.size := hk6.size
  clear hs6 hk6 hg6 hl6
  go_wp2_with fail
  refine (eqIntS_same _ _ xsd _ HXd.out.sl.rd HYd.out.sl.rd HLXd.out).mono ?_
  rintro e w7 ⟨rfl, d7, hd7⟩
  have hk7 : Kp Nw w6 w7 := by rw [hd7]; exact (Kp.refl _ _).drewN d7
  have z7 : w6.heap.size ≤ w7.heap.size := hk7.size
  clear hd7
  have HV2 := Lib.hid (HV2.out.below hk7.below')
  have HXd := Lib.hid (HXd.out.kq hk7 (fun h => h))
  have HV4 := Lib.hid (HV4.out.below hk7.below')
  have HYd := Lib.hid (HYd.out.kq hk7 (fun h => h))
  have HK := Lib.hid (HK.out.nw hk7)
  clear hk7
  go_wp2_with fail
  refine (markIntS_any _ xsd (1) _ _ HXd.out.sl (by omega) (by omega) (by rw [HNd.out]; omega)).mono ?_
  rintro e w8 ⟨rfl, _, hk8⟩
  rw [HNd.out]
  have z8 : w7.heap.size ≤ w8.heap.size := hk8.size
  have Md : Hid (∀ g, (Value.slice (some ⟨g3, 0, none⟩) nd nd).ownBlock = some g → w2.heap.size ≤ g ∧ g < w3.heap.size) := Lib.hid (fun g hg => by
    have e9 : g = g3 := by simp [Value.ownBlock] at hg; omega
    rw [e9]; exact RHXd.out)
  have HV2 := Lib.hid (HV2.out.kp hk8 (fun g a b => by have := O2.out g a; have := Md.out g b; omega))
  have HV4 := Lib.hid (HV4.out.kp hk8 (fun g a b => by have := O4.out g a; have := Md.out g b; omega))
  have HK := Lib.hid (HK.out.after hk8 (fun g hg h2 => by have := Md.out g h2; omega))
  clear hk8
  go_wp2_with fail
  refine (eqIntS_same _ _ zs _ HV4.out.rd HV2.out.rd HL.out).mono ?_
  rintro e w9 ⟨rfl, d9, hd9⟩
  have hk9 : Kp Nw w8 w9 := by rw [hd9]; exact (Kp.refl _ _).drewN d9
  have z9 : w8.heap.size ≤ w9.heap.size := hk9.size
  clear hd9
  have HV2 := Lib.hid (HV2.out.below hk9.below')
  have HV4 := Lib.hid (HV4.out.below hk9.below')
  have HK := Lib.hid (HK.out.nw hk9)
  clear hk9
  go_wp2_with fail
  refine (markIntS_any _ zs 1 _ _ HV4.out (by omega) (by omega) (by rw [HM.out]; omega)).mono ?_
  rintro e w10 ⟨rfl, hs10, hk10⟩
  rw [HM.out] at hs10 ⊢
  have z10 : w9.heap.size ≤ w10.heap.size := hk10.size
  have HV2 := Lib.hid (HV2.out.kp hk10 (fun g a b => by have := O2.out g a; have := O4.out g b; omega))
  have HK := Lib.hid (HK.out.after hk10 (fun g hg h2 => by have := O4.out g h2; omega))
  have HV4 := Lib.hid hs10
  clear hs10 hk10
  go_wp2_with fail
  refine (heldIntS_any _ 1 m _ HV4.out.rd (by omega) (by omega) (by omega)).mono ?_
  rintro e w11 ⟨rfl, rfl⟩
  go_wp2_with fail
  refine (toIntS_any _ nd xsd _ (HUd.out.nw HK.out) HNd.out hd).mono ?_
  rintro e w12 ⟨g12, rfl, hs12, hk12, hg12, hl12⟩
  have HZd := Lib.hid hs12
  have RHZd : Hid (w10.heap.size ≤ g12 ∧ g12 < w12.heap.size) := Lib.hid ⟨hg12, hl12⟩
  have HV2 := Lib.hid (HV2.out.below hk12.below')
  have HV4 := Lib.hid (HV4.out.below hk12.below')
  have HK := Lib.hid (HK.out.nw hk12)
  have z12 : w10.heap.size ≤ w12.heap.size := hk12.size
  clear hs12 hk12 hg12 hl12
  go_wp2_with fail
  refine (hI.out g12 _ _ HZd.out).mono ?_
  rintro e w13 ⟨v13, rfl, hs13, hk13⟩
  obtain ⟨A13, c13, rfl⟩ := hs13.val HM.out
  have HV13 := Lib.hid hs13
  have O13 : Hid (∀ g, (Value.slice A13 m c13).ownBlock = some g → w12.heap.size ≤ g ∧ g < w13.heap.size) := Lib.hid hs13.own_ge
  have HV2 := Lib.hid (HV2.out.below hk13.below')
  have HV4 := Lib.hid (HV4.out.below hk13.below')
  have HZd := Lib.hid (HZd.out.kq hk13 (fun h => h))
  have HK := Lib.hid (HK.out.nw hk13)
  have z13 : w12.heap.size ≤ w13.heap.size := hk13.size
  clear hs13 hk13
  go_wp2_with fail
  refine (eqIntS_same _ _ zs _ HV13.out.rd HV2.out.rd HL.out).mono ?_
  rintro e w14 ⟨rfl, d14, hd14⟩
  have hk14 : Kp Nw w13 w14 := by rw [hd14]; exact (Kp.refl _ _).drewN d14
  have z14 : w13.heap.size ≤ w14.heap.size := hk14.size
  clear hd14
  have HV2 := Lib.hid (HV2.out.below hk14.below')
  have HV4 := Lib.hid (HV4.out.below hk14.below')
  have HV13 := Lib.hid (HV13.out.below hk14.below')
  have HK := Lib.hid (HK.out.nw hk14)
  clear hk14
  go_wp2_with fail
  refine (heldIntS_any _ 1 m _ HV4.out.rd (by omega) (by omega) (by omega)).mono ?_
  rintro e wl ⟨rfl, rfl⟩
  go_wp2
  go_ret
  exact ⟨rfl, HK.out⟩
end Go.Proofs.Ytdehkehjbmnllab
namespace Go.Proofs.Ytdehkehjbmnllab
open Go.ChangeShapes Go.WideShapes Go.ChangeAt Go.RowKit

set_option maxHeartbeats 800000 in
theorem lawMongeDeck_bigd (Ad : Option Addr) (nd cd : Nat) (W : World) (hmd : nd ≤ maxLen) (hb : 1048576 < nd) :
    Calls Try.prog 6 #[.slice Ad nd cd] W fun e w' => e = .returned (.bool true) ∧ Kp Nw W w' := by
  have hb2 : (1048576 : Int) < nd := by omega
  have hb3 : (nd : Int) ≤ 9223372036854775807 := by unfold maxLen at hmd; omega
  go_enter Try.func6, Try.ntmps6
  go_wp2
  go_ret
  exact ⟨rfl, Kp.refl _ _⟩

set_option maxHeartbeats 3200000 in
set_option maxRecDepth 100000 in
theorem lawMongeDeck_of (Ad : Option Addr) (nd cd : Nat) (xsd : List Int) (zs : List Int) (b : Bool) (W : World) (hud : Rd W (.slice Ad nd cd) xsd) (hnd : xsd.length = nd) (hd : nd ≤ 1048576) (hlen : zs.length ≤ 1000000)
    (hS : Hid (∀ (gd Bd : Nat) (W : World), SlAt W Bd gd nd nd xsd → Calls Try.prog 17 #[.slice (some ⟨gd, 0, none⟩) nd nd] W (ListB W zs b))) (hI : Hid (∀ (gd Bd : Nat) (W : World), SlAt W Bd gd nd nd xsd → Calls Try.prog 18 #[.slice (some ⟨gd, 0, none⟩) nd nd] W (ListB W zs b))) :
    Calls Try.prog 6 #[.slice Ad nd cd] W fun e w' => e = .returned (.bool true) ∧ Kp Nw W w' := by
  obtain ⟨m, hm⟩ : ∃ m, zs.length = m := ⟨_, rfl⟩
  have HL : Hid (zs.length ≤ maxLen) := Lib.hid (by unfold maxLen; omega)
  have hlen : m ≤ 1000000 := by omega
  have hm0 : (0 : Int) ≤ m := Int.natCast_nonneg _
  have HM := Lib.hid hm
  clear hm
  have HUd := Lib.hid hud
  have HNd := Lib.hid hnd
  have HLXd : Hid (xsd.length ≤ maxLen) := Lib.hid (by unfold maxLen; omega)
  have n0d : (0 : Int) ≤ nd := Int.natCast_nonneg _
  have q1d : (nd : Int) ≤ 1048576 := by omega
  clear hud hnd
  have HK := Lib.hid (Kp.refl Nw W)
  go_enter Try.func6, Try.ntmps6
  go_wp2_with fail
  refine (toIntS_any _ nd xsd _ (HUd.out.nw HK.out) HNd.out hd).mono ?_
  rintro e w1 ⟨g1, rfl, hs1, hk1, hg1, hl1⟩
  have HTd := Lib.hid hs1
  have RHTd : Hid (W.heap.size ≤ g1 ∧ g1 < w1.heap.size) := Lib.hid ⟨hg1, hl1⟩
  have HK := Lib.hid (HK.out.nw hk1)
  have z1 : W.heap.size ≤ w1.heap.size := hk1.size
  clear hs1 hk1 hg1 hl1
  go_wp2_with fail
  refine (hS.out g1 _ _ HTd.out).mono ?_
  rintro e w2 ⟨v2, rfl, hs2, hk2⟩
  obtain ⟨A2, c2, rfl⟩ := hs2.val HM.out
  have HV2 := Lib.hid hs2
  have O2 : Hid (∀ g, (Value.slice A2 m c2).ownBlock = some g → w1.heap.size ≤ g ∧ g < w2.heap.size) := Lib.hid hs2.own_ge
  have HTd := Lib.hid (HTd.out.kq hk2 (fun h => h))
  have HK := Lib.hid (HK.out.nw hk2)
  have z2 : w1.heap.size ≤ w2.heap.size := hk2.size
  clear hs2 hk2
  go_wp2_with fail
  refine (toIntS_any _ nd xsd _ (HUd.out.nw HK.out) HNd.out hd).mono ?_
  rintro e w3 ⟨g3, rfl, hs3, hk3, hg3, hl3⟩
  have HXd := Lib.hid hs3
  have RHXd : Hid (w2.heap.size ≤ g3 ∧ g3 < w3.heap.size) := Lib.hid ⟨hg3, hl3⟩
  have HV2 := Lib.hid (HV2.out.below hk3.below')
  have HK := Lib.hid (HK.out.nw hk3)
  have z3 : w2.heap.size ≤ w3.heap.size := hk3.size
  clear hs3 hk3 hg3 hl3
  go_wp2_with fail
  refine (hI.out g3 _ _ HXd.out).mono ?_
  rintro e w4 ⟨v4, rfl, hs4, hk4⟩
  obtain ⟨A4, c4, rfl⟩ := hs4.val HM.out
  have HV4 := Lib.hid hs4
  have O4 : Hid (∀ g, (Value.slice A4 m c4).ownBlock = some g → w3.heap.size ≤ g ∧ g < w4.heap.size) := Lib.hid hs4.own_ge
  have HV2 := Lib.hid (HV2.out.below hk4.below')
  have HXd := Lib.hid (HXd.out.kq hk4 (fun h => h))
  have HK := Lib.hid (HK.out.nw hk4)
  have z4 : w3.heap.size ≤ w4.heap.size := hk4.size
  clear hs4 hk4
  go_wp2_with fail
  refine (eqIntS_same _ _ zs _ HV4.out.rd HV2.out.rd HL.out).mono ?_
  rintro e w5 ⟨rfl, d5, hd5⟩
  have hk5 : Kp Nw w4 w5 := by rw [hd5]; exact (Kp.refl _ _).drewN d5
  have z5 : w4.heap.size ≤ w5.heap.size := hk5.size
  clear hd5
  have HV2 := Lib.hid (HV2.out.below hk5.below')
  have HXd := Lib.hid (HXd.out.kq hk5 (fun h => h))
  have HV4 := Lib.hid (HV4.out.below hk5.below')
  have HK := Lib.hid (HK.out.nw hk5)
  clear hk5
  go_wp2_with fail
  refine (toIntS_any _ nd xsd _ (HUd.out.nw HK.out) HNd.out hd).mono ?_
  rintro e w6 ⟨g6, rfl, hs6, hk6, hg6, hl6⟩
  have HYd := Lib.hid hs6
  have RHYd : Hid (w5.heap.size ≤ g6 ∧ g6 < w6.heap.size) := Lib.hid ⟨hg6, hl6⟩
  have HV2 := Lib.hid (HV2.out.below hk6.below')
  have HXd := Lib.hid (HXd.out.kq hk6 (fun h => h))
  have HV4 := Lib.hid (HV4.out.below hk6.below')
  have HK := Lib.hid (HK.out.nw hk6)
  have z6 : w5.heap.size ≤ w6.heap.size := hk6.size
  clear hs6 hk6 hg6 hl6
  go_wp2_with fail
  refine (eqIntS_same _ _ xsd _ HXd.out.sl.rd HYd.out.sl.rd HLXd.out).mono ?_
  rintro e w7 ⟨rfl, d7, hd7⟩
  have hk7 : Kp Nw w6 w7 := by rw [hd7]; exact (Kp.refl _ _).drewN d7
  have z7 : w6.heap.size ≤ w7.heap.size := hk7.size
  clear hd7
  have HV2 := Lib.hid (HV2.out.below hk7.below')
  have HXd := Lib.hid (HXd.out.kq hk7 (fun h => h))
  have HV4 := Lib.hid (HV4.out.below hk7.below')
  have HYd := Lib.hid (HYd.out.kq hk7 (fun h => h))
  have HK := Lib.hid (HK.out.nw hk7)
  clear hk7
  go_wp2_with fail
  refine (markIntS_any _ xsd (1) _ _ HXd.out.sl (by omega) (by omega) (by rw [HNd.out]; omega)).mono ?_
  rintro e w8 ⟨rfl, _, hk8⟩
  rw [HNd.out]
  have z8 : w7.heap.size ≤ w8.heap.size := hk8.size
  have Md : Hid (∀ g, (Value.slice (some ⟨g3, 0, none⟩) nd nd).ownBlock = some g → w2.heap.size ≤ g ∧ g < w3.heap.size) := Lib.hid (fun g hg => by
    have e9 : g = g3 := by simp [Value.ownBlock] at hg; omega
    rw [e9]; exact RHXd.out)
  have HV2 := Lib.hid (HV2.out.kp hk8 (fun g a b => by have := O2.out g a; have := Md.out g b; omega))
  have HV4 := Lib.hid (HV4.out.kp hk8 (fun g a b => by have := O4.out g a; have := Md.out g b; omega))
  have HK := Lib.hid (HK.out.after hk8 (fun g hg h2 => by have := Md.out g h2; omega))
  clear hk8
  go_wp2_with fail
  refine (eqIntS_same _ _ zs _ HV4.out.rd HV2.out.rd HL.out).mono ?_
  rintro e w9 ⟨rfl, d9, hd9⟩
  have hk9 : Kp Nw w8 w9 := by rw [hd9]; exact (Kp.refl _ _).drewN d9
  have z9 : w8.heap.size ≤ w9.heap.size := hk9.size
  clear hd9
  have HV2 := Lib.hid (HV2.out.below hk9.below')
  have HV4 := Lib.hid (HV4.out.below hk9.below')
  have HK := Lib.hid (HK.out.nw hk9)
  clear hk9
  go_wp2_with fail
  refine (markIntS_any _ zs 1 _ _ HV4.out (by omega) (by omega) (by rw [HM.out]; omega)).mono ?_
  rintro e w10 ⟨rfl, hs10, hk10⟩
  rw [HM.out] at hs10 ⊢
  have z10 : w9.heap.size ≤ w10.heap.size := hk10.size
  have HV2 := Lib.hid (HV2.out.kp hk10 (fun g a b => by have := O2.out g a; have := O4.out g b; omega))
  have HK := Lib.hid (HK.out.after hk10 (fun g hg h2 => by have := O4.out g h2; omega))
  have HV4 := Lib.hid hs10
  clear hs10 hk10
  go_wp2_with fail
  refine (heldIntS_any _ 1 m _ HV4.out.rd (by omega) (by omega) (by omega)).mono ?_
  rintro e w11 ⟨rfl, rfl⟩
  go_wp2_with fail
  refine (toIntS_any _ nd xsd _ (HUd.out.nw HK.out) HNd.out hd).mono ?_
  rintro e w12 ⟨g12, rfl, hs12, hk12, hg12, hl12⟩
  have HZd := Lib.hid hs12
  have RHZd : Hid (w10.heap.size ≤ g12 ∧ g12 < w12.heap.size) := Lib.hid ⟨hg12, hl12⟩
  have HV2 := Lib.hid (HV2.out.below hk12.below')
  have HV4 := Lib.hid (HV4.out.below hk12.below')
  have HK := Lib.hid (HK.out.nw hk12)
  have z12 : w10.heap.size ≤ w12.heap.size := hk12.size
  clear hs12 hk12 hg12 hl12
  go_wp2_with fail
  refine (hI.out g12 _ _ HZd.out).mono ?_
  rintro e w13 ⟨v13, rfl, hs13, hk13⟩
  obtain ⟨A13, c13, rfl⟩ := hs13.val HM.out
  have HV13 := Lib.hid hs13
  have O13 : Hid (∀ g, (Value.slice A13 m c13).ownBlock = some g → w12.heap.size ≤ g ∧ g < w13.heap.size) := Lib.hid hs13.own_ge
  have HV2 := Lib.hid (HV2.out.below hk13.below')
  have HV4 := Lib.hid (HV4.out.below hk13.below')
  have HZd := Lib.hid (HZd.out.kq hk13 (fun h => h))
  have HK := Lib.hid (HK.out.nw hk13)
  have z13 : w12.heap.size ≤ w13.heap.size := hk13.size
  clear hs13 hk13
  go_wp2_with fail
  refine (eqIntS_same _ _ zs _ HV13.out.rd HV2.out.rd HL.out).mono ?_
  rintro e w14 ⟨rfl, d14, hd14⟩
  have hk14 : Kp Nw w13 w14 := by rw [hd14]; exact (Kp.refl _ _).drewN d14
  have z14 : w13.heap.size ≤ w14.heap.size := hk14.size
  clear hd14
  have HV2 := Lib.hid (HV2.out.below hk14.below')
  have HV4 := Lib.hid (HV4.out.below hk14.below')
  have HV13 := Lib.hid (HV13.out.below hk14.below')
  have HK := Lib.hid (HK.out.nw hk14)
  clear hk14
  go_wp2_with fail
  refine (heldIntS_any _ 1 m _ HV4.out.rd (by omega) (by omega) (by omega)).mono ?_
  rintro e wl ⟨rfl, rfl⟩
  go_wp2
  go_ret
  exact ⟨rfl, HK.out⟩
end Go.Proofs.Ytdehkehjbmnllab
namespace Go.Proofs.Ytdehkehjbmnllab
open Go.ChangeShapes Go.WideShapes Go.ChangeAt Go.RowKit

set_option maxHeartbeats 3200000 in
set_option maxRecDepth 100000 in
theorem lawShufflesToReturn_of (p : Int) (u : Int) (z : Int) (b : Bool) (W : World)
    (hS : Hid (∀ (W : World), Calls Try.prog 13 #[.int .i64 p, .int .i64 u] W (IntB W z b))) (hI : Hid (∀ (W : World), Calls Try.prog 14 #[.int .i64 p, .int .i64 u] W (IntB W z b))) :
    Calls Try.prog 4 #[.int .i64 p, .int .i64 u] W fun e w' => e = .returned (.bool true) ∧ Kp Nw W w' := by
  have HK := Lib.hid (Kp.refl Nw W)
  go_enter Try.func4, Try.ntmps4
  go_wp2_with fail
  refine (hS.out _ ).mono ?_
  rintro e w1 ⟨rfl, hk1⟩
  have HK := Lib.hid (HK.out.nw hk1)
  have z1 : W.heap.size ≤ w1.heap.size := hk1.size
  clear hk1
  go_wp2_with fail
  refine (hI.out _ ).mono ?_
  rintro e w2 ⟨rfl, hk2⟩
  have HK := Lib.hid (HK.out.nw hk2)
  have z2 : w1.heap.size ≤ w2.heap.size := hk2.size
  clear hk2
  go_wp2
  go_ret
  exact ⟨rfl, HK.out⟩
end Go.Proofs.Ytdehkehjbmnllab
namespace Go.Proofs.Ytdehkehjbmnllab
open Go.ChangeShapes Go.WideShapes Go.ChangeAt Go.RowKit
theorem lawBackDeck (A : Option Addr) (n c : Nat) (xs : List Int) (W : World) (hu : Rd W (.slice A n c) xs) (hn : xs.length = n) (hm : n ≤ maxLen)
    (hI : ∀ (g B : Nat) (W : World), n ≤ 1048576 → SlAt W B g n n xs → Calls Try.prog 16 #[.slice (some ⟨g, 0, none⟩) n n] W (ListB W (vBackDeck xs ).1 (vBackDeck xs ).2)) :
    Calls Try.prog 5 #[.slice A n c] W fun e w' => e = .returned (.bool true) ∧ Kp Nw W w' := by
  by_cases hl : n ≤ 1048576
  · exact lawBackDeck_of A n c xs  _ _ W hu hn hl (vBackDeck_len xs ) (Lib.hid fun g B W hs => sBackDeck_all g n B xs  W hs hl) (Lib.hid fun g B W hs => hI g B W hl hs)
  · exact lawBackDeck_bigd A n c  W hm (by omega)

theorem lawMilkDeck (A : Option Addr) (n c : Nat) (xs : List Int) (W : World) (hu : Rd W (.slice A n c) xs) (hn : xs.length = n) (hm : n ≤ maxLen)
    (hI : ∀ (g B : Nat) (W : World), n ≤ 1048576 → SlAt W B g n n xs → Calls Try.prog 9 #[.slice (some ⟨g, 0, none⟩) n n] W (ListB W (vMilkDeck xs ).1 (vMilkDeck xs ).2)) :
    Calls Try.prog 3 #[.slice A n c] W fun e w' => e = .returned (.bool true) ∧ Kp Nw W w' := by
  by_cases hl : n ≤ 1048576
  · exact lawMilkDeck_of A n c xs  _ _ W hu hn hl (vMilkDeck_len xs ) (Lib.hid fun g B W hs => sMilkDeck_all g n B xs  W hs hl) (Lib.hid fun g B W hs => hI g B W hl hs)
  · exact lawMilkDeck_bigd A n c  W hm (by omega)

theorem lawMongeDeck (A : Option Addr) (n c : Nat) (xs : List Int) (W : World) (hu : Rd W (.slice A n c) xs) (hn : xs.length = n) (hm : n ≤ maxLen)
    (hI : ∀ (g B : Nat) (W : World), n ≤ 1048576 → SlAt W B g n n xs → Calls Try.prog 18 #[.slice (some ⟨g, 0, none⟩) n n] W (ListB W (vMongeDeck xs ).1 (vMongeDeck xs ).2)) :
    Calls Try.prog 6 #[.slice A n c] W fun e w' => e = .returned (.bool true) ∧ Kp Nw W w' := by
  by_cases hl : n ≤ 1048576
  · exact lawMongeDeck_of A n c xs  _ _ W hu hn hl (vMongeDeck_len xs ) (Lib.hid fun g B W hs => sMongeDeck_all g n B xs  W hs hl) (Lib.hid fun g B W hs => hI g B W hl hs)
  · exact lawMongeDeck_bigd A n c  W hm (by omega)

theorem str_list (t : ByteArray) : t = ⟨t.data.toList.toArray⟩ := by cases t; simp
theorem lawShufflesToReturn (p u : Int) (W : World)
    (hI : ∀ (W : World), Calls Try.prog 14 #[.int .i64 p, .int .i64 u] W (IntB W (vShufflesToReturn p u).1 (vShufflesToReturn p u).2)) :
    Calls Try.prog 4 #[.int .i64 p, .int .i64 u] W fun e w' => e = .returned (.bool true) ∧ Kp Nw W w' :=
  lawShufflesToReturn_of p u _ _ W (Lib.hid fun W => sShufflesToReturn_all p u W) (Lib.hid hI)
end Go.Proofs.Ytdehkehjbmnllab
