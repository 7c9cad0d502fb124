/- The rounds when two count, as plain mathematics: who is chosen, who is left, where both go on; no condition. -/
import Derived.Test.YtcfghaeogbimeaaRot
namespace Go.Proofs.Ytcfghaeogbimeaa

/-- where he stands who is chosen, counted from an index on -/
def rj (f : Int) (i n : Nat) : Nat := (i + place f n) % n
theorem rj_lt (f : Int) (i n : Nat) (h : 0 < n) : rj f i n < n := Nat.mod_lt _ h
/-- who is left without two of them -/
def cutR (l : List Int) (a c : Int) : List Int := l.filter (fun x => !(x == a) && !(x == c))
/-- where the next count begins, of n people, behind the one at index j, if the one at index p goes as well -/
def idx2 (n j p : Nat) : Nat := if p = j then j % (n - 1) else (j - (if p < j then 1 else 0)) % (n - 2)
/-- the rounds, for so many turns at most -/
def rnds (f b : Int) : Nat → List Int → Nat → Nat → List (Int × Int)
  | 0, _, _, _ => []
  | t + 1, l, i, i' => if l.length = 0 then [] else
      (l.getD (rj f i l.length) 0, l.getD (l.length - 1 - rj b i' l.length) 0) ::
        rnds f b t (cutR l (l.getD (rj f i l.length) 0) (l.getD (l.length - 1 - rj b i' l.length) 0)) (idx2 l.length (rj f i l.length) (l.length - 1 - rj b i' l.length)) (idx2 l.length (rj b i' l.length) (l.length - 1 - rj f i l.length))
/-- strictly increasing -/
def Inc (l : List Int) : Prop := ∀ i j, i < j → j < l.length → l.getD i 0 < l.getD j 0

/-- each value once -/
def Ds (l : List Int) : Prop := ∀ i k, i < k → k < l.length → l.getD i 0 ≠ l.getD k 0
theorem Inc.ds {l : List Int} (h : Inc l) : Ds l := fun i k a b => by have := h i k a b; omega
theorem getD_inj {l : List Int} (h : Inc l) {i j : Nat} (hi : i < l.length) (hj : j < l.length) (e : l.getD i 0 = l.getD j 0) : i = j := by
  rcases Nat.lt_trichotomy i j with h1 | h1 | h1
  · have := h i j h1 hj; omega
  · exact h1
  · have := h j i h1 hi; omega

theorem getD_reverse (l : List Int) (k : Nat) (h : k < l.length) : l.reverse.getD k 0 = l.getD (l.length - 1 - k) 0 := by
  simp only [List.getD]
  rw [List.getElem?_reverse h]

theorem getD_erase (l : List Int) (j k : Nat) : (l.eraseIdx j).getD k 0 = if k < j then l.getD k 0 else l.getD (k + 1) 0 := by
  simp only [List.getD, List.getElem?_eraseIdx]
  split <;> rfl
theorem erase_len (l : List Int) (j : Nat) (h : j < l.length) : (l.eraseIdx j).length = l.length - 1 := by rw [List.length_eraseIdx, if_pos h]

/-- one value struck out of a list that has it once -/
theorem filter_erase : ∀ (l : List Int) (j : Nat), j < l.length → (∀ i k, i < k → k < l.length → l.getD i 0 ≠ l.getD k 0) → l.filter (fun x => !(x == l.getD j 0)) = l.eraseIdx j
  | [], j, h, _ => by simp at h
  | x :: r, 0, _, hd => by
    have hn : ∀ y ∈ r, (!(y == x)) = true := by
      intro y hy
      obtain ⟨k, hk, rfl⟩ := List.getElem_of_mem hy
      have := hd 0 (k + 1) (by omega) (by simp; omega)
      simp [List.getD, hk] at this
      simpa using fun e => this e.symm
    rw [List.eraseIdx_cons_zero, List.filter_cons]
    simp only [List.getD_cons_zero, BEq.rfl, Bool.not_true]
    rw [if_neg (by simp)]
    exact List.filter_eq_self.2 hn
  | x :: r, j + 1, h, hd => by
    have ih := filter_erase r j (by simpa using h) (fun i k hik hk => by
      have := hd (i + 1) (k + 1) (by omega) (by simpa using hk)
      simpa using this)
    have hx : (!(x == r.getD j 0)) = true := by
      have := hd 0 (j + 1) (by omega) h
      simp only [List.getD_cons_zero, List.getD_cons_succ] at this
      simpa using this
    rw [List.getD_cons_succ, List.filter_cons, if_pos hx, ih, List.eraseIdx_cons_succ]

theorem cut_one (l : List Int) (h : Ds l) (j : Nat) (hj : j < l.length) : cutR l (l.getD j 0) (l.getD j 0) = l.eraseIdx j := by
  unfold cutR
  rw [← filter_erase l j hj h]
  congr 1
  funext x
  simp
theorem Ds.erase {l : List Int} (h : Ds l) (j : Nat) (hj : j < l.length) : Ds (l.eraseIdx j) := by
  intro i k a b
  rw [erase_len l j hj] at b
  rw [getD_erase, getD_erase]
  by_cases c1 : i < j
  · by_cases c2 : k < j
    · rw [if_pos c1, if_pos c2]; exact h i k a (by omega)
    · rw [if_pos c1, if_neg c2]; exact h i (k + 1) (by omega) (by omega)
  · rw [if_neg c1, if_neg (by omega)]; exact h (i + 1) (k + 1) (by omega) (by omega)
theorem erase_other (l : List Int) (j p : Nat) (hne : p ≠ j) : (l.eraseIdx j).getD (if p < j then p else p - 1) 0 = l.getD p 0 := by
  rw [getD_erase]
  by_cases c : p < j
  · rw [if_pos c, if_pos c]
  · rw [if_neg c, if_neg (by omega), show p - 1 + 1 = p by omega]
/-- two different ones -/
theorem cut_two (l : List Int) (h : Ds l) (j p : Nat) (hj : j < l.length) (hp : p < l.length) (hne : p ≠ j) : cutR l (l.getD j 0) (l.getD p 0) = (l.eraseIdx j).eraseIdx (if p < j then p else p - 1) := by
  have h1 := filter_erase l j hj h
  have hlen := erase_len l j hj
  have h2 := filter_erase (l.eraseIdx j) (if p < j then p else p - 1) (by rw [hlen]; split <;> omega) (h.erase j hj)
  rw [erase_other l j p hne, ← h1, List.filter_filter] at h2
  rw [← h1, ← h2]
  unfold cutR
  congr 1
  funext x
  exact Bool.and_comm _ _
theorem Ds.reverse {l : List Int} (h : Ds l) : Ds l.reverse := by
  intro i k a b
  rw [List.length_reverse] at b
  rw [getD_reverse l i (by omega), getD_reverse l k b]
  exact fun e => h (l.length - 1 - k) (l.length - 1 - i) (by omega) (by omega) e.symm
theorem cutR_comm (l : List Int) (a c : Int) : cutR l a c = cutR l c a := by
  unfold cutR
  congr 1
  funext x
  exact Bool.and_comm _ _
theorem cutR_reverse (l : List Int) (a c : Int) : cutR l.reverse a c = (cutR l a c).reverse := by unfold cutR; rw [List.filter_reverse]
theorem Inc.filter : ∀ {l : List Int} (q : Int → Bool), Inc l → Inc (l.filter q) := by
  intro l q h
  have hp : l.Pairwise (· < ·) := by
    rw [List.pairwise_iff_getElem]
    intro i j hi hj hij
    have := h i j hij hj
    simpa [List.getD, hi, hj] using this
  have hq := hp.filter q
  rw [List.pairwise_iff_getElem] at hq
  intro i j hij hj
  have := hq i j (by omega) hj hij
  simpa [List.getD, hj, show i < (l.filter q).length by omega] using this
theorem Inc.cut {l : List Int} (h : Inc l) (a c : Int) : Inc (cutR l a c) := h.filter _

/-- how many are left -/
theorem cut_len (l : List Int) (h : Inc l) (j p : Nat) (hj : j < l.length) (hp : p < l.length) : (cutR l (l.getD j 0) (l.getD p 0)).length = if p = j then l.length - 1 else l.length - 2 := by
  by_cases e : p = j
  · subst e
    rw [if_pos rfl, cut_one l h.ds p hp, erase_len l p hp]
  · rw [if_neg e, cut_two l h.ds j p hj hp e, erase_len _ _ (by rw [erase_len l j hj]; split <;> omega), erase_len l j hj]
    omega
/-- the one at an index of those who are left -/
theorem cut_getD (l : List Int) (h : Inc l) (j p x : Nat) (hj : j < l.length) (hp : p < l.length) (hne : p ≠ j) : (cutR l (l.getD j 0) (l.getD p 0)).getD x 0 = l.getD (if x < min j p then x else if x + 1 < max j p then x + 1 else x + 2) 0 := by
  rw [cut_two l h.ds j p hj hp hne, getD_erase, getD_erase, getD_erase]
  by_cases c : p < j
  · rw [if_pos c]
    by_cases c1 : x < p
    · rw [if_pos c1, if_pos (by omega), if_pos (by omega)]
    · rw [if_neg c1, if_neg (by omega : ¬ x < min j p)]
      by_cases c2 : x + 1 < j
      · rw [if_pos c2, if_pos (by omega)]
      · rw [if_neg c2, if_neg (by omega)]
  · rw [if_neg c]
    by_cases c1 : x < p - 1
    · rw [if_pos c1]
      by_cases c2 : x < j
      · rw [if_pos c2, if_pos (by omega)]
      · rw [if_neg c2, if_neg (by omega), if_pos (by omega)]
    · rw [if_neg c1, if_neg (by omega : ¬ x + 1 < j), if_neg (by omega), if_neg (by omega)]

/-- those ahead of the place where the forward count goes on are less than the one who was chosen, the one there is greater -/
theorem cut_fwd (l : List Int) (h : Inc l) (j p : Nat) (hj : j < l.length) (hp : p < l.length) :
    (∀ x, x < j - (if p < j then 1 else 0) → (cutR l (l.getD j 0) (l.getD p 0)).getD x 0 < l.getD j 0) ∧
    (∀ x, j - (if p < j then 1 else 0) ≤ x → x < (cutR l (l.getD j 0) (l.getD p 0)).length → l.getD j 0 < (cutR l (l.getD j 0) (l.getD p 0)).getD x 0) := by
  have hl := cut_len l h j p hj hp
  by_cases e : p = j
  · subst e
    rw [if_pos rfl] at hl
    rw [cut_one l h.ds p hp] at hl ⊢
    rw [if_neg (by omega)]
    refine ⟨fun x hx => ?_, fun x h1 h2 => ?_⟩
    · rw [getD_erase, if_pos (by omega)]; exact h _ _ (by omega) (by omega)
    · rw [getD_erase, if_neg (by omega)]; exact h _ _ (by omega) (by omega)
  · rw [if_neg e] at hl
    refine ⟨fun x hx => ?_, fun x h1 h2 => ?_⟩
    · rw [cut_getD l h j p x hj hp e]
      split at hx
      · split
        · exact h _ _ (by omega) (by omega)
        · rw [if_pos (by omega)]; exact h _ _ (by omega) (by omega)
      · rw [if_pos (by omega)]; exact h _ _ (by omega) (by omega)
    · rw [hl] at h2
      rw [cut_getD l h j p x hj hp e]
      split at h1
      · rw [if_neg (by omega), if_neg (by omega)]; exact h _ _ (by omega) (by omega)
      · rw [if_neg (by omega)]
        split
        · exact h _ _ (by omega) (by omega)
        · exact h _ _ (by omega) (by omega)
/-- the same for the backward count -/
theorem cut_bwd (l : List Int) (h : Inc l) (j p : Nat) (hj : j < l.length) (hp : p < l.length) :
    (∀ x, x < p - (if j < p then 1 else 0) → (cutR l (l.getD j 0) (l.getD p 0)).getD x 0 < l.getD p 0) ∧
    (∀ x, p - (if j < p then 1 else 0) ≤ x → x < (cutR l (l.getD j 0) (l.getD p 0)).length → l.getD p 0 < (cutR l (l.getD j 0) (l.getD p 0)).getD x 0) := by
  have := cut_fwd l h p j hp hj
  rw [cutR_comm] at this
  exact this

theorem rnds_mem (f b : Int) : ∀ (t : Nat) (l : List Int) (i i' : Nat) (_ : Inc l) (_ : l.length ≤ t) (x : Int), x ∈ l → ∃ r ∈ rnds f b t l i i', r.1 = x ∨ r.2 = x
  | 0, l, i, i', _, hl, x, hx => by
    rw [List.eq_nil_of_length_eq_zero (by omega : l.length = 0)] at hx
    cases hx
  | t + 1, l, i, i', hi, hl, x, hx => by
    have h0 : l.length ≠ 0 := fun e => by rw [List.eq_nil_of_length_eq_zero e] at hx; cases hx
    rw [rnds, if_neg h0]
    obtain ⟨a, ha⟩ : ∃ a, l.getD (rj f i l.length) 0 = a := ⟨_, rfl⟩
    obtain ⟨c, hc⟩ : ∃ c, l.getD (l.length - 1 - rj b i' l.length) 0 = c := ⟨_, rfl⟩
    have hcl := cut_len l hi (rj f i l.length) (l.length - 1 - rj b i' l.length) (rj_lt _ _ _ (by omega)) (by omega)
    rw [ha, hc] at hcl ⊢
    by_cases h1 : x = a
    · exact ⟨_, List.mem_cons_self, .inl h1.symm⟩
    · by_cases h2 : x = c
      · exact ⟨_, List.mem_cons_self, .inr h2.symm⟩
      · have hm : x ∈ cutR l a c := by
          unfold cutR
          rw [List.mem_filter]
          exact ⟨hx, by simp [h1, h2]⟩
        obtain ⟨r, hr, h3⟩ := rnds_mem f b t _ (idx2 l.length (rj f i l.length) (l.length - 1 - rj b i' l.length)) (idx2 l.length (rj b i' l.length) (l.length - 1 - rj f i l.length)) (hi.cut a c) (by split at hcl <;> omega) x hm
        exact ⟨r, List.mem_cons_of_mem _ hr, h3⟩
theorem rnds_len (f b : Int) : ∀ (t : Nat) (l : List Int) (i i' : Nat), (rnds f b t l i i').length ≤ t
  | 0, _, _, _ => Nat.le_refl _
  | t + 1, l, i, i' => by
    rw [rnds]
    split
    · exact Nat.zero_le _
    · rw [List.length_cons]
      have := rnds_len f b t (cutR l (l.getD (rj f i l.length) 0) (l.getD (l.length - 1 - rj b i' l.length) 0)) (idx2 l.length (rj f i l.length) (l.length - 1 - rj b i' l.length)) (idx2 l.length (rj b i' l.length) (l.length - 1 - rj f i l.length))
      omega
theorem rnds_none (f b : Int) (t : Nat) (l : List Int) (i i' : Nat) (h : l.length = 0) : rnds f b t l i i' = [] := by
  cases t with
  | zero => rfl
  | succ t => rw [rnds, if_pos h]
theorem idx2_lt (n j p : Nat) (h1 : p = j → 0 < n - 1) (h2 : p ≠ j → 0 < n - 2) : idx2 n j p < (if p = j then n - 1 else n - 2) := by
  unfold idx2
  by_cases e : p = j
  · rw [if_pos e, if_pos e]; exact Nat.mod_lt _ (h1 e)
  · rw [if_neg e, if_neg e]; exact Nat.mod_lt _ (h2 e)
end Go.Proofs.Ytcfghaeogbimeaa
