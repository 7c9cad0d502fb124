/- The texts Pair, Lose, Cho, TwoI, SS, TwoS, as one. -/
import Derived.Test.YtcekobdnghllcabRot
import Derived.Test.YtcekobdnghllcabFwd
import Derived.Test.YtcekobdnghllcabAt
import Derived.Shelf.RegionOpenPlain
import Derived.Test.YtcekobdnghllcabDel
import Derived.Test.YtcekobdnghllcabLetGo
import Derived.Test.YtcekobdnghllcabMDk
import Derived.Laws.StructEq
import Derived.Test.YtcekobdnghllcabMake
import Derived.Test.YtcekobdnghllcabTurn
namespace Go.Proofs.Ytcekobdnghllcab

/-- where he stands who is chosen, counted from an index on -/
def rj (f : Int) (i n : Nat) : Nat := (i + place f n) % n
theorem rj_lt (f : Int) (i n : Nat) (h : 0 < n) : rj f i n < n := Nat.mod_lt _ h
/-- who is left without two of them -/
def cutR (l : List Int) (a c : Int) : List Int := l.filter (fun x => !(x == a) && !(x == c))
/-- where the next count begins, of n people, behind the one at index j, if the one at index p goes as well -/
def idx2 (n j p : Nat) : Nat := if p = j then j % (n - 1) else (j - (if p < j then 1 else 0)) % (n - 2)
/-- the rounds, for so many turns at most -/
def rnds (f b : Int) : Nat → List Int → Nat → Nat → List (Int × Int)
  | 0, _, _, _ => []
  | t + 1, l, i, i' => if l.length = 0 then [] else
      (l.getD (rj f i l.length) 0, l.getD (l.length - 1 - rj b i' l.length) 0) ::
        rnds f b t (cutR l (l.getD (rj f i l.length) 0) (l.getD (l.length - 1 - rj b i' l.length) 0)) (idx2 l.length (rj f i l.length) (l.length - 1 - rj b i' l.length)) (idx2 l.length (rj b i' l.length) (l.length - 1 - rj f i l.length))
/-- strictly increasing -/
def Inc (l : List Int) : Prop := ∀ i j, i < j → j < l.length → l.getD i 0 < l.getD j 0

/-- each value once -/
def Ds (l : List Int) : Prop := ∀ i k, i < k → k < l.length → l.getD i 0 ≠ l.getD k 0
theorem Inc.ds {l : List Int} (h : Inc l) : Ds l := fun i k a b => by have := h i k a b; omega
theorem getD_inj {l : List Int} (h : Inc l) {i j : Nat} (hi : i < l.length) (hj : j < l.length) (e : l.getD i 0 = l.getD j 0) : i = j := by
  rcases Nat.lt_trichotomy i j with h1 | h1 | h1
  · have := h i j h1 hj; omega
  · exact h1
  · have := h j i h1 hi; omega

theorem getD_reverse (l : List Int) (k : Nat) (h : k < l.length) : l.reverse.getD k 0 = l.getD (l.length - 1 - k) 0 := by
  simp only [List.getD]
  rw [List.getElem?_reverse h]

theorem getD_erase (l : List Int) (j k : Nat) : (l.eraseIdx j).getD k 0 = if k < j then l.getD k 0 else l.getD (k + 1) 0 := by
  simp only [List.getD, List.getElem?_eraseIdx]
  split <;> rfl
theorem erase_len (l : List Int) (j : Nat) (h : j < l.length) : (l.eraseIdx j).length = l.length - 1 := by rw [List.length_eraseIdx, if_pos h]

/-- one value struck out of a list that has it once -/
theorem filter_erase : ∀ (l : List Int) (j : Nat), j < l.length → (∀ i k, i < k → k < l.length → l.getD i 0 ≠ l.getD k 0) → l.filter (fun x => !(x == l.getD j 0)) = l.eraseIdx j
  | [], j, h, _ => by simp at h
  | x :: r, 0, _, hd => by
    have hn : ∀ y ∈ r, (!(y == x)) = true := by
      intro y hy
      obtain ⟨k, hk, rfl⟩ := List.getElem_of_mem hy
      have := hd 0 (k + 1) (by omega) (by simp; omega)
      simp [List.getD, hk] at this
      simpa using fun e => this e.symm
    rw [List.eraseIdx_cons_zero, List.filter_cons]
    simp only [List.getD_cons_zero, BEq.rfl, Bool.not_true]
    rw [if_neg (by simp)]
    exact List.filter_eq_self.2 hn
  | x :: r, j + 1, h, hd => by
    have ih := filter_erase r j (by simpa using h) (fun i k hik hk => by
      have := hd (i + 1) (k + 1) (by omega) (by simpa using hk)
      simpa using this)
    have hx : (!(x == r.getD j 0)) = true := by
      have := hd 0 (j + 1) (by omega) h
      simp only [List.getD_cons_zero, List.getD_cons_succ] at this
      simpa using this
    rw [List.getD_cons_succ, List.filter_cons, if_pos hx, ih, List.eraseIdx_cons_succ]

theorem cut_one (l : List Int) (h : Ds l) (j : Nat) (hj : j < l.length) : cutR l (l.getD j 0) (l.getD j 0) = l.eraseIdx j := by
  unfold cutR
  rw [← filter_erase l j hj h]
  congr 1
  funext x
  simp
theorem Ds.erase {l : List Int} (h : Ds l) (j : Nat) (hj : j < l.length) : Ds (l.eraseIdx j) := by
  intro i k a b
  rw [erase_len l j hj] at b
  rw [getD_erase, getD_erase]
  by_cases c1 : i < j
  · by_cases c2 : k < j
    · rw [if_pos c1, if_pos c2]; exact h i k a (by omega)
    · rw [if_pos c1, if_neg c2]; exact h i (k + 1) (by omega) (by omega)
  · rw [if_neg c1, if_neg (by omega)]; exact h (i + 1) (k + 1) (by omega) (by omega)
theorem erase_other (l : List Int) (j p : Nat) (hne : p ≠ j) : (l.eraseIdx j).getD (if p < j then p else p - 1) 0 = l.getD p 0 := by
  rw [getD_erase]
  by_cases c : p < j
  · rw [if_pos c, if_pos c]
  · rw [if_neg c, if_neg (by omega), show p - 1 + 1 = p by omega]
/-- two different ones -/
theorem cut_two (l : List Int) (h : Ds l) (j p : Nat) (hj : j < l.length) (hp : p < l.length) (hne : p ≠ j) : cutR l (l.getD j 0) (l.getD p 0) = (l.eraseIdx j).eraseIdx (if p < j then p else p - 1) := by
  have h1 := filter_erase l j hj h
  have hlen := erase_len l j hj
  have h2 := filter_erase (l.eraseIdx j) (if p < j then p else p - 1) (by rw [hlen]; split <;> omega) (h.erase j hj)
  rw [erase_other l j p hne, ← h1, List.filter_filter] at h2
  rw [← h1, ← h2]
  unfold cutR
  congr 1
  funext x
  exact Bool.and_comm _ _
theorem Ds.reverse {l : List Int} (h : Ds l) : Ds l.reverse := by
  intro i k a b
  rw [List.length_reverse] at b
  rw [getD_reverse l i (by omega), getD_reverse l k b]
  exact fun e => h (l.length - 1 - k) (l.length - 1 - i) (by omega) (by omega) e.symm
theorem cutR_comm (l : List Int) (a c : Int) : cutR l a c = cutR l c a := by
  unfold cutR
  congr 1
  funext x
  exact Bool.and_comm _ _
theorem cutR_reverse (l : List Int) (a c : Int) : cutR l.reverse a c = (cutR l a c).reverse := by unfold cutR; rw [List.filter_reverse]
theorem Inc.filter : ∀ {l : List Int} (q : Int → Bool), Inc l → Inc (l.filter q) := by
  intro l q h
  have hp : l.Pairwise (· < ·) := by
    rw [List.pairwise_iff_getElem]
    intro i j hi hj hij
    have := h i j hij hj
    simpa [List.getD, hi, hj] using this
  have hq := hp.filter q
  rw [List.pairwise_iff_getElem] at hq
  intro i j hij hj
  have := hq i j (by omega) hj hij
  simpa [List.getD, hj, show i < (l.filter q).length by omega] using this
theorem Inc.cut {l : List Int} (h : Inc l) (a c : Int) : Inc (cutR l a c) := h.filter _

/-- how many are left -/
theorem cut_len (l : List Int) (h : Inc l) (j p : Nat) (hj : j < l.length) (hp : p < l.length) : (cutR l (l.getD j 0) (l.getD p 0)).length = if p = j then l.length - 1 else l.length - 2 := by
  by_cases e : p = j
  · subst e
    rw [if_pos rfl, cut_one l h.ds p hp, erase_len l p hp]
  · rw [if_neg e, cut_two l h.ds j p hj hp e, erase_len _ _ (by rw [erase_len l j hj]; split <;> omega), erase_len l j hj]
    omega
/-- the one at an index of those who are left -/
theorem cut_getD (l : List Int) (h : Inc l) (j p x : Nat) (hj : j < l.length) (hp : p < l.length) (hne : p ≠ j) : (cutR l (l.getD j 0) (l.getD p 0)).getD x 0 = l.getD (if x < min j p then x else if x + 1 < max j p then x + 1 else x + 2) 0 := by
  rw [cut_two l h.ds j p hj hp hne, getD_erase, getD_erase, getD_erase]
  by_cases c : p < j
  · rw [if_pos c]
    by_cases c1 : x < p
    · rw [if_pos c1, if_pos (by omega), if_pos (by omega)]
    · rw [if_neg c1, if_neg (by omega : ¬ x < min j p)]
      by_cases c2 : x + 1 < j
      · rw [if_pos c2, if_pos (by omega)]
      · rw [if_neg c2, if_neg (by omega)]
  · rw [if_neg c]
    by_cases c1 : x < p - 1
    · rw [if_pos c1]
      by_cases c2 : x < j
      · rw [if_pos c2, if_pos (by omega)]
      · rw [if_neg c2, if_neg (by omega), if_pos (by omega)]
    · rw [if_neg c1, if_neg (by omega : ¬ x + 1 < j), if_neg (by omega), if_neg (by omega)]

/-- those ahead of the place where the forward count goes on are less than the one who was chosen, the one there is greater -/
theorem cut_fwd (l : List Int) (h : Inc l) (j p : Nat) (hj : j < l.length) (hp : p < l.length) :
    (∀ x, x < j - (if p < j then 1 else 0) → (cutR l (l.getD j 0) (l.getD p 0)).getD x 0 < l.getD j 0) ∧
    (∀ x, j - (if p < j then 1 else 0) ≤ x → x < (cutR l (l.getD j 0) (l.getD p 0)).length → l.getD j 0 < (cutR l (l.getD j 0) (l.getD p 0)).getD x 0) := by
  have hl := cut_len l h j p hj hp
  by_cases e : p = j
  · subst e
    rw [if_pos rfl] at hl
    rw [cut_one l h.ds p hp] at hl ⊢
    rw [if_neg (by omega)]
    refine ⟨fun x hx => ?_, fun x h1 h2 => ?_⟩
    · rw [getD_erase, if_pos (by omega)]; exact h _ _ (by omega) (by omega)
    · rw [getD_erase, if_neg (by omega)]; exact h _ _ (by omega) (by omega)
  · rw [if_neg e] at hl
    refine ⟨fun x hx => ?_, fun x h1 h2 => ?_⟩
    · rw [cut_getD l h j p x hj hp e]
      split at hx
      · split
        · exact h _ _ (by omega) (by omega)
        · rw [if_pos (by omega)]; exact h _ _ (by omega) (by omega)
      · rw [if_pos (by omega)]; exact h _ _ (by omega) (by omega)
    · rw [hl] at h2
      rw [cut_getD l h j p x hj hp e]
      split at h1
      · rw [if_neg (by omega), if_neg (by omega)]; exact h _ _ (by omega) (by omega)
      · rw [if_neg (by omega)]
        split
        · exact h _ _ (by omega) (by omega)
        · exact h _ _ (by omega) (by omega)
/-- the same for the backward count -/
theorem cut_bwd (l : List Int) (h : Inc l) (j p : Nat) (hj : j < l.length) (hp : p < l.length) :
    (∀ x, x < p - (if j < p then 1 else 0) → (cutR l (l.getD j 0) (l.getD p 0)).getD x 0 < l.getD p 0) ∧
    (∀ x, p - (if j < p then 1 else 0) ≤ x → x < (cutR l (l.getD j 0) (l.getD p 0)).length → l.getD p 0 < (cutR l (l.getD j 0) (l.getD p 0)).getD x 0) := by
  have := cut_fwd l h p j hp hj
  rw [cutR_comm] at this
  exact this

theorem rnds_mem (f b : Int) : ∀ (t : Nat) (l : List Int) (i i' : Nat) (_ : Inc l) (_ : l.length ≤ t) (x : Int), x ∈ l → ∃ r ∈ rnds f b t l i i', r.1 = x ∨ r.2 = x
  | 0, l, i, i', _, hl, x, hx => by
    rw [List.eq_nil_of_length_eq_zero (by omega : l.length = 0)] at hx
    cases hx
  | t + 1, l, i, i', hi, hl, x, hx => by
    have h0 : l.length ≠ 0 := fun e => by rw [List.eq_nil_of_length_eq_zero e] at hx; cases hx
    rw [rnds, if_neg h0]
    obtain ⟨a, ha⟩ : ∃ a, l.getD (rj f i l.length) 0 = a := ⟨_, rfl⟩
    obtain ⟨c, hc⟩ : ∃ c, l.getD (l.length - 1 - rj b i' l.length) 0 = c := ⟨_, rfl⟩
    have hcl := cut_len l hi (rj f i l.length) (l.length - 1 - rj b i' l.length) (rj_lt _ _ _ (by omega)) (by omega)
    rw [ha, hc] at hcl ⊢
    by_cases h1 : x = a
    · exact ⟨_, List.mem_cons_self, .inl h1.symm⟩
    · by_cases h2 : x = c
      · exact ⟨_, List.mem_cons_self, .inr h2.symm⟩
      · have hm : x ∈ cutR l a c := by
          unfold cutR
          rw [List.mem_filter]
          exact ⟨hx, by simp [h1, h2]⟩
        obtain ⟨r, hr, h3⟩ := rnds_mem f b t _ (idx2 l.length (rj f i l.length) (l.length - 1 - rj b i' l.length)) (idx2 l.length (rj b i' l.length) (l.length - 1 - rj f i l.length)) (hi.cut a c) (by split at hcl <;> omega) x hm
        exact ⟨r, List.mem_cons_of_mem _ hr, h3⟩
theorem rnds_len (f b : Int) : ∀ (t : Nat) (l : List Int) (i i' : Nat), (rnds f b t l i i').length ≤ t
  | 0, _, _, _ => Nat.le_refl _
  | t + 1, l, i, i' => by
    rw [rnds]
    split
    · exact Nat.zero_le _
    · rw [List.length_cons]
      have := rnds_len f b t (cutR l (l.getD (rj f i l.length) 0) (l.getD (l.length - 1 - rj b i' l.length) 0)) (idx2 l.length (rj f i l.length) (l.length - 1 - rj b i' l.length)) (idx2 l.length (rj b i' l.length) (l.length - 1 - rj f i l.length))
      omega
theorem rnds_none (f b : Int) (t : Nat) (l : List Int) (i i' : Nat) (h : l.length = 0) : rnds f b t l i i' = [] := by
  cases t with
  | zero => rfl
  | succ t => rw [rnds, if_pos h]
theorem idx2_lt (n j p : Nat) (h1 : p = j → 0 < n - 1) (h2 : p ≠ j → 0 < n - 2) : idx2 n j p < (if p = j then n - 1 else n - 2) := by
  unfold idx2
  by_cases e : p = j
  · rw [if_pos e, if_pos e]; exact Nat.mod_lt _ (h1 e)
  · rw [if_neg e, if_neg e]; exact Nat.mod_lt _ (h2 e)
end Go.Proofs.Ytcekobdnghllcab
namespace Go.Proofs.Ytcekobdnghllcab
open Go.ChangeShapes Go.WideShapes Go.ChangeAt Go.RowKit

theorem fndD_none (x : Int) : ∀ (xs : List Int) (j : Nat), x ∉ xs → fndD x xs j = -1
  | [], _, _ => rfl
  | y :: r, j, h => by
    rw [fndD, if_neg (fun e => h (by rw [e]; exact List.mem_cons_self)), fndD_none x r (j + 1) (fun e => h (List.mem_cons_of_mem _ e))]
theorem fndD_first (x : Int) : ∀ (xs : List Int) (t j : Nat), t < xs.length → xs.getD t 0 = x → (∀ i, i < t → xs.getD i 0 ≠ x) → fndD x xs j = ((j + t : Nat) : Int)
  | [], t, _, h, _, _ => by simp at h
  | y :: r, 0, j, _, h, _ => by
    simp at h
    rw [fndD, if_pos h]; rfl
  | y :: r, t + 1, j, hl, h, hn => by
    have h0 := hn 0 (by omega)
    simp at h0
    rw [fndD, if_neg h0, fndD_first x r t (j + 1) (by simpa using hl) (by simpa using h) (fun i hi => by have := hn (i + 1) (by omega); simpa using this)]
    congr 1
    omega
theorem snd_getD (ps : List (Int × Int)) (j : Nat) : (ps.map (·.2)).getD j 0 = (ps.getD j (0, 0)).2 := by
  simp only [List.getD, List.getElem?_map]
  cases ps[j]? <;> rfl
theorem snd_erase (ps : List (Int × Int)) (j : Nat) : (ps.eraseIdx j).map (·.2) = (ps.map (·.2)).eraseIdx j := by
  apply List.ext_getElem?
  intro k
  rw [List.getElem?_map, List.getElem?_eraseIdx, List.getElem?_eraseIdx]
  split <;> rw [List.getElem?_map]

/-- a list of which the first j and the last j are exchanged -/
def RevP (n : Nat) (xs ys : List Int) (j : Nat) : Prop := ys.length = n ∧ ∀ k, k < n → ys.getD k 0 = if k < j ∨ n - 1 - k < j then xs.getD (n - 1 - k) 0 else xs.getD k 0
theorem getD_set (ys : List Int) (i k : Nat) (a : Int) : (ys.set i a).getD k 0 = if i = k ∧ k < ys.length then a else ys.getD k 0 := by
  simp only [List.getD, List.getElem?_set]
  by_cases e : i = k
  · subst e
    by_cases h : i < ys.length
    · rw [if_pos rfl, if_pos h, if_pos ⟨rfl, h⟩]; rfl
    · rw [if_pos rfl, if_neg h, if_neg (fun x => h x.2), List.getElem?_eq_none (by omega)]
  · rw [if_neg e, if_neg (fun x => e x.1)]
theorem RevP.step {n : Nat} {xs ys : List Int} {j : Nat} (h : RevP n xs ys j) (hj : 2 * j + 1 < n) : RevP n xs ((ys.set j (ys.getD (n - 1 - j) 0)).set (n - 1 - j) (ys.getD j 0)) (j + 1) := by
  obtain ⟨hl, hg⟩ := h
  refine ⟨by simp [hl], fun k hk => ?_⟩
  rw [getD_set, getD_set, List.length_set, hl]
  by_cases e1 : n - 1 - j = k
  · rw [if_pos ⟨e1, hk⟩, hg j (by omega), if_neg (by omega), if_pos (by omega)]
    congr 1
    omega
  · rw [if_neg (fun x => e1 x.1)]
    by_cases e2 : j = k
    · rw [if_pos ⟨e2, hk⟩, hg (n - 1 - j) (by omega), if_neg (by omega), if_pos (by omega)]
      congr 1
      omega
    · rw [if_neg (fun x => e2 x.1), hg k hk]
      by_cases e3 : k < j ∨ n - 1 - k < j
      · rw [if_pos e3, if_pos (by omega)]
      · rw [if_neg e3, if_neg (by omega)]
theorem RevP.all {n : Nat} {xs ys : List Int} {j : Nat} (h : RevP n xs ys j) (hx : xs.length = n) (hj : ¬ 2 * j + 1 < n) : ys = xs.reverse := by
  obtain ⟨hl, hg⟩ := h
  apply List.ext_getElem?
  intro k
  by_cases hk : k < n
  · have h1 := hg k hk
    have h2 : (if k < j ∨ n - 1 - k < j then xs.getD (n - 1 - k) 0 else xs.getD k 0) = xs.getD (n - 1 - k) 0 := by
      split
      · rfl
      · rw [show n - 1 - k = k by omega]
    rw [h2] at h1
    rw [List.getElem?_reverse (by omega), hx]
    have e1 : ys[k]? = some (ys.getD k 0) := by simp [show k < ys.length by omega]
    have e2 : xs[n - 1 - k]? = some (xs.getD (n - 1 - k) 0) := by simp [show n - 1 - k < xs.length by omega]
    rw [e1, e2, h1]
  · rw [List.getElem?_eq_none (by omega), List.getElem?_eq_none (by rw [List.length_reverse]; omega)]

end Go.Proofs.Ytcekobdnghllcab
namespace Go.Proofs.Ytcekobdnghllcab
open Go.ChangeShapes Go.WideShapes Go.ChangeAt Go.RowKit
/-- who goes in a round -/
def peo (r : Int × Int) : List Int := if r.1 = r.2 then [r.1] else [r.1, r.2]
/-- does one go in a round -/
def hasC (x : Int) (r : Int × Int) : Bool := decide (r.1 = x) || decide (r.2 = x)
/-- the place of the first round in which one goes -/
def FirstC (x : Int) (rs : List (Int × Int)) (i : Nat) : Prop := i < rs.length ∧ hasC x (rs.getD i (0, 0)) = true ∧ ∀ j, j < i → hasC x (rs.getD j (0, 0)) = false
/-- where a choice stands first, or -1 -/
def fndC (x : Int × Int) : List (Int × Int) → Nat → Int
  | [], _ => -1
  | y :: r, j => if y = x then (j : Int) else fndC x r (j + 1)
theorem fndC_drop (x : Int × Int) (xs : List (Int × Int)) (j : Nat) (h : j < xs.length) : fndC x (xs.drop j) j = if xs.getD j (0, 0) = x then (j : Int) else fndC x (xs.drop (j + 1)) (j + 1) := by
  rw [List.drop_eq_getElem_cons h, fndC]
  simp [h]
theorem fndC_mem (x : Int × Int) : ∀ (xs : List (Int × Int)) (j : Nat), (0 ≤ fndC x xs j ↔ x ∈ xs)
  | [], j => by simp [fndC]
  | y :: r, j => by
    unfold fndC
    by_cases e : y = x
    · rw [if_pos e]
      exact ⟨fun _ => by rw [e]; exact List.mem_cons_self, fun _ => Int.natCast_nonneg _⟩
    · rw [if_neg e, fndC_mem x r (j + 1)]
      have e2 : ¬ x = y := fun h => e h.symm
      rw [List.mem_cons]
      exact ⟨.inr, fun h => h.resolve_left e2⟩
end Go.Proofs.Ytcekobdnghllcab
namespace Go.Proofs.Ytcekobdnghllcab
open Go.ChangeShapes Go.WideShapes Go.ChangeAt Go.RowKit

/-- where the next count goes on: one who goes, and then another one -/
theorem idx2_eq (n j p : Nat) (hj : j < n) (hp : p < n) (hne : p ≠ j) : (if (if p < j then p else p - 1) < j % (n - 1) then j % (n - 1) - 1 else j % (n - 1)) % (n - 1 - 1) = idx2 n j p := by
  unfold idx2
  rw [if_neg hne, show n - 1 - 1 = n - 2 by omega]
  by_cases e : j = n - 1
  · subst e
    rw [Nat.mod_self, if_neg (by omega), if_pos (by omega : p < n - 1), show n - 1 - 1 = n - 2 by omega, Nat.mod_self, Nat.zero_mod]
  · rw [Nat.mod_eq_of_lt (by omega : j < n - 1)]
    by_cases c : p < j
    · rw [if_pos c, if_pos c, if_pos c]
    · rw [if_neg c, if_neg c, if_neg (by omega), Nat.sub_zero]
theorem marks_inc (n : Nat) : Inc (marks 0 n) := by
  intro i j h1 h2
  rw [marks_length] at h2
  rw [marks_getD 0 n i (by omega), marks_getD 0 n j h2]
  omega
end Go.Proofs.Ytcekobdnghllcab
namespace Go.Proofs.Ytcekobdnghllcab
open Go.ChangeShapes Go.WideShapes Go.ChangeAt Go.RowKit

abbrev nilS : Value := .slice none 0 0
theorem getD_snoc {α : Type} (xs : List α) (x d : α) (j : Nat) (h : j < xs.length) : (xs ++ [x]).getD j d = xs.getD j d := by
  simp only [List.getD]
  rw [List.getElem?_append_left h]
theorem getD_last {α : Type} (xs : List α) (x d : α) : (xs ++ [x]).getD xs.length d = x := by simp [List.getD]

/-- how many numbers the first j lists have -/
def offS (xss : List (List Int)) (j : Nat) : Nat := ((xss.take j).map List.length).sum
theorem offS_zero (xss : List (List Int)) : offS xss 0 = 0 := rfl
theorem offS_succ (xss : List (List Int)) (j : Nat) (h : j < xss.length) : offS xss (j + 1) = offS xss j + (xss.getD j []).length := by
  unfold offS
  rw [List.take_add_one, List.map_append, List.sum_append]
  simp [List.getD, h]
/-- the marks, or what was there -/
def mkS (k : Int) (xss : List (List Int)) (j i : Nat) : List Int := if i < j then marks (k + offS xss i) (xss.getD i []).length else xss.getD i []
theorem offS_le (xss : List (List Int)) (c : Nat) (h : ∀ xs ∈ xss, xs.length ≤ c) : ∀ j, j ≤ xss.length → offS xss j ≤ j * c
  | 0, _ => by simp [offS]
  | j + 1, hj => by
    have h1 := offS_le xss c h j (by omega)
    rw [offS_succ xss j (by omega)]
    have h2 : xss.getD j [] ∈ xss := by
      have : xss.getD j [] = xss[j]'(by omega) := by simp [List.getD, show j < xss.length by omega]
      rw [this]; exact List.getElem_mem _
    have h3 := h _ h2
    have h4 : (j + 1) * c = j * c + c := Nat.succ_mul j c
    omega
end Go.Proofs.Ytcekobdnghllcab
namespace Go.Proofs.Ytcekobdnghllcab
open Go.ChangeShapes Go.WideShapes Go.ChangeAt Go.RowKit

/-- where the backward count chooses, as the model reckons it -/
theorem back_idx (m i' : Nat) (b : Int) (hi : i' < m) : (((m : Int) - 1 - i' - b + 1).tmod (m : Int) + m).tmod (m : Int) = ((m - 1 - rj b i' m : Nat) : Int) := by
  obtain ⟨D, hD⟩ : ∃ D, (m : Int) - 1 - i' - b + 1 = D := ⟨_, rfl⟩
  rw [hD]
  have hm : (0 : Int) < m := by omega
  have q1 := Int.tmod_lt_of_pos D hm
  have q2 := Int.lt_tmod_of_pos D hm
  have q3 : D.tmod (m : Int) = D - (m : Int) * D.tdiv m := Int.tmod_def D m
  rw [Int.tmod_eq_emod_of_nonneg (by omega), Int.add_emod_right, q3, Int.sub_mul_emod_self_left]
  have hj := rj_lt b i' m (by omega)
  unfold rj at hj ⊢
  have p1 := place_int b m (by omega)
  obtain ⟨P, hP⟩ : ∃ P, place b m = P := ⟨_, rfl⟩
  rw [hP] at hj p1 ⊢
  obtain ⟨jr, hjr⟩ : ∃ jr, (i' + P) % m = jr := ⟨_, rfl⟩
  rw [hjr] at hj ⊢
  have d1 := Nat.div_add_mod (i' + P) m
  have d2 := Int.mul_ediv_add_emod (b - 1) (m : Int)
  rw [hjr] at d1
  rw [← p1] at d2
  have d3 : ((m * ((i' + P) / m) + jr : Nat) : Int) = (i' : Int) + P := by rw [d1]; simp
  have e : D = (m : Int) - 1 - jr - (m : Int) * (((i' + P) / m : Nat) + (b - 1) / (m : Int)) := by
    rw [Int.mul_add]
    simp only [Int.natCast_add, Int.natCast_mul] at d3
    omega
  rw [e, Int.sub_mul_emod_self_left, Int.emod_eq_of_lt (by omega) (by omega)]
  omega
theorem fwd_idx (m i : Nat) (f : Int) (hi : i < m) (f1 : 1 ≤ f) : ((i : Int) + f - 1).tmod (m : Int) = ((rj f i m : Nat) : Int) := by
  rw [Int.tmod_eq_emod_of_nonneg (by omega)]
  exact (emod_add_place i m f (by omega)).symm
/-- where both go on -/
theorem idx_on (m j p jr : Nat) (hj : j < m) (hp : p < m) (hjr : jr < m) (e : m - 1 - jr = p) :
    idx2 m j p = (j - (if p < j then 1 else 0)) % (if p = j then m - 1 else m - 2) ∧ idx2 m jr (m - 1 - j) = ((if p = j then m - 1 else m - 2) - (p - (if j < p then 1 else 0))) % (if p = j then m - 1 else m - 2) ∧
    j - (if p < j then 1 else 0) ≤ (if p = j then m - 1 else m - 2) ∧ p - (if j < p then 1 else 0) ≤ (if p = j then m - 1 else m - 2) := by
  unfold idx2
  by_cases c : p = j
  · have c2 : m - 1 - j = jr := by omega
    have c3 : ¬ p < j := by omega
    have c4 : ¬ j < p := by omega
    simp only [if_pos c, if_pos c2, if_neg c3, if_neg c4]
    refine ⟨rfl, ?_, by omega, by omega⟩
    congr 1
    omega
  · have c2 : ¬ m - 1 - j = jr := by omega
    by_cases d : p < j
    · have c3 : m - 1 - j < jr := by omega
      have c4 : ¬ j < p := by omega
      simp only [if_neg c, if_neg c2, if_pos d, if_pos c3, if_neg c4]
      refine ⟨trivial, ?_, by omega, by omega⟩
      congr 1
      omega
    · have c3 : ¬ m - 1 - j < jr := by omega
      have c4 : j < p := by omega
      simp only [if_neg c, if_neg c2, if_neg d, if_neg c3, if_pos c4]
      refine ⟨trivial, ?_, by omega, by omega⟩
      congr 1
      omega
theorem cutR_take (l : List Int) (k : Nat) (x y : Int) (h : k < l.length) : cutR (l.take (k + 1)) x y = cutR (l.take k) x y ++ (if l.getD k 0 = x ∨ l.getD k 0 = y then [] else [l.getD k 0]) := by
  unfold cutR
  rw [List.take_add_one, List.filter_append]
  have e : l[k]? = some (l.getD k 0) := by simp [h]
  obtain ⟨q, hq⟩ : ∃ q, l.getD k 0 = q := ⟨_, rfl⟩
  rw [hq] at e ⊢
  rw [e]
  congr 1
  by_cases c : q = x ∨ q = y
  · rw [if_pos c]
    rcases c with c | c <;> simp [c]
  · rw [if_neg c]
    have c1 : q ≠ x := fun e => c (.inl e)
    have c2 : q ≠ y := fun e => c (.inr e)
    simp [c1, c2]
theorem cutR_len_le (l : List Int) (x y : Int) : (cutR l x y).length ≤ l.length := List.length_filter_le _ _

end Go.Proofs.Ytcekobdnghllcab
