/- Orders as plain lists: who is left, remainders; no condition. -/
import Derived.Test.YtbndgkjnigehgabOrG
import Derived.Test.YtbndgkjnigehgabAt
import Derived.Test.YtbndgkjnigehgabBoth
namespace Go.Proofs.Ytbndgkjnigehgab

theorem fndD_split (x : Int) : ∀ (l : List Int) (j : Nat), x ∈ l → ∃ a : Nat, fndD x l j = ((j + a : Nat) : Int) ∧ a < l.length ∧ l.getD a 0 = x
  | [], _, h => by cases h
  | y :: r, j, h => by
    unfold fndD
    by_cases e : y = x
    · exact ⟨0, by rw [if_pos e]; rfl, by simp, by simpa using e⟩
    · rw [if_neg e]
      obtain ⟨a, h1, h2, h3⟩ := fndD_split x r (j + 1) (by
        rcases List.mem_cons.1 h with h | h
        · exact absurd h.symm e
        · exact h)
      exact ⟨a + 1, by rw [h1]; congr 1; omega, by simpa using h2, by simpa using h3⟩
/-- where one stands among those who are left -/
def atL (x : Int) (l : List Int) : Nat := (fndD x l 0).toNat
theorem atL_is (x : Int) (l : List Int) (h : x ∈ l) : fndD x l 0 = (atL x l : Int) ∧ atL x l < l.length ∧ l.getD (atL x l) 0 = x := by
  obtain ⟨a, h1, h2, h3⟩ := fndD_split x l 0 h
  rw [Nat.zero_add] at h1
  have e : atL x l = a := by unfold atL; rw [h1]; rfl
  rw [e]
  exact ⟨h1, h2, h3⟩
/-- those who are left behind the one at an index, counted on from there -/
def cutAt (l : List Int) (a : Nat) : List Int := l.drop (a + 1) ++ l.take a
theorem cutAt_len (l : List Int) (a : Nat) (h : a < l.length) : (cutAt l a).length = l.length - 1 := by unfold cutAt; simp; omega
theorem cutAt_perm (l : List Int) (a : Nat) (h : a < l.length) : (l.getD a 0 :: cutAt l a).Perm l := by
  have e : l = l.take a ++ l[a] :: l.drop (a + 1) := by rw [← List.drop_eq_getElem_cons h, List.take_append_drop]
  have ew : l.getD a 0 = l[a] := by simp [List.getD, h]
  have : (l.getD a 0 :: cutAt l a).Perm (l.take a ++ l[a] :: l.drop (a + 1)) := by
    rw [ew]
    unfold cutAt
    exact (List.Perm.cons _ List.perm_append_comm).trans List.perm_middle.symm
  exact this.trans (by rw [← e])
/-- who is left behind the first j turns of an order, and the remainders of these -/
def remL (xs l0 : List Int) : Nat → List Int
  | 0 => l0
  | j + 1 => cutAt (remL xs l0 j) (atL (xs.getD j 0) (remL xs l0 j))
def remT (xs l0 : List Int) : Nat → List Int
  | 0 => []
  | j + 1 => remT xs l0 j ++ [(((atL (xs.getD j 0) (remL xs l0 j) + 1) % (remL xs l0 j).length : Nat) : Int)]
theorem remT_len (xs l0 : List Int) : ∀ j, (remT xs l0 j).length = j
  | 0 => rfl
  | j + 1 => by rw [remT, List.length_append, remT_len xs l0 j]; rfl
theorem ordB_mem {xs : List Int} (h : ordB xs = true) (j : Nat) (hj : j < xs.length) : xs.getD j 0 ∈ marks 0 xs.length := by
  obtain ⟨h1, h2, h3, h4⟩ := ordB_parts h
  have := okR_get h3 j hj
  unfold marks
  rw [List.mem_map]
  exact ⟨(xs.getD j 0).toNat, by rw [List.mem_range]; omega, by omega⟩
theorem rem_perm {xs : List Int} (h : ordB xs = true) : ∀ j, j ≤ xs.length → (xs.take j ++ remL xs (marks 0 xs.length) j).Perm (marks 0 xs.length)
  | 0, _ => by rw [List.take_zero, List.nil_append]; exact List.Perm.refl _
  | j + 1, hj => by
    have ih := rem_perm h j (by omega)
    obtain ⟨_, _, _, h4⟩ := ordB_parts h
    have hm : xs.getD j 0 ∈ remL xs (marks 0 xs.length) j := by
      have h1 := (ih.mem_iff).2 (ordB_mem h j (by omega))
      rcases List.mem_append.1 h1 with h2 | h2
      · exfalso
        have hn := (nodup_take (xs := xs) (j := j) (by omega)).1 (nodup_of_take (j + 1) h4)
        have e : xs.getD j 0 = xs[j] := by simp [List.getD, show j < xs.length by omega]
        rw [e] at h2
        exact hn.2 h2
      · exact h2
    obtain ⟨_, a2, a3⟩ := atL_is _ _ hm
    have hp := cutAt_perm _ _ a2
    rw [a3] at hp
    have e : xs.take (j + 1) = xs.take j ++ [xs.getD j 0] := by
      rw [List.take_add_one]
      congr 1
      simp [show j < xs.length by omega]
    rw [remL, e, List.append_assoc]
    exact (List.Perm.append_left _ hp).trans ih
theorem rem_mem {xs : List Int} (h : ordB xs = true) (j : Nat) (hj : j < xs.length) : xs.getD j 0 ∈ remL xs (marks 0 xs.length) j := by
  obtain ⟨_, _, _, h4⟩ := ordB_parts h
  have h1 := ((rem_perm h j (by omega)).mem_iff).2 (ordB_mem h j hj)
  rcases List.mem_append.1 h1 with h2 | h2
  · exfalso
    have hn := (nodup_take (xs := xs) (j := j) hj).1 (nodup_of_take (j + 1) h4)
    have e : xs.getD j 0 = xs[j] := by simp [List.getD, hj]
    rw [e] at h2
    exact hn.2 h2
  · exact h2
theorem rem_len {xs : List Int} (h : ordB xs = true) (j : Nat) (hj : j ≤ xs.length) : (remL xs (marks 0 xs.length) j).length = xs.length - j := by
  have h1 := (rem_perm h j hj).length_eq
  rw [List.length_append, marks_length, List.length_take] at h1
  omega
/-- the remainders of an order -/
def remsOf (xs : List Int) : List Int := remT xs (marks 0 xs.length) xs.length
theorem remsOf_len (xs : List Int) : (remsOf xs).length = xs.length := remT_len _ _ _
end Go.Proofs.Ytbndgkjnigehgab
