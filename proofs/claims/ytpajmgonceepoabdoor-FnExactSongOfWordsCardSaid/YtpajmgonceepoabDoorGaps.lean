/- The gaps between those who go one after the other (GapsOut), in the program and in its model: both are the same list; for all integers. -/
import Derived.Test.YtpajmgonceepoabDoorFixed
namespace Go.Proofs.YtpajmgonceepoabDoor
open Go.ChangeShapes Go.WideShapes Go.ChangeAt Go.RowKit

theorem Sl.drew {w : World} {B : Nat} {v : Value} {xs : List Int} (h : Sl w B v xs) : Sl w.drew B v xs := h

theorem who_map1 (k : Int) (l : List (Int × Int)) : who k (l.map (·.1)) = (whoP k l).1 := by
  unfold who whoP
  simp only [List.getD, List.length_map, List.getElem?_map]
  cases l[place k l.length]? <;> rfl
theorem outs_map1 (k : Int) : ∀ (t : Nat) (l : List (Int × Int)), outs k t (l.map (·.1)) = (outsP k t l).map (·.1)
  | 0, _ => rfl
  | t + 1, l => by rw [outs, outsP, List.map_cons, who_map1, rest_map, outs_map1 k t]
theorem num_fst (n : Nat) : (num (marks 0 n)).map (·.1) = marks 0 n := by
  apply List.ext_getElem?
  intro j
  by_cases h : j < n <;> simp [num, marks, h]
theorem ordP_getD1 (k : Int) (n t : Nat) (ht : t < n) : ((ordP k (marks 0 n)).getD t (0, 0)).1 = (outs k n (marks 0 n)).getD t 0 := by
  have h : outs k n (marks 0 n) = (ordP k (marks 0 n)).map (·.1) := by
    unfold ordP
    rw [← outs_map1, num_fst, marks_length]
  have hl : t < (ordP k (marks 0 n)).length := by rw [ordP_length, marks_length]; exact ht
  rw [h]
  simp [hl]

theorem who_mem (k : Int) (l : List Int) : who k l ∈ l ∨ who k l = 0 := by
  unfold who
  by_cases h : place k l.length < l.length
  · exact .inl (by simp [h])
  · exact .inr (by simp [h])
theorem rest_mem (k : Int) (l : List Int) (x : Int) (h : x ∈ rest k l) : x ∈ l := by
  unfold rest at h
  rcases List.mem_append.1 h with h | h
  · exact List.mem_of_mem_drop h
  · exact List.mem_of_mem_take h
theorem outs_mem (k : Int) : ∀ (t : Nat) (l : List Int) (x : Int), x ∈ outs k t l → x ∈ l ∨ x = 0
  | 0, _, x, h => by simp [outs] at h
  | t + 1, l, x, h => by
    rw [outs, List.mem_cons] at h
    rcases h with rfl | h
    · exact who_mem k l
    · rcases outs_mem k t _ x h with h | h
      · exact .inl (rest_mem k l x h)
      · exact .inr h
theorem outs_bd (k : Int) (n j : Nat) (hj : j < n) : 0 ≤ (outs k n (marks 0 n)).getD j 0 ∧ (outs k n (marks 0 n)).getD j 0 < n := by
  have hm : (outs k n (marks 0 n)).getD j 0 ∈ outs k n (marks 0 n) := by
    have hl : j < (outs k n (marks 0 n)).length := by rw [outs_length]; exact hj
    have e : (outs k n (marks 0 n)).getD j 0 = (outs k n (marks 0 n))[j] := by simp [hl]
    rw [e]
    exact List.getElem_mem _
  rcases outs_mem k n _ _ hm with h | h
  · obtain ⟨i, hi, e⟩ := List.mem_map.1 h
    have := List.mem_range.1 hi
    omega
  · omega

/-- the first m gaps -/
def gaps (o : List Int) (n m : Nat) : List Int := (List.range m).map fun i : Nat => (o.getD (i + 1) 0 - o.getD i 0) % (n : Int)
theorem gaps_length (o : List Int) (n m : Nat) : (gaps o n m).length = m := by simp [gaps]
theorem gaps_succ (o : List Int) (n m : Nat) : gaps o n (m + 1) = gaps o n m ++ [(o.getD (m + 1) 0 - o.getD m 0) % (n : Int)] := by simp [gaps, List.range_succ]
theorem gaps_get (o : List Int) (n m j : Nat) (h : j < m) : (gaps o n m)[j]? = some ((o.getD (j + 1) 0 - o.getD j 0) % (n : Int)) := by simp [gaps, h]
theorem gap_tmod (a b : Int) (n : Nat) (ha : 0 ≤ a) (hb : b < n) : (a - b + (n : Int)).tmod (n : Int) = (a - b) % (n : Int) := by
  rw [Int.tmod_eq_emod_of_nonneg (by omega), Int.add_emod_right]

end Go.Proofs.YtpajmgonceepoabDoor
