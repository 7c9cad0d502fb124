/- The order in which people go who are counted backwards (BackOrder), in the program and in its model: both are the same list; for all integers. -/
import Derived.Test.YtpajmgonceepoabDoorGaps
namespace Go.Proofs.YtpajmgonceepoabDoor
open Go.ChangeShapes Go.WideShapes Go.ChangeAt Go.RowKit

/-- people from the one at an index on, backwards -/
def back {α : Type} (l : List α) (i : Nat) : List α := (rot l ((i + 1) % l.length)).reverse
theorem back_length {α : Type} (l : List α) (i : Nat) : (back l i).length = l.length := by simp [back, rot_length]

theorem mod_back (i a n : Nat) (_hi : i < n) (ha : a < n) : ((i + 1) % n + (n - 1 - a)) % n = (i + n - a) % n := by
  rw [Nat.add_mod, Nat.mod_mod, ← Nat.add_mod]
  congr 1
  omega

theorem rest_back {α : Type} (k : Int) (l : List α) (i : Nat) (hi : i < l.length) (h2 : 2 ≤ l.length) :
    rest k (back l i) = (rot (l.eraseIdx ((i + l.length - place k l.length) % l.length)) ((i + l.length - place k l.length) % l.length % (l.length - 1))).reverse := by
  have hp := place_lt k l.length (by omega)
  rw [erase_rot l _ (Nat.mod_lt _ (by omega)) h2]
  have hs := rot_rest l ((i + 1) % l.length) (l.length - 1 - place k l.length) (Nat.mod_lt _ (by omega)) (by omega)
  rw [mod_back i (place k l.length) l.length hi hp] at hs
  rw [← hs]
  unfold rest
  rw [back_length]
  unfold back
  have hl := rot_length l ((i + 1) % l.length)
  rw [List.drop_reverse, List.take_reverse, List.reverse_append, hl]
  congr 2
  · rw [show l.length - (place k l.length + 1) = l.length - 1 - place k l.length by omega]
  · rw [show l.length - place k l.length = l.length - 1 - place k l.length + 1 by omega]

theorem back_getD {α : Type} (l : List α) (i a : Nat) (d : α) (hi : i < l.length) (ha : a < l.length) : (back l i).getD a d = l.getD ((i + l.length - a) % l.length) d := by
  have hl := rot_length l ((i + 1) % l.length)
  have h := rot_getD l ((i + 1) % l.length) (l.length - 1 - a) d (Nat.mod_lt _ (by omega)) (by omega)
  rw [mod_back i a l.length hi ha] at h
  rw [← h]
  unfold back
  simp only [List.getD]
  rw [List.getElem?_reverse (by rw [hl]; exact ha), hl]

theorem next_back (j m : Nat) (hm : 1 ≤ m) : ∃ j' : Nat, ((j : Int) - 1) % (m : Int) = (j' : Int) ∧ j' < m ∧ (j' + 1) % m = j % m := by
  have h1 := Int.emod_nonneg ((j : Int) - 1) (b := (m : Int)) (by omega)
  have h2 := Int.emod_lt_of_pos ((j : Int) - 1) (b := (m : Int)) (by omega)
  refine ⟨(((j : Int) - 1) % (m : Int)).toNat, by omega, by omega, ?_⟩
  have h : ((((((j : Int) - 1) % (m : Int)).toNat + 1) % m : Nat) : Int) = ((j % m : Nat) : Int) := by
    rw [Int.natCast_emod, Int.natCast_emod, Int.natCast_add, show (((((j : Int) - 1) % (m : Int)).toNat : Nat) : Int) = ((j : Int) - 1) % (m : Int) by omega]
    rw [Int.emod_add_emod]
    congr 1
    omega
  omega

theorem emod_sub_place (i n : Nat) (k : Int) (hi : i < n) : ((((i + n - place k n) % n : Nat)) : Int) = ((i : Int) - k + 1) % (n : Int) := by
  have hp := place_lt k n (by omega)
  rw [Int.natCast_emod, show ((i + n - place k n : Nat) : Int) = (i : Int) - (place k n : Int) + (n : Int) by omega, place_int k n (by omega), Int.add_emod_right, Int.sub_emod, Int.emod_emod, ← Int.sub_emod]
  congr 1
  omega

/-- the person with a number, told the other way around -/
def mir (n : Nat) (x : Int) : Int := ((n : Int) - x) % (n : Int)
theorem back_marks (n : Nat) (hn : 0 < n) : back (marks 0 n) 0 = (marks 0 n).map (mir n) := by
  apply List.ext_getElem?
  intro j
  by_cases h : j < n
  · have h1 := back_getD (marks 0 n) 0 j 0 (by rw [marks_length]; exact hn) (by rw [marks_length]; exact h)
    rw [marks_length, marks_getD 0 n _ (Nat.mod_lt _ hn)] at h1
    have hl : j < (back (marks 0 n) 0).length := by rw [back_length, marks_length]; exact h
    have e1 : (back (marks 0 n) 0)[j]? = some ((back (marks 0 n) 0).getD j 0) := by simp [hl]
    rw [e1, h1, List.getElem?_map]
    have e2 : (marks 0 n)[j]? = some (j : Int) := by simp [marks, h]
    rw [e2]
    show some _ = some (mir n j)
    congr 1
    unfold mir
    rw [Int.zero_add, Int.natCast_emod]
    congr 1
    omega
  · have e : n ≤ j := by omega
    rw [List.getElem?_eq_none (by rw [back_length, marks_length]; exact e), List.getElem?_eq_none (by rw [List.length_map, marks_length]; exact e)]
theorem back_map {α β : Type} (f : α → β) (l : List α) (i : Nat) : (back l i).map f = back (l.map f) i := by simp [back, rot]
theorem who_mir (n : Nat) (_hn : 0 < n) (k : Int) (l : List Int) : who k (l.map (mir n)) = mir n (who k l) := by
  unfold who
  simp only [List.getD, List.length_map, List.getElem?_map]
  cases l[place k l.length]? with
  | some x => rfl
  | none => simp [mir]
theorem outs_mir (n : Nat) (hn : 0 < n) (k : Int) : ∀ (t : Nat) (l : List Int), outs k t (l.map (mir n)) = (outs k t l).map (mir n)
  | 0, _ => rfl
  | t + 1, l => by rw [outs, outs, List.map_cons, who_mir n hn, rest_map, outs_mir n hn k t]
theorem mir_tmod (n : Nat) (x : Int) (_h0 : 0 ≤ x) (h1 : x < n) : ((n : Int) - x).tmod (n : Int) = mir n x := by
  rw [Int.tmod_eq_emod_of_nonneg (by omega)]; rfl

end Go.Proofs.YtpajmgonceepoabDoor
