/- Marking a slice of the call's own with k, k + 1, .. and finding the marks again, and comparing unequal flags: the laws' own helpers; no condition but that the numbers fit. -/
import Derived.Test.YtcekobdnghllcacDoorInts
namespace Go.Proofs.YtcekobdnghllcacDoor
open Go.ChangeShapes Go.WideShapes Go.ChangeAt Go.RowKit

/-- k, k + 1, .., n of them -/
def marks (k : Int) (n : Nat) : List Int := (List.range n).map fun i : Nat => k + (i : Int)
theorem marks_length (k : Int) (n : Nat) : (marks k n).length = n := by simp [marks]
theorem marks_getD (k : Int) (n j : Nat) (h : j < n) : (marks k n).getD j 0 = k + j := by simp [marks, h]
theorem marks_step (k : Int) (xs : List Int) (j : Nat) (h : j < xs.length) : (marks k j ++ xs.drop j).set j (k + j) = marks k (j + 1) ++ xs.drop (j + 1) := by
  have e : xs.drop j = xs[j] :: xs.drop (j + 1) := List.drop_eq_getElem_cons h
  rw [e, List.set_append_right _ _ (by rw [marks_length]; exact Nat.le_refl _), marks_length, Nat.sub_self, List.set_cons_zero]
  simp [marks, List.range_succ]

theorem Sl.form {w : World} {B : Nat} {v : Value} {xs : List Int} (h : Sl w B v xs) :
    (v = .slice none 0 0 ∧ xs = []) ∨ ∃ g cap, v = .slice (some ⟨g, 0, none⟩) xs.length cap ∧ B ≤ g ∧ g < w.heap.size := by
  rcases h.2 with ⟨rfl, hn⟩ | ⟨g, cap, cur, rfl, hb, hg, _⟩
  · exact .inl ⟨rfl, List.eq_nil_of_length_eq_zero hn⟩
  · exact .inr ⟨g, cap, rfl, hb, (Array.getElem?_eq_some_iff.1 hg).1⟩

/-- the row at an address and a capacity that are known -/
def SlAt (w : World) (B g cap n : Nat) (xs : List Int) : Prop := xs.length = n ∧ w.ownsRow B 3 1 (.slice (some ⟨g, 0, none⟩) n cap) n (xs.map (Value.int .i64))

theorem SlAt.cell {w : World} {B g cap n : Nat} {xs : List Int} (h : SlAt w B g cap n xs) (j : Nat) (hj : j < n) : w.cell? ⟨g, j, none⟩ = some (.int .i64 (xs.getD j 0)) := by
  have hl : j < xs.length := by rw [h.1]; exact hj
  rw [World.ownsRow.cellAt h.2 j (by omega)]
  simp [List.getElem?_eq_getElem hl]
theorem SlAt.frozen {w : World} {B g cap n : Nat} {xs : List Int} (h : SlAt w B g cap n xs) (j : Nat) : w.frozen? ⟨g, j, none⟩ = false := World.ownsRow.frozenAt h.2 j
theorem SlAt.store {w : World} {B g cap n : Nat} {xs : List Int} (h : SlAt w B g cap n xs) (j : Nat) (u : Int) : SlAt (w.setCell ⟨g, j, none⟩ (.int .i64 u)) B g cap n (xs.set j u) :=
  ⟨by rw [List.length_set]; exact h.1, by rw [List.map_set]; exact (World.ownsRow.stored h.2 j (.int .i64 u)).1⟩
theorem SlAt.sl {w : World} {B g cap n : Nat} {xs : List Int} (h : SlAt w B g cap n xs) : Sl w B (.slice (some ⟨g, 0, none⟩) n cap) xs := by
  obtain ⟨rfl, h2⟩ := h
  exact h2
theorem SlAt.drewN {w : World} {B g cap n : Nat} {xs : List Int} (h : SlAt w B g cap n xs) (k : Nat) : SlAt (w.drewN k) B g cap n xs := h

end Go.Proofs.YtcekobdnghllcacDoor
