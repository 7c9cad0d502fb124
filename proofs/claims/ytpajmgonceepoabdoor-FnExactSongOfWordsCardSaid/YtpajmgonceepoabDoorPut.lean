/- A number put into an increasing list, a list sorted, in the model; no condition but that the numbers are different ones. -/
import Derived.Test.YtpajmgonceepoabDoorTurn
import Derived.Test.YtpajmgonceepoabDoorLaws
namespace Go.Proofs.YtpajmgonceepoabDoor
open Go.ChangeShapes Go.WideShapes Go.ChangeAt Go.RowKit

theorem put_sorted (xs : List Int) (x : Int) (j : Nat) (hs : xs.Pairwise (· < ·)) (h1 : ∀ i, i < j → xs.getD i 0 < x) (h2 : ∀ y ∈ xs.drop j, x < y) :
    (xs.take j ++ [x] ++ xs.drop j).Pairwise (· < ·) ∧ (xs.take j ++ [x] ++ xs.drop j).Perm (x :: xs) := by
  constructor
  · have hall : (xs.take j ++ xs.drop j).Pairwise (· < ·) := by rw [List.take_append_drop]; exact hs
    obtain ⟨a1, a2, a3⟩ := List.pairwise_append.1 hall
    have hx : ∀ y ∈ xs.take j, y < x := fun y hy => by
      obtain ⟨i, hi, e⟩ := List.getElem_of_mem hy
      rw [List.length_take] at hi
      have := h1 i (by omega)
      rw [List.getElem_take] at e
      rw [List.getD_eq_getElem?_getD, List.getElem?_eq_getElem (by omega)] at this
      have h9 : xs[i] < x := this
      rw [e] at h9
      exact h9
    rw [List.append_assoc, List.pairwise_append]
    refine ⟨a1, List.pairwise_cons.2 ⟨h2, a2⟩, fun a ha b hb => ?_⟩
    rcases List.mem_cons.1 hb with rfl | hb
    · exact hx a ha
    · exact a3 a ha b hb
  · rw [List.append_assoc, List.singleton_append]
    refine List.perm_middle.trans ?_
    rw [List.take_append_drop]
theorem above (xs : List Int) (x : Int) (j : Nat) (hs : xs.Pairwise (· < ·)) (hj : j < xs.length) (h : x < xs.getD j 0) : ∀ y ∈ xs.drop j, x < y := by
  intro y hy
  obtain ⟨i, hi, e⟩ := List.getElem_of_mem hy
  rw [List.length_drop] at hi
  rw [List.getElem_drop] at e
  rw [List.getD_eq_getElem?_getD, List.getElem?_eq_getElem hj] at h
  have h9 : x < xs[j] := h
  by_cases e0 : i = 0
  · subst e0
    have : xs[j] = y := by simpa using e
    omega
  · have := List.pairwise_iff_getElem.1 hs j (j + i) hj (by omega) (by omega)
    omega
/-- a list in rising order -/
def srt (ys : List Int) : List Int := ys.mergeSort (fun x y => decide (x ≤ y))
theorem srt_is (ys zs : List Int) (h : zs.Pairwise (· < ·)) (hp : zs.Perm ys) : zs = srt ys := by
  have h2 : (srt ys).Pairwise (fun a b => decide (a ≤ b) = true) := List.pairwise_mergeSort (fun a b c h1 h2 => by simp at *; omega) (fun a b => by simp; omega) ys
  refine List.Perm.eq_of_pairwise (le := fun a b : Int => a ≤ b) (fun a b _ _ h3 h4 => by omega) (h.imp (fun h => by omega)) (h2.imp (fun h => by simpa using h)) (hp.trans (List.mergeSort_perm ys _).symm)
/-- what a call returns that makes an increasing list with these numbers -/
def Puts (W : World) (ys : List Int) (e : Ending) (w' : World) : Prop := ∃ v zs, e = .returned v ∧ Sl w' W.heap.size v zs ∧ zs.Pairwise (· < ·) ∧ zs.Perm ys ∧ Kp Nw W w'

theorem cut_nil (w : World) : (Instr.slice 22 (.slice none 0 0) none (some (.int .i64 0)) none).run Tryd.prog w = .ok (.slice none 0 0) w := by
  kernel_rfl
theorem cut_nil2 (w : World) : (Instr.slice 22 (.slice none 0 0) (some (.int .i64 0)) none none).run Tryd.prog w = .ok (.slice none 0 0) w := by
  kernel_rfl
end Go.Proofs.YtpajmgonceepoabDoor
