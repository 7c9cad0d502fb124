/- Cats with as many lives each (EvenCats), in the program and in the model; no condition. -/
import Derived.Test.YtpajmgonceepoacDoorRep
namespace Go.Proofs.YtpajmgonceepoacDoor
open Go.ChangeShapes Go.WideShapes Go.ChangeAt Go.RowKit

theorem catB_even (n : Nat) (l k : Int) (n1 : 1 ≤ n) (n2 : n ≤ 40) : catB (List.replicate n l) k = (decide (1 ≤ l ∧ l ≤ 9) && decide (1 ≤ k ∧ k ≤ 1000000)) := by
  have e : (List.replicate n l).all lifeB = decide (1 ≤ l ∧ l ≤ 9) := by
    cases h : decide (1 ≤ l ∧ l ≤ 9)
    · rw [List.all_eq_false]
      exact ⟨l, List.mem_replicate.2 ⟨by omega, rfl⟩, by unfold lifeB; rw [h]; simp⟩
    · rw [List.all_eq_true]
      intro y hy
      rw [List.eq_of_mem_replicate hy]
      exact h
  unfold catB
  rw [e, List.length_replicate]
  by_cases hk : 1 ≤ k ∧ k ≤ 1000000
  · rw [decide_eq_true (show 1 ≤ n ∧ n ≤ 40 ∧ 1 ≤ k ∧ k ≤ 1000000 from ⟨n1, n2, hk.1, hk.2⟩), decide_eq_true hk, Bool.true_and, Bool.and_true]
  · rw [decide_eq_false (show ¬ (1 ≤ n ∧ n ≤ 40 ∧ 1 ≤ k ∧ k ≤ 1000000) from fun h => hk ⟨h.2.2.1, h.2.2.2⟩), decide_eq_false hk, Bool.false_and, Bool.and_false]

theorem Own2.set0 {w : World} {b : Nat} {x y : Value} (h : Own2 w b x y) (u : Value) : Own2 (w.setCell ⟨b, 0, none⟩ u) b u y := by
  obtain ⟨h0, h1, h2, h3⟩ := h
  refine ⟨World.cell?_setCell_same _ _ _ h0, (World.cell?_setCell_other _ _ _ _ (by simp)).trans h1, ?_, ?_⟩
  · simpa [World.frozen?_setCell] using h2
  · simpa [World.frozen?_setCell] using h3

end Go.Proofs.YtpajmgonceepoacDoor
