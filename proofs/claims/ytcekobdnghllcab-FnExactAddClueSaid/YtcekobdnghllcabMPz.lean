/- The texts PzB, PzC, PzD, as one. -/
import Derived.Test.YtcekobdnghllcabMCl
import Derived.Test.YtcekobdnghllcabAt
import Derived.Test.YtcekobdnghllcabMTw
import Derived.Test.YtcekobdnghllcabLwO7
import Derived.Test.YtcekobdnghllcabRes
namespace Go.Proofs.Ytcekobdnghllcab
open Go.ChangeShapes Go.WideShapes Go.ChangeAt Go.RowKit

/-- does a circle of so many people, counted with that step, fit a clue? -/
def fitB (p : Cu) (n : Nat) (k : Int) : Bool :=
  if p.1 = 0 then decide ((n : Int) % p.2.1 = p.2.2)
  else if p.1 = 1 then decide (k % p.2.1 = p.2.2)
  else if p.1 = 2 then decide (lastN k (n - 1) = p.2.1)
  else if p.1 = 3 then decide ((k - 1) % (n : Int) = p.2.1)
  else if p.1 = 4 then decide (fndD p.2.1 (outs k n (marks 0 n)) 0 = p.2.2)
  else decide (p.2.1 ≤ (n : Int))
theorem clu_kind {k a b : Int} (h : cluB (k, a, b) = true) : (k = 0 ∧ 2 ≤ a ∧ a ≤ 5) ∨ (k = 1 ∧ 2 ≤ a ∧ a ≤ 5) ∨ (k = 2 ∧ 0 ≤ a ∧ a ≤ 9) ∨ (k = 3 ∧ 0 ≤ a ∧ a ≤ 9) ∨ (k = 4 ∧ 0 ≤ a ∧ a ≤ 9) ∨ (k = 5 ∧ 1 ≤ a ∧ a ≤ 10) := by
  unfold cluB at h
  simp only at h
  split at h
  · simp only [Bool.and_eq_true, decide_eq_true_eq] at h; omega
  · split at h
    · simp only [Bool.and_eq_true, decide_eq_true_eq] at h; omega
    · split at h
      · simp only [Bool.and_eq_true, decide_eq_true_eq] at h; omega
      · split at h
        · simp only [Bool.and_eq_true, decide_eq_true_eq] at h; omega
        · cases h

/-- is a circle hidden? -/
def hidB (n k : Int) : Bool := decide (1 ≤ n ∧ n ≤ 10) && decide (1 ≤ k ∧ k ≤ 12)
/-- what DoesFit gives -/
def vDoesFit (p : Cu) (n k : Int) : Bool × Bool := if cluB p = true ∧ hidB n k = true then (fitB p n.toNat k, true) else (false, false)
end Go.Proofs.Ytcekobdnghllcab
namespace Go.Proofs.Ytcekobdnghllcab
open Go.ChangeShapes Go.WideShapes Go.ChangeAt Go.RowKit

def fitA (ps : List Cu) (n : Nat) (k : Int) : Bool := ps.all fun c => fitB c n k
/-- those of so many people that fit, of the first steps -/
def solN (ps : List Cu) (n : Nat) : Nat → List (List Int)
  | 0 => []
  | s + 1 => solN ps n s ++ if fitA ps n ((s : Int) + 1) = true then [[(n : Int), (s : Int) + 1]] else []
def solA (ps : List Cu) : Nat → List (List Int)
  | 0 => []
  | n + 1 => solA ps n ++ solN ps (n + 1) 12
theorem solN_len (ps : List Cu) (n : Nat) : ∀ s, (solN ps n s).length ≤ s
  | 0 => Nat.le_refl _
  | s + 1 => by
    have := solN_len ps n s
    rw [solN, List.length_append]
    split <;> simp <;> omega
theorem solA_len (ps : List Cu) : ∀ n, (solA ps n).length ≤ n * 12
  | 0 => Nat.zero_le _
  | n + 1 => by
    have := solA_len ps n
    have := solN_len ps (n + 1) 12
    rw [solA, List.length_append]
    omega
end Go.Proofs.Ytcekobdnghllcab
namespace Go.Proofs.Ytcekobdnghllcab
open Go.ChangeShapes Go.WideShapes Go.ChangeAt Go.RowKit

theorem puz_parts {ps : List Cu} (h : puzB ps = true) : ps.length ≤ 6 ∧ ps.all cluB = true := by
  unfold puzB at h
  rw [Bool.and_eq_true, decide_eq_true_eq] at h
  exact h
theorem box3 (W : World) (p : Cu) {w' : World} (hk : Kp Nw (W.alloc (.cells #[.int .i64 p.1, .int .i64 p.2.1, .int .i64 p.2.2] 34)) w') : At3 w' W.heap.size 0 p := by
  have h : At3 (W.alloc (.cells #[.int .i64 p.1, .int .i64 p.2.1, .int .i64 p.2.2] 34)) W.heap.size 0 p := by
    refine ⟨?_, ?_, ?_⟩ <;> simp [World.cell?_alloc_at]
  exact h.kp hk (fun h => h)

def vCountSol (ps : List Cu) : Int × Bool := if puzB ps = true then ((solA ps 10).length, true) else (0, false)
def vSolutions (ps : List Cu) : List (List Int) × Bool := if puzB ps = true then (solA ps 10, true) else ([], false)
def vIsSolved (ps : List Cu) : Bool × Bool := if puzB ps = true then (decide ((solA ps 10).length = 1), true) else (false, false)

end Go.Proofs.Ytcekobdnghllcab
