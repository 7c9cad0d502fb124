/- Who is left if the count begins at another person (LastFrom), and where it has to begin (BeginFor): the program and its model return the same; for all integers. -/
import Derived.Test.YtcekobdnghllcacDoorLow
namespace Go.Proofs.YtcekobdnghllcacDoor
open Go.ChangeShapes Go.WideShapes Go.ChangeAt Go.RowKit

theorem tmod_neg (n s : Int) (h : n < 0) (hs : 1 ≤ s) : 0 ≤ n.tmod s + s ∧ n.tmod s + s ≤ s ∧ (n.tmod s + s) % s = n % s := by
  have h1 := Int.emod_nonneg n (b := s) (by omega)
  have h2 := Int.emod_lt_of_pos n (b := s) (by omega)
  have e := Int.tmod_eq_emod (a := n) (b := s)
  by_cases c : 0 ≤ n ∨ s ∣ n
  · rw [if_pos c] at e
    have hd : n % s = 0 := by
      rcases c with c | c
      · omega
      · exact Int.emod_eq_zero_of_dvd c
    rw [e]
    refine ⟨by omega, by omega, ?_⟩
    rw [hd]; simp
  · rw [if_neg c] at e
    have hn : ((s.natAbs : Nat) : Int) = s := by omega
    rw [hn] at e
    rw [e]
    refine ⟨by omega, by omega, ?_⟩
    rw [show n % s - s + s = n % s by omega, Int.emod_emod]

/-- people, a step and one of them, or a turn -/
structure One (p k b : Int) : Prop where
  a : Asked p k
  b1 : 0 ≤ b
  b2 : b < p

end Go.Proofs.YtcekobdnghllcacDoor
