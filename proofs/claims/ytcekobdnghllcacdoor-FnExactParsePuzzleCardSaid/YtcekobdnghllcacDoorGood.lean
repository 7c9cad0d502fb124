/- Whether a ring is one (IsRing), in the program and in its model; no condition but that the ring's slice is at the head of a row of its own. -/
import Derived.Test.YtcekobdnghllcacDoorTurn
import Derived.Test.YtcekobdnghllcacDoorLow
import Derived.Test.YtcekobdnghllcacDoorRing
import Derived.Deep.OwnRows
import Derived.Outline
namespace Go.Proofs.YtcekobdnghllcacDoor
open Go.ChangeShapes Go.WideShapes Go.ChangeAt Go.RowKit

/-- a number that a ring may have -/
def okB (x : Int) : Bool := decide (0 ≤ x ∧ x ≤ 999)
/-- numbers and a step that make a ring -/
structure Good (xs : List Int) (k : Int) : Prop where
  n1 : 1 ≤ xs.length
  n2 : xs.length ≤ 200
  ok : xs.all okB = true
  nd : xs.Nodup
  k1 : 1 ≤ k
  k2 : k ≤ 1000000

theorem rowIs_nw {w w' : World} {b : Nat} {t : TypeId} {n : Nat} {f : Nat → Value} (h : w.rowIs b t n f) (hk : Kp Nw w w') : w'.rowIs b t n f := h.of_block (hk.block b h.lt (fun h => h))

theorem nodup_take {xs : List Int} {j : Nat} (hl : j < xs.length) : (xs.take (j + 1)).Nodup ↔ (xs.take j).Nodup ∧ xs[j] ∉ xs.take j := by
  rw [List.take_succ_eq_append_getElem hl, List.nodup_append]
  constructor
  · rintro ⟨h1, _, h3⟩
    exact ⟨h1, fun hm => h3 _ hm _ (by simp) rfl⟩
  · rintro ⟨h1, h2⟩
    refine ⟨h1, by simp, fun a ha b hb e => ?_⟩
    rw [List.mem_singleton] at hb
    rw [e, hb] at ha
    exact h2 ha
theorem nodup_of_take {xs : List Int} (j : Nat) (h : xs.Nodup) : (xs.take j).Nodup := h.sublist (List.take_sublist _ _)

theorem goodB_of (xs : List Int) (k : Int) (h1 : 1 ≤ xs.length) (h2 : xs.length ≤ 200) (k1 : 1 ≤ k) (k2 : k ≤ 1000000) (ok : xs.all okB = true) (nd : xs.Nodup) : Good xs k := ⟨h1, h2, ok, nd, k1, k2⟩

end Go.Proofs.YtcekobdnghllcacDoor
