/- RingOf in the program and in its model, and the laws' helpers on rings (equal, mark, held); no condition but that the slices' cells are there. -/
import Derived.Test.YtcekobdnghllcacDoorMake
import Derived.Test.YtcekobdnghllcacDoorLow
namespace Go.Proofs.YtcekobdnghllcacDoor
open Go.ChangeShapes Go.WideShapes Go.ChangeAt Go.RowKit

theorem bcell {W w1 : World} (hb : Kp Nw W w1) : (∀ b o, b < W.heap.size → w1.cell? ⟨b, o, none⟩ = W.cell? ⟨b, o, none⟩) ∧ (∀ b o, b < W.heap.size → w1.frozen? ⟨b, o, none⟩ = W.frozen? ⟨b, o, none⟩) :=
  ⟨fun b o h => hb.below'.cell (p := ⟨b, o, none⟩) h, fun b o h => hb.below'.frozen (p := ⟨b, o, none⟩) h⟩

/-- what a call returns that makes a ring -/
def MakesRing (W : World) (xs : List Int) (k : Int) (e : Ending) (w' : World) : Prop := ∃ v, e = .returned (.tuple #[.agg #[v, .int .i64 k], .bool true]) ∧ Sl w' W.heap.size v xs ∧ Kp Nw W w'

theorem Rd.kp {w w' : World} {v : Value} {xs : List Int} {S : Nat → Prop} (h : Rd w v xs) (hk : Kp S w w') (hs : ∀ A n c, v = .slice (some A) n c → 0 < n → ¬ S A.block) : Rd w' v xs := by
  obtain ⟨A, c, rfl, hA⟩ := h
  refine ⟨A, c, rfl, fun k hlt => ?_⟩
  obtain ⟨g, o, rfl, hc⟩ := hA k hlt
  exact ⟨g, o, rfl, (hk.cell (World.block_lt_of_cell? w _ hc) (hs ⟨g, o, none⟩ xs.length c rfl (Nat.lt_of_le_of_lt (Nat.zero_le _) hlt))).trans hc⟩
theorem Rd.nw {w w' : World} {v : Value} {xs : List Int} (h : Rd w v xs) (hk : Kp Nw w w') : Rd w' v xs := h.kp hk (fun _ _ _ _ _ hs => hs)

end Go.Proofs.YtcekobdnghllcacDoor
