/- Appending a list of integers to a slice of the call's own, as one step of a walk (in a statement of fixed order, and in one that draws its order); making a slice of n zeros; no condition but that all are at most a thousand million. -/
import Derived.Test.YtcekobdnghllcabMarks
import Derived.Maps.AppendAt
import Derived.Deep.AppendLies
import Derived.RegionTactic
import Derived.Deep.RegionHeld3
namespace Go.Proofs.Ytcekobdnghllcab
open Go.ChangeShapes Go.WideShapes Go.ChangeAt Go.RowKit

theorem intInfo : (Try.prog.info? 3).map (fun i => (i.zero, i.size, i.bytes)) = some (some (.int .i64 0), 1, 8) := by kernel_rfl

theorem ints_one (xs : List Int) : ∀ u ∈ xs.map (Value.int .i64), u.oneCell' = true := by
  intro u hu
  obtain ⟨x, _, rfl⟩ := List.mem_map.1 hu
  rfl

theorem addr_add (g o j : Nat) : (⟨g, o, none⟩ : Addr).add j = ⟨g, o + j, none⟩ := by unfold Addr.add; split <;> simp_all

/-- an empty slice is nil or starts somewhere -/
def Vn (u : Value) (ys : List Int) : Prop := ys = [] → u = .slice none 0 0 ∨ ∃ (A : Addr) (c : Nat), u = .slice (some A) 0 c

/-- one integer in a block of its own -/
theorem Rd.one {w : World} {g : Nat} {k : Int} (h : w.cell? ⟨g, 0, none⟩ = some (.int .i64 k)) : Rd w (.slice (some ⟨g, 0, none⟩) 1 1) [k] :=
  ⟨_, 1, rfl, fun j hj => ⟨g, 0, rfl, by
    have e : j = 0 := by simpa using hj
    subst e
    exact h⟩⟩

theorem Sl.zeros {w : World} {B g n : Nat} (h : w.ownsRow B 3 1 (.slice (some ⟨g, 0, none⟩) n n) n (madeCells #[Value.int .i64 0] n).toList) : SlAt w B g n n (List.replicate n 0) := by
  refine ⟨by simp, ?_⟩
  rw [toList_madeCells_one] at h
  rw [List.map_replicate]
  exact h
end Go.Proofs.Ytcekobdnghllcab
