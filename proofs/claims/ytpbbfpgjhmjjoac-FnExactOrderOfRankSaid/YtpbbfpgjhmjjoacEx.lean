/- An exchange of the program, an array of twelve numbers: as a value, in memory; the one with everybody at the turn; no condition. -/
import Derived.Test.YtpbbfpgjhmjjoacMarks
import Derived.Test.YtpbbfpgjhmjjoacMake
import Derived.Test.YtpbbfpgjhmjjoacLaws
import Derived.Laws.ResultCell
import Derived.Deep.WholeRow
namespace Go.Proofs.Ytpbbfpgjhmjjoac
open Go.ChangeShapes Go.WideShapes Go.ChangeAt Go.RowKit

def exC (c : List Int) : List Value := c.map (Value.int .i64)
theorem exC_length (c : List Int) : (exC c).length = c.length := List.length_map _
theorem exC_get (c : List Int) (i : Nat) (h : i < c.length) : (exC c)[i]? = some (.int .i64 (c.getD i 0)) := by simp [exC, h]
theorem exC_set (c : List Int) (i : Nat) (x : Int) : (exC c).toArray.setIfInBounds i (.int .i64 x) = (exC (c.set i x)).toArray := by
  rw [List.setIfInBounds_toArray, exC, exC, List.map_set]
theorem exC_one (c : List Int) : ∀ v ∈ exC c, v.oneCell' = true := fun v hv => by
  obtain ⟨x, _, rfl⟩ := List.mem_map.1 hv
  rfl
theorem Kp.setRow' {S : Nat → Prop} {a w : World} (h : Kp S a w) {g : Nat} (hp : S g ∨ a.heap.size ≤ g) (cs : Array Value) : Kp S a (w.setRow g cs) :=
  ⟨h.os, h.tape, h.output, by simpa using h.size, fun i hi hs => (setRow_other w g i cs (by
    rintro rfl
    rcases hp with hp | hp
    · exact hs hp
    · omega)).trans (h.block i hi hs)⟩
def stpE (n : Nat) (j : Nat) : List Int := marks 0 j ++ (List.replicate n (0 : Int)).drop j
theorem stpE_len (n j : Nat) (h : j ≤ n) : (stpE n j).length = n := by unfold stpE; simp [marks_length]; omega
theorem stpE_set (n j : Nat) (h : j < n) : (stpE n j).set j (j : Int) = stpE n (j + 1) := by
  have := marks_step 0 (List.replicate n (0 : Int)) j (by simpa using h)
  rw [Int.zero_add] at this
  exact this
theorem stpE_all (n : Nat) : stpE n n = marks 0 n := by unfold stpE; rw [List.drop_of_length_le (by simp), List.append_nil]

end Go.Proofs.Ytpbbfpgjhmjjoac
