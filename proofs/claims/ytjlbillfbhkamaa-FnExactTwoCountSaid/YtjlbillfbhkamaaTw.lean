/- The program's circle in a count that turns stays the model's list, turn by turn; no condition but that there are at most a million people and the steps are at least 1 and at most a million. -/
import Derived.Test.YtjlbillfbhkamaaGoT
import Derived.Test.YtjlbillfbhkamaaFwd
import Derived.Test.YtjlbillfbhkamaaBack
import Derived.Test.YtjlbillfbhkamaaBoth
namespace Go.Proofs.Ytjlbillfbhkamaa
open Go.ChangeShapes Go.WideShapes Go.ChangeAt Go.RowKit

theorem boL_map {α β : Type} (g : α → β) (f b : Int) (l : List α) : ∀ j, boL f b (l.map g) j = (boL f b l j).map g
  | 0 => rfl
  | j + 1 => by rw [boL, boL, boL_map g f b l j, rest_map, List.map_reverse]

/-- the circle behind j turns of the people l0, told from the one from whom the next turn counts, in the way of that turn -/
def Tw (f b : Int) (l0 : List (Int × Int)) (C L cap : Nat) (k : Int) (w : World) (j : Nat) : Prop :=
  ∃ ps i q, Ci w C L cap ps q k ∧ ps.length + j = l0.length ∧ Diff ps ∧ (0 < ps.length → i < ps.length ∧ ps.getD i (0, 0) = q) ∧ (if j % 2 = 0 then rot ps i else back ps i) = boL f b l0 j

theorem Tw.kp {f b : Int} {l0 : List (Int × Int)} {C L cap : Nat} {k : Int} {j : Nat} {w w' : World} {S : Nat → Prop} (h : Tw f b l0 C L cap k w j) (hk : Kp S w w') (h1 : ¬ S C) (h2 : ¬ S L) : Tw f b l0 C L cap k w' j := by
  obtain ⟨ps, i, q, hC, hr⟩ := h
  exact ⟨ps, i, q, hC.kp hk h1 h2, hr⟩
theorem Tw.start {f b k : Int} {C L n : Nat} {w : World} {xs : List Int} (h : Ci w C L n (num xs) (0, xs.getD 0 0) k) (hp : 0 < xs.length) : Tw f b (num xs) C L n k w 0 :=
  ⟨num xs, 0, _, h, rfl, num_diff xs, fun _ => ⟨by rw [num_length]; exact hp, num_getD xs 0 hp⟩, by simp [rot, boL]⟩
theorem Tw.len {f b : Int} {l0 : List (Int × Int)} {C L cap : Nat} {k : Int} {j : Nat} {w : World} (h : Tw f b l0 C L cap k w j) : ∃ m : Nat, m + j = l0.length ∧ w.cell? ⟨C, 2, none⟩ = some (.slice (some ⟨L, 0, none⟩) m cap) := by
  obtain ⟨ps, i, q, hC, hn, _⟩ := h
  exact ⟨ps.length, hn, hC.cells.2.2.1⟩

/-- the step is told anew -/
theorem Ci.step {w : World} {C L cap : Nat} {ps : List (Int × Int)} {q : Int × Int} {k k' : Int} (h : Ci w C L cap ps q k) : Ci (w.setCell ⟨C, 3, none⟩ (.int .i64 k')) C L cap ps q k' :=
  ⟨Bk.set (C := C) h.1 3 (.int .i64 k'), h.2.other ⟨C, 3, none⟩ (fun e => h.ne e.symm) _⟩
theorem Tw.step {f b : Int} {l0 : List (Int × Int)} {C L cap : Nat} {k k' : Int} {j : Nat} {w : World} (h : Tw f b l0 C L cap k w j) : Tw f b l0 C L cap k' (w.setCell ⟨C, 3, none⟩ (.int .i64 k')) j := by
  obtain ⟨ps, i, q, hC, hr⟩ := h
  exact ⟨ps, i, q, hC.step, hr⟩

/-- who goes at a turn -/
def twW (f b : Int) (l0 : List (Int × Int)) (j : Nat) : Int × Int := whoP (stp f b j) (boL f b l0 j)
theorem boT_twW (f b : Int) (l0 : List (Int × Int)) (j : Nat) : boT f b (l0.map (·.2)) (j + 1) = boT f b (l0.map (·.2)) j ++ [(twW f b l0 j).2] := by
  rw [boT, boL_map, who_map]; rfl

end Go.Proofs.Ytjlbillfbhkamaa
