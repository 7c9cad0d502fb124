/- The model's reading of a ring's text (ParseRing): the two parts, the step, the numbers, and whether they make a ring. -/
import Derived.Test.YtpajmgonceepoaaDoorPure
import Derived.Test.YtpajmgonceepoaaDoorStepFn
import Derived.Test.YtpajmgonceepoaaDoorNumS
import Derived.Deep.RegionLaw
namespace Go.Proofs.YtpajmgonceepoaaDoor
open Go.ChangeShapes Go.WideShapes Go.ChangeAt Go.RowKit

/-- a list of texts that is not empty: its slice and its cells -/
theorem SlT.at_ {w : World} {B : Nat} {v : Value} {ls : List (List UInt8)} (h : SlT w B v ls) (hp : 0 < ls.length) :
    ∃ g cap, v = .slice (some ⟨g, 0, none⟩) ls.length cap ∧ ls.length ≤ cap ∧ B ≤ g ∧ g < w.heap.size ∧ ∀ j, j < ls.length → w.cell? ⟨g, j, none⟩ = some (sval (ls.getD j [])) := by
  rcases h.2 with ⟨rfl, hn⟩ | ⟨g, cap, cur, rfl, hb, hg, h1, h2, h3, h4⟩
  · omega
  · refine ⟨g, cap, rfl, h1, hb, (Array.getElem?_eq_some_iff.1 hg).1, fun j hj => ?_⟩
    have e : cur.toList[j]? = (ls.map sval)[j]? := by
      rw [← h4, List.getElem?_take_of_lt (by omega)]
    simp only [World.cell?, hg]
    rw [← Array.getElem?_toList, e]
    simp [hj]

theorem l1Num_mil (W : World) : Calls Tryd.prog 28 #[.int .i64 1000000] W fun e w' => e = .returned (.string ⟨mil.toArray⟩) ∧ Kp Nw W w' := l1Num_any 1000001 1000000 W (by omega) (by omega)

end Go.Proofs.YtpajmgonceepoaaDoor
