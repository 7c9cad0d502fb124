/- Counts that turn in the model: orders, last ones, turns, tables; no condition but what the chapter asks. -/
import Derived.Test.YtjlbillfbhkamaaBoth
import Derived.Test.YtjlbillfbhkamaaFrom
import Derived.Test.YtjlbillfbhkamaaLow
import Derived.Test.YtjlbillfbhkamaaAt
import Derived.Test.YtjlbillfbhkamaaLaws
namespace Go.Proofs.Ytjlbillfbhkamaa
open Go.ChangeShapes Go.WideShapes Go.ChangeAt Go.RowKit

/-- the last one of a count forth and back -/
def lastB (f b : Int) (n : Nat) : Int := (boT f b (marks 0 n) n).getD (n - 1) 0
/-- the last ones of counts that turn for the first steps -/
def tabB (n j : Nat) : List Int := (List.range j).map (fun i : Nat => lastB ((i : Int) + 1) ((i : Int) + 1) n)
theorem tabB_length (n j : Nat) : (tabB n j).length = j := by unfold tabB; simp
theorem tabB_snoc (n j : Nat) : tabB n (j + 1) = tabB n j ++ [lastB ((j : Int) + 1) ((j : Int) + 1) n] := by unfold tabB; rw [List.range_succ, List.map_append]; rfl
/-- the first steps with the same last one, turning or not -/
def sameB (n : Nat) : Nat → List Int
  | 0 => []
  | j + 1 => if lastB ((j : Int) + 1) ((j : Int) + 1) n = lastN ((j : Int) + 1) (n - 1) then sameB n j ++ [(j : Int) + 1] else sameB n j
theorem sameB_le (n : Nat) : ∀ j, (sameB n j).length ≤ j
  | 0 => Nat.le_refl 0
  | j + 1 => by
    have := sameB_le n j
    rw [sameB]
    split
    · rw [List.length_append]; simp; exact this
    · omega
theorem boAsked_yes (p f b : Int) (w : World) (h1 : Asked p f) (h2 : Asked p b) : Calls Try.prog 27 #[.int .i64 p, .int .i64 f, .int .i64 b] w fun e w' => e = .returned (.bool true) ∧ w = w' := by
  go_enter Try.func27, Try.ntmps27
  go_wp2_with (first | ((with_reducible refine (ciAsked_yes p f _ h1).mono ?_); rintro e w' ⟨rfl, rfl⟩) | ((with_reducible refine (ciAsked_yes p b _ h2).mono ?_); rintro e w' ⟨rfl, rfl⟩))
  go_ret
  exact ⟨rfl, rfl⟩
theorem boAsked_no (p f b : Int) (w : World) (h : ¬ (Asked p f ∧ Asked p b)) : Calls Try.prog 27 #[.int .i64 p, .int .i64 f, .int .i64 b] w fun e w' => e = .returned (.bool false) ∧ w = w' := by
  by_cases h1 : Asked p f
  · have h2 : ¬ Asked p b := fun h2 => h ⟨h1, h2⟩
    go_enter Try.func27, Try.ntmps27
    go_wp2_with (first | ((with_reducible refine (ciAsked_yes p f _ h1).mono ?_); rintro e w' ⟨rfl, rfl⟩) | ((with_reducible refine (ciAsked_no p b _ h2).mono ?_); rintro e w' ⟨rfl, rfl⟩))
    go_ret
    exact ⟨rfl, rfl⟩
  · go_enter Try.func27, Try.ntmps27
    go_wp2_with (first | ((with_reducible refine (ciAsked_no p f _ h1).mono ?_); rintro e w' ⟨rfl, rfl⟩))
    go_ret
    exact ⟨rfl, rfl⟩
end Go.Proofs.Ytjlbillfbhkamaa
