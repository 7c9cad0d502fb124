/- Decks in the model: whether a list is a deck, equal counts, the order of dealing with counts, and the deck that is dealt as an order; no condition but that lists are at most a thousand long where so said. -/
import Derived.Test.YtcfghaeogbimeaaGoodS
import Derived.Test.YtcfghaeogbimeaaTurn
namespace Go.Proofs.Ytcfghaeogbimeaa
open Go.ChangeShapes Go.WideShapes Go.ChangeAt Go.RowKit

/-- a number in a range -/
def okR (lo hi x : Int) : Bool := decide (lo ≤ x ∧ x ≤ hi)
theorem okR_get {lo hi : Int} {xs : List Int} (h : xs.all (okR lo hi) = true) (j : Nat) (hj : j < xs.length) : lo ≤ xs.getD j 0 ∧ xs.getD j 0 ≤ hi := by
  have := List.all_eq_true.1 h (xs[j]) (List.getElem_mem _)
  simp [okR] at this
  simpa [hj] using this

/-- is a list a deck? -/
def deckB (xs : List Int) : Bool := decide (1 ≤ xs.length ∧ xs.length ≤ 104) && decide (xs.all okB = true ∧ xs.Nodup)
theorem deckB_parts {xs : List Int} (h : deckB xs = true) : 1 ≤ xs.length ∧ xs.length ≤ 104 ∧ xs.all okB = true ∧ xs.Nodup := by
  unfold deckB at h
  rw [Bool.and_eq_true, decide_eq_true_eq, decide_eq_true_eq] at h
  exact ⟨h.1.1, h.1.2, h.2.1, h.2.2⟩
theorem deckB_off {xs : List Int} (h : ¬ (1 ≤ xs.length ∧ xs.length ≤ 104)) : deckB xs = false := by
  unfold deckB; rw [decide_eq_false h]; rfl
theorem deckB_on {xs : List Int} (h : 1 ≤ xs.length ∧ xs.length ≤ 104) : deckB xs = decide (xs.all okB = true ∧ xs.Nodup) := by
  unfold deckB; rw [decide_eq_true h]; rfl

/-- are numbers counts for so many cards? -/
def countsB (n : Nat) (us : List Int) : Bool := decide (us.length = n) && us.all (okR 0 1000)
/-- the order of dealing with counts -/
def deal : List Int → List Int → List Int
  | _, [] => []
  | l, u :: us => who (u + 1) l :: deal (rest (u + 1) l) us
theorem deal_length : ∀ (us l : List Int), (deal l us).length = us.length
  | [], l => rfl
  | u :: us, l => by rw [deal, List.length_cons, deal_length us, List.length_cons]
theorem deal_same (u : Int) : ∀ (n : Nat) (l : List Int), deal l (List.replicate n u) = outs (u + 1) n l
  | 0, l => rfl
  | n + 1, l => by rw [List.replicate_succ, deal, outs, deal_same u n]
theorem rest_memD (k : Int) (l : List Int) (x : Int) (h : x ∈ rest k l) : x ∈ l := by
  unfold rest at h
  rcases List.mem_append.1 h with h | h
  · exact List.mem_of_mem_drop h
  · exact List.mem_of_mem_take h
theorem who_memD (k : Int) (l : List Int) (h : 0 < l.length) : who k l ∈ l := by
  have hp := place_lt k l.length h
  unfold who
  simp only [List.getD, List.getElem?_eq_getElem hp, Option.getD_some]
  exact List.getElem_mem _
theorem deal_mem : ∀ (us l : List Int), us.length ≤ l.length → ∀ x ∈ deal l us, x ∈ l
  | [], l, _, x, h => by simp [deal] at h
  | u :: us, l, hl, x, h => by
    rw [List.length_cons] at hl
    rw [deal] at h
    rcases List.mem_cons.1 h with rfl | h
    · exact who_memD _ _ (by omega)
    · have := rest_length (u + 1) l (by omega)
      exact rest_memD _ _ _ (deal_mem us _ (by omega) x h)

end Go.Proofs.Ytcfghaeogbimeaa
