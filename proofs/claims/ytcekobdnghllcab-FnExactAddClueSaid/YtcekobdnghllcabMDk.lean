/- The texts Deck, DeckF, DeckS, DeckT, as one. -/
import Derived.Test.YtcekobdnghllcabGoodS
import Derived.Test.YtcekobdnghllcabTurn
import Derived.Test.YtcekobdnghllcabLaws
import Derived.Test.YtcekobdnghllcabRot
import Derived.Deep.RegionLaw
namespace Go.Proofs.Ytcekobdnghllcab
open Go.ChangeShapes Go.WideShapes Go.ChangeAt Go.RowKit

/-- a number in a range -/
def okR (lo hi x : Int) : Bool := decide (lo ≤ x ∧ x ≤ hi)
theorem okR_get {lo hi : Int} {xs : List Int} (h : xs.all (okR lo hi) = true) (j : Nat) (hj : j < xs.length) : lo ≤ xs.getD j 0 ∧ xs.getD j 0 ≤ hi := by
  have := List.all_eq_true.1 h (xs[j]) (List.getElem_mem _)
  simp [okR] at this
  simpa [hj] using this

/-- is a list a deck? -/
def deckB (xs : List Int) : Bool := decide (1 ≤ xs.length ∧ xs.length ≤ 104) && decide (xs.all okB = true ∧ xs.Nodup)
theorem deckB_parts {xs : List Int} (h : deckB xs = true) : 1 ≤ xs.length ∧ xs.length ≤ 104 ∧ xs.all okB = true ∧ xs.Nodup := by
  unfold deckB at h
  rw [Bool.and_eq_true, decide_eq_true_eq, decide_eq_true_eq] at h
  exact ⟨h.1.1, h.1.2, h.2.1, h.2.2⟩
theorem deckB_off {xs : List Int} (h : ¬ (1 ≤ xs.length ∧ xs.length ≤ 104)) : deckB xs = false := by
  unfold deckB; rw [decide_eq_false h]; rfl
theorem deckB_on {xs : List Int} (h : 1 ≤ xs.length ∧ xs.length ≤ 104) : deckB xs = decide (xs.all okB = true ∧ xs.Nodup) := by
  unfold deckB; rw [decide_eq_true h]; rfl

/-- are numbers counts for so many cards? -/
def countsB (n : Nat) (us : List Int) : Bool := decide (us.length = n) && us.all (okR 0 1000)
/-- the order of dealing with counts -/
def deal : List Int → List Int → List Int
  | _, [] => []
  | l, u :: us => who (u + 1) l :: deal (rest (u + 1) l) us
theorem deal_length : ∀ (us l : List Int), (deal l us).length = us.length
  | [], l => rfl
  | u :: us, l => by rw [deal, List.length_cons, deal_length us, List.length_cons]
theorem deal_same (u : Int) : ∀ (n : Nat) (l : List Int), deal l (List.replicate n u) = outs (u + 1) n l
  | 0, l => rfl
  | n + 1, l => by rw [List.replicate_succ, deal, outs, deal_same u n]
theorem rest_memD (k : Int) (l : List Int) (x : Int) (h : x ∈ rest k l) : x ∈ l := by
  unfold rest at h
  rcases List.mem_append.1 h with h | h
  · exact List.mem_of_mem_drop h
  · exact List.mem_of_mem_take h
theorem who_memD (k : Int) (l : List Int) (h : 0 < l.length) : who k l ∈ l := by
  have hp := place_lt k l.length h
  unfold who
  simp only [List.getD, List.getElem?_eq_getElem hp, Option.getD_some]
  exact List.getElem_mem _
theorem deal_mem : ∀ (us l : List Int), us.length ≤ l.length → ∀ x ∈ deal l us, x ∈ l
  | [], l, _, x, h => by simp [deal] at h
  | u :: us, l, hl, x, h => by
    rw [List.length_cons] at hl
    rw [deal] at h
    rcases List.mem_cons.1 h with rfl | h
    · exact who_memD _ _ (by omega)
    · have := rest_length (u + 1) l (by omega)
      exact rest_memD _ _ _ (deal_mem us _ (by omega) x h)

end Go.Proofs.Ytcekobdnghllcab
namespace Go.Proofs.Ytcekobdnghllcab
open Go.ChangeShapes Go.WideShapes Go.ChangeAt Go.RowKit

theorem SlAt.kd {w w' : World} {B g cap n : Nat} {xs : List Int} {S : Nat → Prop} (h : SlAt w B g cap n xs) (hk : Kp S w w') (hs : ¬ S g) : SlAt w' B g cap n xs := by
  have h1 := h.sl.kp hk (fun g' e => by
    have e' : g' = g := by simp [Value.ownBlock] at e; omega
    rw [e']; exact hs)
  refine ⟨h.1, ?_⟩
  unfold Sl at h1
  rw [h.1] at h1
  exact h1
theorem marks_mem (n : Nat) (x : Int) (h : x ∈ marks 0 n) : 0 ≤ x ∧ x < n := by
  unfold marks at h
  simp at h
  omega
/-- cards laid at places, one after the other -/
def scatN (os ps : List Int) : Nat → List Int
  | 0 => List.replicate os.length 0
  | j + 1 => (scatN os ps j).set (ps.getD j 0).toNat (os.getD j 0)
theorem scatN_length (os ps : List Int) : ∀ j, (scatN os ps j).length = os.length
  | 0 => by simp [scatN]
  | j + 1 => by rw [scatN, List.length_set, scatN_length os ps j]
def scat (os ps : List Int) : List Int := scatN os ps ps.length
theorem scat_length (os ps : List Int) : (scat os ps).length = os.length := scatN_length _ _ _

end Go.Proofs.Ytcekobdnghllcab
namespace Go.Proofs.Ytcekobdnghllcab
open Go.ChangeShapes Go.WideShapes Go.ChangeAt Go.RowKit

theorem okR_rep (u : Int) (n : Nat) (u0 : 0 ≤ u) (u1 : u ≤ 1000) : (List.replicate n u).all (okR 0 1000) = true := by
  rw [List.all_eq_true]
  intro y hy
  rw [List.eq_of_mem_replicate hy]
  exact decide_eq_true ⟨u0, u1⟩

end Go.Proofs.Ytcekobdnghllcab
namespace Go.Proofs.Ytcekobdnghllcab
open Go.ChangeShapes Go.WideShapes Go.ChangeAt Go.RowKit

theorem Sl.lit1 (w : World) (x : Int) : Sl (w.alloc (.cells #[.int .i64 x] 3)) w.heap.size (.slice (some ⟨w.heap.size, 0, none⟩) 1 1) [x] :=
  ⟨by simp, .inr ⟨w.heap.size, 1, #[.int .i64 x], rfl, Nat.le_refl _, heap_alloc_new w _, Nat.le_refl _, by unfold maxLen; omega, by simp, by simp⟩⟩
theorem Sl.lit2 (w : World) (x y : Int) : Sl (w.alloc (.cells #[.int .i64 x, .int .i64 y] 3)) w.heap.size (.slice (some ⟨w.heap.size, 0, none⟩) 2 2) [x, y] :=
  ⟨by simp, .inr ⟨w.heap.size, 2, #[.int .i64 x, .int .i64 y], rfl, Nat.le_refl _, heap_alloc_new w _, Nat.le_refl _, by unfold maxLen; omega, by simp, by simp⟩⟩

/-- deals that are repeated -/
def deals (u : Int) : Nat → List Int → List Int
  | 0, l => l
  | t + 1, l => deals u t (deal l (List.replicate l.length u))
theorem deals_length (u : Int) : ∀ (t : Nat) (l : List Int), (deals u t l).length = l.length
  | 0, l => rfl
  | t + 1, l => by rw [deals, deals_length u t, deal_length, List.length_replicate]

end Go.Proofs.Ytcekobdnghllcab
