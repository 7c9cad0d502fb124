/- Decks in the model: whether a list is a deck, equal counts, the order of dealing with counts, and the deck that is dealt as an order; no condition but that lists are at most a thousand long where so said. -/
import Derived.Test.YtpajmgonceepoabDoorGoodS
import Derived.Test.YtpajmgonceepoabDoorTurn
namespace Go.Proofs.YtpajmgonceepoabDoor
open Go.ChangeShapes Go.WideShapes Go.ChangeAt Go.RowKit

/-- a number in a range -/
def okR (lo hi x : Int) : Bool := decide (lo ≤ x ∧ x ≤ hi)
set_option maxHeartbeats 400000 in
theorem l1All_rng (lo hi : Int) (v : Value) (xs : List Int) (W : World) (hv : Rd W v xs) (hl : xs.length ≤ 2000000) :
    Calls Tryd.prog 25 #[v, .int .i64 lo, .int .i64 hi] W fun e w' => e = .returned (.bool (xs.all (okR lo hi))) ∧ W = w' := by
  obtain ⟨n, hn⟩ : ∃ n, xs.length = n := ⟨_, rfl⟩
  obtain ⟨A, c, rfl, hA⟩ := hv
  rw [hn] at hl ⊢
  have HN := Lib.hid hn
  have HA := Lib.hid hA
  clear hn hA
  go_enter Tryd.func25, Tryd.ntmps25
  go_wp2
  go_loop [8, 11] (fun _ i => ∃ j : Nat, j ≤ n ∧ i = .int .i64 j ∧ (xs.take j).all (okR lo hi) = true) (fun _ i => n - (intOf i).toNat)
  case atStart => exact ⟨0, Nat.zero_le _, rfl, by simp⟩
  case round =>
    obtain ⟨j, hj, rfl, hf⟩ := hrel
    have HF := Lib.hid hf
    clear hf
    by_cases hlt : j < n
    · obtain ⟨g, o, rfl, hc⟩ := HA.out j (by rw [HN.out]; exact hlt)
      have hl' : j < xs.length := by rw [HN.out]; exact hlt
      obtain ⟨y, hy⟩ : ∃ y, xs.getD j 0 = y := ⟨_, rfl⟩
      have hx : xs[j] = y := by rw [← hy]; simp [hl']
      rw [hy] at hc
      have HT : Hid ((xs.take (j + 1)).all (okR lo hi) = ((xs.take j).all (okR lo hi) && okR lo hi y)) := Lib.hid (by rw [List.take_succ_eq_append_getElem hl', List.all_append, hx]; simp)
      have HM : Hid (y ∈ xs) := Lib.hid (by rw [← hx]; exact List.getElem_mem _)
      have h2 : (0 : Int) ≤ j := Int.natCast_nonneg _
      have h3 : (j : Int) < n := by omega
      clear hy hx hl'
      by_cases e : lo ≤ y ∧ y ≤ hi
      · obtain ⟨e1, e2⟩ := e
        have HY : Hid (okR lo hi y = true) := Lib.hid (decide_eq_true ⟨e1, e2⟩)
        go_wp2_with (first | ((with_reducible refine (l1In_yes _ _ _ _ e1 e2).mono ?_); rintro e w' ⟨rfl, rfl⟩))
        go_round
        case rel => exact ⟨j + 1, by omega, by go_num, by rw [HT.out, HF.out, HY.out]; rfl⟩
        case measure => simp [intOf]; omega
      · have e' : y < lo ∨ hi < y := by omega
        have HY : Hid (xs.all (okR lo hi) = false) := Lib.hid (by
          rw [List.all_eq_false]
          exact ⟨y, HM.out, by simp [okR]; omega⟩)
        go_wp2_with (first | ((with_reducible refine (l1In_no _ _ _ _ e').mono ?_); rintro e w' ⟨rfl, rfl⟩))
        go_ret
        exact ⟨ret_bool HY.out.symm, rfl⟩
    · have e : j = n := by omega
      subst e
      have HY : Hid (xs.all (okR lo hi) = true) := Lib.hid (by have := HF.out; rwa [List.take_of_length_le (by rw [HN.out]; exact Nat.le_refl _)] at this)
      go_wp2
      go_ret
      exact ⟨ret_bool HY.out.symm, rfl⟩

theorem l1All_rng_as (lo hi : Int) (v : Value) (xs : List Int) (b : Bool) (W : World) (hv : Rd W v xs) (hl : xs.length ≤ 2000000) (hb : xs.all (okR lo hi) = b) :
    Calls Tryd.prog 25 #[v, .int .i64 lo, .int .i64 hi] W fun e w' => e = .returned (.bool b) ∧ W = w' := by
  subst hb
  exact l1All_rng lo hi v xs W hv hl
theorem okR_get {lo hi : Int} {xs : List Int} (h : xs.all (okR lo hi) = true) (j : Nat) (hj : j < xs.length) : lo ≤ xs.getD j 0 ∧ xs.getD j 0 ≤ hi := by
  have := List.all_eq_true.1 h (xs[j]) (List.getElem_mem _)
  simp [okR] at this
  simpa [hj] using this

/-- is a list a deck? -/
def deckB (xs : List Int) : Bool := decide (1 ≤ xs.length ∧ xs.length ≤ 104) && decide (xs.all okB = true ∧ xs.Nodup)
theorem deckB_parts {xs : List Int} (h : deckB xs = true) : 1 ≤ xs.length ∧ xs.length ≤ 104 ∧ xs.all okB = true ∧ xs.Nodup := by
  unfold deckB at h
  rw [Bool.and_eq_true, decide_eq_true_eq, decide_eq_true_eq] at h
  exact ⟨h.1.1, h.1.2, h.2.1, h.2.2⟩
theorem deckB_off {xs : List Int} (h : ¬ (1 ≤ xs.length ∧ xs.length ≤ 104)) : deckB xs = false := by
  unfold deckB; rw [decide_eq_false h]; rfl
theorem deckB_on {xs : List Int} (h : 1 ≤ xs.length ∧ xs.length ≤ 104) : deckB xs = decide (xs.all okB = true ∧ xs.Nodup) := by
  unfold deckB; rw [decide_eq_true h]; rfl

/-- are numbers counts for so many cards? -/
def countsB (n : Nat) (us : List Int) : Bool := decide (us.length = n) && us.all (okR 0 1000)
/-- the order of dealing with counts -/
def deal : List Int → List Int → List Int
  | _, [] => []
  | l, u :: us => who (u + 1) l :: deal (rest (u + 1) l) us
theorem deal_length : ∀ (us l : List Int), (deal l us).length = us.length
  | [], l => rfl
  | u :: us, l => by rw [deal, List.length_cons, deal_length us, List.length_cons]
theorem deal_same (u : Int) : ∀ (n : Nat) (l : List Int), deal l (List.replicate n u) = outs (u + 1) n l
  | 0, l => rfl
  | n + 1, l => by rw [List.replicate_succ, deal, outs, deal_same u n]
theorem rest_memD (k : Int) (l : List Int) (x : Int) (h : x ∈ rest k l) : x ∈ l := by
  unfold rest at h
  rcases List.mem_append.1 h with h | h
  · exact List.mem_of_mem_drop h
  · exact List.mem_of_mem_take h
theorem who_memD (k : Int) (l : List Int) (h : 0 < l.length) : who k l ∈ l := by
  have hp := place_lt k l.length h
  unfold who
  simp only [List.getD, List.getElem?_eq_getElem hp, Option.getD_some]
  exact List.getElem_mem _
theorem deal_mem : ∀ (us l : List Int), us.length ≤ l.length → ∀ x ∈ deal l us, x ∈ l
  | [], l, _, x, h => by simp [deal] at h
  | u :: us, l, hl, x, h => by
    rw [List.length_cons] at hl
    rw [deal] at h
    rcases List.mem_cons.1 h with rfl | h
    · exact who_memD _ _ (by omega)
    · have := rest_length (u + 1) l (by omega)
      exact rest_memD _ _ _ (deal_mem us _ (by omega) x h)

end Go.Proofs.YtpajmgonceepoabDoor
