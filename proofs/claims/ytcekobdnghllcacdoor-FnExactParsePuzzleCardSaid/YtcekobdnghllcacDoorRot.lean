/- The plain mathematics of a circle of which one after the other goes: a turned list without the one who goes is the turned rest. -/
import Derived.Test.YtcekobdnghllcacDoorTurn
namespace Go.Proofs.YtcekobdnghllcacDoor

/-- a list from an index on, around -/
def rot {α : Type} (l : List α) (i : Nat) : List α := l.drop i ++ l.take i
theorem rot_length {α : Type} (l : List α) (i : Nat) : (rot l i).length = l.length := by simp [rot]; omega
theorem rot_getD {α : Type} (l : List α) (i a : Nat) (d : α) (hi : i < l.length) (ha : a < l.length) : (rot l i).getD a d = l.getD ((i + a) % l.length) d := by
  unfold rot
  by_cases h : i + a < l.length
  · rw [Nat.mod_eq_of_lt h]
    simp only [List.getD]
    rw [List.getElem?_append_left (by simp; omega), List.getElem?_drop]
  · have e : (i + a) % l.length = i + a - l.length := by rw [Nat.mod_eq_sub_mod (by omega), Nat.mod_eq_of_lt (by omega)]
    rw [e]
    simp only [List.getD]
    rw [List.getElem?_append_right (by simp; omega), List.length_drop, List.getElem?_take, if_pos (by omega)]
    congr 2
    omega

theorem rot_rest {α : Type} (l : List α) (i a : Nat) (hi : i < l.length) (ha : a < l.length) :
    (rot l i).drop (a + 1) ++ (rot l i).take a = l.drop ((i + a) % l.length + 1) ++ l.take ((i + a) % l.length) := by
  unfold rot
  by_cases h : i + a < l.length
  · rw [Nat.mod_eq_of_lt h, List.drop_append_of_le_length (by simp; omega), List.take_append_of_le_length (by simp; omega), List.drop_drop, show i + (a + 1) = i + a + 1 by omega, List.append_assoc]
    congr 1
    rw [List.take_add]
  · have e : (i + a) % l.length = i + a - l.length := by rw [Nat.mod_eq_sub_mod (by omega), Nat.mod_eq_of_lt (by omega)]
    rw [e, List.drop_append, List.take_append]
    have e1 : (l.drop i).drop (a + 1) = [] := List.drop_eq_nil_of_le (by simp; omega)
    have e2 : (l.drop i).take a = l.drop i := List.take_of_length_le (by simp; omega)
    rw [e1, e2, List.nil_append, List.length_drop, ← List.append_assoc, List.take_take, Nat.min_eq_left (by omega)]
    rw [show a + 1 - (l.length - i) = i + a - l.length + 1 by omega, show a - (l.length - i) = i + a - l.length by omega]
    congr 1
    rw [List.drop_take]
    have h3 := List.take_append_drop (i - (i + a - l.length + 1)) (l.drop (i + a - l.length + 1))
    rw [List.drop_drop, show i + a - l.length + 1 + (i - (i + a - l.length + 1)) = i by omega] at h3
    exact h3

theorem erase_rot {α : Type} (l : List α) (j : Nat) (hj : j < l.length) (h2 : 2 ≤ l.length) : rot (l.eraseIdx j) (j % (l.length - 1)) = l.drop (j + 1) ++ l.take j := by
  rw [List.eraseIdx_eq_take_drop_succ]
  unfold rot
  by_cases h : j < l.length - 1
  · rw [Nat.mod_eq_of_lt h, List.drop_append_of_le_length (by simp; omega), List.take_append_of_le_length (by simp; omega)]
    rw [List.drop_eq_nil_of_le (by simp; omega), List.nil_append, List.take_take, Nat.min_self]
  · have e : j = l.length - 1 := by omega
    rw [e, Nat.mod_self, List.drop_zero, List.take_zero, List.append_nil]
    rw [List.drop_eq_nil_of_le (by omega), List.append_nil, List.nil_append]

/-- one turn forward, told from the one who is next on -/
theorem rest_rot {α : Type} (k : Int) (l : List α) (i : Nat) (hi : i < l.length) (h2 : 2 ≤ l.length) :
    rest k (rot l i) = rot (l.eraseIdx ((i + place k l.length) % l.length)) ((i + place k l.length) % l.length % (l.length - 1)) := by
  have hp := place_lt k l.length (by omega)
  rw [erase_rot l _ (Nat.mod_lt _ (by omega)) h2]
  unfold rest
  rw [rot_length, rot_rest l i _ hi hp]

/-- who goes, among people -/
def whoP (k : Int) (l : List (Int × Int)) : Int × Int := l.getD (place k l.length) (0, 0)
def outsP (k : Int) : Nat → List (Int × Int) → List (Int × Int)
  | 0, _ => []
  | t + 1, l => whoP k l :: outsP k t (rest k l)
theorem rest_map {α β : Type} (f : α → β) (k : Int) (l : List α) : rest k (l.map f) = (rest k l).map f := by simp [rest]
theorem who_map (k : Int) (l : List (Int × Int)) : who k (l.map (·.2)) = (whoP k l).2 := by
  unfold who whoP
  simp only [List.getD, List.length_map, List.getElem?_map]
  cases l[place k l.length]? <;> rfl
theorem outs_map (k : Int) : ∀ (t : Nat) (l : List (Int × Int)), outs k t (l.map (·.2)) = (outsP k t l).map (·.2)
  | 0, _ => rfl
  | t + 1, l => by rw [outs, outsP, List.map_cons, who_map, rest_map, outs_map k t]
theorem lefts_map {α β : Type} (f : α → β) (k : Int) : ∀ (t : Nat) (l : List α), lefts k t (l.map f) = (lefts k t l).map f
  | 0, _ => rfl
  | t + 1, l => by rw [lefts, lefts, rest_map, lefts_map f k t]
theorem lefts_length {α : Type} (k : Int) : ∀ (t : Nat) (l : List α), t ≤ l.length → (lefts k t l).length = l.length - t
  | 0, l, _ => by simp [lefts]
  | t + 1, l, h => by
    have := rest_length k l (by omega)
    rw [lefts, lefts_length k t _ (by omega)]
    omega
theorem lefts_succ {α : Type} (k : Int) : ∀ (t : Nat) (l : List α), lefts k (t + 1) l = rest k (lefts k t l)
  | 0, _ => rfl
  | t + 1, l => by rw [lefts, lefts_succ k t]; rfl
theorem outsP_succ (k : Int) : ∀ (t : Nat) (l : List (Int × Int)), outsP k (t + 1) l = outsP k t l ++ [whoP k (lefts k t l)]
  | 0, _ => rfl
  | t + 1, l => by rw [outsP, outsP_succ k t, outsP, lefts]; rfl
theorem outsP_length (k : Int) : ∀ (t : Nat) (l : List (Int × Int)), (outsP k t l).length = t
  | 0, _ => rfl
  | t + 1, l => by rw [outsP, List.length_cons, outsP_length k t]
end Go.Proofs.YtcekobdnghllcacDoor
