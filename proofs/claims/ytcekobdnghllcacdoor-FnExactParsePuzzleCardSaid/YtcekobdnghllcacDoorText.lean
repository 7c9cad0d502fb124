/- The text of a ring in the model (ciText, RingText): the step's digits, an at sign, the numbers' digits with commas between them; no condition but that the ring's slice is at the head of a row of its own. -/
import Derived.Test.YtcekobdnghllcacDoorNumS
import Derived.Test.YtcekobdnghllcacDoorRingFn
import Derived.Lib.Join
namespace Go.Proofs.YtcekobdnghllcacDoor
open Go.ChangeShapes Go.WideShapes Go.ChangeAt Go.RowKit

/-- the digits of a number that is not negative -/
def dgs (x : Int) : List UInt8 := Lib.decDigits x.toNat
/-- the numbers' digits with commas between them -/
def numsText (xs : List Int) : List UInt8 := Lib.join (xs.map dgs) [44]
/-- a ring's text -/
def ringText (xs : List Int) (k : Int) : List UInt8 := dgs k ++ [64] ++ numsText xs

theorem numsText_nil : numsText [] = [] := rfl
theorem numsText_one (x : Int) : numsText [x] = dgs x := Lib.join_one _ _
theorem numsText_snoc (xs : List Int) (x : Int) (h : xs ≠ []) : numsText (xs ++ [x]) = numsText xs ++ [44] ++ dgs x := by
  cases xs with
  | nil => exact absurd rfl h
  | cons y r =>
    unfold numsText
    simp only [List.map_append, List.map_cons, List.map_nil, List.cons_append]
    rw [Lib.join_cons, Lib.join_cons]
    simp [Lib.joinTail]
theorem dgs_length (x : Int) (h : x ≤ 100000000) : (dgs x).length ≤ 20 := digits_length _ (by omega)
theorem numsText_length : ∀ (xs : List Int), (∀ x ∈ xs, x ≤ 1000) → (numsText xs).length ≤ xs.length * 21 := by
  intro xs h
  unfold numsText
  cases xs with
  | nil => simp [Lib.join_nil]
  | cons y r =>
    rw [List.map_cons, Lib.join_cons, List.length_append]
    have hy := dgs_length y (by have := h y (by simp); omega)
    have key : ∀ (r : List Int), (∀ x ∈ r, x ≤ 1000) → (Lib.joinTail [44] (r.map dgs)).length ≤ r.length * 21 := by
      intro r
      induction r with
      | nil => intro _; simp [Lib.joinTail]
      | cons z s ih =>
        intro hz
        have h1 := ih (fun x hx => hz x (by simp [hx]))
        have h2 := dgs_length z (by have := hz z (by simp); omega)
        simp only [Lib.joinTail, List.map_cons, List.flatten_cons, List.length_append, List.length_cons, List.length_nil] at h1 ⊢
        omega
    have := key r (fun x hx => h x (by simp [hx]))
    simp only [List.length_cons]
    omega

theorem str_app (a b : List UInt8) : Value.string (ByteArray.mk a.toArray ++ ByteArray.mk b.toArray) = .string ⟨(a ++ b).toArray⟩ := by rw [ByteArray.mk_append_mk]

theorem good_all {xs : List Int} {k : Int} (h : goodB xs k = true) : ∀ x ∈ xs, 0 ≤ x ∧ x ≤ 999 := by
  unfold goodB at h
  rw [Bool.and_eq_true] at h
  have h2 := (of_decide_eq_true h.2).1
  intro x hx
  have := List.all_eq_true.1 h2 x hx
  simpa [okB] using this

end Go.Proofs.YtcekobdnghllcacDoor
