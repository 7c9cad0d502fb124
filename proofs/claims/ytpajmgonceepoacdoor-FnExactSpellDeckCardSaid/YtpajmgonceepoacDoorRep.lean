/- Cats with as many lives each (EvenCats), in the program and in the model, and slices.Repeat of one element; no condition but that there are at most a thousand. -/
import Derived.Test.YtpajmgonceepoacDoorCats
import Derived.Test.YtpajmgonceepoacDoorShelf
import Derived.Laws.CopyOwn
import Derived.Deep.RegionLaw
namespace Go.Proofs.YtpajmgonceepoacDoor
open Go.ChangeShapes Go.WideShapes Go.ChangeAt Go.RowKit

/-- a row of n cells of which the first j hold x, the others 0 -/
def rp (x : Int) (j n : Nat) : List Value := List.replicate j (Value.int .i64 x) ++ List.replicate (n - j) (Value.int .i64 0)
theorem rp_length (x : Int) (j n : Nat) (h : j ≤ n) : (rp x j n).length = n := by simp [rp]; omega
theorem splice_rp (x : Int) (j n m : Nat) (h : j + m ≤ n) : splice (rp x j n) j (List.replicate m (Value.int .i64 x)) = rp x (j + m) n := by
  have h1 : (rp x j n).take j = List.replicate j (Value.int .i64 x) := by
    unfold rp
    rw [List.take_append_of_le_length (by simp), List.take_of_length_le (by simp)]
  have h2 : (rp x j n).drop (j + m) = List.replicate (n - (j + m)) (Value.int .i64 0) := by
    unfold rp
    rw [List.drop_append, List.drop_eq_nil_of_le (by simp), List.nil_append, List.length_replicate, List.drop_replicate]
    congr 1
    omega
  unfold splice
  rw [List.length_replicate, h1, h2, ← List.append_assoc, List.replicate_append_replicate]
  rfl
theorem rp_get (x : Int) (j n i : Nat) (h : i < j) : (rp x j n)[i]? = some (.int .i64 x) := by
  unfold rp
  rw [List.getElem?_append_left (by simpa using h)]
  simp [h]
theorem slAt_rp {w : World} {B g n : Nat} {x : Int} (hg : w.heap[g]? = some (.cells (rp x n n).toArray 3 (0, 0))) (hB : B ≤ g) (hn : n ≤ 1000) : SlAt w B g n n (List.replicate n x) := by
  have e : rp x n n = List.replicate n (Value.int .i64 x) := by simp [rp]
  rw [e] at hg
  exact ⟨by simp, by simp, .inr ⟨g, n, _, rfl, hB, hg, Nat.le_refl _, by unfold maxLen; omega, by simp, by simp⟩⟩
theorem rp_made {w : World} {B g n : Nat} (x : Int) (h : w.ownsRow B 3 1 (.slice (some ⟨g, 0, none⟩) n n) n (madeCells #[Value.int .i64 0] n).toList) : w.heap[g]? = some (.cells (rp x 0 n).toArray 3 (0, 0)) := by
  have hs := (Sl.zeros h)
  rcases hs.2.2 with ⟨h', _⟩ | ⟨g', cap, cur, h', _, hg, _, _, hsz, ht⟩
  · simp at h'
  · simp only [Value.slice.injEq, Option.some.injEq, Addr.mk.injEq, and_true, true_and] at h'
    obtain ⟨rfl, rfl⟩ := h'
    have e : cur = (rp x 0 n).toArray := by
      have h3 : cur.toList = rp x 0 n := by
        rw [Nat.mul_one] at ht hsz
        rw [List.take_of_length_le (by simp [hsz])] at ht
        rw [ht]; simp [rp]
      rw [← h3]
    rw [hg, e]

end Go.Proofs.YtpajmgonceepoacDoor
