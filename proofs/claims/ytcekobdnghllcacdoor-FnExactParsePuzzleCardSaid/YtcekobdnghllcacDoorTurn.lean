/- The model's turn and order: what the functions of the model that copy a list, let one go and count all out return is told by plain lists; no condition but that the lists are at most a million long and the step is at least 1. -/
import Derived.Test.YtcekobdnghllcacDoorMake
import Derived.IntWalk
namespace Go.Proofs.YtcekobdnghllcacDoor
open Go.ChangeShapes Go.WideShapes Go.ChangeAt Go.RowKit

/-- where the one stands who goes -/
def place (k : Int) (n : Nat) : Nat := ((k - 1) % (n : Int)).toNat
theorem place_lt (k : Int) (n : Nat) (h : 0 < n) : place k n < n := by
  have h1 := Int.emod_nonneg (k - 1) (b := (n : Int)) (by omega)
  have h2 := Int.emod_lt_of_pos (k - 1) (b := (n : Int)) (by omega)
  unfold place; omega
theorem place_int (k : Int) (n : Nat) (h : 0 < n) : ((place k n : Nat) : Int) = (k - 1) % (n : Int) := by
  have h1 := Int.emod_nonneg (k - 1) (b := (n : Int)) (by omega)
  unfold place; omega
/-- who goes -/
def who (k : Int) (l : List Int) : Int := l.getD (place k l.length) 0
/-- who is left -/
def rest {α : Type} (k : Int) (l : List α) : List α := l.drop (place k l.length + 1) ++ l.take (place k l.length)
theorem rest_length {α : Type} (k : Int) (l : List α) (h : 0 < l.length) : (rest k l).length + 1 = l.length := by
  have := place_lt k l.length h
  simp [rest]; omega
/-- the first t turns' -/
def outs (k : Int) : Nat → List Int → List Int
  | 0, _ => []
  | t + 1, l => who k l :: outs k t (rest k l)
/-- those who are left behind t turns -/
def lefts {α : Type} (k : Int) : Nat → List α → List α
  | 0, l => l
  | t + 1, l => lefts k t (rest k l)

theorem Sl.vn {w : World} {B : Nat} {v : Value} {xs : List Int} (h : Sl w B v xs) : Vn v xs := by
  rintro rfl
  rcases h.form with ⟨rfl, _⟩ | ⟨g, cap, rfl, _⟩
  · exact .inl rfl
  · exact .inr ⟨_, cap, rfl⟩

theorem Sl.empty (w : World) (B : Nat) (hB : B ≤ w.heap.size) : Sl (w.alloc (.cells #[] 3)) B (.slice (some ⟨w.heap.size, 0, none⟩) 0 0) [] :=
  ⟨by simp, .inr ⟨w.heap.size, 0, #[], rfl, hB, heap_alloc_new w _, Nat.le_refl _, Nat.zero_le _, by simp, by simp⟩⟩

theorem Rd.nw' {w w' : World} {v : Value} {xs : List Int} (h : Rd w v xs) (hk : Kp Nw w w') : Rd w' v xs := by
  obtain ⟨A, c, rfl, hA⟩ := h
  refine ⟨A, c, rfl, fun k hlt => ?_⟩
  obtain ⟨g, o, rfl, hc⟩ := hA k hlt
  exact ⟨g, o, rfl, (hk.cell (World.block_lt_of_cell? w _ hc) (fun hs => hs)).trans hc⟩

/-- a slice at the head of its row, cut at its end -/
theorem SlAt.take {w : World} {B g cap n : Nat} {xs : List Int} (h : SlAt w B g cap n xs) (k : Nat) (hk : k ≤ n) : Rd w (.slice (some ⟨g, 0, none⟩) k cap) (xs.take k) := by
  have hl : (xs.take k).length = k := by have := h.1; simp; omega
  refine ⟨_, cap, by rw [hl], fun j hj => ⟨g, 0, rfl, ?_⟩⟩
  rw [hl] at hj
  rw [Nat.zero_add, h.cell j (by omega)]
  simp [List.getD, hj]
/-- a slice at the head of its row, cut at its beginning -/
theorem SlAt.drop {w : World} {B g cap n : Nat} {xs : List Int} (h : SlAt w B g cap n xs) (k : Nat) (hk : k ≤ n) (A : Addr) (c : Nat) (hA : A = ⟨g, k, none⟩ ∨ k = n) : Rd w (.slice (some A) (n - k) c) (xs.drop k) := by
  have hl : (xs.drop k).length = n - k := by have := h.1; simp; omega
  refine ⟨_, c, by rw [hl], fun j hj => ?_⟩
  rw [hl] at hj
  rcases hA with rfl | e
  · refine ⟨g, k, rfl, ?_⟩
    rw [h.cell (k + j) (by omega)]
    simp [List.getD, List.getElem?_drop]
  · omega

theorem SlAt.drop_vn {w : World} {B g cap n : Nat} {xs : List Int} (h : SlAt w B g cap n xs) (k : Nat) (A : Addr) (c : Nat) : Vn (.slice (some A) (n - k) c) (xs.drop k) := by
  intro he
  have hl := congrArg List.length he
  rw [List.length_drop, h.1] at hl
  exact .inr ⟨A, c, by rw [hl]; rfl⟩
theorem SlAt.take_vn {w : World} {B g cap n : Nat} {xs : List Int} (h : SlAt w B g cap n xs) (k : Nat) (hk : k ≤ n) (c : Nat) : Vn (.slice (some ⟨g, 0, none⟩) k c) (xs.take k) := by
  intro he
  have hl := congrArg List.length he
  rw [List.length_take, h.1, Nat.min_eq_left hk] at hl
  exact .inr ⟨_, c, by rw [hl]; rfl⟩

theorem Sl.at_ {w : World} {B : Nat} {v : Value} {xs : List Int} (h : Sl w B v xs) (hp : 0 < xs.length) : ∃ g cap, v = .slice (some ⟨g, 0, none⟩) xs.length cap ∧ SlAt w B g cap xs.length xs ∧ xs.length ≤ cap ∧ cap ≤ maxLen ∧ B ≤ g ∧ g < w.heap.size := by
  rcases h.2 with ⟨rfl, hn⟩ | ⟨g, cap, cur, rfl, hb, hg, h1, h2, _⟩
  · omega
  · exact ⟨g, cap, rfl, ⟨rfl, h⟩, h1, h2, hb, (Array.getElem?_eq_some_iff.1 hg).1⟩

theorem elemInts : Tryd.prog.underlying 47 = some (.slice (Tryd.prog.elem 47)) := by kernel_rfl
theorem sizeInts (w : World) : (sizeOf (Tryd.prog.elem 47)).run Tryd.prog w = .ok 1 w := by kernel_rfl
/-- a slice from an index on -/
theorem cut_from (g n cap p : Nat) (h : p ≤ n) (hc : n ≤ cap) : ∃ Ad : Addr, (Ad = ⟨g, p, none⟩ ∨ p = n) ∧
    ∀ w, (Instr.slice 47 (.slice (some ⟨g, 0, none⟩) n cap) (some (.int .i64 (p : Int))) none none).run Tryd.prog w = .ok (.slice (some Ad) (n - p) (cap - p)) w := by
  by_cases e : cap = p
  · refine ⟨⟨g, 0, none⟩, .inr (by omega), fun w => ?_⟩
    rw [run_slice_l _ _ _ _ _ elemInts _ _ (by omega) (by omega), sizeInts]
    simp [sliced, Result.andThen, e]
  · refine ⟨⟨g, p, none⟩, .inl rfl, fun w => ?_⟩
    rw [run_slice_l _ _ _ _ _ elemInts _ _ (by omega) (by omega), sizeInts]
    simp [sliced, Result.andThen, e, addr_add]
/-- a slice up to an index -/
theorem cut_to (g n cap p : Nat) (h : p ≤ cap) (w : World) :
    (Instr.slice 47 (.slice (some ⟨g, 0, none⟩) n cap) none (some (.int .i64 (p : Int))) none).run Tryd.prog w = .ok (.slice (some ⟨g, 0, none⟩) p cap) w := by
  rw [run_slice_h _ _ _ _ _ elemInts _ _ (by omega) (by omega), sizeInts]
  simp [sliced, Result.andThen, addr_add]
def TurnRes (W : World) (k : Int) (xs : List Int) (e : Ending) (w' : World) : Prop := ∃ v', e = .returned (.tuple #[.int .i64 (who k xs), v']) ∧ Sl w' W.heap.size v' (rest k xs) ∧ Kp Nw W w'

def lenOf : Value → Nat | .slice _ n _ => n | _ => 0

theorem outs_succ (k : Int) (t : Nat) (l : List Int) : outs k (t + 1) l = who k l :: outs k t (rest k l) := rfl

end Go.Proofs.YtcekobdnghllcacDoor
