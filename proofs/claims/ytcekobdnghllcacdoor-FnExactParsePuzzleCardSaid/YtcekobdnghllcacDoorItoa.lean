/- Numbers as texts in the program (strconv.Itoa, joinNumbers, RingText) in a world that holds the library's table of the powers of ten; the model's RingText. -/
import Derived.Test.YtcekobdnghllcacDoorText
import Derived.Test.YtcekobdnghllcacDoorShelf
namespace Go.Proofs.YtcekobdnghllcacDoor
open Go.ChangeShapes Go.WideShapes Go.ChangeAt Go.RowKit

/-- the world holds the table of the powers of ten -/
def Tab (W : World) : Prop := Lib.TabIs Tryd.prog W "internal/strconv.uint64pow10" .u64 Lib.pow10Tab
theorem gPow : Tryd.prog.globalNamed "internal/strconv.uint64pow10" = some 5 := by kernel_rfl
theorem Tab.lt {w : World} (h : Tab w) : 5 < w.heap.size := by
  rcases Nat.lt_or_ge 5 w.heap.size with g | g
  · exact g
  · unfold Tab Lib.TabIs World.var? at h
    rw [gPow, Option.bind_some, Array.getElem?_eq_none g] at h
    cases h
theorem Tab.kp {w w' : World} {S : Nat → Prop} (h : Tab w) (hk : Kp S w w') (hs : ¬ S 5) : Tab w' := by
  have hl := h.lt
  unfold Tab Lib.TabIs World.var? at h ⊢
  rw [gPow, Option.bind_some] at h ⊢
  rw [hk.block _ hl hs]
  exact h
theorem Tab.nw {w w' : World} (h : Tab w) (hk : Kp Nw w w') : Tab w' := h.kp hk (fun h => h)

theorem itoa_any (k : Nat) (W : World) (ht : Tab W) (hk : k ≤ 100000000) :
    Calls Tryd.prog 39 #[.int .i64 k] W fun e w' => e = .returned (.string ⟨(Lib.decDigits k).toArray⟩) ∧ Kp Nw W w' := by
  refine (Tryd.strconv_Itoa k (by omega) (by omega) W ht).mono ?_
  rintro e w' ⟨rfl, n, os, rfl⟩
  refine ⟨ret_string ?_, rfl, rfl, rfl, by show W.heap.size ≤ (W.heap ++ os).size; rw [Array.size_append]; omega, fun i hi _ => Array.getElem?_append_left hi⟩
  have : ¬ ((k : Int) < 0) := by omega
  simp [Lib.itoa, this]

theorem strInfo : (Tryd.prog.info? 9).map (fun i => (i.zero, i.size, i.bytes)) = some (some (.string ⟨#[]⟩), 1, 16) := by kernel_rfl

/-- the value of a string -/
def strV (l : List UInt8) : Value := .string ⟨l.toArray⟩
/-- a row of strings at the head of block L -/
def Ss (w : World) (L n : Nat) (ls : List (List UInt8)) : Prop :=
  ls.length = n ∧ ∃ cur : Array Value, w.heap[L]? = some (.cells cur 9 (0, 0)) ∧ cur.toList = ls.map strV
theorem Ss.lt {w : World} {L n : Nat} {ls : List (List UInt8)} (h : Ss w L n ls) : L < w.heap.size := by
  obtain ⟨_, cur, hc, _⟩ := h
  exact (Array.getElem?_eq_some_iff.1 hc).1
theorem Ss.kp {w w' : World} {L n : Nat} {ls : List (List UInt8)} {S : Nat → Prop} (h : Ss w L n ls) (hk : Kp S w w') (hs : ¬ S L) : Ss w' L n ls := by
  have hl := h.lt
  obtain ⟨e, cur, hc, r⟩ := h
  exact ⟨e, cur, (hk.block L hl hs).trans hc, r⟩
theorem Ss.cell {w : World} {L n : Nat} {ls : List (List UInt8)} (h : Ss w L n ls) (j : Nat) (hj : j < n) : w.cell? ⟨L, j, none⟩ = some (strV (ls.getD j [])) := by
  obtain ⟨e, cur, hc, ht⟩ := h
  rw [cell_of_row w L _ cur _ (0, 0) hc, ← Array.getElem?_toList, ht]
  have : j < ls.length := by omega
  simp [this]
theorem Ss.frozen {w : World} {L n : Nat} {ls : List (List UInt8)} (h : Ss w L n ls) (j : Nat) : w.frozen? ⟨L, j, none⟩ = false := by
  obtain ⟨_, cur, hc, _⟩ := h
  simp [World.frozen?, hc]
theorem Ss.store {w : World} {L n : Nat} {ls : List (List UInt8)} (h : Ss w L n ls) (j : Nat) (l : List UInt8) : Ss (w.setCell ⟨L, j, none⟩ (strV l)) L n (ls.set j l) := by
  obtain ⟨e, cur, hc, ht⟩ := h
  refine ⟨by simpa using e, cur.setIfInBounds j (strV l), heap_setCell_same w L _ cur _ _ hc, ?_⟩
  rw [Array.toList_setIfInBounds, ht, List.map_set]
theorem Ss.made {w : World} {B L n : Nat} (h : w.ownsRow B 9 1 (.slice (some ⟨L, 0, none⟩) n n) n (madeCells #[Value.string ⟨#[]⟩] n).toList) : Ss w L n (List.replicate n []) := by
  rcases h.2 with ⟨h', _⟩ | ⟨g, cap, cur, h', _, hg, _, _, hs, ht⟩
  · simp at h'
  · simp only [Value.slice.injEq, Option.some.injEq, Addr.mk.injEq, and_true, true_and] at h'
    obtain ⟨rfl, rfl⟩ := h'
    refine ⟨by simp, cur, hg, ?_⟩
    rw [List.take_of_length_le (by simp [hs])] at ht
    rw [ht, toList_madeCells_one, List.map_replicate]
    rfl

theorem strs_get (xs : List Int) (j : Nat) (h : j < xs.length) : (xs.map dgs)[j]? = some (dgs (xs.getD j 0)) := by simp [h]

/-- what a call returns that tells a text -/
def TextRes (W : World) (l : List UInt8) (b : Bool) (e : Ending) (w' : World) : Prop := e = .returned (.tuple #[.string ⟨l.toArray⟩, .bool b]) ∧ Kp Nw W w'

end Go.Proofs.YtcekobdnghllcacDoor
