/- Numbers as texts in the program (strconv.Itoa, joinNumbers, RingText) in a world that holds the library's table of the powers of ten; the model's RingText. -/
import Derived.Test.YtcekobdnghllcabDoorText
import Derived.Test.YtcekobdnghllcabDoorShelf
namespace Go.Proofs.YtcekobdnghllcabDoor
open Go.ChangeShapes Go.WideShapes Go.ChangeAt Go.RowKit

/-- the world holds the table of the powers of ten -/
def Tab (W : World) : Prop := Lib.TabIs Tryd.prog W "internal/strconv.uint64pow10" .u64 Lib.pow10Tab
theorem gPow : Tryd.prog.globalNamed "internal/strconv.uint64pow10" = some 1 := by kernel_rfl
theorem Tab.lt {w : World} (h : Tab w) : 1 < w.heap.size := by
  rcases Nat.lt_or_ge 1 w.heap.size with g | g
  · exact g
  · unfold Tab Lib.TabIs World.var? at h
    rw [gPow, Option.bind_some, Array.getElem?_eq_none g] at h
    cases h
theorem Tab.kp {w w' : World} {S : Nat → Prop} (h : Tab w) (hk : Kp S w w') (hs : ¬ S 1) : Tab w' := by
  have hl := h.lt
  unfold Tab Lib.TabIs World.var? at h ⊢
  rw [gPow, Option.bind_some] at h ⊢
  rw [hk.block _ hl hs]
  exact h
theorem Tab.nw {w w' : World} (h : Tab w) (hk : Kp Nw w w') : Tab w' := h.kp hk (fun h => h)

theorem itoa_any (k : Nat) (W : World) (ht : Tab W) (hk : k ≤ 100000000) :
    Calls Tryd.prog 22 #[.int .i64 k] W fun e w' => e = .returned (.string ⟨(Lib.decDigits k).toArray⟩) ∧ Kp Nw W w' := by
  refine (Tryd.strconv_Itoa k (by omega) (by omega) W ht).mono ?_
  rintro e w' ⟨rfl, n, os, rfl⟩
  refine ⟨ret_string ?_, rfl, rfl, rfl, by show W.heap.size ≤ (W.heap ++ os).size; rw [Array.size_append]; omega, fun i hi _ => Array.getElem?_append_left hi⟩
  have : ¬ ((k : Int) < 0) := by omega
  simp [Lib.itoa, this]

theorem strInfo : (Tryd.prog.info? 9).map (fun i => (i.zero, i.size, i.bytes)) = some (some (.string ⟨#[]⟩), 1, 16) := by kernel_rfl

/-- the value of a string -/
def strV (l : List UInt8) : Value := .string ⟨l.toArray⟩
/-- a row of strings at the head of block L -/
def Ss (w : World) (L n : Nat) (ls : List (List UInt8)) : Prop :=
  ls.length = n ∧ ∃ cur : Array Value, w.heap[L]? = some (.cells cur 9 (0, 0)) ∧ cur.toList = ls.map strV
theorem Ss.lt {w : World} {L n : Nat} {ls : List (List UInt8)} (h : Ss w L n ls) : L < w.heap.size := by
  obtain ⟨_, cur, hc, _⟩ := h
  exact (Array.getElem?_eq_some_iff.1 hc).1
theorem Ss.kp {w w' : World} {L n : Nat} {ls : List (List UInt8)} {S : Nat → Prop} (h : Ss w L n ls) (hk : Kp S w w') (hs : ¬ S L) : Ss w' L n ls := by
  have hl := h.lt
  obtain ⟨e, cur, hc, r⟩ := h
  exact ⟨e, cur, (hk.block L hl hs).trans hc, r⟩
theorem Ss.cell {w : World} {L n : Nat} {ls : List (List UInt8)} (h : Ss w L n ls) (j : Nat) (hj : j < n) : w.cell? ⟨L, j, none⟩ = some (strV (ls.getD j [])) := by
  obtain ⟨e, cur, hc, ht⟩ := h
  rw [cell_of_row w L _ cur _ (0, 0) hc, ← Array.getElem?_toList, ht]
  have : j < ls.length := by omega
  simp [this]
theorem Ss.frozen {w : World} {L n : Nat} {ls : List (List UInt8)} (h : Ss w L n ls) (j : Nat) : w.frozen? ⟨L, j, none⟩ = false := by
  obtain ⟨_, cur, hc, _⟩ := h
  simp [World.frozen?, hc]
theorem Ss.store {w : World} {L n : Nat} {ls : List (List UInt8)} (h : Ss w L n ls) (j : Nat) (l : List UInt8) : Ss (w.setCell ⟨L, j, none⟩ (strV l)) L n (ls.set j l) := by
  obtain ⟨e, cur, hc, ht⟩ := h
  refine ⟨by simpa using e, cur.setIfInBounds j (strV l), heap_setCell_same w L _ cur _ _ hc, ?_⟩
  rw [Array.toList_setIfInBounds, ht, List.map_set]
theorem Ss.made {w : World} {B L n : Nat} (h : w.ownsRow B 9 1 (.slice (some ⟨L, 0, none⟩) n n) n (madeCells #[Value.string ⟨#[]⟩] n).toList) : Ss w L n (List.replicate n []) := by
  rcases h.2 with ⟨h', _⟩ | ⟨g, cap, cur, h', _, hg, _, _, hs, ht⟩
  · simp at h'
  · simp only [Value.slice.injEq, Option.some.injEq, Addr.mk.injEq, and_true, true_and] at h'
    obtain ⟨rfl, rfl⟩ := h'
    refine ⟨by simp, cur, hg, ?_⟩
    rw [List.take_of_length_le (by simp [hs])] at ht
    rw [ht, toList_madeCells_one, List.map_replicate]
    rfl

theorem join_any (L n : Nat) (ls : List (List UInt8)) (w : World) (h : Ss w L n ls) (hn : n ≤ 1000) (hl : (Lib.join ls [44]).length ≤ 100000) :
    Calls Tryd.prog 15 #[.slice (some ⟨L, 0, none⟩) n n, .string ⟨#[44]⟩] w fun e w' => e = .returned (.string ⟨(Lib.join ls [44]).toArray⟩) ∧ Kp Nw w w' := by
  obtain ⟨ys, hys⟩ : ∃ ys : List ByteArray, ys = ls.map fun l => ByteArray.mk l.toArray := ⟨_, rfl⟩
  have hm : ys.map (·.data.toList) = ls := by rw [hys, List.map_map]; simp [Function.comp_def]
  have hlen : ys.length = n := by rw [hys, List.length_map]; exact h.1
  have hc : ∀ (j : Nat) x, ys[j]? = some x → w.cell? ⟨L, 0 + j, none⟩ = some (.string x) := by
    intro j x hx
    have hj : j < n := by
      rcases Nat.lt_or_ge j ys.length with a | a
      · omega
      · rw [List.getElem?_eq_none a] at hx; cases hx
    have hj' : j < ls.length := by rw [h.1]; exact hj
    rw [Nat.zero_add, h.cell j hj]
    rw [hys, List.getElem?_map, List.getElem?_eq_getElem hj', Option.map_some, Option.some.injEq] at hx
    subst hx
    simp [strV, hj']
  have es : (ByteArray.mk #[44]).data.toList = [44] := rfl
  have J := Tryd.strings_Join L 0 n ys ⟨#[44]⟩ w hc h.lt (by omega) (by omega) (by rw [hm, es]; omega)
  rw [hm, es, hlen] at J
  exact J.mono fun e w' he => ⟨he.1, Kp.of_below he.2⟩

theorem strs_get (xs : List Int) (j : Nat) (h : j < xs.length) : (xs.map dgs)[j]? = some (dgs (xs.getD j 0)) := by simp [h]

set_option maxRecDepth 100000 in
set_option maxHeartbeats 1600000 in
theorem joinNumbers_any (g n B : Nat) (xs : List Int) (W : World) (hs : SlAt W B g n n xs) (hT : Tab W) (n1 : 1 ≤ n) (n2 : n ≤ 200) (hall : ∀ x ∈ xs, 0 ≤ x ∧ x ≤ 999) :
    Calls Tryd.prog 14 #[.slice (some ⟨g, 0, none⟩) n n, .string ⟨#[44]⟩] W fun e w' => e = .returned (.string ⟨(numsText xs).toArray⟩) ∧ Kp Nw W w' := by
  obtain ⟨i0, hi0, hz0, hz1, hz2⟩ := info_parts strInfo
  have HS0 := Lib.hid hs
  have HT := Lib.hid hT
  have hn := hs.1
  have HN := Lib.hid hn
  have HALL := Lib.hid hall
  clear hs hT hn hall
  go_enter Tryd.func14, Tryd.ntmps14
  go_wp2_with (first | (at_make; refine wpList_make_full _ rfl _ _ 40 rfl W.heap.size 9 i0 (.string ⟨#[]⟩) 1 Tryd.underlying40 hi0 hz0 hz1 _ _ _ _ n rfl rfl rfl rfl (by rw [hz2]; omega) (by unfold maxLen; omega) (Nat.le_refl _) ?_))
  intro w1 hown hgrow
  have hk1 : Kp Nw W w1 := (Kp.refl _ _).grown hgrow (fun g hg => by cases hg)
  have HS := Lib.hid (Ss.made hown)
  have HK := Lib.hid hk1
  clear hown hgrow hk1
  go_wp2
  go_loopw [6, 7, 13] (fun _ _ i wr => ∃ j : Nat, j ≤ n ∧ i = .int .i64 j ∧ Ss wr W.heap.size n (fill (xs.map dgs) (List.replicate n []) j) ∧ Kp Nw W wr) (fun _ _ i _ => n - (intOf i).toNat)
  case atStart => exact ⟨0, Nat.zero_le _, rfl, by rw [fill_zero]; exact HS.out, HK.out⟩
  case round =>
    rename_i wr
    obtain ⟨j, hj, rfl, hs, hk⟩ := hrel
    by_cases hlt : j < n
    · have c := keepc hk (HS0.out.cell j hlt) (fun h => h)
      obtain ⟨y, hy⟩ : ∃ y, xs.getD j 0 = y := ⟨_, rfl⟩
      have hl' : j < xs.length := by rw [HN.out]; exact hlt
      have hx : xs[j] = y := by rw [← hy]; simp [hl']
      rw [hy] at c
      have hb := HALL.out y (by rw [← hx]; exact List.getElem_mem _)
      obtain ⟨m, rfl⟩ : ∃ m : Nat, y = m := ⟨y.toNat, by omega⟩
      have HX := Lib.hid hy
      have H := Lib.hid hs
      have HK2 := Lib.hid hk
      have j0 : (0 : Int) ≤ j := Int.natCast_nonneg _
      have j1 : (j : Int) < n := by omega
      have m9 : m ≤ 999 := by omega
      have hz := hs.lt
      clear hs HS hk HK hy hx hb hl'
      go_wp2_with fail
      refine (itoa_any m _ (HT.out.nw HK2.out) (by omega)).mono ?_
      rintro e w2 ⟨rfl, hk2⟩
      have H2 := Lib.hid (H.out.kp hk2 (fun h => h))
      have HK3 := Lib.hid (HK2.out.nw hk2)
      have s0 := H2.out.cell j hlt
      have f0 := H2.out.frozen j
      clear hk2
      go_wp2
      go_roundw
      case rel =>
        refine ⟨j + 1, by omega, by go_num, ?_, HK3.out.setCell (.inr (Nat.le_refl _)) _⟩
        have h2 := H2.out.store j (Lib.decDigits m)
        rw [fill_set (xs.map dgs) _ j (Lib.decDigits m) (by simp [HN.out]) (by simp [HN.out]; exact hlt) (by rw [strs_get xs j (by rw [HN.out]; exact hlt), HX.out]; simp [dgs])] at h2
        exact h2
      case measure => simp [intOf]; omega
    · have e : j = n := by omega
      subst e
      have hn1 := HN.out
      rw [show fill (xs.map dgs) (List.replicate j []) j = xs.map dgs by
        have := fill_all (xs.map dgs) (List.replicate j []) (by simp [hn1])
        rwa [List.length_map, hn1] at this] at hs
      have H := Lib.hid hs
      have HK2 := Lib.hid hk
      have hz := hs.lt
      have hl := numsText_length xs (fun x hx => by have := (HALL.out x hx).2; omega)
      rw [hn1] at hl
      clear hs HS hk HK
      go_wp2_with fail
      refine (join_any W.heap.size j (xs.map dgs) _ H.out (by omega) ?_).mono ?_
      · have := hl; unfold numsText at this; omega
      rintro e w2 ⟨rfl, hk2⟩
      have HK3 := Lib.hid (HK2.out.nw hk2)
      clear hk2
      go_wp2
      go_ret
      exact ⟨rfl, HK3.out⟩

/-- what a call returns that tells a text -/
def TextRes (W : World) (l : List UInt8) (b : Bool) (e : Ending) (w' : World) : Prop := e = .returned (.tuple #[.string ⟨l.toArray⟩, .bool b]) ∧ Kp Nw W w'

end Go.Proofs.YtcekobdnghllcabDoor
