/- The program's makers of a circle and of lists of numbers out of people (circleOf, numbersOf); no condition but that there are at most a million people. -/
import Derived.Test.YtcfghaeogbimeaeCircle
import Derived.Test.YtcfghaeogbimeaeRot
namespace Go.Proofs.Ytcfghaeogbimeae
open Go.ChangeShapes Go.WideShapes Go.ChangeAt Go.RowKit

theorem flat_set : ∀ (ps : List (Int × Int)) (j : Nat) (p : Int × Int), flat (ps.set j p) = ((flat ps).set (j * 2) (.int .i64 p.1)).set (j * 2 + 1) (.int .i64 p.2)
  | [], j, p => by simp [flat]
  | q :: r, 0, p => by simp [flat]
  | q :: r, j + 1, p => by
    rw [List.set_cons_succ, flat, flat, flat_set r j p, show (j + 1) * 2 = j * 2 + 1 + 1 by omega]
    simp
theorem flat_rep : ∀ n : Nat, flat (List.replicate n (0, 0)) = List.replicate (n * 2) (Value.int .i64 0)
  | 0 => rfl
  | n + 1 => by rw [List.replicate_succ, flat, flat_rep n, show (n + 1) * 2 = n * 2 + 1 + 1 by omega, List.replicate_succ, List.replicate_succ]
theorem made_two (n : Nat) : (madeCells #[Value.int .i64 0, Value.int .i64 0] (n * 2)).toList = flat (List.replicate n (0, 0)) := by
  rw [flat_rep]
  apply List.ext_getElem?
  intro j
  by_cases hj : j < n * 2
  · have h2 : j % 2 = 0 ∨ j % 2 = 1 := by omega
    rcases h2 with h2 | h2 <;> simp [madeCells, hj, h2]
  · simp [madeCells, hj]

theorem Ps.made {w : World} {B L n : Nat} (h : w.ownsRow B 87 2 (.slice (some ⟨L, 0, none⟩) n n) n (madeCells #[Value.int .i64 0, Value.int .i64 0] (n * 2)).toList) (hn : n ≤ 1000000) : Ps w L n (List.replicate n (0, 0)) := by
  rcases h.2 with ⟨h', _⟩ | ⟨g, cap, cur, h', _, hg, _, _, hs, ht⟩
  · simp at h'
  · simp only [Value.slice.injEq, Option.some.injEq, Addr.mk.injEq, and_true, true_and] at h'
    obtain ⟨rfl, rfl⟩ := h'
    exact ⟨cur, hg, hs, by simp, hn, by rw [List.length_replicate, ht, made_two]⟩

theorem Ps.store {w : World} {L cap : Nat} {ps : List (Int × Int)} (h : Ps w L cap ps) (j : Nat) (a b : Int) : Ps ((w.setCell ⟨L, j * 2, none⟩ (.int .i64 a)).setCell ⟨L, j * 2 + 1, none⟩ (.int .i64 b)) L cap (ps.set j (a, b)) := by
  obtain ⟨cur, hc, hs, hl, hm, ht⟩ := h
  refine ⟨(cur.setIfInBounds (j * 2) (.int .i64 a)).setIfInBounds (j * 2 + 1) (.int .i64 b), heap_setCell_same _ L _ _ _ _ (heap_setCell_same w L _ cur _ _ hc), by simpa using hs, by simpa using hl, hm, ?_⟩
  rw [Array.toList_setIfInBounds, Array.toList_setIfInBounds, List.length_set, List.take_set, List.take_set, ht, flat_set]

/-- the head of one list and the tail of another of the same length -/
def fill {α : Type} (A B : List α) (j : Nat) : List α := A.take j ++ B.drop j
theorem fill_set {α : Type} (A B : List α) (j : Nat) (x : α) (h : A.length = B.length) (hj : j < A.length) (hx : A[j]? = some x) : (fill A B j).set j x = fill A B (j + 1) := by
  unfold fill
  have e : B.drop j = B[j] :: B.drop (j + 1) := List.drop_eq_getElem_cons (by omega)
  rw [e, List.set_append_right _ _ (by simp; omega), List.length_take, Nat.min_eq_left (by omega), Nat.sub_self, List.set_cons_zero, List.take_add_one, hx]
  simp
theorem fill_length {α : Type} (A B : List α) (j : Nat) (h : A.length = B.length) (hj : j ≤ A.length) : (fill A B j).length = A.length := by
  simp [fill]; omega
theorem fill_zero {α : Type} (A B : List α) : fill A B 0 = B := by simp [fill]
theorem fill_all {α : Type} (A B : List α) (h : A.length = B.length) : fill A B A.length = A := by rw [fill, List.take_length, h, List.drop_length, List.append_nil]

/-- people told by numbers, each with the place -/
def num (xs : List Int) : List (Int × Int) := xs.mapIdx fun i x => ((i : Int), x)
theorem num_length (xs : List Int) : (num xs).length = xs.length := by simp [num]
theorem num_get (xs : List Int) (j : Nat) (h : j < xs.length) : (num xs)[j]? = some ((j : Int), xs.getD j 0) := by simp [num, h]
theorem num_getD (xs : List Int) (j : Nat) (h : j < xs.length) : (num xs).getD j (0, 0) = ((j : Int), xs.getD j 0) := by simp [num, h]
theorem num_snd (xs : List Int) : (num xs).map (·.2) = xs := by
  apply List.ext_getElem?
  intro j
  simp [num]
  cases xs[j]? <;> rfl
theorem num_diff (xs : List Int) : Diff (num xs) := by
  intro i j h1 h2
  rw [num_length] at h2
  rw [num_getD xs i (by omega), num_getD xs j h2]
  simp
  omega

/-- what a call returns that makes a circle -/
def MakesC (W : World) (n : Nat) (ps : List (Int × Int)) (q : Int × Int) (k : Int) (e : Ending) (w' : World) : Prop :=
  ∃ C L, e = .returned (.pointer (some ⟨C, 0, none⟩)) ∧ Ci w' C L n ps q k ∧ Kp Nw W w' ∧ W.heap.size ≤ C ∧ W.heap.size ≤ L

set_option maxHeartbeats 1600000 in
theorem circleOf_any (u : Value) (xs : List Int) (k : Int) (W : World) (hu : Rd W u xs) (hp : 0 < xs.length) (hl : xs.length ≤ 1000000) :
    Calls Try.prog 63 #[u, .int .i64 k] W (MakesC W xs.length (num xs) (0, xs.getD 0 0) k) := by
  obtain ⟨i0, hi0, hz0, hz1, hz2⟩ := info_parts personInfo
  have HU := Lib.hid hu
  obtain ⟨n, hn⟩ : ∃ n, xs.length = n := ⟨_, rfl⟩
  obtain ⟨A, c, rfl, _⟩ := hu
  rw [hn] at hp hl ⊢
  have HN := Lib.hid hn
  clear hn
  go_enter Try.func63, Try.ntmps63
  go_wp2_with (first | (at_make; refine wpList_make_full _ rfl _ _ 79 rfl W.heap.size 87 i0 (.agg #[.int .i64 0, .int .i64 0]) 2 Try.underlying79 hi0 hz0 hz1 _ _ _ _ n rfl rfl rfl rfl (by rw [hz2]; omega) (by unfold maxLen; omega) (Nat.le_refl _) ?_))
  intro w1 hown hgrow
  have hk1 : Kp Nw W w1 := (Kp.refl _ _).grown hgrow (fun g hg => by cases hg)
  have HS := Lib.hid (Ps.made hown hl)
  have HK := Lib.hid hk1
  clear hown hgrow hk1
  go_wp2
  go_loopw [6, 7, 13] (fun _ _ i wr => ∃ j : Nat, j ≤ n ∧ i = .int .i64 j ∧ Ps wr W.heap.size n (fill (num xs) (List.replicate n (0, 0)) j) ∧ Kp Nw W wr) (fun _ _ i _ => n - (intOf i).toNat)
  case atStart => exact ⟨0, Nat.zero_le _, rfl, by rw [fill_zero]; exact HS.out, HK.out⟩
  case round =>
    rename_i wr
    obtain ⟨j, hj, rfl, hs, hk⟩ := hrel
    by_cases hlt : j < n
    · have fl : (fill (num xs) (List.replicate n (0, 0)) j).length = n := by rw [fill_length _ _ _ (by rw [num_length, List.length_replicate, HN.out]) (by rw [num_length, HN.out]; exact hj), num_length, HN.out]
      obtain ⟨c0, c1⟩ := hs.cell j (by rw [fl]; exact hlt)
      have f0 := hs.frozen (j * 2)
      have f1 := hs.frozen (j * 2 + 1)
      obtain ⟨A', c', hA', hcell⟩ := HU.out.nw' hk
      injection hA' with hA1 hA2 hA3
      subst hA1
      obtain ⟨g, o, rfl, hc⟩ := hcell j (by rw [HN.out]; exact hlt)
      have H := Lib.hid hs
      have HK2 := Lib.hid hk
      have h2 : (0 : Int) ≤ j := Int.natCast_nonneg _
      have h3 : (j : Int) < n := by omega
      obtain ⟨x, hx⟩ : ∃ x, xs.getD j 0 = x := ⟨_, rfl⟩
      rw [hx] at hc
      have HX := Lib.hid hx
      clear hs HS hk HK hcell hA2 hA3 fl hx
      go_wp2
      go_roundw
      case rel =>
        refine ⟨j + 1, by omega, by go_num, ?_, (HK2.out.setCell (.inr (Nat.le_refl _)) _).setCell (.inr (Nat.le_refl _)) _⟩
        have := H.out.store j (j : Int) x
        rw [fill_set (num xs) _ j ((j : Int), x) (by rw [num_length, List.length_replicate, HN.out]) (by rw [num_length, HN.out]; exact hlt) (by rw [num_get xs j (by rw [HN.out]; exact hlt), HX.out])] at this
        exact this
      case measure => simp [intOf]; omega
    · have e : j = n := by omega
      subst e
      have hn1 := HN.out
      rw [show fill (num xs) (List.replicate j (0, 0)) j = num xs by
        have := fill_all (num xs) (List.replicate j (0, 0)) (by rw [num_length, List.length_replicate, hn1])
        rwa [num_length, hn1] at this] at hs
      obtain ⟨c0, c1⟩ := hs.cell 0 (by rw [num_length, hn1]; exact hp)
      rw [num_getD xs 0 (by rw [hn1]; exact hp)] at c0 c1
      simp only [Nat.zero_mul, Nat.zero_add, Int.natCast_zero] at c0 c1
      have H := Lib.hid hs
      have HK2 := Lib.hid hk
      have hp' : (0 : Int) < j := by omega
      obtain ⟨x, hx⟩ : ∃ x, xs.getD 0 0 = x := ⟨_, rfl⟩
      rw [hx] at c1
      have HX := Lib.hid hx
      clear hs HS hk HK hn1 hx
      go_wp2
      go_ret
      refine ⟨wr.heap.size, W.heap.size, rfl, ⟨?_, H.out.kp (.al _ _) (fun h => h)⟩, HK2.out.alloc _, HK2.out.size, Nat.le_refl _⟩
      rw [num_length, HN.out, HX.out]
      exact heap_alloc_new wr _

/-- people that read, in a world, at an address -/
def RdP (w : World) (A : Addr) (ps : List (Int × Int)) : Prop := ∀ j, j < ps.length → ∃ g o, A = ⟨g, o, none⟩ ∧ w.cell? ⟨g, o + j * 2, none⟩ = some (.int .i64 (ps.getD j (0, 0)).1) ∧ w.cell? ⟨g, o + j * 2 + 1, none⟩ = some (.int .i64 (ps.getD j (0, 0)).2)
theorem RdP.nw {w w' : World} {A : Addr} {ps : List (Int × Int)} (h : RdP w A ps) (hk : Kp Nw w w') : RdP w' A ps := by
  intro j hj
  obtain ⟨g, o, e, h0, h1⟩ := h j hj
  exact ⟨g, o, e, keepc hk h0 (fun h => h), keepc hk h1 (fun h => h)⟩

theorem marks_fill (ps : List (Int × Int)) (j : Nat) (hj : j < ps.length) : (ps.map (·.2))[j]? = some (ps.getD j (0, 0)).2 := by simp [hj]

set_option maxHeartbeats 1600000 in
theorem numbersOf_any (A : Addr) (c n : Nat) (ps : List (Int × Int)) (W : World) (hu : RdP W A ps) (hn : ps.length = n) (hl : n ≤ 1000000) :
    Calls Try.prog 55 #[.slice (some A) n c] W (Makes W (ps.map (·.2))) := by
  obtain ⟨i0, hi0, hz0, hz1, hz2⟩ := info_parts intInfo
  have HU := Lib.hid hu
  have HN := Lib.hid hn
  clear hu hn
  go_enter Try.func55, Try.ntmps55
  go_wp2_with (first | (at_make; refine wpList_make_full _ rfl _ _ 46 rfl W.heap.size 3 i0 (.int .i64 0) 1 Try.underlying46 hi0 hz0 hz1 _ _ _ _ n rfl rfl rfl rfl (by rw [hz2]; omega) (by unfold maxLen; omega) (Nat.le_refl _) ?_))
  intro w1 hown hgrow
  have hk1 : Kp Nw W w1 := (Kp.refl _ _).grown hgrow (fun g hg => by cases hg)
  have HS := Lib.hid (Sl.zeros hown)
  have HK := Lib.hid hk1
  clear hown hgrow hk1
  go_wp2
  go_loopw [4, 5, 11] (fun _ _ i wr => ∃ j : Nat, j ≤ n ∧ i = .int .i64 j ∧ SlAt wr W.heap.size W.heap.size n n (fill (ps.map (·.2)) (List.replicate n 0) j) ∧ Kp Nw W wr) (fun _ _ i _ => n - (intOf i).toNat)
  case atStart => exact ⟨0, Nat.zero_le _, rfl, by rw [fill_zero]; exact HS.out, HK.out⟩
  case round =>
    rename_i wr
    obtain ⟨j, hj, rfl, hs, hk⟩ := hrel
    by_cases hlt : j < n
    · have f0 := hs.frozen j
      have hz : W.heap.size < wr.heap.size := World.block_lt_of_cell? wr ⟨W.heap.size, j, none⟩ (hs.cell j hlt)
      have s0 := hs.cell j hlt
      obtain ⟨g, o, rfl, h0, h1⟩ := HU.out.nw hk j (by rw [HN.out]; exact hlt)
      obtain ⟨⟨x, y⟩, hx⟩ : ∃ x, ps.getD j (0, 0) = x := ⟨_, rfl⟩
      rw [hx] at h0 h1
      have HX := Lib.hid hx
      have H := Lib.hid hs
      have HK2 := Lib.hid hk
      have j0 : (0 : Int) ≤ j := Int.natCast_nonneg _
      have j1 : (j : Int) < n := by omega
      clear hs HS hk HK hx
      go_wp2
      go_roundw
      case rel =>
        refine ⟨j + 1, by omega, by go_num, ?_, (HK2.out.setCell (.inr (Nat.le_refl _)) _).alloc _⟩
        have h2 := H.out.store j y
        rw [fill_set (ps.map (·.2)) _ j y (by simp [HN.out]) (by simp [HN.out]; exact hlt) (by rw [marks_fill ps j (by rw [HN.out]; exact hlt), HX.out])] at h2
        exact ⟨h2.1, h2.2.alloc _⟩
      case measure => simp [intOf]; omega
    · have e : j = n := by omega
      subst e
      have hn1 := HN.out
      rw [show fill (ps.map (·.2)) (List.replicate j 0) j = ps.map (·.2) by
        have := fill_all (ps.map (·.2)) (List.replicate j 0) (by simp [hn1])
        rwa [List.length_map, hn1] at this] at hs
      have H := Lib.hid hs
      have HK2 := Lib.hid hk
      clear hs HS hk HK hn1
      go_wp2
      go_ret
      exact ⟨_, rfl, H.out.sl, HK2.out⟩
end Go.Proofs.Ytcfghaeogbimeae
