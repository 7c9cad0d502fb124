/- Desks: the laws' own helpers that copy desks, compare them and tell their size; is it a desk, in the program and in its model; no condition but that the slices' cells are there. -/
import Derived.Test.YtcekobdnghllcaaGoodS
import Derived.Test.YtcekobdnghllcaaCats
import Derived.Test.YtcekobdnghllcaaRingFn
import Derived.Test.YtcekobdnghllcaaSong
namespace Go.Proofs.Ytcekobdnghllcaa
open Go.ChangeShapes Go.WideShapes Go.ChangeAt Go.RowKit

/-- four cells of a block, that may be written -/
def Own4 (w : World) (b : Nat) (x y z u : Value) : Prop := (w.cell? ⟨b, 0, none⟩ = some x ∧ w.cell? ⟨b, 1, none⟩ = some y ∧ w.cell? ⟨b, 2, none⟩ = some z ∧ w.cell? ⟨b, 3, none⟩ = some u) ∧ w.frozen? ⟨b, 0, none⟩ = false ∧ w.frozen? ⟨b, 1, none⟩ = false ∧ w.frozen? ⟨b, 2, none⟩ = false ∧ w.frozen? ⟨b, 3, none⟩ = false
theorem Own4.kp {w w' : World} {b : Nat} {x y z u : Value} {S : Nat → Prop} (h : Own4 w b x y z u) (hk : Kp S w w') (hs : ¬ S b) : Own4 w' b x y z u :=
  have hl := World.block_lt_of_cell? w _ h.1.1
  ⟨⟨keepc hk h.1.1 hs, keepc hk h.1.2.1 hs, keepc hk h.1.2.2.1 hs, keepc hk h.1.2.2.2 hs⟩, keepf hk (a := ⟨b, 0, none⟩) hl h.2.1 hs, keepf hk (a := ⟨b, 1, none⟩) hl h.2.2.1 hs, keepf hk (a := ⟨b, 2, none⟩) hl h.2.2.2.1 hs, keepf hk (a := ⟨b, 3, none⟩) hl h.2.2.2.2 hs⟩
theorem Own4.new (w : World) (x y z u : Value) (t : TypeId) : Own4 (w.alloc (.cells #[x, y, z, u] t)) w.heap.size x y z u := by
  refine ⟨⟨?_, ?_, ?_, ?_⟩, ?_, ?_, ?_, ?_⟩ <;> simp [World.cell?_alloc_at, World.frozen?_alloc_at]
theorem ne_off (b i j : Nat) (h : i ≠ j) : (⟨b, i, none⟩ : Addr) ≠ ⟨b, j, none⟩ := fun e => h (by injection e)
theorem Own4.put01 {w : World} {b : Nat} {x y z u : Value} (h : Own4 w b x y z u) (x' y' : Value) : Own4 ((w.setCell ⟨b, 0, none⟩ x').setCell ⟨b, 1, none⟩ y') b x' y' z u := by
  obtain ⟨⟨h0, h1, h2, h3⟩, f0, f1, f2, f3⟩ := h
  refine ⟨⟨?_, ?_, ?_, ?_⟩, ?_, ?_, ?_, ?_⟩
  · rw [World.cell?_setCell_other _ _ _ _ (ne_off b 1 0 (by omega))]; exact World.cell?_setCell_same _ _ _ h0
  · exact World.cell?_setCell_same _ _ _ ((World.cell?_setCell_other _ _ _ _ (ne_off b 0 1 (by omega))).trans h1)
  · rw [World.cell?_setCell_other _ _ _ _ (ne_off b 1 2 (by omega)), World.cell?_setCell_other _ _ _ _ (ne_off b 0 2 (by omega))]; exact h2
  · rw [World.cell?_setCell_other _ _ _ _ (ne_off b 1 3 (by omega)), World.cell?_setCell_other _ _ _ _ (ne_off b 0 3 (by omega))]; exact h3
  all_goals simp only [World.frozen?_setCell]; assumption
theorem Own4.put23 {w : World} {b : Nat} {x y z u : Value} (h : Own4 w b x y z u) (z' u' : Value) : Own4 ((w.setCell ⟨b, 2, none⟩ z').setCell ⟨b, 3, none⟩ u') b x y z' u' := by
  obtain ⟨⟨h0, h1, h2, h3⟩, f0, f1, f2, f3⟩ := h
  refine ⟨⟨?_, ?_, ?_, ?_⟩, ?_, ?_, ?_, ?_⟩
  · rw [World.cell?_setCell_other _ _ _ _ (ne_off b 3 0 (by omega)), World.cell?_setCell_other _ _ _ _ (ne_off b 2 0 (by omega))]; exact h0
  · rw [World.cell?_setCell_other _ _ _ _ (ne_off b 3 1 (by omega)), World.cell?_setCell_other _ _ _ _ (ne_off b 2 1 (by omega))]; exact h1
  · rw [World.cell?_setCell_other _ _ _ _ (ne_off b 3 2 (by omega))]; exact World.cell?_setCell_same _ _ _ h2
  · exact World.cell?_setCell_same _ _ _ ((World.cell?_setCell_other _ _ _ _ (ne_off b 2 3 (by omega))).trans h3)
  all_goals simp only [World.frozen?_setCell]; assumption
theorem Own4.put {w : World} {b : Nat} {x y z u : Value} (h : Own4 w b x y z u) (x' y' z' u' : Value) : Own4 ((((w.setCell ⟨b, 0, none⟩ x').setCell ⟨b, 1, none⟩ y').setCell ⟨b, 2, none⟩ z').setCell ⟨b, 3, none⟩ u') b x' y' z' u' :=
  (h.put01 x' y').put23 z' u'
theorem Kp.two {S : Nat → Prop} {w w' : World} {b i j : Nat} (h : Kp S w w') (hb : S b ∨ w.heap.size ≤ b) (x y : Value) : Kp S w ((w'.setCell ⟨b, i, none⟩ x).setCell ⟨b, j, none⟩ y) := (h.setCell hb _).setCell hb _

theorem SlAt.from9 {w : World} {B B' g cap n : Nat} {xs : List Int} (h : SlAt w B g cap n xs) (hB : B' ≤ B) : SlAt w B' g cap n xs := by
  have h3 := h.sl.from hB
  unfold Sl at h3
  rw [h.1] at h3
  exact ⟨h.1, h3⟩

theorem szCats_gen (A : Option Addr) (n c : Nat) (k : Int) (l : Int) (W : World) (hn : n ≤ maxLen) (l0 : 0 ≤ l) (l1 : l ≤ 1048576) :
    Calls Try.prog 23 #[.agg #[.slice A n c, .int .i64 k], .int .i64 l] W fun e w' => e = .returned (.int .i64 (if (n : Int) ≤ l then l - (n : Int) else -1)) ∧ Kp Nw W w' := by
  by_cases h : (n : Int) ≤ l
  · rw [if_pos h]
    have h1 : (0 : Int) ≤ l - (n : Int) := by omega
    go_enter Try.func23, Try.ntmps23
    go_wp2_with fail
    refine (szIntS_gen A n c l _ hn l0 l1).mono ?_
    rintro e w' ⟨rfl, rfl⟩
    rw [if_pos h]
    go_wp2
    go_ret
    exact ⟨rfl, Kp.al _ _⟩
  · rw [if_neg h]
    go_enter Try.func23, Try.ntmps23
    go_wp2_with fail
    refine (szIntS_gen A n c l _ hn l0 l1).mono ?_
    rintro e w' ⟨rfl, rfl⟩
    rw [if_neg (by omega)]
    go_wp2
    go_ret
    exact ⟨rfl, Kp.al _ _⟩

theorem szDesk_small (A : Option Addr) (n c : Nat) (k : Int) (A' : Option Addr) (n' c' : Nat) (k' : Int) (W : World) (h : n + n' ≤ 1048576) :
    Calls Try.prog 10 #[.agg #[.slice A n c, .int .i64 k, .slice A' n' c', .int .i64 k'], .int .i64 1048576] W fun e w' => e = .returned (.int .i64 (1048576 - (n : Int) - (n' : Int))) ∧ Kp Nw W w' := by
  have h1 : (0 : Int) ≤ 1048576 - (n : Int) := by omega
  have h2 : (0 : Int) ≤ 1048576 - (n : Int) - (n' : Int) := by omega
  have T0 := Lib.hid (Own4.new W (.slice A n c) (.int .i64 k) (.slice A' n' c') (.int .i64 k') 36)
  go_enter Try.func10, Try.ntmps10
  go_wp2_with fail
  refine (szRing_small A n c k _ (by omega)).mono ?_
  rintro e w1 ⟨rfl, hk1⟩
  have T1 := Lib.hid (T0.out.kp hk1 (fun h => h))
  have HK1 := Lib.hid ((Kp.al W _).nw hk1)
  clear hk1
  obtain ⟨⟨t0, t1, t2, t3⟩, _⟩ := T1.out
  go_wp2_with fail
  refine (szCats_gen A' n' c' k' _ _ (by unfold maxLen; omega) (by omega) (by omega)).mono ?_
  rintro e w2 ⟨rfl, hk2⟩
  rw [if_pos (by omega)]
  have HK2 := Lib.hid (HK1.out.nw hk2)
  clear hk2
  go_wp2
  go_ret
  exact ⟨rfl, HK2.out⟩

theorem szDesk_large (A : Option Addr) (n c : Nat) (k : Int) (A' : Option Addr) (n' c' : Nat) (k' : Int) (W : World) (hn : n ≤ maxLen) (hn' : n' ≤ maxLen) (h : 1048576 < n + n') :
    Calls Try.prog 10 #[.agg #[.slice A n c, .int .i64 k, .slice A' n' c', .int .i64 k'], .int .i64 1048576] W fun e w' => e = .returned (.int .i64 (-1)) ∧ Kp Nw W w' := by
  have T0 := Lib.hid (Own4.new W (.slice A n c) (.int .i64 k) (.slice A' n' c') (.int .i64 k') 36)
  by_cases h1 : n ≤ 1048576
  · have q1 : (0 : Int) ≤ 1048576 - (n : Int) := by omega
    go_enter Try.func10, Try.ntmps10
    go_wp2_with fail
    refine (szRing_small A n c k _ (by omega)).mono ?_
    rintro e w1 ⟨rfl, hk1⟩
    have T1 := Lib.hid (T0.out.kp hk1 (fun h => h))
    have HK1 := Lib.hid ((Kp.al W _).nw hk1)
    clear hk1
    obtain ⟨⟨t0, t1, t2, t3⟩, _⟩ := T1.out
    go_wp2_with fail
    refine (szCats_gen A' n' c' k' _ _ hn' (by omega) (by omega)).mono ?_
    rintro e w2 ⟨rfl, hk2⟩
    rw [if_neg (by omega)]
    have HK2 := Lib.hid (HK1.out.nw hk2)
    clear hk2
    go_wp2
    go_ret
    exact ⟨rfl, HK2.out⟩
  · go_enter Try.func10, Try.ntmps10
    go_wp2_with fail
    refine (szRing_large A n c k _ hn (by omega)).mono ?_
    rintro e w1 ⟨rfl, hk1⟩
    have HK1 := Lib.hid ((Kp.al W _).nw hk1)
    clear hk1
    go_wp2
    go_ret
    exact ⟨rfl, HK1.out⟩

set_option maxHeartbeats 800000 in
theorem eqDesk_same (A A1 A' A1' : Option Addr) (n c c1 n' c' c1' : Nat) (k k' : Int) (xs xs' : List Int) (W : World) (hu : Rd W (.slice A n c) xs) (hv : Rd W (.slice A1 n c1) xs) (hu' : Rd W (.slice A' n' c') xs') (hv' : Rd W (.slice A1' n' c1') xs') (hl : xs.length ≤ maxLen) (hl' : xs'.length ≤ maxLen) :
    Calls Try.prog 7 #[.agg #[.slice A n c, .int .i64 k, .slice A' n' c', .int .i64 k'], .agg #[.slice A1 n c1, .int .i64 k, .slice A1' n' c1', .int .i64 k']] W fun e w' => e = .returned (.bool true) ∧ Kp Nw W w' := by
  have T0 := Lib.hid ((Own4.new W (.slice A n c) (.int .i64 k) (.slice A' n' c') (.int .i64 k') 28).kp (.al _ (.cells #[.slice A1 n c1, .int .i64 k, .slice A1' n' c1', .int .i64 k'] 28)) (fun h => h))
  have T2 := Lib.hid (Own4.new (W.alloc (.cells #[.slice A n c, .int .i64 k, .slice A' n' c', .int .i64 k'] 28)) (.slice A1 n c1) (.int .i64 k) (.slice A1' n' c1') (.int .i64 k') 28)
  have HU := Lib.hid hu
  have HV := Lib.hid hv
  have HU' := Lib.hid hu'
  have HV' := Lib.hid hv'
  have HL := Lib.hid hl
  have HL' := Lib.hid hl'
  clear hu hv hu' hv' hl hl'
  go_enter Try.func7, Try.ntmps7
  go_wp2_with fail
  refine (eqRing_same _ _ n _ _ k xs _ ((HU.out.nw (.al _ _)).nw (.al _ _)) ((HV.out.nw (.al _ _)).nw (.al _ _)) HL.out).mono ?_
  rintro e w1 ⟨rfl, hk1⟩
  have T1 := Lib.hid (T0.out.kp hk1 (fun h => h))
  have T3 := Lib.hid (T2.out.kp hk1 (fun h => h))
  have HK1 := Lib.hid (((Kp.al W _).nw (.al _ _)).nw hk1)
  clear hk1
  obtain ⟨⟨t0, t1, t2, t3⟩, _⟩ := T1.out
  obtain ⟨⟨s0, s1, s2, s3⟩, _⟩ := T3.out
  simp only [World.size_alloc] at s0 s1 s2 s3
  go_wp2_with fail
  refine (eqCats_same _ _ n' _ _ k' xs' _ (HU'.out.nw HK1.out) (HV'.out.nw HK1.out) HL'.out).mono ?_
  rintro e w2 ⟨rfl, hk2⟩
  have HK2 := Lib.hid (HK1.out.nw hk2)
  clear hk2
  go_wp2
  go_ret
  exact ⟨rfl, HK2.out⟩

/-- what a call returns that copies a desk -/
def DeskCopy (W : World) (n : Nat) (xs : List Int) (k : Int) (n' : Nat) (xs' : List Int) (k' : Int) (e : Ending) (w' : World) : Prop := ∃ g g', e = .returned (.agg #[.slice (some ⟨g, 0, none⟩) n n, .int .i64 k, .slice (some ⟨g', 0, none⟩) n' n', .int .i64 k']) ∧ SlAt w' W.heap.size g n n xs ∧ SlAt w' W.heap.size g' n' n' xs' ∧ g ≠ g' ∧ Kp Nw W w' ∧ g < w'.heap.size ∧ g' < w'.heap.size

set_option maxHeartbeats 1600000 in
theorem toDesk_any (A : Option Addr) (n c : Nat) (k : Int) (A' : Option Addr) (n' c' : Nat) (k' : Int) (xs xs' : List Int) (W : World) (hu : Rd W (.slice A n c) xs) (hn : xs.length = n) (hu' : Rd W (.slice A' n' c') xs') (hn' : xs'.length = n') (hl : n + n' ≤ 1048576) :
    Calls Try.prog 12 #[.agg #[.slice A n c, .int .i64 k, .slice A' n' c', .int .i64 k']] W (DeskCopy W n xs k n' xs' k') := by
  have HU := Lib.hid hu
  have HN := Lib.hid hn
  have HU' := Lib.hid hu'
  have HN' := Lib.hid hn'
  have T0 := Lib.hid (((Own4.new W (.slice A n c) (.int .i64 k) (.slice A' n' c') (.int .i64 k') 36).kp (.al _ (.cells #[.slice none 0 0, .int .i64 0, .slice none 0 0, .int .i64 0] 28)) (fun h => h)).kp (.al _ (.cells #[.slice none 0 0, .int .i64 0, .slice none 0 0, .int .i64 0] 28)) (fun h => h))
  have R0 := Lib.hid ((Own4.new (W.alloc (.cells #[.slice A n c, .int .i64 k, .slice A' n' c', .int .i64 k'] 36)) (.slice none 0 0) (.int .i64 0) (.slice none 0 0) (.int .i64 0) 28).kp (.al _ (.cells #[.slice none 0 0, .int .i64 0, .slice none 0 0, .int .i64 0] 28)) (fun h => h))
  have O0 := Lib.hid (Own4.new ((W.alloc (.cells #[.slice A n c, .int .i64 k, .slice A' n' c', .int .i64 k'] 36)).alloc (.cells #[.slice none 0 0, .int .i64 0, .slice none 0 0, .int .i64 0] 28)) (.slice none 0 0) (.int .i64 0) (.slice none 0 0) (.int .i64 0) 28)
  clear hu hn hu' hn'
  go_enter Try.func12, Try.ntmps12
  go_wp2_with fail
  refine (toRing_any A n c k xs _ (((HU.out.nw (.al _ _)).nw (.al _ _)).nw (.al _ _)) HN.out (by omega)).mono ?_
  rintro e w1 ⟨g1, rfl, hs1, hk1, hg1, hg1'⟩
  have T1 := Lib.hid (T0.out.kp hk1 (fun h => h))
  have R1 := Lib.hid (R0.out.kp hk1 (fun h => h))
  have O1 := Lib.hid (O0.out.kp hk1 (fun h => h))
  have HK1 := Lib.hid ((((Kp.al W _).nw (.al _ _)).nw (.al _ _)).nw hk1)
  have HS1 := Lib.hid hs1
  clear hs1 hk1
  simp only [World.size_alloc] at hg1
  obtain ⟨⟨t0, t1, t2, t3⟩, _⟩ := T1.out
  obtain ⟨⟨r0, r1, r2, r3⟩, rf0, rf1, rf2, rf3⟩ := R1.out
  obtain ⟨⟨o0, o1, o2, o3⟩, of0, of1, of2, of3⟩ := O1.out
  have R1' := R1.out
  have O1' := O1.out
  simp only [World.size_alloc] at r0 r1 r2 r3 rf0 rf1 rf2 rf3 o0 o1 o2 o3 of0 of1 of2 of3 R1' O1'
  obtain ⟨w2, hw2⟩ : ∃ w2, (w1.setCell ⟨W.heap.size + 1 + 1, 0, none⟩ (.slice (some ⟨g1, 0, none⟩) n n)).setCell ⟨W.heap.size + 1 + 1, 1, none⟩ (.int .i64 k) = w2 := ⟨_, rfl⟩
  have K12 : Kp (fun b => b = W.heap.size + 1 + 1) w1 w2 := by rw [← hw2]; exact Kp.two (S := fun b => b = W.heap.size + 1 + 1) (Kp.refl _ _) (.inl rfl) _ _
  have HK2 : Hid (Kp Nw W w2) := Lib.hid (by rw [← hw2]; exact HK1.out.two (.inr (by omega)) _ _)
  have O2 : Hid (Own4 w2 (W.heap.size + 1 + 1) (.slice (some ⟨g1, 0, none⟩) n n) (.int .i64 k) (.slice none 0 0) (.int .i64 0)) := Lib.hid (by rw [← hw2]; exact O1'.put01 _ _)
  have R2 := Lib.hid (R1'.kp K12 (by omega))
  have T2 := Lib.hid (T1.out.kp K12 (by omega))
  have HS2 := Lib.hid (HS1.out.kq K12 (by omega))
  have hz2 : w1.heap.size = w2.heap.size := by rw [← hw2]; simp [World.setCell]
  have HW2 := Lib.hid hw2
  clear R1' O1' K12 hw2
  obtain ⟨⟨t0', t1', t2', t3'⟩, _⟩ := T2.out
  obtain ⟨⟨o0', o1', o2', o3'⟩, of0', of1', of2', of3'⟩ := O2.out
  obtain ⟨⟨r0', r1', r2', r3'⟩, rf0', rf1', rf2', rf3'⟩ := R2.out
  go_wp2_with fail
  rw [HW2.out]
  refine (toCats_any A' n' c' k' xs' _ (HU'.out.nw HK2.out) HN'.out (by omega)).mono ?_
  rintro e w3 ⟨g3, rfl, hs3, hk3, hg3, hg3'⟩
  have T3 := Lib.hid (T2.out.kp hk3 (fun h => h))
  have R3 := Lib.hid (R2.out.kp hk3 (fun h => h))
  have O3 := Lib.hid (O2.out.kp hk3 (fun h => h))
  have HK3 := Lib.hid (HK2.out.nw hk3)
  have HS3 := Lib.hid hs3
  have HS2 := Lib.hid (HS2.out.kq hk3 (fun h => h))
  have hz3 := hk3.size
  clear hs3 hk3 t0 t1 t2 t3 t0' t1' t2' t3' o0 o1 o2 o3 of0 of1 of2 of3 o0' o1' o2' o3' of0' of1' of2' of3' r0 r1 r2 r3 rf0 rf1 rf2 rf3 r0' r1' r2' r3' rf0' rf1' rf2' rf3'
  have O4 := Lib.hid (O3.out.put23 (.slice (some ⟨g3, 0, none⟩) n' n') (.int .i64 k'))
  obtain ⟨⟨o0, o1, o2, o3⟩, of0, of1, of2, of3⟩ := O3.out
  obtain ⟨⟨r0, r1, r2, r3⟩, rf0, rf1, rf2, rf3⟩ := R3.out
  obtain ⟨w4, hw4⟩ : ∃ w4, (w3.setCell ⟨W.heap.size + 1 + 1, 2, none⟩ (.slice (some ⟨g3, 0, none⟩) n' n')).setCell ⟨W.heap.size + 1 + 1, 3, none⟩ (.int .i64 k') = w4 := ⟨_, rfl⟩
  have K34 : Kp (fun b => b = W.heap.size + 1 + 1) w3 w4 := by rw [← hw4]; exact Kp.two (S := fun b => b = W.heap.size + 1 + 1) (Kp.refl _ _) (.inl rfl) _ _
  have hz4 : w3.heap.size = w4.heap.size := by rw [← hw4]; simp [World.setCell]
  have R4 := Lib.hid (R3.out.kp K34 (by omega))
  have R5 := Lib.hid (R4.out.put (.slice (some ⟨g1, 0, none⟩) n n) (.int .i64 k) (.slice (some ⟨g3, 0, none⟩) n' n') (.int .i64 k'))
  have HK4 : Hid (Kp Nw W w4) := Lib.hid (by rw [← hw4]; exact HK3.out.two (.inr (by omega)) _ _)
  have HS4 := Lib.hid (HS2.out.kq K34 (by omega))
  have HS4' := Lib.hid (HS3.out.kq K34 (by omega))
  rw [hw4] at O4
  have HW4 := Lib.hid hw4
  obtain ⟨⟨z0, z1, z2, z3⟩, _⟩ := R5.out
  obtain ⟨⟨y0, y1, y2, y3⟩, _⟩ := O4.out
  obtain ⟨⟨r0', r1', r2', r3'⟩, rf0', rf1', rf2', rf3'⟩ := R4.out
  rw [← hw4] at z0 z1 z2 z3 y0 y1 y2 y3 r0' r1' r2' r3' rf0' rf1' rf2' rf3'
  clear hw4 K34
  go_wp2
  rw [HW4.out] at z0 z1 z2 z3 ⊢
  have K45 : Kp (fun b => b = W.heap.size + 1) w4 ((((w4.setCell ⟨W.heap.size + 1, 0, none⟩ (.slice (some ⟨g1, 0, none⟩) n n)).setCell ⟨W.heap.size + 1, 1, none⟩ (.int .i64 k)).setCell ⟨W.heap.size + 1, 2, none⟩ (.slice (some ⟨g3, 0, none⟩) n' n')).setCell ⟨W.heap.size + 1, 3, none⟩ (.int .i64 k')) :=
    Kp.two (S := fun b => b = W.heap.size + 1) (Kp.two (S := fun b => b = W.heap.size + 1) (Kp.refl _ _) (.inl rfl) _ _) (.inl rfl) _ _
  have HS5 := HS4.out.kq K45 (by omega)
  have HS5' := HS4'.out.kq K45 (by omega)
  refine bodyPost_ret (v := .agg #[.slice (some ⟨g1, 0, none⟩) n n, .int .i64 k, .slice (some ⟨g3, 0, none⟩) n' n', .int .i64 k']) (by simp [results, Try.results12, go_sem, z0, z1, z2, z3]) rfl ⟨g1, g3, rfl, ?_, ?_, by omega, (HK4.out.two (.inr (by omega)) _ _).two (.inr (by omega)) _ _, by simp [World.setCell]; omega, by simp [World.setCell]; omega⟩
  · exact HS5.from9 (by simp only [World.size_alloc]; omega)
  · exact HS5'.from9 (by omega)

/-- is it a desk? -/
def deskB (xs : List Int) (k : Int) (xs' : List Int) (k' : Int) : Bool := goodB xs k && catB xs' k'

set_option maxHeartbeats 1600000 in
theorem coGood_any (g n : Nat) (A' : Option Addr) (n' c' : Nat) (k k' : Int) (xs xs' : List Int) (B : Nat) (W : World) (hs : SlAt W B g n n xs) (hl : n ≤ 2000000) (hu' : Rd W (.slice A' n' c') xs') (hn' : xs'.length = n') (hl' : n' ≤ 2000000) (b : Bool) (hb : b = deskB xs k xs' k') :
    Calls Try.prog 24 #[.agg #[.slice (some ⟨g, 0, none⟩) n n, .int .i64 k, .slice A' n' c', .int .i64 k']] W fun e w' => e = .returned (.bool b) ∧ Kp Nw W w' := by
  have HS := Lib.hid hs
  have HU' := Lib.hid hu'
  have HN' := Lib.hid hn'
  have T0 := Lib.hid (Own4.new W (.slice (some ⟨g, 0, none⟩) n n) (.int .i64 k) (.slice A' n' c') (.int .i64 k') 28)
  obtain ⟨p, hp⟩ : ∃ p, goodB xs k = p := ⟨_, rfl⟩
  obtain ⟨q, hq⟩ : ∃ q, catB xs' k' = q := ⟨_, rfl⟩
  have e : b = (p && q) := by rw [hb, ← hp, ← hq]; rfl
  subst e
  have HP := Lib.hid hp
  have HQ := Lib.hid hq
  clear hs hu' hn' hb hp hq
  cases p
  · go_enter Try.func24, Try.ntmps24
    go_wp2_with fail
    refine (ciGood_any g n n xs k B _ (HS.out.alloc _) (Nat.le_refl _) hl false HP.out.symm).mono ?_
    rintro e w1 ⟨rfl, hk1⟩
    have HK1 := Lib.hid ((Kp.al W _).nw hk1)
    clear hk1
    go_wp2
    go_ret
    exact ⟨rfl, HK1.out⟩
  · go_enter Try.func24, Try.ntmps24
    go_wp2_with fail
    refine (ciGood_any g n n xs k B _ (HS.out.alloc _) (Nat.le_refl _) hl true HP.out.symm).mono ?_
    rintro e w1 ⟨rfl, hk1⟩
    have T1 := Lib.hid (T0.out.kp hk1 (fun h => h))
    have HK1 := Lib.hid ((Kp.al W _).nw hk1)
    clear hk1
    obtain ⟨⟨t0, t1, t2, t3⟩, _⟩ := T1.out
    go_wp2_with fail
    refine (liGood_any A' c' n' xs' k' _ (HU'.out.nw HK1.out) HN'.out hl' q HQ.out.symm).mono ?_
    rintro e w2 ⟨rfl, hk2⟩
    have HK2 := Lib.hid (HK1.out.nw hk2)
    clear hk2
    go_wp2
    go_ret
    exact ⟨ret_bool (by cases q <;> rfl), HK2.out⟩

theorem sIsDesk_any (g n : Nat) (A' : Option Addr) (n' c' : Nat) (k k' : Int) (xs xs' : List Int) (B : Nat) (W : World) (hs : SlAt W B g n n xs) (hl : n ≤ 2000000) (hu' : Rd W (.slice A' n' c') xs') (hn' : xs'.length = n') (hl' : n' ≤ 2000000) (b : Bool) (hb : b = deskB xs k xs' k') :
    Calls Try.prog 11 #[.agg #[.slice (some ⟨g, 0, none⟩) n n, .int .i64 k, .slice A' n' c', .int .i64 k']] W fun e w' => e = .returned (.bool b) ∧ Kp Nw W w' := by
  have HC := Lib.hid (coGood_any g n A' n' c' k k' xs xs' B (W.alloc (.cells #[.slice (some ⟨g, 0, none⟩) n n, .int .i64 k, .slice A' n' c', .int .i64 k'] 28)) (hs.alloc _) hl (hu'.nw (.al _ _)) hn' hl' b hb)
  clear hs hu' hn' hb
  go_enter Try.func11, Try.ntmps11
  go_wp2_with fail
  refine HC.out.mono ?_
  rintro e w1 ⟨rfl, hk1⟩
  have HK1 := Lib.hid ((Kp.al W _).nw hk1)
  clear hk1
  go_wp2
  go_ret
  exact ⟨rfl, HK1.out⟩

set_option maxHeartbeats 1600000 in
theorem iIsDesk_any (g n : Nat) (A' : Option Addr) (n' c' : Nat) (k k' : Int) (xs xs' : List Int) (B : Nat) (W : World) (hs : SlAt W B g n n xs) (hu' : Rd W (.slice A' n' c') xs') (hn' : xs'.length = n') (hl' : n' ≤ 2000000) (b : Bool) (hb : b = deskB xs k xs' k') :
    Calls Try.prog 13 #[.agg #[.slice (some ⟨g, 0, none⟩) n n, .int .i64 k, .slice A' n' c', .int .i64 k']] W fun e w' => e = .returned (.bool b) ∧ Kp Nw W w' := by
  have HU' := Lib.hid hu'
  have HN' := Lib.hid hn'
  have T0 := Lib.hid (Own4.new W (.slice (some ⟨g, 0, none⟩) n n) (.int .i64 k) (.slice A' n' c') (.int .i64 k') 28)
  obtain ⟨p, hp⟩ : ∃ p, goodB xs k = p := ⟨_, rfl⟩
  obtain ⟨q, hq⟩ : ∃ q, catB xs' k' = q := ⟨_, rfl⟩
  have e : b = (p && q) := by rw [hb, ← hp, ← hq]; rfl
  subst e
  have HC := Lib.hid (iIsRing_any g n n xs k B (W.alloc (.cells #[.slice (some ⟨g, 0, none⟩) n n, .int .i64 k, .slice A' n' c', .int .i64 k'] 28)) (hs.alloc _))
  rw [hp] at HC
  have HQ := Lib.hid hq
  clear hs hu' hn' hb hp hq
  cases p
  · go_enter Try.func13, Try.ntmps13
    go_wp2_with fail
    refine HC.out.mono ?_
    rintro e w1 ⟨rfl, hk1⟩
    have HK1 := Lib.hid ((Kp.al W _).nw hk1)
    clear hk1
    go_wp2
    go_ret
    exact ⟨rfl, HK1.out⟩
  · go_enter Try.func13, Try.ntmps13
    go_wp2_with fail
    refine HC.out.mono ?_
    rintro e w1 ⟨rfl, hk1⟩
    have T1 := Lib.hid (T0.out.kp hk1 (fun h => h))
    have HK1 := Lib.hid ((Kp.al W _).nw hk1)
    clear hk1
    obtain ⟨⟨t0, t1, t2, t3⟩, _⟩ := T1.out
    go_wp2_with fail
    refine (iAreCats_any A' c' n' xs' k' _ (HU'.out.nw HK1.out) HN'.out hl' q HQ.out.symm).mono ?_
    rintro e w2 ⟨rfl, hk2⟩
    have HK2 := Lib.hid (HK1.out.nw hk2)
    clear hk2
    go_wp2
    go_ret
    exact ⟨ret_bool (by cases q <;> rfl), HK2.out⟩
end Go.Proofs.Ytcekobdnghllcaa
