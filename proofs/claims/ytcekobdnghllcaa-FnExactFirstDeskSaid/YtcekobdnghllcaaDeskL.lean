/- FirstDesk in the program and in its model, and the laws of FirstDesk and of IsDesk, at all arguments; no condition. -/
import Derived.Test.YtcekobdnghllcaaDeskA
import Derived.Test.YtcekobdnghllcaaMake
import Derived.Test.YtcekobdnghllcaaOpen
import Derived.Laws.OwnMore
namespace Go.Proofs.Ytcekobdnghllcaa
open Go.ChangeShapes Go.WideShapes Go.ChangeAt Go.RowKit Go.Joins

/-- what a call returns that makes a desk -/
def DeskRes (W : World) (xs : List Int) (k : Int) (xs' : List Int) (k' : Int) (e : Ending) (w' : World) : Prop := ∃ v v', e = .returned (.agg #[v, .int .i64 k, v', .int .i64 k']) ∧ Sl w' W.heap.size v xs ∧ Sl w' W.heap.size v' xs' ∧ (∀ g, v.ownBlock = some g → ¬ v'.ownBlock = some g) ∧ Kp Nw W w'

set_option maxHeartbeats 800000 in
theorem markDesk_any (A A' : Option Addr) (n c n' c' : Nat) (k s s' : Int) (xs xs' : List Int) (W : World) (B : Nat) (hu : Sl W B (.slice A n c) xs) (hn : xs.length = n) (hu' : Sl W B (.slice A' n' c') xs') (hn' : xs'.length = n') (ne : ∀ g, (Value.slice A n c).ownBlock = some g → ¬ (Value.slice A' n' c').ownBlock = some g) (h0 : 0 ≤ k) (h1 : k ≤ 1000000) (hl : n ≤ 1000000) (hl' : n' ≤ 1000000) :
    Calls Try.prog 8 #[.agg #[.slice A n c, .int .i64 s, .slice A' n' c', .int .i64 s'], .int .i64 k] W fun e w' => e = .returned (.int .i64 (k + n + n')) ∧ Sl w' B (.slice A n c) (marks k n) ∧ Sl w' B (.slice A' n' c') (marks (k + n) n') ∧ Kp (fun g => (Value.slice A n c).ownBlock = some g ∨ (Value.slice A' n' c').ownBlock = some g) W w' := by
  have HU := Lib.hid hu
  have HN := Lib.hid hn
  have HU' := Lib.hid hu'
  have HN' := Lib.hid hn'
  have NE := Lib.hid ne
  have O1 := Lib.hid hu.own_ge
  have T0 := Lib.hid (Own4.new W (.slice A n c) (.int .i64 s) (.slice A' n' c') (.int .i64 s') 28)
  clear hu hn hu' hn' ne
  go_enter Try.func8, Try.ntmps8
  go_wp2_with fail
  refine (markRing_any A n c k s xs _ B (HU.out.below (Kp.al _ _).below') HN.out h0 (by omega) (by rw [HN.out]; omega)).mono ?_
  rintro e w1 ⟨rfl, hs1, hk1⟩
  have T1 := Lib.hid (T0.out.kp hk1 (fun h => by have := O1.out _ h; omega))
  have HU1 := Lib.hid ((HU'.out.below (Kp.al _ _).below').kp hk1 (fun g h h2 => NE.out g h2 h))
  have HK1 := Lib.hid ((((Kp.refl (fun g => (Value.slice A n c).ownBlock = some g ∨ (Value.slice A' n' c').ownBlock = some g) W).alloc _).trans (hk1.mono (fun g _ h => .inl h))))
  have HS1 := Lib.hid hs1
  clear hs1 hk1
  obtain ⟨⟨t0, t1, t2, t3⟩, _⟩ := T1.out
  go_wp2_with fail
  refine (markCats_any A' n' c' (k + n) s' xs' _ B HU1.out HN'.out (by omega) (by omega) (by rw [HN'.out]; omega)).mono ?_
  rintro e w2 ⟨rfl, hs2, hk2⟩
  have HS2 := Lib.hid hs2
  have HS1 := Lib.hid (HS1.out.kp hk2 (fun g h h2 => NE.out g h h2))
  have HK2 := Lib.hid (HK1.out.trans (hk2.mono (fun g _ h => .inr h)))
  clear hs2 hk2
  go_wp2
  go_ret
  exact ⟨rfl, HS1.out, HS2.out, HK2.out⟩

set_option maxHeartbeats 800000 in
theorem heldDesk_any (A A' : Option Addr) (n c n' c' : Nat) (k s s' : Int) (W : World) (hu : Rd W (.slice A n c) (marks k n)) (hu' : Rd W (.slice A' n' c') (marks (k + n) n')) (h0 : 0 ≤ k) (h1 : k ≤ 1000000) (hl : n ≤ 1000000) (hl' : n' ≤ 1000000) :
    Calls Try.prog 9 #[.agg #[.slice A n c, .int .i64 s, .slice A' n' c', .int .i64 s'], .int .i64 k] W fun e w' => e = .returned (.int .i64 (k + n + n')) ∧ Kp Nw W w' := by
  have HU := Lib.hid hu
  have HU' := Lib.hid hu'
  have T0 := Lib.hid (Own4.new W (.slice A n c) (.int .i64 s) (.slice A' n' c') (.int .i64 s') 28)
  have q0 : (0 : Int) ≤ n := Int.natCast_nonneg _
  have q1 : (0 : Int) ≤ n' := Int.natCast_nonneg _
  have q2 : ¬ k + (n : Int) < 0 := by omega
  have q3 : ¬ k + (n : Int) + (n' : Int) < 0 := by omega
  clear hu hu'
  go_enter Try.func9, Try.ntmps9
  go_wp2_with fail
  refine (heldRing_any A n c k s _ (HU.out.nw (.al _ _)) h0 (by omega) (by omega)).mono ?_
  rintro e w1 ⟨rfl, hk1⟩
  have T1 := Lib.hid (T0.out.kp hk1 (fun h => h))
  have HK1 := Lib.hid ((Kp.al W _).nw hk1)
  clear hk1
  obtain ⟨⟨t0, t1, t2, t3⟩, _⟩ := T1.out
  go_wp2_with fail
  refine (heldCats_any A' n' c' (k + n) s' _ (HU'.out.nw HK1.out) (by omega) (by omega) (by omega)).mono ?_
  rintro e w2 ⟨rfl, hk2⟩
  have HK2 := Lib.hid (HK1.out.nw hk2)
  clear hk2
  go_wp2
  go_ret
  exact ⟨rfl, HK2.out⟩

set_option maxHeartbeats 800000 in
theorem iFirstDesk_any (W : World) : Calls Try.prog 6 #[] W (DeskRes W (marks 0 7) 3 [2, 2, 2] 2) := by
  have O0 := Lib.hid (Own4.new W (.slice none 0 0) (.int .i64 0) (.slice none 0 0) (.int .i64 0) 28)
  go_enter Try.func6, Try.ntmps6
  go_wp2_with fail
  refine (firstNumbers_any 7 _ (by omega)).mono ?_
  rintro e w1 ⟨v, rfl, hs, hk⟩
  obtain ⟨A, c, rfl⟩ := hs.val (marks_length 0 7)
  have O1 := Lib.hid ((O0.out.kp hk (fun h => h)).kp (.al w1 (.cells #[.int .i64 2, .int .i64 2, .int .i64 2] 3)) (fun h => h))
  have HS := Lib.hid hs
  have HK := Lib.hid ((Kp.al W _).nw hk)
  have hz : W.heap.size + 1 ≤ w1.heap.size := by have := hk.size; simpa using this
  clear hs hk
  obtain ⟨⟨o0, o1, o2, o3⟩, of0, of1, of2, of3⟩ := O1.out
  have O2 := Lib.hid (O1.out.put (.slice A 7 c) (.int .i64 3) (.slice (some ⟨w1.heap.size, 0, none⟩) 3 3) (.int .i64 2))
  have K12 : Kp (fun b => b = W.heap.size) (w1.alloc (.cells #[.int .i64 2, .int .i64 2, .int .i64 2] 3)) (((((w1.alloc (.cells #[.int .i64 2, .int .i64 2, .int .i64 2] 3)).setCell ⟨W.heap.size, 0, none⟩ (.slice A 7 c)).setCell ⟨W.heap.size, 1, none⟩ (.int .i64 3)).setCell ⟨W.heap.size, 2, none⟩ (.slice (some ⟨w1.heap.size, 0, none⟩) 3 3)).setCell ⟨W.heap.size, 3, none⟩ (.int .i64 2)) :=
    Kp.two (S := fun b => b = W.heap.size) (Kp.two (S := fun b => b = W.heap.size) (Kp.refl _ _) (.inl rfl) _ _) (.inl rfl) _ _
  have HL : Sl (w1.alloc (.cells #[.int .i64 2, .int .i64 2, .int .i64 2] 3)) W.heap.size (.slice (some ⟨w1.heap.size, 0, none⟩) 3 3) [2, 2, 2] := World.ownsRow_lit w1 #[.int .i64 2, .int .i64 2, .int .i64 2] 3 (by omega) (by unfold maxLen; omega) rfl
  have O9 := HS.out.own_ge
  have hsz : (w1.alloc (.cells #[.int .i64 2, .int .i64 2, .int .i64 2] 3)).heap.size = w1.heap.size + 1 := by simp
  have HR : Hid (DeskRes W (marks 0 7) 3 [2, 2, 2] 2 (.returned (.agg #[.slice A 7 c, .int .i64 3, .slice (some ⟨w1.heap.size, 0, none⟩) 3 3, .int .i64 2])) (((((w1.alloc (.cells #[.int .i64 2, .int .i64 2, .int .i64 2] 3)).setCell ⟨W.heap.size, 0, none⟩ (.slice A 7 c)).setCell ⟨W.heap.size, 1, none⟩ (.int .i64 3)).setCell ⟨W.heap.size, 2, none⟩ (.slice (some ⟨w1.heap.size, 0, none⟩) 3 3)).setCell ⟨W.heap.size, 3, none⟩ (.int .i64 2))) := Lib.hid ⟨_, _, rfl,
    ((HS.out.below (Kp.al _ _).below').kp K12 (fun g h h2 => by have := (O9 g h).1; simp only [World.size_alloc] at this; omega)).from (by simp only [World.size_alloc]; omega),
    HL.kp K12 (fun g h h2 => by have h3 : w1.heap.size = g := by simpa [Value.ownBlock] using h
                                omega),
    fun g h h2 => by
      have h3 : w1.heap.size = g := by simpa [Value.ownBlock] using h2
      have := (O9 g h).2
      omega,
    ((HK.out.nw (.al _ _)).two (.inr (Nat.le_refl _)) _ _).two (.inr (Nat.le_refl _)) _ _⟩
  clear K12 HL O9 hsz
  obtain ⟨⟨z0, z1, z2, z3⟩, _⟩ := O2.out
  go_wp2
  exact bodyPost_ret (v := .agg #[.slice A 7 c, .int .i64 3, .slice (some ⟨w1.heap.size, 0, none⟩) 3 3, .int .i64 2]) (by simp [results, Try.results6, go_sem, z0, z1, z2, z3]) rfl HR.out

set_option maxHeartbeats 800000 in
theorem sFirstDesk_any (W : World) : Calls Try.prog 5 #[] W (DeskRes W (marks 0 7) 3 [2, 2, 2] 2) := by
  have O0 := Lib.hid (Own4.new W (.slice none 0 0) (.int .i64 0) (.slice none 0 0) (.int .i64 0) 28)
  go_enter Try.func5, Try.ntmps5
  go_wp2_with fail
  refine (ciPeople_any 7 _ (by omega)).mono ?_
  rintro e w1 ⟨v, rfl, hs, hk⟩
  obtain ⟨A, c, rfl⟩ := hs.val (marks_length 0 7)
  have O1 := Lib.hid ((O0.out.kp hk (fun h => h)).kp (.al w1 (.cells #[.int .i64 2, .int .i64 2, .int .i64 2] 3)) (fun h => h))
  have HS := Lib.hid hs
  have HK := Lib.hid ((Kp.al W _).nw hk)
  have hz : W.heap.size + 1 ≤ w1.heap.size := by have := hk.size; simpa using this
  clear hs hk
  obtain ⟨⟨o0, o1, o2, o3⟩, of0, of1, of2, of3⟩ := O1.out
  have O2 := Lib.hid (O1.out.put (.slice A 7 c) (.int .i64 3) (.slice (some ⟨w1.heap.size, 0, none⟩) 3 3) (.int .i64 2))
  have K12 : Kp (fun b => b = W.heap.size) (w1.alloc (.cells #[.int .i64 2, .int .i64 2, .int .i64 2] 3)) (((((w1.alloc (.cells #[.int .i64 2, .int .i64 2, .int .i64 2] 3)).setCell ⟨W.heap.size, 0, none⟩ (.slice A 7 c)).setCell ⟨W.heap.size, 1, none⟩ (.int .i64 3)).setCell ⟨W.heap.size, 2, none⟩ (.slice (some ⟨w1.heap.size, 0, none⟩) 3 3)).setCell ⟨W.heap.size, 3, none⟩ (.int .i64 2)) :=
    Kp.two (S := fun b => b = W.heap.size) (Kp.two (S := fun b => b = W.heap.size) (Kp.refl _ _) (.inl rfl) _ _) (.inl rfl) _ _
  have HL : Sl (w1.alloc (.cells #[.int .i64 2, .int .i64 2, .int .i64 2] 3)) W.heap.size (.slice (some ⟨w1.heap.size, 0, none⟩) 3 3) [2, 2, 2] := World.ownsRow_lit w1 #[.int .i64 2, .int .i64 2, .int .i64 2] 3 (by omega) (by unfold maxLen; omega) rfl
  have O9 := HS.out.own_ge
  have hsz : (w1.alloc (.cells #[.int .i64 2, .int .i64 2, .int .i64 2] 3)).heap.size = w1.heap.size + 1 := by simp
  have HR : Hid (DeskRes W (marks 0 7) 3 [2, 2, 2] 2 (.returned (.agg #[.slice A 7 c, .int .i64 3, .slice (some ⟨w1.heap.size, 0, none⟩) 3 3, .int .i64 2])) (((((w1.alloc (.cells #[.int .i64 2, .int .i64 2, .int .i64 2] 3)).setCell ⟨W.heap.size, 0, none⟩ (.slice A 7 c)).setCell ⟨W.heap.size, 1, none⟩ (.int .i64 3)).setCell ⟨W.heap.size, 2, none⟩ (.slice (some ⟨w1.heap.size, 0, none⟩) 3 3)).setCell ⟨W.heap.size, 3, none⟩ (.int .i64 2))) := Lib.hid ⟨_, _, rfl,
    ((HS.out.below (Kp.al _ _).below').kp K12 (fun g h h2 => by have := (O9 g h).1; simp only [World.size_alloc] at this; omega)).from (by simp only [World.size_alloc]; omega),
    HL.kp K12 (fun g h h2 => by have h3 : w1.heap.size = g := by simpa [Value.ownBlock] using h
                                omega),
    fun g h h2 => by
      have h3 : w1.heap.size = g := by simpa [Value.ownBlock] using h2
      have := (O9 g h).2
      omega,
    ((HK.out.nw (.al _ _)).two (.inr (Nat.le_refl _)) _ _).two (.inr (Nat.le_refl _)) _ _⟩
  clear K12 HL O9 hsz
  obtain ⟨⟨z0, z1, z2, z3⟩, _⟩ := O2.out
  go_wp2
  exact bodyPost_ret (v := .agg #[.slice A 7 c, .int .i64 3, .slice (some ⟨w1.heap.size, 0, none⟩) 3 3, .int .i64 2]) (by simp [results, Try.results5, go_sem, z0, z1, z2, z3]) rfl HR.out

set_option maxHeartbeats 3200000 in
theorem lawFirstDesk_of (xs xs' : List Int) (k k' : Int) (W : World) (hlen : xs.length ≤ 1000000) (hlen' : xs'.length ≤ 1000000)
    (hS : Hid (∀ W, Calls Try.prog 5 #[] W (DeskRes W xs k xs' k'))) (hI : Hid (∀ W, Calls Try.prog 6 #[] W (DeskRes W xs k xs' k'))) :
    Calls Try.prog 3 #[] W fun e w' => e = .returned (.bool true) ∧ Kp Nw W w' := by
  obtain ⟨n, hn⟩ : ∃ n, xs.length = n := ⟨_, rfl⟩
  obtain ⟨n', hn'⟩ : ∃ n', xs'.length = n' := ⟨_, rfl⟩
  have HL : Hid (xs.length ≤ maxLen) := Lib.hid (by unfold maxLen; omega)
  have HL' : Hid (xs'.length ≤ maxLen) := Lib.hid (by unfold maxLen; omega)
  have hlen : n ≤ 1000000 := by omega
  have hlen' : n' ≤ 1000000 := by omega
  have HN := Lib.hid hn
  have HN' := Lib.hid hn'
  clear hn hn'
  have hn0 : (0 : Int) ≤ n := Int.natCast_nonneg _
  have hn0' : (0 : Int) ≤ n' := Int.natCast_nonneg _
  have q3 : ¬ (1 : Int) + n + n' < 0 := by omega
  go_enter Try.func3, Try.ntmps3
  go_wp2_with fail
  refine (hS.out _).mono ?_
  rintro e w1 ⟨v1, v1', rfl, hs1, hs1', ne1, hk1⟩
  obtain ⟨A1, c1, rfl⟩ := hs1.val HN.out
  obtain ⟨A1', c1', rfl⟩ := hs1'.val HN'.out
  have HS1 := Lib.hid hs1; have HS1' := Lib.hid hs1'; have HK1 := Lib.hid hk1; clear hs1 hs1' hk1 ne1
  go_wp2_with fail
  refine (hI.out _).mono ?_
  rintro e w2 ⟨v2, v2', rfl, hs2, hs2', ne2, hk2⟩
  obtain ⟨A2, c2, rfl⟩ := hs2.val HN.out
  obtain ⟨A2', c2', rfl⟩ := hs2'.val HN'.out
  have T1 := Lib.hid ((Own4.new w1 (.slice A1 n c1) (.int .i64 k) (.slice A1' n' c1') (.int .i64 k') 28).kp hk2 (fun h => h))
  have z2 : w1.heap.size < w2.heap.size := by have := hk2.size; simp at this; omega
  have O1 := Lib.hid HS1.out.own_ge
  have O1' := Lib.hid HS1'.out.own_ge
  have O2 := Lib.hid hs2.own_ge
  have O2' := Lib.hid hs2'.own_ge
  have HS2 := Lib.hid hs2; have HS2' := Lib.hid hs2'; have HK2 := Lib.hid hk2; have NE := Lib.hid ne2; clear hs2 hs2' hk2 ne2
  obtain ⟨⟨p0, p1, p2, p3⟩, _⟩ := T1.out
  go_wp2_with fail
  refine (eqDesk_same A2 A1 A2' A1' n c2 c1 n' c2' c1' k k' xs xs' _ (HS2.out.rd.nw (.al _ _)) (((HS1.out.rd.nw (.al _ _)).nw HK2.out).nw (.al _ _)) (HS2'.out.rd.nw (.al _ _)) (((HS1'.out.rd.nw (.al _ _)).nw HK2.out).nw (.al _ _)) HL.out HL'.out).mono ?_
  rintro e w3 ⟨rfl, hk3⟩
  clear p0 p1 p2 p3
  have T1 := Lib.hid ((T1.out.kp (.al w2 (.cells #[.slice A2 n c2, .int .i64 k, .slice A2' n' c2', .int .i64 k'] 28)) (fun h => h)).kp hk3 (fun h => h))
  have T2 := Lib.hid ((Own4.new w2 (.slice A2 n c2) (.int .i64 k) (.slice A2' n' c2') (.int .i64 k') 28).kp hk3 (fun h => h))
  have z3 : w2.heap.size < w3.heap.size := by have := hk3.size; simp at this; omega
  have HS2 := Lib.hid ((HS2.out.below (Kp.al _ _).below').below hk3.below')
  have HS2' := Lib.hid ((HS2'.out.below (Kp.al _ _).below').below hk3.below')
  have HK3 := Lib.hid hk3; clear hk3
  obtain ⟨⟨p0, p1, p2, p3⟩, _⟩ := T2.out
  go_wp2_with fail
  refine (markDesk_any A2 A2' n c2 n' c2' 1 k k' xs xs' _ _ HS2.out HN.out HS2'.out HN'.out NE.out (by omega) (by omega) hlen hlen').mono ?_
  rintro e w4 ⟨rfl, hs4, hs4', hk4⟩
  have hne : ∀ g, ((Value.slice A2 n c2).ownBlock = some g ∨ (Value.slice A2' n' c2').ownBlock = some g) → w1.heap.size + 1 ≤ g ∧ g < w2.heap.size := fun g hg => by
    rcases hg with hg | hg
    · have := O2.out g hg; simp at this; omega
    · have := O2'.out g hg; simp at this; omega
  have T1 := Lib.hid (T1.out.kp hk4 (fun hg => by have := hne _ hg; omega))
  have T2 := Lib.hid (T2.out.kp hk4 (fun hg => by have := hne _ hg; omega))
  have HS1 := Lib.hid ((((HS1.out.below (Kp.al _ _).below').below HK2.out.below').below (Kp.al _ _).below').below HK3.out.below' |>.kp hk4 (fun g h1 h2 => by have := hne _ h2; have := (O1.out g h1).2; omega))
  have HS1' := Lib.hid ((((HS1'.out.below (Kp.al _ _).below').below HK2.out.below').below (Kp.al _ _).below').below HK3.out.below' |>.kp hk4 (fun g h1 h2 => by have := hne _ h2; have := (O1'.out g h1).2; omega))
  have z4 : w3.heap.size ≤ w4.heap.size := hk4.size
  have HS4 := Lib.hid hs4
  have HS4' := Lib.hid hs4'
  have HK4 := Lib.hid ((((HK1.out.nw (.al _ _)).nw HK2.out).nw (.al _ _)).nw HK3.out |>.after hk4 (fun g hg h2 => by have := hne _ h2; have := HK1.out.size; omega))
  have NE2 := Lib.hid hne
  clear p0 p1 p2 p3 hs4 hs4' hk4 hne
  obtain ⟨⟨p0, p1, p2, p3⟩, _⟩ := T2.out
  go_wp2_with fail
  refine (heldDesk_any A2 A2' n c2 n' c2' 1 k k' _ HS4.out.rd HS4'.out.rd (by omega) (by omega) hlen hlen').mono ?_
  rintro e w5 ⟨rfl, hk5⟩
  have T1 := Lib.hid (T1.out.kp hk5 (fun h => h))
  have T2 := Lib.hid (T2.out.kp hk5 (fun h => h))
  have z5 : w4.heap.size ≤ w5.heap.size := hk5.size
  have HS4 := Lib.hid (HS4.out.below hk5.below')
  have HS4' := Lib.hid (HS4'.out.below hk5.below')
  have HS1 := Lib.hid (HS1.out.below hk5.below')
  have HS1' := Lib.hid (HS1'.out.below hk5.below')
  have HK5 := Lib.hid (HK4.out.nw hk5)
  clear p0 p1 p2 p3 hk5
  go_wp2_with fail
  refine (hI.out _).mono ?_
  rintro e w6 ⟨v6, v6', rfl, hs6, hs6', ne6, hk6⟩
  obtain ⟨A6, c6, rfl⟩ := hs6.val HN.out
  obtain ⟨A6', c6', rfl⟩ := hs6'.val HN'.out
  have T1 := Lib.hid ((T1.out.kp hk6 (fun h => h)).kp (.al w6 (.cells #[.slice A6 n c6, .int .i64 k, .slice A6' n' c6', .int .i64 k'] 28)) (fun h => h))
  have T2 := Lib.hid ((T2.out.kp hk6 (fun h => h)).kp (.al w6 (.cells #[.slice A6 n c6, .int .i64 k, .slice A6' n' c6', .int .i64 k'] 28)) (fun h => h))
  have HS6 := Lib.hid hs6; have HS6' := Lib.hid hs6'
  have HS4 := Lib.hid ((HS4.out.below hk6.below').below (Kp.al w6 (.cells #[.slice A6 n c6, .int .i64 k, .slice A6' n' c6', .int .i64 k'] 28)).below')
  have HS4' := Lib.hid ((HS4'.out.below hk6.below').below (Kp.al w6 (.cells #[.slice A6 n c6, .int .i64 k, .slice A6' n' c6', .int .i64 k'] 28)).below')
  have HS1 := Lib.hid (HS1.out.below hk6.below')
  have HS1' := Lib.hid (HS1'.out.below hk6.below')
  have HK6 := Lib.hid (HK5.out.nw hk6)
  clear hs6 hs6' ne6 hk6
  obtain ⟨⟨p0, p1, p2, p3⟩, _⟩ := T1.out
  go_wp2_with fail
  refine (eqDesk_same A6 A1 A6' A1' n c6 c1 n' c6' c1' k k' xs xs' _ (HS6.out.rd.nw (.al _ _)) (HS1.out.rd.nw (.al _ _)) (HS6'.out.rd.nw (.al _ _)) (HS1'.out.rd.nw (.al _ _)) HL.out HL'.out).mono ?_
  rintro e w7 ⟨rfl, hk7⟩
  have T2 := Lib.hid (T2.out.kp hk7 (fun h => h))
  have HS4 := Lib.hid (HS4.out.below hk7.below')
  have HS4' := Lib.hid (HS4'.out.below hk7.below')
  have HK7 := Lib.hid ((HK6.out.nw (.al _ _)).nw hk7)
  clear p0 p1 p2 p3 hk7
  obtain ⟨⟨p0, p1, p2, p3⟩, _⟩ := T2.out
  go_wp2_with fail
  refine (heldDesk_any A2 A2' n c2 n' c2' 1 k k' _ HS4.out.rd HS4'.out.rd (by omega) (by omega) hlen hlen').mono ?_
  rintro e w8 ⟨rfl, hk8⟩
  have HK8 := Lib.hid (HK7.out.nw hk8)
  clear p0 p1 p2 p3 hk8
  go_wp2
  go_ret
  exact ⟨rfl, HK8.out⟩

theorem lawFirstDesk (W : World) : Calls Try.prog 3 #[] W fun e w' => e = .returned (.bool true) ∧ Kp Nw W w' :=
  lawFirstDesk_of (marks 0 7) [2, 2, 2] 3 2 W (by rw [marks_length]; omega) (by simp) (Lib.hid fun W => sFirstDesk_any W) (Lib.hid fun W => iFirstDesk_any W)

set_option maxHeartbeats 800000 in
theorem lawIsDesk_large (A : Option Addr) (n c : Nat) (k : Int) (A' : Option Addr) (n' c' : Nat) (k' : Int) (W : World) (hn : n ≤ maxLen) (hn' : n' ≤ maxLen) (h : 1048576 < n + n') :
    Calls Try.prog 4 #[.agg #[.slice A n c, .int .i64 k, .slice A' n' c', .int .i64 k']] W fun e w' => e = .returned (.bool true) ∧ Kp Nw W w' := by
  go_enter Try.func4, Try.ntmps4
  go_wp2_with fail
  refine (szDesk_large A n c k A' n' c' k' _ hn hn' h).mono ?_
  rintro e w1 ⟨rfl, hk1⟩
  have HK1 := Lib.hid ((Kp.al _ _).nw hk1)
  clear hk1
  go_wp2
  go_ret
  exact ⟨rfl, HK1.out⟩

set_option maxHeartbeats 3200000 in
theorem lawIsDesk_small (A : Option Addr) (n c : Nat) (k : Int) (A' : Option Addr) (n' c' : Nat) (k' : Int) (xs xs' : List Int) (W : World) (hu : Rd W (.slice A n c) xs) (hn : xs.length = n) (hu' : Rd W (.slice A' n' c') xs') (hn' : xs'.length = n') (h : n + n' ≤ 1048576) :
    Calls Try.prog 4 #[.agg #[.slice A n c, .int .i64 k, .slice A' n' c', .int .i64 k']] W fun e w' => e = .returned (.bool true) ∧ Kp Nw W w' := by
  obtain ⟨b, hb⟩ : ∃ b, b = deskB xs k xs' k' := ⟨_, rfl⟩
  have HB := Lib.hid hb
  have HU := Lib.hid hu
  have HN := Lib.hid hn
  have HU' := Lib.hid hu'
  have HN' := Lib.hid hn'
  have HL : Hid (xs.length ≤ maxLen) := Lib.hid (by unfold maxLen; omega)
  have HL' : Hid (xs'.length ≤ maxLen) := Lib.hid (by unfold maxLen; omega)
  have q0 : ¬ (1048576 : Int) - (n : Int) - (n' : Int) < 0 := by omega
  clear hb hu hn hu' hn'
  go_enter Try.func4, Try.ntmps4
  go_wp2_with fail
  refine (szDesk_small A n c k A' n' c' k' _ h).mono ?_
  rintro e w1 ⟨rfl, hk1⟩
  have T0 := Lib.hid ((Own4.new W (.slice A n c) (.int .i64 k) (.slice A' n' c') (.int .i64 k') 36).kp hk1 (fun h => h))
  have HK1 := Lib.hid ((Kp.al _ _).nw hk1)
  clear hk1
  obtain ⟨⟨t0, t1, t2, t3⟩, _⟩ := T0.out
  go_wp2_with fail
  refine (toDesk_any A n c k A' n' c' k' xs xs' _ (HU.out.nw HK1.out) HN.out (HU'.out.nw HK1.out) HN'.out h).mono ?_
  rintro e w2 ⟨g2, g2', rfl, hs2, hs2', ne2, hk2, hg2, hg2'⟩
  have HS2 := Lib.hid hs2
  have HS2' := Lib.hid hs2'
  have T0 := Lib.hid (T0.out.kp hk2 (fun h => h))
  have HK2 := Lib.hid (HK1.out.nw hk2)
  clear hs2 hs2' ne2 hk2 t0 t1 t2 t3
  go_wp2_with fail
  refine (sIsDesk_any g2 n _ n' n' k k' xs xs' _ _ HS2.out (by omega) HS2'.out.sl.rd HN'.out (by omega) b HB.out).mono ?_
  rintro e w3 ⟨rfl, hk3⟩
  have T0 := Lib.hid (T0.out.kp hk3 (fun h => h))
  have HK3 := Lib.hid (HK2.out.nw hk3)
  clear hk3
  obtain ⟨⟨t0, t1, t2, t3⟩, _⟩ := T0.out
  go_wp2_with fail
  refine (toDesk_any A n c k A' n' c' k' xs xs' _ (HU.out.nw HK3.out) HN.out (HU'.out.nw HK3.out) HN'.out h).mono ?_
  rintro e w4 ⟨g4, g4', rfl, hs4, hs4', ne4, hk4, hg4, hg4'⟩
  have HS4 := Lib.hid hs4
  have HS4' := Lib.hid hs4'
  have T0 := Lib.hid (T0.out.kp hk4 (fun h => h))
  have HK4 := Lib.hid (HK3.out.nw hk4)
  clear hs4 hs4' ne4 hk4 t0 t1 t2 t3
  go_wp2_with fail
  refine (iIsDesk_any g4 n _ n' n' k k' xs xs' _ _ (HS4.out.alloc _) (HS4'.out.sl.rd.nw (.al _ _)) HN'.out (by omega) b HB.out).mono ?_
  rintro e w5 ⟨rfl, hk5⟩
  have T4 := Lib.hid ((Own4.new w4 (.slice (some ⟨g4, 0, none⟩) n n) (.int .i64 k) (.slice (some ⟨g4', 0, none⟩) n' n') (.int .i64 k') 28).kp hk5 (fun h => h))
  have T0 := Lib.hid ((T0.out.kp (.al w4 (.cells #[.slice (some ⟨g4, 0, none⟩) n n, .int .i64 k, .slice (some ⟨g4', 0, none⟩) n' n', .int .i64 k'] 28)) (fun h => h)).kp hk5 (fun h => h))
  have HS4 := Lib.hid (((HS4.out.sl.below (Kp.al _ _).below').below hk5.below').rd)
  have HS4' := Lib.hid (((HS4'.out.sl.below (Kp.al _ _).below').below hk5.below').rd)
  have HK5 := Lib.hid ((HK4.out.nw (.al _ _)).nw hk5)
  clear hk5
  obtain ⟨⟨t0, t1, t2, t3⟩, _⟩ := T0.out
  obtain ⟨⟨u0, u1, u2, u3⟩, _⟩ := T4.out
  have q1 : W.heap.size ≤ w5.heap.size := HK5.out.size
  have Z0 := Lib.hid T0.out.1
  have Z4 := Lib.hid T4.out.1
  go_wp2_with fail
  go_region_held3 (fun w' => Kp Nw w5 w' ∧ (w'.cell? ⟨W.heap.size, 0, none⟩ = some (.slice A n c) ∧ w'.cell? ⟨W.heap.size, 1, none⟩ = some (.int .i64 k) ∧ w'.cell? ⟨W.heap.size, 2, none⟩ = some (.slice A' n' c') ∧ w'.cell? ⟨W.heap.size, 3, none⟩ = some (.int .i64 k')) ∧ w'.cell? ⟨w4.heap.size, 0, none⟩ = some (.slice (some ⟨g4, 0, none⟩) n n) ∧ w'.cell? ⟨w4.heap.size, 1, none⟩ = some (.int .i64 k) ∧ w'.cell? ⟨w4.heap.size, 2, none⟩ = some (.slice (some ⟨g4', 0, none⟩) n' n') ∧ w'.cell? ⟨w4.heap.size, 3, none⟩ = some (.int .i64 k'))
    (first
      | exact ⟨(Kp.refl _ _).drew, Z0.out, Z4.out⟩
      | exact ⟨hkW7, (T0.out.kp hkW7 (fun h => h)).1, (T4.out.kp hkW7 (fun h => h)).1⟩
      | exact ⟨hkW6, (T0.out.kp hkW6 (fun h => h)).1, (T4.out.kp hkW6 (fun h => h)).1⟩)
    (first
      | (go_at_call 12
         refine (toDesk_any A n c k A' n' c' k' xs xs' _ (HU.out.nw (HK5.out.nw (‹Kp Nw w5 _ ∧ _›.1))) HN.out (HU'.out.nw (HK5.out.nw (‹Kp Nw w5 _ ∧ _›.1))) HN'.out h).mono ?_
         rintro e w6 ⟨g6, g6', rfl, hs6, hs6', ne6, hk6, hg6, hg6'⟩
         have hkW6 := (‹Kp Nw w5 _ ∧ _›.1).nw hk6)
      | (go_at_call 7
         refine (eqDesk_same _ _ _ _ n _ _ n' _ _ k k' xs xs' _ (HS4.out.nw (‹Kp Nw w5 _ ∧ _›.1)) hs6.sl.rd (HS4'.out.nw (‹Kp Nw w5 _ ∧ _›.1)) hs6'.sl.rd HL.out HL'.out).mono ?_
         rintro e w7 ⟨rfl, hk7⟩
         have hkW7 := (‹Kp Nw w5 _ ∧ _›.1).nw hk7)
      | fail)
  have HK7 := Lib.hid (HK5.out.nw hkW7)
  clear hkW7 hkW6 hk6 hk7 hs6 hs6'
  go_wp2
  go_ret
  exact ⟨rfl, HK7.out⟩

theorem lawIsDesk (A : Option Addr) (n c : Nat) (k : Int) (A' : Option Addr) (n' c' : Nat) (k' : Int) (xs xs' : List Int) (W : World) (hu : Rd W (.slice A n c) xs) (hn : xs.length = n) (hm : n ≤ maxLen) (hu' : Rd W (.slice A' n' c') xs') (hn' : xs'.length = n') (hm' : n' ≤ maxLen) :
    Calls Try.prog 4 #[.agg #[.slice A n c, .int .i64 k, .slice A' n' c', .int .i64 k']] W fun e w' => e = .returned (.bool true) ∧ Kp Nw W w' := by
  by_cases h : n + n' ≤ 1048576
  · exact lawIsDesk_small A n c k A' n' c' k' xs xs' W hu hn hu' hn' h
  · exact lawIsDesk_large A n c k A' n' c' k' W hm hm' (by omega)

theorem cellsDesk : Try.prog.cellsOf 36 = 4 := by kernel_rfl

theorem open_row {H : Type} {enc : TypeId × Value → H} {W : World} {base fuel : Nat} {spare : Nat → Bool} {held : Bool} {c0 : Value} {y : DataW H × List MemPlace} (t0 : DataW.trod enc Try.prog W base spare held fuel 22 [c0] = some y) :
    ∃ (A : Option Addr) (n c : Nat) (xs : List Int), c0 = .slice A n c ∧ Rd W (.slice A n c) xs ∧ xs.length = n ∧ n ≤ maxLen := by
  rcases open_ints Try.underlying22 Try.underlying3 cellsInt t0 with ⟨hcs, _⟩ | ⟨a, len, cap, zs, hcs, _, hl, hm, hz, _, hcell, _⟩
  · simp only [List.cons.injEq, and_true] at hcs
    subst hcs
    exact ⟨none, 0, 0, [], rfl, ⟨none, 0, rfl, fun j hj => by simp at hj⟩, rfl, Nat.zero_le _⟩
  · simp only [List.cons.injEq, and_true] at hcs
    subst hcs
    have hz2 : len ≤ zs.length := by rw [hz]; split <;> omega
    have hlen : (zs.take len).length = len := by rw [List.length_take]; omega
    refine ⟨some a, len, cap, zs.take len, rfl, ⟨some a, cap, by rw [hlen], fun j hj => ?_⟩, hlen, by omega⟩
    rw [hlen] at hj
    have hc := hcell j (by omega)
    obtain ⟨b, off, spot⟩ := a
    have hspot : spot = none := by simpa [Addr.add] using World.cell?_spot (hcell 0 (by omega))
    subst hspot
    refine ⟨b, off, rfl, ?_⟩
    rw [← addr_add, hc]
    simp [List.getD, hj]

set_option maxRecDepth 100000 in
theorem open_desk {H : Type} {enc : TypeId × Value → H} {W : World} {base : Nat} {v : Value} {d : DataW H} {p : List MemPlace} (hv : Value.okWide Try.prog W .any base 36 v) (h : DataW.Trod enc Try.prog W 0 (fun _ => true) true 36 v d p) :
    ∃ (A : Option Addr) (n c : Nat) (k : Int) (A' : Option Addr) (n' c' : Nat) (k' : Int) (xs xs' : List Int), v = .agg #[.slice A n c, .int .i64 k, .slice A' n' c', .int .i64 k'] ∧ Rd W (.slice A n c) xs ∧ xs.length = n ∧ n ≤ maxLen ∧ Rd W (.slice A' n' c') xs' ∧ xs'.length = n' ∧ n' ≤ maxLen := by
  obtain ⟨cs, rfl, hsz⟩ := okWide_struct Try.underlying36 hv
  obtain ⟨c0, c1, c2, c3, rfl⟩ := array4 (hsz.trans cellsDesk)
  obtain ⟨fuel, hf⟩ := h
  obtain ⟨y0, y1, m, _, _, t0, t1⟩ := trod_struct2 Try.underlying36 hf
  have e2 : Try.prog.cellsOf 33 = 2 := by kernel_rfl
  have e3 : Try.prog.cellsOf 34 = 2 := by kernel_rfl
  have f0 : Try.prog.cellsOf 22 = 1 := by kernel_rfl
  simp only [Value.cells, List.drop_zero, List.drop_succ_cons, e2, e3, List.take_succ_cons, List.take_zero] at t0 t1
  obtain ⟨z0, z1, m2, _, _, r0, r1⟩ := trod_struct2 Try.underlying33 t0
  obtain ⟨z2, z3, m3, _, _, r2, r3⟩ := trod_struct2 Try.underlying34 t1
  simp only [List.drop_zero, List.drop_succ_cons, f0, cellsInt, List.take_succ_cons, List.take_zero] at r0 r1 r2 r3
  obtain ⟨A, n, c, xs, rfl, g0, g1, g2⟩ := open_row r0
  obtain ⟨A', n', c', xs', rfl, g0', g1', g2'⟩ := open_row r2
  obtain ⟨k, hk, _, _⟩ := DataW.trod_int Try.underlying3 r1
  obtain ⟨k', hk', _, _⟩ := DataW.trod_int Try.underlying3 r3
  simp only [List.cons.injEq, and_true] at hk hk'
  subst hk hk'
  exact ⟨A, n, c, k, A', n', c', k', xs, xs', rfl, g0, g1, g2, g0', g1', g2'⟩
end Go.Proofs.Ytcekobdnghllcaa
