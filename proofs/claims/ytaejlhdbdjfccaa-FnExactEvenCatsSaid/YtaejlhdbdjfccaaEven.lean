/- Cats with as many lives each (EvenCats), in the program and in the model; no condition. -/
import Derived.Test.YtaejlhdbdjfccaaRep
namespace Go.Proofs.Ytaejlhdbdjfccaa
open Go.ChangeShapes Go.WideShapes Go.ChangeAt Go.RowKit

theorem catB_even (n : Nat) (l k : Int) (n1 : 1 ≤ n) (n2 : n ≤ 40) : catB (List.replicate n l) k = (decide (1 ≤ l ∧ l ≤ 9) && decide (1 ≤ k ∧ k ≤ 1000000)) := by
  have e : (List.replicate n l).all lifeB = decide (1 ≤ l ∧ l ≤ 9) := by
    cases h : decide (1 ≤ l ∧ l ≤ 9)
    · rw [List.all_eq_false]
      exact ⟨l, List.mem_replicate.2 ⟨by omega, rfl⟩, by unfold lifeB; rw [h]; simp⟩
    · rw [List.all_eq_true]
      intro y hy
      rw [List.eq_of_mem_replicate hy]
      exact h
  unfold catB
  rw [e, List.length_replicate]
  by_cases hk : 1 ≤ k ∧ k ≤ 1000000
  · rw [decide_eq_true (show 1 ≤ n ∧ n ≤ 40 ∧ 1 ≤ k ∧ k ≤ 1000000 from ⟨n1, n2, hk.1, hk.2⟩), decide_eq_true hk, Bool.true_and, Bool.and_true]
  · rw [decide_eq_false (show ¬ (1 ≤ n ∧ n ≤ 40 ∧ 1 ≤ k ∧ k ≤ 1000000) from fun h => hk ⟨h.2.2.1, h.2.2.2⟩), decide_eq_false hk, Bool.false_and, Bool.and_false]

theorem Own2.set0 {w : World} {b : Nat} {x y : Value} (h : Own2 w b x y) (u : Value) : Own2 (w.setCell ⟨b, 0, none⟩ u) b u y := by
  obtain ⟨h0, h1, h2, h3⟩ := h
  refine ⟨World.cell?_setCell_same _ _ _ h0, (World.cell?_setCell_other _ _ _ _ (by simp)).trans h1, ?_, ?_⟩
  · simpa [World.frozen?_setCell] using h2
  · simpa [World.frozen?_setCell] using h3

set_option maxHeartbeats 800000 in
theorem iEven_no (p l k : Int) (W : World) (h : p < 1 ∨ 40 < p) :
    Calls Try.prog 24 #[.int .i64 p, .int .i64 l, .int .i64 k] W (CatsRes0 W [] 0 false) := by
  go_enter Try.func24, Try.ntmps24
  go_wp2_with (first | ((with_reducible refine (within_no p _ _ _ h).mono ?_); rintro e w' ⟨rfl, rfl⟩))
  exact bodyPost_ret (v := .tuple #[.agg #[.slice none 0 0, .int .i64 0], .bool false]) (by simp [results, Try.results24, go_sem]) rfl ⟨_, rfl, Sl.nil _ _, (Kp.refl Nw W).alloc _⟩

set_option maxRecDepth 100000 in
set_option maxHeartbeats 1600000 in
theorem iEven_of (n : Nat) (l k : Int) (b : Bool) (W : World) (n1 : 1 ≤ n) (n2 : n ≤ 40) (hb : b = catB (List.replicate n l) k) :
    Calls Try.prog 24 #[.int .i64 n, .int .i64 l, .int .i64 k] W (CatsRes0 W (if b then List.replicate n l else []) (if b then k else 0) b) := by
  have HB := Lib.hid hb
  have m1 : 1 ≤ (n : Int) := by omega
  have m2 : (n : Int) ≤ 40 := by omega
  have R0 := Lib.hid (Own2.new W (.slice none 0 0) (.int .i64 0) 27)
  have hx : Hid (((W.alloc (.cells #[.slice none 0 0, .int .i64 0] 27)).alloc (.cells #[.int .i64 l] 3)).cell? ⟨W.heap.size + 1, 0, none⟩ = some (.int .i64 l)) := Lib.hid (by
    simp [World.cell?_alloc_at])
  clear hb
  cases b
  · go_enter Try.func24, Try.ntmps24
    go_wp2_with (first | ((with_reducible refine (within_yes (n : Int) _ _ _ m1 m2).mono ?_); rintro e w' ⟨rfl, rfl⟩))
    refine (repeat_any (W.heap.size + 1) n l _ hx.out n1 (by omega)).mono ?_
    rintro e w1 ⟨g, rfl, hs1, hk1, hg1, hg2⟩
    have HS := Lib.hid hs1
    obtain ⟨r0, r1, r2, r3⟩ := ((R0.out.kp (.al _ (.cells #[.int .i64 l] 3)) (fun h => h)).kp hk1 (fun h => h)).kp (.al _ (.cells #[.slice (some ⟨g, 0, none⟩) n n, .int .i64 k] 27)) (fun h => h)
    have HK := Lib.hid ((((Kp.al W _).nw (.al _ _)).nw hk1).nw (.al _ (.cells #[.slice (some ⟨g, 0, none⟩) n n, .int .i64 k] 27)))
    have R1 := Lib.hid (show Own2 _ _ _ _ from ⟨r0, r1, r2, r3⟩)
    clear hs1 hk1 r0 r1 r2 r3
    go_wp2_with fail
    refine (iAreCats_any (some ⟨g, 0, none⟩) n n (List.replicate n l) k _ (HS.out.sl.rd.nw (.al _ _)) (by simp) (by omega) false HB.out).mono ?_
    rintro e w2 ⟨rfl, hk2⟩
    obtain ⟨r0, r1, r2, r3⟩ := R1.out.kp hk2 (fun h => h)
    have HK2 := Lib.hid (HK.out.nw hk2)
    clear hk2
    obtain ⟨z0, z1⟩ := two_set w2 W.heap.size (.slice none 0 0) (.int .i64 0) _ _ r0 r1
    go_wp2
    refine bodyPost_ret (v := .tuple #[.agg #[.slice none 0 0, .int .i64 0], .bool false]) (by simp [results, Try.results24, go_sem, z0, z1]) rfl ⟨_, rfl, Sl.nil _ _, ?_⟩
    exact (HK2.out.setCell (.inr (Nat.le_refl _)) _).setCell (.inr (Nat.le_refl _)) _
  · go_enter Try.func24, Try.ntmps24
    go_wp2_with (first | ((with_reducible refine (within_yes (n : Int) _ _ _ m1 m2).mono ?_); rintro e w' ⟨rfl, rfl⟩))
    refine (repeat_any (W.heap.size + 1) n l _ hx.out n1 (by omega)).mono ?_
    rintro e w1 ⟨g, rfl, hs1, hk1, hg1, hg2⟩
    have HS := Lib.hid hs1
    obtain ⟨r0, r1, r2, r3⟩ := ((R0.out.kp (.al _ (.cells #[.int .i64 l] 3)) (fun h => h)).kp hk1 (fun h => h)).kp (.al _ (.cells #[.slice (some ⟨g, 0, none⟩) n n, .int .i64 k] 27)) (fun h => h)
    have T1 := Lib.hid (Two.new w1 (.slice (some ⟨g, 0, none⟩) n n) (.int .i64 k) 27)
    have HK := Lib.hid ((((Kp.al W _).nw (.al _ _)).nw hk1).nw (.al _ (.cells #[.slice (some ⟨g, 0, none⟩) n n, .int .i64 k] 27)))
    have R1 := Lib.hid (show Own2 _ _ _ _ from ⟨r0, r1, r2, r3⟩)
    have z1 : W.heap.size + 2 ≤ w1.heap.size := by have := hk1.size; simp at this; omega
    simp only [World.size_alloc] at hg1
    clear hs1 hk1 r0 r1 r2 r3
    go_wp2_with fail
    refine (iAreCats_any (some ⟨g, 0, none⟩) n n (List.replicate n l) k _ (HS.out.sl.rd.nw (.al _ _)) (by simp) (by omega) true HB.out).mono ?_
    rintro e w2 ⟨rfl, hk2⟩
    obtain ⟨r0, r1, r2, r3⟩ := R1.out.kp hk2 (fun h => h)
    obtain ⟨t0, t1⟩ := T1.out.nw hk2
    have HS2 := Lib.hid ((HS.out.sl.below (Kp.al _ _).below').below hk2.below')
    have HK2 := Lib.hid (HK.out.nw hk2)
    clear hk2
    obtain ⟨z0, z1'⟩ := two_set w2 W.heap.size (.slice (some ⟨g, 0, none⟩) n n) (.int .i64 k) _ _ r0 r1
    go_wp2
    refine bodyPost_ret (v := .tuple #[.agg #[.slice (some ⟨g, 0, none⟩) n n, .int .i64 k], .bool true]) (by simp [results, Try.results24, go_sem, z0, z1']) rfl ⟨_, rfl, ?_, ?_⟩
    · exact (HS2.out.kp (((Kp.refl (fun b => b = W.heap.size) w2).setCell (p := ⟨W.heap.size, 0, none⟩) (.inl rfl) (.slice (some ⟨g, 0, none⟩) n n)).setCell (p := ⟨W.heap.size, 1, none⟩) (.inl rfl) (.int .i64 k)) (fun g' h1 h2 => by have h3 : g' = g := (by simp [Value.ownBlock] at h1; omega); have h4 : g' = W.heap.size := h2; omega)).from (by simp only [World.size_alloc]; omega)
    · exact (HK2.out.setCell (.inr (Nat.le_refl _)) _).setCell (.inr (Nat.le_refl _)) _

/-- are they the model's even cats? -/
theorem sEven_no1 (p l k : Int) (W : World) (h : p < 1 ∨ 40 < p) :
    Calls Try.prog 23 #[.int .i64 p, .int .i64 l, .int .i64 k] W (CatsRes0 W [] 0 false) := by
  go_enter Try.func23, Try.ntmps23
  go_wp2_with (first | ((with_reducible refine (l1In_no p _ _ _ h).mono ?_); rintro e w' ⟨rfl, rfl⟩))
  exact bodyPost_ret (v := .tuple #[.agg #[.slice none 0 0, .int .i64 0], .bool false]) (by simp [results, Try.results23, go_sem]) rfl ⟨_, rfl, Sl.nil _ _, (Kp.refl Nw W).alloc _⟩
theorem sEven_no2 (p l k : Int) (W : World) (p1 : 1 ≤ p) (p2 : p ≤ 40) (h : l < 1 ∨ 9 < l) :
    Calls Try.prog 23 #[.int .i64 p, .int .i64 l, .int .i64 k] W (CatsRes0 W [] 0 false) := by
  go_enter Try.func23, Try.ntmps23
  go_wp2_with (first | ((with_reducible refine (l1In_yes p _ _ _ p1 p2).mono ?_); rintro e w' ⟨rfl, rfl⟩) | ((with_reducible refine (l1In_no l _ _ _ h).mono ?_); rintro e w' ⟨rfl, rfl⟩))
  exact bodyPost_ret (v := .tuple #[.agg #[.slice none 0 0, .int .i64 0], .bool false]) (by simp [results, Try.results23, go_sem]) rfl ⟨_, rfl, Sl.nil _ _, (Kp.refl Nw W).alloc _⟩
theorem sEven_no3 (p l k : Int) (W : World) (p1 : 1 ≤ p) (p2 : p ≤ 40) (l1 : 1 ≤ l) (l2 : l ≤ 9) (h : k < 1 ∨ 1000000 < k) :
    Calls Try.prog 23 #[.int .i64 p, .int .i64 l, .int .i64 k] W (CatsRes0 W [] 0 false) := by
  go_enter Try.func23, Try.ntmps23
  go_wp2_with (first | ((with_reducible refine (l1In_yes p _ _ _ p1 p2).mono ?_); rintro e w' ⟨rfl, rfl⟩) | ((with_reducible refine (l1In_yes l _ _ _ l1 l2).mono ?_); rintro e w' ⟨rfl, rfl⟩) | ((with_reducible refine (l1In_no k _ _ _ h).mono ?_); rintro e w' ⟨rfl, rfl⟩))
  exact bodyPost_ret (v := .tuple #[.agg #[.slice none 0 0, .int .i64 0], .bool false]) (by simp [results, Try.results23, go_sem]) rfl ⟨_, rfl, Sl.nil _ _, (Kp.refl Nw W).alloc _⟩

set_option maxRecDepth 100000 in
set_option maxHeartbeats 3200000 in
theorem sEven_yes (n : Nat) (l k : Int) (W : World) (n1 : 1 ≤ n) (n2 : n ≤ 40) (l1 : 1 ≤ l) (l2 : l ≤ 9) (k1 : 1 ≤ k) (k2 : k ≤ 1000000) :
    Calls Try.prog 23 #[.int .i64 n, .int .i64 l, .int .i64 k] W (CatsRes0 W (List.replicate n l) k true) := by
  have m1 : 1 ≤ (n : Int) := by omega
  have m2 : (n : Int) ≤ 40 := by omega
  have R0 := Lib.hid ((Own2.new W (.slice none 0 0) (.int .i64 0) 27).kp (.al _ (.cells #[.slice none 0 0, .int .i64 k] 27)) (fun h => h))
  have C0 : Hid (Own2 ((W.alloc (.cells #[.slice none 0 0, .int .i64 0] 27)).alloc (.cells #[.slice none 0 0, .int .i64 k] 27)) (W.heap.size + 1) (.slice none 0 0) (.int .i64 k)) := Lib.hid (by have h := Own2.new (W.alloc (.cells #[.slice none 0 0, .int .i64 0] 27)) (.slice none 0 0) (.int .i64 k) 27; rw [World.size_alloc] at h; exact h)
  go_enter Try.func23, Try.ntmps23
  go_wp2_with (first | ((with_reducible refine (l1In_yes (n : Int) _ _ _ m1 m2).mono ?_); rintro e w' ⟨rfl, rfl⟩) | ((with_reducible refine (l1In_yes l _ _ _ l1 l2).mono ?_); rintro e w' ⟨rfl, rfl⟩) | ((with_reducible refine (l1In_yes k _ _ _ k1 k2).mono ?_); rintro e w' ⟨rfl, rfl⟩))
  go_loopw [0] (fun v wr => ∃ (j m : Nat) (A : Option Addr) (c : Nat), j + m = n ∧ v = .int .i64 m ∧ Own2 wr (W.heap.size + 1) (.slice A j c) (.int .i64 k) ∧ Own2 wr W.heap.size (.slice none 0 0) (.int .i64 0) ∧ Sl wr (W.heap.size + 2) (.slice A j c) (List.replicate j l) ∧ Kp Nw W wr ∧ W.heap.size + 2 ≤ wr.heap.size) (fun v _ => (intOf v).toNat)
  case atStart => exact ⟨0, n, none, 0, by omega, rfl, C0.out, R0.out, Sl.nil _ _, (Kp.al W _).nw (.al _ _), by simp⟩
  case round =>
    rename_i wr
    obtain ⟨j, m, A, c, hjm, rfl, hC, hR, hS, hK, hz⟩ := hrel
    have HC := Lib.hid hC
    have HR := Lib.hid hR
    have HS := Lib.hid hS
    have HK := Lib.hid hK
    clear hR hS hK R0 C0
    by_cases hp : 0 < m
    · obtain ⟨q, rfl⟩ : ∃ q, m = q + 1 := ⟨m - 1, by omega⟩
      obtain ⟨t0, t1, t2, t3⟩ := hC
      have q9 : (0 : Int) < (q : Int) + 1 := by omega
      have q0 : IntKind.i64.wrap (q : Int) = q := IntWalk.i64_in _ (by omega)
      have q1 : IntKind.i64.wrap ((q : Int) + 1 - 1) = q := by rw [show (q : Int) + 1 - 1 = q by omega]; exact q0
      have hz2 : W.heap.size + 1 < wr.heap.size := by omega
      go_wp2_with (first | (at_builtin; refine wpList_app _ rfl (.tmp 30) (.tmp 32) rfl (W.heap.size + 2) (.slice A j c) _ (List.replicate j l) [l] rfl rfl (HS.out.below ((Kp.refl Nw wr).alloc _).below') (Rd.one (g := wr.heap.size) (by simp)) nil_one (by simp; omega) (by simp; omega) ?_))
      intro r' w3 hs3 hk3 hat
      obtain ⟨A3, c3, rfl⟩ := hs3.val (n := j + 1) (by simp)
      have nob : ∀ g, (Value.slice A j c).ownBlock = some g → W.heap.size + 2 ≤ g := fun g h => (HS.out.own_ge g h).1
      have HC3 := Lib.hid ((HC.out.kp (.al _ (.cells #[.int .i64 l] 3)) (fun h => h)).kp hk3 (fun h => by have := nob _ h; omega))
      have HR3 := Lib.hid ((HR.out.kp (.al _ (.cells #[.int .i64 l] 3)) (fun h => h)).kp hk3 (fun h => by have := nob _ h; omega))
      have HK3 := Lib.hid (((HK.out.nw (.al _ (.cells #[.int .i64 l] 3))).after hk3 (fun g hg h => by have := nob _ h; omega)))
      have HS3 := Lib.hid hs3
      have hz3 : W.heap.size + 2 ≤ w3.heap.size := by have := hk3.size; simp at this; omega
      obtain ⟨u0, u1, u2, u3⟩ := HC3.out
      clear hs3 hk3 hat t0 t1 t2 t3
      go_wp2
      go_roundw
      case rel =>
        refine ⟨j + 1, q, A3, c3, by omega, rfl, HC3.out.set0 _, HR3.out.kp ((Kp.refl (fun b => b = W.heap.size + 1) w3).setCell (p := ⟨W.heap.size + 1, 0, none⟩) (.inl rfl) _) (by omega), ?_, HK3.out.setCell (.inr (by show W.heap.size ≤ W.heap.size + 1; omega)) _, by simpa [World.setCell] using hz3⟩
        have h9 := HS3.out.kp ((Kp.refl (fun b => b = W.heap.size + 1) w3).setCell (p := ⟨W.heap.size + 1, 0, none⟩) (.inl rfl) (.slice A3 (j + 1) c3)) (fun g h1 h2 => by have h3 := (HS3.out.own_ge g h1).1; have h4 : g = W.heap.size + 1 := h2; omega)
        rw [List.replicate_succ']
        exact h9
      case measure => simp [intOf]
    · have e : m = 0 := by omega
      subst e
      have e : j = n := by omega
      subst e
      obtain ⟨t0, t1, t2, t3⟩ := hC
      obtain ⟨r0, r1, r2, r3⟩ := HR.out
      obtain ⟨z0, z1'⟩ := two_set _ W.heap.size (.slice A j c) (.int .i64 k) _ _ r0 r1
      go_wp2
      refine bodyPost_ret (v := .tuple #[.agg #[.slice A j c, .int .i64 k], .bool true]) (by simp [results, Try.results23, go_sem, z0, z1']) rfl ⟨_, rfl, ?_, ?_⟩
      · exact (HS.out.kp (((Kp.refl (fun b => b = W.heap.size) _).setCell (p := ⟨W.heap.size, 0, none⟩) (.inl rfl) (.slice A j c)).setCell (p := ⟨W.heap.size, 1, none⟩) (.inl rfl) (.int .i64 k)) (fun g' h1 h2 => by have h3 := (HS.out.own_ge g' h1).1; have h4 : g' = W.heap.size := h2; omega)).from (by omega)
      · exact (HK.out.setCell (.inr (Nat.le_refl _)) _).setCell (.inr (Nat.le_refl _)) _
end Go.Proofs.Ytaejlhdbdjfccaa
