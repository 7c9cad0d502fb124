/- The texts IClu, Read, as one. -/
import Derived.Test.YtcekobdnghllcabDoorMCl
import Derived.Defers
import Derived.Recover
import Derived.Deep.RegionLaw
namespace Go.Proofs.YtcekobdnghllcabDoor
open Go.ChangeShapes Go.WideShapes Go.ChangeAt Go.RowKit

set_option maxRecDepth 100000 in
set_option maxHeartbeats 6400000 in
theorem iIsClue_any (p : Cu) (W : World) : Calls Tryd.prog 29 #[.agg #[.int .i64 p.1, .int .i64 p.2.1, .int .i64 p.2.2]] W fun e w' => e = .returned (.bool (cluB p)) ∧ Kp Nw W w' := by
  obtain ⟨k, a, b⟩ := p
  simp only
  by_cases h : k = 0 ∨ k = 1 ∨ k = 2 ∨ k = 3 ∨ k = 4 ∨ k = 5
  · rcases h with rfl | rfl | rfl | rfl | rfl | rfl
    · by_cases hA : 2 ≤ a ∧ a ≤ 5
      · obtain ⟨y1, y2⟩ := hA
        have q1 : IntKind.i64.wrap (a - 1) = a - 1 := IntWalk.i64_in _ (by omega)
        by_cases hB : 0 ≤ b ∧ b ≤ a - 1
        · obtain ⟨y3, y4⟩ := hB
          have hr : cluB (0, a, b) = true := by simp [cluB]; try omega
          rw [hr]
          clear hr
          go_enter Tryd.func29, Tryd.ntmps29
          go_wp2_with (first | ((with_reducible refine (within_yes (b) (0) (a - 1) _ y3 y4).mono ?_); rintro e w' ⟨rfl, rfl⟩) | ((with_reducible refine (within_yes (a) (2) (5) _ y1 y2).mono ?_); rintro e w' ⟨rfl, rfl⟩))
          go_ret
          exact ⟨rfl, Kp.al _ _⟩
        · have y3 : b < 0 ∨ a - 1 < b := by omega
          have hr : cluB (0, a, b) = false := by simp [cluB]; try omega
          rw [hr]
          clear hr
          go_enter Tryd.func29, Tryd.ntmps29
          go_wp2_with (first | ((with_reducible refine (within_no (b) (0) (a - 1) _ y3).mono ?_); rintro e w' ⟨rfl, rfl⟩) | ((with_reducible refine (within_yes (a) (2) (5) _ y1 y2).mono ?_); rintro e w' ⟨rfl, rfl⟩))
          go_ret
          exact ⟨rfl, Kp.al _ _⟩
      · have y1 : a < 2 ∨ 5 < a := by omega
        have hr : cluB (0, a, b) = false := by simp [cluB]; try omega
        rw [hr]
        clear hr
        go_enter Tryd.func29, Tryd.ntmps29
        go_wp2_with (first | ((with_reducible refine (within_no (a) (2) (5) _ y1).mono ?_); rintro e w' ⟨rfl, rfl⟩))
        go_ret
        exact ⟨rfl, Kp.al _ _⟩
    · by_cases hA : 2 ≤ a ∧ a ≤ 5
      · obtain ⟨y1, y2⟩ := hA
        have q1 : IntKind.i64.wrap (a - 1) = a - 1 := IntWalk.i64_in _ (by omega)
        by_cases hB : 0 ≤ b ∧ b ≤ a - 1
        · obtain ⟨y3, y4⟩ := hB
          have hr : cluB (1, a, b) = true := by simp [cluB]; try omega
          rw [hr]
          clear hr
          go_enter Tryd.func29, Tryd.ntmps29
          go_wp2_with (first | ((with_reducible refine (within_yes (b) (0) (a - 1) _ y3 y4).mono ?_); rintro e w' ⟨rfl, rfl⟩) | ((with_reducible refine (within_yes (a) (2) (5) _ y1 y2).mono ?_); rintro e w' ⟨rfl, rfl⟩))
          go_ret
          exact ⟨rfl, Kp.al _ _⟩
        · have y3 : b < 0 ∨ a - 1 < b := by omega
          have hr : cluB (1, a, b) = false := by simp [cluB]; try omega
          rw [hr]
          clear hr
          go_enter Tryd.func29, Tryd.ntmps29
          go_wp2_with (first | ((with_reducible refine (within_no (b) (0) (a - 1) _ y3).mono ?_); rintro e w' ⟨rfl, rfl⟩) | ((with_reducible refine (within_yes (a) (2) (5) _ y1 y2).mono ?_); rintro e w' ⟨rfl, rfl⟩))
          go_ret
          exact ⟨rfl, Kp.al _ _⟩
      · have y1 : a < 2 ∨ 5 < a := by omega
        have hr : cluB (1, a, b) = false := by simp [cluB]; try omega
        rw [hr]
        clear hr
        go_enter Tryd.func29, Tryd.ntmps29
        go_wp2_with (first | ((with_reducible refine (within_no (a) (2) (5) _ y1).mono ?_); rintro e w' ⟨rfl, rfl⟩))
        go_ret
        exact ⟨rfl, Kp.al _ _⟩
    · by_cases hA : 0 ≤ a ∧ a ≤ 9
      · obtain ⟨y1, y2⟩ := hA
        by_cases hB : b = 0
        · subst hB
          have hr : cluB (2, a, 0) = true := by simp [cluB]; try omega
          rw [hr]
          clear hr
          go_enter Tryd.func29, Tryd.ntmps29
          go_wp2_with (first | ((with_reducible refine (within_yes (a) (0) (9) _ y1 y2).mono ?_); rintro e w' ⟨rfl, rfl⟩))
          go_ret
          exact ⟨rfl, Kp.al _ _⟩
        · have y3 : (b == 0) = false := by simpa using hB
          have hr : cluB (2, a, b) = false := by simp [cluB]; try omega
          rw [hr]
          clear hr
          go_enter Tryd.func29, Tryd.ntmps29
          go_wp2_with (first | ((with_reducible refine (within_yes (a) (0) (9) _ y1 y2).mono ?_); rintro e w' ⟨rfl, rfl⟩))
          go_ret
          exact ⟨rfl, Kp.al _ _⟩
      · have y1 : a < 0 ∨ 9 < a := by omega
        have hr : cluB (2, a, b) = false := by simp [cluB]; try omega
        rw [hr]
        clear hr
        go_enter Tryd.func29, Tryd.ntmps29
        go_wp2_with (first | ((with_reducible refine (within_no (a) (0) (9) _ y1).mono ?_); rintro e w' ⟨rfl, rfl⟩))
        go_ret
        exact ⟨rfl, Kp.al _ _⟩
    · by_cases hA : 0 ≤ a ∧ a ≤ 9
      · obtain ⟨y1, y2⟩ := hA
        by_cases hB : b = 0
        · subst hB
          have hr : cluB (3, a, 0) = true := by simp [cluB]; try omega
          rw [hr]
          clear hr
          go_enter Tryd.func29, Tryd.ntmps29
          go_wp2_with (first | ((with_reducible refine (within_yes (a) (0) (9) _ y1 y2).mono ?_); rintro e w' ⟨rfl, rfl⟩))
          go_ret
          exact ⟨rfl, Kp.al _ _⟩
        · have y3 : (b == 0) = false := by simpa using hB
          have hr : cluB (3, a, b) = false := by simp [cluB]; try omega
          rw [hr]
          clear hr
          go_enter Tryd.func29, Tryd.ntmps29
          go_wp2_with (first | ((with_reducible refine (within_yes (a) (0) (9) _ y1 y2).mono ?_); rintro e w' ⟨rfl, rfl⟩))
          go_ret
          exact ⟨rfl, Kp.al _ _⟩
      · have y1 : a < 0 ∨ 9 < a := by omega
        have hr : cluB (3, a, b) = false := by simp [cluB]; try omega
        rw [hr]
        clear hr
        go_enter Tryd.func29, Tryd.ntmps29
        go_wp2_with (first | ((with_reducible refine (within_no (a) (0) (9) _ y1).mono ?_); rintro e w' ⟨rfl, rfl⟩))
        go_ret
        exact ⟨rfl, Kp.al _ _⟩
    · by_cases hA : 0 ≤ a ∧ a ≤ 9
      · obtain ⟨y1, y2⟩ := hA
        by_cases hB : 0 ≤ b ∧ b ≤ 9
        · obtain ⟨y3, y4⟩ := hB
          have hr : cluB (4, a, b) = true := by simp [cluB]; try omega
          rw [hr]
          clear hr
          go_enter Tryd.func29, Tryd.ntmps29
          go_wp2_with (first | ((with_reducible refine (within_yes (b) (0) (9) _ y3 y4).mono ?_); rintro e w' ⟨rfl, rfl⟩) | ((with_reducible refine (within_yes (a) (0) (9) _ y1 y2).mono ?_); rintro e w' ⟨rfl, rfl⟩))
          go_ret
          exact ⟨rfl, Kp.al _ _⟩
        · have y3 : b < 0 ∨ 9 < b := by omega
          have hr : cluB (4, a, b) = false := by simp [cluB]; try omega
          rw [hr]
          clear hr
          go_enter Tryd.func29, Tryd.ntmps29
          go_wp2_with (first | ((with_reducible refine (within_no (b) (0) (9) _ y3).mono ?_); rintro e w' ⟨rfl, rfl⟩) | ((with_reducible refine (within_yes (a) (0) (9) _ y1 y2).mono ?_); rintro e w' ⟨rfl, rfl⟩))
          go_ret
          exact ⟨rfl, Kp.al _ _⟩
      · have y1 : a < 0 ∨ 9 < a := by omega
        have hr : cluB (4, a, b) = false := by simp [cluB]; try omega
        rw [hr]
        clear hr
        go_enter Tryd.func29, Tryd.ntmps29
        go_wp2_with (first | ((with_reducible refine (within_no (a) (0) (9) _ y1).mono ?_); rintro e w' ⟨rfl, rfl⟩))
        go_ret
        exact ⟨rfl, Kp.al _ _⟩
    · by_cases hA : 1 ≤ a ∧ a ≤ 10
      · obtain ⟨y1, y2⟩ := hA
        by_cases hB : b = 0
        · subst hB
          have hr : cluB (5, a, 0) = true := by simp [cluB]; try omega
          rw [hr]
          clear hr
          go_enter Tryd.func29, Tryd.ntmps29
          go_wp2_with (first | ((with_reducible refine (within_yes (a) (1) (10) _ y1 y2).mono ?_); rintro e w' ⟨rfl, rfl⟩))
          go_ret
          exact ⟨rfl, Kp.al _ _⟩
        · have y3 : (b == 0) = false := by simpa using hB
          have hr : cluB (5, a, b) = false := by simp [cluB]; try omega
          rw [hr]
          clear hr
          go_enter Tryd.func29, Tryd.ntmps29
          go_wp2_with (first | ((with_reducible refine (within_yes (a) (1) (10) _ y1 y2).mono ?_); rintro e w' ⟨rfl, rfl⟩))
          go_ret
          exact ⟨rfl, Kp.al _ _⟩
      · have y1 : a < 1 ∨ 10 < a := by omega
        have hr : cluB (5, a, b) = false := by simp [cluB]; try omega
        rw [hr]
        clear hr
        go_enter Tryd.func29, Tryd.ntmps29
        go_wp2_with (first | ((with_reducible refine (within_no (a) (1) (10) _ y1).mono ?_); rintro e w' ⟨rfl, rfl⟩))
        go_ret
        exact ⟨rfl, Kp.al _ _⟩
  · have n0 : ¬ k = 0 := by omega
    have n1 : ¬ k = 1 := by omega
    have n2 : ¬ k = 2 := by omega
    have n3 : ¬ k = 3 := by omega
    have n4 : ¬ k = 4 := by omega
    have n5 : ¬ k = 5 := by omega
    have hr : cluB (k, a, b) = false := by simp [cluB, n0, n1, n2, n3, n4, n5]
    rw [hr]
    clear hr h
    go_enter Tryd.func29, Tryd.ntmps29
    go_wp2
    go_ret
    exact ⟨rfl, Kp.al _ _⟩

/-- what is thrown where there is no clue -/
abbrev thrown : List PanicEntry := [{ v := .iface 66 (.agg #[]), recovered := false }]
set_option maxRecDepth 100000 in
theorem checked_ok (p : Cu) (W : World) (h : cluB p = true) : Calls Tryd.prog 21 #[.agg #[.int .i64 p.1, .int .i64 p.2.1, .int .i64 p.2.2]] W fun e w' => e = .returned (.agg #[.int .i64 p.1, .int .i64 p.2.1, .int .i64 p.2.2]) ∧ Kp Nw W w' := by
  have HI := Lib.hid (iIsClue_any p)
  rw [h] at HI
  obtain ⟨x, y, z⟩ := p
  simp only at HI ⊢
  clear h
  have HB := Lib.hid (fun (w' : World) (hk : Kp Nw ((W.alloc (.cells #[.int .i64 x, .int .i64 y, .int .i64 z] 42)).alloc (.cells #[.int .i64 0, .int .i64 0, .int .i64 0] 42)) w') => (((Own3.new W (x, y, z) 42).kp (Kp.al _ (.cells #[.int .i64 0, .int .i64 0, .int .i64 0] 42)) (fun h => h)).kp hk (fun h => h)))
  have HR := Lib.hid (fun (w' : World) (hk : Kp Nw ((W.alloc (.cells #[.int .i64 x, .int .i64 y, .int .i64 z] 42)).alloc (.cells #[.int .i64 0, .int .i64 0, .int .i64 0] 42)) w') => ((Own3.new (W.alloc (.cells #[.int .i64 x, .int .i64 y, .int .i64 z] 42)) (0, 0, 0) 42).kp hk (fun h => h)))
  go_enter Tryd.func21, Tryd.ntmps21
  go_wp2_with fail
  refine (HI.out _).mono ?_
  rintro e w1 ⟨rfl, hk1⟩
  obtain ⟨⟨b0, b1, b2⟩, _⟩ := HB.out _ hk1
  have hr := HR.out _ hk1
  simp only [World.size_alloc] at hr
  obtain ⟨⟨z0, z1, z2⟩, _⟩ := hr.put (x, y, z)
  obtain ⟨⟨r0, r1, r2⟩, f0, f1, f2⟩ := hr
  simp only at b0 b1 b2 r0 r1 r2 z0 z1 z2
  have HK1 := Lib.hid (((Kp.al W _).nw (.al _ _)).nw hk1)
  clear hk1
  go_wp2
  refine bodyPost_ret (v := .agg #[.int .i64 x, .int .i64 y, .int .i64 z]) (by simp [results, Tryd.results21, go_sem, z0, z1, z2]) rfl ⟨rfl, ?_⟩
  exact ((HK1.out.setCell (.inr (Nat.le_succ _)) _).setCell (.inr (Nat.le_succ _)) _).setCell (.inr (Nat.le_succ _)) _
set_option maxRecDepth 100000 in
theorem checked_no (p : Cu) (W : World) (h : cluB p = false) : Calls Tryd.prog 21 #[.agg #[.int .i64 p.1, .int .i64 p.2.1, .int .i64 p.2.2]] W fun e w' => e = .panicked thrown ∧ Kp Nw W w' := by
  have HI := Lib.hid (iIsClue_any p)
  rw [h] at HI
  obtain ⟨x, y, z⟩ := p
  simp only at HI ⊢
  clear h
  go_enter Tryd.func21, Tryd.ntmps21
  go_wp2_with fail
  refine (HI.out _).mono ?_
  rintro e w1 ⟨rfl, hk1⟩
  have HK1 := Lib.hid hk1
  clear hk1
  go_wp2
  exact ⟨rfl, rfl, ((Kp.al W _).nw (.al _ _)).nw HK1.out⟩
end Go.Proofs.YtcekobdnghllcabDoor
namespace Go.Proofs.YtcekobdnghllcabDoor
open Go.ChangeShapes Go.WideShapes Go.ChangeAt Go.RowKit

theorem ta_yes (w : World) : (Instr.typeAssert (.iface 66 (.agg #[])) 20 66 true).run Tryd.prog w = .ok (.tuple #[.agg #[], .bool true]) w := by rfl
theorem ta_no (w : World) : (Instr.typeAssert .nilIface 20 66 true).run Tryd.prog w = .ok (.tuple #[.agg #[], .bool false]) w := by rfl
set_option maxRecDepth 100000 in
set_option maxHeartbeats 1600000 in
/-- the deferred closure in a frame that panics of no clue -/
theorem rc_caught (pc po : Nat) (u0 b0 : Value) (w : World) (hc : Own1 w pc u0) (ho : Own1 w po b0) (hne : pc ≠ po) :
    CallsD Tryd.prog 28 #[.pointer (some ⟨pc, 0, none⟩), .pointer (some ⟨po, 0, none⟩)] (.panicking thrown) w fun e u' w' =>
      e = .returned (.tuple #[]) ∧ u' = .panicking [{ v := .iface 66 (.agg #[]), recovered := true }] ∧ w' = ((w.alloc (.cells #[] 66)).setCell ⟨pc, 0, none⟩ (.slice none 0 0)).setCell ⟨po, 0, none⟩ (.bool false) := by
  obtain ⟨hc1, hc2⟩ := hc.kp (Kp.al w (.cells #[] 66)) (fun h => h)
  obtain ⟨ho1, ho2⟩ := ho.kp (Kp.al w (.cells #[] 66)) (fun h => h)
  refine callsD_of_wpS Tryd.func28 rfl fun c₀ cs hu => ?_
  simp only [Tryd.ntmps28, List.size_toArray, List.length_cons, List.length_nil, Nat.reduceAdd, Nat.reduceSub, Array.replicate_succ, Array.replicate_zero, List.push_toArray, List.append_toArray, List.nil_append, List.cons_append]
  apply wpS_seq
  apply wpS_region
  simp [wpOpsS, go_sem, recoverD, hu, ta_yes, Exit.thenS]
  apply wpS_seq
  apply wpS_region
  simp [wpOpsS, go_sem, Exit.thenS]
  refine wpS_cond (t := true) (by simp [Act.eval]) ?_
  simp only [if_true]
  apply wpS_region
  have hs := keepo _ ⟨po, 0, none⟩ ⟨pc, 0, none⟩ (.slice none 0 0) b0 ho1 hne
  simp [wpOpsS, go_sem, hc1, hc2, hs, ho2, World.frozen?_setCell, bodyPostS, results, Tryd.results28]

set_option maxRecDepth 100000 in
set_option maxHeartbeats 1600000 in
theorem rc_idle (pc po : Nat) (w : World) :
    CallsD Tryd.prog 28 #[.pointer (some ⟨pc, 0, none⟩), .pointer (some ⟨po, 0, none⟩)] .returning w fun e u' w' =>
      e = .returned (.tuple #[]) ∧ u' = .returning ∧ w' = w.alloc (.cells #[] 66) := by
  refine callsD_of_wpS Tryd.func28 rfl fun c₀ cs hu => ?_
  simp only [Tryd.ntmps28, List.size_toArray, List.length_cons, List.length_nil, Nat.reduceAdd, Nat.reduceSub, Array.replicate_succ, Array.replicate_zero, List.push_toArray, List.append_toArray, List.nil_append, List.cons_append]
  apply wpS_seq
  apply wpS_region
  simp [wpOpsS, go_sem, recoverD, hu, ta_no, Exit.thenS]
  apply wpS_seq
  apply wpS_region
  simp [wpOpsS, go_sem, Exit.thenS]
  refine wpS_cond (t := false) (by simp [Act.eval]) ?_
  simp only [Bool.false_eq_true, if_false]
  refine wpS_of_wp (wp_skip ?_)
  cases c₀
  simp_all [bodyPostS, results, Tryd.results28]

/-- what readClues returns where all are clues -/
def CluesB (W : World) (ps : List Cu) (e : Ending) (w' : World) : Prop := ∃ v, e = .returned (.tuple #[v, .bool true]) ∧ Co w' W.heap.size v ps ∧ Kp Nw W w'
/-- and where they are not -/
def NoCluesB (W : World) (e : Ending) (w' : World) : Prop := e = .returned (.tuple #[.slice none 0 0, .bool false]) ∧ Kp Nw W w'
theorem own1_put {w : World} {b : Nat} {x : Value} (h : Own1 w b x) (y : Value) : Own1 (w.setCell ⟨b, 0, none⟩ y) b y := ⟨one_set w b y _ h.1, by rw [World.frozen?_setCell]; exact h.2⟩
/-- a panic inside a region that draws: what is left to show, in the form that the region's walk bears -/
theorem as_any {P : Program} {fn : Func} {R : Ending → World → Prop} {ch : List PanicEntry} {a : Act} {w : World} (h : wpAny P .any #[] (fun _ a w => bodyPostD P fn R (.panic ch) a w) 0 #[] a w) : bodyPostD P fn R (.panic ch) a w := h.2
/-- the frame is left: nothing was thrown -/
theorem rc_ret (R : Ending → World → Prop) (tmps : Array Value) (w : World) (pc po : Nat) (v b : Value) (h4 : tmps[4]? = some (.pointer (some ⟨pc, 0, none⟩))) (h5 : tmps[5]? = some (.pointer (some ⟨po, 0, none⟩)))
    (hc : w.cell? ⟨pc, 0, none⟩ = some v) (hb : w.cell? ⟨po, 0, none⟩ = some b) (hR : R (.returned (.tuple #[v, b])) (w.alloc (.cells #[] 66))) :
    Leaves Tryd.prog Tryd.f20 tmps R [{ target := .fn (.func 28) #[.pointer (some ⟨pc, 0, none⟩), .pointer (some ⟨po, 0, none⟩)], args := #[] }] .returning w := by
  have hk : Kp Nw w (w.alloc (.cells #[] 66)) := .al _ _
  have c1 := keepc hk hc (fun h => h)
  have c2 := keepc hk hb (fun h => h)
  refine leaves_cons (f := 28) (args := #[.pointer (some ⟨pc, 0, none⟩), .pointer (some ⟨po, 0, none⟩)]) (by simp) (by simp [go_sem]) ?_
  refine (rc_idle pc po _).mono ?_
  rintro e u' w'' ⟨rfl, rfl, rfl⟩
  exact ⟨.tuple #[v, b], by simp [results, Tryd.results20, go_sem, h4, h5, c1, c2], hR⟩
/-- it is left by what was thrown -/
theorem rc_thrown (R : Ending → World → Prop) (tmps : Array Value) (w : World) (pc po : Nat) (u0 b0 : Value) (h4 : tmps[4]? = some (.pointer (some ⟨pc, 0, none⟩))) (h5 : tmps[5]? = some (.pointer (some ⟨po, 0, none⟩)))
    (hc : Own1 w pc u0) (ho : Own1 w po b0) (hne : pc ≠ po) (hR : R (.returned (.tuple #[.slice none 0 0, .bool false])) (((w.alloc (.cells #[] 66)).setCell ⟨pc, 0, none⟩ (.slice none 0 0)).setCell ⟨po, 0, none⟩ (.bool false))) :
    Leaves Tryd.prog Tryd.f20 tmps R [{ target := .fn (.func 28) #[.pointer (some ⟨pc, 0, none⟩), .pointer (some ⟨po, 0, none⟩)], args := #[] }] (.panicking thrown) w := by
  have hk : Kp Nw w (w.alloc (.cells #[] 66)) := .al _ _
  have c1 := keepo _ ⟨pc, 0, none⟩ ⟨po, 0, none⟩ (.bool false) _ (one_set _ pc (.slice none 0 0) _ (hc.kp hk (fun h => h)).1) hne.symm
  have c2 := one_set _ po (.bool false) _ (keepo _ ⟨po, 0, none⟩ ⟨pc, 0, none⟩ (.slice none 0 0) _ (ho.kp hk (fun h => h)).1 hne)
  refine leaves_cons (f := 28) (args := #[.pointer (some ⟨pc, 0, none⟩), .pointer (some ⟨po, 0, none⟩)]) (by simp) (by simp [go_sem]) ?_
  refine (rc_caught pc po u0 b0 _ hc ho hne).mono ?_
  rintro e u' w'' ⟨rfl, rfl, rfl⟩
  exact ⟨.tuple #[.slice none 0 0, .bool false], by simp [results, Tryd.results20, go_sem, h4, h5, c1, c2], hR⟩

set_option maxRecDepth 100000 in
set_option maxHeartbeats 6400000 in
theorem readClues_long (A : Option Addr) (n c : Nat) (fv : Value) (W : World) (h : 6 < n) (hm : n ≤ maxLen) : Calls Tryd.prog 20 #[.slice A n c, fv] W (NoCluesB W) := by
  have hm2 : (n : Int) ≤ 9223372036854775807 := by unfold maxLen at hm; omega
  have hmf : ∀ (fn : Fn) (first cap : Array Value) (w : World), (Instr.makeFunc fn first cap).run Tryd.prog w = .ok (.func fn first cap) w := fun _ _ _ _ => rfl
  have h1 : (6 : Int) < n := by omega
  clear hm
  have O1 := Lib.hid ((Own1.new W (.slice none 0 0) 28).kp (Kp.al _ (.cells #[.bool false] 4)) (fun h => h))
  have O2 := Lib.hid (Own1.new (W.alloc (.cells #[.slice none 0 0] 28)) (.bool false) 4)
  simp only [World.size_alloc] at O2
  go_enter_defers Tryd.func20, Tryd.ntmps20
  go_wp2
  refine rc_ret _ _ _ W.heap.size (W.heap.size + 1) _ _ rfl rfl O1.out.1 O2.out.1 ⟨rfl, ((Kp.al W _).nw (.al _ _)).nw (.al _ _)⟩
set_option maxRecDepth 100000 in
set_option maxHeartbeats 12800000 in
theorem readClues_any (A : Option Addr) (n c : Nat) (ps : List Cu) (W : World) (hu : RdC W (.slice A n c) ps) (hn : ps.length = n) (h6 : n ≤ 6) (ok : Bool) (hok : ps.all cluB = ok) :
    Calls Tryd.prog 20 #[.slice A n c, .func (.func 21) #[] #[]] W (if ok = true then CluesB W ps else NoCluesB W) := by
  have hmf : ∀ (fn : Fn) (first cap : Array Value) (w : World), (Instr.makeFunc fn first cap).run Tryd.prog w = .ok (.func fn first cap) w := fun _ _ _ _ => rfl
  obtain ⟨A', c', hA', hA⟩ := hu
  rw [hn] at hA'
  injection hA' with e1 e2 e3
  subst e1
  have HA := Lib.hid hA
  have HN := Lib.hid hn
  have HOK := Lib.hid hok
  have n0 : (0 : Int) ≤ n := Int.natCast_nonneg _
  have h1 : ¬ (6 : Int) < n := by omega
  obtain ⟨RR, hRR⟩ : ∃ RR, (if ok = true then CluesB W ps else NoCluesB W) = RR := ⟨_, rfl⟩
  rw [hRR]
  have HRR := Lib.hid hRR
  have O1 := Lib.hid ((Own1.new W (.slice none 0 0) 28).kp (Kp.al _ (.cells #[.bool false] 4)) (fun h => h))
  have O2 := Lib.hid (Own1.new (W.alloc (.cells #[.slice none 0 0] 28)) (.bool false) 4)
  simp only [World.size_alloc] at O2
  clear hA hn hok e2 e3 hRR
  go_enter_defers Tryd.func20, Tryd.ntmps20
  go_wp2
  go_loopw [14] (fun i wy => ∃ (j : Nat) (v : Value) (wr : World), j ≤ n ∧ i = .int .i64 j ∧ wr = wy ∧ (ps.take j).all cluB = true ∧ Hid (Own1 wr W.heap.size v) ∧ Hid (Own1 wr (W.heap.size + 1) (.bool false)) ∧ Hid (Co wr (W.heap.size + 2) v (ps.take j)) ∧ Hid (Kp Nw W wr) ∧ W.heap.size + 2 ≤ wr.heap.size) (fun i _ => n - (intOf i).toNat)
  case atStart => exact ⟨0, _, _, Nat.zero_le _, rfl, rfl, rfl, O1, O2, Lib.hid (World.ownsRow_nil _ _ _ _), Lib.hid ((Kp.al W _).nw (.al _ _)), by simp⟩
  case round =>
    obtain ⟨j, v, wr, hj, rfl, rfl, ha, HC, HO, HV, HK, hsz⟩ := hrel
    have j0 : (0 : Int) ≤ j := Int.natCast_nonneg _
    by_cases hlt : j < n
    · have hl' : j < ps.length := by rw [HN.out]; exact hlt
      obtain ⟨g, o, rfl, hc⟩ := HA.out j hl'
      obtain ⟨p, hp⟩ : ∃ p, ps.getD j (0, 0, 0) = p := ⟨_, rfl⟩
      rw [hp] at hc
      have hx : ps[j] = p := by rw [← hp]; simp [hl']
      obtain ⟨a0, a1, a2⟩ := hc.kp HK.out (fun h => h)
      have j1 : (j : Int) < n := by omega
      have kb : Kp Nw wr (wr.alloc (.cells #[.int .i64 p.1, .int .i64 p.2.1, .int .i64 p.2.2] 42)) := .al _ _
      have HP3 := Lib.hid (Own3.new wr p 42)
      obtain ⟨⟨p0, p1, p2⟩, _⟩ := HP3.out
      obtain ⟨q0, q1⟩ := HC.out.kp kb (fun h => h)
      by_cases okp : cluB p = true
      · have HA1 : Hid ((ps.take (j + 1)).all cluB = true) := Lib.hid (by rw [List.take_succ_eq_append_getElem hl', List.all_append, ha, hx]; simp [okp])
        have HT1 : Hid (ps.take (j + 1) = ps.take j ++ [p]) := Lib.hid (by rw [List.take_succ_eq_append_getElem hl', hx])
        have HLT : Hid ((ps.take j).length + [p].length ≤ 1000000) := Lib.hid (by simp; omega)
        clear hp hx ha hc
        go_wp2_with fail
        first
        | (go_region_law (first
          | (go_simp
             go_at_call 21
             refine (checked_ok p _ okp).mono ?_
             rintro e w1 ⟨rfl, hk1⟩
             have kW : Kp Nw (wr.alloc (.cells #[.int .i64 p.1, .int .i64 p.2.1, .int .i64 p.2.2] 42)) w1 := Kp.nw (by first | exact (Kp.refl Nw _).drew | exact (Kp.refl Nw _)) hk1
             obtain ⟨q2, q3⟩ := (HC.out.kp kb (fun h => h)).kp kW (fun h => h)
             have q6 := keepc (Kp.al w1 (.cells #[.int .i64 p.1, .int .i64 p.2.1, .int .i64 p.2.2] 42)) q2 (fun h => h))
          | (refine step_clus _ (by rfl) (.tmp 18) (.tmp 22) (by rfl) (W.heap.size + 2) v (.slice (some ⟨w1.heap.size, 0, none⟩) 1 1) (ps.take j) [p] (by rfl) (by rfl) (((HV.out.nw kb).nw kW).nw (by first | exact .al _ _ | exact (Kp.al _ _).drew | exact (Kp.refl Nw _).drew.nw (.al _ _))) (RdC.one (Own3.new w1 p 42).1) (VnC.some_ _ _ 1 _ rfl) HLT.out (by have := kW.size; simp [World.size_alloc] at this ⊢; omega) ?_
             intro v5 w5 hs5 hk5
             obtain ⟨A5, c5, rfl⟩ := hs5.val (n := j + 1) (by simp; omega)
             have k5 : Kp (fun b => v.ownBlock = some b) w1 w5 := ((Kp.al w1 (.cells #[.int .i64 p.1, .int .i64 p.2.1, .int .i64 p.2.2] 42)).mono (fun _ _ h => h.elim)).trans hk5
             have hvb : ∀ b, v.ownBlock = some b → W.heap.size + 2 ≤ b := fun b hb => (World.ownsRow.lt HV.out b hb).1
             obtain ⟨q4, q5⟩ := ((HC.out.kp kb (fun h => h)).kp kW (fun h => h)).kp k5 (fun e => by have := hvb _ e; omega))
          | fail))
        | trivial
        all_goals
          have kS : Kp (fun b => b = W.heap.size) w5 (w5.setCell ⟨W.heap.size, 0, none⟩ (.slice A5 (j + 1) c5)) := (Kp.refl (fun b => b = W.heap.size) w5).setCell (p := ⟨W.heap.size, 0, none⟩) (.inl rfl) _
          have HC6 := Lib.hid (own1_put (show Own1 w5 W.heap.size _ from ⟨q4, q5⟩) (.slice A5 (j + 1) c5))
          have HO6 := Lib.hid ((((HO.out.kp kb (fun h => h)).kp kW (fun h => h)).kp k5 (fun e => by have := hvb _ e; omega)).kp kS (by omega))
          have HV6 := Lib.hid (hs5.kp kS (fun g hg e => by have := (World.ownsRow.lt hs5 g hg).1; omega))
          have HK6 := Lib.hid ((((HK.out.nw kb).nw kW).after k5 (fun g hg e => by have := hvb _ e; omega)).setCell (p := ⟨W.heap.size, 0, none⟩) (.inr (Nat.le_refl _)) (.slice A5 (j + 1) c5))
          have hz6 : W.heap.size + 2 ≤ (w5.setCell ⟨W.heap.size, 0, none⟩ (.slice A5 (j + 1) c5)).heap.size := by
            have h1 := kb.size
            have h2 := kW.size
            have h3 := k5.size
            have h4 := kS.size
            omega
          rw [← HT1.out] at HV6
          clear hs5 hk5 k5 kS kW hk1 q2 q3 q4 q5 q6 hvb
          go_wp2
          go_roundw
          case rel => exact ⟨j + 1, _, _, by omega, by go_num, rfl, HA1.out, HC6, HO6, HV6, HK6, hz6⟩
          case measure => simp [intOf]; omega
      · have okf : cluB p = false := by simpa using okp
        have HF : Hid (ok = false) := Lib.hid (by
          rw [← HOK.out, List.all_eq_false]
          exact ⟨ps[j], List.getElem_mem _, by rw [hx]; exact okp⟩)
        have hR : RR = NoCluesB W := by rw [← HRR.out, HF.out]; rfl
        subst hR
        clear hp hx ha hc
        go_wp2_with fail
        first
        | (go_region_law (first
          | (go_simp
             go_at_call 21
             refine (checked_no p _ okf).mono ?_
             rintro e w1 ⟨rfl, hk1⟩
             have kW : Kp Nw (wr.alloc (.cells #[.int .i64 p.1, .int .i64 p.2.1, .int .i64 p.2.2] 42)) w1 := Kp.nw (by first | exact (Kp.refl Nw _).drew | exact (Kp.refl Nw _)) hk1
             change bodyPostD Tryd.prog Tryd.f20 (NoCluesB W) (.panic thrown) _ _
             refine as_any ?_)
          | fail))
        | trivial
        all_goals exact rc_thrown _ _ _ W.heap.size (W.heap.size + 1) v (.bool false) rfl rfl ((HC.out.kp kb (fun h => h)).kp kW (fun h => h)) ((HO.out.kp kb (fun h => h)).kp kW (fun h => h)) (by omega) ⟨rfl, ((((HK.out.nw kb).nw kW).nw (.al _ _)).setCell (.inr (Nat.le_refl _)) _).setCell (.inr (Nat.le_succ _)) _⟩
    · have e : j = n := by omega
      subst e
      obtain ⟨Av, cv9, rfl⟩ := HV.out.val (n := j) (by rw [List.length_take, HN.out]; exact Nat.min_self j)
      obtain ⟨q0, q1⟩ := HC.out
      obtain ⟨o0, o1⟩ := HO.out
      have HF : Hid (ok = true) := Lib.hid (by
        rw [← HOK.out, ← ha, List.take_of_length_le (by rw [HN.out]; exact Nat.le_refl _)])
      have hR : RR = CluesB W ps := by rw [← HRR.out, HF.out]; rfl
      subst hR
      clear ha
      have z1 := one_set wr W.heap.size (.slice Av j cv9) _ q0
      have z2 := keepo _ ⟨W.heap.size + 1, 0, none⟩ ⟨W.heap.size, 0, none⟩ (.slice Av j cv9) _ o0 (by simp)
      have HV1 := Lib.hid HV.out
      rw [List.take_of_length_le (by rw [HN.out]; exact Nat.le_refl _)] at HV1
      have hvb : ∀ b, (Value.slice Av j cv9).ownBlock = some b → W.heap.size + 2 ≤ b := fun b hb => (World.ownsRow.lt HV.out b hb).1
      have HVB := Lib.hid hvb
      clear hvb
      have kS : Kp (fun b => b = W.heap.size) wr (wr.setCell ⟨W.heap.size, 0, none⟩ (.slice Av j cv9)) := (Kp.refl (fun b => b = W.heap.size) wr).setCell (p := ⟨W.heap.size, 0, none⟩) (.inl rfl) _
      have kT : Kp (fun b => b = W.heap.size + 1) (wr.setCell ⟨W.heap.size, 0, none⟩ (.slice Av j cv9)) ((wr.setCell ⟨W.heap.size, 0, none⟩ (.slice Av j cv9)).setCell ⟨W.heap.size + 1, 0, none⟩ (.bool true)) := (Kp.refl (fun b => b = W.heap.size + 1) _).setCell (p := ⟨W.heap.size + 1, 0, none⟩) (.inl rfl) _
      have HV2 := Lib.hid ((((HV1.out.kp kS (fun g hg e => by have := HVB.out g hg; omega)).kp kT (fun g hg e => by have := HVB.out g hg; omega)).nw (.al _ (.cells #[] 66))).from (B' := W.heap.size) (by omega))
      have HK2 := Lib.hid (((HK.out.setCell (p := ⟨W.heap.size, 0, none⟩) (.inr (Nat.le_refl _)) (.slice Av j cv9)).setCell (p := ⟨W.heap.size + 1, 0, none⟩) (.inr (Nat.le_succ _)) (.bool true)).nw (.al _ (.cells #[] 66)))
      have Z3 := Lib.hid (keepo _ ⟨W.heap.size, 0, none⟩ ⟨W.heap.size + 1, 0, none⟩ (.bool true) _ z1 (by simp))
      have Z4 := Lib.hid (one_set _ (W.heap.size + 1) (.bool true) _ z2)
      clear kS kT
      go_wp2
      exact rc_ret _ _ _ W.heap.size (W.heap.size + 1) _ _ rfl rfl Z3.out Z4.out ⟨_, rfl, HV2.out, HK2.out⟩

set_option maxRecDepth 100000 in
theorem cluesOf_any (A : Option Addr) (n c : Nat) (ps : List Cu) (W : World) (hu : RdC W (.slice A n c) ps) (hn : ps.length = n) (hm : n ≤ maxLen) (b : Bool) (hb : puzB ps = b) :
    Calls Tryd.prog 13 #[.agg #[.slice A n c]] W (if b = true then CluesB W ps else NoCluesB W) := by
  have hk0 : Kp Nw W (W.alloc (.cells #[.slice A n c] 30)) := .al _ _
  have HR : Hid (Calls Tryd.prog 20 #[.slice A n c, .func (.func 21) #[] #[]] (W.alloc (.cells #[.slice A n c] 30)) (if b = true then CluesB (W.alloc (.cells #[.slice A n c] 30)) ps else NoCluesB (W.alloc (.cells #[.slice A n c] 30)))) := Lib.hid (by
    by_cases h6 : n ≤ 6
    · exact readClues_any A n c ps _ (hu.nw hk0) hn h6 b (by rw [← hb]; unfold puzB; rw [hn, decide_eq_true h6, Bool.true_and])
    · have e : b = false := by rw [← hb]; unfold puzB; rw [hn, decide_eq_false h6, Bool.false_and]
      rw [e]
      exact readClues_long A n c _ _ (by omega) hm)
  clear hu hn hm hb hk0
  cases b
  · simp only [Bool.false_eq_true, if_false] at HR ⊢
    go_enter Tryd.func13, Tryd.ntmps13
    go_wp2_with fail
    refine HR.out.mono ?_
    rintro e w1 ⟨rfl, hk1⟩
    have HK1 := Lib.hid hk1
    clear hk1
    go_wp2
    go_ret2
    exact ⟨rfl, (Kp.al W _).nw HK1.out⟩
  · simp only [if_true] at HR ⊢
    go_enter Tryd.func13, Tryd.ntmps13
    go_wp2_with fail
    refine HR.out.mono ?_
    rintro e w1 ⟨v, rfl, hs, hk1⟩
    have HK1 := Lib.hid hk1
    have HS := Lib.hid (hs.from (B' := W.heap.size) (by simp))
    clear hk1 hs
    go_wp2
    go_ret2
    exact ⟨v, rfl, HS.out, (Kp.al W _).nw HK1.out⟩
end Go.Proofs.YtcekobdnghllcabDoor
