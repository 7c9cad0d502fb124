/- The texts IClu, Read, as one. -/
import Derived.Test.YtcekobdnghllcacDoorMCl
import Derived.Defers
import Derived.Recover
import Derived.Deep.RegionLaw
namespace Go.Proofs.YtcekobdnghllcacDoor
open Go.ChangeShapes Go.WideShapes Go.ChangeAt Go.RowKit

set_option maxRecDepth 100000 in
set_option maxHeartbeats 6400000 in
theorem iIsClue_any (p : Cu) (W : World) : Calls Tryd.prog 32 #[.agg #[.int .i64 p.1, .int .i64 p.2.1, .int .i64 p.2.2]] W fun e w' => e = .returned (.bool (cluB p)) ∧ Kp Nw W w' := by
  obtain ⟨k, a, b⟩ := p
  simp only
  by_cases h : k = 0 ∨ k = 1 ∨ k = 2 ∨ k = 3 ∨ k = 4 ∨ k = 5
  · rcases h with rfl | rfl | rfl | rfl | rfl | rfl
    · by_cases hA : 2 ≤ a ∧ a ≤ 5
      · obtain ⟨y1, y2⟩ := hA
        have q1 : IntKind.i64.wrap (a - 1) = a - 1 := IntWalk.i64_in _ (by omega)
        by_cases hB : 0 ≤ b ∧ b ≤ a - 1
        · obtain ⟨y3, y4⟩ := hB
          have hr : cluB (0, a, b) = true := by simp [cluB]; try omega
          rw [hr]
          clear hr
          go_enter Tryd.func32, Tryd.ntmps32
          go_wp2_with (first | ((with_reducible refine (within_yes (b) (0) (a - 1) _ y3 y4).mono ?_); rintro e w' ⟨rfl, rfl⟩) | ((with_reducible refine (within_yes (a) (2) (5) _ y1 y2).mono ?_); rintro e w' ⟨rfl, rfl⟩))
          go_ret
          exact ⟨rfl, Kp.al _ _⟩
        · have y3 : b < 0 ∨ a - 1 < b := by omega
          have hr : cluB (0, a, b) = false := by simp [cluB]; try omega
          rw [hr]
          clear hr
          go_enter Tryd.func32, Tryd.ntmps32
          go_wp2_with (first | ((with_reducible refine (within_no (b) (0) (a - 1) _ y3).mono ?_); rintro e w' ⟨rfl, rfl⟩) | ((with_reducible refine (within_yes (a) (2) (5) _ y1 y2).mono ?_); rintro e w' ⟨rfl, rfl⟩))
          go_ret
          exact ⟨rfl, Kp.al _ _⟩
      · have y1 : a < 2 ∨ 5 < a := by omega
        have hr : cluB (0, a, b) = false := by simp [cluB]; try omega
        rw [hr]
        clear hr
        go_enter Tryd.func32, Tryd.ntmps32
        go_wp2_with (first | ((with_reducible refine (within_no (a) (2) (5) _ y1).mono ?_); rintro e w' ⟨rfl, rfl⟩))
        go_ret
        exact ⟨rfl, Kp.al _ _⟩
    · by_cases hA : 2 ≤ a ∧ a ≤ 5
      · obtain ⟨y1, y2⟩ := hA
        have q1 : IntKind.i64.wrap (a - 1) = a - 1 := IntWalk.i64_in _ (by omega)
        by_cases hB : 0 ≤ b ∧ b ≤ a - 1
        · obtain ⟨y3, y4⟩ := hB
          have hr : cluB (1, a, b) = true := by simp [cluB]; try omega
          rw [hr]
          clear hr
          go_enter Tryd.func32, Tryd.ntmps32
          go_wp2_with (first | ((with_reducible refine (within_yes (b) (0) (a - 1) _ y3 y4).mono ?_); rintro e w' ⟨rfl, rfl⟩) | ((with_reducible refine (within_yes (a) (2) (5) _ y1 y2).mono ?_); rintro e w' ⟨rfl, rfl⟩))
          go_ret
          exact ⟨rfl, Kp.al _ _⟩
        · have y3 : b < 0 ∨ a - 1 < b := by omega
          have hr : cluB (1, a, b) = false := by simp [cluB]; try omega
          rw [hr]
          clear hr
          go_enter Tryd.func32, Tryd.ntmps32
          go_wp2_with (first | ((with_reducible refine (within_no (b) (0) (a - 1) _ y3).mono ?_); rintro e w' ⟨rfl, rfl⟩) | ((with_reducible refine (within_yes (a) (2) (5) _ y1 y2).mono ?_); rintro e w' ⟨rfl, rfl⟩))
          go_ret
          exact ⟨rfl, Kp.al _ _⟩
      · have y1 : a < 2 ∨ 5 < a := by omega
        have hr : cluB (1, a, b) = false := by simp [cluB]; try omega
        rw [hr]
        clear hr
        go_enter Tryd.func32, Tryd.ntmps32
        go_wp2_with (first | ((with_reducible refine (within_no (a) (2) (5) _ y1).mono ?_); rintro e w' ⟨rfl, rfl⟩))
        go_ret
        exact ⟨rfl, Kp.al _ _⟩
    · by_cases hA : 0 ≤ a ∧ a ≤ 9
      · obtain ⟨y1, y2⟩ := hA
        by_cases hB : b = 0
        · subst hB
          have hr : cluB (2, a, 0) = true := by simp [cluB]; try omega
          rw [hr]
          clear hr
          go_enter Tryd.func32, Tryd.ntmps32
          go_wp2_with (first | ((with_reducible refine (within_yes (a) (0) (9) _ y1 y2).mono ?_); rintro e w' ⟨rfl, rfl⟩))
          go_ret
          exact ⟨rfl, Kp.al _ _⟩
        · have y3 : (b == 0) = false := by simpa using hB
          have hr : cluB (2, a, b) = false := by simp [cluB]; try omega
          rw [hr]
          clear hr
          go_enter Tryd.func32, Tryd.ntmps32
          go_wp2_with (first | ((with_reducible refine (within_yes (a) (0) (9) _ y1 y2).mono ?_); rintro e w' ⟨rfl, rfl⟩))
          go_ret
          exact ⟨rfl, Kp.al _ _⟩
      · have y1 : a < 0 ∨ 9 < a := by omega
        have hr : cluB (2, a, b) = false := by simp [cluB]; try omega
        rw [hr]
        clear hr
        go_enter Tryd.func32, Tryd.ntmps32
        go_wp2_with (first | ((with_reducible refine (within_no (a) (0) (9) _ y1).mono ?_); rintro e w' ⟨rfl, rfl⟩))
        go_ret
        exact ⟨rfl, Kp.al _ _⟩
    · by_cases hA : 0 ≤ a ∧ a ≤ 9
      · obtain ⟨y1, y2⟩ := hA
        by_cases hB : b = 0
        · subst hB
          have hr : cluB (3, a, 0) = true := by simp [cluB]; try omega
          rw [hr]
          clear hr
          go_enter Tryd.func32, Tryd.ntmps32
          go_wp2_with (first | ((with_reducible refine (within_yes (a) (0) (9) _ y1 y2).mono ?_); rintro e w' ⟨rfl, rfl⟩))
          go_ret
          exact ⟨rfl, Kp.al _ _⟩
        · have y3 : (b == 0) = false := by simpa using hB
          have hr : cluB (3, a, b) = false := by simp [cluB]; try omega
          rw [hr]
          clear hr
          go_enter Tryd.func32, Tryd.ntmps32
          go_wp2_with (first | ((with_reducible refine (within_yes (a) (0) (9) _ y1 y2).mono ?_); rintro e w' ⟨rfl, rfl⟩))
          go_ret
          exact ⟨rfl, Kp.al _ _⟩
      · have y1 : a < 0 ∨ 9 < a := by omega
        have hr : cluB (3, a, b) = false := by simp [cluB]; try omega
        rw [hr]
        clear hr
        go_enter Tryd.func32, Tryd.ntmps32
        go_wp2_with (first | ((with_reducible refine (within_no (a) (0) (9) _ y1).mono ?_); rintro e w' ⟨rfl, rfl⟩))
        go_ret
        exact ⟨rfl, Kp.al _ _⟩
    · by_cases hA : 0 ≤ a ∧ a ≤ 9
      · obtain ⟨y1, y2⟩ := hA
        by_cases hB : 0 ≤ b ∧ b ≤ 9
        · obtain ⟨y3, y4⟩ := hB
          have hr : cluB (4, a, b) = true := by simp [cluB]; try omega
          rw [hr]
          clear hr
          go_enter Tryd.func32, Tryd.ntmps32
          go_wp2_with (first | ((with_reducible refine (within_yes (b) (0) (9) _ y3 y4).mono ?_); rintro e w' ⟨rfl, rfl⟩) | ((with_reducible refine (within_yes (a) (0) (9) _ y1 y2).mono ?_); rintro e w' ⟨rfl, rfl⟩))
          go_ret
          exact ⟨rfl, Kp.al _ _⟩
        · have y3 : b < 0 ∨ 9 < b := by omega
          have hr : cluB (4, a, b) = false := by simp [cluB]; try omega
          rw [hr]
          clear hr
          go_enter Tryd.func32, Tryd.ntmps32
          go_wp2_with (first | ((with_reducible refine (within_no (b) (0) (9) _ y3).mono ?_); rintro e w' ⟨rfl, rfl⟩) | ((with_reducible refine (within_yes (a) (0) (9) _ y1 y2).mono ?_); rintro e w' ⟨rfl, rfl⟩))
          go_ret
          exact ⟨rfl, Kp.al _ _⟩
      · have y1 : a < 0 ∨ 9 < a := by omega
        have hr : cluB (4, a, b) = false := by simp [cluB]; try omega
        rw [hr]
        clear hr
        go_enter Tryd.func32, Tryd.ntmps32
        go_wp2_with (first | ((with_reducible refine (within_no (a) (0) (9) _ y1).mono ?_); rintro e w' ⟨rfl, rfl⟩))
        go_ret
        exact ⟨rfl, Kp.al _ _⟩
    · by_cases hA : 1 ≤ a ∧ a ≤ 10
      · obtain ⟨y1, y2⟩ := hA
        by_cases hB : b = 0
        · subst hB
          have hr : cluB (5, a, 0) = true := by simp [cluB]; try omega
          rw [hr]
          clear hr
          go_enter Tryd.func32, Tryd.ntmps32
          go_wp2_with (first | ((with_reducible refine (within_yes (a) (1) (10) _ y1 y2).mono ?_); rintro e w' ⟨rfl, rfl⟩))
          go_ret
          exact ⟨rfl, Kp.al _ _⟩
        · have y3 : (b == 0) = false := by simpa using hB
          have hr : cluB (5, a, b) = false := by simp [cluB]; try omega
          rw [hr]
          clear hr
          go_enter Tryd.func32, Tryd.ntmps32
          go_wp2_with (first | ((with_reducible refine (within_yes (a) (1) (10) _ y1 y2).mono ?_); rintro e w' ⟨rfl, rfl⟩))
          go_ret
          exact ⟨rfl, Kp.al _ _⟩
      · have y1 : a < 1 ∨ 10 < a := by omega
        have hr : cluB (5, a, b) = false := by simp [cluB]; try omega
        rw [hr]
        clear hr
        go_enter Tryd.func32, Tryd.ntmps32
        go_wp2_with (first | ((with_reducible refine (within_no (a) (1) (10) _ y1).mono ?_); rintro e w' ⟨rfl, rfl⟩))
        go_ret
        exact ⟨rfl, Kp.al _ _⟩
  · have n0 : ¬ k = 0 := by omega
    have n1 : ¬ k = 1 := by omega
    have n2 : ¬ k = 2 := by omega
    have n3 : ¬ k = 3 := by omega
    have n4 : ¬ k = 4 := by omega
    have n5 : ¬ k = 5 := by omega
    have hr : cluB (k, a, b) = false := by simp [cluB, n0, n1, n2, n3, n4, n5]
    rw [hr]
    clear hr h
    go_enter Tryd.func32, Tryd.ntmps32
    go_wp2
    go_ret
    exact ⟨rfl, Kp.al _ _⟩

/-- what is thrown where there is no clue -/
abbrev thrown : List PanicEntry := [{ v := .iface 45 (.agg #[]), recovered := false }]
set_option maxRecDepth 100000 in
theorem checked_ok (p : Cu) (W : World) (h : cluB p = true) : Calls Tryd.prog 23 #[.agg #[.int .i64 p.1, .int .i64 p.2.1, .int .i64 p.2.2]] W fun e w' => e = .returned (.agg #[.int .i64 p.1, .int .i64 p.2.1, .int .i64 p.2.2]) ∧ Kp Nw W w' := by
  have HI := Lib.hid (iIsClue_any p)
  rw [h] at HI
  obtain ⟨x, y, z⟩ := p
  simp only at HI ⊢
  clear h
  have HB := Lib.hid (fun (w' : World) (hk : Kp Nw ((W.alloc (.cells #[.int .i64 x, .int .i64 y, .int .i64 z] 40)).alloc (.cells #[.int .i64 0, .int .i64 0, .int .i64 0] 40)) w') => (((Own3.new W (x, y, z) 40).kp (Kp.al _ (.cells #[.int .i64 0, .int .i64 0, .int .i64 0] 40)) (fun h => h)).kp hk (fun h => h)))
  have HR := Lib.hid (fun (w' : World) (hk : Kp Nw ((W.alloc (.cells #[.int .i64 x, .int .i64 y, .int .i64 z] 40)).alloc (.cells #[.int .i64 0, .int .i64 0, .int .i64 0] 40)) w') => ((Own3.new (W.alloc (.cells #[.int .i64 x, .int .i64 y, .int .i64 z] 40)) (0, 0, 0) 40).kp hk (fun h => h)))
  go_enter Tryd.func23, Tryd.ntmps23
  go_wp2_with fail
  refine (HI.out _).mono ?_
  rintro e w1 ⟨rfl, hk1⟩
  obtain ⟨⟨b0, b1, b2⟩, _⟩ := HB.out _ hk1
  have hr := HR.out _ hk1
  simp only [World.size_alloc] at hr
  obtain ⟨⟨z0, z1, z2⟩, _⟩ := hr.put (x, y, z)
  obtain ⟨⟨r0, r1, r2⟩, f0, f1, f2⟩ := hr
  simp only at b0 b1 b2 r0 r1 r2 z0 z1 z2
  have HK1 := Lib.hid (((Kp.al W _).nw (.al _ _)).nw hk1)
  clear hk1
  go_wp2
  refine bodyPost_ret (v := .agg #[.int .i64 x, .int .i64 y, .int .i64 z]) (by simp [results, Tryd.results23, go_sem, z0, z1, z2]) rfl ⟨rfl, ?_⟩
  exact ((HK1.out.setCell (.inr (Nat.le_succ _)) _).setCell (.inr (Nat.le_succ _)) _).setCell (.inr (Nat.le_succ _)) _
set_option maxRecDepth 100000 in
theorem checked_no (p : Cu) (W : World) (h : cluB p = false) : Calls Tryd.prog 23 #[.agg #[.int .i64 p.1, .int .i64 p.2.1, .int .i64 p.2.2]] W fun e w' => e = .panicked thrown ∧ Kp Nw W w' := by
  have HI := Lib.hid (iIsClue_any p)
  rw [h] at HI
  obtain ⟨x, y, z⟩ := p
  simp only at HI ⊢
  clear h
  go_enter Tryd.func23, Tryd.ntmps23
  go_wp2_with fail
  refine (HI.out _).mono ?_
  rintro e w1 ⟨rfl, hk1⟩
  have HK1 := Lib.hid hk1
  clear hk1
  go_wp2
  exact ⟨rfl, rfl, ((Kp.al W _).nw (.al _ _)).nw HK1.out⟩
end Go.Proofs.YtcekobdnghllcacDoor
namespace Go.Proofs.YtcekobdnghllcacDoor
open Go.ChangeShapes Go.WideShapes Go.ChangeAt Go.RowKit

set_option maxRecDepth 100000 in
theorem ta_yes (w : World) : (Instr.typeAssert (.iface 45 (.agg #[])) 20 45 true).run Tryd.prog w = .ok (.tuple #[.agg #[], .bool true]) w := by rfl
set_option maxRecDepth 100000 in
theorem ta_no (w : World) : (Instr.typeAssert .nilIface 20 45 true).run Tryd.prog w = .ok (.tuple #[.agg #[], .bool false]) w := by rfl
/-- what readClues returns where all are clues -/
def CluesB (W : World) (ps : List Cu) (e : Ending) (w' : World) : Prop := ∃ v, e = .returned (.tuple #[v, .bool true]) ∧ Co w' W.heap.size v ps ∧ Kp Nw W w'
/-- and where they are not -/
def NoCluesB (W : World) (e : Ending) (w' : World) : Prop := e = .returned (.tuple #[.slice none 0 0, .bool false]) ∧ Kp Nw W w'
theorem own1_put {w : World} {b : Nat} {x : Value} (h : Own1 w b x) (y : Value) : Own1 (w.setCell ⟨b, 0, none⟩ y) b y := ⟨one_set w b y _ h.1, by rw [World.frozen?_setCell]; exact h.2⟩
/-- a panic inside a region that draws: what is left to show, in the form that the region's walk bears -/
theorem as_any {P : Program} {fn : Func} {R : Ending → World → Prop} {ch : List PanicEntry} {a : Act} {w : World} (h : wpAny P .any #[] (fun _ a w => bodyPostD P fn R (.panic ch) a w) 0 #[] a w) : bodyPostD P fn R (.panic ch) a w := h.2
end Go.Proofs.YtcekobdnghllcacDoor
