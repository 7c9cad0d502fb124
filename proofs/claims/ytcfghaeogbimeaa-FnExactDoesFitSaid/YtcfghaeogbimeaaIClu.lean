/- The program's IsClue and checked (which panics where there is no clue); the law of IsClue; no condition. -/
import Derived.Test.YtcfghaeogbimeaaPzA
import Derived.Test.YtcfghaeogbimeaaCluM
namespace Go.Proofs.Ytcfghaeogbimeaa
open Go.ChangeShapes Go.WideShapes Go.ChangeAt Go.RowKit

set_option maxRecDepth 100000 in
set_option maxHeartbeats 6400000 in
theorem iIsClue_any (p : Cu) (W : World) : Calls Try.prog 8 #[.agg #[.int .i64 p.1, .int .i64 p.2.1, .int .i64 p.2.2]] W fun e w' => e = .returned (.bool (cluB p)) ∧ Kp Nw W w' := by
  obtain ⟨k, a, b⟩ := p
  simp only
  by_cases h : k = 0 ∨ k = 1 ∨ k = 2 ∨ k = 3 ∨ k = 4 ∨ k = 5
  · rcases h with rfl | rfl | rfl | rfl | rfl | rfl
    · by_cases hA : 2 ≤ a ∧ a ≤ 5
      · obtain ⟨y1, y2⟩ := hA
        have q1 : IntKind.i64.wrap (a - 1) = a - 1 := IntWalk.i64_in _ (by omega)
        by_cases hB : 0 ≤ b ∧ b ≤ a - 1
        · obtain ⟨y3, y4⟩ := hB
          have hr : cluB (0, a, b) = true := by simp [cluB]; try omega
          rw [hr]
          clear hr
          go_enter Try.func8, Try.ntmps8
          go_wp2_with (first | ((with_reducible refine (within_yes (b) (0) (a - 1) _ y3 y4).mono ?_); rintro e w' ⟨rfl, rfl⟩) | ((with_reducible refine (within_yes (a) (2) (5) _ y1 y2).mono ?_); rintro e w' ⟨rfl, rfl⟩))
          go_ret
          exact ⟨rfl, Kp.al _ _⟩
        · have y3 : b < 0 ∨ a - 1 < b := by omega
          have hr : cluB (0, a, b) = false := by simp [cluB]; try omega
          rw [hr]
          clear hr
          go_enter Try.func8, Try.ntmps8
          go_wp2_with (first | ((with_reducible refine (within_no (b) (0) (a - 1) _ y3).mono ?_); rintro e w' ⟨rfl, rfl⟩) | ((with_reducible refine (within_yes (a) (2) (5) _ y1 y2).mono ?_); rintro e w' ⟨rfl, rfl⟩))
          go_ret
          exact ⟨rfl, Kp.al _ _⟩
      · have y1 : a < 2 ∨ 5 < a := by omega
        have hr : cluB (0, a, b) = false := by simp [cluB]; try omega
        rw [hr]
        clear hr
        go_enter Try.func8, Try.ntmps8
        go_wp2_with (first | ((with_reducible refine (within_no (a) (2) (5) _ y1).mono ?_); rintro e w' ⟨rfl, rfl⟩))
        go_ret
        exact ⟨rfl, Kp.al _ _⟩
    · by_cases hA : 2 ≤ a ∧ a ≤ 5
      · obtain ⟨y1, y2⟩ := hA
        have q1 : IntKind.i64.wrap (a - 1) = a - 1 := IntWalk.i64_in _ (by omega)
        by_cases hB : 0 ≤ b ∧ b ≤ a - 1
        · obtain ⟨y3, y4⟩ := hB
          have hr : cluB (1, a, b) = true := by simp [cluB]; try omega
          rw [hr]
          clear hr
          go_enter Try.func8, Try.ntmps8
          go_wp2_with (first | ((with_reducible refine (within_yes (b) (0) (a - 1) _ y3 y4).mono ?_); rintro e w' ⟨rfl, rfl⟩) | ((with_reducible refine (within_yes (a) (2) (5) _ y1 y2).mono ?_); rintro e w' ⟨rfl, rfl⟩))
          go_ret
          exact ⟨rfl, Kp.al _ _⟩
        · have y3 : b < 0 ∨ a - 1 < b := by omega
          have hr : cluB (1, a, b) = false := by simp [cluB]; try omega
          rw [hr]
          clear hr
          go_enter Try.func8, Try.ntmps8
          go_wp2_with (first | ((with_reducible refine (within_no (b) (0) (a - 1) _ y3).mono ?_); rintro e w' ⟨rfl, rfl⟩) | ((with_reducible refine (within_yes (a) (2) (5) _ y1 y2).mono ?_); rintro e w' ⟨rfl, rfl⟩))
          go_ret
          exact ⟨rfl, Kp.al _ _⟩
      · have y1 : a < 2 ∨ 5 < a := by omega
        have hr : cluB (1, a, b) = false := by simp [cluB]; try omega
        rw [hr]
        clear hr
        go_enter Try.func8, Try.ntmps8
        go_wp2_with (first | ((with_reducible refine (within_no (a) (2) (5) _ y1).mono ?_); rintro e w' ⟨rfl, rfl⟩))
        go_ret
        exact ⟨rfl, Kp.al _ _⟩
    · by_cases hA : 0 ≤ a ∧ a ≤ 9
      · obtain ⟨y1, y2⟩ := hA
        by_cases hB : b = 0
        · subst hB
          have hr : cluB (2, a, 0) = true := by simp [cluB]; try omega
          rw [hr]
          clear hr
          go_enter Try.func8, Try.ntmps8
          go_wp2_with (first | ((with_reducible refine (within_yes (a) (0) (9) _ y1 y2).mono ?_); rintro e w' ⟨rfl, rfl⟩))
          go_ret
          exact ⟨rfl, Kp.al _ _⟩
        · have y3 : (b == 0) = false := by simpa using hB
          have hr : cluB (2, a, b) = false := by simp [cluB]; try omega
          rw [hr]
          clear hr
          go_enter Try.func8, Try.ntmps8
          go_wp2_with (first | ((with_reducible refine (within_yes (a) (0) (9) _ y1 y2).mono ?_); rintro e w' ⟨rfl, rfl⟩))
          go_ret
          exact ⟨rfl, Kp.al _ _⟩
      · have y1 : a < 0 ∨ 9 < a := by omega
        have hr : cluB (2, a, b) = false := by simp [cluB]; try omega
        rw [hr]
        clear hr
        go_enter Try.func8, Try.ntmps8
        go_wp2_with (first | ((with_reducible refine (within_no (a) (0) (9) _ y1).mono ?_); rintro e w' ⟨rfl, rfl⟩))
        go_ret
        exact ⟨rfl, Kp.al _ _⟩
    · by_cases hA : 0 ≤ a ∧ a ≤ 9
      · obtain ⟨y1, y2⟩ := hA
        by_cases hB : b = 0
        · subst hB
          have hr : cluB (3, a, 0) = true := by simp [cluB]; try omega
          rw [hr]
          clear hr
          go_enter Try.func8, Try.ntmps8
          go_wp2_with (first | ((with_reducible refine (within_yes (a) (0) (9) _ y1 y2).mono ?_); rintro e w' ⟨rfl, rfl⟩))
          go_ret
          exact ⟨rfl, Kp.al _ _⟩
        · have y3 : (b == 0) = false := by simpa using hB
          have hr : cluB (3, a, b) = false := by simp [cluB]; try omega
          rw [hr]
          clear hr
          go_enter Try.func8, Try.ntmps8
          go_wp2_with (first | ((with_reducible refine (within_yes (a) (0) (9) _ y1 y2).mono ?_); rintro e w' ⟨rfl, rfl⟩))
          go_ret
          exact ⟨rfl, Kp.al _ _⟩
      · have y1 : a < 0 ∨ 9 < a := by omega
        have hr : cluB (3, a, b) = false := by simp [cluB]; try omega
        rw [hr]
        clear hr
        go_enter Try.func8, Try.ntmps8
        go_wp2_with (first | ((with_reducible refine (within_no (a) (0) (9) _ y1).mono ?_); rintro e w' ⟨rfl, rfl⟩))
        go_ret
        exact ⟨rfl, Kp.al _ _⟩
    · by_cases hA : 0 ≤ a ∧ a ≤ 9
      · obtain ⟨y1, y2⟩ := hA
        by_cases hB : 0 ≤ b ∧ b ≤ 9
        · obtain ⟨y3, y4⟩ := hB
          have hr : cluB (4, a, b) = true := by simp [cluB]; try omega
          rw [hr]
          clear hr
          go_enter Try.func8, Try.ntmps8
          go_wp2_with (first | ((with_reducible refine (within_yes (b) (0) (9) _ y3 y4).mono ?_); rintro e w' ⟨rfl, rfl⟩) | ((with_reducible refine (within_yes (a) (0) (9) _ y1 y2).mono ?_); rintro e w' ⟨rfl, rfl⟩))
          go_ret
          exact ⟨rfl, Kp.al _ _⟩
        · have y3 : b < 0 ∨ 9 < b := by omega
          have hr : cluB (4, a, b) = false := by simp [cluB]; try omega
          rw [hr]
          clear hr
          go_enter Try.func8, Try.ntmps8
          go_wp2_with (first | ((with_reducible refine (within_no (b) (0) (9) _ y3).mono ?_); rintro e w' ⟨rfl, rfl⟩) | ((with_reducible refine (within_yes (a) (0) (9) _ y1 y2).mono ?_); rintro e w' ⟨rfl, rfl⟩))
          go_ret
          exact ⟨rfl, Kp.al _ _⟩
      · have y1 : a < 0 ∨ 9 < a := by omega
        have hr : cluB (4, a, b) = false := by simp [cluB]; try omega
        rw [hr]
        clear hr
        go_enter Try.func8, Try.ntmps8
        go_wp2_with (first | ((with_reducible refine (within_no (a) (0) (9) _ y1).mono ?_); rintro e w' ⟨rfl, rfl⟩))
        go_ret
        exact ⟨rfl, Kp.al _ _⟩
    · by_cases hA : 1 ≤ a ∧ a ≤ 10
      · obtain ⟨y1, y2⟩ := hA
        by_cases hB : b = 0
        · subst hB
          have hr : cluB (5, a, 0) = true := by simp [cluB]; try omega
          rw [hr]
          clear hr
          go_enter Try.func8, Try.ntmps8
          go_wp2_with (first | ((with_reducible refine (within_yes (a) (1) (10) _ y1 y2).mono ?_); rintro e w' ⟨rfl, rfl⟩))
          go_ret
          exact ⟨rfl, Kp.al _ _⟩
        · have y3 : (b == 0) = false := by simpa using hB
          have hr : cluB (5, a, b) = false := by simp [cluB]; try omega
          rw [hr]
          clear hr
          go_enter Try.func8, Try.ntmps8
          go_wp2_with (first | ((with_reducible refine (within_yes (a) (1) (10) _ y1 y2).mono ?_); rintro e w' ⟨rfl, rfl⟩))
          go_ret
          exact ⟨rfl, Kp.al _ _⟩
      · have y1 : a < 1 ∨ 10 < a := by omega
        have hr : cluB (5, a, b) = false := by simp [cluB]; try omega
        rw [hr]
        clear hr
        go_enter Try.func8, Try.ntmps8
        go_wp2_with (first | ((with_reducible refine (within_no (a) (1) (10) _ y1).mono ?_); rintro e w' ⟨rfl, rfl⟩))
        go_ret
        exact ⟨rfl, Kp.al _ _⟩
  · have n0 : ¬ k = 0 := by omega
    have n1 : ¬ k = 1 := by omega
    have n2 : ¬ k = 2 := by omega
    have n3 : ¬ k = 3 := by omega
    have n4 : ¬ k = 4 := by omega
    have n5 : ¬ k = 5 := by omega
    have hr : cluB (k, a, b) = false := by simp [cluB, n0, n1, n2, n3, n4, n5]
    rw [hr]
    clear hr h
    go_enter Try.func8, Try.ntmps8
    go_wp2
    go_ret
    exact ⟨rfl, Kp.al _ _⟩

theorem lawIsClue_all (p : Cu) (W : World) : Calls Try.prog 3 #[.agg #[.int .i64 p.1, .int .i64 p.2.1, .int .i64 p.2.2]] W fun e w' => e = .returned (.bool true) ∧ Kp Nw W w' := by
  have HT := Lib.hid (toClue_any p)
  have HS := Lib.hid (sIsClue_any p)
  have HI := Lib.hid (iIsClue_any p)
  obtain ⟨b, hb⟩ : ∃ b, cluB p = b := ⟨_, rfl⟩
  rw [hb] at HS HI
  obtain ⟨x, y, z⟩ := p
  simp only at HT HS HI ⊢
  clear hb
  have HB := Lib.hid (fun (w' : World) (hk : Kp Nw (W.alloc (.cells #[.int .i64 x, .int .i64 y, .int .i64 z] 23)) w') => (Own3.new W (x, y, z) 23).kp hk (fun h => h))
  go_enter Try.func3, Try.ntmps3
  go_wp2_with fail
  refine (HT.out _).mono ?_
  rintro e w1 ⟨rfl, hk1⟩
  have HK1 := Lib.hid hk1
  clear hk1
  go_wp2_with fail
  refine (HS.out _).mono ?_
  rintro e w2 ⟨rfl, hk2⟩
  have HK2 := Lib.hid (HK1.out.nw hk2)
  obtain ⟨⟨b0, b1, b2⟩, _⟩ := HB.out _ HK2.out
  have hb2 : W.heap.size < w2.heap.size := World.block_lt_of_cell? w2 _ b0
  simp only at b0 b1 b2
  clear hk2
  go_wp2_with fail
  refine (HT.out _).mono ?_
  rintro e w3 ⟨rfl, hk3⟩
  have HK3 := Lib.hid (HK2.out.nw hk3)
  clear hk3
  go_wp2_with fail
  refine (HI.out _).mono ?_
  rintro e w4 ⟨rfl, hk4⟩
  have HK4 := Lib.hid (HK3.out.nw hk4)
  clear hk4
  go_wp2
  go_ret
  exact ⟨rfl, (Kp.al W _).nw HK4.out⟩

/-- what is thrown where there is no clue -/
abbrev thrown : List PanicEntry := [{ v := .iface 65 (.agg #[]), recovered := false }]
set_option maxRecDepth 100000 in
theorem checked_ok (p : Cu) (W : World) (h : cluB p = true) : Calls Try.prog 30 #[.agg #[.int .i64 p.1, .int .i64 p.2.1, .int .i64 p.2.2]] W fun e w' => e = .returned (.agg #[.int .i64 p.1, .int .i64 p.2.1, .int .i64 p.2.2]) ∧ Kp Nw W w' := by
  have HI := Lib.hid (iIsClue_any p)
  rw [h] at HI
  obtain ⟨x, y, z⟩ := p
  simp only at HI ⊢
  clear h
  have HB := Lib.hid (fun (w' : World) (hk : Kp Nw ((W.alloc (.cells #[.int .i64 x, .int .i64 y, .int .i64 z] 25)).alloc (.cells #[.int .i64 0, .int .i64 0, .int .i64 0] 25)) w') => (((Own3.new W (x, y, z) 25).kp (Kp.al _ (.cells #[.int .i64 0, .int .i64 0, .int .i64 0] 25)) (fun h => h)).kp hk (fun h => h)))
  have HR := Lib.hid (fun (w' : World) (hk : Kp Nw ((W.alloc (.cells #[.int .i64 x, .int .i64 y, .int .i64 z] 25)).alloc (.cells #[.int .i64 0, .int .i64 0, .int .i64 0] 25)) w') => ((Own3.new (W.alloc (.cells #[.int .i64 x, .int .i64 y, .int .i64 z] 25)) (0, 0, 0) 25).kp hk (fun h => h)))
  go_enter Try.func30, Try.ntmps30
  go_wp2_with fail
  refine (HI.out _).mono ?_
  rintro e w1 ⟨rfl, hk1⟩
  obtain ⟨⟨b0, b1, b2⟩, _⟩ := HB.out _ hk1
  have hr := HR.out _ hk1
  simp only [World.size_alloc] at hr
  obtain ⟨⟨z0, z1, z2⟩, _⟩ := hr.put (x, y, z)
  obtain ⟨⟨r0, r1, r2⟩, f0, f1, f2⟩ := hr
  simp only at b0 b1 b2 r0 r1 r2 z0 z1 z2
  have HK1 := Lib.hid (((Kp.al W _).nw (.al _ _)).nw hk1)
  clear hk1
  go_wp2
  refine bodyPost_ret (v := .agg #[.int .i64 x, .int .i64 y, .int .i64 z]) (by simp [results, Try.results30, go_sem, z0, z1, z2]) rfl ⟨rfl, ?_⟩
  exact ((HK1.out.setCell (.inr (Nat.le_succ _)) _).setCell (.inr (Nat.le_succ _)) _).setCell (.inr (Nat.le_succ _)) _
set_option maxRecDepth 100000 in
theorem checked_no (p : Cu) (W : World) (h : cluB p = false) : Calls Try.prog 30 #[.agg #[.int .i64 p.1, .int .i64 p.2.1, .int .i64 p.2.2]] W fun e w' => e = .panicked thrown ∧ Kp Nw W w' := by
  have HI := Lib.hid (iIsClue_any p)
  rw [h] at HI
  obtain ⟨x, y, z⟩ := p
  simp only at HI ⊢
  clear h
  go_enter Try.func30, Try.ntmps30
  go_wp2_with fail
  refine (HI.out _).mono ?_
  rintro e w1 ⟨rfl, hk1⟩
  have HK1 := Lib.hid hk1
  clear hk1
  go_wp2
  exact ⟨rfl, rfl, ((Kp.al W _).nw (.al _ _)).nw HK1.out⟩
end Go.Proofs.Ytcfghaeogbimeaa
