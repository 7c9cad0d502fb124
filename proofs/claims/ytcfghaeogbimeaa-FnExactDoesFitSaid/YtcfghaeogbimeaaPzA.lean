/- The model's clues and puzzles: is it a clue, is it a puzzle; no condition. -/
import Derived.Test.YtcfghaeogbimeaaPuz
import Derived.Test.YtcfghaeogbimeaaLow
namespace Go.Proofs.Ytcfghaeogbimeaa
open Go.ChangeShapes Go.WideShapes Go.ChangeAt Go.RowKit

/-- is it a clue? -/
def cluB (p : Cu) : Bool :=
  if p.1 = 0 ∨ p.1 = 1 then decide (2 ≤ p.2.1 ∧ p.2.1 ≤ 5) && decide (0 ≤ p.2.2 ∧ p.2.2 ≤ p.2.1 - 1)
  else if p.1 = 2 ∨ p.1 = 3 then decide (0 ≤ p.2.1 ∧ p.2.1 ≤ 9) && decide (p.2.2 = 0)
  else if p.1 = 4 then decide (0 ≤ p.2.1 ∧ p.2.1 ≤ 9) && decide (0 ≤ p.2.2 ∧ p.2.2 ≤ 9)
  else if p.1 = 5 then decide (1 ≤ p.2.1 ∧ p.2.1 ≤ 10) && decide (p.2.2 = 0)
  else false
/-- is it a puzzle? -/
def puzB (ps : List Cu) : Bool := decide (ps.length ≤ 6) && ps.all cluB

set_option maxRecDepth 100000 in
set_option maxHeartbeats 6400000 in
theorem pzClue_any (p : Cu) (W : World) : Calls Try.prog 16 #[.agg #[.int .i64 p.1, .int .i64 p.2.1, .int .i64 p.2.2]] W fun e w' => e = .returned (.bool (cluB p)) ∧ Kp Nw W w' := by
  obtain ⟨k, a, b⟩ := p
  simp only
  by_cases h : k = 0 ∨ k = 1 ∨ k = 2 ∨ k = 3 ∨ k = 4 ∨ k = 5
  · rcases h with rfl | rfl | rfl | rfl | rfl | rfl
    · by_cases hA : 2 ≤ a ∧ a ≤ 5
      · obtain ⟨y1, y2⟩ := hA
        have q1 : IntKind.i64.wrap (a - 1) = a - 1 := IntWalk.i64_in _ (by omega)
        by_cases hB : 0 ≤ b ∧ b ≤ a - 1
        · obtain ⟨y3, y4⟩ := hB
          have hr : cluB (0, a, b) = true := by simp [cluB]; try omega
          rw [hr]
          clear hr
          go_enter Try.func16, Try.ntmps16
          go_wp2_with (first | ((with_reducible refine (l1In_yes (b) (0) (a - 1) _ y3 y4).mono ?_); rintro e w' ⟨rfl, rfl⟩) | ((with_reducible refine (l1In_yes (a) (2) (5) _ y1 y2).mono ?_); rintro e w' ⟨rfl, rfl⟩))
          go_ret
          exact ⟨rfl, Kp.al _ _⟩
        · have y3 : b < 0 ∨ a - 1 < b := by omega
          have hr : cluB (0, a, b) = false := by simp [cluB]; try omega
          rw [hr]
          clear hr
          go_enter Try.func16, Try.ntmps16
          go_wp2_with (first | ((with_reducible refine (l1In_no (b) (0) (a - 1) _ y3).mono ?_); rintro e w' ⟨rfl, rfl⟩) | ((with_reducible refine (l1In_yes (a) (2) (5) _ y1 y2).mono ?_); rintro e w' ⟨rfl, rfl⟩))
          go_ret
          exact ⟨rfl, Kp.al _ _⟩
      · have y1 : a < 2 ∨ 5 < a := by omega
        have hr : cluB (0, a, b) = false := by simp [cluB]; try omega
        rw [hr]
        clear hr
        go_enter Try.func16, Try.ntmps16
        go_wp2_with (first | ((with_reducible refine (l1In_no (a) (2) (5) _ y1).mono ?_); rintro e w' ⟨rfl, rfl⟩))
        go_ret
        exact ⟨rfl, Kp.al _ _⟩
    · by_cases hA : 2 ≤ a ∧ a ≤ 5
      · obtain ⟨y1, y2⟩ := hA
        have q1 : IntKind.i64.wrap (a - 1) = a - 1 := IntWalk.i64_in _ (by omega)
        by_cases hB : 0 ≤ b ∧ b ≤ a - 1
        · obtain ⟨y3, y4⟩ := hB
          have hr : cluB (1, a, b) = true := by simp [cluB]; try omega
          rw [hr]
          clear hr
          go_enter Try.func16, Try.ntmps16
          go_wp2_with (first | ((with_reducible refine (l1In_yes (b) (0) (a - 1) _ y3 y4).mono ?_); rintro e w' ⟨rfl, rfl⟩) | ((with_reducible refine (l1In_yes (a) (2) (5) _ y1 y2).mono ?_); rintro e w' ⟨rfl, rfl⟩))
          go_ret
          exact ⟨rfl, Kp.al _ _⟩
        · have y3 : b < 0 ∨ a - 1 < b := by omega
          have hr : cluB (1, a, b) = false := by simp [cluB]; try omega
          rw [hr]
          clear hr
          go_enter Try.func16, Try.ntmps16
          go_wp2_with (first | ((with_reducible refine (l1In_no (b) (0) (a - 1) _ y3).mono ?_); rintro e w' ⟨rfl, rfl⟩) | ((with_reducible refine (l1In_yes (a) (2) (5) _ y1 y2).mono ?_); rintro e w' ⟨rfl, rfl⟩))
          go_ret
          exact ⟨rfl, Kp.al _ _⟩
      · have y1 : a < 2 ∨ 5 < a := by omega
        have hr : cluB (1, a, b) = false := by simp [cluB]; try omega
        rw [hr]
        clear hr
        go_enter Try.func16, Try.ntmps16
        go_wp2_with (first | ((with_reducible refine (l1In_no (a) (2) (5) _ y1).mono ?_); rintro e w' ⟨rfl, rfl⟩))
        go_ret
        exact ⟨rfl, Kp.al _ _⟩
    · by_cases hA : 0 ≤ a ∧ a ≤ 9
      · obtain ⟨y1, y2⟩ := hA
        by_cases hB : b = 0
        · subst hB
          have hr : cluB (2, a, 0) = true := by simp [cluB]; try omega
          rw [hr]
          clear hr
          go_enter Try.func16, Try.ntmps16
          go_wp2_with (first | ((with_reducible refine (l1In_yes (a) (0) (9) _ y1 y2).mono ?_); rintro e w' ⟨rfl, rfl⟩))
          go_ret
          exact ⟨rfl, Kp.al _ _⟩
        · have y3 : (b == 0) = false := by simpa using hB
          have hr : cluB (2, a, b) = false := by simp [cluB]; try omega
          rw [hr]
          clear hr
          go_enter Try.func16, Try.ntmps16
          go_wp2_with (first | ((with_reducible refine (l1In_yes (a) (0) (9) _ y1 y2).mono ?_); rintro e w' ⟨rfl, rfl⟩))
          go_ret
          exact ⟨rfl, Kp.al _ _⟩
      · have y1 : a < 0 ∨ 9 < a := by omega
        have hr : cluB (2, a, b) = false := by simp [cluB]; try omega
        rw [hr]
        clear hr
        go_enter Try.func16, Try.ntmps16
        go_wp2_with (first | ((with_reducible refine (l1In_no (a) (0) (9) _ y1).mono ?_); rintro e w' ⟨rfl, rfl⟩))
        go_ret
        exact ⟨rfl, Kp.al _ _⟩
    · by_cases hA : 0 ≤ a ∧ a ≤ 9
      · obtain ⟨y1, y2⟩ := hA
        by_cases hB : b = 0
        · subst hB
          have hr : cluB (3, a, 0) = true := by simp [cluB]; try omega
          rw [hr]
          clear hr
          go_enter Try.func16, Try.ntmps16
          go_wp2_with (first | ((with_reducible refine (l1In_yes (a) (0) (9) _ y1 y2).mono ?_); rintro e w' ⟨rfl, rfl⟩))
          go_ret
          exact ⟨rfl, Kp.al _ _⟩
        · have y3 : (b == 0) = false := by simpa using hB
          have hr : cluB (3, a, b) = false := by simp [cluB]; try omega
          rw [hr]
          clear hr
          go_enter Try.func16, Try.ntmps16
          go_wp2_with (first | ((with_reducible refine (l1In_yes (a) (0) (9) _ y1 y2).mono ?_); rintro e w' ⟨rfl, rfl⟩))
          go_ret
          exact ⟨rfl, Kp.al _ _⟩
      · have y1 : a < 0 ∨ 9 < a := by omega
        have hr : cluB (3, a, b) = false := by simp [cluB]; try omega
        rw [hr]
        clear hr
        go_enter Try.func16, Try.ntmps16
        go_wp2_with (first | ((with_reducible refine (l1In_no (a) (0) (9) _ y1).mono ?_); rintro e w' ⟨rfl, rfl⟩))
        go_ret
        exact ⟨rfl, Kp.al _ _⟩
    · by_cases hA : 0 ≤ a ∧ a ≤ 9
      · obtain ⟨y1, y2⟩ := hA
        by_cases hB : 0 ≤ b ∧ b ≤ 9
        · obtain ⟨y3, y4⟩ := hB
          have hr : cluB (4, a, b) = true := by simp [cluB]; try omega
          rw [hr]
          clear hr
          go_enter Try.func16, Try.ntmps16
          go_wp2_with (first | ((with_reducible refine (l1In_yes (b) (0) (9) _ y3 y4).mono ?_); rintro e w' ⟨rfl, rfl⟩) | ((with_reducible refine (l1In_yes (a) (0) (9) _ y1 y2).mono ?_); rintro e w' ⟨rfl, rfl⟩))
          go_ret
          exact ⟨rfl, Kp.al _ _⟩
        · have y3 : b < 0 ∨ 9 < b := by omega
          have hr : cluB (4, a, b) = false := by simp [cluB]; try omega
          rw [hr]
          clear hr
          go_enter Try.func16, Try.ntmps16
          go_wp2_with (first | ((with_reducible refine (l1In_no (b) (0) (9) _ y3).mono ?_); rintro e w' ⟨rfl, rfl⟩) | ((with_reducible refine (l1In_yes (a) (0) (9) _ y1 y2).mono ?_); rintro e w' ⟨rfl, rfl⟩))
          go_ret
          exact ⟨rfl, Kp.al _ _⟩
      · have y1 : a < 0 ∨ 9 < a := by omega
        have hr : cluB (4, a, b) = false := by simp [cluB]; try omega
        rw [hr]
        clear hr
        go_enter Try.func16, Try.ntmps16
        go_wp2_with (first | ((with_reducible refine (l1In_no (a) (0) (9) _ y1).mono ?_); rintro e w' ⟨rfl, rfl⟩))
        go_ret
        exact ⟨rfl, Kp.al _ _⟩
    · by_cases hA : 1 ≤ a ∧ a ≤ 10
      · obtain ⟨y1, y2⟩ := hA
        by_cases hB : b = 0
        · subst hB
          have hr : cluB (5, a, 0) = true := by simp [cluB]; try omega
          rw [hr]
          clear hr
          go_enter Try.func16, Try.ntmps16
          go_wp2_with (first | ((with_reducible refine (l1In_yes (a) (1) (10) _ y1 y2).mono ?_); rintro e w' ⟨rfl, rfl⟩))
          go_ret
          exact ⟨rfl, Kp.al _ _⟩
        · have y3 : (b == 0) = false := by simpa using hB
          have hr : cluB (5, a, b) = false := by simp [cluB]; try omega
          rw [hr]
          clear hr
          go_enter Try.func16, Try.ntmps16
          go_wp2_with (first | ((with_reducible refine (l1In_yes (a) (1) (10) _ y1 y2).mono ?_); rintro e w' ⟨rfl, rfl⟩))
          go_ret
          exact ⟨rfl, Kp.al _ _⟩
      · have y1 : a < 1 ∨ 10 < a := by omega
        have hr : cluB (5, a, b) = false := by simp [cluB]; try omega
        rw [hr]
        clear hr
        go_enter Try.func16, Try.ntmps16
        go_wp2_with (first | ((with_reducible refine (l1In_no (a) (1) (10) _ y1).mono ?_); rintro e w' ⟨rfl, rfl⟩))
        go_ret
        exact ⟨rfl, Kp.al _ _⟩
  · have n0 : ¬ k = 0 := by omega
    have n1 : ¬ k = 1 := by omega
    have n2 : ¬ k = 2 := by omega
    have n3 : ¬ k = 3 := by omega
    have n4 : ¬ k = 4 := by omega
    have n5 : ¬ k = 5 := by omega
    have hr : cluB (k, a, b) = false := by simp [cluB, n0, n1, n2, n3, n4, n5]
    rw [hr]
    clear hr h
    go_enter Try.func16, Try.ntmps16
    go_wp2
    go_ret
    exact ⟨rfl, Kp.al _ _⟩
theorem sIsClue_any (p : Cu) (W : World) : Calls Try.prog 6 #[.agg #[.int .i64 p.1, .int .i64 p.2.1, .int .i64 p.2.2]] W fun e w' => e = .returned (.bool (cluB p)) ∧ Kp Nw W w' := by
  obtain ⟨b, hb⟩ : ∃ b, cluB p = b := ⟨_, rfl⟩
  have HC := Lib.hid (pzClue_any p)
  rw [hb] at HC ⊢
  clear hb
  obtain ⟨x, y, z⟩ := p
  simp only at HC ⊢
  go_enter Try.func6, Try.ntmps6
  go_wp2_with fail
  refine (HC.out _).mono ?_
  rintro e w1 ⟨rfl, hk1⟩
  have HK1 := Lib.hid hk1
  clear hk1
  go_wp2
  go_ret
  exact ⟨rfl, (Kp.al W _).nw HK1.out⟩

set_option maxRecDepth 100000 in
set_option maxHeartbeats 1600000 in
theorem pzGood_any (A : Option Addr) (n c : Nat) (ps : List Cu) (W : World) (hu : RdC W (.slice A n c) ps) (hn : ps.length = n) (hm : n ≤ maxLen) (b : Bool) (hb : b = puzB ps) :
    Calls Try.prog 19 #[.agg #[.slice A n c]] W fun e w' => e = .returned (.bool b) ∧ Kp Nw W w' := by
  unfold maxLen at hm
  obtain ⟨A', c', hA', hA⟩ := hu
  rw [hn] at hA'
  injection hA' with e1 e2 e3
  subst e1
  have HA := Lib.hid hA
  have HN := Lib.hid hn
  have HB := Lib.hid hb
  have n0 : (0 : Int) ≤ n := Int.natCast_nonneg _
  by_cases h6 : n ≤ 6
  · have y1 : ¬ (6 : Int) < n := by omega
    clear hA hn hb e2 e3
    go_enter Try.func19, Try.ntmps19
    go_wp2
    go_loopw [12] (fun i wr => ∃ j : Nat, j ≤ n ∧ i = .int .i64 j ∧ (ps.take j).all cluB = true ∧ Kp Nw W wr) (fun i _ => n - (intOf i).toNat)
    case atStart => exact ⟨0, Nat.zero_le _, rfl, rfl, Kp.al _ _⟩
    case round =>
      rename_i wr
      obtain ⟨j, hj, rfl, ha, hk⟩ := hrel
      have j0 : (0 : Int) ≤ j := Int.natCast_nonneg _
      have HK := Lib.hid hk
      by_cases hlt : j < n
      · have hl' : j < ps.length := by rw [HN.out]; exact hlt
        obtain ⟨g, o, rfl, hc⟩ := HA.out j hl'
        obtain ⟨p, hp⟩ : ∃ p, ps.getD j (0, 0, 0) = p := ⟨_, rfl⟩
        rw [hp] at hc
        have hx : ps[j] = p := by rw [← hp]; simp [hl']
        obtain ⟨a0, a1, a2⟩ := hc.kp hk (fun h => h)
        have j1 : (j : Int) < n := by omega
        have hw := pzClue_any p
        by_cases ok : cluB p = true
        · have HA1 : Hid ((ps.take (j + 1)).all cluB = true) := Lib.hid (by rw [List.take_succ_eq_append_getElem hl', List.all_append, ha, hx]; simp [ok])
          rw [ok] at hw
          have HW := Lib.hid hw
          clear hk ha ok hp hx hl' hw hc
          go_wp2_with fail
          refine (HW.out _).mono ?_
          rintro e w5 ⟨rfl, hk5⟩
          have HK5 := Lib.hid ((HK.out.nw (.al _ _)).nw hk5)
          clear hk5
          go_wp2
          go_roundw
          case rel => exact ⟨j + 1, by omega, by go_num, HA1.out, HK5.out⟩
          case measure => simp [intOf]; omega
        · have HE : Hid (b = false) := Lib.hid (by
            have hf : ps.all cluB = false := by rw [List.all_eq_false]; exact ⟨ps[j], List.getElem_mem _, by rw [hx]; exact ok⟩
            rw [HB.out]
            unfold puzB
            rw [hf, Bool.and_false])
          have okf : cluB p = false := by simpa using ok
          rw [okf] at hw
          have HW := Lib.hid hw
          clear hk ha ok okf hp hx hl' hw hc
          go_wp2_with fail
          refine (HW.out _).mono ?_
          rintro e w5 ⟨rfl, hk5⟩
          have HK5 := Lib.hid ((HK.out.nw (.al _ _)).nw hk5)
          clear hk5
          go_wp2
          go_ret
          exact ⟨ret_bool HE.out.symm, HK5.out⟩
      · have e : j = n := by omega
        subst e
        have HE : Hid (b = true) := Lib.hid (by
          rw [List.take_of_length_le (by rw [HN.out]; exact Nat.le_refl _)] at ha
          rw [HB.out]
          unfold puzB
          rw [ha, HN.out, decide_eq_true h6]
          rfl)
        clear hk ha
        go_wp2
        go_ret
        exact ⟨ret_bool HE.out.symm, HK.out⟩
  · have y1 : (6 : Int) < n := by omega
    have HE : Hid (b = false) := Lib.hid (by rw [hb]; unfold puzB; rw [hn, decide_eq_false h6, Bool.false_and])
    clear hA hn hb e2 e3 h6
    go_enter Try.func19, Try.ntmps19
    go_wp2
    go_ret
    exact ⟨ret_bool HE.out.symm, Kp.al _ _⟩
theorem sIsPuzzle_any (A : Option Addr) (n c : Nat) (ps : List Cu) (W : World) (hu : RdC W (.slice A n c) ps) (hn : ps.length = n) (hm : n ≤ maxLen) :
    Calls Try.prog 10 #[.agg #[.slice A n c]] W fun e w' => e = .returned (.bool (puzB ps)) ∧ Kp Nw W w' := by
  obtain ⟨b, hb⟩ : ∃ b, puzB ps = b := ⟨_, rfl⟩
  have HC := Lib.hid (pzGood_any A n c ps (W.alloc (.cells #[.slice A n c] 35)) (hu.nw (.al _ _)) hn hm b hb.symm)
  rw [hb]
  clear hb hu hn hm
  go_enter Try.func10, Try.ntmps10
  go_wp2_with fail
  refine HC.out.mono ?_
  rintro e w1 ⟨rfl, hk1⟩
  have HK1 := Lib.hid hk1
  clear hk1
  go_wp2
  go_ret
  exact ⟨rfl, (Kp.al W _).nw HK1.out⟩
end Go.Proofs.Ytcfghaeogbimeaa
