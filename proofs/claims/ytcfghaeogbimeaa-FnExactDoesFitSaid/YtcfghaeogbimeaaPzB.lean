/- The model's fitting: does a circle fit a clue, is a circle hidden, DoesFit; no condition but that the clue is one and the circle hidden, where it says so. -/
import Derived.Test.YtcfghaeogbimeaaPzA
import Derived.Test.YtcfghaeogbimeaaAt
namespace Go.Proofs.Ytcfghaeogbimeaa
open Go.ChangeShapes Go.WideShapes Go.ChangeAt Go.RowKit

/-- does a circle of so many people, counted with that step, fit a clue? -/
def fitB (p : Cu) (n : Nat) (k : Int) : Bool :=
  if p.1 = 0 then decide ((n : Int) % p.2.1 = p.2.2)
  else if p.1 = 1 then decide (k % p.2.1 = p.2.2)
  else if p.1 = 2 then decide (lastN k (n - 1) = p.2.1)
  else if p.1 = 3 then decide ((k - 1) % (n : Int) = p.2.1)
  else if p.1 = 4 then decide (fndD p.2.1 (outs k n (marks 0 n)) 0 = p.2.2)
  else decide (p.2.1 ≤ (n : Int))
theorem clu_kind {k a b : Int} (h : cluB (k, a, b) = true) : (k = 0 ∧ 2 ≤ a ∧ a ≤ 5) ∨ (k = 1 ∧ 2 ≤ a ∧ a ≤ 5) ∨ (k = 2 ∧ 0 ≤ a ∧ a ≤ 9) ∨ (k = 3 ∧ 0 ≤ a ∧ a ≤ 9) ∨ (k = 4 ∧ 0 ≤ a ∧ a ≤ 9) ∨ (k = 5 ∧ 1 ≤ a ∧ a ≤ 10) := by
  unfold cluB at h
  simp only at h
  split at h
  · simp only [Bool.and_eq_true, decide_eq_true_eq] at h; omega
  · split at h
    · simp only [Bool.and_eq_true, decide_eq_true_eq] at h; omega
    · split at h
      · simp only [Bool.and_eq_true, decide_eq_true_eq] at h; omega
      · split at h
        · simp only [Bool.and_eq_true, decide_eq_true_eq] at h; omega
        · cases h

set_option maxRecDepth 100000 in
set_option maxHeartbeats 6400000 in
theorem pzFits_any (p : Cu) (n : Nat) (k : Int) (W : World) (hc : cluB p = true) (n1 : 1 ≤ n) (n2 : n ≤ 10) (k1 : 1 ≤ k) (k2 : k ≤ 12) :
    Calls Try.prog 24 #[.agg #[.int .i64 p.1, .int .i64 p.2.1, .int .i64 p.2.2], .int .i64 n, .int .i64 k] W fun e w' => e = .returned (.bool (fitB p n k)) ∧ Kp Nw W w' := by
  obtain ⟨q, a, b⟩ := p
  simp only
  have n0 : (0 : Int) ≤ n := Int.natCast_nonneg _
  obtain ⟨r, hr⟩ : ∃ r, fitB (q, a, b) n k = r := ⟨_, rfl⟩
  rw [hr]
  have C1 : Hid ((W.alloc (.cells #[.int .i64 q, .int .i64 a, .int .i64 b] 25)).cell? ⟨W.heap.size, 1, none⟩ = some (.int .i64 a)) := Lib.hid (by simp [World.cell?_alloc_at])
  have C2 : Hid ((W.alloc (.cells #[.int .i64 q, .int .i64 a, .int .i64 b] 25)).cell? ⟨W.heap.size, 2, none⟩ = some (.int .i64 b)) := Lib.hid (by simp [World.cell?_alloc_at])
  rcases clu_kind hc with ⟨rfl, a1, a2⟩ | ⟨rfl, a1, a2⟩ | ⟨rfl, a1, a2⟩ | ⟨rfl, a1, a2⟩ | ⟨rfl, a1, a2⟩ | ⟨rfl, a1, a2⟩
  · obtain ⟨m, hm⟩ : ∃ m, (n : Int) % a = m := ⟨_, rfl⟩
    have m1 : 0 ≤ m := by rw [← hm]; exact Int.emod_nonneg _ (by omega)
    have m2 : m ≤ 12 := by rw [← hm]; have := Int.emod_lt_of_pos ((n : Int)) (show 0 < a by omega); omega
    have m3 : ((n : Int)).tmod a = m := by rw [Int.tmod_eq_emod_of_nonneg (by omega)]; exact hm
    have m4 : IntKind.i64.wrap m = m := IntWalk.i64_in _ (by omega)
    have m5 : ¬ a = 0 := by omega
    have m6 : (a == 0) = false := by simpa using m5
    have HM := Lib.hid hm
    have HR : Hid (decide (m = b) = r) := Lib.hid (by rw [← hr, ← hm]; simp [fitB])
    clear hr hm hc
    go_enter Try.func24, Try.ntmps24
    go_wp2_with fail
    go_region_held3 (fun w' => Kp Nw (W.alloc (.cells #[.int .i64 0, .int .i64 a, .int .i64 b] 25)) w' ∧ w'.cell? ⟨W.heap.size, 1, none⟩ = some (.int .i64 a) ∧ w'.cell? ⟨W.heap.size, 2, none⟩ = some (.int .i64 b))
      (first
        | exact ⟨(Kp.refl _ _).drew, C1.out, C2.out⟩
        | assumption)
      (fail)
    go_wp2
    go_ret
    exact ⟨ret_bool HR.out, by first | exact Kp.al _ _ | exact (Kp.al _ _).drew⟩
  · obtain ⟨m, hm⟩ : ∃ m, k % a = m := ⟨_, rfl⟩
    have m1 : 0 ≤ m := by rw [← hm]; exact Int.emod_nonneg _ (by omega)
    have m2 : m ≤ 12 := by rw [← hm]; have := Int.emod_lt_of_pos (k) (show 0 < a by omega); omega
    have m3 : (k).tmod a = m := by rw [Int.tmod_eq_emod_of_nonneg (by omega)]; exact hm
    have m4 : IntKind.i64.wrap m = m := IntWalk.i64_in _ (by omega)
    have m5 : ¬ a = 0 := by omega
    have m6 : (a == 0) = false := by simpa using m5
    have HM := Lib.hid hm
    have HR : Hid (decide (m = b) = r) := Lib.hid (by rw [← hr, ← hm]; simp [fitB])
    clear hr hm hc
    go_enter Try.func24, Try.ntmps24
    go_wp2_with fail
    go_region_held3 (fun w' => Kp Nw (W.alloc (.cells #[.int .i64 1, .int .i64 a, .int .i64 b] 25)) w' ∧ w'.cell? ⟨W.heap.size, 1, none⟩ = some (.int .i64 a) ∧ w'.cell? ⟨W.heap.size, 2, none⟩ = some (.int .i64 b))
      (first
        | exact ⟨(Kp.refl _ _).drew, C1.out, C2.out⟩
        | assumption)
      (fail)
    go_wp2
    go_ret
    exact ⟨ret_bool HR.out, by first | exact Kp.al _ _ | exact (Kp.al _ _).drew⟩
  · obtain ⟨m, hm⟩ : ∃ m, lastN k (n - 1) = m := ⟨_, rfl⟩
    have HL := Lib.hid hm
    have HR : Hid (decide (m = a) = r) := Lib.hid (by rw [← hr, ← hm]; simp [fitB])
    clear hr hc hm
    go_enter Try.func24, Try.ntmps24
    go_wp2_with fail
    go_region_held3 (fun w' => Kp Nw (W.alloc (.cells #[.int .i64 2, .int .i64 a, .int .i64 b] 25)) w' ∧ w'.cell? ⟨W.heap.size, 1, none⟩ = some (.int .i64 a) ∧ w'.cell? ⟨W.heap.size, 2, none⟩ = some (.int .i64 b))
      (first
        | exact ⟨(Kp.refl _ _).drew, C1.out, C2.out⟩
        | assumption)
      (first
        | (go_at_call 32
           refine (ciLast_any n k _ n1 (by omega) k1 (by omega)).mono ?_
           rw [HL.out]
           rintro e w1 ⟨rfl, rfl⟩)
        | fail)
    go_wp2
    go_ret
    exact ⟨ret_bool HR.out, by first | exact Kp.al _ _ | exact (Kp.al _ _).drew⟩
  · obtain ⟨m, hm⟩ : ∃ m, (k - 1) % (n : Int) = m := ⟨_, rfl⟩
    have m1 : 0 ≤ m := by rw [← hm]; exact Int.emod_nonneg _ (by omega)
    have m2 : m ≤ 12 := by rw [← hm]; have := Int.emod_lt_of_pos ((k - 1)) (show 0 < (n : Int) by omega); omega
    have m3 : ((k - 1)).tmod (n : Int) = m := by rw [Int.tmod_eq_emod_of_nonneg (by omega)]; exact hm
    have m4 : IntKind.i64.wrap m = m := IntWalk.i64_in _ (by omega)
    have m5 : ¬ (n : Int) = 0 := by omega
    have m6 : ((n : Int) == 0) = false := by simpa using m5
    have HM := Lib.hid hm
    have q1 : IntKind.i64.wrap (k - 1) = k - 1 := IntWalk.i64_in _ (by omega)
    have m8 : ¬ n = 0 := by omega
    have HR : Hid (decide (m = a) = r) := Lib.hid (by rw [← hr, ← hm]; simp [fitB])
    clear hr hm hc
    go_enter Try.func24, Try.ntmps24
    go_wp2_with fail
    go_region_held3 (fun w' => Kp Nw (W.alloc (.cells #[.int .i64 3, .int .i64 a, .int .i64 b] 25)) w' ∧ w'.cell? ⟨W.heap.size, 1, none⟩ = some (.int .i64 a) ∧ w'.cell? ⟨W.heap.size, 2, none⟩ = some (.int .i64 b))
      (first
        | exact ⟨(Kp.refl _ _).drew, C1.out, C2.out⟩
        | assumption)
      (fail)
    go_wp2
    go_ret
    exact ⟨ret_bool HR.out, by first | exact Kp.al _ _ | exact (Kp.al _ _).drew⟩
  · obtain ⟨m, hm⟩ : ∃ m, fndD a (outs k n (marks 0 n)) 0 = m := ⟨_, rfl⟩
    have HL := Lib.hid hm
    have HR : Hid (decide (m = b) = r) := Lib.hid (by rw [← hr, ← hm]; simp [fitB])
    clear hr hc hm
    go_enter Try.func24, Try.ntmps24
    go_wp2_with fail
    go_region_held3 (fun w' => Kp Nw (W.alloc (.cells #[.int .i64 4, .int .i64 a, .int .i64 b] 25)) w' ∧ w'.cell? ⟨W.heap.size, 1, none⟩ = some (.int .i64 a) ∧ w'.cell? ⟨W.heap.size, 2, none⟩ = some (.int .i64 b))
      (first
        | exact ⟨(Kp.refl _ _).drew, C1.out, C2.out⟩
        | exact ⟨hkW2, keepc hkW2 C1.out (fun h => h), keepc hkW2 C2.out (fun h => h)⟩
        | exact ⟨hkW1, keepc hkW1 C1.out (fun h => h), keepc hkW1 C2.out (fun h => h)⟩
        | assumption)
      (first
        | (go_at_call 35
           refine (ciPeople_any n _ (by omega)).mono ?_
           rintro e w1 ⟨v1, rfl, hs1, hk1⟩
           have hkW1 := (‹Kp Nw (W.alloc (.cells #[.int .i64 4, .int .i64 a, .int .i64 b] 25)) _ ∧ _›.1).nw hk1)
        | (go_at_call 34
           refine (ciOrder_any v1 k (marks 0 n) _ _ hs1 (by rw [marks_length]; omega) k1 (by omega)).mono ?_
           rw [marks_length]
           rintro e w2 ⟨v2, rfl, hs2, hk2⟩
           have hkW2 := (‹Kp Nw (W.alloc (.cells #[.int .i64 4, .int .i64 a, .int .i64 b] 25)) _ ∧ _›.1).nw hk2)
        | (go_at_call 33
           refine (ciFind_any v2 _ a _ hs2.rd (by rw [outs_length]; omega)).mono ?_
           rw [HL.out]
           rintro e w3 ⟨rfl, rfl⟩)
        | fail)
    go_wp2
    go_ret
    exact ⟨ret_bool HR.out, (Kp.al W _).nw hkW2⟩
  · have HR : Hid (decide (a ≤ (n : Int)) = r) := Lib.hid (by rw [← hr]; simp [fitB])
    clear hr hc
    go_enter Try.func24, Try.ntmps24
    go_wp2
    go_ret
    exact ⟨ret_bool HR.out, by first | exact Kp.al _ _ | exact (Kp.al _ _).drew⟩

/-- is a circle hidden? -/
def hidB (n k : Int) : Bool := decide (1 ≤ n ∧ n ≤ 10) && decide (1 ≤ k ∧ k ≤ 12)
theorem pzHidden_any (n k : Int) (W : World) : Calls Try.prog 23 #[.int .i64 n, .int .i64 k] W fun e w' => e = .returned (.bool (hidB n k)) ∧ W = w' := by
  by_cases hA : 1 ≤ n ∧ n ≤ 10
  · obtain ⟨y1, y2⟩ := hA
    by_cases hB : 1 ≤ k ∧ k ≤ 12
    · obtain ⟨y3, y4⟩ := hB
      have hr : hidB n k = true := by simp [hidB]; omega
      rw [hr]
      clear hr
      go_enter Try.func23, Try.ntmps23
      go_wp2_with (first | ((with_reducible refine (l1In_yes k 1 12 _ y3 y4).mono ?_); rintro e w' ⟨rfl, rfl⟩) | ((with_reducible refine (l1In_yes n 1 10 _ y1 y2).mono ?_); rintro e w' ⟨rfl, rfl⟩))
      go_ret
      exact ⟨rfl, rfl⟩
    · have y3 : k < 1 ∨ 12 < k := by omega
      have hr : hidB n k = false := by simp [hidB]; omega
      rw [hr]
      clear hr hB
      go_enter Try.func23, Try.ntmps23
      go_wp2_with (first | ((with_reducible refine (l1In_no k 1 12 _ y3).mono ?_); rintro e w' ⟨rfl, rfl⟩) | ((with_reducible refine (l1In_yes n 1 10 _ y1 y2).mono ?_); rintro e w' ⟨rfl, rfl⟩))
      go_ret
      exact ⟨rfl, rfl⟩
  · have y1 : n < 1 ∨ 10 < n := by omega
    have hr : hidB n k = false := by simp [hidB]; omega
    rw [hr]
    clear hr hA
    go_enter Try.func23, Try.ntmps23
    go_wp2_with (first | ((with_reducible refine (l1In_no n 1 10 _ y1).mono ?_); rintro e w' ⟨rfl, rfl⟩))
    go_ret
    exact ⟨rfl, rfl⟩

/-- what DoesFit gives -/
def vDoesFit (p : Cu) (n k : Int) : Bool × Bool := if cluB p = true ∧ hidB n k = true then (fitB p n.toNat k, true) else (false, false)
end Go.Proofs.Ytcfghaeogbimeaa
