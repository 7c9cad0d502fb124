/- MakePuzzle's numbers and clues, in the model and in the program; no condition. -/
import Derived.Test.YtcfghaeogbimeaePzG
import Derived.Test.YtcfghaeogbimeaeMFi
import Derived.Deep.RegionLaw
namespace Go.Proofs.Ytcfghaeogbimeae
open Go.ChangeShapes Go.WideShapes Go.ChangeAt Go.RowKit

/-- the next number -/
def nx (z : Int) : Int := (157 * z + 2207) % 10007
theorem nx_bd (z : Int) : 0 ≤ nx z ∧ nx z ≤ 10006 := by
  have h1 := Int.emod_nonneg (157 * z + 2207) (b := 10007) (by omega)
  have h2 := Int.emod_lt_of_pos (157 * z + 2207) (b := 10007) (by omega)
  unfold nx
  omega
/-- the clue of a kind that a circle fits, with a number for what is chosen -/
def mkC (q y : Int) (n : Nat) (k : Int) : Cu :=
  if q = 0 then (0, y % 4 + 2, (n : Int) % (y % 4 + 2))
  else if q = 1 then (1, y % 4 + 2, k % (y % 4 + 2))
  else if q = 2 then (2, lastN k (n - 1), 0)
  else if q = 3 then (3, (k - 1) % (n : Int), 0)
  else if q = 4 then (4, y % (n : Int), fndD (y % (n : Int)) (outs k n (marks 0 n)) 0)
  else (5, y % (n : Int) + 1, 0)
/-- what is chosen of it -/
def mkA (q y : Int) (n : Nat) : Cu := (q, if q = 0 ∨ q = 1 then y % 4 + 2 else if q = 4 then y % (n : Int) else if q = 5 then y % (n : Int) + 1 else 0, 0)
theorem mk_tell (q y : Int) (n : Nat) (k : Int) (hn : 1 ≤ n) (q0 : 0 ≤ q) (q5 : q ≤ 5) : tellC (mkA q y n) n k = mkC q y n k := by
  have h1 := Int.emod_lt_of_pos y (b := (n : Int)) (by omega)
  have hq : q = 0 ∨ q = 1 ∨ q = 2 ∨ q = 3 ∨ q = 4 ∨ q = 5 := by omega
  rcases hq with rfl | rfl | rfl | rfl | rfl | rfl <;> simp [tellC, mkA, mkC]
  omega

theorem pzNext_any (z : Int) (W : World) (z0 : 0 ≤ z) (z1 : z ≤ 10006) : Calls Try.prog 36 #[.int .i64 z] W fun e w' => e = .returned (.int .i64 (nx z)) ∧ W = w' := by
  obtain ⟨r, hr⟩ : ∃ r, nx z = r := ⟨_, rfl⟩
  have q1 : IntKind.i64.wrap (157 * z) = 157 * z := IntWalk.i64_in _ (by omega)
  have q2 : IntKind.i64.wrap (157 * z + 2207) = 157 * z + 2207 := IntWalk.i64_in _ (by omega)
  have r1 : 0 ≤ r := by rw [← hr]; exact Int.emod_nonneg _ (by omega)
  have r2 : r < 10007 := by rw [← hr]; exact Int.emod_lt_of_pos _ (by omega)
  have r3 : (157 * z + 2207).tmod 10007 = r := by rw [Int.tmod_eq_emod_of_nonneg (by omega), ← hr]; unfold nx; rfl
  have r4 : IntKind.i64.wrap r = r := IntWalk.i64_in _ (by omega)
  rw [hr]
  clear hr
  go_enter Try.func36, Try.ntmps36
  go_wp2
  go_ret
  exact ⟨rfl, rfl⟩

theorem nextSeed_any (z : Int) (W : World) (z0 : 0 ≤ z) (z1 : z ≤ 10006) : Calls Try.prog 41 #[.int .i64 z] W fun e w' => e = .returned (.int .i64 (nx z)) ∧ W = w' := by
  obtain ⟨r, hr⟩ : ∃ r, nx z = r := ⟨_, rfl⟩
  have q1 : IntKind.i64.wrap (z * 157) = z * 157 := IntWalk.i64_in _ (by omega)
  have q2 : IntKind.i64.wrap (z * 157 + 2207) = z * 157 + 2207 := IntWalk.i64_in _ (by omega)
  have r1 : 0 ≤ r := by rw [← hr]; exact Int.emod_nonneg _ (by omega)
  have r2 : r < 10007 := by rw [← hr]; exact Int.emod_lt_of_pos _ (by omega)
  have r3 : (z * 157 + 2207).tmod 10007 = r := by rw [Int.tmod_eq_emod_of_nonneg (by omega), ← hr]; unfold nx; rw [Int.mul_comm]
  have r4 : IntKind.i64.wrap r = r := IntWalk.i64_in _ (by omega)
  rw [hr]
  clear hr
  go_enter Try.func41, Try.ntmps41
  go_wp2
  go_ret
  exact ⟨rfl, rfl⟩

set_option maxRecDepth 100000 in
set_option maxHeartbeats 6400000 in
theorem pzOf_any (q y : Int) (m : Nat) (k : Int) (W : World) (n2 : m + 1 ≤ 10) (k1 : 1 ≤ k) (k2 : k ≤ 12) (q0 : 0 ≤ q) (q5 : q ≤ 5) (y0 : 0 ≤ y) :
    Calls Try.prog 37 #[.int .i64 q, .int .i64 y, .int .i64 ((m : Int) + 1), .int .i64 k] W fun e w' => e = .returned (.agg #[.int .i64 (mkC q y (m + 1) k).1, .int .i64 (mkC q y (m + 1) k).2.1, .int .i64 (mkC q y (m + 1) k).2.2]) ∧ Kp Nw W w' := by
  obtain ⟨t, ht⟩ : ∃ t, mkC q y (m + 1) k = t := ⟨_, rfl⟩
  rw [ht]
  have m0 : (0 : Int) ≤ m := Int.natCast_nonneg _
  have hq : q = 0 ∨ q = 1 ∨ q = 2 ∨ q = 3 ∨ q = 4 ∨ q = 5 := by omega
  have hO := Own3.new W (0, 0, 0) 49
  have HO := Lib.hid hO
  clear hO
  rcases hq with rfl | rfl | rfl | rfl | rfl | rfl
  · obtain ⟨r, hr⟩ : ∃ r, y % 4 = r := ⟨_, rfl⟩
    have r1 : 0 ≤ r := by rw [← hr]; exact Int.emod_nonneg _ (by omega)
    have r2 : r < 4 := by rw [← hr]; exact Int.emod_lt_of_pos _ (by omega)
    have r3 : (y).tmod (4) = r := by rw [Int.tmod_eq_emod_of_nonneg (by omega)]; exact hr
    have r4 : IntKind.i64.wrap r = r := IntWalk.i64_in _ (by omega)
    have q2 : IntKind.i64.wrap (r + 2) = r + 2 := IntWalk.i64_in _ (by omega)
    obtain ⟨s, hs⟩ : ∃ s, ((m : Int) + 1) % (r + 2) = s := ⟨_, rfl⟩
    have s1 : 0 ≤ s := by rw [← hs]; exact Int.emod_nonneg _ (by omega)
    have s2 : s < (r + 2) := by rw [← hs]; exact Int.emod_lt_of_pos _ (by omega)
    have s3 : (((m : Int) + 1)).tmod ((r + 2)) = s := by rw [Int.tmod_eq_emod_of_nonneg (by omega)]; exact hs
    have s4 : IntKind.i64.wrap s = s := IntWalk.i64_in _ (by omega)
    have nz : ¬ (r + 2) = 0 := by omega
    have nz2 : ((r + 2) == 0) = false := by simpa using nz
    have HT : Hid (t = (0, (r + 2), s)) := Lib.hid (by rw [← ht]; simp [mkC, hr]; rw [← hs])
    rw [HT.out]
    show Calls _ _ _ _ fun e w' => e = .returned (.agg #[.int .i64 0, .int .i64 (r + 2), .int .i64 s]) ∧ _
    clear ht
    go_enter Try.func37, Try.ntmps37
    go_wp2
    exact bodyPost_ret (v := .agg #[.int .i64 0, .int .i64 (r + 2), .int .i64 s]) (by simp [results, Try.results37, go_sem]) rfl ⟨rfl, Kp.al W _⟩
  · obtain ⟨r, hr⟩ : ∃ r, y % 4 = r := ⟨_, rfl⟩
    have r1 : 0 ≤ r := by rw [← hr]; exact Int.emod_nonneg _ (by omega)
    have r2 : r < 4 := by rw [← hr]; exact Int.emod_lt_of_pos _ (by omega)
    have r3 : (y).tmod (4) = r := by rw [Int.tmod_eq_emod_of_nonneg (by omega)]; exact hr
    have r4 : IntKind.i64.wrap r = r := IntWalk.i64_in _ (by omega)
    have q2 : IntKind.i64.wrap (r + 2) = r + 2 := IntWalk.i64_in _ (by omega)
    obtain ⟨s, hs⟩ : ∃ s, k % (r + 2) = s := ⟨_, rfl⟩
    have s1 : 0 ≤ s := by rw [← hs]; exact Int.emod_nonneg _ (by omega)
    have s2 : s < (r + 2) := by rw [← hs]; exact Int.emod_lt_of_pos _ (by omega)
    have s3 : (k).tmod ((r + 2)) = s := by rw [Int.tmod_eq_emod_of_nonneg (by omega)]; exact hs
    have s4 : IntKind.i64.wrap s = s := IntWalk.i64_in _ (by omega)
    have nz : ¬ (r + 2) = 0 := by omega
    have nz2 : ((r + 2) == 0) = false := by simpa using nz
    have HT : Hid (t = (1, (r + 2), s)) := Lib.hid (by rw [← ht]; simp [mkC, hr]; rw [← hs])
    rw [HT.out]
    show Calls _ _ _ _ fun e w' => e = .returned (.agg #[.int .i64 1, .int .i64 (r + 2), .int .i64 s]) ∧ _
    clear ht
    go_enter Try.func37, Try.ntmps37
    go_wp2
    exact bodyPost_ret (v := .agg #[.int .i64 1, .int .i64 (r + 2), .int .i64 s]) (by simp [results, Try.results37, go_sem]) rfl ⟨rfl, Kp.al W _⟩
  · obtain ⟨r, hr⟩ : ∃ r, lastN k m = r := ⟨_, rfl⟩
    have HL := Lib.hid (ciLast_any (m + 1) k (W.alloc (.cells #[.int .i64 0, .int .i64 0, .int .i64 0] 49)) (by omega) (by omega) k1 (by omega))
    rw [Nat.add_sub_cancel, hr, show ((m + 1 : Nat) : Int) = (m : Int) + 1 from rfl] at HL
    have HT : Hid (t = (2, r, 0)) := Lib.hid (by rw [← ht]; rw [← hr]; simp [mkC])
    rw [HT.out]
    show Calls _ _ _ _ fun e w' => e = .returned (.agg #[.int .i64 2, .int .i64 r, .int .i64 0]) ∧ _
    clear ht
    go_enter Try.func37, Try.ntmps37
    go_wp2_with fail
    refine HL.out.mono ?_
    rintro e w1 ⟨rfl, rfl⟩
    go_wp2
    exact bodyPost_ret (v := .agg #[.int .i64 2, .int .i64 r, .int .i64 0]) (by simp [results, Try.results37, go_sem]) rfl ⟨rfl, Kp.al W _⟩
  · obtain ⟨r, hr⟩ : ∃ r, (k - 1) % ((m : Int) + 1) = r := ⟨_, rfl⟩
    have r1 : 0 ≤ r := by rw [← hr]; exact Int.emod_nonneg _ (by omega)
    have r2 : r < ((m : Int) + 1) := by rw [← hr]; exact Int.emod_lt_of_pos _ (by omega)
    have r3 : ((k - 1)).tmod (((m : Int) + 1)) = r := by rw [Int.tmod_eq_emod_of_nonneg (by omega)]; exact hr
    have r4 : IntKind.i64.wrap r = r := IntWalk.i64_in _ (by omega)
    have q1 : IntKind.i64.wrap (k - 1) = k - 1 := IntWalk.i64_in _ (by omega)
    have nz : ¬ ((m : Int) + 1) = 0 := by omega
    have nz2 : (((m : Int) + 1) == 0) = false := by simpa using nz
    have HT : Hid (t = (3, r, 0)) := Lib.hid (by rw [← ht]; rw [← hr]; simp [mkC])
    rw [HT.out]
    show Calls _ _ _ _ fun e w' => e = .returned (.agg #[.int .i64 3, .int .i64 r, .int .i64 0]) ∧ _
    clear ht
    go_enter Try.func37, Try.ntmps37
    go_wp2
    exact bodyPost_ret (v := .agg #[.int .i64 3, .int .i64 r, .int .i64 0]) (by simp [results, Try.results37, go_sem]) rfl ⟨rfl, Kp.al W _⟩
  · obtain ⟨r, hr⟩ : ∃ r, y % ((m : Int) + 1) = r := ⟨_, rfl⟩
    have r1 : 0 ≤ r := by rw [← hr]; exact Int.emod_nonneg _ (by omega)
    have r2 : r < ((m : Int) + 1) := by rw [← hr]; exact Int.emod_lt_of_pos _ (by omega)
    have r3 : (y).tmod (((m : Int) + 1)) = r := by rw [Int.tmod_eq_emod_of_nonneg (by omega)]; exact hr
    have r4 : IntKind.i64.wrap r = r := IntWalk.i64_in _ (by omega)
    have nz : ¬ ((m : Int) + 1) = 0 := by omega
    have nz2 : (((m : Int) + 1) == 0) = false := by simpa using nz
    obtain ⟨s, hs⟩ : ∃ s, fndD r (outs k (m + 1) (marks 0 (m + 1))) 0 = s := ⟨_, rfl⟩
    have HS := Lib.hid hs
    have HT : Hid (t = (4, r, s)) := Lib.hid (by rw [← ht]; rw [← hs, ← hr]; simp [mkC])
    rw [HT.out]
    show Calls _ _ _ _ fun e w' => e = .returned (.agg #[.int .i64 4, .int .i64 r, .int .i64 s]) ∧ _
    clear ht
    go_enter Try.func37, Try.ntmps37
    clear hr hs
    go_wp2_with fail
    first
    | (go_region_law (first
      | (go_simp
         go_at_call 54
         refine (ciPeople_any (m + 1) _ (by omega)).mono ?_
         rintro e w1 ⟨v1, rfl, hs1, hk1⟩
         have kW1 : Kp Nw (W.alloc (.cells #[.int .i64 0, .int .i64 0, .int .i64 0] 49)) w1 := Kp.nw (by first | exact (Kp.refl Nw _).drew | exact (Kp.refl Nw _)) hk1)
      | (go_simp
         go_at_call 53
         refine (ciOrder_any v1 k (marks 0 (m + 1)) _ _ hs1 (by rw [marks_length]; omega) k1 (by omega)).mono ?_
         rw [marks_length]
         rintro e w2 ⟨v2, rfl, hs2, hk2⟩
         have kW2 := kW1.nw hk2
         obtain ⟨⟨o0, o1, o2⟩, f0, f1, f2⟩ := HO.out.kp kW2 (fun h => h))
      | (go_simp
         go_at_call 52
         refine (ciFind_any v2 _ r _ hs2.rd (by rw [outs_length]; omega)).mono ?_
         rw [HS.out]
         rintro e w3 ⟨rfl, rfl⟩)
      | fail))
    | trivial
    all_goals
      have z9 := (HO.out.kp kW2 (fun h => h)).put (4, r, s)
      obtain ⟨⟨z0, z1, z2⟩, _⟩ := z9
      simp only at z0 z1 z2
      go_wp2
      exact bodyPost_ret (v := .agg #[.int .i64 4, .int .i64 r, .int .i64 s]) (by simp [results, Try.results37, go_sem, z0, z1, z2]) rfl ⟨rfl, (((((Kp.al W _).nw kW2).setCell (.inr (Nat.le_refl _)) _).setCell (.inr (Nat.le_refl _)) _).setCell (.inr (Nat.le_refl _)) _)⟩
  · obtain ⟨r, hr⟩ : ∃ r, y % ((m : Int) + 1) = r := ⟨_, rfl⟩
    have r1 : 0 ≤ r := by rw [← hr]; exact Int.emod_nonneg _ (by omega)
    have r2 : r < ((m : Int) + 1) := by rw [← hr]; exact Int.emod_lt_of_pos _ (by omega)
    have r3 : (y).tmod (((m : Int) + 1)) = r := by rw [Int.tmod_eq_emod_of_nonneg (by omega)]; exact hr
    have r4 : IntKind.i64.wrap r = r := IntWalk.i64_in _ (by omega)
    have q1 : IntKind.i64.wrap (r + 1) = r + 1 := IntWalk.i64_in _ (by omega)
    have nz : ¬ ((m : Int) + 1) = 0 := by omega
    have nz2 : (((m : Int) + 1) == 0) = false := by simpa using nz
    have HT : Hid (t = (5, (r + 1), 0)) := Lib.hid (by rw [← ht]; rw [← hr]; simp [mkC])
    rw [HT.out]
    show Calls _ _ _ _ fun e w' => e = .returned (.agg #[.int .i64 5, .int .i64 (r + 1), .int .i64 0]) ∧ _
    clear ht
    go_enter Try.func37, Try.ntmps37
    go_wp2
    exact bodyPost_ret (v := .agg #[.int .i64 5, .int .i64 (r + 1), .int .i64 0]) (by simp [results, Try.results37, go_sem]) rfl ⟨rfl, Kp.al W _⟩
end Go.Proofs.Ytcfghaeogbimeae
