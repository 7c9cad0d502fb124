/- MeanTurn: the mean turn of a person in lowest terms, in the model and in the program, and its law; no condition but what the chapter asks. -/
import Derived.Test.YtlkmknigfdgnoabOutN
import Derived.Test.YtlkmknigfdgnoabPerI
import Derived.Test.YtlkmknigfdgnoabLwMeanTurn
import Derived.Deep.QuietTactic
import Derived.BigQuiet
namespace Go.Proofs.Ytlkmknigfdgnoab
open Go.ChangeShapes Go.WideShapes Go.ChangeAt Go.RowKit

theorem fndD_memM (x : Int) : ∀ (xs : List Int) (j : Nat), x ∈ xs → 0 ≤ fndD x xs j
  | [], j, h => by simp at h
  | y :: r, j, h => by
    unfold fndD
    by_cases e : y = x
    · rw [if_pos e]
      exact Int.natCast_nonneg _
    · rw [if_neg e]
      refine fndD_memM x r (j + 1) ?_
      rcases List.mem_cons.1 h with h | h
      · exact absurd h.symm e
      · exact h
theorem fndD_lt (x : Int) : ∀ (xs : List Int) (j : Nat), fndD x xs j ≤ (j : Int) + xs.length - 1
  | [], j => by simp [fndD]; omega
  | y :: r, j => by
    have := fndD_lt x r (j + 1)
    unfold fndD
    split
    · simp only [List.length_cons]; omega
    · simp only [List.length_cons]; omega
/-- at which turn a person goes -/
def turnT (n u k : Nat) : Nat := (fndD (u : Int) (outs (k : Int) n (marks 0 n)) 0).toNat
theorem turnT_is (n u k : Nat) (h : u < n) : fndD (u : Int) (outs (k : Int) n (marks 0 n)) 0 = (turnT n u k : Nat) ∧ turnT n u k < n := by
  have hm : (u : Int) ∈ outs (k : Int) n (marks 0 n) := by
    rw [(outs_perm (k : Int) n _ (marks_length 0 n)).mem_iff]
    unfold marks
    rw [List.mem_map]
    exact ⟨u, List.mem_range.2 h, by omega⟩
  have h1 := fndD_memM (u : Int) _ 0 hm
  have h2 := fndD_lt (u : Int) (outs (k : Int) n (marks 0 n)) 0
  rw [outs_length] at h2
  unfold turnT
  omega
/-- the sum of the turns for the steps 1 .. s -/
def sumT (n u : Nat) : Nat → Nat
  | 0 => 0
  | s + 1 => sumT n u s + turnT n u (s + 1)
theorem sumT_le (n u : Nat) (h : u < n) (h2 : n ≤ 200) : ∀ s, sumT n u s ≤ 200 * s
  | 0 => Nat.le_refl _
  | s + 1 => by
    have := sumT_le n u h h2 s
    have := (turnT_is n u (s + 1) h).2
    rw [sumT]
    omega
def meanV (n u t : Nat) : Int × Int × Bool := (((sumT n u t / Nat.gcd (sumT n u t) t : Nat) : Int), ((t / Nat.gcd (sumT n u t) t : Nat) : Int), true)
def vMeanTurn (p u s : Int) : Int × Int × Bool := if 1 ≤ p ∧ p ≤ 200 ∧ 1 ≤ s ∧ s ≤ 200 ∧ 0 ≤ u ∧ u ≤ p - 1 then meanV p.toNat u.toNat s.toNat else (0, 0, false)

set_option maxRecDepth 100000 in
set_option maxHeartbeats 1600000 in
theorem iMeanTurn_yes (n u t : Nat) (W : World) (n1 : 1 ≤ n) (n2 : n ≤ 200) (hu : u < n) (t1 : 1 ≤ t) (t2 : t ≤ 200) : Calls Try.prog 17 #[.int .i64 n, .int .i64 u, .int .i64 t] W
    (Int2B W (meanV n u t).1 (meanV n u t).2.1 (meanV n u t).2.2) := by
  have p0 : 1 ≤ (n : Int) := by omega
  have p1 : (n : Int) ≤ 200 := by omega
  have q0 : 1 ≤ (t : Int) := by omega
  have q1 : (t : Int) ≤ 200 := by omega
  have u0 : 0 ≤ (u : Int) := by omega
  have u1 : (u : Int) ≤ (n : Int) - 1 := by omega
  have wp : IntKind.i64.wrap ((n : Int) - 1) = (n : Int) - 1 := IntWalk.i64_in _ (by omega)
  obtain ⟨R, hR⟩ : ∃ R, meanV n u t = R := ⟨_, rfl⟩
  rw [hR]
  have HR : Hid ((((sumT n u t / Nat.gcd (sumT n u t) t : Nat) : Int), ((t / Nat.gcd (sumT n u t) t : Nat) : Int), true) = R) := Lib.hid hR
  clear hR
  go_enter Try.func17, Try.ntmps17
  go_wp2_with (first | ((with_reducible refine (isTable_yes _ _ _ p0 p1 q0 q1).mono ?_); rintro e w' ⟨rfl, rfl⟩) | ((with_reducible refine (within_yes _ _ _ _ u0 u1).mono ?_); rintro e w' ⟨rfl, rfl⟩))
  go_loopw [9, 10] (fun c i wr => ∃ (j : Nat), j ≤ t ∧ i = .int .i64 ((j + 1 : Nat) : Int) ∧ c = .int .i64 (sumT n u j : Nat) ∧ Kp Nw W wr) (fun _ i _ => t + 1 - (intOf i).toNat)
  case atStart => exact ⟨0, Nat.zero_le _, rfl, rfl, Kp.refl _ _⟩
  case round =>
    obtain ⟨j, hj, rfl, rfl, hk⟩ := hrel
    have HK := Lib.hid hk
    clear hk
    have hsl := sumT_le n u hu n2 j
    obtain ⟨M, hM⟩ : ∃ M, sumT n u j = M := ⟨_, rfl⟩
    rw [hM] at hsl ⊢
    have HM := Lib.hid hM
    clear hM
    by_cases hlt : j < t
    · have e1 : ((j + 1 : Nat) : Int) ≤ t := by omega
      have w2 : IntKind.i64.wrap (((j + 1 : Nat) : Int) + 1) = ((j + 1 + 1 : Nat) : Int) := by rw [IntWalk.i64_in _ (by omega)]; omega
      obtain ⟨ht1, ht2⟩ := turnT_is n u (j + 1) hu
      obtain ⟨q, hq⟩ : ∃ q, turnT n u (j + 1) = q := ⟨_, rfl⟩
      rw [hq] at ht1 ht2
      have HS : Hid (sumT n u (j + 1) = M + q) := Lib.hid (by rw [sumT, HM.out, hq])
      have HQ := Lib.hid ht1
      have w3 : IntKind.i64.wrap ((M : Int) + (q : Int)) = ((M + q : Nat) : Int) := by rw [IntWalk.i64_in _ (by omega)]; omega
      clear ht1 hq
      go_wp2_with fail
      refine (iTurnOut_yes n ((j + 1 : Nat) : Int) u wr ⟨⟨p0, p1, by omega, by omega⟩, u0, by omega⟩).mono ?_
      rw [HQ.out]
      rintro e w1 ⟨rfl, hk1⟩
      have HK1 := Lib.hid (HK.out.nw hk1)
      clear hk1
      go_wp2
      go_roundw
      case rel => exact ⟨j + 1, by omega, by go_num, by rw [HS.out]; rfl, HK1.out⟩
      case measure => simp [intOf] <;> omega
    · have e : j = t := by omega
      subst e
      have e1 : ¬ ((j + 1 : Nat) : Int) ≤ j := by omega
      obtain ⟨t, ht⟩ : ∃ t, t = j := ⟨_, rfl⟩
      subst ht
      obtain ⟨g, hg⟩ : ∃ g, Nat.gcd M t = g := ⟨_, rfl⟩
      have HMT := HM
      have HGE := Lib.hid hg
      have hgp : 1 ≤ g := by rw [← HGE.out]; exact Nat.gcd_pos_of_pos_right _ (by omega)
      have g0 : ¬ (g : Int) = 0 := by omega
      have wd1 : (M : Int) / (g : Int) = ((M / g : Nat) : Int) := (Int.natCast_ediv _ _).symm
      have wd2 : (t : Int) / (g : Int) = ((t / g : Nat) : Int) := (Int.natCast_ediv _ _).symm
      obtain ⟨x, hx⟩ : ∃ x, M / g = x := ⟨_, rfl⟩
      obtain ⟨y, hy⟩ : ∃ y, t / g = y := ⟨_, rfl⟩
      have hxl : x ≤ 40000 := by rw [← hx]; exact Nat.le_trans (Nat.div_le_self _ _) (by omega)
      have hyl : y ≤ 200 := by rw [← hy]; exact Nat.le_trans (Nat.div_le_self _ _) (by omega)
      rw [hx] at wd1
      rw [hy] at wd2
      have HE : Hid (R = ((x : Int), (y : Int), true)) := Lib.hid (by rw [← HR.out, HMT.out, HGE.out, hx, hy])
      have x0 : (0 : Int) ≤ x := Int.natCast_nonneg _
      have y0 : (0 : Int) ≤ y := Int.natCast_nonneg _
      have g1 : (0 : Int) ≤ g := Int.natCast_nonneg _
      have M0 : (0 : Int) ≤ M := Int.natCast_nonneg _
      have ww1 : wrap64 (x : Int) = x := by unfold wrap64; omega
      have ww2 : wrap64 (y : Int) = y := by unfold wrap64; omega
      clear hg hx hy
      go_wp2_with fail
      refine (commonDivisor_any M t wr (by omega) (by omega)).mono ?_
      rw [HGE.out]
      rintro e w1 ⟨rfl, hk1⟩
      have HK1 := Lib.hid (HK.out.nw hk1)
      clear hk1
      go_wp2_with fail
      go_quiet (fail)
      go_wp2
      refine bodyPost_ret (v := .tuple #[.int .i64 x, .int .i64 y, .bool true]) (by first | (simp [results, Try.results17, go_sem]; done) | simp [results, Try.results17, go_sem, ww1, ww2]) rfl ?_
      rw [HE.out]
      exact ⟨rfl, HK1.out.drewN _⟩

theorem iMeanTurn_all (p u s : Int) (W : World) : Calls Try.prog 17 #[.int .i64 p, .int .i64 u, .int .i64 s] W (Int2B W (vMeanTurn p u s).1 (vMeanTurn p u s).2.1 (vMeanTurn p u s).2.2) := by
  unfold vMeanTurn
  by_cases hp : 1 ≤ p ∧ p ≤ 200
  · obtain ⟨p0, p1⟩ := hp
    have wp : IntKind.i64.wrap (p - 1) = p - 1 := IntWalk.i64_in _ (by omega)
    by_cases hs : 1 ≤ s ∧ s ≤ 200
    · obtain ⟨q0, q1⟩ := hs
      by_cases hu : 0 ≤ u ∧ u ≤ p - 1
      · rw [if_pos ⟨p0, p1, q0, q1, hu.1, hu.2⟩]
        obtain ⟨n, rfl⟩ : ∃ n : Nat, p = n := ⟨p.toNat, by omega⟩
        obtain ⟨t, rfl⟩ : ∃ t : Nat, s = t := ⟨s.toNat, by omega⟩
        obtain ⟨k, rfl⟩ : ∃ k : Nat, u = k := ⟨u.toNat, by omega⟩
        rw [Int.toNat_natCast, Int.toNat_natCast, Int.toNat_natCast]
        exact iMeanTurn_yes n k t W (by omega) (by omega) (by omega) (by omega) (by omega)
      · rw [if_neg (fun h => hu ⟨h.2.2.2.2.1, h.2.2.2.2.2⟩)]
        have h : u < 0 ∨ p - 1 < u := by omega
        clear hu
        go_enter Try.func17, Try.ntmps17
        go_wp2_with (first | ((with_reducible refine (isTable_yes _ _ _ p0 p1 q0 q1).mono ?_); rintro e w' ⟨rfl, rfl⟩) | ((with_reducible refine (within_no _ _ _ _ h).mono ?_); rintro e w' ⟨rfl, rfl⟩))
        refine bodyPost_ret (v := .tuple #[.int .i64 0, .int .i64 0, .bool false]) (by simp [results, Try.results17, go_sem]) rfl ⟨rfl, Kp.refl _ _⟩
    · rw [if_neg (fun h => hs ⟨h.2.2.1, h.2.2.2.1⟩)]
      have h : s < 1 ∨ 200 < s := by omega
      clear hs
      go_enter Try.func17, Try.ntmps17
      go_wp2_with (first | ((with_reducible refine (isTable_no2 p s _ p0 p1 h).mono ?_); rintro e w' ⟨rfl, rfl⟩))
      refine bodyPost_ret (v := .tuple #[.int .i64 0, .int .i64 0, .bool false]) (by simp [results, Try.results17, go_sem]) rfl ⟨rfl, Kp.refl _ _⟩
  · rw [if_neg (fun h => hp ⟨h.1, h.2.1⟩)]
    have h : p < 1 ∨ 200 < p := by omega
    clear hp
    go_enter Try.func17, Try.ntmps17
    go_wp2_with (first | ((with_reducible refine (isTable_no1 p s _ h).mono ?_); rintro e w' ⟨rfl, rfl⟩))
    refine bodyPost_ret (v := .tuple #[.int .i64 0, .int .i64 0, .bool false]) (by simp [results, Try.results17, go_sem]) rfl ⟨rfl, Kp.refl _ _⟩


set_option maxRecDepth 100000 in
set_option maxHeartbeats 1600000 in
theorem sMeanTurn_yes (n u t : Nat) (W : World) (n1 : 1 ≤ n) (n2 : n ≤ 200) (hu : u < n) (t1 : 1 ≤ t) (t2 : t ≤ 200) : Calls Try.prog 16 #[.int .i64 n, .int .i64 u, .int .i64 t] W
    (Int2B W (meanV n u t).1 (meanV n u t).2.1 (meanV n u t).2.2) := by
  have p0 : 1 ≤ (n : Int) := by omega
  have p1 : (n : Int) ≤ 200 := by omega
  have q0 : 1 ≤ (t : Int) := by omega
  have q1 : (t : Int) ≤ 200 := by omega
  have u0 : 0 ≤ (u : Int) := by omega
  have u1 : (u : Int) ≤ (n : Int) - 1 := by omega
  have wp : IntKind.i64.wrap ((n : Int) - 1) = (n : Int) - 1 := IntWalk.i64_in _ (by omega)
  obtain ⟨R, hR⟩ : ∃ R, meanV n u t = R := ⟨_, rfl⟩
  rw [hR]
  have HR : Hid ((((sumT n u t / Nat.gcd (sumT n u t) t : Nat) : Int), ((t / Nat.gcd (sumT n u t) t : Nat) : Int), true) = R) := Lib.hid hR
  clear hR
  go_enter Try.func16, Try.ntmps16
  go_wp2_with (first | ((with_reducible refine (saTable_yes _ _ _ p0 p1 q0 q1).mono ?_); rintro e w' ⟨rfl, rfl⟩) | ((with_reducible refine (l1In_yes _ _ _ _ u0 u1).mono ?_); rintro e w' ⟨rfl, rfl⟩))
  go_loopw [9, 10] (fun c i wr => ∃ (j : Nat), j ≤ t ∧ i = .int .i64 ((j + 1 : Nat) : Int) ∧ c = .int .i64 (sumT n u j : Nat) ∧ Kp Nw W wr) (fun _ i _ => t + 1 - (intOf i).toNat)
  case atStart => exact ⟨0, Nat.zero_le _, rfl, rfl, Kp.refl _ _⟩
  case round =>
    obtain ⟨j, hj, rfl, rfl, hk⟩ := hrel
    have HK := Lib.hid hk
    clear hk
    have hsl := sumT_le n u hu n2 j
    obtain ⟨M, hM⟩ : ∃ M, sumT n u j = M := ⟨_, rfl⟩
    rw [hM] at hsl ⊢
    have HM := Lib.hid hM
    clear hM
    by_cases hlt : j < t
    · have e1 : ((j + 1 : Nat) : Int) ≤ t := by omega
      have w2 : IntKind.i64.wrap (((j + 1 : Nat) : Int) + 1) = ((j + 1 + 1 : Nat) : Int) := by rw [IntWalk.i64_in _ (by omega)]; omega
      obtain ⟨ht1, ht2⟩ := turnT_is n u (j + 1) hu
      obtain ⟨q, hq⟩ : ∃ q, turnT n u (j + 1) = q := ⟨_, rfl⟩
      rw [hq] at ht1 ht2
      have HS : Hid (sumT n u (j + 1) = M + q) := Lib.hid (by rw [sumT, HM.out, hq])
      have HQ := Lib.hid ht1
      have w3 : IntKind.i64.wrap ((M : Int) + (q : Int)) = ((M + q : Nat) : Int) := by rw [IntWalk.i64_in _ (by omega)]; omega
      clear ht1 hq
      go_wp2_with fail
      refine (ciPeople_any n wr (by omega)).mono ?_
      rintro e w1 ⟨v1, rfl, hs, hk1⟩
      have HS1 := Lib.hid hs
      have HK1 := Lib.hid (HK.out.nw hk1)
      clear hs hk1
      go_wp2_with fail
      refine (ciOrder_any v1 ((j + 1 : Nat) : Int) (marks 0 n) _ w1 HS1.out (by rw [marks_length]; omega) (by omega) (by omega)).mono ?_
      rintro e w2 ⟨v2, rfl, hs2, hk2⟩
      rw [marks_length] at hs2
      have HS2 := Lib.hid hs2.rd
      have HK2 := Lib.hid (HK1.out.nw hk2)
      clear hs2 hk2
      go_wp2_with fail
      refine (ciFind_any v2 _ (u : Int) w2 HS2.out (by rw [outs_length]; omega)).mono ?_
      rw [HQ.out]
      rintro e w3 ⟨rfl, rfl⟩
      go_wp2
      go_roundw
      case rel => exact ⟨j + 1, by omega, by go_num, by rw [HS.out]; rfl, HK2.out⟩
      case measure => simp [intOf] <;> omega
    · have e : j = t := by omega
      subst e
      have e1 : ¬ ((j + 1 : Nat) : Int) ≤ j := by omega
      obtain ⟨t, ht⟩ : ∃ t, t = j := ⟨_, rfl⟩
      subst ht
      obtain ⟨g, hg⟩ : ∃ g, Nat.gcd M t = g := ⟨_, rfl⟩
      have HMT := HM
      have HGE := Lib.hid hg
      have hgp : 1 ≤ g := by rw [← HGE.out]; exact Nat.gcd_pos_of_pos_right _ (by omega)
      have g0 : ¬ (g : Int) = 0 := by omega
      have wd1 : (M : Int) / (g : Int) = ((M / g : Nat) : Int) := (Int.natCast_ediv _ _).symm
      have wd2 : (t : Int) / (g : Int) = ((t / g : Nat) : Int) := (Int.natCast_ediv _ _).symm
      obtain ⟨x, hx⟩ : ∃ x, M / g = x := ⟨_, rfl⟩
      obtain ⟨y, hy⟩ : ∃ y, t / g = y := ⟨_, rfl⟩
      have hxl : x ≤ 40000 := by rw [← hx]; exact Nat.le_trans (Nat.div_le_self _ _) (by omega)
      have hyl : y ≤ 200 := by rw [← hy]; exact Nat.le_trans (Nat.div_le_self _ _) (by omega)
      rw [hx] at wd1
      rw [hy] at wd2
      have HE : Hid (R = ((x : Int), (y : Int), true)) := Lib.hid (by rw [← HR.out, HMT.out, HGE.out, hx, hy])
      have x0 : (0 : Int) ≤ x := Int.natCast_nonneg _
      have y0 : (0 : Int) ≤ y := Int.natCast_nonneg _
      have g1 : (0 : Int) ≤ g := Int.natCast_nonneg _
      have M0 : (0 : Int) ≤ M := Int.natCast_nonneg _
      have ww1 : wrap64 (x : Int) = x := by unfold wrap64; omega
      have ww2 : wrap64 (y : Int) = y := by unfold wrap64; omega
      clear hg hx hy
      obtain ⟨w0, hw0⟩ : ∃ w0, w0 = wr := ⟨_, rfl⟩
      have HK0 : Hid (Kp Nw W w0) := Lib.hid (by rw [hw0]; exact HK.out)
      rw [← hw0]
      clear HK
      subst hw0
      go_wp2
      go_loopw [11, 12] (fun a b wy => ∃ (y z : Nat), a = .int .i64 y ∧ b = .int .i64 z ∧ y ≤ 1000000 ∧ z ≤ 1000000 ∧ Nat.gcd y z = g ∧ Kp Nw W wy) (fun _ b _ => (intOf b).toNat)
      case atStart => exact ⟨M, t, rfl, rfl, by omega, by omega, HGE.out, HK0.out⟩
      case round =>
        obtain ⟨a, z, rfl, rfl, ha, hz, hg, hk⟩ := hrel
        have HK3 := Lib.hid hk
        have HG := Lib.hid hg
        have a0 : (0 : Int) ≤ a := Int.natCast_nonneg _
        have z0 : (0 : Int) ≤ z := Int.natCast_nonneg _
        clear hk hg
        by_cases hz0 : 0 < z
        · have z1 : (0 : Int) < z := by omega
          have z2 : ¬ (z : Int) = 0 := by omega
          have hml : a % z < z := Nat.mod_lt _ hz0
          have wm : IntKind.i64.wrap ((a : Int).tmod z) = ((a % z : Nat) : Int) := by rw [Int.tmod_eq_emod_of_nonneg a0, ← Int.natCast_emod, IntWalk.i64_in _ (by omega)]
          go_wp2
          go_region
          all_goals go_wp2
          all_goals
            go_roundw
            case rel => exact ⟨z, a % z, rfl, rfl, by omega, by omega, by rw [← HG.out, Nat.gcd_comm a z, Nat.gcd_rec z a, Nat.gcd_comm], HK3.out.drew⟩
            case measure => simp [intOf] <;> omega
        · have ez : z = 0 := by omega
          subst ez
          obtain rfl : a = g := by rw [← HG.out, Nat.gcd_zero_right]
          go_wp2_with fail
          go_quiet (fail)
          go_wp2
          refine bodyPost_ret (v := .tuple #[.int .i64 x, .int .i64 y, .bool true]) (by first | (simp [results, Try.results16, go_sem]; done) | simp [results, Try.results16, go_sem, ww1, ww2]) rfl ?_
          rw [HE.out]
          exact ⟨rfl, HK3.out.drewN _⟩

theorem sMeanTurn_all (p u s : Int) (W : World) : Calls Try.prog 16 #[.int .i64 p, .int .i64 u, .int .i64 s] W (Int2B W (vMeanTurn p u s).1 (vMeanTurn p u s).2.1 (vMeanTurn p u s).2.2) := by
  unfold vMeanTurn
  by_cases hp : 1 ≤ p ∧ p ≤ 200
  · obtain ⟨p0, p1⟩ := hp
    have wp : IntKind.i64.wrap (p - 1) = p - 1 := IntWalk.i64_in _ (by omega)
    by_cases hs : 1 ≤ s ∧ s ≤ 200
    · obtain ⟨q0, q1⟩ := hs
      by_cases hu : 0 ≤ u ∧ u ≤ p - 1
      · rw [if_pos ⟨p0, p1, q0, q1, hu.1, hu.2⟩]
        obtain ⟨n, rfl⟩ : ∃ n : Nat, p = n := ⟨p.toNat, by omega⟩
        obtain ⟨t, rfl⟩ : ∃ t : Nat, s = t := ⟨s.toNat, by omega⟩
        obtain ⟨k, rfl⟩ : ∃ k : Nat, u = k := ⟨u.toNat, by omega⟩
        rw [Int.toNat_natCast, Int.toNat_natCast, Int.toNat_natCast]
        exact sMeanTurn_yes n k t W (by omega) (by omega) (by omega) (by omega) (by omega)
      · rw [if_neg (fun h => hu ⟨h.2.2.2.2.1, h.2.2.2.2.2⟩)]
        have h : u < 0 ∨ p - 1 < u := by omega
        clear hu
        go_enter Try.func16, Try.ntmps16
        go_wp2_with (first | ((with_reducible refine (saTable_yes _ _ _ p0 p1 q0 q1).mono ?_); rintro e w' ⟨rfl, rfl⟩) | ((with_reducible refine (l1In_no _ _ _ _ h).mono ?_); rintro e w' ⟨rfl, rfl⟩))
        refine bodyPost_ret (v := .tuple #[.int .i64 0, .int .i64 0, .bool false]) (by simp [results, Try.results16, go_sem]) rfl ⟨rfl, Kp.refl _ _⟩
    · rw [if_neg (fun h => hs ⟨h.2.2.1, h.2.2.2.1⟩)]
      have h : s < 1 ∨ 200 < s := by omega
      clear hs
      go_enter Try.func16, Try.ntmps16
      go_wp2_with (first | ((with_reducible refine (saTable_no2 p s _ p0 p1 h).mono ?_); rintro e w' ⟨rfl, rfl⟩))
      refine bodyPost_ret (v := .tuple #[.int .i64 0, .int .i64 0, .bool false]) (by simp [results, Try.results16, go_sem]) rfl ⟨rfl, Kp.refl _ _⟩
  · rw [if_neg (fun h => hp ⟨h.1, h.2.1⟩)]
    have h : p < 1 ∨ 200 < p := by omega
    clear hp
    go_enter Try.func16, Try.ntmps16
    go_wp2_with (first | ((with_reducible refine (saTable_no1 p s _ h).mono ?_); rintro e w' ⟨rfl, rfl⟩))
    refine bodyPost_ret (v := .tuple #[.int .i64 0, .int .i64 0, .bool false]) (by simp [results, Try.results16, go_sem]) rfl ⟨rfl, Kp.refl _ _⟩

theorem lawMeanTurn (p u s : Int) (W : World) : Calls Try.prog 7 #[.int .i64 p, .int .i64 u, .int .i64 s] W fun e w' => e = .returned (.bool true) ∧ Kp Nw W w' :=
  lawMeanTurn_of p u s _ _ _ W (Lib.hid fun W => sMeanTurn_all p u s W) (Lib.hid fun W => iMeanTurn_all p u s W)
end Go.Proofs.Ytlkmknigfdgnoab
