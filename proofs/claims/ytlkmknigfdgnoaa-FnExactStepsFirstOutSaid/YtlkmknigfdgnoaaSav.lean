/- The texts SaveM, Save, SaveT, SaveN, SaveO, SaveC, SaveB, SaveF, as one. -/
import Derived.Test.YtlkmknigfdgnoaaLow
import Derived.Test.YtlkmknigfdgnoaaLaws
namespace Go.Proofs.Ytlkmknigfdgnoaa

/-- the least number that all of 1 .. n divide -/
def perT : Nat → Nat
  | 0 => 1
  | n + 1 => Nat.lcm (perT n) (n + 1)
theorem perT_pos : ∀ n, 1 ≤ perT n
  | 0 => Nat.le_refl 1
  | n + 1 => Nat.lcm_pos (perT_pos n) (Nat.succ_pos n)
theorem perT_le (n : Nat) (h : n ≤ 12) : perT n ≤ 27720 := by
  have : ∀ i : Fin 13, perT i ≤ 27720 := by decide +kernel
  exact this ⟨n, by omega⟩
theorem perT_step (n : Nat) : perT n * ((n + 1) / Nat.gcd (perT n) (n + 1)) = perT (n + 1) := by
  rw [perT, Nat.lcm, Nat.mul_div_assoc _ (Nat.gcd_dvd_right _ _)]
/-- the first of 1 .. n that fits -/
def firstK (f : Nat → Bool) (n : Nat) : Int × Bool := match (List.range n).find? (fun j => f (j + 1)) with
  | some j => (((j + 1 : Nat) : Int), true)
  | none => (0, false)
theorem firstK_hit (f : Nat → Bool) (n j : Nat) (hj : j < n) (h : f (j + 1) = true) (hb : ∀ i, i < j → f (i + 1) = false) : firstK f n = (((j + 1 : Nat) : Int), true) := by
  have e : (List.range n).find? (fun j => f (j + 1)) = some j := by
    rw [List.find?_range_eq_some]
    exact ⟨h, List.mem_range.2 hj, fun i hi => by simp [hb i hi]⟩
  unfold firstK
  rw [e]
theorem firstK_none (f : Nat → Bool) (n : Nat) (hb : ∀ i, i < n → f (i + 1) = false) : firstK f n = (0, false) := by
  have e : (List.range n).find? (fun j => f (j + 1)) = none := by
    rw [List.find?_eq_none]
    intro i hi
    simp [hb i (List.mem_range.1 hi)]
  unfold firstK
  rw [e]
/-- how many of 1 .. n fit -/
def countK (f : Nat → Bool) : Nat → Nat
  | 0 => 0
  | n + 1 => countK f n + (if f (n + 1) = true then 1 else 0)
theorem countK_le (f : Nat → Bool) : ∀ n, countK f n ≤ n
  | 0 => Nat.le_refl 0
  | n + 1 => by
    have := countK_le f n
    rw [countK]
    split <;> omega
end Go.Proofs.Ytlkmknigfdgnoaa
namespace Go.Proofs.Ytlkmknigfdgnoaa
open Go.ChangeShapes Go.WideShapes Go.ChangeAt Go.RowKit

/-- a number, nothing old changed -/
def IntO (W : World) (x : Int) (e : Ending) (w' : World) : Prop := e = .returned (.int .i64 x) ∧ Kp Nw W w'

set_option maxRecDepth 100000 in
set_option maxHeartbeats 1600000 in
theorem saPeriod_any (n : Nat) (W : World) (hp : 1 ≤ n) (hl : n ≤ 12) : Calls Try.prog 44 #[.int .i64 n] W (IntO W (perT n : Nat)) := by
  have n0 : (0 : Int) ≤ n := Int.natCast_nonneg _
  obtain ⟨R, hR⟩ : ∃ R, perT n = R := ⟨_, rfl⟩
  rw [hR]
  have HR := Lib.hid hR
  clear hR
  go_enter Try.func44, Try.ntmps44
  go_wp2
  go_loopw [3, 4] (fun o i wr => ∃ (j : Nat), 1 ≤ j ∧ j ≤ n ∧ i = .int .i64 ((j : Int) + 1) ∧ o = .int .i64 (perT j : Nat) ∧ Kp Nw W wr) (fun _ i _ => n + 1 - (intOf i).toNat)
  case atStart => exact ⟨1, Nat.le_refl _, hp, rfl, rfl, Kp.refl _ _⟩
  case round =>
    obtain ⟨j, j1, jn, rfl, rfl, hk⟩ := hrel
    have HK := Lib.hid hk
    obtain ⟨L, hLe⟩ : ∃ L, perT j = L := ⟨_, rfl⟩
    have hL1 : 1 ≤ L := by rw [← hLe]; exact perT_pos j
    have hL2 : L ≤ 27720 := by rw [← hLe]; exact perT_le j (by omega)
    have HST := Lib.hid (perT_step j)
    rw [hLe] at HST ⊢
    have HL := Lib.hid hLe
    have j0 : (0 : Int) ≤ j := Int.natCast_nonneg _
    clear hk hLe
    by_cases hlt : j < n
    · have t1 : (j : Int) + 1 ≤ n := by omega
      have w2 : IntKind.i64.wrap ((j : Int) + 1 + 1) = (j : Int) + 1 + 1 := IntWalk.i64_in _ (by omega)
      go_wp2
      go_loopw [5, 6] (fun a b wy => ∃ (y z : Nat), a = .int .i64 y ∧ b = .int .i64 z ∧ y ≤ 1000000 ∧ z ≤ 1000000 ∧ Nat.gcd y z = Nat.gcd L (j + 1) ∧ Kp Nw W wy) (fun _ b _ => (intOf b).toNat)
      case atStart => exact ⟨L, j + 1, rfl, rfl, by omega, by omega, rfl, HK.out⟩
      case round =>
        obtain ⟨y, z, rfl, rfl, hy, hz, hg, hk⟩ := hrel
        have HK3 := Lib.hid hk
        have HG := Lib.hid hg
        have y0 : (0 : Int) ≤ y := Int.natCast_nonneg _
        have z0 : (0 : Int) ≤ z := Int.natCast_nonneg _
        clear hk hg
        by_cases hz0 : 0 < z
        · have z1 : (0 : Int) < z := by omega
          have z2 : ¬ (z : Int) = 0 := by omega
          have hml : y % z < z := Nat.mod_lt _ hz0
          have wm : IntKind.i64.wrap ((y : Int).tmod z) = ((y % z : Nat) : Int) := by rw [Int.tmod_eq_emod_of_nonneg y0, ← Int.natCast_emod, IntWalk.i64_in _ (by omega)]
          go_wp2
          go_region
          all_goals go_wp2
          all_goals
            go_roundw
            case rel => exact ⟨z, y % z, rfl, rfl, by omega, by omega, by rw [← HG.out, Nat.gcd_comm y z, Nat.gcd_rec z y, Nat.gcd_comm], HK3.out.drew⟩
            case measure => simp [intOf] <;> omega
        · have ez : z = 0 := by omega
          subst ez
          have hyg : y = Nat.gcd L (j + 1) := by rw [← HG.out, Nat.gcd_zero_right]
          have hyp : 1 ≤ y := by rw [hyg]; exact Nat.gcd_pos_of_pos_left _ hL1
          have y2 : ¬ (y : Int) = 0 := by omega
          obtain ⟨q, hq⟩ : ∃ q, (j + 1) / y = q := ⟨_, rfl⟩
          have hqL : q ≤ j + 1 := by rw [← hq]; exact Nat.div_le_self _ _
          obtain ⟨M, hM⟩ : ∃ M, L * q = M := ⟨_, rfl⟩
          have HM2 : Hid (perT (j + 1) = M) := Lib.hid (by rw [← HST.out, ← hyg, hq, hM])
          have hMM : M ≤ 27720 := by rw [← HM2.out]; exact perT_le (j + 1) (by omega)
          have wd : ((j : Int) + 1) / y = (q : Int) := by rw [show (j : Int) + 1 = ((j + 1 : Nat) : Int) by omega, ← Int.natCast_ediv, hq]
          have wu : (L : Int) * q = (M : Int) := by rw [← Int.natCast_mul, hM]
          have q0 : (0 : Int) ≤ q := Int.natCast_nonneg _
          have q1 : (q : Int) ≤ 1000000 := by omega
          have M0 : (0 : Int) ≤ M := Int.natCast_nonneg _
          have M1 : (M : Int) ≤ 1000000 := by omega
          clear hM hq hyg
          go_wp2
          go_roundw
          case rel => exact ⟨j + 1, by omega, by omega, by go_num, by rw [HM2.out], HK3.out⟩
          case measure => simp [intOf] <;> omega
    · have e : j = n := by omega
      subst e
      obtain rfl : L = R := by rw [← HL.out, HR.out]
      have t1 : ¬ (j : Int) + 1 ≤ j := by omega
      go_wp2
      go_ret
      exact ⟨rfl, HK.out⟩

theorem saFew_yes (p : Int) (w : World) (h0 : 1 ≤ p) (h1 : p ≤ 12) : Calls Try.prog 43 #[.int .i64 p] w fun e w' => e = .returned (.bool true) ∧ w = w' := by
  go_enter Try.func43, Try.ntmps43
  go_wp2_with (first | ((with_reducible refine (l1In_yes p _ _ _ h0 h1).mono ?_); rintro e w' ⟨rfl, rfl⟩))
  go_ret
  exact ⟨rfl, rfl⟩
theorem saFew_no (p : Int) (w : World) (h : p < 1 ∨ 12 < p) : Calls Try.prog 43 #[.int .i64 p] w fun e w' => e = .returned (.bool false) ∧ w = w' := by
  go_enter Try.func43, Try.ntmps43
  go_wp2_with (first | ((with_reducible refine (l1In_no p _ _ _ h).mono ?_); rintro e w' ⟨rfl, rfl⟩))
  go_ret
  exact ⟨rfl, rfl⟩
theorem saTable_yes (p s : Int) (w : World) (p0 : 1 ≤ p) (p1 : p ≤ 200) (s0 : 1 ≤ s) (s1 : s ≤ 200) : Calls Try.prog 47 #[.int .i64 p, .int .i64 s] w fun e w' => e = .returned (.bool true) ∧ w = w' := by
  go_enter Try.func47, Try.ntmps47
  go_wp2_with (first | ((with_reducible refine (l1In_yes p _ _ _ p0 p1).mono ?_); rintro e w' ⟨rfl, rfl⟩) | ((with_reducible refine (l1In_yes s _ _ _ s0 s1).mono ?_); rintro e w' ⟨rfl, rfl⟩))
  go_ret
  exact ⟨rfl, rfl⟩
theorem saTable_no1 (p s : Int) (w : World) (h : p < 1 ∨ 200 < p) : Calls Try.prog 47 #[.int .i64 p, .int .i64 s] w fun e w' => e = .returned (.bool false) ∧ w = w' := by
  go_enter Try.func47, Try.ntmps47
  go_wp2_with (first | ((with_reducible refine (l1In_no p _ _ _ h).mono ?_); rintro e w' ⟨rfl, rfl⟩))
  go_ret
  exact ⟨rfl, rfl⟩
theorem saTable_no2 (p s : Int) (w : World) (p0 : 1 ≤ p) (p1 : p ≤ 200) (h : s < 1 ∨ 200 < s) : Calls Try.prog 47 #[.int .i64 p, .int .i64 s] w fun e w' => e = .returned (.bool false) ∧ w = w' := by
  go_enter Try.func47, Try.ntmps47
  go_wp2_with (first | ((with_reducible refine (l1In_yes p _ _ _ p0 p1).mono ?_); rintro e w' ⟨rfl, rfl⟩) | ((with_reducible refine (l1In_no s _ _ _ h).mono ?_); rintro e w' ⟨rfl, rfl⟩))
  go_ret
  exact ⟨rfl, rfl⟩

def vPeriodOfSteps (p : Int) : Int × Bool := if 1 ≤ p ∧ p ≤ 12 then ((perT p.toNat : Nat), true) else (0, false)
theorem sPeriodOfSteps_all (p : Int) (W : World) : Calls Try.prog 15 #[.int .i64 p] W (IntB W (vPeriodOfSteps p).1 (vPeriodOfSteps p).2) := by
  unfold vPeriodOfSteps
  by_cases hp : 1 ≤ p ∧ p ≤ 12
  · rw [if_pos hp]
    obtain ⟨k, rfl⟩ : ∃ k : Nat, p = k := ⟨p.toNat, by omega⟩
    rw [Int.toNat_natCast]
    obtain ⟨h0, h1⟩ := hp
    obtain ⟨R, hR⟩ : ∃ R, perT k = R := ⟨_, rfl⟩
    rw [hR]
    have HR := Lib.hid hR
    clear hR
    go_enter Try.func15, Try.ntmps15
    go_wp2_with (first | ((with_reducible refine (saFew_yes _ _ h0 h1).mono ?_); rintro e w' ⟨rfl, rfl⟩))
    refine (saPeriod_any k W (by omega) (by omega)).mono ?_
    rw [HR.out]
    rintro e w1 ⟨rfl, hk1⟩
    have HK := Lib.hid hk1
    clear hk1
    go_wp2
    go_ret2
    exact ⟨rfl, HK.out⟩
  · rw [if_neg hp]
    have h : p < 1 ∨ 12 < p := by omega
    clear hp
    go_enter Try.func15, Try.ntmps15
    go_wp2_with (first | ((with_reducible refine (saFew_no p _ h).mono ?_); rintro e w' ⟨rfl, rfl⟩))
    go_ret2
    exact ⟨rfl, Kp.refl _ _⟩
end Go.Proofs.Ytlkmknigfdgnoaa
namespace Go.Proofs.Ytlkmknigfdgnoaa
open Go.ChangeShapes Go.WideShapes Go.ChangeAt Go.RowKit

theorem saPerson_yes (n : Nat) (u : Int) (w : World) (p0 : 1 ≤ (n : Int)) (p1 : (n : Int) ≤ 12) (u0 : 0 ≤ u) (u1 : u ≤ (n : Int) - 1) : Calls Try.prog 51 #[.int .i64 n, .int .i64 u] w fun e w' => e = .returned (.bool true) ∧ w = w' := by
  have q0 : IntKind.i64.wrap ((n : Int) - 1) = (n : Int) - 1 := IntWalk.i64_in _ (by omega)
  go_enter Try.func51, Try.ntmps51
  go_wp2_with (first | ((with_reducible refine (saFew_yes _ _ p0 p1).mono ?_); rintro e w' ⟨rfl, rfl⟩) | ((with_reducible refine (l1In_yes u _ _ _ u0 u1).mono ?_); rintro e w' ⟨rfl, rfl⟩))
  go_ret
  exact ⟨rfl, rfl⟩
theorem saPerson_no1 (p u : Int) (w : World) (h : p < 1 ∨ 12 < p) : Calls Try.prog 51 #[.int .i64 p, .int .i64 u] w fun e w' => e = .returned (.bool false) ∧ w = w' := by
  go_enter Try.func51, Try.ntmps51
  go_wp2_with (first | ((with_reducible refine (saFew_no p _ h).mono ?_); rintro e w' ⟨rfl, rfl⟩))
  go_ret
  exact ⟨rfl, rfl⟩
theorem saPerson_no2 (n : Nat) (u : Int) (w : World) (p0 : 1 ≤ (n : Int)) (p1 : (n : Int) ≤ 12) (h : u < 0 ∨ (n : Int) - 1 < u) : Calls Try.prog 51 #[.int .i64 n, .int .i64 u] w fun e w' => e = .returned (.bool false) ∧ w = w' := by
  have q0 : IntKind.i64.wrap ((n : Int) - 1) = (n : Int) - 1 := IntWalk.i64_in _ (by omega)
  go_enter Try.func51, Try.ntmps51
  go_wp2_with (first | ((with_reducible refine (saFew_yes _ _ p0 p1).mono ?_); rintro e w' ⟨rfl, rfl⟩) | ((with_reducible refine (l1In_no u _ _ _ h).mono ?_); rintro e w' ⟨rfl, rfl⟩))
  go_ret
  exact ⟨rfl, rfl⟩

/-- who is left for the steps 1, 2 .. -/
def lastsT (n j : Nat) : List Int := (List.range j).map (fun i : Nat => lastN ((i : Int) + 1) (n - 1))
theorem lastsT_length (n j : Nat) : (lastsT n j).length = j := by unfold lastsT; simp
theorem lastsT_snoc (n j : Nat) : lastsT n (j + 1) = lastsT n j ++ [lastN ((j : Int) + 1) (n - 1)] := by unfold lastsT; rw [List.range_succ, List.map_append]; rfl
def vLastTable (p s : Int) : List Int × Bool := if 1 ≤ p ∧ p ≤ 200 ∧ 1 ≤ s ∧ s ≤ 200 then (lastsT p.toNat s.toNat, true) else ([], false)
theorem vLastTable_len (p s : Int) : (vLastTable p s).1.length ≤ 1000000 := by
  unfold vLastTable
  split
  · show (lastsT p.toNat s.toNat).length ≤ 1000000
    rw [lastsT_length]
    omega
  · exact Nat.zero_le _

set_option maxRecDepth 100000 in
set_option maxHeartbeats 1600000 in
theorem sLastTable_yes (n s : Nat) (W : World) (n1 : 1 ≤ n) (n2 : n ≤ 200) (s1 : 1 ≤ s) (s2 : s ≤ 200) : Calls Try.prog 17 #[.int .i64 n, .int .i64 s] W (ListB W (lastsT n s) true) := by
  have p0 : 1 ≤ (n : Int) := by omega
  have p1 : (n : Int) ≤ 200 := by omega
  have q0 : 1 ≤ (s : Int) := by omega
  have q1 : (s : Int) ≤ 200 := by omega
  go_enter Try.func17, Try.ntmps17
  go_wp2_with (first | ((with_reducible refine (saTable_yes _ _ _ p0 p1 q0 q1).mono ?_); rintro e w' ⟨rfl, rfl⟩))
  go_loopw [6, 7] (fun o i wr => ∃ (j : Nat) (r : Value), j ≤ s ∧ i = .int .i64 ((j : Int) + 1) ∧ r = o ∧ Sl wr W.heap.size r (lastsT n j) ∧ Kp Nw W wr) (fun _ i _ => s + 1 - (intOf i).toNat)
  case atStart => exact ⟨0, _, Nat.zero_le _, rfl, rfl, Sl.nil _ _, Kp.refl _ _⟩
  case round =>
    obtain ⟨j, r, hj, rfl, rfl, hr, hk⟩ := hrel
    have HR := Lib.hid hr
    have HK := Lib.hid hk
    have j0 : (0 : Int) ≤ j := Int.natCast_nonneg _
    have hzz : W.heap.size ≤ wr.heap.size := HK.out.size
    have hrl : (lastsT n j).length ≤ 1000 := by rw [lastsT_length]; omega
    clear hr hk
    by_cases hlt : j < s
    · have t1 : (j : Int) + 1 ≤ s := by omega
      have w2 : IntKind.i64.wrap ((j : Int) + 1 + 1) = (j : Int) + 1 + 1 := IntWalk.i64_in _ (by omega)
      have HT := Lib.hid (lastsT_snoc n j)
      obtain ⟨x, hx⟩ : ∃ x, lastN ((j : Int) + 1) (n - 1) = x := ⟨_, rfl⟩
      have HX := Lib.hid hx
      rw [hx] at HT
      clear hx
      go_wp2_with fail
      refine (ciLast_any n ((j : Int) + 1) wr n1 (by omega) (by omega) (by omega)).mono ?_
      rw [HX.out]
      rintro e w' ⟨rfl, rfl⟩
      go_wp2_with (first | (at_builtin; refine wpList_app _ rfl (.tmp 17) (.tmp 21) rfl W.heap.size r _ (lastsT n j) [x] rfl rfl (HR.out.below ((Kp.refl Nw wr).alloc _).below') (Rd.one (g := wr.heap.size) (by simp)) nil_one (by simp; omega) (by simp; omega) ?_))
      intro r' w3 hs3 hk3 hat
      have HS3 := Lib.hid hs3
      have HK3 := Lib.hid ((HK.out.nw (.al _ _)).own (HR.out.below (Kp.al _ _).below') hk3)
      clear hs3 hk3 hat
      go_wp2
      go_roundw
      case rel => exact ⟨j + 1, r', by omega, by go_num, rfl, by rw [HT.out]; exact HS3.out, HK3.out⟩
      case measure => simp [intOf] <;> omega
    · have e : j = s := by omega
      subst e
      have t1 : ¬ (j : Int) + 1 ≤ j := by omega
      go_wp2
      go_ret2
      exact ⟨r, rfl, HR.out, HK.out⟩
theorem sLastTable_all (p s : Int) (W : World) : Calls Try.prog 17 #[.int .i64 p, .int .i64 s] W (ListB W (vLastTable p s).1 (vLastTable p s).2) := by
  unfold vLastTable
  by_cases hp : 1 ≤ p ∧ p ≤ 200
  · by_cases hs : 1 ≤ s ∧ s ≤ 200
    · rw [if_pos ⟨hp.1, hp.2, hs.1, hs.2⟩]
      obtain ⟨n, rfl⟩ : ∃ n : Nat, p = n := ⟨p.toNat, by omega⟩
      obtain ⟨t, rfl⟩ : ∃ t : Nat, s = t := ⟨s.toNat, by omega⟩
      rw [Int.toNat_natCast, Int.toNat_natCast]
      exact sLastTable_yes n t W (by omega) (by omega) (by omega) (by omega)
    · rw [if_neg (fun h => hs ⟨h.2.2.1, h.2.2.2⟩)]
      obtain ⟨p0, p1⟩ := hp
      have h : s < 1 ∨ 200 < s := by omega
      clear hs
      go_enter Try.func17, Try.ntmps17
      go_wp2_with (first | ((with_reducible refine (saTable_no2 p s _ p0 p1 h).mono ?_); rintro e w' ⟨rfl, rfl⟩))
      go_ret2
      exact ⟨.slice none 0 0, rfl, Sl.nil _ _, Kp.refl _ _⟩
  · rw [if_neg (fun h => hp ⟨h.1, h.2.1⟩)]
    have h : p < 1 ∨ 200 < p := by omega
    clear hp
    go_enter Try.func17, Try.ntmps17
    go_wp2_with (first | ((with_reducible refine (saTable_no1 p s _ h).mono ?_); rintro e w' ⟨rfl, rfl⟩))
    go_ret2
    exact ⟨.slice none 0 0, rfl, Sl.nil _ _, Kp.refl _ _⟩

/-- whether a person is left for a step -/
def isLast (n : Nat) (u : Int) (k : Nat) : Bool := decide (lastN (k : Int) (n - 1) = u)
def vStepForLast (p u : Int) : Int × Bool := if 1 ≤ p ∧ p ≤ 12 ∧ 0 ≤ u ∧ u ≤ p - 1 then firstK (isLast p.toNat u) (perT p.toNat) else (0, false)

set_option maxRecDepth 100000 in
set_option maxHeartbeats 1600000 in
theorem sStepForLast_yes (n : Nat) (u : Int) (W : World) (n1 : 1 ≤ n) (n2 : n ≤ 12) (u0 : 0 ≤ u) (u1 : u ≤ (n : Int) - 1) :
    Calls Try.prog 22 #[.int .i64 n, .int .i64 u] W (IntB W (firstK (isLast n u) (perT n)).1 (firstK (isLast n u) (perT n)).2) := by
  have p0 : 1 ≤ (n : Int) := by omega
  have p1 : (n : Int) ≤ 12 := by omega
  obtain ⟨P, hP⟩ : ∃ P, perT n = P := ⟨_, rfl⟩
  have hP2 : P ≤ 27720 := by rw [← hP]; exact perT_le n n2
  rw [hP]
  have HP := Lib.hid hP
  obtain ⟨R, hR⟩ : ∃ R, firstK (isLast n u) P = R := ⟨_, rfl⟩
  rw [hR]
  have HR := Lib.hid hR
  clear hR hP
  go_enter Try.func22, Try.ntmps22
  go_wp2_with (first | ((with_reducible refine (saPerson_yes _ _ _ p0 p1 u0 u1).mono ?_); rintro e w' ⟨rfl, rfl⟩))
  go_loopw [6] (fun i wr => ∃ (j : Nat), j ≤ P ∧ i = .int .i64 ((j : Int) + 1) ∧ (∀ i, i < j → isLast n u (i + 1) = false) ∧ Kp Nw W wr) (fun i _ => P + 1 - (intOf i).toNat)
  case atStart => exact ⟨0, Nat.zero_le _, rfl, fun i hi => by omega, Kp.refl _ _⟩
  case round =>
    obtain ⟨j, hj, rfl, hb, hk⟩ := hrel
    have HB := Lib.hid hb
    have HK := Lib.hid hk
    have j0 : (0 : Int) ≤ j := Int.natCast_nonneg _
    clear hb hk
    by_cases hlt : j < P
    · have t1 : (j : Int) + 1 ≤ P := by omega
      have w2 : IntKind.i64.wrap ((j : Int) + 1 + 1) = (j : Int) + 1 + 1 := IntWalk.i64_in _ (by omega)
      obtain ⟨x, hx⟩ : ∃ x, lastN ((j : Int) + 1) (n - 1) = x := ⟨_, rfl⟩
      have HX := Lib.hid hx
      have HI : Hid (isLast n u (j + 1) = decide (x = u)) := Lib.hid (by unfold isLast; rw [← hx]; rfl)
      clear hx
      go_wp2_with fail
      refine (saPeriod_any n wr n1 n2).mono ?_
      rw [HP.out]
      rintro e w1 ⟨rfl, hk1⟩
      have HK1 := Lib.hid (HK.out.nw hk1)
      clear hk1
      by_cases hxu : x = u
      · go_wp2_with fail
        refine (ciLast_any n ((j : Int) + 1) w1 n1 (by omega) (by omega) (by omega)).mono ?_
        rw [HX.out]
        rintro e w' ⟨rfl, rfl⟩
        have HE : Hid (R = (((j : Int) + 1), true)) := Lib.hid (by rw [← HR.out, firstK_hit _ _ j hlt (by rw [HI.out]; exact decide_eq_true hxu) HB.out]; rfl)
        go_wp2
        go_ret2
        rw [HE.out]
        exact ⟨rfl, HK1.out⟩
      · go_wp2_with fail
        refine (ciLast_any n ((j : Int) + 1) w1 n1 (by omega) (by omega) (by omega)).mono ?_
        rw [HX.out]
        rintro e w' ⟨rfl, rfl⟩
        go_wp2
        go_roundw
        case rel =>
          refine ⟨j + 1, by omega, by go_num, fun i hi => ?_, HK1.out⟩
          by_cases e : i = j
          · subst e
            rw [HI.out]
            exact decide_eq_false hxu
          · exact HB.out i (by omega)
        case measure => simp [intOf] <;> omega
    · have e : j = P := by omega
      subst e
      have t1 : ¬ (j : Int) + 1 ≤ j := by omega
      have HE : Hid (R = (0, false)) := Lib.hid (by rw [← HR.out, firstK_none _ _ HB.out])
      go_wp2_with fail
      refine (saPeriod_any n wr n1 n2).mono ?_
      rw [HP.out]
      rintro e w1 ⟨rfl, hk1⟩
      have HK1 := Lib.hid (HK.out.nw hk1)
      clear hk1
      go_wp2
      go_ret2
      rw [HE.out]
      exact ⟨rfl, HK1.out⟩
theorem sStepForLast_all (p u : Int) (W : World) : Calls Try.prog 22 #[.int .i64 p, .int .i64 u] W (IntB W (vStepForLast p u).1 (vStepForLast p u).2) := by
  unfold vStepForLast
  by_cases hp : 1 ≤ p ∧ p ≤ 12
  · obtain ⟨n, rfl⟩ : ∃ n : Nat, p = n := ⟨p.toNat, by omega⟩
    by_cases hu : 0 ≤ u ∧ u ≤ (n : Int) - 1
    · rw [if_pos ⟨hp.1, hp.2, hu.1, hu.2⟩, Int.toNat_natCast]
      exact sStepForLast_yes n u W (by omega) (by omega) hu.1 hu.2
    · rw [if_neg (fun h => hu ⟨h.2.2.1, h.2.2.2⟩)]
      obtain ⟨p0, p1⟩ := hp
      have h : u < 0 ∨ (n : Int) - 1 < u := by omega
      clear hu
      go_enter Try.func22, Try.ntmps22
      go_wp2_with (first | ((with_reducible refine (saPerson_no2 n u _ p0 p1 h).mono ?_); rintro e w' ⟨rfl, rfl⟩))
      go_ret2
      exact ⟨rfl, Kp.refl _ _⟩
  · rw [if_neg (fun h => hp ⟨h.1, h.2.1⟩)]
    have h : p < 1 ∨ 12 < p := by omega
    clear hp
    go_enter Try.func22, Try.ntmps22
    go_wp2_with (first | ((with_reducible refine (saPerson_no1 p u _ h).mono ?_); rintro e w' ⟨rfl, rfl⟩))
    go_ret2
    exact ⟨rfl, Kp.refl _ _⟩
end Go.Proofs.Ytlkmknigfdgnoaa
namespace Go.Proofs.Ytlkmknigfdgnoaa
open Go.ChangeShapes Go.WideShapes Go.ChangeAt Go.RowKit

set_option maxHeartbeats 400000 in
theorem ciLast_far (n : Nat) (k : Int) (w : World) (h1 : 1 ≤ n) (h2 : n ≤ 1000000) (h3 : 1 ≤ k) (h4 : k ≤ 2000000) :
    Calls Try.prog 48 #[.int .i64 n, .int .i64 k] w fun e w' => e = .returned (.int .i64 (lastN k (n - 1))) ∧ w = w' := by
  go_enter Try.func48, Try.ntmps48
  go_wp2
  go_loop [5, 6] (fun a m => ∃ j : Nat, j + 1 ≤ n ∧ m = .int .i64 ((j : Int) + 2) ∧ a = .int .i64 (lastN k j)) (fun _ m => n + 1 - (intOf m).toNat)
  case atStart => exact ⟨0, by omega, rfl, rfl⟩
  case round =>
    obtain ⟨j, hj, rfl, rfl⟩ := hrel
    have hb1 := (lastN_bd k j).1
    have hb2 := (lastN_bd k j).2
    by_cases hlt : j + 1 < n
    · go_wp2
      go_round
      case rel => exact ⟨j + 1, by omega, by go_num, rfl⟩
      case measure => simp [intOf]; omega
    · go_wp2
      go_ret
      exact ⟨ret_int (by rw [show n - 1 = j by omega]), rfl⟩

/-- the first step behind s, one period at most, for which a person is left -/
def nextK (n : Nat) (u s : Int) (P : Nat) : Int × Bool := if (firstK (fun i : Nat => decide (lastN (s + (i : Int)) (n - 1) = u)) P).2 = true then (s + (firstK (fun i : Nat => decide (lastN (s + (i : Int)) (n - 1) = u)) P).1, true) else (0, false)
def vNextStepFor (p u s : Int) : Int × Bool := if 1 ≤ p ∧ p ≤ 12 ∧ 0 ≤ u ∧ u ≤ p - 1 ∧ 1 ≤ s ∧ s ≤ 1000000 then nextK p.toNat u s (perT p.toNat) else (0, false)

set_option maxRecDepth 100000 in
set_option maxHeartbeats 1600000 in
theorem sNextStepFor_yes (n : Nat) (u s : Int) (W : World) (n1 : 1 ≤ n) (n2 : n ≤ 12) (u0 : 0 ≤ u) (u1 : u ≤ (n : Int) - 1) (s0 : 1 ≤ s) (s1 : s ≤ 1000000) :
    Calls Try.prog 41 #[.int .i64 n, .int .i64 u, .int .i64 s] W (IntB W (nextK n u s (perT n)).1 (nextK n u s (perT n)).2) := by
  have p0 : 1 ≤ (n : Int) := by omega
  have p1 : (n : Int) ≤ 12 := by omega
  obtain ⟨P, hP⟩ : ∃ P, perT n = P := ⟨_, rfl⟩
  have hP2 : P ≤ 27720 := by rw [← hP]; exact perT_le n n2
  rw [hP]
  have HP := Lib.hid hP
  obtain ⟨fn, hfn⟩ : ∃ fn : Nat → Bool, fn = (fun i : Nat => decide (lastN (s + (i : Int)) (n - 1) = u)) := ⟨_, rfl⟩
  have HFN := Lib.hid hfn
  obtain ⟨R, hR⟩ : ∃ R, nextK n u s P = R := ⟨_, rfl⟩
  rw [hR]
  have HR : Hid ((if (firstK fn P).2 = true then (s + (firstK fn P).1, true) else (0, false)) = R) := Lib.hid (by rw [← hR, hfn]; rfl)
  have w1 : IntKind.i64.wrap (s + 1) = s + 1 := IntWalk.i64_in _ (by omega)
  have wP : IntKind.i64.wrap (s + (P : Int)) = s + (P : Int) := IntWalk.i64_in _ (by omega)
  clear hR hP hfn
  go_enter Try.func41, Try.ntmps41
  go_wp2_with (first | ((with_reducible refine (saPerson_yes _ _ _ p0 p1 u0 u1).mono ?_); rintro e w' ⟨rfl, rfl⟩) | ((with_reducible refine (l1In_yes s _ _ _ s0 s1).mono ?_); rintro e w' ⟨rfl, rfl⟩))
  go_loopw [8] (fun i wr => ∃ (j : Nat) (z : Int), j ≤ P ∧ z = s + j + 1 ∧ i = .int .i64 z ∧ (∀ i, i < j → fn (i + 1) = false) ∧ Kp Nw W wr) (fun i _ => (s + P + 1 - intOf i).toNat)
  case atStart => exact ⟨0, _, Nat.zero_le _, by simp, rfl, fun i hi => by omega, Kp.refl _ _⟩
  case round =>
    obtain ⟨j, z, hj, hz, rfl, hb, hk⟩ := hrel
    have HB := Lib.hid hb
    have HK := Lib.hid hk
    have j0 : (0 : Int) ≤ j := Int.natCast_nonneg _
    have w2 : IntKind.i64.wrap (z + 1) = z + 1 := IntWalk.i64_in _ (by omega)
    clear hb hk
    by_cases hlt : j < P
    · have t1 : z ≤ s + (P : Int) := by omega
      obtain ⟨x, hx⟩ : ∃ x, lastN z (n - 1) = x := ⟨_, rfl⟩
      have HX := Lib.hid hx
      have HI : Hid (fn (j + 1) = decide (x = u)) := Lib.hid (by rw [HFN.out, ← hx, hz]; show decide (lastN (s + ((j + 1 : Nat) : Int)) (n - 1) = u) = _; rw [show s + ((j + 1 : Nat) : Int) = s + j + 1 by omega])
      have HZ := Lib.hid hz
      have z1 : 1 ≤ z := by omega
      have z2 : z ≤ 2000000 := by omega
      clear hx hz
      go_wp2_with fail
      refine (saPeriod_any n wr n1 n2).mono ?_
      rw [HP.out]
      rintro e w1 ⟨rfl, hk1⟩
      have HK1 := Lib.hid (HK.out.nw hk1)
      clear hk1
      by_cases hxu : x = u
      · go_wp2_with fail
        refine (ciLast_far n z w1 n1 (by omega) z1 z2).mono ?_
        rw [HX.out]
        rintro e w' ⟨rfl, rfl⟩
        have HE : Hid (R = (z, true)) := Lib.hid (by
          have h := firstK_hit fn P j hlt (by rw [HI.out]; exact decide_eq_true hxu) HB.out
          rw [← HR.out, h, if_pos rfl, HZ.out]
          congr 1
          show s + ((j + 1 : Nat) : Int) = _
          omega)
        go_wp2
        go_ret2
        rw [HE.out]
        exact ⟨rfl, HK1.out⟩
      · go_wp2_with fail
        refine (ciLast_far n z w1 n1 (by omega) z1 z2).mono ?_
        rw [HX.out]
        rintro e w' ⟨rfl, rfl⟩
        go_wp2
        go_roundw
        case rel =>
          refine ⟨j + 1, _, by omega, by have := HZ.out; omega, rfl, fun i hi => ?_, HK1.out⟩
          by_cases e : i = j
          · subst e
            rw [HI.out]
            exact decide_eq_false hxu
          · exact HB.out i (by omega)
        case measure => simp [intOf] <;> omega
    · have e : j = P := by omega
      subst e
      have t1 : ¬ z ≤ s + (j : Int) := by omega
      have HE : Hid (R = (0, false)) := Lib.hid (by rw [← HR.out, firstK_none _ _ HB.out]; rfl)
      clear hz
      go_wp2_with fail
      refine (saPeriod_any n wr n1 n2).mono ?_
      rw [HP.out]
      rintro e w1 ⟨rfl, hk1⟩
      have HK1 := Lib.hid (HK.out.nw hk1)
      clear hk1
      go_wp2
      go_ret2
      rw [HE.out]
      exact ⟨rfl, HK1.out⟩
theorem sNextStepFor_all (p u s : Int) (W : World) : Calls Try.prog 41 #[.int .i64 p, .int .i64 u, .int .i64 s] W (IntB W (vNextStepFor p u s).1 (vNextStepFor p u s).2) := by
  unfold vNextStepFor
  by_cases hp : 1 ≤ p ∧ p ≤ 12
  · obtain ⟨n, rfl⟩ : ∃ n : Nat, p = n := ⟨p.toNat, by omega⟩
    by_cases hu : 0 ≤ u ∧ u ≤ (n : Int) - 1
    · by_cases hs : 1 ≤ s ∧ s ≤ 1000000
      · rw [if_pos ⟨hp.1, hp.2, hu.1, hu.2, hs.1, hs.2⟩, Int.toNat_natCast]
        exact sNextStepFor_yes n u s W (by omega) (by omega) hu.1 hu.2 hs.1 hs.2
      · rw [if_neg (fun h => hs ⟨h.2.2.2.2.1, h.2.2.2.2.2⟩)]
        obtain ⟨p0, p1⟩ := hp
        obtain ⟨u0, u1⟩ := hu
        have h : s < 1 ∨ 1000000 < s := by omega
        clear hs
        go_enter Try.func41, Try.ntmps41
        go_wp2_with (first | ((with_reducible refine (saPerson_yes _ _ _ p0 p1 u0 u1).mono ?_); rintro e w' ⟨rfl, rfl⟩) | ((with_reducible refine (l1In_no s _ _ _ h).mono ?_); rintro e w' ⟨rfl, rfl⟩))
        go_ret2
        exact ⟨rfl, Kp.refl _ _⟩
    · rw [if_neg (fun h => hu ⟨h.2.2.1, h.2.2.2.1⟩)]
      obtain ⟨p0, p1⟩ := hp
      have h : u < 0 ∨ (n : Int) - 1 < u := by omega
      clear hu
      go_enter Try.func41, Try.ntmps41
      go_wp2_with (first | ((with_reducible refine (saPerson_no2 n u _ p0 p1 h).mono ?_); rintro e w' ⟨rfl, rfl⟩))
      go_ret2
      exact ⟨rfl, Kp.refl _ _⟩
  · rw [if_neg (fun h => hp ⟨h.1, h.2.1⟩)]
    have h : p < 1 ∨ 12 < p := by omega
    clear hp
    go_enter Try.func41, Try.ntmps41
    go_wp2_with (first | ((with_reducible refine (saPerson_no1 p u _ h).mono ?_); rintro e w' ⟨rfl, rfl⟩))
    go_ret2
    exact ⟨rfl, Kp.refl _ _⟩
end Go.Proofs.Ytlkmknigfdgnoaa
namespace Go.Proofs.Ytlkmknigfdgnoaa
open Go.ChangeShapes Go.WideShapes Go.ChangeAt Go.RowKit

/-- the steps one period, two .. behind a step -/
def sameT (s : Int) (P c : Nat) : List Int := (List.range c).map (fun i : Nat => s + (((i + 1) * P : Nat) : Int))
theorem sameT_length (s : Int) (P c : Nat) : (sameT s P c).length = c := by unfold sameT; simp
theorem sameT_snoc (s : Int) (P c : Nat) : sameT s P (c + 1) = sameT s P c ++ [s + (((c + 1) * P : Nat) : Int)] := by unfold sameT; rw [List.range_succ, List.map_append]; rfl
def vSameOrderSteps (p s c : Int) : List Int × Bool := if 1 ≤ p ∧ p ≤ 12 ∧ 1 ≤ s ∧ s ≤ 1000000 ∧ 0 ≤ c ∧ c ≤ 20 then (sameT s (perT p.toNat) c.toNat, true) else ([], false)
theorem vSameOrderSteps_len (p s c : Int) : (vSameOrderSteps p s c).1.length ≤ 1000000 := by
  unfold vSameOrderSteps
  split
  · show (sameT s (perT p.toNat) c.toNat).length ≤ 1000000
    rw [sameT_length]
    omega
  · exact Nat.zero_le _

set_option maxRecDepth 100000 in
set_option maxHeartbeats 1600000 in
theorem sSameOrderSteps_yes (n c : Nat) (s : Int) (W : World) (n1 : 1 ≤ n) (n2 : n ≤ 12) (s0 : 1 ≤ s) (s1 : s ≤ 1000000) (hc : c ≤ 20) :
    Calls Try.prog 39 #[.int .i64 n, .int .i64 s, .int .i64 c] W (ListB W (sameT s (perT n) c) true) := by
  have p0 : 1 ≤ (n : Int) := by omega
  have p1 : (n : Int) ≤ 12 := by omega
  have c0 : 0 ≤ (c : Int) := by omega
  have c1 : (c : Int) ≤ 20 := by omega
  obtain ⟨P, hP⟩ : ∃ P, perT n = P := ⟨_, rfl⟩
  have hP2 : P ≤ 27720 := by rw [← hP]; exact perT_le n n2
  rw [hP]
  have HP := Lib.hid hP
  clear hP
  go_enter Try.func39, Try.ntmps39
  go_wp2_with (first | ((with_reducible refine (saFew_yes _ _ p0 p1).mono ?_); rintro e w' ⟨rfl, rfl⟩) | ((with_reducible refine (l1In_yes s _ _ _ s0 s1).mono ?_); rintro e w' ⟨rfl, rfl⟩) | ((with_reducible refine (l1In_yes (c : Int) _ _ _ c0 c1).mono ?_); rintro e w' ⟨rfl, rfl⟩))
  go_loopw [8, 9] (fun o i wr => ∃ (j : Nat) (r : Value), j ≤ c ∧ i = .int .i64 ((j : Int) + 1) ∧ r = o ∧ Sl wr W.heap.size r (sameT s P j) ∧ Kp Nw W wr) (fun _ i _ => c + 1 - (intOf i).toNat)
  case atStart => exact ⟨0, _, Nat.zero_le _, rfl, rfl, Sl.nil _ _, Kp.refl _ _⟩
  case round =>
    obtain ⟨j, r, hj, rfl, rfl, hr, hk⟩ := hrel
    have HR := Lib.hid hr
    have HK := Lib.hid hk
    have j0 : (0 : Int) ≤ j := Int.natCast_nonneg _
    have hrl : (sameT s P j).length ≤ 1000 := by rw [sameT_length]; omega
    clear hr hk
    by_cases hlt : j < c
    · have t1 : (j : Int) + 1 ≤ c := by omega
      have w2 : IntKind.i64.wrap ((j : Int) + 1 + 1) = (j : Int) + 1 + 1 := IntWalk.i64_in _ (by omega)
      obtain ⟨M, hM⟩ : ∃ M, (j + 1) * P = M := ⟨_, rfl⟩
      have hMM : M ≤ 1000000 := by
        rw [← hM]
        exact Nat.le_trans (Nat.mul_le_mul (show j + 1 ≤ 20 by omega) hP2) (by omega)
      have wu : ((j : Int) + 1) * (P : Int) = (M : Int) := by rw [← hM, Int.natCast_mul]; rfl
      have M0 : (0 : Int) ≤ M := Int.natCast_nonneg _
      have M1 : (M : Int) ≤ 1000000 := by omega
      have wa : IntKind.i64.wrap (s + (M : Int)) = s + (M : Int) := IntWalk.i64_in _ (by omega)
      have HT : Hid (sameT s P (j + 1) = sameT s P j ++ [s + (M : Int)]) := Lib.hid (by rw [sameT_snoc, hM])
      clear hM
      go_wp2_with fail
      refine (saPeriod_any n wr n1 n2).mono ?_
      rw [HP.out]
      rintro e w1 ⟨rfl, hk1⟩
      have HR1 := Lib.hid (HR.out.below hk1.below')
      have HK1 := Lib.hid (HK.out.nw hk1)
      have hzz : W.heap.size ≤ w1.heap.size := HK1.out.size
      clear hk1
      go_wp2_with (first | (at_builtin; refine wpList_app _ rfl (.tmp 28) (.tmp 35) rfl W.heap.size r _ (sameT s P j) [s + (M : Int)] rfl rfl (HR1.out.below ((Kp.refl Nw w1).alloc _).below') (Rd.one (g := w1.heap.size) (by simp)) nil_one (by simp; omega) (by simp; omega) ?_))
      intro r' w3 hs3 hk3 hat
      have HS3 := Lib.hid hs3
      have HK3 := Lib.hid ((HK1.out.nw (.al _ _)).own (HR1.out.below (Kp.al _ _).below') hk3)
      clear hs3 hk3 hat
      go_wp2
      go_roundw
      case rel => exact ⟨j + 1, r', by omega, by go_num, rfl, by rw [HT.out]; exact HS3.out, HK3.out⟩
      case measure => simp [intOf] <;> omega
    · have e : j = c := by omega
      subst e
      have t1 : ¬ (j : Int) + 1 ≤ j := by omega
      go_wp2
      go_ret2
      exact ⟨r, rfl, HR.out, HK.out⟩
theorem sSameOrderSteps_all (p s c : Int) (W : World) : Calls Try.prog 39 #[.int .i64 p, .int .i64 s, .int .i64 c] W (ListB W (vSameOrderSteps p s c).1 (vSameOrderSteps p s c).2) := by
  unfold vSameOrderSteps
  by_cases hp : 1 ≤ p ∧ p ≤ 12
  · by_cases hs : 1 ≤ s ∧ s ≤ 1000000
    · obtain ⟨p0, p1⟩ := hp
      obtain ⟨s0, s1⟩ := hs
      by_cases hc : 0 ≤ c ∧ c ≤ 20
      · rw [if_pos ⟨p0, p1, s0, s1, hc.1, hc.2⟩]
        obtain ⟨n, rfl⟩ : ∃ n : Nat, p = n := ⟨p.toNat, by omega⟩
        obtain ⟨t, rfl⟩ : ∃ t : Nat, c = t := ⟨c.toNat, by omega⟩
        rw [Int.toNat_natCast, Int.toNat_natCast]
        exact sSameOrderSteps_yes n t s W (by omega) (by omega) s0 s1 (by omega)
      · rw [if_neg (fun h => hc ⟨h.2.2.2.2.1, h.2.2.2.2.2⟩)]
        have h : c < 0 ∨ 20 < c := by omega
        clear hc
        go_enter Try.func39, Try.ntmps39
        go_wp2_with (first | ((with_reducible refine (saFew_yes _ _ p0 p1).mono ?_); rintro e w' ⟨rfl, rfl⟩) | ((with_reducible refine (l1In_yes s _ _ _ s0 s1).mono ?_); rintro e w' ⟨rfl, rfl⟩) | ((with_reducible refine (l1In_no c _ _ _ h).mono ?_); rintro e w' ⟨rfl, rfl⟩))
        go_ret2
        exact ⟨.slice none 0 0, rfl, Sl.nil _ _, Kp.refl _ _⟩
    · rw [if_neg (fun h => hs ⟨h.2.2.1, h.2.2.2.1⟩)]
      obtain ⟨p0, p1⟩ := hp
      have h : s < 1 ∨ 1000000 < s := by omega
      clear hs
      go_enter Try.func39, Try.ntmps39
      go_wp2_with (first | ((with_reducible refine (saFew_yes _ _ p0 p1).mono ?_); rintro e w' ⟨rfl, rfl⟩) | ((with_reducible refine (l1In_no s _ _ _ h).mono ?_); rintro e w' ⟨rfl, rfl⟩))
      go_ret2
      exact ⟨.slice none 0 0, rfl, Sl.nil _ _, Kp.refl _ _⟩
  · rw [if_neg (fun h => hp ⟨h.1, h.2.1⟩)]
    have h : p < 1 ∨ 12 < p := by omega
    clear hp
    go_enter Try.func39, Try.ntmps39
    go_wp2_with (first | ((with_reducible refine (saFew_no p _ h).mono ?_); rintro e w' ⟨rfl, rfl⟩))
    go_ret2
    exact ⟨.slice none 0 0, rfl, Sl.nil _ _, Kp.refl _ _⟩
end Go.Proofs.Ytlkmknigfdgnoaa
namespace Go.Proofs.Ytlkmknigfdgnoaa
open Go.ChangeShapes Go.WideShapes Go.ChangeAt Go.RowKit

/-- for how many of the steps m + 1 .. P each person is left -/
def cntD (n P m : Nat) : List Int := (List.range n).map (fun i : Nat => ((countK (isLast n (i : Int)) P : Nat) : Int) - ((countK (isLast n (i : Int)) m : Nat) : Int))
theorem cntD_length (n P m : Nat) : (cntD n P m).length = n := by unfold cntD; simp
theorem cntD_get (n P m i : Nat) (h : i < n) : (cntD n P m).getD i 0 = ((countK (isLast n (i : Int)) P : Nat) : Int) - ((countK (isLast n (i : Int)) m : Nat) : Int) := by
  rw [List.getD_eq_getElem?_getD, List.getElem?_eq_getElem (by rw [cntD_length]; exact h)]
  simp [cntD]
theorem cntD_zero (n P : Nat) : cntD n P P = List.replicate n 0 := by
  apply List.ext_getElem
  · rw [cntD_length, List.length_replicate]
  · intro i h1 h2
    rw [cntD_length] at h1
    simp [cntD]
theorem cntD_set (n P m x : Nat) (hx : x < n) (e : lastN ((m : Int) + 1) (n - 1) = (x : Int)) : (cntD n P (m + 1)).set x ((cntD n P (m + 1)).getD x 0 + 1) = cntD n P m := by
  apply List.ext_getElem
  · rw [List.length_set, cntD_length, cntD_length]
  · intro i h1 h2
    rw [cntD_length] at h2
    have hil : ∀ i : Nat, isLast n (i : Int) (m + 1) = decide (x = i) := fun i => by
      unfold isLast
      rw [show ((m + 1 : Nat) : Int) = (m : Int) + 1 by omega, e]
      by_cases h : x = i
      · rw [decide_eq_true h, decide_eq_true (by omega)]
      · rw [decide_eq_false h, decide_eq_false (by omega)]
    have hm : (cntD n P m)[i]'(by rw [cntD_length]; exact h2) = ((countK (isLast n (i : Int)) P : Nat) : Int) - ((countK (isLast n (i : Int)) m : Nat) : Int) := by simp [cntD]
    have hm1 : (cntD n P (m + 1))[i]'(by rw [cntD_length]; exact h2) = ((countK (isLast n (i : Int)) P : Nat) : Int) - ((countK (isLast n (i : Int)) (m + 1) : Nat) : Int) := by simp [cntD]
    rw [List.getElem_set, hm]
    by_cases h : x = i
    · subst h
      rw [if_pos rfl, cntD_get n P (m + 1) x hx, countK, hil x, if_pos (decide_eq_true rfl)]
      omega
    · rw [if_neg h, hm1, countK, hil i, if_neg (by simp [h])]
      rfl

set_option maxRecDepth 100000 in
set_option maxHeartbeats 1600000 in
theorem saCounts_any (n : Nat) (W : World) (n1 : 1 ≤ n) (n2 : n ≤ 12) : Calls Try.prog 52 #[.int .i64 n] W (Makes W (cntD n (perT n) 0)) := by
  obtain ⟨i0, hi0, hz0, hz1, hz2⟩ := info_parts intInfo
  have n0 : (0 : Int) ≤ n := Int.natCast_nonneg _
  obtain ⟨P, hP⟩ : ∃ P, perT n = P := ⟨_, rfl⟩
  have hP2 : P ≤ 27720 := by rw [← hP]; exact perT_le n n2
  rw [hP]
  have HP := Lib.hid hP
  clear hP
  go_enter Try.func52, Try.ntmps52
  go_wp2_with (first | (at_make; refine wpList_make_full _ rfl _ _ 25 rfl W.heap.size 3 i0 (.int .i64 0) 1 Try.underlying25 hi0 hz0 hz1 _ _ _ _ n rfl rfl rfl rfl (by rw [hz2]; omega) (by unfold maxLen; omega) (Nat.le_refl _) ?_))
  intro w3 hown hgrow
  have hk3 : Kp Nw W w3 := (Kp.refl Nw _).grown hgrow (fun g hg => by cases hg)
  have HS := Lib.hid (Sl.zeros hown)
  have HK3 := Lib.hid hk3
  obtain ⟨gm, hgm⟩ : ∃ gm, gm = W.heap.size := ⟨_, rfl⟩
  have hl3 : gm < w3.heap.size := by rw [hgm]; exact (World.ownsRow.lt hown _ rfl).2
  rw [← hgm] at HS ⊢
  have HGM := Lib.hid hgm
  clear hown hgrow hk3 hgm
  go_wp2_with fail
  refine (saPeriod_any n w3 n1 n2).mono ?_
  rw [HP.out]
  rintro e w4 ⟨rfl, hk4⟩
  have HS4 : Hid (SlAt w4 gm gm n n (cntD n P P)) := Lib.hid (by rw [cntD_zero]; exact HS.out.kq hk4 (fun h => h))
  have HK4 := Lib.hid (HK3.out.nw hk4)
  have hl4 : gm < w4.heap.size := by have := hk4.size; omega
  clear hk4 HS
  go_wp2
  go_loopw [4] (fun i wx => ∃ t : Nat, t ≤ P ∧ i = .int .i64 t ∧ SlAt wx gm gm n n (cntD n P t) ∧ Kp (fun b => b = gm) w4 wx) (fun i _ => (intOf i).toNat)
  case atStart => exact ⟨P, Nat.le_refl _, rfl, HS4.out, Kp.refl _ _⟩
  case round =>
    obtain ⟨t, ht, rfl, hs, hk⟩ := hrel
    have HSX := Lib.hid hs
    have HKX := Lib.hid hk
    have t0 : (0 : Int) ≤ t := Int.natCast_nonneg _
    by_cases htl : 0 < t
    · obtain ⟨m, rfl⟩ : ∃ m, t = m + 1 := ⟨t - 1, by omega⟩
      have t1 : (0 : Int) < ((m + 1 : Nat) : Int) := by omega
      have w2 : IntKind.i64.wrap (((m + 1 : Nat) : Int) - 1) = (m : Int) := by rw [IntWalk.i64_in _ (by omega)]; omega
      obtain ⟨b1, b2⟩ := lastN_bd ((m : Int) + 1) (n - 1)
      obtain ⟨q, hq⟩ : ∃ q : Nat, lastN ((m : Int) + 1) (n - 1) = q := ⟨(lastN ((m : Int) + 1) (n - 1)).toNat, by omega⟩
      have ql : q < n := by omega
      have q0 : (0 : Int) ≤ q := Int.natCast_nonneg _
      have q1 : (q : Int) < n := by omega
      have HSET := Lib.hid (cntD_set n P m q ql hq)
      have HQ := Lib.hid hq
      have cs := hs.cell q ql
      have fs := hs.frozen q
      obtain ⟨v, hv⟩ : ∃ v, (cntD n P (m + 1)).getD q 0 = v := ⟨_, rfl⟩
      have hvb : -27720 ≤ v ∧ v ≤ 27720 := by
        rw [← hv, cntD_get n P (m + 1) q ql]
        have c1 := countK_le (isLast n (q : Int)) P
        have c2 := countK_le (isLast n (q : Int)) (m + 1)
        omega
      rw [hv] at cs HSET
      have HQ2 : Hid (lastN ((m + 1 : Nat) : Int) (n - 1) = (q : Int)) := Lib.hid (by rw [show ((m + 1 : Nat) : Int) = (m : Int) + 1 by omega]; exact hq)
      have wv : IntKind.i64.wrap (v + 1) = v + 1 := IntWalk.i64_in _ (by omega)
      clear hs hk hq b1 b2 hv HQ
      go_wp2_with fail
      refine (ciLast_any n ((m + 1 : Nat) : Int) _ n1 (by omega) (by omega) (by omega)).mono ?_
      rw [HQ2.out]
      rintro e w' ⟨rfl, rfl⟩
      go_wp2
      go_roundw
      case rel => exact ⟨m, by omega, by go_num, by rw [← HSET.out]; exact HSX.out.store q (v + 1), HKX.out.setCell (.inl rfl) _⟩
      case measure => simp [intOf] <;> omega
    · have e : t = 0 := by omega
      subst e
      have t1 : ¬ (0 : Int) < ((0 : Nat) : Int) := by omega
      have HSF := Lib.hid (Sl.from hs.sl (show W.heap.size ≤ gm by have := HGM.out; omega))
      have HKF := Lib.hid (HK4.out.after hk (fun g hg h => by have h9 : g = gm := h; have := HGM.out; omega))
      clear hs hk
      go_wp2
      go_ret
      exact ⟨.slice (some ⟨gm, 0, none⟩) n n, rfl, HSF.out, HKF.out⟩

def vCountForLast (p u : Int) : Int × Bool := if 1 ≤ p ∧ p ≤ 12 ∧ 0 ≤ u ∧ u ≤ p - 1 then ((countK (isLast p.toNat u) (perT p.toNat) : Nat), true) else (0, false)
set_option maxRecDepth 100000 in
set_option maxHeartbeats 1600000 in
theorem sCountForLast_yes (n : Nat) (u : Int) (W : World) (n1 : 1 ≤ n) (n2 : n ≤ 12) (u0 : 0 ≤ u) (u1 : u ≤ (n : Int) - 1) :
    Calls Try.prog 24 #[.int .i64 n, .int .i64 u] W (IntB W ((countK (isLast n u) (perT n) : Nat) : Int) true) := by
  have p0 : 1 ≤ (n : Int) := by omega
  have p1 : (n : Int) ≤ 12 := by omega
  obtain ⟨q, rfl⟩ : ∃ q : Nat, u = q := ⟨u.toNat, by omega⟩
  have ql : q < n := by omega
  have q1 : (q : Int) < n := by omega
  obtain ⟨xs, hxs⟩ : ∃ xs, cntD n (perT n) 0 = xs := ⟨_, rfl⟩
  have hxl : xs.length = n := by rw [← hxs, cntD_length]
  obtain ⟨y, hy⟩ : ∃ y, xs.getD q 0 = y := ⟨_, rfl⟩
  have HY : Hid (((countK (isLast n (q : Int)) (perT n) : Nat) : Int) = y) := Lib.hid (by rw [← hy, ← hxs, cntD_get n (perT n) 0 q ql]; simp [countK])
  have HXS := Lib.hid hxs
  have HXL := Lib.hid hxl
  have HYY := Lib.hid hy
  clear hxs hxl hy
  go_enter Try.func24, Try.ntmps24
  go_wp2_with (first | ((with_reducible refine (saPerson_yes _ _ _ p0 p1 u0 u1).mono ?_); rintro e w' ⟨rfl, rfl⟩))
  refine (saCounts_any n W n1 n2).mono ?_
  rw [HXS.out]
  rintro e w1 ⟨v1, rfl, hs1, hk1⟩
  obtain ⟨g, cap, rfl, hsa, hc1, hc2, _, _⟩ := hs1.at_ (by rw [HXL.out]; omega)
  rw [HXL.out] at hsa hc1 ⊢
  have c := hsa.cell q ql
  rw [HYY.out] at c
  have HK1 := Lib.hid hk1
  clear hs1 hk1 hsa
  go_wp2
  go_ret2
  rw [HY.out]
  exact ⟨rfl, HK1.out⟩
theorem sCountForLast_all (p u : Int) (W : World) : Calls Try.prog 24 #[.int .i64 p, .int .i64 u] W (IntB W (vCountForLast p u).1 (vCountForLast p u).2) := by
  unfold vCountForLast
  by_cases hp : 1 ≤ p ∧ p ≤ 12
  · obtain ⟨n, rfl⟩ : ∃ n : Nat, p = n := ⟨p.toNat, by omega⟩
    by_cases hu : 0 ≤ u ∧ u ≤ (n : Int) - 1
    · rw [if_pos ⟨hp.1, hp.2, hu.1, hu.2⟩, Int.toNat_natCast]
      exact sCountForLast_yes n u W (by omega) (by omega) hu.1 hu.2
    · rw [if_neg (fun h => hu ⟨h.2.2.1, h.2.2.2⟩)]
      obtain ⟨p0, p1⟩ := hp
      have h : u < 0 ∨ (n : Int) - 1 < u := by omega
      clear hu
      go_enter Try.func24, Try.ntmps24
      go_wp2_with (first | ((with_reducible refine (saPerson_no2 n u _ p0 p1 h).mono ?_); rintro e w' ⟨rfl, rfl⟩))
      go_ret2
      exact ⟨rfl, Kp.refl _ _⟩
  · rw [if_neg (fun h => hp ⟨h.1, h.2.1⟩)]
    have h : p < 1 ∨ 12 < p := by omega
    clear hp
    go_enter Try.func24, Try.ntmps24
    go_wp2_with (first | ((with_reducible refine (saPerson_no1 p u _ h).mono ?_); rintro e w' ⟨rfl, rfl⟩))
    go_ret2
    exact ⟨rfl, Kp.refl _ _⟩
end Go.Proofs.Ytlkmknigfdgnoaa
namespace Go.Proofs.Ytlkmknigfdgnoaa
open Go.ChangeShapes Go.WideShapes Go.ChangeAt Go.RowKit

/-- those of the first j people who are left for some step -/
def canT (n j : Nat) : List Int := ((List.range j).filter (fun i : Nat => decide (0 < countK (isLast n (i : Int)) (perT n)))).map (fun i : Nat => (i : Int))
theorem canT_yes (n j : Nat) (h : 0 < countK (isLast n (j : Int)) (perT n)) : canT n (j + 1) = canT n j ++ [(j : Int)] := by
  unfold canT
  rw [List.range_succ, List.filter_append, List.map_append, List.filter_cons_of_pos (by simpa using h)]
  rfl
theorem canT_no (n j : Nat) (h : ¬ 0 < countK (isLast n (j : Int)) (perT n)) : canT n (j + 1) = canT n j := by
  unfold canT
  rw [List.range_succ, List.filter_append, List.map_append, List.filter_cons_of_neg (by simpa using h)]
  simp
theorem canT_le (n : Nat) : ∀ j, (canT n j).length ≤ j
  | 0 => Nat.le_refl 0
  | j + 1 => by
    have := canT_le n j
    by_cases h : 0 < countK (isLast n (j : Int)) (perT n)
    · rw [canT_yes n j h, List.length_append]
      simp
      exact this
    · rw [canT_no n j h]
      omega
def vCanBeLeft (p : Int) : List Int × Bool := if 1 ≤ p ∧ p ≤ 12 then (canT p.toNat p.toNat, true) else ([], false)
theorem vCanBeLeft_len (p : Int) : (vCanBeLeft p).1.length ≤ 1000000 := by
  unfold vCanBeLeft
  split
  · show (canT p.toNat p.toNat).length ≤ 1000000
    have := canT_le p.toNat p.toNat
    omega
  · exact Nat.zero_le _

set_option maxRecDepth 100000 in
set_option maxHeartbeats 1600000 in
theorem sCanBeLeft_yes (n : Nat) (W : World) (n1 : 1 ≤ n) (n2 : n ≤ 12) : Calls Try.prog 26 #[.int .i64 n] W (ListB W (canT n n) true) := by
  have p0 : 1 ≤ (n : Int) := by omega
  have p1 : (n : Int) ≤ 12 := by omega
  obtain ⟨xs, hxs⟩ : ∃ xs, cntD n (perT n) 0 = xs := ⟨_, rfl⟩
  have HXL : Hid (xs.length = n) := Lib.hid (by rw [← hxs, cntD_length])
  have HXG : Hid (∀ j, j < n → xs.getD j 0 = ((countK (isLast n (j : Int)) (perT n) : Nat) : Int)) := Lib.hid (fun j hj => by rw [← hxs, cntD_get n (perT n) 0 j hj]; simp [countK])
  have HXS := Lib.hid hxs
  clear hxs
  go_enter Try.func26, Try.ntmps26
  go_wp2_with (first | ((with_reducible refine (saFew_yes _ _ p0 p1).mono ?_); rintro e w' ⟨rfl, rfl⟩))
  refine (saCounts_any n W n1 n2).mono ?_
  rw [HXS.out]
  rintro e w1 ⟨v1, rfl, hs1, hk1⟩
  obtain ⟨g, cap, rfl, hsa, hc1, hc2, _, _⟩ := hs1.at_ (by rw [HXL.out]; omega)
  rw [HXL.out] at hsa hc1 ⊢
  have HSA := Lib.hid hsa
  have HK1 := Lib.hid hk1
  clear hs1 hk1 hsa
  go_wp2
  go_loopw [4, 13] (fun o i wr => ∃ (j : Nat) (r : Value), j ≤ n ∧ i = .int .i64 j ∧ r = o ∧ Sl wr w1.heap.size r (canT n j) ∧ Kp Nw w1 wr) (fun _ i _ => n - (intOf i).toNat)
  case atStart => exact ⟨0, _, Nat.zero_le _, rfl, rfl, Sl.nil _ _, Kp.refl _ _⟩
  case round =>
    obtain ⟨j, r, hj, rfl, rfl, hr, hk⟩ := hrel
    have HR := Lib.hid hr
    have HK := Lib.hid hk
    have j0 : (0 : Int) ≤ j := Int.natCast_nonneg _
    have hzz : w1.heap.size ≤ wr.heap.size := HK.out.size
    have hrl : (canT n j).length ≤ 1000 := by have := canT_le n j; omega
    clear hr
    by_cases hlt : j < n
    · have t1 : (j : Int) < n := by omega
      have w2 : IntKind.i64.wrap ((j : Int) + 1) = (j : Int) + 1 := IntWalk.i64_in _ (by omega)
      have c0 := (HSA.out.kq hk (fun h => h)).cell j hlt
      rw [HXG.out j hlt] at c0
      obtain ⟨k, hkk⟩ : ∃ k, countK (isLast n (j : Int)) (perT n) = k := ⟨_, rfl⟩
      rw [hkk] at c0
      clear hk
      by_cases hp : 0 < k
      · have HT := Lib.hid (canT_yes n j (by rw [hkk]; exact hp))
        have y1 : (0 : Int) < k := by omega
        clear hkk
        go_wp2_with (first | (at_builtin; refine wpList_app _ rfl (.tmp 20) (.tmp 22) rfl w1.heap.size r _ (canT n j) [(j : Int)] rfl rfl (HR.out.below ((Kp.refl Nw wr).alloc _).below') (Rd.one (g := wr.heap.size) (by simp)) nil_one (by simp; omega) (by simp; omega) ?_))
        intro r' w3 hs3 hk3 hat
        have HS3 := Lib.hid hs3
        have HK3 := Lib.hid ((HK.out.nw (.al _ _)).own (HR.out.below (Kp.al _ _).below') hk3)
        clear hs3 hk3 hat
        go_wp2
        go_roundw
        case rel => exact ⟨j + 1, r', by omega, by go_num, rfl, by rw [HT.out]; exact HS3.out, HK3.out⟩
        case measure => simp [intOf] <;> omega
      · have HT := Lib.hid (canT_no n j (by rw [hkk]; exact hp))
        have y1 : ¬ (0 : Int) < k := by omega
        clear hkk
        go_wp2
        go_roundw
        case rel => exact ⟨j + 1, r, by omega, by go_num, rfl, by rw [HT.out]; exact HR.out, HK.out⟩
        case measure => simp [intOf] <;> omega
    · have e : j = n := by omega
      subst e
      have HRF := Lib.hid (Sl.from HR.out HK1.out.size)
      have HKF := Lib.hid (HK1.out.nw HK.out)
      clear hk
      go_wp2
      go_ret2
      exact ⟨r, rfl, HRF.out, HKF.out⟩
theorem sCanBeLeft_all (p : Int) (W : World) : Calls Try.prog 26 #[.int .i64 p] W (ListB W (vCanBeLeft p).1 (vCanBeLeft p).2) := by
  unfold vCanBeLeft
  by_cases hp : 1 ≤ p ∧ p ≤ 12
  · rw [if_pos hp]
    obtain ⟨n, rfl⟩ : ∃ n : Nat, p = n := ⟨p.toNat, by omega⟩
    rw [Int.toNat_natCast]
    exact sCanBeLeft_yes n W (by omega) (by omega)
  · rw [if_neg hp]
    have h : p < 1 ∨ 12 < p := by omega
    clear hp
    go_enter Try.func26, Try.ntmps26
    go_wp2_with (first | ((with_reducible refine (saFew_no p _ h).mono ?_); rintro e w' ⟨rfl, rfl⟩))
    go_ret2
    exact ⟨.slice none 0 0, rfl, Sl.nil _ _, Kp.refl _ _⟩
end Go.Proofs.Ytlkmknigfdgnoaa
namespace Go.Proofs.Ytlkmknigfdgnoaa
open Go.ChangeShapes Go.WideShapes Go.ChangeAt Go.RowKit

/-- whether by a step the next m to go are all of the second half -/
def frB (f k : Nat) : Nat → Nat → Bool
  | 0, _ => true
  | m + 1, a => if (a + k - 1) % (f + m + 1) < f then false else frB f k m ((a + k - 1) % (f + m + 1))
def friendsB (f k : Nat) : Bool := frB f k f 0
/-- a step that does for so many friends -/
def wit (f : Nat) : Nat := [1, 2, 7, 5, 30, 169, 441, 1872, 7632].getD f 1
theorem wit_does (f : Nat) (h1 : 1 ≤ f) (h2 : f ≤ 8) : friendsB f (wit f) = true ∧ 1 ≤ wit f ∧ wit f ≤ 7632 := by
  have : ∀ i : Fin 9, 1 ≤ i.val → friendsB i.val (wit i.val) = true ∧ 1 ≤ wit i.val ∧ wit i.val ≤ 7632 := by decide +kernel
  exact this ⟨f, by omega⟩ h1

set_option maxRecDepth 100000 in
set_option maxHeartbeats 1600000 in
theorem saFriends_any (f k : Nat) (W : World) (f1 : 1 ≤ f) (f2 : f ≤ 8) (k1 : 1 ≤ k) (k2 : k ≤ 100000) : Calls Try.prog 62 #[.int .i64 f, .int .i64 k] W fun e w' => e = .returned (.bool (friendsB f k)) ∧ W = w' := by
  obtain ⟨R, hR⟩ : ∃ R, friendsB f k = R := ⟨_, rfl⟩
  have HR : Hid (frB f k f 0 = R) := Lib.hid hR
  rw [hR]
  have f0 : (0 : Int) ≤ f := Int.natCast_nonneg _
  have w2f : IntKind.i64.wrap (2 * (f : Int)) = ((f + f : Nat) : Int) := by rw [IntWalk.i64_in _ (by omega)]; omega
  clear hR
  go_enter Try.func62, Try.ntmps62
  go_wp2
  go_loop [5, 6] (fun at_ l => ∃ (m a L : Nat), m ≤ f ∧ a ≤ 1000 ∧ L = f + m ∧ l = .int .i64 L ∧ at_ = .int .i64 a ∧ frB f k m a = R) (fun _ l => (intOf l).toNat)
  case atStart => exact ⟨f, 0, _, Nat.le_refl _, by omega, rfl, rfl, rfl, HR.out⟩
  case round =>
    obtain ⟨m, a, L, hm, ha, hL, rfl, rfl, hfr⟩ := hrel
    have HF := Lib.hid hfr
    have a0 : (0 : Int) ≤ a := Int.natCast_nonneg _
    have L0 : (0 : Int) ≤ L := Int.natCast_nonneg _
    have k0 : (0 : Int) ≤ k := Int.natCast_nonneg _
    clear hfr
    by_cases hp : f < L
    · obtain ⟨m', rfl⟩ : ∃ m', m = m' + 1 := ⟨m - 1, by omega⟩
      have t1 : (f : Int) < L := by omega
      have z2 : ¬ (L : Int) = 0 := by omega
      obtain ⟨b, hb⟩ : ∃ b, (a + k - 1) % (f + m' + 1) = b := ⟨_, rfl⟩
      have hbl : b < f + m' + 1 := by rw [← hb]; exact Nat.mod_lt _ (by omega)
      have b0 : (0 : Int) ≤ b := Int.natCast_nonneg _
      have wb : ((a : Int) + k - 1) % (L : Int) = (b : Int) := by
        rw [show (a : Int) + k - 1 = ((a + k - 1 : Nat) : Int) by omega, ← Int.natCast_emod, hL, ← hb]
        rfl
      have L1 : (1 : Int) ≤ L := by omega
      have L2 : (L : Int) ≤ 16 := by omega
      have b1 : b ≤ 16 := by omega
      have HLE := Lib.hid hL
      clear hL
      have w1 : IntKind.i64.wrap ((L : Int) - 1) = ((L - 1 : Nat) : Int) := by rw [IntWalk.i64_in _ (by omega)]; omega
      by_cases hlo : b < f
      · have y1 : (b : Int) < f := by omega
        have HE : Hid (R = false) := Lib.hid (by rw [← HF.out, frB, hb, if_pos hlo])
        go_wp2
        go_ret
        rw [HE.out]
        exact ⟨rfl, rfl⟩
      · have y1 : ¬ (b : Int) < f := by omega
        have HE : Hid (frB f k m' b = R) := Lib.hid (by rw [← HF.out, frB, hb, if_neg hlo])
        go_wp2
        go_round
        case rel => exact ⟨m', b, L - 1, by omega, by omega, by have := HLE.out; omega, by go_num, by rw [wb], HE.out⟩
        case measure => simp [intOf]; omega
    · have e : m = 0 := by omega
      subst e
      have t1 : ¬ (f : Int) < L := by omega
      have HE : Hid (R = true) := Lib.hid (by rw [← HF.out, frB])
      go_wp2
      go_ret
      rw [HE.out]
      exact ⟨rfl, rfl⟩

def vStepForFriends (f : Int) : Int × Bool := if 1 ≤ f ∧ f ≤ 8 then firstK (friendsB f.toNat) (wit f.toNat) else (0, false)
set_option maxRecDepth 100000 in
set_option maxHeartbeats 1600000 in
theorem sStepForFriends_yes (f : Nat) (W : World) (f1 : 1 ≤ f) (f2 : f ≤ 8) : Calls Try.prog 35 #[.int .i64 f] W (IntB W (firstK (friendsB f) (wit f)).1 (firstK (friendsB f) (wit f)).2) := by
  have p0 : 1 ≤ (f : Int) := by omega
  have p1 : (f : Int) ≤ 8 := by omega
  obtain ⟨d1, d2, d3⟩ := wit_does f f1 f2
  obtain ⟨P, hP⟩ : ∃ P, wit f = P := ⟨_, rfl⟩
  rw [hP] at d1 d2 d3 ⊢
  have HD := Lib.hid d1
  obtain ⟨R, hR⟩ : ∃ R, firstK (friendsB f) P = R := ⟨_, rfl⟩
  rw [hR]
  have HR := Lib.hid hR
  clear hR hP d1
  go_enter Try.func35, Try.ntmps35
  go_wp2_with (first | ((with_reducible refine (l1In_yes (f : Int) _ _ _ p0 p1).mono ?_); rintro e w' ⟨rfl, rfl⟩))
  go_loopw [4] (fun i wr => ∃ (j : Nat), j < P ∧ i = .int .i64 ((j + 1 : Nat) : Int) ∧ (∀ i, i < j → friendsB f (i + 1) = false) ∧ wr = W) (fun i _ => P + 1 - (intOf i).toNat)
  case atStart => exact ⟨0, by omega, rfl, fun i hi => by omega, rfl⟩
  case round =>
    obtain ⟨j, hj, rfl, hb, rfl⟩ := hrel
    have HB := Lib.hid hb
    have w2 : IntKind.i64.wrap (((j + 1 : Nat) : Int) + 1) = ((j + 1 + 1 : Nat) : Int) := by rw [IntWalk.i64_in _ (by omega)]; omega
    clear hb
    obtain ⟨t, ht⟩ : ∃ t, friendsB f (j + 1) = t := ⟨_, rfl⟩
    have HT := Lib.hid ht
    clear ht
    go_wp2_with fail
    refine (saFriends_any f (j + 1) _ f1 f2 (by omega) (by omega)).mono ?_
    rw [HT.out]
    rintro e w' ⟨rfl, rfl⟩
    cases t
    · have hne : j + 1 < P := by
        apply Classical.byContradiction
        intro h
        have e : j + 1 = P := by omega
        have h1 := HD.out
        rw [← e, HT.out] at h1
        cases h1
      go_wp2
      go_roundw
      case rel =>
        refine ⟨j + 1, hne, by go_num, fun i hi => ?_, by first | rfl | trivial⟩
        by_cases e : i = j
        · subst e
          exact HT.out
        · exact HB.out i (by omega)
      case measure => simp [intOf] <;> omega
    · have HE : Hid (R = (((j + 1 : Nat) : Int), true)) := Lib.hid (by rw [← HR.out, firstK_hit _ _ j hj HT.out HB.out])
      go_wp2
      go_ret2
      rw [HE.out]
      exact ⟨rfl, Kp.refl _ _⟩
theorem sStepForFriends_all (f : Int) (W : World) : Calls Try.prog 35 #[.int .i64 f] W (IntB W (vStepForFriends f).1 (vStepForFriends f).2) := by
  unfold vStepForFriends
  by_cases hp : 1 ≤ f ∧ f ≤ 8
  · rw [if_pos hp]
    obtain ⟨n, rfl⟩ : ∃ n : Nat, f = n := ⟨f.toNat, by omega⟩
    rw [Int.toNat_natCast]
    exact sStepForFriends_yes n W (by omega) (by omega)
  · rw [if_neg hp]
    have h : f < 1 ∨ 8 < f := by omega
    clear hp
    go_enter Try.func35, Try.ntmps35
    go_wp2_with (first | ((with_reducible refine (l1In_no f _ _ _ h).mono ?_); rintro e w' ⟨rfl, rfl⟩))
    go_ret2
    exact ⟨rfl, Kp.refl _ _⟩
end Go.Proofs.Ytlkmknigfdgnoaa
