/- The texts OrG, OrM, LwO7, OrS, OrT, OrU, OrW, OrX, OrY, OrZ, LwO7S, OrV, OrQ, Laws7, as one. -/
import Derived.Test.YtpdnliljpjoejaaDeck
import Derived.Test.YtpdnliljpjoejaaLaws
import Derived.Test.YtpdnliljpjoejaaAt
import Derived.Test.YtpdnliljpjoejaaBoth
import Derived.Test.YtpdnliljpjoejaaSave
import Derived.Test.YtpdnliljpjoejaaSS
namespace Go.Proofs.Ytpdnliljpjoejaa
open Go.ChangeShapes Go.WideShapes Go.ChangeAt Go.RowKit
/-- is a list an order? -/
def ordB (xs : List Int) : Bool := decide (1 ≤ xs.length ∧ xs.length ≤ 12) && decide (xs.all (okR 0 ((xs.length : Int) - 1)) = true ∧ xs.Nodup)
theorem ordB_parts {xs : List Int} (h : ordB xs = true) : 1 ≤ xs.length ∧ xs.length ≤ 12 ∧ xs.all (okR 0 ((xs.length : Int) - 1)) = true ∧ xs.Nodup := by
  unfold ordB at h
  rw [Bool.and_eq_true, decide_eq_true_eq, decide_eq_true_eq] at h
  exact ⟨h.1.1, h.1.2, h.2.1, h.2.2⟩
theorem ordB_off {xs : List Int} (h : ¬ (1 ≤ xs.length ∧ xs.length ≤ 12)) : ordB xs = false := by
  unfold ordB; rw [decide_eq_false h]; rfl
theorem ordB_on {xs : List Int} (h : 1 ≤ xs.length ∧ xs.length ≤ 12) : ordB xs = decide (xs.all (okR 0 ((xs.length : Int) - 1)) = true ∧ xs.Nodup) := by
  unfold ordB; rw [decide_eq_true h]; rfl

end Go.Proofs.Ytpdnliljpjoejaa
namespace Go.Proofs.Ytpdnliljpjoejaa

theorem fndD_split (x : Int) : ∀ (l : List Int) (j : Nat), x ∈ l → ∃ a : Nat, fndD x l j = ((j + a : Nat) : Int) ∧ a < l.length ∧ l.getD a 0 = x
  | [], _, h => by cases h
  | y :: r, j, h => by
    unfold fndD
    by_cases e : y = x
    · exact ⟨0, by rw [if_pos e]; rfl, by simp, by simpa using e⟩
    · rw [if_neg e]
      obtain ⟨a, h1, h2, h3⟩ := fndD_split x r (j + 1) (by
        rcases List.mem_cons.1 h with h | h
        · exact absurd h.symm e
        · exact h)
      exact ⟨a + 1, by rw [h1]; congr 1; omega, by simpa using h2, by simpa using h3⟩
/-- where one stands among those who are left -/
def atL (x : Int) (l : List Int) : Nat := (fndD x l 0).toNat
theorem atL_is (x : Int) (l : List Int) (h : x ∈ l) : fndD x l 0 = (atL x l : Int) ∧ atL x l < l.length ∧ l.getD (atL x l) 0 = x := by
  obtain ⟨a, h1, h2, h3⟩ := fndD_split x l 0 h
  rw [Nat.zero_add] at h1
  have e : atL x l = a := by unfold atL; rw [h1]; rfl
  rw [e]
  exact ⟨h1, h2, h3⟩
/-- those who are left behind the one at an index, counted on from there -/
def cutAt (l : List Int) (a : Nat) : List Int := l.drop (a + 1) ++ l.take a
theorem cutAt_len (l : List Int) (a : Nat) (h : a < l.length) : (cutAt l a).length = l.length - 1 := by unfold cutAt; simp; omega
theorem cutAt_perm (l : List Int) (a : Nat) (h : a < l.length) : (l.getD a 0 :: cutAt l a).Perm l := by
  have e : l = l.take a ++ l[a] :: l.drop (a + 1) := by rw [← List.drop_eq_getElem_cons h, List.take_append_drop]
  have ew : l.getD a 0 = l[a] := by simp [List.getD, h]
  have : (l.getD a 0 :: cutAt l a).Perm (l.take a ++ l[a] :: l.drop (a + 1)) := by
    rw [ew]
    unfold cutAt
    exact (List.Perm.cons _ List.perm_append_comm).trans List.perm_middle.symm
  exact this.trans (by rw [← e])
/-- who is left behind the first j turns of an order, and the remainders of these -/
def remL (xs l0 : List Int) : Nat → List Int
  | 0 => l0
  | j + 1 => cutAt (remL xs l0 j) (atL (xs.getD j 0) (remL xs l0 j))
def remT (xs l0 : List Int) : Nat → List Int
  | 0 => []
  | j + 1 => remT xs l0 j ++ [(((atL (xs.getD j 0) (remL xs l0 j) + 1) % (remL xs l0 j).length : Nat) : Int)]
theorem remT_len (xs l0 : List Int) : ∀ j, (remT xs l0 j).length = j
  | 0 => rfl
  | j + 1 => by rw [remT, List.length_append, remT_len xs l0 j]; rfl
theorem ordB_mem {xs : List Int} (h : ordB xs = true) (j : Nat) (hj : j < xs.length) : xs.getD j 0 ∈ marks 0 xs.length := by
  obtain ⟨h1, h2, h3, h4⟩ := ordB_parts h
  have := okR_get h3 j hj
  unfold marks
  rw [List.mem_map]
  exact ⟨(xs.getD j 0).toNat, by rw [List.mem_range]; omega, by omega⟩
theorem rem_perm {xs : List Int} (h : ordB xs = true) : ∀ j, j ≤ xs.length → (xs.take j ++ remL xs (marks 0 xs.length) j).Perm (marks 0 xs.length)
  | 0, _ => by rw [List.take_zero, List.nil_append]; exact List.Perm.refl _
  | j + 1, hj => by
    have ih := rem_perm h j (by omega)
    obtain ⟨_, _, _, h4⟩ := ordB_parts h
    have hm : xs.getD j 0 ∈ remL xs (marks 0 xs.length) j := by
      have h1 := (ih.mem_iff).2 (ordB_mem h j (by omega))
      rcases List.mem_append.1 h1 with h2 | h2
      · exfalso
        have hn := (nodup_take (xs := xs) (j := j) (by omega)).1 (nodup_of_take (j + 1) h4)
        have e : xs.getD j 0 = xs[j] := by simp [List.getD, show j < xs.length by omega]
        rw [e] at h2
        exact hn.2 h2
      · exact h2
    obtain ⟨_, a2, a3⟩ := atL_is _ _ hm
    have hp := cutAt_perm _ _ a2
    rw [a3] at hp
    have e : xs.take (j + 1) = xs.take j ++ [xs.getD j 0] := by
      rw [List.take_add_one]
      congr 1
      simp [show j < xs.length by omega]
    rw [remL, e, List.append_assoc]
    exact (List.Perm.append_left _ hp).trans ih
theorem rem_mem {xs : List Int} (h : ordB xs = true) (j : Nat) (hj : j < xs.length) : xs.getD j 0 ∈ remL xs (marks 0 xs.length) j := by
  obtain ⟨_, _, _, h4⟩ := ordB_parts h
  have h1 := ((rem_perm h j (by omega)).mem_iff).2 (ordB_mem h j hj)
  rcases List.mem_append.1 h1 with h2 | h2
  · exfalso
    have hn := (nodup_take (xs := xs) (j := j) hj).1 (nodup_of_take (j + 1) h4)
    have e : xs.getD j 0 = xs[j] := by simp [List.getD, hj]
    rw [e] at h2
    exact hn.2 h2
  · exact h2
theorem rem_len {xs : List Int} (h : ordB xs = true) (j : Nat) (hj : j ≤ xs.length) : (remL xs (marks 0 xs.length) j).length = xs.length - j := by
  have h1 := (rem_perm h j hj).length_eq
  rw [List.length_append, marks_length, List.length_take] at h1
  omega
/-- the remainders of an order -/
def remsOf (xs : List Int) : List Int := remT xs (marks 0 xs.length) xs.length
theorem remsOf_len (xs : List Int) : (remsOf xs).length = xs.length := remT_len _ _ _
end Go.Proofs.Ytpdnliljpjoejaa
namespace Go.Proofs.Ytpdnliljpjoejaa
open Go.ChangeShapes Go.WideShapes Go.ChangeAt Go.RowKit

/-- what a call returns that tells two times yes or no -/
def Bool2B (W : World) (a b : Bool) (e : Ending) (w' : World) : Prop := e = .returned (.tuple #[.bool a, .bool b]) ∧ Kp Nw W w'

end Go.Proofs.Ytpdnliljpjoejaa
namespace Go.Proofs.Ytpdnliljpjoejaa
open Go.ChangeShapes Go.WideShapes Go.ChangeAt Go.RowKit
/-- who is left behind the first j turns with remainders, and who went -/
def oL (us l0 : List Int) : Nat → List Int
  | 0 => l0
  | j + 1 => cutAt (oL us l0 j) (((us.getD j 0 + (oL us l0 j).length - 1) % ((oL us l0 j).length : Int)).toNat)
def oT (us l0 : List Int) : Nat → List Int
  | 0 => []
  | j + 1 => oT us l0 j ++ [(oL us l0 j).getD (((us.getD j 0 + (oL us l0 j).length - 1) % ((oL us l0 j).length : Int)).toNat) 0]
theorem oT_len (us l0 : List Int) : ∀ j, (oT us l0 j).length = j
  | 0 => rfl
  | j + 1 => by rw [oT, List.length_append, oT_len us l0 j]; rfl
theorem oP_lt (u : Int) (m : Nat) (h : 0 < m) : ((u + m - 1) % (m : Int)).toNat < m := by
  have h1 := Int.emod_nonneg (u + m - 1) (b := (m : Int)) (by omega)
  have h2 := Int.emod_lt_of_pos (u + m - 1) (b := (m : Int)) (by omega)
  omega
theorem oL_len (us l0 : List Int) : ∀ j, j ≤ l0.length → (oL us l0 j).length = l0.length - j
  | 0, _ => rfl
  | j + 1, h => by
    have ih := oL_len us l0 j (by omega)
    rw [oL, cutAt_len _ _ (oP_lt _ _ (by omega)), ih]
    omega
def okU (us : List Int) (j : Nat) : Bool := okR 0 ((us.length : Int) - j - 1) (us.getD j 0)
def vOrR (us : List Int) : List Int × Bool := if (1 ≤ us.length ∧ us.length ≤ 12) ∧ ∀ j, j < us.length → okU us j = true then (oT us (marks 0 us.length) us.length, true) else ([], false)
theorem vOrR_len (us : List Int) : (vOrR us).1.length ≤ 1000000 := by
  unfold vOrR
  split
  · rename_i h
    rw [oT_len]; omega
  · exact Nat.zero_le _
end Go.Proofs.Ytpdnliljpjoejaa
namespace Go.Proofs.Ytpdnliljpjoejaa
open Go.ChangeShapes Go.WideShapes Go.ChangeAt Go.RowKit

/-- two orders joined -/
def joinL (xs ys : List Int) : List Int := ys.map (fun y => xs.getD y.toNat 0)
theorem joinL_len (xs ys : List Int) : (joinL xs ys).length = ys.length := by unfold joinL; simp
theorem joinL_take (xs ys : List Int) (k : Nat) (h : k < ys.length) : joinL xs (ys.take (k + 1)) = joinL xs (ys.take k) ++ [xs.getD (ys.getD k 0).toNat 0] := by
  unfold joinL
  have e : ys[k]? = some (ys.getD k 0) := by simp [h]
  rw [List.take_add_one, e, List.map_append]
  rfl
theorem ordB_get {xs : List Int} (h : ordB xs = true) (j : Nat) (hj : j < xs.length) : 0 ≤ xs.getD j 0 ∧ xs.getD j 0 < xs.length := by
  obtain ⟨h1, h2, h3, h4⟩ := ordB_parts h
  have := okR_get h3 j hj
  omega
def vJoin (xs ys : List Int) : List Int × Bool := if ordB xs = true ∧ ordB ys = true ∧ xs.length = ys.length then (joinL xs ys, true) else ([], false)
theorem vJoin_len (xs ys : List Int) : (vJoin xs ys).1.length ≤ 1000000 := by
  unfold vJoin
  split
  · rename_i h
    have := ordB_parts h.2.1
    rw [joinL_len]; omega
  · exact Nat.zero_le _
/-- an order undone, up to a turn -/
def undoN (xs : List Int) : Nat → List Int
  | 0 => List.replicate xs.length 0
  | j + 1 => (undoN xs j).set (xs.getD j 0).toNat (j : Int)
theorem undoN_len (xs : List Int) : ∀ j, (undoN xs j).length = xs.length
  | 0 => by simp [undoN]
  | j + 1 => by rw [undoN, List.length_set, undoN_len xs j]
def undoL (xs : List Int) : List Int := undoN xs xs.length
/-- an order whose people are told by greater numbers, around -/
def turnedL (xs : List Int) (u : Int) : List Int := xs.map (fun x => (x + u) % (xs.length : Int))
theorem turnedL_len (xs : List Int) (u : Int) : (turnedL xs u).length = xs.length := by unfold turnedL; simp
def turnedT (xs : List Int) (u : Int) (n j : Nat) : List Int := (xs.take j).map (fun x => (x + u) % (n : Int))
theorem turnedT_succ (xs : List Int) (u : Int) (n j : Nat) (h : j < xs.length) : turnedT xs u n (j + 1) = turnedT xs u n j ++ [(xs.getD j 0 + u) % (n : Int)] := by
  unfold turnedT
  have e : xs[j]? = some (xs.getD j 0) := by simp [h]
  rw [List.take_add_one, e, List.map_append]
  rfl
def vTurned (xs : List Int) (u : Int) : List Int × Bool := if ordB xs = true ∧ 0 ≤ u ∧ u ≤ (xs.length : Int) - 1 then (turnedL xs u, true) else ([], false)
theorem vTurned_len (xs : List Int) (u : Int) : (vTurned xs u).1.length ≤ 1000000 := by
  unfold vTurned
  split
  · rename_i h
    have := ordB_parts h.1
    rw [turnedL_len]; omega
  · exact Nat.zero_le _
end Go.Proofs.Ytpdnliljpjoejaa
namespace Go.Proofs.Ytpdnliljpjoejaa
open Go.ChangeShapes Go.WideShapes Go.ChangeAt Go.RowKit

/-- the least number that two divide -/
def lcmN (x y : Nat) : Nat := x / Nat.gcd x y * y
theorem lcmN_le (x y : Nat) : lcmN x y ≤ x * y := Nat.mul_le_mul_right y (Nat.div_le_self _ _)
/-- the first of so many numbers, each by b greater, that is r modulo m -/
def tryN (m b r : Nat) : Nat → Nat → Option Nat
  | 0, _ => none
  | k + 1, s => if s % m = r then some s else tryN m b r k (s + b)
/-- the step and what it can be greater by, behind the first j turns -/
def nxtS (m b : Nat) : Option Nat → Option (Nat × Nat)
  | none => none
  | some s => some (s, lcmN b m)
def stN (us : List Int) (n : Nat) : Nat → Option (Nat × Nat)
  | 0 => some (1, 1)
  | j + 1 => match stN us n j with
    | none => none
    | some (s, b) => nxtS (n - j) b (tryN (n - j) b (us.getD j 0).toNat (n - j) s)
def fstS : Option (Nat × Nat) → Nat
  | some (s, _) => s
  | none => 0
theorem stN_none (us : List Int) (n j : Nat) (h : stN us n j = none) : ∀ k, stN us n (j + k) = none
  | 0 => h
  | k + 1 => by rw [Nat.add_succ, stN, stN_none us n j h k]
def stepO (xs : List Int) : Nat := fstS (stN (remsOf xs) xs.length xs.length)
theorem tryN_le (m b r : Nat) : ∀ (k s s' : Nat), tryN m b r k s = some s' → s ≤ s' ∧ s' ≤ s + k * b
  | 0, s, s', h => by cases h
  | k + 1, s, s', h => by
    unfold tryN at h
    split at h
    · injection h with h; subst h; exact ⟨Nat.le_refl _, Nat.le_add_right _ _⟩
    · have := tryN_le m b r k (s + b) s' h
      have e : (k + 1) * b = k * b + b := Nat.succ_mul k b
      omega
theorem remT_nn (xs l0 : List Int) : ∀ j, ∀ x ∈ remT xs l0 j, 0 ≤ x
  | 0, x, h => by cases h
  | j + 1, x, h => by
    rw [remT] at h
    rcases List.mem_append.1 h with h | h
    · exact remT_nn xs l0 j x h
    · rw [List.mem_singleton] at h
      rw [h]; exact Int.natCast_nonneg _
/-- bounds -/
theorem stN_bd (us : List Int) (n : Nat) (hn : n ≤ 12) : ∀ j s b, j ≤ n → stN us n j = some (s, b) → 1 ≤ s ∧ s ≤ 2 * 12 ^ j ∧ 1 ≤ b ∧ b ≤ 12 ^ j
  | 0, s, b, _, h => by
    unfold stN at h
    injection h with h
    injection h with h1 h2
    subst h1; subst h2
    exact ⟨Nat.le_refl _, by decide, Nat.le_refl _, by decide⟩
  | j + 1, s, b, hj, h => by
    unfold stN at h
    split at h
    · cases h
    · rename_i s0 b0 h0
      have ih := stN_bd us n hn j s0 b0 (by omega) h0
      cases h1 : tryN (n - j) b0 (us.getD j 0).toNat (n - j) s0 with
      | none => rw [h1] at h; cases h
      | some s1 =>
        rw [h1] at h
        unfold nxtS at h
        injection h with h
        injection h with h2 h3
        subst h2
        have ht := tryN_le _ _ _ _ _ _ h1
        have hp : 12 ^ (j + 1) = 12 ^ j * 12 := Nat.pow_succ 12 j
        obtain ⟨P, hP⟩ : ∃ P, 12 ^ j = P := ⟨_, rfl⟩
        rw [hP] at ih hp
        have hk : (n - j) * b0 ≤ 12 * b0 := Nat.mul_le_mul_right b0 (by omega)
        have hl := lcmN_le b0 (n - j)
        have hl2 : b0 * (n - j) ≤ b0 * 12 := Nat.mul_le_mul_left b0 (by omega)
        have hpos : 1 ≤ lcmN b0 (n - j) := by
          unfold lcmN
          have hg := Nat.gcd_le_left (n - j) (show 0 < b0 by omega)
          have hg0 : 0 < Nat.gcd b0 (n - j) := Nat.gcd_pos_of_pos_left _ (by omega)
          have hd : 0 < b0 / Nat.gcd b0 (n - j) := Nat.div_pos hg hg0
          exact Nat.mul_pos hd (by omega)
        rw [hp]
        rw [h3] at hl hpos
        exact ⟨by omega, by omega, hpos, by omega⟩
theorem pow12 (j : Nat) (h : j ≤ 11) : 12 ^ j ≤ 743008370688 := by
  have := Nat.pow_le_pow_right (show 0 < 12 by decide) h
  exact Nat.le_trans this (by decide)
theorem stepO_bd {xs : List Int} (h : xs.length ≤ 12) : stepO xs ≤ 20000000000000 := by
  unfold stepO fstS
  split
  · rename_i s b hs
    have h1 := stN_bd (remsOf xs) xs.length h xs.length s b (Nat.le_refl _) hs
    have h2 := Nat.pow_le_pow_right (show 0 < 12 by decide) h
    have h3 : (12 : Nat) ^ 12 = 8916100448256 := by decide
    omega
  · omega
def vStepO (xs : List Int) : Int × Bool := if ordB xs = true ∧ 0 < stepO xs then ((stepO xs : Nat), true) else (0, false)
end Go.Proofs.Ytpdnliljpjoejaa
namespace Go.Proofs.Ytpdnliljpjoejaa
open Go.ChangeShapes Go.WideShapes Go.ChangeAt Go.RowKit

/-- 1 2 .. n -/
def facN : Nat → Nat
  | 0 => 1
  | n + 1 => facN n * (n + 1)
theorem facN_bd : ∀ n, n < 13 → 1 ≤ facN n ∧ facN n ≤ 479001600 := by decide
/-- how many of the first k numbers behind the turn i are less than its own -/
def lessC (xs : List Int) (i : Nat) : Nat → Nat
  | 0 => 0
  | k + 1 => lessC xs i k + (if xs.getD (i + 1 + k) 0 < xs.getD i 0 then 1 else 0)
theorem lessC_le (xs : List Int) (i : Nat) : ∀ k, lessC xs i k ≤ k
  | 0 => Nat.le_refl _
  | k + 1 => by
    have := lessC_le xs i k
    unfold lessC
    split <;> omega
def rankT (xs : List Int) : Nat → Nat
  | 0 => 0
  | i + 1 => rankT xs i + lessC xs i (xs.length - (i + 1)) * facN (xs.length - 1 - i)
theorem rankT_bd (xs : List Int) (h : xs.length ≤ 12) : ∀ i, i ≤ xs.length → rankT xs i ≤ i * (12 * 479001600)
  | 0, _ => Nat.le_refl _
  | i + 1, hi => by
    have ih := rankT_bd xs h i (by omega)
    have h1 := lessC_le xs i (xs.length - (i + 1))
    have h2 := (facN_bd (xs.length - 1 - i) (by omega)).2
    have h3 := Nat.mul_le_mul (show lessC xs i (xs.length - (i + 1)) ≤ 12 by omega) h2
    rw [rankT, Nat.succ_mul]
    omega
def rankN (xs : List Int) : Nat := rankT xs xs.length
def vRank (xs : List Int) : Int × Bool := if ordB xs = true then ((rankN xs : Nat), true) else (0, false)

end Go.Proofs.Ytpdnliljpjoejaa
namespace Go.Proofs.Ytpdnliljpjoejaa
open Go.ChangeShapes Go.WideShapes Go.ChangeAt Go.RowKit

/-- how many of the first k turns have their own number -/
def stayC (ys : List Int) : Nat → Nat
  | 0 => 0
  | i + 1 => stayC ys i + (if (i : Int) = ys.getD i 0 then 1 else 0)
theorem stayC_le (ys : List Int) : ∀ k, stayC ys k ≤ k
  | 0 => Nat.le_refl _
  | k + 1 => by
    have := stayC_le ys k
    unfold stayC
    split <;> omega
/-- how many of the steps 1 .. k have so many -/
def fixC (n m : Nat) : Nat → Nat
  | 0 => 0
  | k + 1 => fixC n m k + (if stayC (outs ((k + 1 : Nat) : Int) n (marks 0 n)) n = m then 1 else 0)
theorem fixC_le (n m : Nat) : ∀ k, fixC n m k ≤ k
  | 0 => Nat.le_refl _
  | k + 1 => by
    have := fixC_le n m k
    unfold fixC
    split <;> omega
def vFixed (p f : Int) : Int × Bool := if (1 ≤ p ∧ p ≤ 8) ∧ (0 ≤ f ∧ f ≤ p) then ((fixC p.toNat f.toNat (perT p.toNat) : Nat), true) else (0, false)
end Go.Proofs.Ytpdnliljpjoejaa
namespace Go.Proofs.Ytpdnliljpjoejaa
open Go.ChangeShapes Go.WideShapes Go.ChangeAt Go.RowKit

def dropAt (l : List Int) (a : Nat) : List Int := l.take a ++ l.drop (a + 1)
theorem dropAt_len (l : List Int) (a : Nat) (h : a < l.length) : (dropAt l a).length = l.length - 1 := by unfold dropAt; simp; omega
/-- the rank, who is left and who was told, behind the first j turns -/
def rkR (n r : Nat) : Nat → Nat
  | 0 => r
  | j + 1 => rkR n r j % facN (n - j - 1)
def rkL (n r : Nat) : Nat → List Int
  | 0 => marks 0 n
  | j + 1 => dropAt (rkL n r j) (rkR n r j / facN (n - j - 1))
def rkT (n r : Nat) : Nat → List Int
  | 0 => []
  | j + 1 => rkT n r j ++ [(rkL n r j).getD (rkR n r j / facN (n - j - 1)) 0]
theorem facN_pos : ∀ n, 1 ≤ facN n
  | 0 => Nat.le_refl _
  | n + 1 => Nat.mul_pos (facN_pos n) (Nat.succ_pos n)
theorem rkR_lt (n r : Nat) (h : r < facN n) : ∀ j, rkR n r j < facN (n - j)
  | 0 => h
  | _ + 1 => Nat.mod_lt _ (facN_pos _)
theorem rkA_lt (n r : Nat) (h : r < facN n) (j : Nat) (hj : j < n) : rkR n r j / facN (n - j - 1) < n - j := by
  have h1 := rkR_lt n r h j
  obtain ⟨p, hp⟩ : ∃ p, n - j = p + 1 := ⟨n - j - 1, by omega⟩
  rw [hp] at h1 ⊢
  exact Nat.div_lt_of_lt_mul h1
theorem rkL_len (n r : Nat) (h : r < facN n) : ∀ j, j ≤ n → (rkL n r j).length = n - j
  | 0, _ => by rw [rkL, marks_length]; rfl
  | j + 1, hj => by
    have ih := rkL_len n r h j (by omega)
    rw [rkL, dropAt_len _ _ (by rw [ih]; exact rkA_lt n r h j hj), ih]
    rfl
theorem rkT_len (n r : Nat) : ∀ j, (rkT n r j).length = j
  | 0 => rfl
  | j + 1 => by rw [rkT, List.length_append, rkT_len n r j]; rfl
def vOfRank (p r : Int) : List Int × Bool := if (1 ≤ p ∧ p ≤ 12) ∧ (0 ≤ r ∧ r ≤ (facN p.toNat : Nat) - 1) then (rkT p.toNat r.toNat p.toNat, true) else ([], false)
end Go.Proofs.Ytpdnliljpjoejaa
namespace Go.Proofs.Ytpdnliljpjoejaa
open Go.ChangeShapes Go.WideShapes Go.ChangeAt Go.RowKit

theorem boolInfo : (Try.prog.info? 4).map (fun i => (i.zero, i.size, i.bytes)) = some (some (.bool false), 1, 1) := by kernel_rfl
/-- a row of bools at an address -/
def BoAt (w : World) (B g cap n : Nat) (bs : List Bool) : Prop := bs.length = n ∧ w.ownsRow B 4 1 (.slice (some ⟨g, 0, none⟩) n cap) n (bs.map Value.bool)
theorem BoAt.cell {w : World} {B g cap n : Nat} {bs : List Bool} (h : BoAt w B g cap n bs) (j : Nat) (hj : j < n) : w.cell? ⟨g, j, none⟩ = some (.bool (bs.getD j true)) := by
  have hl : j < bs.length := by rw [h.1]; exact hj
  rw [World.ownsRow.cellAt h.2 j (by omega)]
  simp [List.getElem?_eq_getElem hl]
theorem BoAt.frozen {w : World} {B g cap n : Nat} {bs : List Bool} (h : BoAt w B g cap n bs) (j : Nat) : w.frozen? ⟨g, j, none⟩ = false := World.ownsRow.frozenAt h.2 j
theorem BoAt.store {w : World} {B g cap n : Nat} {bs : List Bool} (h : BoAt w B g cap n bs) (j : Nat) (u : Bool) : BoAt (w.setCell ⟨g, j, none⟩ (.bool u)) B g cap n (bs.set j u) :=
  ⟨by rw [List.length_set]; exact h.1, by rw [List.map_set]; exact (World.ownsRow.stored h.2 j (.bool u)).1⟩
theorem BoAt.zeros {w : World} {B g n : Nat} (h : w.ownsRow B 4 1 (.slice (some ⟨g, 0, none⟩) n n) n (madeCells #[Value.bool false] n).toList) : BoAt w B g n n (List.replicate n false) := by
  refine ⟨by simp, ?_⟩
  rw [toList_madeCells_one] at h
  rw [List.map_replicate]
  exact h
theorem BoAt.kq {w w' : World} {B g cap n : Nat} {bs : List Bool} {S : Nat → Prop} (h : BoAt w B g cap n bs) (hk : Kp S w w') (hs : ¬ S g) : BoAt w' B g cap n bs := by
  refine ⟨h.1, h.2.1, ?_⟩
  rcases h.2.2 with hn | ⟨g', cap', cur, he, hb, hgg, rest⟩
  · exact .inl hn
  · have e : g' = g := by
      injection he with h1 _ _
      injection h1 with h1
      injection h1 with h1 _ _
      exact h1.symm
    exact .inr ⟨g', cap', cur, he, hb, (hk.block g' (Array.getElem?_eq_some_iff.1 hgg).1 (by rw [e]; exact hs)).trans hgg, rest⟩
set_option maxRecDepth 100000 in
/-- one slice of blocks from M on is appended to a row of slices of blocks below M -/
theorem run_ssM (M : Nat) (w : World) (ty : TypeId) (B E g : Nat) (v s : Value) (xss : List (List Int)) (xs : List Int) (h : SS w B E v xss) (hw : M ≤ w.heap.size) (hE : E ≤ M) (hs : Sl w M s xs) (hc : w.cell? ⟨g, 0, none⟩ = some s)
    (hl : xss.length ≤ 1000000) (hB : B ≤ M) :
    ∃ v' w', (Builtin.append_ #[22, 22] ty #[v, .slice (some ⟨g, 0, none⟩) 1 1]).run Try.prog w = .ok v' w' ∧ SS w' B w'.heap.size v' (xss ++ [xs]) ∧ Kp (fun b => v.ownBlock = some b) w w' := by
  obtain ⟨i0, hi0, hz0, hz1, hz2⟩ := info_parts listsInfo
  have h1 : s.oneCell' = true := by
    rcases hs.form with ⟨rfl, _⟩ | ⟨_, _, rfl, _⟩ <;> rfl
  have hw0 := h
  obtain ⟨vs, hvl, ho, hoE, hjj, hd⟩ := hw0
  obtain ⟨v', w', hr, h2, h3, _, h5⟩ := run_append_own_at (P := Try.prog) w B 22 ty 30 i0 _ 1 24 Try.underlying22 hi0 hz0 hz1 hz2 rfl (by omega) v vs.length _ ho ⟨g, 0, none⟩ 1 1 [s] rfl
    (fun j u hj => by
      rw [addr_add, Nat.zero_add]
      rcases j with _ | j
      · simp at hj; subst hj; exact hc
      · simp at hj) (fun u hu => by simp at hu; subst hu; exact h1) (by unfold maxLen; omega) (by omega) (by omega)
  have hkk : Kp (fun b => v.ownBlock = some b) w w' := ⟨h3.os, h3.tape, h3.output, h3.size, fun k hk hs => h3.block k hk (fun e => hs e.symm)⟩
  have hsz := hkk.size
  refine ⟨v', w', hr, ⟨vs ++ [s], by simp [hvl], by rw [List.length_append]; exact h2, ?_, ?_, ?_⟩, hkk⟩
  · intro b hb
    exact (World.ownsRow.lt h2 b hb).2
  · intro j hj
    rw [List.length_append] at hj
    by_cases e : j < xss.length
    · rw [getD_snoc _ _ _ _ (by omega), getD_snoc _ _ _ _ e]
      have hj1 := hjj j e
      refine ⟨hj1.1.kp hkk (fun b hb he => (hj1.2 b hb).2 he), fun b hb => ⟨by have := (hj1.2 b hb).1; omega, ?_⟩⟩
      rcases h5 with h5 | h5
      · rw [h5]; exact (hj1.2 b hb).2
      · rw [h5]; intro e2; have := (hj1.2 b hb).1; injection e2 with e2; omega
    · have ej : j = xss.length := by simp at hj; omega
      subst ej
      rw [getD_last, ← hvl, getD_last]
      refine ⟨(hs.kp hkk (fun b hb he => by have h6 := (hs.own_ge b hb).1; have h7 := hoE b he; omega)).from hB, fun b hb => ⟨by have := (hs.own_ge b hb).2; omega, ?_⟩⟩
      rcases h5 with h5 | h5
      · rw [h5]; intro e2; have h6 := (hs.own_ge b hb).1; have h7 := hoE b e2; omega
      · rw [h5]; intro e2; have := (hs.own_ge b hb).2; injection e2 with e2; omega
  · intro i j hij hj
    rw [List.length_append] at hj
    by_cases e : j < xss.length
    · rw [getD_snoc _ _ _ _ (by omega), getD_snoc _ _ _ _ (by omega)]
      exact hd i j hij e
    · have ej : j = xss.length := by simp at hj; omega
      subst ej
      rw [getD_snoc _ _ _ _ (by omega), ← hvl, getD_last]
      intro b hb e2
      have h6 := ((hjj i hij).2 b hb).1
      have h7 := (hs.own_ge b e2).1
      omega
theorem wpList_ssM (M : Nat) (w : World) {ops : Array Oper} {rest : List Oper} {o : Oper} {a : Act} {Q : Exit → Act → World → Prop} (hgd : o.guard = none) (x y : Operand)
    (ho : o.op = .call { callee := .builtin .append, args := #[x, y], argTypes := #[22, 22] })
    (B E g : Nat) (v s : Value) (xss : List (List Int)) (xs : List Int) (hx : a.eval x = v) (hy : a.eval y = .slice (some ⟨g, 0, none⟩) 1 1) (h : SS w B E v xss) (hw : M ≤ w.heap.size) (hE : E ≤ M) (hs : Sl w M s xs) (hc : w.cell? ⟨g, 0, none⟩ = some s)
    (hl : xss.length ≤ 1000000) (hB : B ≤ M)
    (hh : ∀ v' w', SS w' B w'.heap.size v' (xss ++ [xs]) → Kp (fun b => v.ownBlock = some b) w w' → wpList Try.prog ops Q rest (a.put o.dst v') w') : wpList Try.prog ops Q (o :: rest) a w :=
  wpList_plain hgd fun _ hK => by
    obtain ⟨v', w', hr, h2, h3⟩ := run_ssM M w o.type B E g v s xss xs h hw hE hs hc hl hB
    unfold Oper.wp execOp
    simp only [ho, resolve, invoke, builtin, Sem.run_bind, Sem.run_pure, Result.andThen_ok, List.map_toArray, List.map_cons, List.map_nil, hx, hy, hr]
    exact hK _ _ (hh v' w' h2 h3)

theorem cntF_set : ∀ (s : List Bool) (a : Nat), s.getD a true = false → (s.set a true).count false + 1 = s.count false
  | [], a, h => by simp at h
  | b :: s, 0, h => by
    simp at h
    subst h
    simp
  | b :: s, a + 1, h => by
    have ih := cntF_set s a (by simpa using h)
    simp only [List.set_cons_succ, List.count_cons]
    omega
/-- from a person on, until somebody was seen -/
def cycA (xs : List Int) : Nat → List Bool → Nat → List Int → List Bool × List Int
  | 0, s, _, c => (s, c)
  | k + 1, s, a, c => if s.getD a true = true then (s, c) else cycA xs k (s.set a true) (xs.getD a 0).toNat (c ++ [(a : Int)])
theorem cyc_len (xs : List Int) : ∀ (k : Nat) (s : List Bool) (a : Nat) (c : List Int), (cycA xs k s a c).1.length = s.length ∧ c.length ≤ (cycA xs k s a c).2.length ∧ (cycA xs k s a c).2.length ≤ c.length + s.count false
  | 0, s, a, c => by unfold cycA; exact ⟨rfl, Nat.le_refl _, Nat.le_add_right _ _⟩
  | k + 1, s, a, c => by
    unfold cycA
    split
    · exact ⟨rfl, Nat.le_refl _, Nat.le_add_right _ _⟩
    · rename_i h
      have ih := cyc_len xs k (s.set a true) (xs.getD a 0).toNat (c ++ [(a : Int)])
      have hc := cntF_set s a (by simpa using h)
      rw [List.length_set, List.length_append, List.length_singleton] at ih
      exact ⟨ih.1, by omega, by omega⟩
def cycs (xs : List Int) : Nat → List Bool × List (List Int)
  | 0 => (List.replicate xs.length false, [])
  | i + 1 => if (cycs xs i).1.getD i true = true then cycs xs i else ((cycA xs (xs.length + 1) (cycs xs i).1 i []).1, (cycs xs i).2 ++ [(cycA xs (xs.length + 1) (cycs xs i).1 i []).2])
theorem cycs_len (xs : List Int) : ∀ i, (cycs xs i).1.length = xs.length ∧ (cycs xs i).2.length ≤ i ∧ ∀ c ∈ (cycs xs i).2, 1 ≤ c.length ∧ c.length ≤ xs.length
  | 0 => ⟨by simp [cycs], Nat.le_refl _, fun c hc => by cases hc⟩
  | i + 1 => by
    obtain ⟨h1, h2, h3⟩ := cycs_len xs i
    unfold cycs
    split
    · exact ⟨h1, by omega, h3⟩
    · rename_i h
      obtain ⟨l1, l2, l3⟩ := cyc_len xs (xs.length + 1) (cycs xs i).1 i []
      have hcl : (cycs xs i).1.count false ≤ (cycs xs i).1.length := List.count_le_length
      refine ⟨by rw [l1, h1], by simp only [List.length_append, List.length_singleton]; omega, fun c hc => ?_⟩
      rcases List.mem_append.1 hc with hc | hc
      · exact h3 c hc
      · rw [List.mem_singleton] at hc
        subst hc
        refine ⟨?_, by simp only [List.length_nil] at l3; omega⟩
        have l4 := cyc_len xs xs.length ((cycs xs i).1.set i true) (xs.getD i 0).toNat ([] ++ [(i : Int)])
        rw [cycA, if_neg h]
        have := l4.2.1
        simpa using this
/-- the cycles of an order -/
def cycL (xs : List Int) : List (List Int) := (cycs xs xs.length).2
def vCycles (xs : List Int) : List (List Int) × Bool := if ordB xs = true then (cycL xs, true) else ([], false)
theorem vCycles_bd (xs : List Int) : (vCycles xs).1.length ≤ 1000 ∧ ∀ c ∈ (vCycles xs).1, c.length ≤ 1000 := by
  unfold vCycles
  split
  · rename_i h
    have hp := ordB_parts h
    obtain ⟨_, h2, h3⟩ := cycs_len xs xs.length
    exact ⟨show (cycs xs xs.length).2.length ≤ 1000 by omega, fun c hc => by have := (h3 c hc).2; omega⟩
  · exact ⟨Nat.zero_le _, fun c hc => by cases hc⟩
def vSign (xs : List Int) : Int × Bool := if ordB xs = true then (if (xs.length - (cycL xs).length) % 2 = 0 then 1 else -1, true) else (0, false)
/-- the least number that the lengths of the first j cycles divide -/
def powT (cs : List (List Int)) : Nat → Nat
  | 0 => 1
  | j + 1 => lcmN (powT cs j) (cs.getD j []).length
theorem lcmN_pos (x y : Nat) (hx : 1 ≤ x) (hy : 1 ≤ y) : 1 ≤ lcmN x y := by
  unfold lcmN
  have hg := Nat.gcd_le_left y (show 0 < x by omega)
  have hg0 : 0 < Nat.gcd x y := Nat.gcd_pos_of_pos_left _ (by omega)
  have hd : 0 < x / Nat.gcd x y := Nat.div_pos hg hg0
  exact Nat.mul_pos hd (by omega)
theorem powT_bd (cs : List (List Int)) (h : ∀ j, j < cs.length → 1 ≤ (cs.getD j []).length ∧ (cs.getD j []).length ≤ 12) : ∀ j, j ≤ cs.length → 1 ≤ powT cs j ∧ powT cs j ≤ 12 ^ j
  | 0, _ => ⟨Nat.le_refl _, Nat.le_refl _⟩
  | j + 1, hj => by
    have ih := powT_bd cs h j (by omega)
    have hh := h j (by omega)
    refine ⟨lcmN_pos _ _ ih.1 hh.1, Nat.le_trans (lcmN_le _ _) ?_⟩
    rw [Nat.pow_succ]
    exact Nat.mul_le_mul ih.2 hh.2
def vPower (xs : List Int) : Int × Bool := if ordB xs = true then ((powT (cycL xs) (cycL xs).length : Nat), true) else (0, false)
end Go.Proofs.Ytpdnliljpjoejaa
namespace Go.Proofs.Ytpdnliljpjoejaa
open Go.ChangeShapes Go.WideShapes Go.ChangeAt Go.RowKit

set_option maxHeartbeats 3200000 in
set_option maxRecDepth 100000 in
theorem lawAllOrders_of (p : Int) (xss : List (List Int)) (q : Bool) (W : World) (hxl : xss.length ≤ 1000) (hxl2 : ∀ xs ∈ xss, xs.length ≤ 1000)
    (hS : Hid (∀ (W : World), Calls Try.prog 4 #[.int .i64 p] W (ListSB W xss q))) (hI : Hid (∀ (W : World), Calls Try.prog 5 #[.int .i64 p] W (ListSB W xss q))) :
    Calls Try.prog 3 #[.int .i64 p] W fun e w' => e = .returned (.bool true) ∧ Kp Nw W w' := by
  obtain ⟨n, hn⟩ : ∃ n, xss.length = n := ⟨_, rfl⟩
  have hoff := offS_le xss 1000 hxl2
  have HB : Hid (∀ j, j < n → (1 : Int) + offS xss j ≤ 1000000000 ∧ (xss.getD j []).length ≤ 1000000000) := Lib.hid (fun j hj => by
    have h1 := hoff j (by omega)
    have h3 : j * 1000 ≤ 1000000 := by omega
    refine ⟨by omega, ?_⟩
    have h2 : xss.getD j [] ∈ xss := by
      have : xss.getD j [] = xss[j]'(by omega) := by simp [List.getD, show j < xss.length by omega]
      rw [this]; exact List.getElem_mem _
    have := hxl2 _ h2
    omega)
  have HTOT : Hid ((1 : Int) + offS xss n ≤ 1000000000) := Lib.hid (by have h1 := hoff n (by omega); omega)
  have HL2 : Hid (∀ xs ∈ xss, xs.length ≤ 1000000) := Lib.hid (fun xs h => by have := hxl2 xs h; omega)
  obtain ⟨tt, ht⟩ : ∃ t : Int, (1 : Int) + offS xss n = t := ⟨_, rfl⟩
  have t1 : 1 ≤ tt := by omega
  have tn : ¬ tt < 0 := by omega
  have HTT := Lib.hid ht
  have HN := Lib.hid hn
  have hln : n ≤ 1000 := by omega
  clear hn hoff ht hxl hxl2
  have HK := Lib.hid (Kp.refl Nw W)
  go_enter Try.func3, Try.ntmps3
  go_wp2_with fail
  refine (hS.out _ ).mono ?_
  rintro e w1 ⟨v1, rfl, hs1, hk1⟩
  obtain ⟨A1, c1, rfl⟩ := hs1.val HN.out
  have HV1 := Lib.hid hs1
  have HK := Lib.hid (HK.out.nw hk1)
  have z1 : W.heap.size ≤ w1.heap.size := hk1.size
  clear hs1 hk1
  go_wp2_with fail
  refine (hI.out _ ).mono ?_
  rintro e w2 ⟨v2, rfl, hs2, hk2⟩
  obtain ⟨A2, c2, rfl⟩ := hs2.val HN.out
  have HV2 := Lib.hid hs2
  have HV1 := Lib.hid (HV1.out.nw hk2)
  have HK := Lib.hid (HK.out.nw hk2)
  have z2 : w1.heap.size ≤ w2.heap.size := hk2.size
  clear hs2 hk2
  go_wp2_with fail
  refine (eqIntSS_same _ _ _ _ _ _ xss _ HV2.out HV1.out (by rw [HN.out]; omega) HL2.out).mono ?_
  rintro e w3 ⟨rfl, hk3⟩
  have z3 : w2.heap.size ≤ w3.heap.size := hk3.size
  have HV1 := Lib.hid (HV1.out.nw hk3)
  have HV2 := Lib.hid (HV2.out.nw hk3)
  have HK := Lib.hid (HK.out.nw hk3)
  clear hk3
  go_wp2_with fail
  refine (markIntSS_any _ w1.heap.size w2.heap.size n xss 1 _ HV2.out HN.out (by omega) HTOT.out (by omega) HB.out).mono ?_
  rw [HTT.out]
  rintro e w4 ⟨rfl, hs4, hk4⟩
  have z4 : w3.heap.size ≤ w4.heap.size := hk4.size
  have HV1 := Lib.hid (HV1.out.kp hk4 (fun g _ _ h => by omega))
  have HK := Lib.hid (HK.out.after hk4 (fun g hg h2 => by omega))
  have HV2 := Lib.hid hs4
  clear hs4 hk4
  go_wp2_with fail
  refine (heldIntSS_any _ w1.heap.size w2.heap.size n xss 1 _ HV2.out HN.out (by omega) (by omega) HB.out).mono ?_
  rw [HTT.out]
  rintro e wh ⟨rfl, rfl⟩
  go_wp2_with fail
  refine (hI.out _ ).mono ?_
  rintro e w5 ⟨v5, rfl, hs5, hk5⟩
  obtain ⟨A5, c5, rfl⟩ := hs5.val HN.out
  have HV5 := Lib.hid hs5
  have HV1 := Lib.hid (HV1.out.nw hk5)
  have HV2 := Lib.hid (HV2.out.nw hk5)
  have HK := Lib.hid (HK.out.nw hk5)
  have z5 : w4.heap.size ≤ w5.heap.size := hk5.size
  clear hs5 hk5
  go_wp2_with fail
  refine (eqIntSS_same _ _ _ _ _ _ xss _ HV5.out HV1.out (by rw [HN.out]; omega) HL2.out).mono ?_
  rintro e w6 ⟨rfl, hk6⟩
  have z6 : w5.heap.size ≤ w6.heap.size := hk6.size
  have HV1 := Lib.hid (HV1.out.nw hk6)
  have HV2 := Lib.hid (HV2.out.nw hk6)
  have HV5 := Lib.hid (HV5.out.nw hk6)
  have HK := Lib.hid (HK.out.nw hk6)
  clear hk6
  go_wp2_with fail
  refine (heldIntSS_any _ w1.heap.size w2.heap.size n xss 1 _ HV2.out HN.out (by omega) (by omega) HB.out).mono ?_
  rw [HTT.out]
  rintro e wh ⟨rfl, rfl⟩
  go_wp2
  go_ret
  exact ⟨rfl, HK.out⟩

end Go.Proofs.Ytpdnliljpjoejaa
namespace Go.Proofs.Ytpdnliljpjoejaa
open Go.ChangeShapes Go.WideShapes Go.ChangeAt Go.RowKit

/-- a row of slices of the call's own, as values -/
def VR (w : World) (B : Nat) (v : Value) (vs : List Value) : Prop := w.ownsRow B 30 1 v vs.length vs
def VRd (w : World) (u : Value) (ys : List Value) : Prop := ∃ A c, u = .slice A ys.length c ∧ ∀ j, j < ys.length → ∃ g o, A = some ⟨g, o, none⟩ ∧ w.cell? ⟨g, o + j, none⟩ = some (ys.getD j nilS)
def Vnn (u : Value) (ys : List Value) : Prop := ys = [] → u = nilS ∨ ∃ (A : Addr) (c : Nat), u = .slice (some A) 0 c
theorem VRd.nw {w w' : World} {u : Value} {ys : List Value} (h : VRd w u ys) (hk : Kp Nw w w') : VRd w' u ys := by
  obtain ⟨A, c, rfl, hA⟩ := h
  refine ⟨A, c, rfl, fun k hlt => ?_⟩
  obtain ⟨g, o, rfl, hc⟩ := hA k hlt
  exact ⟨g, o, rfl, (hk.cell (World.block_lt_of_cell? w _ hc) (fun hs => hs)).trans hc⟩
theorem VRd.one {w : World} {g : Nat} {s : Value} (h : w.cell? ⟨g, 0, none⟩ = some s) : VRd w (.slice (some ⟨g, 0, none⟩) 1 1) [s] :=
  ⟨_, 1, rfl, fun j hj => ⟨g, 0, rfl, by
    have e : j = 0 := by simpa using hj
    subst e
    exact h⟩⟩
theorem VR.empty (w : World) (B : Nat) (hB : B ≤ w.heap.size) : VR (w.alloc (.cells #[] 30)) B (.slice (some ⟨w.heap.size, 0, none⟩) 0 0) [] :=
  ⟨by simp, .inr ⟨w.heap.size, 0, #[], rfl, hB, heap_alloc_new w _, Nat.le_refl _, Nat.zero_le _, by simp, by simp⟩⟩
theorem VR.kp {w w' : World} {B : Nat} {v : Value} {vs : List Value} {S : Nat → Prop} (h : VR w B v vs) (hk : Kp S w w') (hs : ∀ g, v.ownBlock = some g → ¬ S g) : VR w' B v vs := by
  refine ⟨h.1, ?_⟩
  rcases h.2 with hn | ⟨g, cap, cur, rfl, hb, hgg, rest⟩
  · exact .inl hn
  · exact .inr ⟨g, cap, cur, rfl, hb, (hk.block g (Array.getElem?_eq_some_iff.1 hgg).1 (hs g rfl)).trans hgg, rest⟩
theorem VR.nw {w w' : World} {B : Nat} {v : Value} {vs : List Value} (h : VR w B v vs) (hk : Kp Nw w w') : VR w' B v vs := h.kp hk (fun _ _ h => h)
/-- what is made behind a world and appended to what was made behind it leaves that world as it was -/
theorem VR.after {w0 w w' : World} {v : Value} {vs : List Value} (h : VR w w0.heap.size v vs) (k0 : Kp Nw w0 w) (hk : Kp (fun b => v.ownBlock = some b) w w') : Kp Nw w0 w' :=
  k0.after hk (fun g hg e => by have := (World.ownsRow.lt h g e).1; omega)
set_option maxRecDepth 100000 in
theorem run_vv (w : World) (ty : TypeId) (B : Nat) (v u : Value) (xs ys : List Value) (hv : VR w B v xs) (hu : VRd w u ys) (hnil : Vnn u ys) (h1 : ∀ x ∈ ys, x.oneCell' = true)
    (hl : xs.length + ys.length ≤ 1000000000) (hB : B ≤ w.heap.size) :
    ∃ v' w', (Builtin.append_ #[22, 22] ty #[v, u]).run Try.prog w = .ok v' w' ∧ VR w' B v' (xs ++ ys) ∧ Kp (fun b => v.ownBlock = some b) w w' := by
  obtain ⟨i0, hi0, hz0, hz1, hz2⟩ := info_parts listsInfo
  obtain ⟨A, c, rfl, hA⟩ := hu
  have key : ∀ ad : Addr, A = some ad → (∀ j u, ys[j]? = some u → w.cell? (ad.add j) = some u) → ∃ v' w', (Builtin.append_ #[22, 22] ty #[v, .slice A ys.length c]).run Try.prog w = .ok v' w' ∧ VR w' B v' (xs ++ ys) ∧ Kp (fun b => v.ownBlock = some b) w w' := by
    rintro ad rfl hc
    obtain ⟨v', w', hr, h2, h3, _, h5⟩ := run_append_own_at (P := Try.prog) w B 22 ty 30 i0 _ 1 24 Try.underlying22 hi0 hz0 hz1 hz2 rfl (by omega) v xs.length _ hv ad ys.length c ys (by simp) hc h1 (by unfold maxLen; omega) (by omega) hB
    refine ⟨v', w', hr, ?_, ⟨h3.os, h3.tape, h3.output, h3.size, fun k hk hs => h3.block k hk (fun e => hs e.symm)⟩⟩
    unfold VR
    rw [List.length_append]
    exact h2
  by_cases hy : ys = []
  · subst hy
    rcases hnil rfl with h | ⟨ad, c', h⟩
    · injection h with h1 h2 h3
      subst h1
      subst h3
      exact ⟨v, w, run_append_owned_none (P := Try.prog) w B 22 ty 30 i0 1 Try.underlying22 hi0 v xs.length _ hv, by simpa using hv, Kp.refl _ _⟩
    · injection h with h1 h2 h3
      exact key _ h1 (fun j u hj => by simp at hj)
  · have hp : 0 < ys.length := by
      cases ys with
      | nil => exact absurd rfl hy
      | cons => simp
    obtain ⟨g, o, rfl, _⟩ := hA 0 hp
    refine key _ rfl (fun j u hj => ?_)
    obtain ⟨hj', hx'⟩ := List.getElem?_eq_some_iff.1 hj
    obtain ⟨g', o', h, hc⟩ := hA j hj'
    injection h with h
    injection h with h1 h2
    subst h1
    subst h2
    rw [addr_add, hc]
    simp [List.getD, hj]
theorem wpList_vv (w : World) {ops : Array Oper} {rest : List Oper} {o : Oper} {a : Act} {Q : Exit → Act → World → Prop} (hgd : o.guard = none) (s x : Operand)
    (ho : o.op = .call { callee := .builtin .append, args := #[s, x], argTypes := #[22, 22] })
    (B : Nat) (v u : Value) (xs ys : List Value) (hs : a.eval s = v) (hx : a.eval x = u) (hv : VR w B v xs) (hu : VRd w u ys) (hnil : Vnn u ys) (h1 : ∀ x ∈ ys, x.oneCell' = true)
    (hl : xs.length + ys.length ≤ 1000000000) (hB : B ≤ w.heap.size)
    (h : ∀ v' w', VR w' B v' (xs ++ ys) → Kp (fun b => v.ownBlock = some b) w w' → wpList Try.prog ops Q rest (a.put o.dst v') w') : wpList Try.prog ops Q (o :: rest) a w :=
  wpList_plain hgd fun _ hK => by
    obtain ⟨v', w', hr, h2, h3⟩ := run_vv w o.type B v u xs ys hv hu hnil h1 hl hB
    unfold Oper.wp execOp
    simp only [ho, resolve, invoke, builtin, Sem.run_bind, Sem.run_pure, Result.andThen_ok, List.map_toArray, List.map_cons, List.map_nil, hs, hx, hr]
    exact hK _ _ (h v' w' h2 h3)
theorem elemLists : Try.prog.underlying 22 = some (.slice (Try.prog.elem 22)) := by kernel_rfl
theorem sizeLists (w : World) : (sizeOf (Try.prog.elem 22)).run Try.prog w = .ok 1 w := by kernel_rfl
theorem cutL_from (g n cap p : Nat) (h : p ≤ n) (hc : n ≤ cap) : ∃ Ad : Addr, (Ad = ⟨g, p, none⟩ ∨ p = n) ∧
    ∀ w, (Instr.slice 22 (.slice (some ⟨g, 0, none⟩) n cap) (some (.int .i64 (p : Int))) none none).run Try.prog w = .ok (.slice (some Ad) (n - p) (cap - p)) w := by
  by_cases e : cap = p
  · refine ⟨⟨g, 0, none⟩, .inr (by omega), fun w => ?_⟩
    rw [run_slice_l _ _ _ _ _ elemLists _ _ (by omega) (by omega), sizeLists]
    simp [sliced, Result.andThen, e]
  · refine ⟨⟨g, p, none⟩, .inl rfl, fun w => ?_⟩
    rw [run_slice_l _ _ _ _ _ elemLists _ _ (by omega) (by omega), sizeLists]
    simp [sliced, Result.andThen, e, addr_add]
theorem cutL_to (g n cap p : Nat) (h : p ≤ cap) (w : World) :
    (Instr.slice 22 (.slice (some ⟨g, 0, none⟩) n cap) none (some (.int .i64 (p : Int))) none).run Try.prog w = .ok (.slice (some ⟨g, 0, none⟩) p cap) w := by
  rw [run_slice_h _ _ _ _ _ elemLists _ _ (by omega) (by omega), sizeLists]
  simp [sliced, Result.andThen, addr_add]
theorem cutL_nil_from (w : World) : (Instr.slice 22 nilS (some (.int .i64 ((0 : Nat) : Int))) none none).run Try.prog w = .ok nilS w := by kernel_rfl
theorem cutL_nil_to (w : World) : (Instr.slice 22 nilS none (some (.int .i64 ((0 : Nat) : Int))) none).run Try.prog w = .ok nilS w := by kernel_rfl
/-- both parts of a row -/
theorem VR.cut {w : World} {B n c : Nat} {A : Option Addr} {vs : List Value} (h : VR w B (.slice A n c) vs) (hn : vs.length = n) (a : Nat) (ha : a ≤ n) :
    ∃ u1 u2, (∀ w, (Instr.slice 22 (.slice A n c) none (some (.int .i64 (a : Int))) none).run Try.prog w = .ok u1 w) ∧ (∀ w, (Instr.slice 22 (.slice A n c) (some (.int .i64 (a : Int))) none none).run Try.prog w = .ok u2 w) ∧ VRd w u1 (vs.take a) ∧ Vnn u1 (vs.take a) ∧ VRd w u2 (vs.drop a) ∧ Vnn u2 (vs.drop a) := by
  have hl1 : (vs.take a).length = a := by rw [List.length_take]; omega
  have hl2 : (vs.drop a).length = n - a := by rw [List.length_drop]; omega
  rcases h.2 with ⟨he, h0⟩ | ⟨g, cap, cur, he, hb, hgg, h1, h2, h3, h4⟩
  · obtain rfl : a = 0 := by omega
    have hv : vs = [] := List.eq_nil_of_length_eq_zero h0
    subst hv
    rw [he]
    exact ⟨nilS, nilS, cutL_nil_to, cutL_nil_from, ⟨none, 0, rfl, fun j hj => by simp at hj⟩, fun _ => .inl rfl, ⟨none, 0, rfl, fun j hj => by simp at hj⟩, fun _ => .inl rfl⟩
  · rw [hn] at h1
    injection he with e1 e2 e3
    subst e1
    subst e3
    obtain ⟨Ad, hAd, hf⟩ := cutL_from g n c a ha h1
    have hcell : ∀ j, j < n → w.cell? ⟨g, j, none⟩ = some (vs.getD j nilS) := fun j hj => by
      have h' := h
      unfold VR at h'
      rw [hn] at h'
      rw [World.ownsRow.cellAt h' j (by omega)]
      simp [List.getD, show j < vs.length by omega]
    refine ⟨_, _, cutL_to g n c a (by omega), hf, ⟨_, c, by rw [hl1], fun j hj => ⟨g, 0, rfl, ?_⟩⟩, fun e => .inr ⟨⟨g, 0, none⟩, c, by rw [← hl1, e]; rfl⟩, ⟨_, _, by rw [hl2], fun j hj => ?_⟩, fun e => .inr ⟨Ad, c - a, by rw [← hl2, e]; rfl⟩⟩
    · rw [hl1] at hj
      rw [Nat.zero_add, hcell j (by omega)]
      simp [List.getD, hj]
    · rw [hl2] at hj
      rcases hAd with rfl | e
      · refine ⟨g, a, rfl, ?_⟩
        rw [hcell (a + j) (by omega)]
        simp [List.getD]
      · omega
/-- one slice put into a row of slices, all old blocks kept -/
theorem SS.ins {w0 w' : World} {B E M : Nat} {v v' s : Value} {xss : List (List Int)} {xs : List Int} (vs : List Value) (hvl : vs.length = xss.length)
    (hjj : ∀ j, j < xss.length → Sl w0 B (vs.getD j nilS) (xss.getD j []) ∧ ∀ g, (vs.getD j nilS).ownBlock = some g → g < E ∧ v.ownBlock ≠ some g)
    (hd : ∀ i j, i < j → j < xss.length → ∀ g, (vs.getD i nilS).ownBlock = some g → (vs.getD j nilS).ownBlock ≠ some g)
    (hs : Sl w0 M s xs) (hBM : B ≤ M) (hEM : E ≤ M) (hM : M ≤ w0.heap.size) (a : Nat) (ha : a ≤ xss.length) (hk : Kp Nw w0 w') (hv : VR w' w0.heap.size v' (vs.take a ++ [s] ++ vs.drop a)) :
    SS w' B w'.heap.size v' (xss.take a ++ [xs] ++ xss.drop a) := by
  have hsz := hk.size
  have hlen : (vs.take a ++ [s] ++ vs.drop a).length = (xss.take a ++ [xs] ++ xss.drop a).length := by simp only [List.length_append, List.length_take, List.length_drop, hvl, List.length_singleton]
  have hl3 : (xss.take a ++ [xs] ++ xss.drop a).length = xss.length + 1 := by simp only [List.length_append, List.length_take, List.length_drop, List.length_singleton]; omega
  -- the j-th of the new row
  have get : ∀ {α : Type} (l : List α) (x d : α), a ≤ l.length → ∀ j, (l.take a ++ [x] ++ l.drop a).getD j d = if j < a then l.getD j d else if j = a then x else l.getD (j - 1) d := by
    intro α l x d hla j
    have ht : (l.take a).length = a := by rw [List.length_take]; omega
    simp only [List.getD]
    by_cases h1 : j < a
    · rw [if_pos h1, List.append_assoc, List.getElem?_append_left (by omega), List.getElem?_take, if_pos h1]
    · rw [if_neg h1]
      by_cases h2 : j = a
      · subst h2
        rw [if_pos rfl, List.append_assoc, List.getElem?_append_right (by omega), ht, Nat.sub_self]
        rfl
      · rw [if_neg h2, List.getElem?_append_right (by simp [ht]; omega), List.getElem?_drop]
        congr 2
        simp [ht]
        omega
  have gv := get vs s nilS (by omega)
  have gx := get xss xs [] ha
  have own' : ∀ g, v'.ownBlock = some g → w0.heap.size ≤ g ∧ g < w'.heap.size := fun g e => World.ownsRow.lt hv g e
  have owns : ∀ g, s.ownBlock = some g → M ≤ g ∧ g < w0.heap.size := fun g e => hs.own_ge g e
  refine ⟨_, hlen, ?_, fun g e => (own' g e).2, fun j hj => ?_, fun i j hij hj => ?_⟩
  · have h' := hv
    refine ⟨h'.1, ?_⟩
    rcases h'.2 with hn | ⟨g, cap, cur, e, hb, rest⟩
    · exact .inl hn
    · exact .inr ⟨g, cap, cur, e, by omega, rest⟩
  · rw [hl3] at hj
    rw [gv j, gx j]
    have old : ∀ i, i < xss.length → Sl w' B (vs.getD i nilS) (xss.getD i []) ∧ ∀ g, (vs.getD i nilS).ownBlock = some g → g < w'.heap.size ∧ v'.ownBlock ≠ some g := fun i hi =>
      ⟨(hjj i hi).1.kp hk (fun _ _ h => h), fun g e => ⟨by have := ((hjj i hi).2 g e).1; omega, fun e2 => by have := ((hjj i hi).2 g e).1; have := (own' g e2).1; omega⟩⟩
    by_cases h1 : j < a
    · simp only [if_pos h1]
      exact old j (by omega)
    · by_cases h2 : j = a
      · simp only [if_neg h1, if_pos h2]
        exact ⟨(hs.kp hk (fun _ _ h => h)).from hBM, fun g e => ⟨by have := (owns g e).2; omega, fun e2 => by have := (owns g e).2; have := (own' g e2).1; omega⟩⟩
      · simp only [if_neg h1, if_neg h2]
        exact old (j - 1) (by omega)
  · rw [hl3] at hj
    rw [gv i, gv j]
    have oldE : ∀ i, i < xss.length → ∀ g, (vs.getD i nilS).ownBlock = some g → g < E := fun i hi g e => ((hjj i hi).2 g e).1
    intro g e1 e2
    by_cases i1 : i < a
    · rw [if_pos i1] at e1
      have b1 := oldE i (by omega) g e1
      by_cases j1 : j < a
      · rw [if_pos j1] at e2
        exact hd i j hij (by omega) g e1 e2
      · rw [if_neg j1] at e2
        by_cases j2 : j = a
        · rw [if_pos j2] at e2
          have := (owns g e2).1
          omega
        · rw [if_neg j2] at e2
          exact hd i (j - 1) (by omega) (by omega) g e1 e2
    · rw [if_neg i1] at e1
      rw [if_neg (show ¬ j < a by omega), if_neg (show ¬ j = a by omega)] at e2
      have b2 := oldE (j - 1) (by omega) g e2
      by_cases i2 : i = a
      · rw [if_pos i2] at e1
        have := (owns g e1).1
        omega
      · rw [if_neg i2] at e1
        exact hd (i - 1) (j - 1) (by omega) (by omega) g e1 e2
end Go.Proofs.Ytpdnliljpjoejaa
namespace Go.Proofs.Ytpdnliljpjoejaa
open Go.ChangeShapes Go.WideShapes Go.ChangeAt Go.RowKit

/-- whether a list comes before another one, from the turn j on, for so many turns -/
def befN (xs ys : List Int) : Nat → Nat → Bool
  | 0, _ => false
  | k + 1, j => if xs.getD j 0 = ys.getD j 0 then befN xs ys k (j + 1) else decide (xs.getD j 0 < ys.getD j 0)
def bef (xs ys : List Int) : Bool := befN xs ys xs.length 0
set_option maxHeartbeats 1600000 in
theorem orBefore_any (g n c B g2 c2 B2 : Nat) (xs ys : List Int) (W : World) (hs : SlAt W B g c n xs) (hs2 : SlAt W B2 g2 c2 n ys) (hl : n ≤ 1000) :
    Calls Try.prog 13 #[.slice (some ⟨g, 0, none⟩) n c, .slice (some ⟨g2, 0, none⟩) n c2] W fun e w' => e = .returned (.bool (bef xs ys)) ∧ Kp Nw W w' := by
  obtain ⟨R, hR⟩ : ∃ R, bef xs ys = R := ⟨_, rfl⟩
  have HR : Hid (befN xs ys n 0 = R) := Lib.hid (by rw [← hR]; unfold bef; rw [hs.1])
  rw [hR]
  have HS := Lib.hid hs
  have HS2 := Lib.hid hs2
  clear hs hs2 hR
  go_enter Try.func13, Try.ntmps13
  go_wp2
  go_loopw [9] (fun i wq => ∃ (j : Nat) (wr : World), j ≤ n ∧ i = .int .i64 j ∧ befN xs ys (n - j) j = R ∧ wr = wq ∧ Kp Nw W wr) (fun i _ => n - (intOf i).toNat)
  case atStart => exact ⟨0, _, Nat.zero_le _, rfl, HR.out, rfl, Kp.refl _ _⟩
  case round =>
    obtain ⟨j, wr, hj, rfl, hb, rfl, hk⟩ := hrel
    have HK := Lib.hid hk
    have j0 : (0 : Int) ≤ j := Int.natCast_nonneg _
    by_cases hlt : j < n
    · have j1 : (j : Int) < n := by omega
      have wj : IntKind.i64.wrap ((j : Int) + 1) = ((j + 1 : Nat) : Int) := by rw [IntWalk.i64_in _ (by omega)]; omega
      have cx := keepc hk (HS.out.cell j hlt) (fun h => h)
      have cy := keepc hk (HS2.out.cell j hlt) (fun h => h)
      rw [show n - j = (n - (j + 1)) + 1 by omega, befN] at hb
      obtain ⟨x, hx⟩ : ∃ x, xs.getD j 0 = x := ⟨_, rfl⟩
      obtain ⟨y, hy⟩ : ∃ y, ys.getD j 0 = y := ⟨_, rfl⟩
      rw [hx] at cx
      rw [hy] at cy
      rw [hx, hy] at hb
      clear hk hx hy
      by_cases e : x = y
      · rw [if_pos e] at hb
        have HB := Lib.hid hb
        subst e
        clear hb
        go_wp2
        go_roundw
        case rel => exact ⟨j + 1, _, by omega, by go_num, HB.out, rfl, HK.out⟩
        case measure => simp [intOf] <;> omega
      · rw [if_neg e] at hb
        have HB := Lib.hid hb
        clear hb
        by_cases l : x < y
        · have HE : Hid (R = true) := Lib.hid (by rw [← HB.out]; exact decide_eq_true l)
          go_wp2
          go_ret
          exact ⟨by rw [HE.out]; simp, HK.out⟩
        · have HE : Hid (R = false) := Lib.hid (by rw [← HB.out]; exact decide_eq_false l)
          go_wp2
          go_ret
          exact ⟨by rw [HE.out]; simp, HK.out⟩
    · have HE : Hid (R = false) := Lib.hid (by rw [← hb, show n - j = 0 by omega]; rfl)
      have j1 : ¬ (j : Int) < n := by omega
      clear hb hk
      go_wp2
      go_ret
      exact ⟨by rw [HE.out]; rfl, HK.out⟩
/-- how many lists at the head come before one -/
def posL (o : List Int) : List (List Int) → Nat
  | [] => 0
  | c :: cs => if bef c o = true then posL o cs + 1 else 0
theorem posL_le (o : List Int) : ∀ cs, posL o cs ≤ cs.length
  | [] => Nat.le_refl _
  | c :: cs => by
    have := posL_le o cs
    unfold posL
    split
    · rw [List.length_cons]; omega
    · exact Nat.zero_le _
theorem posL_drop (o : List Int) (cs : List (List Int)) (a : Nat) (h : a < cs.length) : posL o (cs.drop a) = if bef (cs.getD a []) o = true then posL o (cs.drop (a + 1)) + 1 else 0 := by
  rw [List.drop_eq_getElem_cons h, posL]
  have e : cs.getD a [] = cs[a] := by simp [List.getD, h]
  rw [e]
def insAt (xss : List (List Int)) (o : List Int) : List (List Int) := xss.take (posL o xss) ++ [o] ++ xss.drop (posL o xss)
theorem insAt_len (xss : List (List Int)) (o : List Int) : (insAt xss o).length = xss.length + 1 := by
  have := posL_le o xss
  unfold insAt
  simp only [List.length_append, List.length_take, List.length_drop, List.length_singleton]
  omega
/-- the orders of the steps 1 .. k, each put at its place -/
def allK (n : Nat) : Nat → List (List Int)
  | 0 => []
  | k + 1 => insAt (allK n k) (outs ((k + 1 : Nat) : Int) n (marks 0 n))
theorem allK_len (n : Nat) : ∀ k, (allK n k).length = k ∧ ∀ c ∈ allK n k, c.length = n
  | 0 => ⟨rfl, fun c hc => by cases hc⟩
  | k + 1 => by
    obtain ⟨h1, h2⟩ := allK_len n k
    refine ⟨by rw [allK, insAt_len, h1], fun c hc => ?_⟩
    rw [allK, insAt] at hc
    rcases List.mem_append.1 hc with hc | hc
    · rcases List.mem_append.1 hc with hc | hc
      · exact h2 c (List.mem_of_mem_take hc)
      · rw [List.mem_singleton] at hc
        subst hc
        exact outs_length _ _ _
    · exact h2 c (List.mem_of_mem_drop hc)
theorem allK_get (n k j : Nat) (h : j < k) : ((allK n k).getD j []).length = n := by
  obtain ⟨h1, h2⟩ := allK_len n k
  have e : (allK n k).getD j [] = (allK n k)[j]'(by omega) := by simp [List.getD, show j < (allK n k).length by omega]
  rw [e]
  exact h2 _ (List.getElem_mem _)
def vAll (p : Int) : List (List Int) × Bool := if 1 ≤ p ∧ p ≤ 5 then (allK p.toNat (perT p.toNat), true) else ([], false)
theorem perT5 : ∀ m, m < 6 → perT m ≤ 60 := by decide
theorem vAll_bd (p : Int) : (vAll p).1.length ≤ 1000 ∧ ∀ c ∈ (vAll p).1, c.length ≤ 1000 := by
  unfold vAll
  split
  · rename_i h
    obtain ⟨h1, h2⟩ := allK_len p.toNat (perT p.toNat)
    exact ⟨by rw [h1]; exact Nat.le_trans (perT5 _ (by omega)) (by omega), fun c hc => by have := h2 c hc; omega⟩
  · exact ⟨Nat.zero_le _, fun c hc => by cases hc⟩
set_option maxRecDepth 1000000 in
set_option maxHeartbeats 6400000 in
theorem sAllOrders_yes (n : Nat) (W : World) (n1 : 1 ≤ n) (n2 : n ≤ 5) :
    Calls Try.prog 4 #[.int .i64 n] W (ListSB W (allK n (perT n)) true) := by
  obtain ⟨P, hP⟩ : ∃ P, perT n = P := ⟨_, rfl⟩
  have hPl : P ≤ 27720 := by rw [← hP]; exact perT_le n (by omega)
  rw [hP]
  have HP := Lib.hid hP
  clear hP
  have n0 : (0 : Int) ≤ n := Int.natCast_nonneg _
  go_enter Try.func4, Try.ntmps4
  go_wp2_with (first | ((with_reducible refine (l1In_yes (n : Int) 1 5 _ (by omega) (by omega)).mono ?_); rintro e w' ⟨rfl, rfl⟩))
  go_loopw [4, 5] (fun o k wq => ∃ (j : Nat) (r : Value) (wr : World), j ≤ P ∧ k = .int .i64 ((j + 1 : Nat) : Int) ∧ r = o ∧ wr = wq ∧ SS wr W.heap.size wr.heap.size r (allK n j) ∧ Kp Nw W wr) (fun _ k _ => P + 1 - (intOf k).toNat)
  case atStart => exact ⟨0, _, _, Nat.zero_le _, rfl, rfl, rfl, SS.nil _ _ _, Kp.refl _ _⟩
  case round =>
    obtain ⟨j, r, wr, hj, rfl, rfl, rfl, hss, hk⟩ := hrel
    have HSS := Lib.hid hss
    have HK := Lib.hid hk
    obtain ⟨A, c, rfl⟩ := hss.val (allK_len n j).1
    clear hss hk
    go_wp2_with fail
    refine (saPeriod_any n wr n1 (by omega)).mono ?_
    rw [HP.out]
    rintro e w1 ⟨rfl, hk1⟩
    have HK1 := Lib.hid (HK.out.nw hk1)
    have HS1 := Lib.hid (HSS.out.nw hk1)
    have z1 : wr.heap.size ≤ w1.heap.size := hk1.size
    clear hk1
    by_cases hlt : j < P
    · have t1 : (j : Int) + 1 ≤ P := by omega
      have w2 : IntKind.i64.wrap ((j : Int) + 1 + 1) = ((j + 1 + 1 : Nat) : Int) := by rw [IntWalk.i64_in _ (by omega)]; omega
      go_wp2_with fail
      refine (ciPeople_any n w1 (by omega)).mono ?_
      rintro e w2 ⟨v1, rfl, hs, hk2⟩
      have HP1 := Lib.hid hs
      have HK2 := Lib.hid (HK1.out.nw hk2)
      have HS2 := Lib.hid (HS1.out.nw hk2)
      have z2 : w1.heap.size ≤ w2.heap.size := hk2.size
      clear hs hk2
      go_wp2_with fail
      refine (ciOrder_any v1 ((j + 1 : Nat) : Int) (marks 0 n) _ w2 HP1.out (by rw [marks_length]; omega) (by omega) (by omega)).mono ?_
      rintro e w3 ⟨v2, rfl, hs2, hk3⟩
      rw [marks_length] at hs2
      obtain ⟨ys, hys⟩ : ∃ ys, outs ((j + 1 : Nat) : Int) n (marks 0 n) = ys := ⟨_, rfl⟩
      have hyl : ys.length = n := by rw [← hys, outs_length]
      have HN : Hid (allK n (j + 1) = insAt (allK n j) ys) := Lib.hid (by rw [allK, hys])
      have HGET := Lib.hid (fun a (h : a < j) => allK_get n j a h)
      have HLEN := Lib.hid (allK_len n j).1
      rw [hys] at hs2
      have hslo := hs2
      obtain ⟨gr, cr, rfl, hat, _⟩ := hs2.at_ (by rw [hyl]; omega)
      rw [hyl] at hat hslo ⊢
      have HSL := Lib.hid hslo
      have HA := Lib.hid hat
      have HK3 := Lib.hid (HK2.out.nw hk3)
      have HS3 := Lib.hid (HS2.out.nw hk3)
      have z3 : w2.heap.size ≤ w3.heap.size := hk3.size
      have HYL := Lib.hid hyl
      clear hs2 hk3 hat hys hyl hslo
      go_wp2
      go_loopw [7] (fun i wq => ∃ (a : Nat) (wz : World), a ≤ j ∧ i = .int .i64 a ∧ a + posL ys ((allK n j).drop a) = posL ys (allK n j) ∧ wz = wq ∧ Kp Nw w3 wz) (fun i _ => j - (intOf i).toNat)
      case atStart => exact ⟨0, _, Nat.zero_le _, rfl, by rw [List.drop_zero, Nat.zero_add], rfl, Kp.refl _ _⟩
      case round =>
        obtain ⟨a, wz, ha, rfl, hpos, rfl, hkz⟩ := hrel
        have HKZ := Lib.hid hkz
        have a0 : (0 : Int) ≤ a := Int.natCast_nonneg _
        have HSZ := Lib.hid (HS3.out.nw hkz)
        have HAZ := Lib.hid (HA.out.kq hkz (fun h => h))
        have z4 : w3.heap.size ≤ wz.heap.size := hkz.size
        have jb : j ≤ 27720 := by omega
        by_cases hlta : a < j
        · have a1 : (a : Int) < j := by omega
          obtain ⟨g, s, rfl, c0, hsl, _⟩ := HSZ.out.cell a (by rw [HLEN.out]; exact hlta)
          have hgl := HGET.out a hlta
          obtain ⟨zs, hzs⟩ : ∃ zs, (allK n j).getD a [] = zs := ⟨_, rfl⟩
          rw [hzs] at hsl hgl
          obtain ⟨gs, cs, rfl, hat, _⟩ := hsl.at_ (by omega)
          rw [hgl] at hat c0
          have HZ := Lib.hid hat
          have hpd := posL_drop ys (allK n j) a (by rw [HLEN.out]; exact hlta)
          rw [hzs] at hpd
          cases hbf : bef zs ys
          · rw [hbf, if_neg Bool.false_ne_true] at hpd
            have HPA : Hid (posL ys (allK n j) = a) := Lib.hid (by omega)
            have HBF := Lib.hid hbf
            clear hpos hkz hsl hgl hzs hat hpd hbf
            go_wp2_with fail
            refine (orBefore_any gs n cs _ gr cr _ zs ys wz HZ.out HAZ.out (by omega)).mono ?_
            rw [HBF.out]
            rintro e w5 ⟨rfl, hk5⟩
            have HK5 := Lib.hid (HKZ.out.nw hk5)
            have HS5 := Lib.hid (HSZ.out.nw hk5)
            clear hk5 c0
            obtain ⟨vs, hvl, hvr, _, hjj, hd⟩ := HS5.out
            have hvn : vs.length = j := hvl.trans HLEN.out
            obtain ⟨u1, u2, q1, q2, r1, b1, r2, b2⟩ := VR.cut (show VR w5 W.heap.size (.slice (some ⟨g, 0, none⟩) j c) vs from hvr) hvn a ha
            have hone : ∀ x ∈ vs, x.oneCell' = true := fun x hx => by
              obtain ⟨i, hi, rfl⟩ := List.getElem_of_mem hx
              have h9 := (hjj i (by omega)).1
              have e9 : vs.getD i nilS = vs[i] := by simp [List.getD, hi]
              rw [e9] at h9
              rcases h9.form with ⟨h, _⟩ | ⟨_, _, h, _⟩ <;> rw [h] <;> rfl
            have HJJ := Lib.hid hjj
            have HD := Lib.hid hd
            have HVL := Lib.hid hvl
            have R1 := Lib.hid r1
            have R2 := Lib.hid r2
            have B1 := Lib.hid b1
            have B2 := Lib.hid b2
            have HO := Lib.hid hone
            have HVN := Lib.hid hvn
            have HSW := Lib.hid (HSL.out.kp HK5.out (fun _ _ h => h))
            clear hvl hvr hjj hd hvn r1 r2 b1 b2 hone
            go_wp2_with (first | (at_builtin; refine wpList_vv _ rfl (.tmp 36) (.tmp 39) rfl w5.heap.size _ u1 [] (vs.take a) rfl rfl (VR.empty w5 w5.heap.size (Nat.le_refl _)) (R1.out.nw (Kp.al _ _)) B1.out (fun x hx => HO.out x (List.mem_of_mem_take hx)) (by have := HVN.out; simp; omega) (by simp) ?_))
            intro v3 wA h3 k3
            have kA : Kp Nw w5 wA := VR.after (VR.empty w5 w5.heap.size (Nat.le_refl _)) (Kp.al _ _) k3
            have H3 := Lib.hid h3
            have KA := Lib.hid kA
            have zA : w5.heap.size ≤ wA.heap.size := kA.size
            have e1 : (wA.alloc (.cells #[.slice (some ⟨gr, 0, none⟩) n cr] 30)).cell? ⟨wA.heap.size, 0, none⟩ = some (.slice (some ⟨gr, 0, none⟩) n cr) := by simp [World.cell?_alloc_at]
            have E1 := Lib.hid e1
            clear h3 k3 kA e1
            go_wp2_with (first | (at_builtin; refine wpList_vv _ rfl (.tmp 40) (.tmp 42) rfl w5.heap.size v3 _ ([] ++ vs.take a) [.slice (some ⟨gr, 0, none⟩) n cr] rfl rfl (H3.out.nw (Kp.al _ _)) (VRd.one E1.out) (fun e => by cases e) (fun x hx => by rw [List.mem_singleton] at hx; subst hx; rfl) (by have := HVN.out; simp; omega) (by simp; omega) ?_))
            intro v4 wB h4 k4
            have kB : Kp Nw w5 wB := VR.after (H3.out.nw (Kp.al wA (.cells #[.slice (some ⟨gr, 0, none⟩) n cr] 30))) (KA.out.nw (Kp.al _ _)) k4
            have H4 := Lib.hid h4
            have KB := Lib.hid kB
            have zB : w5.heap.size ≤ wB.heap.size := kB.size
            clear h4 k4 kB
            go_wp2_with (first | (at_builtin; refine wpList_vv _ rfl (.tmp 44) (.tmp 47) rfl w5.heap.size v4 u2 ([] ++ vs.take a ++ [.slice (some ⟨gr, 0, none⟩) n cr]) (vs.drop a) rfl rfl H4.out (R2.out.nw KB.out) B2.out (fun x hx => HO.out x (List.mem_of_mem_drop hx)) (by have := HVN.out; simp; omega) zB ?_))
            intro v5 wC h5 k5
            have kC : Kp Nw w5 wC := VR.after H4.out KB.out k5
            have HS6 := Lib.hid (SS.ins vs HVL.out HJJ.out HD.out HSW.out (by have := HK2.out.size; exact this) (by omega) (by have := HK5.out.size; omega) a (by rw [HLEN.out]; exact ha) kC (by rw [List.append_assoc]; exact h5))
            have HK6 := Lib.hid ((HK3.out.nw HK5.out).nw kC)
            have HEQ : Hid ((allK n j).take a ++ [ys] ++ (allK n j).drop a = allK n (j + 1)) := Lib.hid (by rw [HN.out, insAt, HPA.out])
            clear h5 k5 kC
            go_wp2
            go_roundw
            case rel => exact ⟨j + 1, v5, _, by omega, by go_num, rfl, rfl, by rw [← HEQ.out]; exact HS6.out, HK6.out⟩
            case measure => simp [intOf] <;> omega
          · rw [hbf, if_pos rfl] at hpd
            have HPA : Hid (a + 1 + posL ys ((allK n j).drop (a + 1)) = posL ys (allK n j)) := Lib.hid (by omega)
            have HBF := Lib.hid hbf
            have wa : IntKind.i64.wrap ((a : Int) + 1) = ((a + 1 : Nat) : Int) := by rw [IntWalk.i64_in _ (by omega)]; omega
            clear hpos hkz hsl hgl hzs hat hpd hbf
            go_wp2_with fail
            refine (orBefore_any gs n cs _ gr cr _ zs ys wz HZ.out HAZ.out (by omega)).mono ?_
            rw [HBF.out]
            rintro e w5 ⟨rfl, hk5⟩
            have HK5 := Lib.hid (HKZ.out.nw hk5)
            clear hk5 c0
            go_wp2
            go_roundw
            case rel => exact ⟨a + 1, _, by omega, by go_num, HPA.out, rfl, HK5.out⟩
            case measure => simp [intOf] <;> omega
        · have ej : a = j := by omega
          have HPA : Hid (posL ys (allK n j) = a) := Lib.hid (by
            rw [← hpos, List.drop_of_length_le (by rw [HLEN.out]; omega)]
            rfl)
          have a1 : ¬ (a : Int) < j := by omega
          clear hpos hkz ej
          obtain ⟨vs, hvl, hvr, _, hjj, hd⟩ := HSZ.out
          have hvn : vs.length = j := hvl.trans HLEN.out
          obtain ⟨u1, u2, q1, q2, r1, b1, r2, b2⟩ := VR.cut (show VR wz W.heap.size (.slice A j c) vs from hvr) hvn a ha
          have hone : ∀ x ∈ vs, x.oneCell' = true := fun x hx => by
            obtain ⟨i, hi, rfl⟩ := List.getElem_of_mem hx
            have h9 := (hjj i (by omega)).1
            have e9 : vs.getD i nilS = vs[i] := by simp [List.getD, hi]
            rw [e9] at h9
            rcases h9.form with ⟨h, _⟩ | ⟨_, _, h, _⟩ <;> rw [h] <;> rfl
          have HJJ := Lib.hid hjj
          have HD := Lib.hid hd
          have HVL := Lib.hid hvl
          have R1 := Lib.hid r1
          have R2 := Lib.hid r2
          have B1 := Lib.hid b1
          have B2 := Lib.hid b2
          have HO := Lib.hid hone
          have HVN := Lib.hid hvn
          have HSW := Lib.hid (HSL.out.kp HKZ.out (fun _ _ h => h))
          clear hvl hvr hjj hd hvn r1 r2 b1 b2 hone
          go_wp2_with (first | (at_builtin; refine wpList_vv _ rfl (.tmp 36) (.tmp 39) rfl wz.heap.size _ u1 [] (vs.take a) rfl rfl (VR.empty wz wz.heap.size (Nat.le_refl _)) (R1.out.nw (Kp.al _ _)) B1.out (fun x hx => HO.out x (List.mem_of_mem_take hx)) (by have := HVN.out; simp; omega) (by simp) ?_))
          intro v3 wA h3 k3
          have kA : Kp Nw wz wA := VR.after (VR.empty wz wz.heap.size (Nat.le_refl _)) (Kp.al _ _) k3
          have H3 := Lib.hid h3
          have KA := Lib.hid kA
          have zA : wz.heap.size ≤ wA.heap.size := kA.size
          have e1 : (wA.alloc (.cells #[.slice (some ⟨gr, 0, none⟩) n cr] 30)).cell? ⟨wA.heap.size, 0, none⟩ = some (.slice (some ⟨gr, 0, none⟩) n cr) := by simp [World.cell?_alloc_at]
          have E1 := Lib.hid e1
          clear h3 k3 kA e1
          go_wp2_with (first | (at_builtin; refine wpList_vv _ rfl (.tmp 40) (.tmp 42) rfl wz.heap.size v3 _ ([] ++ vs.take a) [.slice (some ⟨gr, 0, none⟩) n cr] rfl rfl (H3.out.nw (Kp.al _ _)) (VRd.one E1.out) (fun e => by cases e) (fun x hx => by rw [List.mem_singleton] at hx; subst hx; rfl) (by have := HVN.out; simp; omega) (by simp; omega) ?_))
          intro v4 wB h4 k4
          have kB : Kp Nw wz wB := VR.after (H3.out.nw (Kp.al wA (.cells #[.slice (some ⟨gr, 0, none⟩) n cr] 30))) (KA.out.nw (Kp.al _ _)) k4
          have H4 := Lib.hid h4
          have KB := Lib.hid kB
          have zB : wz.heap.size ≤ wB.heap.size := kB.size
          clear h4 k4 kB
          go_wp2_with (first | (at_builtin; refine wpList_vv _ rfl (.tmp 44) (.tmp 47) rfl wz.heap.size v4 u2 ([] ++ vs.take a ++ [.slice (some ⟨gr, 0, none⟩) n cr]) (vs.drop a) rfl rfl H4.out (R2.out.nw KB.out) B2.out (fun x hx => HO.out x (List.mem_of_mem_drop hx)) (by have := HVN.out; simp; omega) zB ?_))
          intro v5 wC h5 k5
          have kC : Kp Nw wz wC := VR.after H4.out KB.out k5
          have HS6 := Lib.hid (SS.ins vs HVL.out HJJ.out HD.out HSW.out (by have := HK2.out.size; exact this) (by omega) (by have := HKZ.out.size; omega) a (by rw [HLEN.out]; exact ha) kC (by rw [List.append_assoc]; exact h5))
          have HK6 := Lib.hid ((HK3.out.nw HKZ.out).nw kC)
          have HEQ : Hid ((allK n j).take a ++ [ys] ++ (allK n j).drop a = allK n (j + 1)) := Lib.hid (by rw [HN.out, insAt, HPA.out])
          clear h5 k5 kC
          go_wp2
          go_roundw
          case rel => exact ⟨j + 1, v5, _, by omega, by go_num, rfl, rfl, by rw [← HEQ.out]; exact HS6.out, HK6.out⟩
          case measure => simp [intOf] <;> omega
    · have ej : j = P := by omega
      subst ej
      have t1 : ¬ (j : Int) + 1 ≤ j := by omega
      go_wp2
      go_ret2
      exact ⟨_, rfl, HS1.out.from (Nat.le_refl _) z1, HK1.out⟩
theorem sAllOrders_any (p : Int) (W : World) : Calls Try.prog 4 #[.int .i64 p] W (ListSB W (vAll p).1 (vAll p).2) := by
  unfold vAll
  by_cases hp : 1 ≤ p ∧ p ≤ 5
  · rw [if_pos hp]
    obtain ⟨n, rfl⟩ : ∃ n : Nat, p = n := ⟨p.toNat, by omega⟩
    exact sAllOrders_yes n W (by omega) (by omega)
  · rw [if_neg hp]
    have hq : p < 1 ∨ 5 < p := by omega
    clear hp
    go_enter Try.func4, Try.ntmps4
    go_wp2_with (first | ((with_reducible refine (l1In_no p _ _ _ hq).mono ?_); rintro e w' ⟨rfl, rfl⟩))
    go_ret2
    exact ⟨nilS, rfl, SS.nil _ _ _, Kp.refl _ _⟩
end Go.Proofs.Ytpdnliljpjoejaa
namespace Go.Proofs.Ytpdnliljpjoejaa
open Go.ChangeShapes Go.WideShapes Go.ChangeAt Go.RowKit

def vRem (xs : List Int) : List Int × Bool := if ordB xs = true then (remsOf xs, true) else ([], false)
theorem vRem_len (xs : List Int) : (vRem xs).1.length ≤ 1000000 := by
  unfold vRem
  split
  · rename_i h
    have := ordB_parts h
    simp only [remsOf_len]
    omega
  · exact Nat.zero_le _
def vUndo (xs : List Int) : List Int × Bool := if ordB xs = true then (undoL xs, true) else ([], false)
theorem vUndo_len (xs : List Int) : (vUndo xs).1.length ≤ 1000000 := by
  unfold vUndo
  split
  · rename_i h
    have := ordB_parts h
    simp only [undoL, undoN_len]
    omega
  · exact Nat.zero_le _
theorem vOfRank_len (p r : Int) : (vOfRank p r).1.length ≤ 1000000 := by
  unfold vOfRank
  split
  · simp only [rkT_len]; omega
  · exact Nat.zero_le _

theorem lawAllOrders (p : Int) (W : World) (hI : ∀ (W : World), Calls Try.prog 5 #[.int .i64 p] W (ListSB W (vAll p).1 (vAll p).2)) :
    Calls Try.prog 3 #[.int .i64 p] W fun e w' => e = .returned (.bool true) ∧ Kp Nw W w' :=
  lawAllOrders_of p _ _ W (vAll_bd p).1 (vAll_bd p).2 (Lib.hid fun W => sAllOrders_any p W) (Lib.hid hI)
end Go.Proofs.Ytpdnliljpjoejaa
