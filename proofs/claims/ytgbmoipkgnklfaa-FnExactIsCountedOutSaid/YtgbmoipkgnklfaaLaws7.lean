/- The texts OrG, OrM, LwO7, OrS, OrT, OrU, OrW, OrX, OrY, OrZ, LwO7S, OrV, OrQ, Laws7, as one. -/
import Derived.Test.YtgbmoipkgnklfaaDeck
import Derived.Test.YtgbmoipkgnklfaaLaws
import Derived.Test.YtgbmoipkgnklfaaAt
import Derived.Test.YtgbmoipkgnklfaaBoth
import Derived.Test.YtgbmoipkgnklfaaSave
import Derived.Test.YtgbmoipkgnklfaaSS
namespace Go.Proofs.Ytgbmoipkgnklfaa
open Go.ChangeShapes Go.WideShapes Go.ChangeAt Go.RowKit
/-- is a list an order? -/
def ordB (xs : List Int) : Bool := decide (1 ≤ xs.length ∧ xs.length ≤ 12) && decide (xs.all (okR 0 ((xs.length : Int) - 1)) = true ∧ xs.Nodup)
theorem ordB_parts {xs : List Int} (h : ordB xs = true) : 1 ≤ xs.length ∧ xs.length ≤ 12 ∧ xs.all (okR 0 ((xs.length : Int) - 1)) = true ∧ xs.Nodup := by
  unfold ordB at h
  rw [Bool.and_eq_true, decide_eq_true_eq, decide_eq_true_eq] at h
  exact ⟨h.1.1, h.1.2, h.2.1, h.2.2⟩
theorem ordB_off {xs : List Int} (h : ¬ (1 ≤ xs.length ∧ xs.length ≤ 12)) : ordB xs = false := by
  unfold ordB; rw [decide_eq_false h]; rfl
theorem ordB_on {xs : List Int} (h : 1 ≤ xs.length ∧ xs.length ≤ 12) : ordB xs = decide (xs.all (okR 0 ((xs.length : Int) - 1)) = true ∧ xs.Nodup) := by
  unfold ordB; rw [decide_eq_true h]; rfl

set_option maxRecDepth 100000 in
set_option maxHeartbeats 1600000 in
theorem orGood_any (g cap n : Nat) (xs : List Int) (B : Nat) (W : World) (hs : SlAt W B g cap n xs) (hcap : n ≤ cap) (hl : n ≤ 2000000) (b : Bool) (hb : b = ordB xs) :
    Calls Try.prog 16 #[.slice (some ⟨g, 0, none⟩) n cap] W fun e w' => e = .returned (.bool b) ∧ W = w' := by
  have HS := Lib.hid hs
  have HB := Lib.hid hb
  have HR : Hid (Rd W (.slice (some ⟨g, 0, none⟩) n cap) xs) := Lib.hid hs.sl.rd
  have HLE : Hid (xs.length ≤ 2000000) := Lib.hid (by rw [hs.1]; exact hl)
  clear hs hb
  by_cases hn : (n : Int) < 1 ∨ 12 < (n : Int)
  · have HF : Hid (b = false) := Lib.hid (by rw [HB.out]; exact ordB_off (fun h => by have := HS.out.1; omega))
    go_enter Try.func16, Try.ntmps16
    go_wp2_with (first | ((with_reducible refine (l1In_no (n : Int) _ _ _ hn).mono ?_); rintro e w' ⟨rfl, rfl⟩))
    go_ret
    exact ⟨ret_bool HF.out.symm, rfl⟩
  · have n1 : 1 ≤ (n : Int) := by omega
    have n2 : (n : Int) ≤ 12 := by omega
    clear hn
    have wn : IntKind.i64.wrap ((n : Int) - 1) = (n : Int) - 1 := IntWalk.i64_in _ (by omega)
    by_cases hok : xs.all (okR 0 ((xs.length : Int) - 1)) = true
    · have HOK : Hid (xs.all (okR 0 ((n : Int) - 1)) = true) := Lib.hid (by have h9 := hok; rw [HS.out.1] at h9; exact h9)
      clear hok
      have HG : Hid (ordB xs = decide (xs.all (okR 0 ((xs.length : Int) - 1)) = true ∧ xs.Nodup)) := Lib.hid (ordB_on (by have := HS.out.1; omega))
      go_enter Try.func16, Try.ntmps16
      go_wp2_with (first | ((with_reducible refine (l1In_yes (n : Int) _ _ _ n1 n2).mono ?_); rintro e w' ⟨rfl, rfl⟩) | ((with_reducible refine (l1All_rng_as 0 ((n : Int) - 1) _ xs true _ HR.out HLE.out HOK.out).mono ?_); rintro e w' ⟨rfl, rfl⟩))
      go_loop [3, 4, 19] (fun _ _ i => ∃ j : Nat, j ≤ n ∧ i = .int .i64 j ∧ (xs.take j).Nodup) (fun _ _ i => n - (intOf i).toNat)
      case atStart => exact ⟨0, Nat.zero_le _, rfl, by simp⟩
      case round =>
        obtain ⟨j, hj, rfl, hn⟩ := hrel
        have HND := Lib.hid hn
        clear hn
        by_cases hlt : j < n
        · have hl' : j < xs.length := by rw [HS.out.1]; exact hlt
          have c2 := HS.out.cell j hlt
          obtain ⟨y, hy⟩ : ∃ y, xs.getD j 0 = y := ⟨_, rfl⟩
          have hx : xs[j] = y := by rw [← hy]; simp [hl']
          rw [hy] at c2
          have HN : Hid ((xs.take (j + 1)).Nodup ↔ (xs.take j).Nodup ∧ y ∉ xs.take j) := Lib.hid (by rw [nodup_take hl', hx])
          have q6 := cut_to g n cap j (by omega)
          have h3 : (0 : Int) ≤ j := Int.natCast_nonneg _
          have h4 : (j : Int) < n := by omega
          have h5 : (j : Int) ≤ cap := by omega
          clear hy hx hl'
          go_wp2_with fail
          refine (l1Has_any _ (xs.take j) y _ (HS.out.take j (by omega)) (by have := HS.out.1; simp; omega)).mono ?_
          rintro e w' ⟨rfl, rfl⟩
          by_cases hin : y ∈ xs.take j
          · rw [decide_eq_true hin]
            have HF : Hid (b = false) := Lib.hid (by
              rw [HB.out, HG.out, decide_eq_false_iff_not]
              rintro ⟨_, hnd⟩
              exact (HN.out.1 (nodup_of_take (j + 1) hnd)).2 hin)
            clear hin
            go_wp2
            go_ret
            exact ⟨ret_bool HF.out.symm, rfl⟩
          · rw [decide_eq_false hin]
            have HIN := Lib.hid hin
            clear hin
            go_wp2
            go_round
            case rel => exact ⟨j + 1, by omega, by go_num, HN.out.2 ⟨HND.out, HIN.out⟩⟩
            case measure => simp [intOf]; omega
        · have e : j = n := by omega
          subst e
          have ht : xs.take j = xs := List.take_of_length_le (by rw [HS.out.1]; exact Nat.le_refl _)
          have HF : Hid (b = true) := Lib.hid (by
            have h6 := HND.out
            rw [ht] at h6
            rw [HB.out, HG.out]; exact decide_eq_true ⟨by have h9 := HOK.out; rw [← HS.out.1] at h9; exact h9, h6⟩)
          clear ht
          go_wp2
          go_ret
          exact ⟨ret_bool HF.out.symm, rfl⟩
    · have hok' : xs.all (okR 0 ((xs.length : Int) - 1)) = false := by simpa using hok
      have HOK : Hid (xs.all (okR 0 ((n : Int) - 1)) = false) := Lib.hid (by have h9 := hok'; rw [HS.out.1] at h9; exact h9)
      have HF : Hid (b = false) := Lib.hid (by rw [HB.out]; unfold ordB; rw [hok']; simp)
      clear hok hok'
      go_enter Try.func16, Try.ntmps16
      go_wp2_with (first | ((with_reducible refine (l1In_yes (n : Int) _ _ _ n1 n2).mono ?_); rintro e w' ⟨rfl, rfl⟩) | ((with_reducible refine (l1All_rng_as 0 ((n : Int) - 1) _ xs false _ HR.out HLE.out HOK.out).mono ?_); rintro e w' ⟨rfl, rfl⟩))
      go_ret
      exact ⟨ret_bool HF.out.symm, rfl⟩
end Go.Proofs.Ytgbmoipkgnklfaa
namespace Go.Proofs.Ytgbmoipkgnklfaa

theorem fndD_split (x : Int) : ∀ (l : List Int) (j : Nat), x ∈ l → ∃ a : Nat, fndD x l j = ((j + a : Nat) : Int) ∧ a < l.length ∧ l.getD a 0 = x
  | [], _, h => by cases h
  | y :: r, j, h => by
    unfold fndD
    by_cases e : y = x
    · exact ⟨0, by rw [if_pos e]; rfl, by simp, by simpa using e⟩
    · rw [if_neg e]
      obtain ⟨a, h1, h2, h3⟩ := fndD_split x r (j + 1) (by
        rcases List.mem_cons.1 h with h | h
        · exact absurd h.symm e
        · exact h)
      exact ⟨a + 1, by rw [h1]; congr 1; omega, by simpa using h2, by simpa using h3⟩
/-- where one stands among those who are left -/
def atL (x : Int) (l : List Int) : Nat := (fndD x l 0).toNat
theorem atL_is (x : Int) (l : List Int) (h : x ∈ l) : fndD x l 0 = (atL x l : Int) ∧ atL x l < l.length ∧ l.getD (atL x l) 0 = x := by
  obtain ⟨a, h1, h2, h3⟩ := fndD_split x l 0 h
  rw [Nat.zero_add] at h1
  have e : atL x l = a := by unfold atL; rw [h1]; rfl
  rw [e]
  exact ⟨h1, h2, h3⟩
/-- those who are left behind the one at an index, counted on from there -/
def cutAt (l : List Int) (a : Nat) : List Int := l.drop (a + 1) ++ l.take a
theorem cutAt_len (l : List Int) (a : Nat) (h : a < l.length) : (cutAt l a).length = l.length - 1 := by unfold cutAt; simp; omega
theorem cutAt_perm (l : List Int) (a : Nat) (h : a < l.length) : (l.getD a 0 :: cutAt l a).Perm l := by
  have e : l = l.take a ++ l[a] :: l.drop (a + 1) := by rw [← List.drop_eq_getElem_cons h, List.take_append_drop]
  have ew : l.getD a 0 = l[a] := by simp [List.getD, h]
  have : (l.getD a 0 :: cutAt l a).Perm (l.take a ++ l[a] :: l.drop (a + 1)) := by
    rw [ew]
    unfold cutAt
    exact (List.Perm.cons _ List.perm_append_comm).trans List.perm_middle.symm
  exact this.trans (by rw [← e])
/-- who is left behind the first j turns of an order, and the remainders of these -/
def remL (xs l0 : List Int) : Nat → List Int
  | 0 => l0
  | j + 1 => cutAt (remL xs l0 j) (atL (xs.getD j 0) (remL xs l0 j))
def remT (xs l0 : List Int) : Nat → List Int
  | 0 => []
  | j + 1 => remT xs l0 j ++ [(((atL (xs.getD j 0) (remL xs l0 j) + 1) % (remL xs l0 j).length : Nat) : Int)]
theorem remT_len (xs l0 : List Int) : ∀ j, (remT xs l0 j).length = j
  | 0 => rfl
  | j + 1 => by rw [remT, List.length_append, remT_len xs l0 j]; rfl
theorem ordB_mem {xs : List Int} (h : ordB xs = true) (j : Nat) (hj : j < xs.length) : xs.getD j 0 ∈ marks 0 xs.length := by
  obtain ⟨h1, h2, h3, h4⟩ := ordB_parts h
  have := okR_get h3 j hj
  unfold marks
  rw [List.mem_map]
  exact ⟨(xs.getD j 0).toNat, by rw [List.mem_range]; omega, by omega⟩
theorem rem_perm {xs : List Int} (h : ordB xs = true) : ∀ j, j ≤ xs.length → (xs.take j ++ remL xs (marks 0 xs.length) j).Perm (marks 0 xs.length)
  | 0, _ => by rw [List.take_zero, List.nil_append]; exact List.Perm.refl _
  | j + 1, hj => by
    have ih := rem_perm h j (by omega)
    obtain ⟨_, _, _, h4⟩ := ordB_parts h
    have hm : xs.getD j 0 ∈ remL xs (marks 0 xs.length) j := by
      have h1 := (ih.mem_iff).2 (ordB_mem h j (by omega))
      rcases List.mem_append.1 h1 with h2 | h2
      · exfalso
        have hn := (nodup_take (xs := xs) (j := j) (by omega)).1 (nodup_of_take (j + 1) h4)
        have e : xs.getD j 0 = xs[j] := by simp [List.getD, show j < xs.length by omega]
        rw [e] at h2
        exact hn.2 h2
      · exact h2
    obtain ⟨_, a2, a3⟩ := atL_is _ _ hm
    have hp := cutAt_perm _ _ a2
    rw [a3] at hp
    have e : xs.take (j + 1) = xs.take j ++ [xs.getD j 0] := by
      rw [List.take_add_one]
      congr 1
      simp [show j < xs.length by omega]
    rw [remL, e, List.append_assoc]
    exact (List.Perm.append_left _ hp).trans ih
theorem rem_mem {xs : List Int} (h : ordB xs = true) (j : Nat) (hj : j < xs.length) : xs.getD j 0 ∈ remL xs (marks 0 xs.length) j := by
  obtain ⟨_, _, _, h4⟩ := ordB_parts h
  have h1 := ((rem_perm h j (by omega)).mem_iff).2 (ordB_mem h j hj)
  rcases List.mem_append.1 h1 with h2 | h2
  · exfalso
    have hn := (nodup_take (xs := xs) (j := j) hj).1 (nodup_of_take (j + 1) h4)
    have e : xs.getD j 0 = xs[j] := by simp [List.getD, hj]
    rw [e] at h2
    exact hn.2 h2
  · exact h2
theorem rem_len {xs : List Int} (h : ordB xs = true) (j : Nat) (hj : j ≤ xs.length) : (remL xs (marks 0 xs.length) j).length = xs.length - j := by
  have h1 := (rem_perm h j hj).length_eq
  rw [List.length_append, marks_length, List.length_take] at h1
  omega
/-- the remainders of an order -/
def remsOf (xs : List Int) : List Int := remT xs (marks 0 xs.length) xs.length
theorem remsOf_len (xs : List Int) : (remsOf xs).length = xs.length := remT_len _ _ _
end Go.Proofs.Ytgbmoipkgnklfaa
namespace Go.Proofs.Ytgbmoipkgnklfaa
open Go.ChangeShapes Go.WideShapes Go.ChangeAt Go.RowKit

/-- what a call returns that tells two times yes or no -/
def Bool2B (W : World) (a b : Bool) (e : Ending) (w' : World) : Prop := e = .returned (.tuple #[.bool a, .bool b]) ∧ Kp Nw W w'

set_option maxHeartbeats 800000 in
theorem lawRemaindersOf_bigp (Ap : Option Addr) (np cp : Nat) (W : World) (hmp : np ≤ maxLen) (hb : 1048576 < np) :
    Calls Try.prog 3 #[.slice Ap np cp] W fun e w' => e = .returned (.bool true) ∧ Kp Nw W w' := by
  have hb2 : (1048576 : Int) < np := by omega
  have hb3 : (np : Int) ≤ 9223372036854775807 := by unfold maxLen at hmp; omega
  go_enter Try.func3, Try.ntmps3
  go_wp2
  go_ret
  exact ⟨rfl, Kp.refl _ _⟩

set_option maxHeartbeats 3200000 in
set_option maxRecDepth 100000 in
theorem lawRemaindersOf_of (Ap : Option Addr) (np cp : Nat) (xsp : List Int) (zs : List Int) (b : Bool) (W : World) (hup : Rd W (.slice Ap np cp) xsp) (hnp : xsp.length = np) (hp : np ≤ 1048576) (hlen : zs.length ≤ 1000000)
    (hS : Hid (∀ (gp Bp : Nat) (W : World), SlAt W Bp gp np np xsp → Calls Try.prog 6 #[.slice (some ⟨gp, 0, none⟩) np np] W (ListB W zs b))) (hI : Hid (∀ (gp Bp : Nat) (W : World), SlAt W Bp gp np np xsp → Calls Try.prog 8 #[.slice (some ⟨gp, 0, none⟩) np np] W (ListB W zs b))) :
    Calls Try.prog 3 #[.slice Ap np cp] W fun e w' => e = .returned (.bool true) ∧ Kp Nw W w' := by
  obtain ⟨m, hm⟩ : ∃ m, zs.length = m := ⟨_, rfl⟩
  have HL : Hid (zs.length ≤ maxLen) := Lib.hid (by unfold maxLen; omega)
  have hlen : m ≤ 1000000 := by omega
  have hm0 : (0 : Int) ≤ m := Int.natCast_nonneg _
  have HM := Lib.hid hm
  clear hm
  have HUp := Lib.hid hup
  have HNp := Lib.hid hnp
  have HLXp : Hid (xsp.length ≤ maxLen) := Lib.hid (by unfold maxLen; omega)
  have n0p : (0 : Int) ≤ np := Int.natCast_nonneg _
  have q1p : (np : Int) ≤ 1048576 := by omega
  clear hup hnp
  have HK := Lib.hid (Kp.refl Nw W)
  go_enter Try.func3, Try.ntmps3
  go_wp2_with fail
  refine (toIntS_any _ np xsp _ (HUp.out.nw HK.out) HNp.out hp).mono ?_
  rintro e w1 ⟨g1, rfl, hs1, hk1, hg1, hl1⟩
  have HTp := Lib.hid hs1
  have RHTp : Hid (W.heap.size ≤ g1 ∧ g1 < w1.heap.size) := Lib.hid ⟨hg1, hl1⟩
  have HK := Lib.hid (HK.out.nw hk1)
  have z1 : W.heap.size ≤ w1.heap.size := hk1.size
  clear hs1 hk1 hg1 hl1
  go_wp2_with fail
  refine (hS.out g1 _ _ HTp.out).mono ?_
  rintro e w2 ⟨v2, rfl, hs2, hk2⟩
  obtain ⟨A2, c2, rfl⟩ := hs2.val HM.out
  have HV2 := Lib.hid hs2
  have O2 : Hid (∀ g, (Value.slice A2 m c2).ownBlock = some g → w1.heap.size ≤ g ∧ g < w2.heap.size) := Lib.hid hs2.own_ge
  have HTp := Lib.hid (HTp.out.kq hk2 (fun h => h))
  have HK := Lib.hid (HK.out.nw hk2)
  have z2 : w1.heap.size ≤ w2.heap.size := hk2.size
  clear hs2 hk2
  go_wp2_with fail
  refine (toIntS_any _ np xsp _ (HUp.out.nw HK.out) HNp.out hp).mono ?_
  rintro e w3 ⟨g3, rfl, hs3, hk3, hg3, hl3⟩
  have HXp := Lib.hid hs3
  have RHXp : Hid (w2.heap.size ≤ g3 ∧ g3 < w3.heap.size) := Lib.hid ⟨hg3, hl3⟩
  have HV2 := Lib.hid (HV2.out.below hk3.below')
  have HK := Lib.hid (HK.out.nw hk3)
  have z3 : w2.heap.size ≤ w3.heap.size := hk3.size
  clear hs3 hk3 hg3 hl3
  go_wp2_with fail
  refine (hI.out g3 _ _ HXp.out).mono ?_
  rintro e w4 ⟨v4, rfl, hs4, hk4⟩
  obtain ⟨A4, c4, rfl⟩ := hs4.val HM.out
  have HV4 := Lib.hid hs4
  have O4 : Hid (∀ g, (Value.slice A4 m c4).ownBlock = some g → w3.heap.size ≤ g ∧ g < w4.heap.size) := Lib.hid hs4.own_ge
  have HV2 := Lib.hid (HV2.out.below hk4.below')
  have HXp := Lib.hid (HXp.out.kq hk4 (fun h => h))
  have HK := Lib.hid (HK.out.nw hk4)
  have z4 : w3.heap.size ≤ w4.heap.size := hk4.size
  clear hs4 hk4
  go_wp2_with fail
  refine (eqIntS_same _ _ zs _ HV4.out.rd HV2.out.rd HL.out).mono ?_
  rintro e w5 ⟨rfl, d5, hd5⟩
  have hk5 : Kp Nw w4 w5 := by rw [hd5]; exact (Kp.refl _ _).drewN d5
  have z5 : w4.heap.size ≤ w5.heap.size := hk5.size
  clear hd5
  have HV2 := Lib.hid (HV2.out.below hk5.below')
  have HXp := Lib.hid (HXp.out.kq hk5 (fun h => h))
  have HV4 := Lib.hid (HV4.out.below hk5.below')
  have HK := Lib.hid (HK.out.nw hk5)
  clear hk5
  go_wp2_with fail
  refine (toIntS_any _ np xsp _ (HUp.out.nw HK.out) HNp.out hp).mono ?_
  rintro e w6 ⟨g6, rfl, hs6, hk6, hg6, hl6⟩
  have HYp := Lib.hid hs6
  have RHYp : Hid (w5.heap.size ≤ g6 ∧ g6 < w6.heap.size) := Lib.hid ⟨hg6, hl6⟩
  have HV2 := Lib.hid (HV2.out.below hk6.below')
  have HXp := Lib.hid (HXp.out.kq hk6 (fun h => h))
  have HV4 := Lib.hid (HV4.out.below hk6.below')
  have HK := Lib.hid (HK.out.nw hk6)
  have z6 : w5.heap.size ≤ w6.heap.size := hk6.size
  clear hs6 hk6 hg6 hl6
  go_wp2_with fail
  refine (eqIntS_same _ _ xsp _ HXp.out.sl.rd HYp.out.sl.rd HLXp.out).mono ?_
  rintro e w7 ⟨rfl, d7, hd7⟩
  have hk7 : Kp Nw w6 w7 := by rw [hd7]; exact (Kp.refl _ _).drewN d7
  have z7 : w6.heap.size ≤ w7.heap.size := hk7.size
  clear hd7
  have HV2 := Lib.hid (HV2.out.below hk7.below')
  have HXp := Lib.hid (HXp.out.kq hk7 (fun h => h))
  have HV4 := Lib.hid (HV4.out.below hk7.below')
  have HYp := Lib.hid (HYp.out.kq hk7 (fun h => h))
  have HK := Lib.hid (HK.out.nw hk7)
  clear hk7
  go_wp2_with fail
  refine (markIntS_any _ xsp (1) _ _ HXp.out.sl (by omega) (by omega) (by rw [HNp.out]; omega)).mono ?_
  rintro e w8 ⟨rfl, _, hk8⟩
  rw [HNp.out]
  have z8 : w7.heap.size ≤ w8.heap.size := hk8.size
  have Mp : Hid (∀ g, (Value.slice (some ⟨g3, 0, none⟩) np np).ownBlock = some g → w2.heap.size ≤ g ∧ g < w3.heap.size) := Lib.hid (fun g hg => by
    have e9 : g = g3 := by simp [Value.ownBlock] at hg; omega
    rw [e9]; exact RHXp.out)
  have HV2 := Lib.hid (HV2.out.kp hk8 (fun g a b => by have := O2.out g a; have := Mp.out g b; omega))
  have HV4 := Lib.hid (HV4.out.kp hk8 (fun g a b => by have := O4.out g a; have := Mp.out g b; omega))
  have HK := Lib.hid (HK.out.after hk8 (fun g hg h2 => by have := Mp.out g h2; omega))
  clear hk8
  go_wp2_with fail
  refine (eqIntS_same _ _ zs _ HV4.out.rd HV2.out.rd HL.out).mono ?_
  rintro e w9 ⟨rfl, d9, hd9⟩
  have hk9 : Kp Nw w8 w9 := by rw [hd9]; exact (Kp.refl _ _).drewN d9
  have z9 : w8.heap.size ≤ w9.heap.size := hk9.size
  clear hd9
  have HV2 := Lib.hid (HV2.out.below hk9.below')
  have HV4 := Lib.hid (HV4.out.below hk9.below')
  have HK := Lib.hid (HK.out.nw hk9)
  clear hk9
  go_wp2_with fail
  refine (markIntS_any _ zs 1 _ _ HV4.out (by omega) (by omega) (by rw [HM.out]; omega)).mono ?_
  rintro e w10 ⟨rfl, hs10, hk10⟩
  rw [HM.out] at hs10 ⊢
  have z10 : w9.heap.size ≤ w10.heap.size := hk10.size
  have HV2 := Lib.hid (HV2.out.kp hk10 (fun g a b => by have := O2.out g a; have := O4.out g b; omega))
  have HK := Lib.hid (HK.out.after hk10 (fun g hg h2 => by have := O4.out g h2; omega))
  have HV4 := Lib.hid hs10
  clear hs10 hk10
  go_wp2_with fail
  refine (heldIntS_any _ 1 m _ HV4.out.rd (by omega) (by omega) (by omega)).mono ?_
  rintro e w11 ⟨rfl, rfl⟩
  go_wp2_with fail
  refine (toIntS_any _ np xsp _ (HUp.out.nw HK.out) HNp.out hp).mono ?_
  rintro e w12 ⟨g12, rfl, hs12, hk12, hg12, hl12⟩
  have HZp := Lib.hid hs12
  have RHZp : Hid (w10.heap.size ≤ g12 ∧ g12 < w12.heap.size) := Lib.hid ⟨hg12, hl12⟩
  have HV2 := Lib.hid (HV2.out.below hk12.below')
  have HV4 := Lib.hid (HV4.out.below hk12.below')
  have HK := Lib.hid (HK.out.nw hk12)
  have z12 : w10.heap.size ≤ w12.heap.size := hk12.size
  clear hs12 hk12 hg12 hl12
  go_wp2_with fail
  refine (hI.out g12 _ _ HZp.out).mono ?_
  rintro e w13 ⟨v13, rfl, hs13, hk13⟩
  obtain ⟨A13, c13, rfl⟩ := hs13.val HM.out
  have HV13 := Lib.hid hs13
  have O13 : Hid (∀ g, (Value.slice A13 m c13).ownBlock = some g → w12.heap.size ≤ g ∧ g < w13.heap.size) := Lib.hid hs13.own_ge
  have HV2 := Lib.hid (HV2.out.below hk13.below')
  have HV4 := Lib.hid (HV4.out.below hk13.below')
  have HZp := Lib.hid (HZp.out.kq hk13 (fun h => h))
  have HK := Lib.hid (HK.out.nw hk13)
  have z13 : w12.heap.size ≤ w13.heap.size := hk13.size
  clear hs13 hk13
  go_wp2_with fail
  refine (eqIntS_same _ _ zs _ HV13.out.rd HV2.out.rd HL.out).mono ?_
  rintro e w14 ⟨rfl, d14, hd14⟩
  have hk14 : Kp Nw w13 w14 := by rw [hd14]; exact (Kp.refl _ _).drewN d14
  have z14 : w13.heap.size ≤ w14.heap.size := hk14.size
  clear hd14
  have HV2 := Lib.hid (HV2.out.below hk14.below')
  have HV4 := Lib.hid (HV4.out.below hk14.below')
  have HV13 := Lib.hid (HV13.out.below hk14.below')
  have HK := Lib.hid (HK.out.nw hk14)
  clear hk14
  go_wp2_with fail
  refine (heldIntS_any _ 1 m _ HV4.out.rd (by omega) (by omega) (by omega)).mono ?_
  rintro e wl ⟨rfl, rfl⟩
  go_wp2
  go_ret
  exact ⟨rfl, HK.out⟩

set_option maxHeartbeats 800000 in
theorem lawStepOfOrder_bigp (Ap : Option Addr) (np cp : Nat) (W : World) (hmp : np ≤ maxLen) (hb : 1048576 < np) :
    Calls Try.prog 4 #[.slice Ap np cp] W fun e w' => e = .returned (.bool true) ∧ Kp Nw W w' := by
  have hb2 : (1048576 : Int) < np := by omega
  have hb3 : (np : Int) ≤ 9223372036854775807 := by unfold maxLen at hmp; omega
  go_enter Try.func4, Try.ntmps4
  go_wp2
  go_ret
  exact ⟨rfl, Kp.refl _ _⟩

set_option maxHeartbeats 3200000 in
set_option maxRecDepth 100000 in
theorem lawStepOfOrder_of (Ap : Option Addr) (np cp : Nat) (xsp : List Int) (z : Int) (b : Bool) (W : World) (hup : Rd W (.slice Ap np cp) xsp) (hnp : xsp.length = np) (hp : np ≤ 1048576)
    (hS : Hid (∀ (gp Bp : Nat) (W : World), SlAt W Bp gp np np xsp → Calls Try.prog 12 #[.slice (some ⟨gp, 0, none⟩) np np] W (IntB W z b))) (hI : Hid (∀ (gp Bp : Nat) (W : World), SlAt W Bp gp np np xsp → Calls Try.prog 13 #[.slice (some ⟨gp, 0, none⟩) np np] W (IntB W z b))) :
    Calls Try.prog 4 #[.slice Ap np cp] W fun e w' => e = .returned (.bool true) ∧ Kp Nw W w' := by
  have HUp := Lib.hid hup
  have HNp := Lib.hid hnp
  have HLXp : Hid (xsp.length ≤ maxLen) := Lib.hid (by unfold maxLen; omega)
  have n0p : (0 : Int) ≤ np := Int.natCast_nonneg _
  have q1p : (np : Int) ≤ 1048576 := by omega
  clear hup hnp
  have HK := Lib.hid (Kp.refl Nw W)
  go_enter Try.func4, Try.ntmps4
  go_wp2_with fail
  refine (toIntS_any _ np xsp _ (HUp.out.nw HK.out) HNp.out hp).mono ?_
  rintro e w1 ⟨g1, rfl, hs1, hk1, hg1, hl1⟩
  have HTp := Lib.hid hs1
  have RHTp : Hid (W.heap.size ≤ g1 ∧ g1 < w1.heap.size) := Lib.hid ⟨hg1, hl1⟩
  have HK := Lib.hid (HK.out.nw hk1)
  have z1 : W.heap.size ≤ w1.heap.size := hk1.size
  clear hs1 hk1 hg1 hl1
  go_wp2_with fail
  refine (hS.out g1 _ _ HTp.out).mono ?_
  rintro e w2 ⟨rfl, hk2⟩
  have HTp := Lib.hid (HTp.out.kq hk2 (fun h => h))
  have HK := Lib.hid (HK.out.nw hk2)
  have z2 : w1.heap.size ≤ w2.heap.size := hk2.size
  clear hk2
  go_wp2_with fail
  refine (toIntS_any _ np xsp _ (HUp.out.nw HK.out) HNp.out hp).mono ?_
  rintro e w3 ⟨g3, rfl, hs3, hk3, hg3, hl3⟩
  have HXp := Lib.hid hs3
  have RHXp : Hid (w2.heap.size ≤ g3 ∧ g3 < w3.heap.size) := Lib.hid ⟨hg3, hl3⟩
  have HK := Lib.hid (HK.out.nw hk3)
  have z3 : w2.heap.size ≤ w3.heap.size := hk3.size
  clear hs3 hk3 hg3 hl3
  go_wp2_with fail
  refine (hI.out g3 _ _ HXp.out).mono ?_
  rintro e w4 ⟨rfl, hk4⟩
  have HXp := Lib.hid (HXp.out.kq hk4 (fun h => h))
  have HK := Lib.hid (HK.out.nw hk4)
  have z4 : w3.heap.size ≤ w4.heap.size := hk4.size
  clear hk4
  go_wp2_with fail
  refine (toIntS_any _ np xsp _ (HUp.out.nw HK.out) HNp.out hp).mono ?_
  rintro e w5 ⟨g5, rfl, hs5, hk5, hg5, hl5⟩
  have HYp := Lib.hid hs5
  have RHYp : Hid (w4.heap.size ≤ g5 ∧ g5 < w5.heap.size) := Lib.hid ⟨hg5, hl5⟩
  have HXp := Lib.hid (HXp.out.kq hk5 (fun h => h))
  have HK := Lib.hid (HK.out.nw hk5)
  have z5 : w4.heap.size ≤ w5.heap.size := hk5.size
  clear hs5 hk5 hg5 hl5
  go_wp2_with fail
  refine (eqIntS_same _ _ xsp _ HXp.out.sl.rd HYp.out.sl.rd HLXp.out).mono ?_
  rintro e w6 ⟨rfl, d6, hd6⟩
  have hk6 : Kp Nw w5 w6 := by rw [hd6]; exact (Kp.refl _ _).drewN d6
  have z6 : w5.heap.size ≤ w6.heap.size := hk6.size
  clear hd6
  have HXp := Lib.hid (HXp.out.kq hk6 (fun h => h))
  have HYp := Lib.hid (HYp.out.kq hk6 (fun h => h))
  have HK := Lib.hid (HK.out.nw hk6)
  clear hk6
  go_wp2
  go_ret
  exact ⟨rfl, HK.out⟩

set_option maxHeartbeats 800000 in
theorem lawIsCountedOut_bigp (Ap : Option Addr) (np cp : Nat) (W : World) (hmp : np ≤ maxLen) (hb : 1048576 < np) :
    Calls Try.prog 5 #[.slice Ap np cp] W fun e w' => e = .returned (.bool true) ∧ Kp Nw W w' := by
  have hb2 : (1048576 : Int) < np := by omega
  have hb3 : (np : Int) ≤ 9223372036854775807 := by unfold maxLen at hmp; omega
  go_enter Try.func5, Try.ntmps5
  go_wp2
  go_ret
  exact ⟨rfl, Kp.refl _ _⟩

set_option maxHeartbeats 3200000 in
set_option maxRecDepth 100000 in
theorem lawIsCountedOut_of (Ap : Option Addr) (np cp : Nat) (xsp : List Int) (a b : Bool) (W : World) (hup : Rd W (.slice Ap np cp) xsp) (hnp : xsp.length = np) (hp : np ≤ 1048576)
    (hS : Hid (∀ (gp Bp : Nat) (W : World), SlAt W Bp gp np np xsp → Calls Try.prog 14 #[.slice (some ⟨gp, 0, none⟩) np np] W (Bool2B W a b))) (hI : Hid (∀ (gp Bp : Nat) (W : World), SlAt W Bp gp np np xsp → Calls Try.prog 15 #[.slice (some ⟨gp, 0, none⟩) np np] W (Bool2B W a b))) :
    Calls Try.prog 5 #[.slice Ap np cp] W fun e w' => e = .returned (.bool true) ∧ Kp Nw W w' := by
  have HUp := Lib.hid hup
  have HNp := Lib.hid hnp
  have HLXp : Hid (xsp.length ≤ maxLen) := Lib.hid (by unfold maxLen; omega)
  have n0p : (0 : Int) ≤ np := Int.natCast_nonneg _
  have q1p : (np : Int) ≤ 1048576 := by omega
  clear hup hnp
  have HK := Lib.hid (Kp.refl Nw W)
  go_enter Try.func5, Try.ntmps5
  go_wp2_with fail
  refine (toIntS_any _ np xsp _ (HUp.out.nw HK.out) HNp.out hp).mono ?_
  rintro e w1 ⟨g1, rfl, hs1, hk1, hg1, hl1⟩
  have HTp := Lib.hid hs1
  have RHTp : Hid (W.heap.size ≤ g1 ∧ g1 < w1.heap.size) := Lib.hid ⟨hg1, hl1⟩
  have HK := Lib.hid (HK.out.nw hk1)
  have z1 : W.heap.size ≤ w1.heap.size := hk1.size
  clear hs1 hk1 hg1 hl1
  go_wp2_with fail
  refine (hS.out g1 _ _ HTp.out).mono ?_
  rintro e w2 ⟨rfl, hk2⟩
  have HTp := Lib.hid (HTp.out.kq hk2 (fun h => h))
  have HK := Lib.hid (HK.out.nw hk2)
  have z2 : w1.heap.size ≤ w2.heap.size := hk2.size
  clear hk2
  go_wp2_with fail
  refine (toIntS_any _ np xsp _ (HUp.out.nw HK.out) HNp.out hp).mono ?_
  rintro e w3 ⟨g3, rfl, hs3, hk3, hg3, hl3⟩
  have HXp := Lib.hid hs3
  have RHXp : Hid (w2.heap.size ≤ g3 ∧ g3 < w3.heap.size) := Lib.hid ⟨hg3, hl3⟩
  have HK := Lib.hid (HK.out.nw hk3)
  have z3 : w2.heap.size ≤ w3.heap.size := hk3.size
  clear hs3 hk3 hg3 hl3
  go_wp2_with fail
  refine (hI.out g3 _ _ HXp.out).mono ?_
  rintro e w4 ⟨rfl, hk4⟩
  have HXp := Lib.hid (HXp.out.kq hk4 (fun h => h))
  have HK := Lib.hid (HK.out.nw hk4)
  have z4 : w3.heap.size ≤ w4.heap.size := hk4.size
  clear hk4
  go_wp2_with fail
  refine (toIntS_any _ np xsp _ (HUp.out.nw HK.out) HNp.out hp).mono ?_
  rintro e w5 ⟨g5, rfl, hs5, hk5, hg5, hl5⟩
  have HYp := Lib.hid hs5
  have RHYp : Hid (w4.heap.size ≤ g5 ∧ g5 < w5.heap.size) := Lib.hid ⟨hg5, hl5⟩
  have HXp := Lib.hid (HXp.out.kq hk5 (fun h => h))
  have HK := Lib.hid (HK.out.nw hk5)
  have z5 : w4.heap.size ≤ w5.heap.size := hk5.size
  clear hs5 hk5 hg5 hl5
  go_wp2_with fail
  refine (eqIntS_same _ _ xsp _ HXp.out.sl.rd HYp.out.sl.rd HLXp.out).mono ?_
  rintro e w6 ⟨rfl, d6, hd6⟩
  have hk6 : Kp Nw w5 w6 := by rw [hd6]; exact (Kp.refl _ _).drewN d6
  have z6 : w5.heap.size ≤ w6.heap.size := hk6.size
  clear hd6
  have HXp := Lib.hid (HXp.out.kq hk6 (fun h => h))
  have HYp := Lib.hid (HYp.out.kq hk6 (fun h => h))
  have HK := Lib.hid (HK.out.nw hk6)
  clear hk6
  go_wp2
  go_ret
  exact ⟨rfl, HK.out⟩

end Go.Proofs.Ytgbmoipkgnklfaa
namespace Go.Proofs.Ytgbmoipkgnklfaa
open Go.ChangeShapes Go.WideShapes Go.ChangeAt Go.RowKit
set_option maxRecDepth 100000 in
set_option maxHeartbeats 3200000 in
theorem orRest_any (g n B : Nat) (xs : List Int) (W : World) (hs : SlAt W B g n n xs) (hl : n ≤ 1048576) (hb : ordB xs = true) : Calls Try.prog 17 #[.slice (some ⟨g, 0, none⟩) n n] W (Makes W (remsOf xs)) := by
  have hb2 := ordB_parts hb
  have hlen := hs.1
  have n1 : 1 ≤ n := by omega
  have n2 : n ≤ 12 := by omega
  have HS := Lib.hid hs
  have HB := Lib.hid hb
  have HLX := Lib.hid hlen
  clear hs hb hb2 hlen
  go_enter Try.func17, Try.ntmps17
  go_wp2_with fail
  refine (ciPeople_any n W (by omega)).mono ?_
  rintro e w1 ⟨v0, rfl, hs0, hk0⟩
  have HS0 := Lib.hid hs0
  have HK0 := Lib.hid hk0
  clear hs0 hk0
  go_wp2
  go_loopw [3, 4, 13] (fun u0 r0 i wq => ∃ (j : Nat) (u r : Value) (wr : World), j ≤ n ∧ i = .int .i64 j ∧ u = u0 ∧ r = r0 ∧ wr = wq ∧ Sl wr W.heap.size u (remL xs (marks 0 n) j) ∧ Sl wr W.heap.size r (remT xs (marks 0 n) j) ∧ (∀ b, u.ownBlock = some b → r.ownBlock ≠ some b) ∧ Kp Nw W wr) (fun _ _ i _ => n - (intOf i).toNat)
  case atStart => exact ⟨0, _, _, _, Nat.zero_le _, rfl, rfl, rfl, rfl, HS0.out, Sl.nil _ _, (fun b _ e => by simp [Value.ownBlock] at e), HK0.out⟩
  case round =>
    obtain ⟨j, u, r, wr, hj, rfl, rfl, rfl, rfl, hu, hr, hdi, hk⟩ := hrel
    have HR := Lib.hid hr
    have HDI := Lib.hid hdi
    have HK := Lib.hid hk
    have j0 : (0 : Int) ≤ j := Int.natCast_nonneg _
    by_cases hlt : j < n
    · have j1 : (j : Int) < n := by omega
      obtain ⟨l, hl'⟩ : ∃ l, remL xs (marks 0 n) j = l := ⟨_, rfl⟩
      obtain ⟨x, hx⟩ : ∃ x, xs.getD j 0 = x := ⟨_, rfl⟩
      have hmem : x ∈ l := by
        have := rem_mem HB.out j (by rw [HLX.out]; exact hlt)
        rw [HLX.out, hl', hx] at this
        exact this
      have hll : l.length = n - j := by
        have := rem_len HB.out j (by rw [HLX.out]; omega)
        rw [HLX.out, hl'] at this
        exact this
      obtain ⟨m, hm⟩ : ∃ m, n - j = m := ⟨_, rfl⟩
      have hmb : m ≤ 12 := by omega
      rw [hm] at hll
      rw [hl'] at hu
      obtain ⟨gu, cu, rfl, hua, hc1, hc2, _, _⟩ := hu.at_ (by omega)
      rw [hll] at hua hc1 ⊢
      obtain ⟨ha1, ha2, ha3⟩ := atL_is x l hmem
      obtain ⟨a, haa⟩ : ∃ a, atL x l = a := ⟨_, rfl⟩
      rw [haa] at ha1 ha2
      rw [hll] at ha2
      have cx := keepc HK.out (HS.out.cell j hlt) (fun h => h)
      rw [hx] at cx
      have hst1 : remL xs (marks 0 n) (j + 1) = cutAt l a := by rw [remL, hl', hx, haa]
      have hst2 : remT xs (marks 0 n) (j + 1) = remT xs (marks 0 n) j ++ [(((a + 1) % m : Nat) : Int)] := by rw [remT, hl', hx, haa, hll]
      have HT1 := Lib.hid hst1
      have HT2 := Lib.hid hst2
      have HLL := Lib.hid hll
      have HFD := Lib.hid ha1
      have HRL := Lib.hid (remT_len xs (marks 0 n) j)
      have HUR := Lib.hid hu
      have HUA := Lib.hid hua
      obtain ⟨z, hz⟩ : ∃ z, (a + 1) % m = z := ⟨_, rfl⟩
      rw [hz] at HT2
      have t1 : ((a : Int) + 1).tmod (m : Int) = (z : Int) := by rw [Int.tmod_eq_emod_of_nonneg (by omega), ← hz]; simp
      have hzm : z < m := by rw [← hz]; exact Nat.mod_lt _ (by omega)
      have t2 : IntKind.i64.wrap (z : Int) = (z : Int) := IntWalk.i64_in _ (by omega)
      have m1 : (m : Int) ≠ 0 := by omega
      have m2 : ¬ (m : Int) = 0 := by omega
      have m3 : ((m : Int) == 0) = false := by simp; omega
      have a0 : (0 : Int) ≤ a := Int.natCast_nonneg _
      unfold maxLen at hc2
      have q1 : IntKind.i64.wrap ((a : Int) + 1) = (a : Int) + 1 := IntWalk.i64_in _ (by omega)
      have q2 : (0 : Int) ≤ (a : Int) + 1 := by omega
      have q3 : (a : Int) + 1 ≤ m := by omega
      have q4 : ((a : Int) + 1).toNat = a + 1 := by omega
      have q5 : (a : Int) ≤ cu := by omega
      have q6 := cut_to gu m cu a (by omega)
      obtain ⟨Ad, had, q7⟩ := cut_from gu m cu (a + 1) (by omega) (by omega)
      rw [show ((a + 1 : Nat) : Int) = (a : Int) + 1 from rfl] at q7
      have AD := Lib.hid had
      clear had
      have hz1 : W.heap.size ≤ wr.heap.size := HK.out.size
      clear hu hr hdi hk hl' hx hmem hll hm hua ha1 ha3 haa hst1 hst2 hz
      go_wp2_with fail
      refine (ciFind_any _ l x _ HUA.out.sl.rd (by rw [HLL.out]; omega)).mono ?_
      rw [HFD.out]
      rintro e w' ⟨rfl, rfl⟩
      go_wp2_with (first | (at_builtin; refine wpList_app _ rfl (.tmp 20) (.tmp 26) rfl W.heap.size r _ (remT xs (marks 0 n) j) [(z : Int)] rfl rfl (HR.out.below (Kp.al _ _).below') (Rd.one (g := wr.heap.size) (by simp)) nil_one (by rw [HRL.out]; simp; omega) (by simp; omega) ?_))
      intro r' w2 hs2 hk2 hat2
      have k2 : Kp (fun b => r.ownBlock = some b) wr w2 := ((Kp.refl _ wr).alloc _).after hk2 (fun _ _ e => e)
      have HU2 := Lib.hid (HUA.out.kq k2 (fun e => HDI.out gu rfl e))
      have HK2 := Lib.hid (HK.out.after k2 (fun b hb e => by have := (HR.out.own_ge b e).1; omega))
      have HS2 := Lib.hid hs2
      have z2 : wr.heap.size ≤ w2.heap.size := k2.size
      clear hs2 hk2 hat2 k2 cx
      go_wp2_with fail
      go_region_held3 (fun w' => Kp Nw w2 w' ∧ True)
        (first
          | exact ⟨(Kp.refl _ _).drew, trivial⟩
          | exact ⟨hkW7, trivial⟩
          | exact ⟨hkW6, trivial⟩
          | fail)
        (first
          | (go_at_call 27
             refine (l1Own_any _ (l.drop (a + 1)) _ (Rd.nw' (HU2.out.drop (a + 1) (by omega) _ _ AD.out) (‹Kp Nw w2 _ ∧ _›.1)) (HU2.out.drop_vn _ _ _) (by have := HLL.out; simp; omega)).mono ?_
             rintro e w6 ⟨v6, rfl, hs6, hk6⟩
             have hkW6 := (‹Kp Nw w2 _ ∧ _›.1).nw hk6)
          | (refine step_app _ (by rfl) (.tmp 32) (.tmp 35) (by rfl) w2.heap.size v6 _ (l.drop (a + 1)) (l.take a) (by rfl) (by rfl) hs6 (Rd.nw' (HU2.out.take a (by omega)) hkW6) (HU2.out.take_vn a (by omega) _) (by have := HLL.out; simp; omega) hkW6.size ?_
             intro v7 w7 hs7 hk7 _
             have hkW7 := hkW6.own hs6 hk7)
          | fail)
      have HK7 := Lib.hid (HK2.out.nw hkW7)
      have HS7 := Lib.hid (show Sl w7 W.heap.size v7 (cutAt l a) from hs7.from (by omega))
      have HR7 := Lib.hid (HS2.out.below hkW7.below')
      have HD7 : Hid (∀ b, v7.ownBlock = some b → r'.ownBlock ≠ some b) := Lib.hid (fun b h1 h2 => by have h3 := (hs7.own_ge b h1).1; have h4 := (HS2.out.own_ge b h2).2; omega)
      clear hs7 hk7 hkW7 hs6 hk6 hkW6
      go_wp2
      go_roundw
      case rel => exact ⟨j + 1, v7, r', _, by omega, by go_num, rfl, rfl, rfl, by rw [HT1.out]; exact HS7.out, by rw [HT2.out]; exact HR7.out, HD7.out, HK7.out⟩
      case measure => simp [intOf] <;> omega
    · have ej : j = n := by omega
      subst ej
      have HF := Lib.hid (show Sl wr W.heap.size r (remsOf xs) from by unfold remsOf; rw [HLX.out]; exact hr)
      clear hu hr hdi hk
      go_wp2
      go_ret
      exact ⟨r, rfl, HF.out, HK.out⟩

theorem sRemaindersOf_no (g n B : Nat) (xs : List Int) (W : World) (hs : SlAt W B g n n xs) (hl : n ≤ 1048576) (hb : ordB xs = false) : Calls Try.prog 6 #[.slice (some ⟨g, 0, none⟩) n n] W (ListB W [] false) := by
  have HS := Lib.hid hs
  have HB := Lib.hid hb
  clear hs hb
  go_enter Try.func6, Try.ntmps6
  go_wp2_with (first | ((with_reducible refine (orGood_any g n n xs B _ HS.out (Nat.le_refl _) (by omega) false HB.out.symm).mono ?_); rintro e w' ⟨rfl, rfl⟩))
  go_ret2
  exact ⟨.slice none 0 0, rfl, Sl.nil _ _, Kp.refl _ _⟩

set_option maxRecDepth 100000 in
set_option maxHeartbeats 3200000 in
theorem sRemaindersOf_yes (g n B : Nat) (xs : List Int) (W : World) (hs : SlAt W B g n n xs) (hl : n ≤ 1048576) (hb : ordB xs = true) : Calls Try.prog 6 #[.slice (some ⟨g, 0, none⟩) n n] W (ListB W (remsOf xs) true) := by
  have HS := Lib.hid hs
  have HB := Lib.hid hb
  clear hs hb
  go_enter Try.func6, Try.ntmps6
  go_wp2_with (first | ((with_reducible refine (orGood_any g n n xs B _ HS.out (Nat.le_refl _) (by omega) true HB.out.symm).mono ?_); rintro e w' ⟨rfl, rfl⟩))
  refine (orRest_any g n B xs _ HS.out hl HB.out).mono ?_
  rintro e w1 ⟨v, rfl, hs1, hk1⟩
  have HS1 := Lib.hid hs1
  have HK1 := Lib.hid hk1
  clear hs1 hk1
  go_wp2
  go_ret2
  exact ⟨v, rfl, HS1.out, HK1.out⟩

/-- who is left behind the first j turns with remainders, and who went -/
def oL (us l0 : List Int) : Nat → List Int
  | 0 => l0
  | j + 1 => cutAt (oL us l0 j) (((us.getD j 0 + (oL us l0 j).length - 1) % ((oL us l0 j).length : Int)).toNat)
def oT (us l0 : List Int) : Nat → List Int
  | 0 => []
  | j + 1 => oT us l0 j ++ [(oL us l0 j).getD (((us.getD j 0 + (oL us l0 j).length - 1) % ((oL us l0 j).length : Int)).toNat) 0]
theorem oT_len (us l0 : List Int) : ∀ j, (oT us l0 j).length = j
  | 0 => rfl
  | j + 1 => by rw [oT, List.length_append, oT_len us l0 j]; rfl
theorem oP_lt (u : Int) (m : Nat) (h : 0 < m) : ((u + m - 1) % (m : Int)).toNat < m := by
  have h1 := Int.emod_nonneg (u + m - 1) (b := (m : Int)) (by omega)
  have h2 := Int.emod_lt_of_pos (u + m - 1) (b := (m : Int)) (by omega)
  omega
theorem oL_len (us l0 : List Int) : ∀ j, j ≤ l0.length → (oL us l0 j).length = l0.length - j
  | 0, _ => rfl
  | j + 1, h => by
    have ih := oL_len us l0 j (by omega)
    rw [oL, cutAt_len _ _ (oP_lt _ _ (by omega)), ih]
    omega
def okU (us : List Int) (j : Nat) : Bool := okR 0 ((us.length : Int) - j - 1) (us.getD j 0)
def vOrR (us : List Int) : List Int × Bool := if (1 ≤ us.length ∧ us.length ≤ 12) ∧ ∀ j, j < us.length → okU us j = true then (oT us (marks 0 us.length) us.length, true) else ([], false)
theorem vOrR_len (us : List Int) : (vOrR us).1.length ≤ 1000000 := by
  unfold vOrR
  split
  · rename_i h
    rw [oT_len]; omega
  · exact Nat.zero_le _
end Go.Proofs.Ytgbmoipkgnklfaa
namespace Go.Proofs.Ytgbmoipkgnklfaa
open Go.ChangeShapes Go.WideShapes Go.ChangeAt Go.RowKit

/-- two orders joined -/
def joinL (xs ys : List Int) : List Int := ys.map (fun y => xs.getD y.toNat 0)
theorem joinL_len (xs ys : List Int) : (joinL xs ys).length = ys.length := by unfold joinL; simp
theorem joinL_take (xs ys : List Int) (k : Nat) (h : k < ys.length) : joinL xs (ys.take (k + 1)) = joinL xs (ys.take k) ++ [xs.getD (ys.getD k 0).toNat 0] := by
  unfold joinL
  have e : ys[k]? = some (ys.getD k 0) := by simp [h]
  rw [List.take_add_one, e, List.map_append]
  rfl
theorem ordB_get {xs : List Int} (h : ordB xs = true) (j : Nat) (hj : j < xs.length) : 0 ≤ xs.getD j 0 ∧ xs.getD j 0 < xs.length := by
  obtain ⟨h1, h2, h3, h4⟩ := ordB_parts h
  have := okR_get h3 j hj
  omega
def vJoin (xs ys : List Int) : List Int × Bool := if ordB xs = true ∧ ordB ys = true ∧ xs.length = ys.length then (joinL xs ys, true) else ([], false)
theorem vJoin_len (xs ys : List Int) : (vJoin xs ys).1.length ≤ 1000000 := by
  unfold vJoin
  split
  · rename_i h
    have := ordB_parts h.2.1
    rw [joinL_len]; omega
  · exact Nat.zero_le _
/-- an order undone, up to a turn -/
def undoN (xs : List Int) : Nat → List Int
  | 0 => List.replicate xs.length 0
  | j + 1 => (undoN xs j).set (xs.getD j 0).toNat (j : Int)
theorem undoN_len (xs : List Int) : ∀ j, (undoN xs j).length = xs.length
  | 0 => by simp [undoN]
  | j + 1 => by rw [undoN, List.length_set, undoN_len xs j]
def undoL (xs : List Int) : List Int := undoN xs xs.length
/-- an order whose people are told by greater numbers, around -/
def turnedL (xs : List Int) (u : Int) : List Int := xs.map (fun x => (x + u) % (xs.length : Int))
theorem turnedL_len (xs : List Int) (u : Int) : (turnedL xs u).length = xs.length := by unfold turnedL; simp
def turnedT (xs : List Int) (u : Int) (n j : Nat) : List Int := (xs.take j).map (fun x => (x + u) % (n : Int))
theorem turnedT_succ (xs : List Int) (u : Int) (n j : Nat) (h : j < xs.length) : turnedT xs u n (j + 1) = turnedT xs u n j ++ [(xs.getD j 0 + u) % (n : Int)] := by
  unfold turnedT
  have e : xs[j]? = some (xs.getD j 0) := by simp [h]
  rw [List.take_add_one, e, List.map_append]
  rfl
def vTurned (xs : List Int) (u : Int) : List Int × Bool := if ordB xs = true ∧ 0 ≤ u ∧ u ≤ (xs.length : Int) - 1 then (turnedL xs u, true) else ([], false)
theorem vTurned_len (xs : List Int) (u : Int) : (vTurned xs u).1.length ≤ 1000000 := by
  unfold vTurned
  split
  · rename_i h
    have := ordB_parts h.1
    rw [turnedL_len]; omega
  · exact Nat.zero_le _
end Go.Proofs.Ytgbmoipkgnklfaa
namespace Go.Proofs.Ytgbmoipkgnklfaa
open Go.ChangeShapes Go.WideShapes Go.ChangeAt Go.RowKit

/-- the least number that two divide -/
def lcmN (x y : Nat) : Nat := x / Nat.gcd x y * y
theorem lcmN_le (x y : Nat) : lcmN x y ≤ x * y := Nat.mul_le_mul_right y (Nat.div_le_self _ _)
set_option maxHeartbeats 1600000 in
theorem orLeast_any (x y : Nat) (W : World) (x1 : 1 ≤ x) (y1 : 1 ≤ y) (hxy : x * y ≤ 4000000000000000000) :
    Calls Try.prog 39 #[.int .i64 x, .int .i64 y] W fun e w' => e = .returned (.int .i64 (lcmN x y : Nat)) ∧ Kp Nw W w' := by
  have hx : x ≤ 4000000000000000000 := Nat.le_trans (Nat.le_mul_of_pos_right x (by omega)) hxy
  have hy : y ≤ 4000000000000000000 := Nat.le_trans (Nat.le_mul_of_pos_left y (by omega)) hxy
  have hle := lcmN_le x y
  obtain ⟨G, hG⟩ : ∃ G, Nat.gcd x y = G := ⟨_, rfl⟩
  have hG1 : 1 ≤ G := by rw [← hG]; exact Nat.gcd_pos_of_pos_left y (by omega)
  obtain ⟨R, hR⟩ : ∃ R, lcmN x y = R := ⟨_, rfl⟩
  have hRv : x / G * y = R := by rw [← hR, lcmN, hG]
  rw [hR] at hle ⊢
  have hR2 : R ≤ 4000000000000000000 := by omega
  have HG := Lib.hid hG
  have HRV := Lib.hid hRv
  clear hG hR hRv hxy hle
  go_enter Try.func39, Try.ntmps39
  go_wp2
  go_loopw [5, 6] (fun u v wq => ∃ (a b : Nat) (wr : World), u = .int .i64 a ∧ v = .int .i64 b ∧ wr = wq ∧ Nat.gcd a b = G ∧ a ≤ 4000000000000000000 ∧ b ≤ 4000000000000000000 ∧ Kp Nw W wr) (fun _ v _ => (intOf v).toNat)
  case atStart => exact ⟨x, y, _, rfl, rfl, rfl, HG.out, hx, hy, Kp.refl _ _⟩
  case round =>
    obtain ⟨a, b, wr, rfl, rfl, rfl, hg, ha, hb, hk⟩ := hrel
    have HK := Lib.hid hk
    clear hk
    by_cases hb0 : b = 0
    · subst hb0
      have e : a = G := by rw [Nat.gcd_zero_right] at hg; exact hg
      subst e
      have d1 : (x : Int).tdiv (a : Int) = ((x / a : Nat) : Int) := by rw [Int.tdiv_eq_ediv_of_nonneg (by omega)]; simp
      have hxa : x / a ≤ x := Nat.div_le_self _ _
      obtain ⟨q, hq⟩ : ∃ q, x / a = q := ⟨_, rfl⟩
      rw [hq] at d1 hxa
      have hq2 : q * y = R := by rw [← hq]; exact HRV.out
      have d2 : IntKind.i64.wrap (q : Int) = (q : Int) := IntWalk.i64_in _ (by omega)
      have d3 : (q : Int) * (y : Int) = (R : Int) := by rw [← hq2]; simp
      have d4 : IntKind.i64.wrap (R : Int) = (R : Int) := IntWalk.i64_in _ (by omega)
      have m1 : (a : Int) ≠ 0 := by omega
      have m2 : ¬ (a : Int) = 0 := by omega
      have m3 : ((a : Int) == 0) = false := by simp; omega
      clear hg hq hq2
      go_wp2
      go_ret
      exact ⟨rfl, HK.out⟩
    · have b1 : (b : Int) > 0 := by omega
      have HGG : Hid (Nat.gcd b (a % b) = G) := Lib.hid (by rw [Nat.gcd_comm, ← Nat.gcd_rec, Nat.gcd_comm]; exact hg)
      have y0 : (0 : Int) ≤ a := Int.natCast_nonneg _
      have z0 : (0 : Int) ≤ b := Int.natCast_nonneg _
      have z1 : (0 : Int) < b := by omega
      have z2 : ¬ (b : Int) = 0 := by omega
      have hm : a % b < b := Nat.mod_lt _ (by omega)
      have wm : IntKind.i64.wrap ((a : Int).tmod b) = ((a % b : Nat) : Int) := by rw [Int.tmod_eq_emod_of_nonneg y0, ← Int.natCast_emod, IntWalk.i64_in _ (by omega)]
      clear hg
      go_wp2
      go_region
      all_goals go_wp2
      all_goals
        go_roundw
        case rel => exact ⟨b, a % b, _, rfl, rfl, rfl, HGG.out, hb, by omega, HK.out.drew⟩
        case measure => simp [intOf] <;> omega

/-- the first of so many numbers, each by b greater, that is r modulo m -/
def tryN (m b r : Nat) : Nat → Nat → Option Nat
  | 0, _ => none
  | k + 1, s => if s % m = r then some s else tryN m b r k (s + b)
/-- the step and what it can be greater by, behind the first j turns -/
def nxtS (m b : Nat) : Option Nat → Option (Nat × Nat)
  | none => none
  | some s => some (s, lcmN b m)
def stN (us : List Int) (n : Nat) : Nat → Option (Nat × Nat)
  | 0 => some (1, 1)
  | j + 1 => match stN us n j with
    | none => none
    | some (s, b) => nxtS (n - j) b (tryN (n - j) b (us.getD j 0).toNat (n - j) s)
def fstS : Option (Nat × Nat) → Nat
  | some (s, _) => s
  | none => 0
theorem stN_none (us : List Int) (n j : Nat) (h : stN us n j = none) : ∀ k, stN us n (j + k) = none
  | 0 => h
  | k + 1 => by rw [Nat.add_succ, stN, stN_none us n j h k]
def stepO (xs : List Int) : Nat := fstS (stN (remsOf xs) xs.length xs.length)
theorem tryN_le (m b r : Nat) : ∀ (k s s' : Nat), tryN m b r k s = some s' → s ≤ s' ∧ s' ≤ s + k * b
  | 0, s, s', h => by cases h
  | k + 1, s, s', h => by
    unfold tryN at h
    split at h
    · injection h with h; subst h; exact ⟨Nat.le_refl _, Nat.le_add_right _ _⟩
    · have := tryN_le m b r k (s + b) s' h
      have e : (k + 1) * b = k * b + b := Nat.succ_mul k b
      omega
theorem remT_nn (xs l0 : List Int) : ∀ j, ∀ x ∈ remT xs l0 j, 0 ≤ x
  | 0, x, h => by cases h
  | j + 1, x, h => by
    rw [remT] at h
    rcases List.mem_append.1 h with h | h
    · exact remT_nn xs l0 j x h
    · rw [List.mem_singleton] at h
      rw [h]; exact Int.natCast_nonneg _
/-- bounds -/
theorem stN_bd (us : List Int) (n : Nat) (hn : n ≤ 12) : ∀ j s b, j ≤ n → stN us n j = some (s, b) → 1 ≤ s ∧ s ≤ 2 * 12 ^ j ∧ 1 ≤ b ∧ b ≤ 12 ^ j
  | 0, s, b, _, h => by
    unfold stN at h
    injection h with h
    injection h with h1 h2
    subst h1; subst h2
    exact ⟨Nat.le_refl _, by decide, Nat.le_refl _, by decide⟩
  | j + 1, s, b, hj, h => by
    unfold stN at h
    split at h
    · cases h
    · rename_i s0 b0 h0
      have ih := stN_bd us n hn j s0 b0 (by omega) h0
      cases h1 : tryN (n - j) b0 (us.getD j 0).toNat (n - j) s0 with
      | none => rw [h1] at h; cases h
      | some s1 =>
        rw [h1] at h
        unfold nxtS at h
        injection h with h
        injection h with h2 h3
        subst h2
        have ht := tryN_le _ _ _ _ _ _ h1
        have hp : 12 ^ (j + 1) = 12 ^ j * 12 := Nat.pow_succ 12 j
        obtain ⟨P, hP⟩ : ∃ P, 12 ^ j = P := ⟨_, rfl⟩
        rw [hP] at ih hp
        have hk : (n - j) * b0 ≤ 12 * b0 := Nat.mul_le_mul_right b0 (by omega)
        have hl := lcmN_le b0 (n - j)
        have hl2 : b0 * (n - j) ≤ b0 * 12 := Nat.mul_le_mul_left b0 (by omega)
        have hpos : 1 ≤ lcmN b0 (n - j) := by
          unfold lcmN
          have hg := Nat.gcd_le_left (n - j) (show 0 < b0 by omega)
          have hg0 : 0 < Nat.gcd b0 (n - j) := Nat.gcd_pos_of_pos_left _ (by omega)
          have hd : 0 < b0 / Nat.gcd b0 (n - j) := Nat.div_pos hg hg0
          exact Nat.mul_pos hd (by omega)
        rw [hp]
        rw [h3] at hl hpos
        exact ⟨by omega, by omega, hpos, by omega⟩
theorem pow12 (j : Nat) (h : j ≤ 11) : 12 ^ j ≤ 743008370688 := by
  have := Nat.pow_le_pow_right (show 0 < 12 by decide) h
  exact Nat.le_trans this (by decide)
theorem stepO_bd {xs : List Int} (h : xs.length ≤ 12) : stepO xs ≤ 20000000000000 := by
  unfold stepO fstS
  split
  · rename_i s b hs
    have h1 := stN_bd (remsOf xs) xs.length h xs.length s b (Nat.le_refl _) hs
    have h2 := Nat.pow_le_pow_right (show 0 < 12 by decide) h
    have h3 : (12 : Nat) ^ 12 = 8916100448256 := by decide
    omega
  · omega
set_option maxRecDepth 1000000 in
set_option maxHeartbeats 6400000 in
theorem orStep_any (g n B : Nat) (xs : List Int) (W : World) (hs : SlAt W B g n n xs) (hl : n ≤ 1048576) (hb : ordB xs = true) : Calls Try.prog 20 #[.slice (some ⟨g, 0, none⟩) n n] W fun e w' => e = .returned (.int .i64 (stepO xs : Nat)) ∧ Kp Nw W w' := by
  have hp := ordB_parts hb
  have hlen := hs.1
  have n1 : 1 ≤ n := by omega
  have n2 : n ≤ 12 := by omega
  have HS := Lib.hid hs
  have HB := Lib.hid hb
  obtain ⟨us, hus⟩ : ∃ us, remsOf xs = us := ⟨_, rfl⟩
  have hul : us.length = n := by rw [← hus, remsOf_len, hlen]
  have HNN : Hid (∀ j, j < n → 0 ≤ us.getD j 0) := Lib.hid (fun j hj => by
    have hm : us.getD j 0 ∈ us := by
      have : us.getD j 0 = us[j]'(by omega) := by simp [List.getD, show j < us.length by omega]
      rw [this]; exact List.getElem_mem _
    rw [← hus] at hm ⊢
    exact remT_nn _ _ _ _ hm)
  obtain ⟨V, hV⟩ : ∃ V, stepO xs = V := ⟨_, rfl⟩
  have HV : Hid (V = fstS (stN us n n)) := Lib.hid (by rw [← hV]; unfold stepO; rw [hus, hlen])
  rw [hV]
  have HUS := Lib.hid hus
  have HUL := Lib.hid hul
  clear hs hb hp hlen hus hul hV
  go_enter Try.func20, Try.ntmps20
  go_wp2_with fail
  refine (orRest_any g n B xs W HS.out hl HB.out).mono ?_
  rw [HUS.out]
  rintro e w1 ⟨v, rfl, hs1, hk1⟩
  obtain ⟨gr, cr, rfl, hat, _⟩ := hs1.at_ (by rw [HUL.out]; omega)
  rw [HUL.out] at hat ⊢
  have HR := Lib.hid hat
  have HK := Lib.hid hk1
  clear hs1 hk1 hat
  go_wp2
  go_loopw [5, 6, 18] (fun u v i wq => ∃ (j s b : Nat) (wr : World), j ≤ n ∧ i = .int .i64 j ∧ u = .int .i64 s ∧ v = .int .i64 b ∧ wr = wq ∧ stN us n j = some (s, b) ∧ Kp Nw w1 wr) (fun _ _ i _ => n - (intOf i).toNat)
  case atStart => exact ⟨0, 1, 1, _, Nat.zero_le _, rfl, rfl, rfl, rfl, rfl, Kp.refl _ _⟩
  case round =>
    obtain ⟨j, s, b, wr, hj, rfl, rfl, rfl, rfl, hst, hkr⟩ := hrel
    have HKR := Lib.hid hkr
    clear hkr
    have j0 : (0 : Int) ≤ j := Int.natCast_nonneg _
    by_cases hlt : j < n
    · have j1 : (j : Int) < n := by omega
      obtain ⟨hs1, hs2, hb1, hb2⟩ := stN_bd us n n2 j s b (by omega) hst
      have hpw := pow12 j (by omega)
      obtain ⟨P, hP⟩ : ∃ P, 12 ^ j = P := ⟨_, rfl⟩
      rw [hP] at hs2 hb2 hpw
      obtain ⟨m, hm⟩ : ∃ m, n - j = m := ⟨_, rfl⟩
      have hmn : IntKind.i64.wrap ((n : Int) - j) = (m : Int) := by rw [IntWalk.i64_in _ (by omega)]; omega
      have hm1 : 1 ≤ m := by omega
      have hm2 : m ≤ 12 := by omega
      obtain ⟨r, hr⟩ : ∃ r : Nat, us.getD j 0 = (r : Int) := ⟨(us.getD j 0).toNat, by have := HNN.out j hlt; omega⟩
      have cr' := (HR.out.kq HKR.out (fun h => h)).cell j hlt
      rw [hr] at cr'
      obtain ⟨Q, hQ⟩ : ∃ Q, tryN m b r m s = Q := ⟨_, rfl⟩
      have HN : Hid (stN us n (j + 1) = nxtS m b Q) := Lib.hid (by
        rw [stN, hst]
        simp only [hm, hr, Int.toNat_natCast, hQ])
      have HQ := Lib.hid hQ
      have m1 : (m : Int) ≠ 0 := by omega
      have m2 : ¬ (m : Int) = 0 := by omega
      have m3 : ((m : Int) == 0) = false := by simp; omega
      have r0 : (0 : Int) ≤ r := Int.natCast_nonneg _
      clear hst hP hm hr hQ
      go_wp2
      go_loop [5, 10, 11] (fun u fd i => ∃ (k t : Nat) (q : Bool), k ≤ m ∧ i = .int .i64 k ∧ u = .int .i64 t ∧ fd = .bool q ∧ t ≤ s + k * b ∧ 1 ≤ t ∧ (if q = true then Q = some t else tryN m b r (m - k) t = Q)) (fun _ _ i => m - (intOf i).toNat)
      case atStart => exact ⟨0, s, false, Nat.zero_le _, rfl, rfl, rfl, by omega, hs1, HQ.out⟩
      case round =>
        obtain ⟨k, t, q, hk, rfl, rfl, rfl, htb, ht1, hif⟩ := hrel
        have k0 : (0 : Int) ≤ k := Int.natCast_nonneg _
        have hkb : k * b ≤ 12 * b := Nat.mul_le_mul_right b (by omega)
        have hkb2 : (k + 1) * b = k * b + b := Nat.succ_mul k b
        have htm : t ≤ 20000000000000 := by omega
        cases q
        · rw [if_neg (by simp)] at hif
          by_cases hkm : k < m
          · have k1 : (k : Int) < m := by omega
            have wk : IntKind.i64.wrap ((k : Int) + 1) = (k : Int) + 1 := IntWalk.i64_in _ (by omega)
            rw [show m - k = (m - (k + 1)) + 1 by omega, tryN] at hif
            have t1 : (t : Int).tmod (m : Int) = ((t % m : Nat) : Int) := by rw [Int.tmod_eq_emod_of_nonneg (by omega)]; simp
            have hml : t % m < m := Nat.mod_lt _ (by omega)
            obtain ⟨z, hz⟩ : ∃ z, t % m = z := ⟨_, rfl⟩
            rw [hz] at t1 hif hml
            have t2 : IntKind.i64.wrap (z : Int) = (z : Int) := IntWalk.i64_in _ (by omega)
            have t3 : IntKind.i64.wrap ((t : Int) + (b : Int)) = ((t + b : Nat) : Int) := by rw [IntWalk.i64_in _ (by omega)]; omega
            by_cases hzr : z = r
            · rw [if_pos hzr] at hif
              have HIF := Lib.hid hif
              have hzr' : (z : Int) = (r : Int) := by omega
              clear hif hz hzr
              go_wp2
              go_round
              case rel => exact ⟨k + 1, t, true, by omega, by go_num, rfl, rfl, by omega, ht1, by rw [if_pos rfl]; exact HIF.out.symm⟩
              case measure => simp [intOf]; omega
            · rw [if_neg hzr] at hif
              have HIF := Lib.hid hif
              have hzr' : ¬ (z : Int) = (r : Int) := by omega
              clear hif hz hzr
              go_wp2
              go_round
              case rel => exact ⟨k + 1, t + b, false, by omega, by go_num, by go_num, rfl, by omega, by omega, by rw [if_neg (by simp)]; exact HIF.out⟩
              case measure => simp [intOf]; omega
          · have hkm' : ¬ (k : Int) < m := by omega
            have HE : Hid (V = 0) := Lib.hid (by
              rw [show m - k = 0 by omega, tryN] at hif
              have h1 := HN.out
              rw [← hif] at h1
              have h2 := stN_none us n (j + 1) h1 (n - (j + 1))
              rw [show j + 1 + (n - (j + 1)) = n by omega] at h2
              rw [HV.out, h2]; rfl)
            clear hif
            go_wp2
            go_ret
            exact ⟨by rw [HE.out]; rfl, HK.out.nw HKR.out⟩
        · rw [if_pos rfl] at hif
          have HST : Hid (stN us n (j + 1) = some (t, lcmN b m)) := Lib.hid (by rw [HN.out, hif]; rfl)
          have hbm : b * m ≤ b * 12 := Nat.mul_le_mul_left b hm2
          clear hif
          by_cases hkm : k < m
          · have hkm' : (k : Int) < m := by omega
            go_wp2_with fail
            refine (orLeast_any b m _ (by omega) hm1 (by omega)).mono ?_
            rintro e w5 ⟨rfl, hk5⟩
            have HK5 := Lib.hid (HKR.out.nw hk5)
            clear hk5
            go_wp2
            go_roundw
            case rel => exact ⟨j + 1, t, lcmN b m, _, by omega, by go_num, rfl, rfl, rfl, HST.out, HK5.out⟩
            case measure => simp [intOf]; omega
          · have hkm' : ¬ (k : Int) < m := by omega
            go_wp2_with fail
            refine (orLeast_any b m _ (by omega) hm1 (by omega)).mono ?_
            rintro e w5 ⟨rfl, hk5⟩
            have HK5 := Lib.hid (HKR.out.nw hk5)
            clear hk5
            go_wp2
            go_roundw
            case rel => exact ⟨j + 1, t, lcmN b m, _, by omega, by go_num, rfl, rfl, rfl, HST.out, HK5.out⟩
            case measure => simp [intOf]; omega
    · have ej : j = n := by omega
      subst ej
      have HE : Hid (V = s) := Lib.hid (by rw [HV.out, hst]; rfl)
      clear hst
      go_wp2
      go_ret
      exact ⟨by rw [HE.out]; rfl, HK.out.nw HKR.out⟩

def vStepO (xs : List Int) : Int × Bool := if ordB xs = true ∧ 0 < stepO xs then ((stepO xs : Nat), true) else (0, false)
set_option maxRecDepth 100000 in
set_option maxHeartbeats 3200000 in
theorem sStepOfOrder_any (g n B : Nat) (xs : List Int) (W : World) (hs : SlAt W B g n n xs) (hl : n ≤ 1048576) : Calls Try.prog 12 #[.slice (some ⟨g, 0, none⟩) n n] W (IntB W (vStepO xs).1 (vStepO xs).2) := by
  have hlen := hs.1
  have HS := Lib.hid hs
  clear hs
  unfold vStepO
  cases hb : ordB xs
  · have HB := Lib.hid hb
    rw [if_neg (by simp)]
    clear hb hlen
    go_enter Try.func12, Try.ntmps12
    go_wp2_with (first | ((with_reducible refine (orGood_any g n n xs B _ HS.out (Nat.le_refl _) (by omega) false HB.out.symm).mono ?_); rintro e w' ⟨rfl, rfl⟩))
    go_ret2
    exact ⟨rfl, Kp.refl _ _⟩
  · have HB := Lib.hid hb
    have hbd := stepO_bd (show xs.length ≤ 12 from (ordB_parts hb).2.1)
    obtain ⟨s, hs⟩ : ∃ s, stepO xs = s := ⟨_, rfl⟩
    rw [hs] at hbd ⊢
    have HST := Lib.hid hs
    by_cases h0 : 0 < s
    · rw [if_pos ⟨rfl, h0⟩]
      have s1 : ¬ (s : Int) = 0 := by omega
      clear hb hlen hs
      go_enter Try.func12, Try.ntmps12
      go_wp2_with (first | ((with_reducible refine (orGood_any g n n xs B _ HS.out (Nat.le_refl _) (by omega) true HB.out.symm).mono ?_); rintro e w' ⟨rfl, rfl⟩))
      refine (orStep_any g n B xs _ HS.out hl HB.out).mono ?_
      rw [HST.out]
      rintro e w1 ⟨rfl, hk1⟩
      have HK1 := Lib.hid hk1
      clear hk1
      go_wp2_with fail
      refine (orStep_any g n B xs w1 (HS.out.kq HK1.out (fun h => h)) hl HB.out).mono ?_
      rw [HST.out]
      rintro e w2 ⟨rfl, hk2⟩
      have HK2 := Lib.hid (HK1.out.nw hk2)
      clear hk2
      go_wp2
      go_ret2
      exact ⟨rfl, HK2.out⟩
    · rw [if_neg (fun h => h0 h.2)]
      obtain rfl : s = 0 := by omega
      clear hb hlen hs
      go_enter Try.func12, Try.ntmps12
      go_wp2_with (first | ((with_reducible refine (orGood_any g n n xs B _ HS.out (Nat.le_refl _) (by omega) true HB.out.symm).mono ?_); rintro e w' ⟨rfl, rfl⟩))
      refine (orStep_any g n B xs _ HS.out hl HB.out).mono ?_
      rw [HST.out]
      rintro e w1 ⟨rfl, hk1⟩
      have HK1 := Lib.hid hk1
      clear hk1
      go_wp2
      go_ret2
      exact ⟨rfl, HK1.out⟩

set_option maxRecDepth 100000 in
set_option maxHeartbeats 3200000 in
theorem sIsCountedOut_any (g n B : Nat) (xs : List Int) (W : World) (hs : SlAt W B g n n xs) (hl : n ≤ 1048576) : Calls Try.prog 14 #[.slice (some ⟨g, 0, none⟩) n n] W (Bool2B W (ordB xs && decide (0 < stepO xs)) (ordB xs)) := by
  have HS := Lib.hid hs
  clear hs
  cases hb : ordB xs
  · have HB := Lib.hid hb
    rw [Bool.false_and]
    clear hb
    go_enter Try.func14, Try.ntmps14
    go_wp2_with (first | ((with_reducible refine (orGood_any g n n xs B _ HS.out (Nat.le_refl _) (by omega) false HB.out.symm).mono ?_); rintro e w' ⟨rfl, rfl⟩))
    go_ret2
    exact ⟨rfl, Kp.refl _ _⟩
  · have HB := Lib.hid hb
    rw [Bool.true_and]
    obtain ⟨s, hs⟩ : ∃ s, stepO xs = s := ⟨_, rfl⟩
    rw [hs]
    have HST := Lib.hid hs
    clear hb hs
    go_enter Try.func14, Try.ntmps14
    go_wp2_with (first | ((with_reducible refine (orGood_any g n n xs B _ HS.out (Nat.le_refl _) (by omega) true HB.out.symm).mono ?_); rintro e w' ⟨rfl, rfl⟩))
    refine (orStep_any g n B xs _ HS.out hl HB.out).mono ?_
    rw [HST.out]
    rintro e w1 ⟨rfl, hk1⟩
    have HK1 := Lib.hid hk1
    clear hk1
    go_wp2
    go_ret2
    exact ⟨by simp, HK1.out⟩
end Go.Proofs.Ytgbmoipkgnklfaa
namespace Go.Proofs.Ytgbmoipkgnklfaa
open Go.ChangeShapes Go.WideShapes Go.ChangeAt Go.RowKit

/-- 1 2 .. n -/
def facN : Nat → Nat
  | 0 => 1
  | n + 1 => facN n * (n + 1)
theorem facN_bd : ∀ n, n < 13 → 1 ≤ facN n ∧ facN n ≤ 479001600 := by decide
/-- how many of the first k numbers behind the turn i are less than its own -/
def lessC (xs : List Int) (i : Nat) : Nat → Nat
  | 0 => 0
  | k + 1 => lessC xs i k + (if xs.getD (i + 1 + k) 0 < xs.getD i 0 then 1 else 0)
theorem lessC_le (xs : List Int) (i : Nat) : ∀ k, lessC xs i k ≤ k
  | 0 => Nat.le_refl _
  | k + 1 => by
    have := lessC_le xs i k
    unfold lessC
    split <;> omega
def rankT (xs : List Int) : Nat → Nat
  | 0 => 0
  | i + 1 => rankT xs i + lessC xs i (xs.length - (i + 1)) * facN (xs.length - 1 - i)
theorem rankT_bd (xs : List Int) (h : xs.length ≤ 12) : ∀ i, i ≤ xs.length → rankT xs i ≤ i * (12 * 479001600)
  | 0, _ => Nat.le_refl _
  | i + 1, hi => by
    have ih := rankT_bd xs h i (by omega)
    have h1 := lessC_le xs i (xs.length - (i + 1))
    have h2 := (facN_bd (xs.length - 1 - i) (by omega)).2
    have h3 := Nat.mul_le_mul (show lessC xs i (xs.length - (i + 1)) ≤ 12 by omega) h2
    rw [rankT, Nat.succ_mul]
    omega
def rankN (xs : List Int) : Nat := rankT xs xs.length
def vRank (xs : List Int) : Int × Bool := if ordB xs = true then ((rankN xs : Nat), true) else (0, false)

end Go.Proofs.Ytgbmoipkgnklfaa
namespace Go.Proofs.Ytgbmoipkgnklfaa
open Go.ChangeShapes Go.WideShapes Go.ChangeAt Go.RowKit

/-- how many of the first k turns have their own number -/
def stayC (ys : List Int) : Nat → Nat
  | 0 => 0
  | i + 1 => stayC ys i + (if (i : Int) = ys.getD i 0 then 1 else 0)
theorem stayC_le (ys : List Int) : ∀ k, stayC ys k ≤ k
  | 0 => Nat.le_refl _
  | k + 1 => by
    have := stayC_le ys k
    unfold stayC
    split <;> omega
/-- how many of the steps 1 .. k have so many -/
def fixC (n m : Nat) : Nat → Nat
  | 0 => 0
  | k + 1 => fixC n m k + (if stayC (outs ((k + 1 : Nat) : Int) n (marks 0 n)) n = m then 1 else 0)
theorem fixC_le (n m : Nat) : ∀ k, fixC n m k ≤ k
  | 0 => Nat.le_refl _
  | k + 1 => by
    have := fixC_le n m k
    unfold fixC
    split <;> omega
def vFixed (p f : Int) : Int × Bool := if (1 ≤ p ∧ p ≤ 8) ∧ (0 ≤ f ∧ f ≤ p) then ((fixC p.toNat f.toNat (perT p.toNat) : Nat), true) else (0, false)
end Go.Proofs.Ytgbmoipkgnklfaa
namespace Go.Proofs.Ytgbmoipkgnklfaa
open Go.ChangeShapes Go.WideShapes Go.ChangeAt Go.RowKit

def dropAt (l : List Int) (a : Nat) : List Int := l.take a ++ l.drop (a + 1)
theorem dropAt_len (l : List Int) (a : Nat) (h : a < l.length) : (dropAt l a).length = l.length - 1 := by unfold dropAt; simp; omega
/-- the rank, who is left and who was told, behind the first j turns -/
def rkR (n r : Nat) : Nat → Nat
  | 0 => r
  | j + 1 => rkR n r j % facN (n - j - 1)
def rkL (n r : Nat) : Nat → List Int
  | 0 => marks 0 n
  | j + 1 => dropAt (rkL n r j) (rkR n r j / facN (n - j - 1))
def rkT (n r : Nat) : Nat → List Int
  | 0 => []
  | j + 1 => rkT n r j ++ [(rkL n r j).getD (rkR n r j / facN (n - j - 1)) 0]
theorem facN_pos : ∀ n, 1 ≤ facN n
  | 0 => Nat.le_refl _
  | n + 1 => Nat.mul_pos (facN_pos n) (Nat.succ_pos n)
theorem rkR_lt (n r : Nat) (h : r < facN n) : ∀ j, rkR n r j < facN (n - j)
  | 0 => h
  | _ + 1 => Nat.mod_lt _ (facN_pos _)
theorem rkA_lt (n r : Nat) (h : r < facN n) (j : Nat) (hj : j < n) : rkR n r j / facN (n - j - 1) < n - j := by
  have h1 := rkR_lt n r h j
  obtain ⟨p, hp⟩ : ∃ p, n - j = p + 1 := ⟨n - j - 1, by omega⟩
  rw [hp] at h1 ⊢
  exact Nat.div_lt_of_lt_mul h1
theorem rkL_len (n r : Nat) (h : r < facN n) : ∀ j, j ≤ n → (rkL n r j).length = n - j
  | 0, _ => by rw [rkL, marks_length]; rfl
  | j + 1, hj => by
    have ih := rkL_len n r h j (by omega)
    rw [rkL, dropAt_len _ _ (by rw [ih]; exact rkA_lt n r h j hj), ih]
    rfl
theorem rkT_len (n r : Nat) : ∀ j, (rkT n r j).length = j
  | 0 => rfl
  | j + 1 => by rw [rkT, List.length_append, rkT_len n r j]; rfl
def vOfRank (p r : Int) : List Int × Bool := if (1 ≤ p ∧ p ≤ 12) ∧ (0 ≤ r ∧ r ≤ (facN p.toNat : Nat) - 1) then (rkT p.toNat r.toNat p.toNat, true) else ([], false)
end Go.Proofs.Ytgbmoipkgnklfaa
namespace Go.Proofs.Ytgbmoipkgnklfaa
open Go.ChangeShapes Go.WideShapes Go.ChangeAt Go.RowKit

theorem boolInfo : (Try.prog.info? 4).map (fun i => (i.zero, i.size, i.bytes)) = some (some (.bool false), 1, 1) := by kernel_rfl
/-- a row of bools at an address -/
def BoAt (w : World) (B g cap n : Nat) (bs : List Bool) : Prop := bs.length = n ∧ w.ownsRow B 4 1 (.slice (some ⟨g, 0, none⟩) n cap) n (bs.map Value.bool)
theorem BoAt.cell {w : World} {B g cap n : Nat} {bs : List Bool} (h : BoAt w B g cap n bs) (j : Nat) (hj : j < n) : w.cell? ⟨g, j, none⟩ = some (.bool (bs.getD j true)) := by
  have hl : j < bs.length := by rw [h.1]; exact hj
  rw [World.ownsRow.cellAt h.2 j (by omega)]
  simp [List.getElem?_eq_getElem hl]
theorem BoAt.frozen {w : World} {B g cap n : Nat} {bs : List Bool} (h : BoAt w B g cap n bs) (j : Nat) : w.frozen? ⟨g, j, none⟩ = false := World.ownsRow.frozenAt h.2 j
theorem BoAt.store {w : World} {B g cap n : Nat} {bs : List Bool} (h : BoAt w B g cap n bs) (j : Nat) (u : Bool) : BoAt (w.setCell ⟨g, j, none⟩ (.bool u)) B g cap n (bs.set j u) :=
  ⟨by rw [List.length_set]; exact h.1, by rw [List.map_set]; exact (World.ownsRow.stored h.2 j (.bool u)).1⟩
theorem BoAt.zeros {w : World} {B g n : Nat} (h : w.ownsRow B 4 1 (.slice (some ⟨g, 0, none⟩) n n) n (madeCells #[Value.bool false] n).toList) : BoAt w B g n n (List.replicate n false) := by
  refine ⟨by simp, ?_⟩
  rw [toList_madeCells_one] at h
  rw [List.map_replicate]
  exact h
theorem BoAt.kq {w w' : World} {B g cap n : Nat} {bs : List Bool} {S : Nat → Prop} (h : BoAt w B g cap n bs) (hk : Kp S w w') (hs : ¬ S g) : BoAt w' B g cap n bs := by
  refine ⟨h.1, h.2.1, ?_⟩
  rcases h.2.2 with hn | ⟨g', cap', cur, he, hb, hgg, rest⟩
  · exact .inl hn
  · have e : g' = g := by
      injection he with h1 _ _
      injection h1 with h1
      injection h1 with h1 _ _
      exact h1.symm
    exact .inr ⟨g', cap', cur, he, hb, (hk.block g' (Array.getElem?_eq_some_iff.1 hgg).1 (by rw [e]; exact hs)).trans hgg, rest⟩
theorem cntF_set : ∀ (s : List Bool) (a : Nat), s.getD a true = false → (s.set a true).count false + 1 = s.count false
  | [], a, h => by simp at h
  | b :: s, 0, h => by
    simp at h
    subst h
    simp
  | b :: s, a + 1, h => by
    have ih := cntF_set s a (by simpa using h)
    simp only [List.set_cons_succ, List.count_cons]
    omega
/-- from a person on, until somebody was seen -/
def cycA (xs : List Int) : Nat → List Bool → Nat → List Int → List Bool × List Int
  | 0, s, _, c => (s, c)
  | k + 1, s, a, c => if s.getD a true = true then (s, c) else cycA xs k (s.set a true) (xs.getD a 0).toNat (c ++ [(a : Int)])
theorem cyc_len (xs : List Int) : ∀ (k : Nat) (s : List Bool) (a : Nat) (c : List Int), (cycA xs k s a c).1.length = s.length ∧ c.length ≤ (cycA xs k s a c).2.length ∧ (cycA xs k s a c).2.length ≤ c.length + s.count false
  | 0, s, a, c => by unfold cycA; exact ⟨rfl, Nat.le_refl _, Nat.le_add_right _ _⟩
  | k + 1, s, a, c => by
    unfold cycA
    split
    · exact ⟨rfl, Nat.le_refl _, Nat.le_add_right _ _⟩
    · rename_i h
      have ih := cyc_len xs k (s.set a true) (xs.getD a 0).toNat (c ++ [(a : Int)])
      have hc := cntF_set s a (by simpa using h)
      rw [List.length_set, List.length_append, List.length_singleton] at ih
      exact ⟨ih.1, by omega, by omega⟩
def cycs (xs : List Int) : Nat → List Bool × List (List Int)
  | 0 => (List.replicate xs.length false, [])
  | i + 1 => if (cycs xs i).1.getD i true = true then cycs xs i else ((cycA xs (xs.length + 1) (cycs xs i).1 i []).1, (cycs xs i).2 ++ [(cycA xs (xs.length + 1) (cycs xs i).1 i []).2])
theorem cycs_len (xs : List Int) : ∀ i, (cycs xs i).1.length = xs.length ∧ (cycs xs i).2.length ≤ i ∧ ∀ c ∈ (cycs xs i).2, 1 ≤ c.length ∧ c.length ≤ xs.length
  | 0 => ⟨by simp [cycs], Nat.le_refl _, fun c hc => by cases hc⟩
  | i + 1 => by
    obtain ⟨h1, h2, h3⟩ := cycs_len xs i
    unfold cycs
    split
    · exact ⟨h1, by omega, h3⟩
    · rename_i h
      obtain ⟨l1, l2, l3⟩ := cyc_len xs (xs.length + 1) (cycs xs i).1 i []
      have hcl : (cycs xs i).1.count false ≤ (cycs xs i).1.length := List.count_le_length
      refine ⟨by rw [l1, h1], by simp only [List.length_append, List.length_singleton]; omega, fun c hc => ?_⟩
      rcases List.mem_append.1 hc with hc | hc
      · exact h3 c hc
      · rw [List.mem_singleton] at hc
        subst hc
        refine ⟨?_, by simp only [List.length_nil] at l3; omega⟩
        have l4 := cyc_len xs xs.length ((cycs xs i).1.set i true) (xs.getD i 0).toNat ([] ++ [(i : Int)])
        rw [cycA, if_neg h]
        have := l4.2.1
        simpa using this
/-- the cycles of an order -/
def cycL (xs : List Int) : List (List Int) := (cycs xs xs.length).2
def vCycles (xs : List Int) : List (List Int) × Bool := if ordB xs = true then (cycL xs, true) else ([], false)
theorem vCycles_bd (xs : List Int) : (vCycles xs).1.length ≤ 1000 ∧ ∀ c ∈ (vCycles xs).1, c.length ≤ 1000 := by
  unfold vCycles
  split
  · rename_i h
    have hp := ordB_parts h
    obtain ⟨_, h2, h3⟩ := cycs_len xs xs.length
    exact ⟨show (cycs xs xs.length).2.length ≤ 1000 by omega, fun c hc => by have := (h3 c hc).2; omega⟩
  · exact ⟨Nat.zero_le _, fun c hc => by cases hc⟩
def vSign (xs : List Int) : Int × Bool := if ordB xs = true then (if (xs.length - (cycL xs).length) % 2 = 0 then 1 else -1, true) else (0, false)
/-- the least number that the lengths of the first j cycles divide -/
def powT (cs : List (List Int)) : Nat → Nat
  | 0 => 1
  | j + 1 => lcmN (powT cs j) (cs.getD j []).length
theorem lcmN_pos (x y : Nat) (hx : 1 ≤ x) (hy : 1 ≤ y) : 1 ≤ lcmN x y := by
  unfold lcmN
  have hg := Nat.gcd_le_left y (show 0 < x by omega)
  have hg0 : 0 < Nat.gcd x y := Nat.gcd_pos_of_pos_left _ (by omega)
  have hd : 0 < x / Nat.gcd x y := Nat.div_pos hg hg0
  exact Nat.mul_pos hd (by omega)
theorem powT_bd (cs : List (List Int)) (h : ∀ j, j < cs.length → 1 ≤ (cs.getD j []).length ∧ (cs.getD j []).length ≤ 12) : ∀ j, j ≤ cs.length → 1 ≤ powT cs j ∧ powT cs j ≤ 12 ^ j
  | 0, _ => ⟨Nat.le_refl _, Nat.le_refl _⟩
  | j + 1, hj => by
    have ih := powT_bd cs h j (by omega)
    have hh := h j (by omega)
    refine ⟨lcmN_pos _ _ ih.1 hh.1, Nat.le_trans (lcmN_le _ _) ?_⟩
    rw [Nat.pow_succ]
    exact Nat.mul_le_mul ih.2 hh.2
def vPower (xs : List Int) : Int × Bool := if ordB xs = true then ((powT (cycL xs) (cycL xs).length : Nat), true) else (0, false)
end Go.Proofs.Ytgbmoipkgnklfaa
namespace Go.Proofs.Ytgbmoipkgnklfaa
open Go.ChangeShapes Go.WideShapes Go.ChangeAt Go.RowKit
end Go.Proofs.Ytgbmoipkgnklfaa
namespace Go.Proofs.Ytgbmoipkgnklfaa
open Go.ChangeShapes Go.WideShapes Go.ChangeAt Go.RowKit

/-- a row of slices of the call's own, as values -/
def VR (w : World) (B : Nat) (v : Value) (vs : List Value) : Prop := w.ownsRow B 22 1 v vs.length vs
def VRd (w : World) (u : Value) (ys : List Value) : Prop := ∃ A c, u = .slice A ys.length c ∧ ∀ j, j < ys.length → ∃ g o, A = some ⟨g, o, none⟩ ∧ w.cell? ⟨g, o + j, none⟩ = some (ys.getD j nilS)
def Vnn (u : Value) (ys : List Value) : Prop := ys = [] → u = nilS ∨ ∃ (A : Addr) (c : Nat), u = .slice (some A) 0 c
theorem VRd.nw {w w' : World} {u : Value} {ys : List Value} (h : VRd w u ys) (hk : Kp Nw w w') : VRd w' u ys := by
  obtain ⟨A, c, rfl, hA⟩ := h
  refine ⟨A, c, rfl, fun k hlt => ?_⟩
  obtain ⟨g, o, rfl, hc⟩ := hA k hlt
  exact ⟨g, o, rfl, (hk.cell (World.block_lt_of_cell? w _ hc) (fun hs => hs)).trans hc⟩
theorem VRd.one {w : World} {g : Nat} {s : Value} (h : w.cell? ⟨g, 0, none⟩ = some s) : VRd w (.slice (some ⟨g, 0, none⟩) 1 1) [s] :=
  ⟨_, 1, rfl, fun j hj => ⟨g, 0, rfl, by
    have e : j = 0 := by simpa using hj
    subst e
    exact h⟩⟩
theorem VR.empty (w : World) (B : Nat) (hB : B ≤ w.heap.size) : VR (w.alloc (.cells #[] 22)) B (.slice (some ⟨w.heap.size, 0, none⟩) 0 0) [] :=
  ⟨by simp, .inr ⟨w.heap.size, 0, #[], rfl, hB, heap_alloc_new w _, Nat.le_refl _, Nat.zero_le _, by simp, by simp⟩⟩
theorem VR.kp {w w' : World} {B : Nat} {v : Value} {vs : List Value} {S : Nat → Prop} (h : VR w B v vs) (hk : Kp S w w') (hs : ∀ g, v.ownBlock = some g → ¬ S g) : VR w' B v vs := by
  refine ⟨h.1, ?_⟩
  rcases h.2 with hn | ⟨g, cap, cur, rfl, hb, hgg, rest⟩
  · exact .inl hn
  · exact .inr ⟨g, cap, cur, rfl, hb, (hk.block g (Array.getElem?_eq_some_iff.1 hgg).1 (hs g rfl)).trans hgg, rest⟩
theorem VR.nw {w w' : World} {B : Nat} {v : Value} {vs : List Value} (h : VR w B v vs) (hk : Kp Nw w w') : VR w' B v vs := h.kp hk (fun _ _ h => h)
/-- what is made behind a world and appended to what was made behind it leaves that world as it was -/
theorem VR.after {w0 w w' : World} {v : Value} {vs : List Value} (h : VR w w0.heap.size v vs) (k0 : Kp Nw w0 w) (hk : Kp (fun b => v.ownBlock = some b) w w') : Kp Nw w0 w' :=
  k0.after hk (fun g hg e => by have := (World.ownsRow.lt h g e).1; omega)
/-- one slice put into a row of slices, all old blocks kept -/
theorem SS.ins {w0 w' : World} {B E M : Nat} {v v' s : Value} {xss : List (List Int)} {xs : List Int} (vs : List Value) (hvl : vs.length = xss.length)
    (hjj : ∀ j, j < xss.length → Sl w0 B (vs.getD j nilS) (xss.getD j []) ∧ ∀ g, (vs.getD j nilS).ownBlock = some g → g < E ∧ v.ownBlock ≠ some g)
    (hd : ∀ i j, i < j → j < xss.length → ∀ g, (vs.getD i nilS).ownBlock = some g → (vs.getD j nilS).ownBlock ≠ some g)
    (hs : Sl w0 M s xs) (hBM : B ≤ M) (hEM : E ≤ M) (hM : M ≤ w0.heap.size) (a : Nat) (ha : a ≤ xss.length) (hk : Kp Nw w0 w') (hv : VR w' w0.heap.size v' (vs.take a ++ [s] ++ vs.drop a)) :
    SS w' B w'.heap.size v' (xss.take a ++ [xs] ++ xss.drop a) := by
  have hsz := hk.size
  have hlen : (vs.take a ++ [s] ++ vs.drop a).length = (xss.take a ++ [xs] ++ xss.drop a).length := by simp only [List.length_append, List.length_take, List.length_drop, hvl, List.length_singleton]
  have hl3 : (xss.take a ++ [xs] ++ xss.drop a).length = xss.length + 1 := by simp only [List.length_append, List.length_take, List.length_drop, List.length_singleton]; omega
  -- the j-th of the new row
  have get : ∀ {α : Type} (l : List α) (x d : α), a ≤ l.length → ∀ j, (l.take a ++ [x] ++ l.drop a).getD j d = if j < a then l.getD j d else if j = a then x else l.getD (j - 1) d := by
    intro α l x d hla j
    have ht : (l.take a).length = a := by rw [List.length_take]; omega
    simp only [List.getD]
    by_cases h1 : j < a
    · rw [if_pos h1, List.append_assoc, List.getElem?_append_left (by omega), List.getElem?_take, if_pos h1]
    · rw [if_neg h1]
      by_cases h2 : j = a
      · subst h2
        rw [if_pos rfl, List.append_assoc, List.getElem?_append_right (by omega), ht, Nat.sub_self]
        rfl
      · rw [if_neg h2, List.getElem?_append_right (by simp [ht]; omega), List.getElem?_drop]
        congr 2
        simp [ht]
        omega
  have gv := get vs s nilS (by omega)
  have gx := get xss xs [] ha
  have own' : ∀ g, v'.ownBlock = some g → w0.heap.size ≤ g ∧ g < w'.heap.size := fun g e => World.ownsRow.lt hv g e
  have owns : ∀ g, s.ownBlock = some g → M ≤ g ∧ g < w0.heap.size := fun g e => hs.own_ge g e
  refine ⟨_, hlen, ?_, fun g e => (own' g e).2, fun j hj => ?_, fun i j hij hj => ?_⟩
  · have h' := hv
    refine ⟨h'.1, ?_⟩
    rcases h'.2 with hn | ⟨g, cap, cur, e, hb, rest⟩
    · exact .inl hn
    · exact .inr ⟨g, cap, cur, e, by omega, rest⟩
  · rw [hl3] at hj
    rw [gv j, gx j]
    have old : ∀ i, i < xss.length → Sl w' B (vs.getD i nilS) (xss.getD i []) ∧ ∀ g, (vs.getD i nilS).ownBlock = some g → g < w'.heap.size ∧ v'.ownBlock ≠ some g := fun i hi =>
      ⟨(hjj i hi).1.kp hk (fun _ _ h => h), fun g e => ⟨by have := ((hjj i hi).2 g e).1; omega, fun e2 => by have := ((hjj i hi).2 g e).1; have := (own' g e2).1; omega⟩⟩
    by_cases h1 : j < a
    · simp only [if_pos h1]
      exact old j (by omega)
    · by_cases h2 : j = a
      · simp only [if_neg h1, if_pos h2]
        exact ⟨(hs.kp hk (fun _ _ h => h)).from hBM, fun g e => ⟨by have := (owns g e).2; omega, fun e2 => by have := (owns g e).2; have := (own' g e2).1; omega⟩⟩
      · simp only [if_neg h1, if_neg h2]
        exact old (j - 1) (by omega)
  · rw [hl3] at hj
    rw [gv i, gv j]
    have oldE : ∀ i, i < xss.length → ∀ g, (vs.getD i nilS).ownBlock = some g → g < E := fun i hi g e => ((hjj i hi).2 g e).1
    intro g e1 e2
    by_cases i1 : i < a
    · rw [if_pos i1] at e1
      have b1 := oldE i (by omega) g e1
      by_cases j1 : j < a
      · rw [if_pos j1] at e2
        exact hd i j hij (by omega) g e1 e2
      · rw [if_neg j1] at e2
        by_cases j2 : j = a
        · rw [if_pos j2] at e2
          have := (owns g e2).1
          omega
        · rw [if_neg j2] at e2
          exact hd i (j - 1) (by omega) (by omega) g e1 e2
    · rw [if_neg i1] at e1
      rw [if_neg (show ¬ j < a by omega), if_neg (show ¬ j = a by omega)] at e2
      have b2 := oldE (j - 1) (by omega) g e2
      by_cases i2 : i = a
      · rw [if_pos i2] at e1
        have := (owns g e1).1
        omega
      · rw [if_neg i2] at e1
        exact hd (i - 1) (j - 1) (by omega) (by omega) g e1 e2
end Go.Proofs.Ytgbmoipkgnklfaa
namespace Go.Proofs.Ytgbmoipkgnklfaa
open Go.ChangeShapes Go.WideShapes Go.ChangeAt Go.RowKit

/-- whether a list comes before another one, from the turn j on, for so many turns -/
def befN (xs ys : List Int) : Nat → Nat → Bool
  | 0, _ => false
  | k + 1, j => if xs.getD j 0 = ys.getD j 0 then befN xs ys k (j + 1) else decide (xs.getD j 0 < ys.getD j 0)
def bef (xs ys : List Int) : Bool := befN xs ys xs.length 0
/-- how many lists at the head come before one -/
def posL (o : List Int) : List (List Int) → Nat
  | [] => 0
  | c :: cs => if bef c o = true then posL o cs + 1 else 0
theorem posL_le (o : List Int) : ∀ cs, posL o cs ≤ cs.length
  | [] => Nat.le_refl _
  | c :: cs => by
    have := posL_le o cs
    unfold posL
    split
    · rw [List.length_cons]; omega
    · exact Nat.zero_le _
theorem posL_drop (o : List Int) (cs : List (List Int)) (a : Nat) (h : a < cs.length) : posL o (cs.drop a) = if bef (cs.getD a []) o = true then posL o (cs.drop (a + 1)) + 1 else 0 := by
  rw [List.drop_eq_getElem_cons h, posL]
  have e : cs.getD a [] = cs[a] := by simp [List.getD, h]
  rw [e]
def insAt (xss : List (List Int)) (o : List Int) : List (List Int) := xss.take (posL o xss) ++ [o] ++ xss.drop (posL o xss)
theorem insAt_len (xss : List (List Int)) (o : List Int) : (insAt xss o).length = xss.length + 1 := by
  have := posL_le o xss
  unfold insAt
  simp only [List.length_append, List.length_take, List.length_drop, List.length_singleton]
  omega
/-- the orders of the steps 1 .. k, each put at its place -/
def allK (n : Nat) : Nat → List (List Int)
  | 0 => []
  | k + 1 => insAt (allK n k) (outs ((k + 1 : Nat) : Int) n (marks 0 n))
theorem allK_len (n : Nat) : ∀ k, (allK n k).length = k ∧ ∀ c ∈ allK n k, c.length = n
  | 0 => ⟨rfl, fun c hc => by cases hc⟩
  | k + 1 => by
    obtain ⟨h1, h2⟩ := allK_len n k
    refine ⟨by rw [allK, insAt_len, h1], fun c hc => ?_⟩
    rw [allK, insAt] at hc
    rcases List.mem_append.1 hc with hc | hc
    · rcases List.mem_append.1 hc with hc | hc
      · exact h2 c (List.mem_of_mem_take hc)
      · rw [List.mem_singleton] at hc
        subst hc
        exact outs_length _ _ _
    · exact h2 c (List.mem_of_mem_drop hc)
theorem allK_get (n k j : Nat) (h : j < k) : ((allK n k).getD j []).length = n := by
  obtain ⟨h1, h2⟩ := allK_len n k
  have e : (allK n k).getD j [] = (allK n k)[j]'(by omega) := by simp [List.getD, show j < (allK n k).length by omega]
  rw [e]
  exact h2 _ (List.getElem_mem _)
def vAll (p : Int) : List (List Int) × Bool := if 1 ≤ p ∧ p ≤ 5 then (allK p.toNat (perT p.toNat), true) else ([], false)
theorem perT5 : ∀ m, m < 6 → perT m ≤ 60 := by decide
theorem vAll_bd (p : Int) : (vAll p).1.length ≤ 1000 ∧ ∀ c ∈ (vAll p).1, c.length ≤ 1000 := by
  unfold vAll
  split
  · rename_i h
    obtain ⟨h1, h2⟩ := allK_len p.toNat (perT p.toNat)
    exact ⟨by rw [h1]; exact Nat.le_trans (perT5 _ (by omega)) (by omega), fun c hc => by have := h2 c hc; omega⟩
  · exact ⟨Nat.zero_le _, fun c hc => by cases hc⟩
end Go.Proofs.Ytgbmoipkgnklfaa
namespace Go.Proofs.Ytgbmoipkgnklfaa
open Go.ChangeShapes Go.WideShapes Go.ChangeAt Go.RowKit

def vRem (xs : List Int) : List Int × Bool := if ordB xs = true then (remsOf xs, true) else ([], false)
theorem vRem_len (xs : List Int) : (vRem xs).1.length ≤ 1000000 := by
  unfold vRem
  split
  · rename_i h
    have := ordB_parts h
    simp only [remsOf_len]
    omega
  · exact Nat.zero_le _
theorem sRemaindersOf_any (g n B : Nat) (xs : List Int) (W : World) (hs : SlAt W B g n n xs) (hl : n ≤ 1048576) : Calls Try.prog 6 #[.slice (some ⟨g, 0, none⟩) n n] W (ListB W (vRem xs).1 (vRem xs).2) := by
  unfold vRem
  cases hb : ordB xs
  · rw [if_neg Bool.false_ne_true]; exact sRemaindersOf_no g n B xs W hs hl hb
  · rw [if_pos rfl]; exact sRemaindersOf_yes g n B xs W hs hl hb
def vUndo (xs : List Int) : List Int × Bool := if ordB xs = true then (undoL xs, true) else ([], false)
theorem vUndo_len (xs : List Int) : (vUndo xs).1.length ≤ 1000000 := by
  unfold vUndo
  split
  · rename_i h
    have := ordB_parts h
    simp only [undoL, undoN_len]
    omega
  · exact Nat.zero_le _
theorem vOfRank_len (p r : Int) : (vOfRank p r).1.length ≤ 1000000 := by
  unfold vOfRank
  split
  · simp only [rkT_len]; omega
  · exact Nat.zero_le _

theorem lawRemaindersOf (A : Option Addr) (n c : Nat) (xs : List Int) (W : World) (hu : Rd W (.slice A n c) xs) (hn : xs.length = n) (hm : n ≤ maxLen)
    (hI : ∀ (g B : Nat) (W : World), n ≤ 1048576 → SlAt W B g n n xs → Calls Try.prog 8 #[.slice (some ⟨g, 0, none⟩) n n] W (ListB W (vRem xs).1 (vRem xs).2)) :
    Calls Try.prog 3 #[.slice A n c] W fun e w' => e = .returned (.bool true) ∧ Kp Nw W w' := by
  by_cases hl : n ≤ 1048576
  · exact lawRemaindersOf_of A n c xs _ _ W hu hn hl (vRem_len xs) (Lib.hid fun g B W hs => sRemaindersOf_any g n B xs W hs hl) (Lib.hid fun g B W hs => hI g B W hl hs)
  · exact lawRemaindersOf_bigp A n c W hm (by omega)

theorem lawStepOfOrder (A : Option Addr) (n c : Nat) (xs : List Int) (W : World) (hu : Rd W (.slice A n c) xs) (hn : xs.length = n) (hm : n ≤ maxLen)
    (hI : ∀ (g B : Nat) (W : World), n ≤ 1048576 → SlAt W B g n n xs → Calls Try.prog 13 #[.slice (some ⟨g, 0, none⟩) n n] W (IntB W (vStepO xs).1 (vStepO xs).2)) :
    Calls Try.prog 4 #[.slice A n c] W fun e w' => e = .returned (.bool true) ∧ Kp Nw W w' := by
  by_cases hl : n ≤ 1048576
  · exact lawStepOfOrder_of A n c xs _ _ W hu hn hl (Lib.hid fun g B W hs => sStepOfOrder_any g n B xs W hs hl) (Lib.hid fun g B W hs => hI g B W hl hs)
  · exact lawStepOfOrder_bigp A n c W hm (by omega)

theorem lawIsCountedOut (A : Option Addr) (n c : Nat) (xs : List Int) (W : World) (hu : Rd W (.slice A n c) xs) (hn : xs.length = n) (hm : n ≤ maxLen)
    (hI : ∀ (g B : Nat) (W : World), n ≤ 1048576 → SlAt W B g n n xs → Calls Try.prog 15 #[.slice (some ⟨g, 0, none⟩) n n] W (Bool2B W (ordB xs && decide (0 < stepO xs)) (ordB xs))) :
    Calls Try.prog 5 #[.slice A n c] W fun e w' => e = .returned (.bool true) ∧ Kp Nw W w' := by
  by_cases hl : n ≤ 1048576
  · exact lawIsCountedOut_of A n c xs _ _ W hu hn hl (Lib.hid fun g B W hs => sIsCountedOut_any g n B xs W hs hl) (Lib.hid fun g B W hs => hI g B W hl hs)
  · exact lawIsCountedOut_bigp A n c W hm (by omega)

end Go.Proofs.Ytgbmoipkgnklfaa
