/- The texts OrG, OrM, LwO7, OrS, OrT, OrU, OrW, OrX, OrY, OrZ, LwO7S, OrV, OrQ, Laws7, as one. -/
import Derived.Test.YtpbbfpgjhmjjoacDeck
import Derived.Test.YtpbbfpgjhmjjoacLaws
import Derived.Test.YtpbbfpgjhmjjoacAt
import Derived.Test.YtpbbfpgjhmjjoacBoth
import Derived.Test.YtpbbfpgjhmjjoacSave
import Derived.Test.YtpbbfpgjhmjjoacSS
namespace Go.Proofs.Ytpbbfpgjhmjjoac
open Go.ChangeShapes Go.WideShapes Go.ChangeAt Go.RowKit
/-- is a list an order? -/
def ordB (xs : List Int) : Bool := decide (1 ≤ xs.length ∧ xs.length ≤ 12) && decide (xs.all (okR 0 ((xs.length : Int) - 1)) = true ∧ xs.Nodup)
theorem ordB_parts {xs : List Int} (h : ordB xs = true) : 1 ≤ xs.length ∧ xs.length ≤ 12 ∧ xs.all (okR 0 ((xs.length : Int) - 1)) = true ∧ xs.Nodup := by
  unfold ordB at h
  rw [Bool.and_eq_true, decide_eq_true_eq, decide_eq_true_eq] at h
  exact ⟨h.1.1, h.1.2, h.2.1, h.2.2⟩
theorem ordB_off {xs : List Int} (h : ¬ (1 ≤ xs.length ∧ xs.length ≤ 12)) : ordB xs = false := by
  unfold ordB; rw [decide_eq_false h]; rfl
theorem ordB_on {xs : List Int} (h : 1 ≤ xs.length ∧ xs.length ≤ 12) : ordB xs = decide (xs.all (okR 0 ((xs.length : Int) - 1)) = true ∧ xs.Nodup) := by
  unfold ordB; rw [decide_eq_true h]; rfl

end Go.Proofs.Ytpbbfpgjhmjjoac
namespace Go.Proofs.Ytpbbfpgjhmjjoac

theorem fndD_split (x : Int) : ∀ (l : List Int) (j : Nat), x ∈ l → ∃ a : Nat, fndD x l j = ((j + a : Nat) : Int) ∧ a < l.length ∧ l.getD a 0 = x
  | [], _, h => by cases h
  | y :: r, j, h => by
    unfold fndD
    by_cases e : y = x
    · exact ⟨0, by rw [if_pos e]; rfl, by simp, by simpa using e⟩
    · rw [if_neg e]
      obtain ⟨a, h1, h2, h3⟩ := fndD_split x r (j + 1) (by
        rcases List.mem_cons.1 h with h | h
        · exact absurd h.symm e
        · exact h)
      exact ⟨a + 1, by rw [h1]; congr 1; omega, by simpa using h2, by simpa using h3⟩
/-- where one stands among those who are left -/
def atL (x : Int) (l : List Int) : Nat := (fndD x l 0).toNat
theorem atL_is (x : Int) (l : List Int) (h : x ∈ l) : fndD x l 0 = (atL x l : Int) ∧ atL x l < l.length ∧ l.getD (atL x l) 0 = x := by
  obtain ⟨a, h1, h2, h3⟩ := fndD_split x l 0 h
  rw [Nat.zero_add] at h1
  have e : atL x l = a := by unfold atL; rw [h1]; rfl
  rw [e]
  exact ⟨h1, h2, h3⟩
/-- those who are left behind the one at an index, counted on from there -/
def cutAt (l : List Int) (a : Nat) : List Int := l.drop (a + 1) ++ l.take a
theorem cutAt_len (l : List Int) (a : Nat) (h : a < l.length) : (cutAt l a).length = l.length - 1 := by unfold cutAt; simp; omega
theorem cutAt_perm (l : List Int) (a : Nat) (h : a < l.length) : (l.getD a 0 :: cutAt l a).Perm l := by
  have e : l = l.take a ++ l[a] :: l.drop (a + 1) := by rw [← List.drop_eq_getElem_cons h, List.take_append_drop]
  have ew : l.getD a 0 = l[a] := by simp [List.getD, h]
  have : (l.getD a 0 :: cutAt l a).Perm (l.take a ++ l[a] :: l.drop (a + 1)) := by
    rw [ew]
    unfold cutAt
    exact (List.Perm.cons _ List.perm_append_comm).trans List.perm_middle.symm
  exact this.trans (by rw [← e])
/-- who is left behind the first j turns of an order, and the remainders of these -/
def remL (xs l0 : List Int) : Nat → List Int
  | 0 => l0
  | j + 1 => cutAt (remL xs l0 j) (atL (xs.getD j 0) (remL xs l0 j))
def remT (xs l0 : List Int) : Nat → List Int
  | 0 => []
  | j + 1 => remT xs l0 j ++ [(((atL (xs.getD j 0) (remL xs l0 j) + 1) % (remL xs l0 j).length : Nat) : Int)]
theorem remT_len (xs l0 : List Int) : ∀ j, (remT xs l0 j).length = j
  | 0 => rfl
  | j + 1 => by rw [remT, List.length_append, remT_len xs l0 j]; rfl
theorem ordB_mem {xs : List Int} (h : ordB xs = true) (j : Nat) (hj : j < xs.length) : xs.getD j 0 ∈ marks 0 xs.length := by
  obtain ⟨h1, h2, h3, h4⟩ := ordB_parts h
  have := okR_get h3 j hj
  unfold marks
  rw [List.mem_map]
  exact ⟨(xs.getD j 0).toNat, by rw [List.mem_range]; omega, by omega⟩
theorem rem_perm {xs : List Int} (h : ordB xs = true) : ∀ j, j ≤ xs.length → (xs.take j ++ remL xs (marks 0 xs.length) j).Perm (marks 0 xs.length)
  | 0, _ => by rw [List.take_zero, List.nil_append]; exact List.Perm.refl _
  | j + 1, hj => by
    have ih := rem_perm h j (by omega)
    obtain ⟨_, _, _, h4⟩ := ordB_parts h
    have hm : xs.getD j 0 ∈ remL xs (marks 0 xs.length) j := by
      have h1 := (ih.mem_iff).2 (ordB_mem h j (by omega))
      rcases List.mem_append.1 h1 with h2 | h2
      · exfalso
        have hn := (nodup_take (xs := xs) (j := j) (by omega)).1 (nodup_of_take (j + 1) h4)
        have e : xs.getD j 0 = xs[j] := by simp [List.getD, show j < xs.length by omega]
        rw [e] at h2
        exact hn.2 h2
      · exact h2
    obtain ⟨_, a2, a3⟩ := atL_is _ _ hm
    have hp := cutAt_perm _ _ a2
    rw [a3] at hp
    have e : xs.take (j + 1) = xs.take j ++ [xs.getD j 0] := by
      rw [List.take_add_one]
      congr 1
      simp [show j < xs.length by omega]
    rw [remL, e, List.append_assoc]
    exact (List.Perm.append_left _ hp).trans ih
theorem rem_mem {xs : List Int} (h : ordB xs = true) (j : Nat) (hj : j < xs.length) : xs.getD j 0 ∈ remL xs (marks 0 xs.length) j := by
  obtain ⟨_, _, _, h4⟩ := ordB_parts h
  have h1 := ((rem_perm h j (by omega)).mem_iff).2 (ordB_mem h j hj)
  rcases List.mem_append.1 h1 with h2 | h2
  · exfalso
    have hn := (nodup_take (xs := xs) (j := j) hj).1 (nodup_of_take (j + 1) h4)
    have e : xs.getD j 0 = xs[j] := by simp [List.getD, hj]
    rw [e] at h2
    exact hn.2 h2
  · exact h2
theorem rem_len {xs : List Int} (h : ordB xs = true) (j : Nat) (hj : j ≤ xs.length) : (remL xs (marks 0 xs.length) j).length = xs.length - j := by
  have h1 := (rem_perm h j hj).length_eq
  rw [List.length_append, marks_length, List.length_take] at h1
  omega
/-- the remainders of an order -/
def remsOf (xs : List Int) : List Int := remT xs (marks 0 xs.length) xs.length
theorem remsOf_len (xs : List Int) : (remsOf xs).length = xs.length := remT_len _ _ _
end Go.Proofs.Ytpbbfpgjhmjjoac
namespace Go.Proofs.Ytpbbfpgjhmjjoac
open Go.ChangeShapes Go.WideShapes Go.ChangeAt Go.RowKit

/-- what a call returns that tells two times yes or no -/
def Bool2B (W : World) (a b : Bool) (e : Ending) (w' : World) : Prop := e = .returned (.tuple #[.bool a, .bool b]) ∧ Kp Nw W w'

set_option maxHeartbeats 800000 in
theorem lawOrderOfRemainders_bigp (Ap : Option Addr) (np cp : Nat) (W : World) (hmp : np ≤ maxLen) (hb : 1048576 < np) :
    Calls Try.prog 3 #[.slice Ap np cp] W fun e w' => e = .returned (.bool true) ∧ Kp Nw W w' := by
  have hb2 : (1048576 : Int) < np := by omega
  have hb3 : (np : Int) ≤ 9223372036854775807 := by unfold maxLen at hmp; omega
  go_enter Try.func3, Try.ntmps3
  go_wp2
  go_ret
  exact ⟨rfl, Kp.refl _ _⟩

set_option maxHeartbeats 3200000 in
set_option maxRecDepth 100000 in
theorem lawOrderOfRemainders_of (Ap : Option Addr) (np cp : Nat) (xsp : List Int) (zs : List Int) (b : Bool) (W : World) (hup : Rd W (.slice Ap np cp) xsp) (hnp : xsp.length = np) (hp : np ≤ 1048576) (hlen : zs.length ≤ 1000000)
    (hS : Hid (∀ (gp Bp : Nat) (W : World), SlAt W Bp gp np np xsp → Calls Try.prog 6 #[.slice (some ⟨gp, 0, none⟩) np np] W (ListB W zs b))) (hI : Hid (∀ (gp Bp : Nat) (W : World), SlAt W Bp gp np np xsp → Calls Try.prog 8 #[.slice (some ⟨gp, 0, none⟩) np np] W (ListB W zs b))) :
    Calls Try.prog 3 #[.slice Ap np cp] W fun e w' => e = .returned (.bool true) ∧ Kp Nw W w' := by
  obtain ⟨m, hm⟩ : ∃ m, zs.length = m := ⟨_, rfl⟩
  have HL : Hid (zs.length ≤ maxLen) := Lib.hid (by unfold maxLen; omega)
  have hlen : m ≤ 1000000 := by omega
  have hm0 : (0 : Int) ≤ m := Int.natCast_nonneg _
  have HM := Lib.hid hm
  clear hm
  have HUp := Lib.hid hup
  have HNp := Lib.hid hnp
  have HLXp : Hid (xsp.length ≤ maxLen) := Lib.hid (by unfold maxLen; omega)
  have n0p : (0 : Int) ≤ np := Int.natCast_nonneg _
  have q1p : (np : Int) ≤ 1048576 := by omega
  clear hup hnp
  have HK := Lib.hid (Kp.refl Nw W)
  go_enter Try.func3, Try.ntmps3
  go_wp2_with fail
  refine (toIntS_any _ np xsp _ (HUp.out.nw HK.out) HNp.out hp).mono ?_
  rintro e w1 ⟨g1, rfl, hs1, hk1, hg1, hl1⟩
  have HTp := Lib.hid hs1
  have RHTp : Hid (W.heap.size ≤ g1 ∧ g1 < w1.heap.size) := Lib.hid ⟨hg1, hl1⟩
  have HK := Lib.hid (HK.out.nw hk1)
  have z1 : W.heap.size ≤ w1.heap.size := hk1.size
  clear hs1 hk1 hg1 hl1
  go_wp2_with fail
  refine (hS.out g1 _ _ HTp.out).mono ?_
  rintro e w2 ⟨v2, rfl, hs2, hk2⟩
  obtain ⟨A2, c2, rfl⟩ := hs2.val HM.out
  have HV2 := Lib.hid hs2
  have O2 : Hid (∀ g, (Value.slice A2 m c2).ownBlock = some g → w1.heap.size ≤ g ∧ g < w2.heap.size) := Lib.hid hs2.own_ge
  have HTp := Lib.hid (HTp.out.kq hk2 (fun h => h))
  have HK := Lib.hid (HK.out.nw hk2)
  have z2 : w1.heap.size ≤ w2.heap.size := hk2.size
  clear hs2 hk2
  go_wp2_with fail
  refine (toIntS_any _ np xsp _ (HUp.out.nw HK.out) HNp.out hp).mono ?_
  rintro e w3 ⟨g3, rfl, hs3, hk3, hg3, hl3⟩
  have HXp := Lib.hid hs3
  have RHXp : Hid (w2.heap.size ≤ g3 ∧ g3 < w3.heap.size) := Lib.hid ⟨hg3, hl3⟩
  have HV2 := Lib.hid (HV2.out.below hk3.below')
  have HK := Lib.hid (HK.out.nw hk3)
  have z3 : w2.heap.size ≤ w3.heap.size := hk3.size
  clear hs3 hk3 hg3 hl3
  go_wp2_with fail
  refine (hI.out g3 _ _ HXp.out).mono ?_
  rintro e w4 ⟨v4, rfl, hs4, hk4⟩
  obtain ⟨A4, c4, rfl⟩ := hs4.val HM.out
  have HV4 := Lib.hid hs4
  have O4 : Hid (∀ g, (Value.slice A4 m c4).ownBlock = some g → w3.heap.size ≤ g ∧ g < w4.heap.size) := Lib.hid hs4.own_ge
  have HV2 := Lib.hid (HV2.out.below hk4.below')
  have HXp := Lib.hid (HXp.out.kq hk4 (fun h => h))
  have HK := Lib.hid (HK.out.nw hk4)
  have z4 : w3.heap.size ≤ w4.heap.size := hk4.size
  clear hs4 hk4
  go_wp2_with fail
  refine (eqIntS_same _ _ zs _ HV4.out.rd HV2.out.rd HL.out).mono ?_
  rintro e w5 ⟨rfl, d5, hd5⟩
  have hk5 : Kp Nw w4 w5 := by rw [hd5]; exact (Kp.refl _ _).drewN d5
  have z5 : w4.heap.size ≤ w5.heap.size := hk5.size
  clear hd5
  have HV2 := Lib.hid (HV2.out.below hk5.below')
  have HXp := Lib.hid (HXp.out.kq hk5 (fun h => h))
  have HV4 := Lib.hid (HV4.out.below hk5.below')
  have HK := Lib.hid (HK.out.nw hk5)
  clear hk5
  go_wp2_with fail
  refine (toIntS_any _ np xsp _ (HUp.out.nw HK.out) HNp.out hp).mono ?_
  rintro e w6 ⟨g6, rfl, hs6, hk6, hg6, hl6⟩
  have HYp := Lib.hid hs6
  have RHYp : Hid (w5.heap.size ≤ g6 ∧ g6 < w6.heap.size) := Lib.hid ⟨hg6, hl6⟩
  have HV2 := Lib.hid (HV2.out.below hk6.below')
  have HXp := Lib.hid (HXp.out.kq hk6 (fun h => h))
  have HV4 := Lib.hid (HV4.out.below hk6.below')
  have HK := Lib.hid (HK.out.nw hk6)
  have z6 : w5.heap.size ≤ w6.heap.size := hk6.size
  clear hs6 hk6 hg6 hl6
  go_wp2_with fail
  refine (eqIntS_same _ _ xsp _ HXp.out.sl.rd HYp.out.sl.rd HLXp.out).mono ?_
  rintro e w7 ⟨rfl, d7, hd7⟩
  have hk7 : Kp Nw w6 w7 := by rw [hd7]; exact (Kp.refl _ _).drewN d7
  have z7 : w6.heap.size ≤ w7.heap.size := hk7.size
  clear hd7
  have HV2 := Lib.hid (HV2.out.below hk7.below')
  have HXp := Lib.hid (HXp.out.kq hk7 (fun h => h))
  have HV4 := Lib.hid (HV4.out.below hk7.below')
  have HYp := Lib.hid (HYp.out.kq hk7 (fun h => h))
  have HK := Lib.hid (HK.out.nw hk7)
  clear hk7
  go_wp2_with fail
  refine (markIntS_any _ xsp (1) _ _ HXp.out.sl (by omega) (by omega) (by rw [HNp.out]; omega)).mono ?_
  rintro e w8 ⟨rfl, _, hk8⟩
  rw [HNp.out]
  have z8 : w7.heap.size ≤ w8.heap.size := hk8.size
  have Mp : Hid (∀ g, (Value.slice (some ⟨g3, 0, none⟩) np np).ownBlock = some g → w2.heap.size ≤ g ∧ g < w3.heap.size) := Lib.hid (fun g hg => by
    have e9 : g = g3 := by simp [Value.ownBlock] at hg; omega
    rw [e9]; exact RHXp.out)
  have HV2 := Lib.hid (HV2.out.kp hk8 (fun g a b => by have := O2.out g a; have := Mp.out g b; omega))
  have HV4 := Lib.hid (HV4.out.kp hk8 (fun g a b => by have := O4.out g a; have := Mp.out g b; omega))
  have HK := Lib.hid (HK.out.after hk8 (fun g hg h2 => by have := Mp.out g h2; omega))
  clear hk8
  go_wp2_with fail
  refine (eqIntS_same _ _ zs _ HV4.out.rd HV2.out.rd HL.out).mono ?_
  rintro e w9 ⟨rfl, d9, hd9⟩
  have hk9 : Kp Nw w8 w9 := by rw [hd9]; exact (Kp.refl _ _).drewN d9
  have z9 : w8.heap.size ≤ w9.heap.size := hk9.size
  clear hd9
  have HV2 := Lib.hid (HV2.out.below hk9.below')
  have HV4 := Lib.hid (HV4.out.below hk9.below')
  have HK := Lib.hid (HK.out.nw hk9)
  clear hk9
  go_wp2_with fail
  refine (markIntS_any _ zs 1 _ _ HV4.out (by omega) (by omega) (by rw [HM.out]; omega)).mono ?_
  rintro e w10 ⟨rfl, hs10, hk10⟩
  rw [HM.out] at hs10 ⊢
  have z10 : w9.heap.size ≤ w10.heap.size := hk10.size
  have HV2 := Lib.hid (HV2.out.kp hk10 (fun g a b => by have := O2.out g a; have := O4.out g b; omega))
  have HK := Lib.hid (HK.out.after hk10 (fun g hg h2 => by have := O4.out g h2; omega))
  have HV4 := Lib.hid hs10
  clear hs10 hk10
  go_wp2_with fail
  refine (heldIntS_any _ 1 m _ HV4.out.rd (by omega) (by omega) (by omega)).mono ?_
  rintro e w11 ⟨rfl, rfl⟩
  go_wp2_with fail
  refine (toIntS_any _ np xsp _ (HUp.out.nw HK.out) HNp.out hp).mono ?_
  rintro e w12 ⟨g12, rfl, hs12, hk12, hg12, hl12⟩
  have HZp := Lib.hid hs12
  have RHZp : Hid (w10.heap.size ≤ g12 ∧ g12 < w12.heap.size) := Lib.hid ⟨hg12, hl12⟩
  have HV2 := Lib.hid (HV2.out.below hk12.below')
  have HV4 := Lib.hid (HV4.out.below hk12.below')
  have HK := Lib.hid (HK.out.nw hk12)
  have z12 : w10.heap.size ≤ w12.heap.size := hk12.size
  clear hs12 hk12 hg12 hl12
  go_wp2_with fail
  refine (hI.out g12 _ _ HZp.out).mono ?_
  rintro e w13 ⟨v13, rfl, hs13, hk13⟩
  obtain ⟨A13, c13, rfl⟩ := hs13.val HM.out
  have HV13 := Lib.hid hs13
  have O13 : Hid (∀ g, (Value.slice A13 m c13).ownBlock = some g → w12.heap.size ≤ g ∧ g < w13.heap.size) := Lib.hid hs13.own_ge
  have HV2 := Lib.hid (HV2.out.below hk13.below')
  have HV4 := Lib.hid (HV4.out.below hk13.below')
  have HZp := Lib.hid (HZp.out.kq hk13 (fun h => h))
  have HK := Lib.hid (HK.out.nw hk13)
  have z13 : w12.heap.size ≤ w13.heap.size := hk13.size
  clear hs13 hk13
  go_wp2_with fail
  refine (eqIntS_same _ _ zs _ HV13.out.rd HV2.out.rd HL.out).mono ?_
  rintro e w14 ⟨rfl, d14, hd14⟩
  have hk14 : Kp Nw w13 w14 := by rw [hd14]; exact (Kp.refl _ _).drewN d14
  have z14 : w13.heap.size ≤ w14.heap.size := hk14.size
  clear hd14
  have HV2 := Lib.hid (HV2.out.below hk14.below')
  have HV4 := Lib.hid (HV4.out.below hk14.below')
  have HV13 := Lib.hid (HV13.out.below hk14.below')
  have HK := Lib.hid (HK.out.nw hk14)
  clear hk14
  go_wp2_with fail
  refine (heldIntS_any _ 1 m _ HV4.out.rd (by omega) (by omega) (by omega)).mono ?_
  rintro e wl ⟨rfl, rfl⟩
  go_wp2
  go_ret
  exact ⟨rfl, HK.out⟩

set_option maxHeartbeats 3200000 in
set_option maxRecDepth 100000 in
theorem lawOrderOfRank_of (p : Int) (k : Int) (zs : List Int) (b : Bool) (W : World) (hlen : zs.length ≤ 1000000)
    (hS : Hid (∀ (W : World), Calls Try.prog 12 #[.int .i64 p, .int .i64 k] W (ListB W zs b))) (hI : Hid (∀ (W : World), Calls Try.prog 13 #[.int .i64 p, .int .i64 k] W (ListB W zs b))) :
    Calls Try.prog 4 #[.int .i64 p, .int .i64 k] W fun e w' => e = .returned (.bool true) ∧ Kp Nw W w' := by
  obtain ⟨m, hm⟩ : ∃ m, zs.length = m := ⟨_, rfl⟩
  have HL : Hid (zs.length ≤ maxLen) := Lib.hid (by unfold maxLen; omega)
  have hlen : m ≤ 1000000 := by omega
  have hm0 : (0 : Int) ≤ m := Int.natCast_nonneg _
  have HM := Lib.hid hm
  clear hm
  have HK := Lib.hid (Kp.refl Nw W)
  go_enter Try.func4, Try.ntmps4
  go_wp2_with fail
  refine (hS.out _ ).mono ?_
  rintro e w1 ⟨v1, rfl, hs1, hk1⟩
  obtain ⟨A1, c1, rfl⟩ := hs1.val HM.out
  have HV1 := Lib.hid hs1
  have O1 : Hid (∀ g, (Value.slice A1 m c1).ownBlock = some g → W.heap.size ≤ g ∧ g < w1.heap.size) := Lib.hid hs1.own_ge
  have HK := Lib.hid (HK.out.nw hk1)
  have z1 : W.heap.size ≤ w1.heap.size := hk1.size
  clear hs1 hk1
  go_wp2_with fail
  refine (hI.out _ ).mono ?_
  rintro e w2 ⟨v2, rfl, hs2, hk2⟩
  obtain ⟨A2, c2, rfl⟩ := hs2.val HM.out
  have HV2 := Lib.hid hs2
  have O2 : Hid (∀ g, (Value.slice A2 m c2).ownBlock = some g → w1.heap.size ≤ g ∧ g < w2.heap.size) := Lib.hid hs2.own_ge
  have HV1 := Lib.hid (HV1.out.below hk2.below')
  have HK := Lib.hid (HK.out.nw hk2)
  have z2 : w1.heap.size ≤ w2.heap.size := hk2.size
  clear hs2 hk2
  go_wp2_with fail
  refine (eqIntS_same _ _ zs _ HV2.out.rd HV1.out.rd HL.out).mono ?_
  rintro e w3 ⟨rfl, d3, hd3⟩
  have hk3 : Kp Nw w2 w3 := by rw [hd3]; exact (Kp.refl _ _).drewN d3
  have z3 : w2.heap.size ≤ w3.heap.size := hk3.size
  clear hd3
  have HV1 := Lib.hid (HV1.out.below hk3.below')
  have HV2 := Lib.hid (HV2.out.below hk3.below')
  have HK := Lib.hid (HK.out.nw hk3)
  clear hk3
  go_wp2_with fail
  refine (markIntS_any _ zs 1 _ _ HV2.out (by omega) (by omega) (by rw [HM.out]; omega)).mono ?_
  rintro e w4 ⟨rfl, hs4, hk4⟩
  rw [HM.out] at hs4 ⊢
  have z4 : w3.heap.size ≤ w4.heap.size := hk4.size
  have HV1 := Lib.hid (HV1.out.kp hk4 (fun g a b => by have := O1.out g a; have := O2.out g b; omega))
  have HK := Lib.hid (HK.out.after hk4 (fun g hg h2 => by have := O2.out g h2; omega))
  have HV2 := Lib.hid hs4
  clear hs4 hk4
  go_wp2_with fail
  refine (heldIntS_any _ 1 m _ HV2.out.rd (by omega) (by omega) (by omega)).mono ?_
  rintro e w5 ⟨rfl, rfl⟩
  go_wp2_with fail
  refine (hI.out _ ).mono ?_
  rintro e w6 ⟨v6, rfl, hs6, hk6⟩
  obtain ⟨A6, c6, rfl⟩ := hs6.val HM.out
  have HV6 := Lib.hid hs6
  have O6 : Hid (∀ g, (Value.slice A6 m c6).ownBlock = some g → w4.heap.size ≤ g ∧ g < w6.heap.size) := Lib.hid hs6.own_ge
  have HV1 := Lib.hid (HV1.out.below hk6.below')
  have HV2 := Lib.hid (HV2.out.below hk6.below')
  have HK := Lib.hid (HK.out.nw hk6)
  have z6 : w4.heap.size ≤ w6.heap.size := hk6.size
  clear hs6 hk6
  go_wp2_with fail
  refine (eqIntS_same _ _ zs _ HV6.out.rd HV1.out.rd HL.out).mono ?_
  rintro e w7 ⟨rfl, d7, hd7⟩
  have hk7 : Kp Nw w6 w7 := by rw [hd7]; exact (Kp.refl _ _).drewN d7
  have z7 : w6.heap.size ≤ w7.heap.size := hk7.size
  clear hd7
  have HV1 := Lib.hid (HV1.out.below hk7.below')
  have HV2 := Lib.hid (HV2.out.below hk7.below')
  have HV6 := Lib.hid (HV6.out.below hk7.below')
  have HK := Lib.hid (HK.out.nw hk7)
  clear hk7
  go_wp2_with fail
  refine (heldIntS_any _ 1 m _ HV2.out.rd (by omega) (by omega) (by omega)).mono ?_
  rintro e wl ⟨rfl, rfl⟩
  go_wp2
  go_ret
  exact ⟨rfl, HK.out⟩

set_option maxHeartbeats 3200000 in
set_option maxRecDepth 100000 in
theorem lawStepsWithFixed_of (p : Int) (k : Int) (z : Int) (b : Bool) (W : World)
    (hS : Hid (∀ (W : World), Calls Try.prog 14 #[.int .i64 p, .int .i64 k] W (IntB W z b))) (hI : Hid (∀ (W : World), Calls Try.prog 15 #[.int .i64 p, .int .i64 k] W (IntB W z b))) :
    Calls Try.prog 5 #[.int .i64 p, .int .i64 k] W fun e w' => e = .returned (.bool true) ∧ Kp Nw W w' := by
  have HK := Lib.hid (Kp.refl Nw W)
  go_enter Try.func5, Try.ntmps5
  go_wp2_with fail
  refine (hS.out _ ).mono ?_
  rintro e w1 ⟨rfl, hk1⟩
  have HK := Lib.hid (HK.out.nw hk1)
  have z1 : W.heap.size ≤ w1.heap.size := hk1.size
  clear hk1
  go_wp2_with fail
  refine (hI.out _ ).mono ?_
  rintro e w2 ⟨rfl, hk2⟩
  have HK := Lib.hid (HK.out.nw hk2)
  have z2 : w1.heap.size ≤ w2.heap.size := hk2.size
  clear hk2
  go_wp2
  go_ret
  exact ⟨rfl, HK.out⟩

end Go.Proofs.Ytpbbfpgjhmjjoac
namespace Go.Proofs.Ytpbbfpgjhmjjoac
open Go.ChangeShapes Go.WideShapes Go.ChangeAt Go.RowKit
/-- who is left behind the first j turns with remainders, and who went -/
def oL (us l0 : List Int) : Nat → List Int
  | 0 => l0
  | j + 1 => cutAt (oL us l0 j) (((us.getD j 0 + (oL us l0 j).length - 1) % ((oL us l0 j).length : Int)).toNat)
def oT (us l0 : List Int) : Nat → List Int
  | 0 => []
  | j + 1 => oT us l0 j ++ [(oL us l0 j).getD (((us.getD j 0 + (oL us l0 j).length - 1) % ((oL us l0 j).length : Int)).toNat) 0]
theorem oT_len (us l0 : List Int) : ∀ j, (oT us l0 j).length = j
  | 0 => rfl
  | j + 1 => by rw [oT, List.length_append, oT_len us l0 j]; rfl
theorem oP_lt (u : Int) (m : Nat) (h : 0 < m) : ((u + m - 1) % (m : Int)).toNat < m := by
  have h1 := Int.emod_nonneg (u + m - 1) (b := (m : Int)) (by omega)
  have h2 := Int.emod_lt_of_pos (u + m - 1) (b := (m : Int)) (by omega)
  omega
theorem oL_len (us l0 : List Int) : ∀ j, j ≤ l0.length → (oL us l0 j).length = l0.length - j
  | 0, _ => rfl
  | j + 1, h => by
    have ih := oL_len us l0 j (by omega)
    rw [oL, cutAt_len _ _ (oP_lt _ _ (by omega)), ih]
    omega
def okU (us : List Int) (j : Nat) : Bool := okR 0 ((us.length : Int) - j - 1) (us.getD j 0)
def vOrR (us : List Int) : List Int × Bool := if (1 ≤ us.length ∧ us.length ≤ 12) ∧ ∀ j, j < us.length → okU us j = true then (oT us (marks 0 us.length) us.length, true) else ([], false)
theorem vOrR_len (us : List Int) : (vOrR us).1.length ≤ 1000000 := by
  unfold vOrR
  split
  · rename_i h
    rw [oT_len]; omega
  · exact Nat.zero_le _
set_option maxRecDepth 100000 in
set_option maxHeartbeats 3200000 in
theorem sOrderOfRemainders_any (g n B : Nat) (xs : List Int) (W : World) (hs : SlAt W B g n n xs) (hl : n ≤ 1048576) : Calls Try.prog 6 #[.slice (some ⟨g, 0, none⟩) n n] W (ListB W (vOrR xs).1 (vOrR xs).2) := by
  have hlen := hs.1
  have HS := Lib.hid hs
  obtain ⟨⟨zs, b⟩, hV⟩ : ∃ V, vOrR xs = V := ⟨_, rfl⟩
  rw [hV]
  have HV := Lib.hid hV
  have HLX := Lib.hid hlen
  clear hs hV hlen
  by_cases hn : (n : Int) < 1 ∨ 12 < (n : Int)
  · have HF : Hid ((zs, b) = (([], false) : List Int × Bool)) := Lib.hid (by rw [← HV.out]; unfold vOrR; rw [if_neg (fun h => by have := HLX.out; omega)])
    obtain ⟨rfl, rfl⟩ := Prod.mk.inj HF.out
    go_enter Try.func6, Try.ntmps6
    go_wp2_with (first | ((with_reducible refine (l1In_no (n : Int) _ _ _ hn).mono ?_); rintro e w' ⟨rfl, rfl⟩))
    go_ret2
    exact ⟨.slice none 0 0, rfl, Sl.nil _ _, Kp.refl _ _⟩
  · have n1 : 1 ≤ (n : Int) := by omega
    have n2 : (n : Int) ≤ 12 := by omega
    clear hn
    go_enter Try.func6, Try.ntmps6
    go_wp2_with (first | ((with_reducible refine (l1In_yes (n : Int) _ _ _ n1 n2).mono ?_); rintro e w' ⟨rfl, rfl⟩))
    refine (ciPeople_any n W (by omega)).mono ?_
    rintro e w1 ⟨v0, rfl, hs0, hk0⟩
    have HS0 := Lib.hid hs0
    have HK0 := Lib.hid hk0
    clear hs0 hk0
    go_wp2
    go_loopw [5, 6, 19] (fun u0 r0 i wq => ∃ (j : Nat) (u r : Value) (wr : World), j ≤ n ∧ i = .int .i64 j ∧ u = u0 ∧ r = r0 ∧ wr = wq ∧ (∀ k, k < j → okU xs k = true) ∧ Sl wr W.heap.size u (oL xs (marks 0 n) j) ∧ Sl wr W.heap.size r (oT xs (marks 0 n) j) ∧ (∀ b, u.ownBlock = some b → r.ownBlock ≠ some b) ∧ Kp Nw W wr) (fun _ _ i _ => n - (intOf i).toNat)
    case atStart => exact ⟨0, _, _, _, Nat.zero_le _, rfl, rfl, rfl, rfl, (fun k hk => absurd hk (Nat.not_lt_zero k)), HS0.out, Sl.nil _ _, (fun b _ e => by simp [Value.ownBlock] at e), HK0.out⟩
    case round =>
      obtain ⟨j, u, r, wr, hj, rfl, rfl, rfl, rfl, hok, hu, hr, hdi, hk⟩ := hrel
      have HOK := Lib.hid hok
      have HR := Lib.hid hr
      have HDI := Lib.hid hdi
      have HK := Lib.hid hk
      have j0 : (0 : Int) ≤ j := Int.natCast_nonneg _
      by_cases hlt : j < n
      · have j1 : (j : Int) < n := by omega
        obtain ⟨l, hl'⟩ : ∃ l, oL xs (marks 0 n) j = l := ⟨_, rfl⟩
        obtain ⟨x, hx⟩ : ∃ x, xs.getD j 0 = x := ⟨_, rfl⟩
        have hll : l.length = n - j := by
          have := oL_len xs (marks 0 n) j (by rw [marks_length]; omega)
          rw [marks_length, hl'] at this
          exact this
        obtain ⟨m, hm⟩ : ∃ m, n - j = m := ⟨_, rfl⟩
        have hmb : m ≤ 12 := by omega
        rw [hm] at hll
        rw [hl'] at hu
        obtain ⟨gu, cu, rfl, hua, hc1, hc2, _, _⟩ := hu.at_ (by omega)
        rw [hll] at hua hc1 ⊢
        have cx := keepc HK.out (HS.out.cell j hlt) (fun h => h)
        rw [hx] at cx
        have wf1 : IntKind.i64.wrap ((n : Int) - j) = (n : Int) - j := IntWalk.i64_in _ (by omega)
        have wf2 : IntKind.i64.wrap ((n : Int) - j - 1) = (n : Int) - j - 1 := IntWalk.i64_in _ (by omega)
        by_cases hP : 0 ≤ x ∧ x ≤ (n : Int) - j - 1
        · obtain ⟨P1, P2⟩ := hP
          obtain ⟨a, haa⟩ : ∃ a, ((x + m - 1) % (m : Int)).toNat = a := ⟨_, rfl⟩
          have ha2 : a < m := by rw [← haa]; exact oP_lt x m (by omega)
          have hai : (x + (m : Int) - 1) % (m : Int) = (a : Int) := by
            rw [← haa]
            have h1 := Int.emod_nonneg (x + m - 1) (b := (m : Int)) (by omega)
            omega
          have hst1 : oL xs (marks 0 n) (j + 1) = cutAt l a := by rw [oL, hl', hx, hll, haa]
          obtain ⟨y, hy⟩ : ∃ y, l.getD a 0 = y := ⟨_, rfl⟩
          have hst2 : oT xs (marks 0 n) (j + 1) = oT xs (marks 0 n) j ++ [y] := by rw [oT, hl', hx, hll, haa, hy]
          have HT1 := Lib.hid hst1
          have HT2 := Lib.hid hst2
          have HLL := Lib.hid hll
          have HRL := Lib.hid (oT_len xs (marks 0 n) j)
          have HUA := Lib.hid hua
          have HOK2 : Hid (∀ k, k < j + 1 → okU xs k = true) := Lib.hid (fun k hk => by
            by_cases e : k = j
            · subst e
              unfold okU okR
              rw [hx, HLX.out]
              exact decide_eq_true ⟨P1, P2⟩
            · exact hok k (by omega))
          have ca := hua.cell a ha2
          rw [hy] at ca
          have t1 : (x + (m : Int) - 1).tmod (m : Int) = (a : Int) := by rw [Int.tmod_eq_emod_of_nonneg (by omega)]; exact hai
          have t2 : IntKind.i64.wrap (a : Int) = (a : Int) := IntWalk.i64_in _ (by omega)
          have t3 : IntKind.i64.wrap (x + (m : Int)) = x + (m : Int) := IntWalk.i64_in _ (by omega)
          have t4 : IntKind.i64.wrap (x + (m : Int) - 1) = x + (m : Int) - 1 := IntWalk.i64_in _ (by omega)
          have m1 : (m : Int) ≠ 0 := by omega
          have m2 : ¬ (m : Int) = 0 := by omega
          have m3 : ((m : Int) == 0) = false := by simp; omega
          have a0 : (0 : Int) ≤ a := Int.natCast_nonneg _
          have a1 : (a : Int) < m := by omega
          unfold maxLen at hc2
          have q1 : IntKind.i64.wrap ((a : Int) + 1) = (a : Int) + 1 := IntWalk.i64_in _ (by omega)
          have q2 : (0 : Int) ≤ (a : Int) + 1 := by omega
          have q3 : (a : Int) + 1 ≤ m := by omega
          have q4 : ((a : Int) + 1).toNat = a + 1 := by omega
          have q5 : (a : Int) ≤ cu := by omega
          have q6 := cut_to gu m cu a (by omega)
          obtain ⟨Ad, had, q7⟩ := cut_from gu m cu (a + 1) (by omega) (by omega)
          rw [show ((a + 1 : Nat) : Int) = (a : Int) + 1 from rfl] at q7
          have AD := Lib.hid had
          clear had
          have hz1 : W.heap.size ≤ wr.heap.size := HK.out.size
          clear hok hu hr hdi hk hl' hx hll hm hua haa hst1 hst2 hy hai
          go_wp2_with (first | ((with_reducible refine (l1In_yes x 0 ((n : Int) - j - 1) _ P1 P2).mono ?_); rintro e w' ⟨rfl, rfl⟩) | (at_builtin; refine wpList_app _ rfl (.tmp 39) (.tmp 44) rfl W.heap.size r _ (oT xs (marks 0 n) j) [y] rfl rfl (HR.out.below (Kp.al _ _).below') (Rd.one (g := wr.heap.size) (by simp)) nil_one (by rw [HRL.out]; simp; omega) (by simp; omega) ?_))
          intro r' w2 hs2 hk2 hat2
          have k2 : Kp (fun b => r.ownBlock = some b) wr w2 := ((Kp.refl _ wr).alloc _).after hk2 (fun _ _ e => e)
          have HU2 := Lib.hid (HUA.out.kq k2 (fun e => HDI.out gu rfl e))
          have HK2 := Lib.hid (HK.out.after k2 (fun b hb e => by have := (HR.out.own_ge b e).1; omega))
          have HS2 := Lib.hid hs2
          have z2 : wr.heap.size ≤ w2.heap.size := k2.size
          clear hs2 hk2 hat2 k2 cx ca
          go_wp2_with fail
          go_region_held3 (fun w' => Kp Nw w2 w' ∧ True)
            (first
              | exact ⟨(Kp.refl _ _).drew, trivial⟩
              | exact ⟨hkW7, trivial⟩
              | exact ⟨hkW6, trivial⟩
              | fail)
            (first
              | (go_at_call 18
                 refine (l1Own_any _ (l.drop (a + 1)) _ (Rd.nw' (HU2.out.drop (a + 1) (by omega) _ _ AD.out) (‹Kp Nw w2 _ ∧ _›.1)) (HU2.out.drop_vn _ _ _) (by have := HLL.out; simp; omega)).mono ?_
                 rintro e w6 ⟨v6, rfl, hs6, hk6⟩
                 have hkW6 := (‹Kp Nw w2 _ ∧ _›.1).nw hk6)
              | (refine step_app _ (by rfl) (.tmp 50) (.tmp 53) (by rfl) w2.heap.size v6 _ (l.drop (a + 1)) (l.take a) (by rfl) (by rfl) hs6 (Rd.nw' (HU2.out.take a (by omega)) hkW6) (HU2.out.take_vn a (by omega) _) (by have := HLL.out; simp; omega) hkW6.size ?_
                 intro v7 w7 hs7 hk7 _
                 have hkW7 := hkW6.own hs6 hk7)
              | fail)
          have HK7 := Lib.hid (HK2.out.nw hkW7)
          have HS7 := Lib.hid (show Sl w7 W.heap.size v7 (cutAt l a) from hs7.from (by omega))
          have HR7 := Lib.hid (HS2.out.below hkW7.below')
          have HD7 : Hid (∀ b, v7.ownBlock = some b → r'.ownBlock ≠ some b) := Lib.hid (fun b h1 h2 => by have h3 := (hs7.own_ge b h1).1; have h4 := (HS2.out.own_ge b h2).2; omega)
          clear hs7 hk7 hkW7 hs6 hk6 hkW6
          go_wp2
          go_roundw
          case rel => exact ⟨j + 1, v7, r', _, by omega, by go_num, rfl, rfl, rfl, HOK2.out, by rw [HT1.out]; exact HS7.out, by rw [HT2.out]; exact HR7.out, HD7.out, HK7.out⟩
          case measure => simp [intOf] <;> omega
        · have hP' : x < 0 ∨ (n : Int) - j - 1 < x := by omega
          have HF : Hid ((zs, b) = (([], false) : List Int × Bool)) := Lib.hid (by
            rw [← HV.out]; unfold vOrR
            rw [if_neg]
            rintro ⟨_, h⟩
            have := h j (by rw [HLX.out]; exact hlt)
            unfold okU okR at this
            rw [hx, HLX.out] at this
            exact hP (of_decide_eq_true this))
          obtain ⟨rfl, rfl⟩ := Prod.mk.inj HF.out
          clear hok hu hr hdi hk hl' hx hll hm hua
          go_wp2_with (first | ((with_reducible refine (l1In_no x 0 ((n : Int) - j - 1) _ hP').mono ?_); rintro e w' ⟨rfl, rfl⟩))
          go_ret2
          exact ⟨.slice none 0 0, rfl, Sl.nil _ _, HK.out⟩
      · have ej : j = n := by omega
        subst ej
        have HF : Hid ((zs, b) = (oT xs (marks 0 j) j, true)) := Lib.hid (by
          rw [← HV.out]; unfold vOrR
          rw [if_pos ⟨by rw [HLX.out]; omega, fun k hk => hok k (by rw [← HLX.out]; exact hk)⟩, HLX.out])
        have HFS := Lib.hid hr
        obtain ⟨rfl, rfl⟩ := Prod.mk.inj HF.out
        clear hok hu hr hdi hk
        go_wp2
        go_ret2
        exact ⟨r, rfl, HFS.out, HK.out⟩
end Go.Proofs.Ytpbbfpgjhmjjoac
namespace Go.Proofs.Ytpbbfpgjhmjjoac
open Go.ChangeShapes Go.WideShapes Go.ChangeAt Go.RowKit

/-- two orders joined -/
def joinL (xs ys : List Int) : List Int := ys.map (fun y => xs.getD y.toNat 0)
theorem joinL_len (xs ys : List Int) : (joinL xs ys).length = ys.length := by unfold joinL; simp
theorem joinL_take (xs ys : List Int) (k : Nat) (h : k < ys.length) : joinL xs (ys.take (k + 1)) = joinL xs (ys.take k) ++ [xs.getD (ys.getD k 0).toNat 0] := by
  unfold joinL
  have e : ys[k]? = some (ys.getD k 0) := by simp [h]
  rw [List.take_add_one, e, List.map_append]
  rfl
theorem ordB_get {xs : List Int} (h : ordB xs = true) (j : Nat) (hj : j < xs.length) : 0 ≤ xs.getD j 0 ∧ xs.getD j 0 < xs.length := by
  obtain ⟨h1, h2, h3, h4⟩ := ordB_parts h
  have := okR_get h3 j hj
  omega
def vJoin (xs ys : List Int) : List Int × Bool := if ordB xs = true ∧ ordB ys = true ∧ xs.length = ys.length then (joinL xs ys, true) else ([], false)
theorem vJoin_len (xs ys : List Int) : (vJoin xs ys).1.length ≤ 1000000 := by
  unfold vJoin
  split
  · rename_i h
    have := ordB_parts h.2.1
    rw [joinL_len]; omega
  · exact Nat.zero_le _
/-- an order undone, up to a turn -/
def undoN (xs : List Int) : Nat → List Int
  | 0 => List.replicate xs.length 0
  | j + 1 => (undoN xs j).set (xs.getD j 0).toNat (j : Int)
theorem undoN_len (xs : List Int) : ∀ j, (undoN xs j).length = xs.length
  | 0 => by simp [undoN]
  | j + 1 => by rw [undoN, List.length_set, undoN_len xs j]
def undoL (xs : List Int) : List Int := undoN xs xs.length
/-- an order whose people are told by greater numbers, around -/
def turnedL (xs : List Int) (u : Int) : List Int := xs.map (fun x => (x + u) % (xs.length : Int))
theorem turnedL_len (xs : List Int) (u : Int) : (turnedL xs u).length = xs.length := by unfold turnedL; simp
def turnedT (xs : List Int) (u : Int) (n j : Nat) : List Int := (xs.take j).map (fun x => (x + u) % (n : Int))
theorem turnedT_succ (xs : List Int) (u : Int) (n j : Nat) (h : j < xs.length) : turnedT xs u n (j + 1) = turnedT xs u n j ++ [(xs.getD j 0 + u) % (n : Int)] := by
  unfold turnedT
  have e : xs[j]? = some (xs.getD j 0) := by simp [h]
  rw [List.take_add_one, e, List.map_append]
  rfl
def vTurned (xs : List Int) (u : Int) : List Int × Bool := if ordB xs = true ∧ 0 ≤ u ∧ u ≤ (xs.length : Int) - 1 then (turnedL xs u, true) else ([], false)
theorem vTurned_len (xs : List Int) (u : Int) : (vTurned xs u).1.length ≤ 1000000 := by
  unfold vTurned
  split
  · rename_i h
    have := ordB_parts h.1
    rw [turnedL_len]; omega
  · exact Nat.zero_le _
end Go.Proofs.Ytpbbfpgjhmjjoac
namespace Go.Proofs.Ytpbbfpgjhmjjoac
open Go.ChangeShapes Go.WideShapes Go.ChangeAt Go.RowKit

/-- the least number that two divide -/
def lcmN (x y : Nat) : Nat := x / Nat.gcd x y * y
theorem lcmN_le (x y : Nat) : lcmN x y ≤ x * y := Nat.mul_le_mul_right y (Nat.div_le_self _ _)
/-- the first of so many numbers, each by b greater, that is r modulo m -/
def tryN (m b r : Nat) : Nat → Nat → Option Nat
  | 0, _ => none
  | k + 1, s => if s % m = r then some s else tryN m b r k (s + b)
/-- the step and what it can be greater by, behind the first j turns -/
def nxtS (m b : Nat) : Option Nat → Option (Nat × Nat)
  | none => none
  | some s => some (s, lcmN b m)
def stN (us : List Int) (n : Nat) : Nat → Option (Nat × Nat)
  | 0 => some (1, 1)
  | j + 1 => match stN us n j with
    | none => none
    | some (s, b) => nxtS (n - j) b (tryN (n - j) b (us.getD j 0).toNat (n - j) s)
def fstS : Option (Nat × Nat) → Nat
  | some (s, _) => s
  | none => 0
theorem stN_none (us : List Int) (n j : Nat) (h : stN us n j = none) : ∀ k, stN us n (j + k) = none
  | 0 => h
  | k + 1 => by rw [Nat.add_succ, stN, stN_none us n j h k]
def stepO (xs : List Int) : Nat := fstS (stN (remsOf xs) xs.length xs.length)
theorem tryN_le (m b r : Nat) : ∀ (k s s' : Nat), tryN m b r k s = some s' → s ≤ s' ∧ s' ≤ s + k * b
  | 0, s, s', h => by cases h
  | k + 1, s, s', h => by
    unfold tryN at h
    split at h
    · injection h with h; subst h; exact ⟨Nat.le_refl _, Nat.le_add_right _ _⟩
    · have := tryN_le m b r k (s + b) s' h
      have e : (k + 1) * b = k * b + b := Nat.succ_mul k b
      omega
theorem remT_nn (xs l0 : List Int) : ∀ j, ∀ x ∈ remT xs l0 j, 0 ≤ x
  | 0, x, h => by cases h
  | j + 1, x, h => by
    rw [remT] at h
    rcases List.mem_append.1 h with h | h
    · exact remT_nn xs l0 j x h
    · rw [List.mem_singleton] at h
      rw [h]; exact Int.natCast_nonneg _
/-- bounds -/
theorem stN_bd (us : List Int) (n : Nat) (hn : n ≤ 12) : ∀ j s b, j ≤ n → stN us n j = some (s, b) → 1 ≤ s ∧ s ≤ 2 * 12 ^ j ∧ 1 ≤ b ∧ b ≤ 12 ^ j
  | 0, s, b, _, h => by
    unfold stN at h
    injection h with h
    injection h with h1 h2
    subst h1; subst h2
    exact ⟨Nat.le_refl _, by decide, Nat.le_refl _, by decide⟩
  | j + 1, s, b, hj, h => by
    unfold stN at h
    split at h
    · cases h
    · rename_i s0 b0 h0
      have ih := stN_bd us n hn j s0 b0 (by omega) h0
      cases h1 : tryN (n - j) b0 (us.getD j 0).toNat (n - j) s0 with
      | none => rw [h1] at h; cases h
      | some s1 =>
        rw [h1] at h
        unfold nxtS at h
        injection h with h
        injection h with h2 h3
        subst h2
        have ht := tryN_le _ _ _ _ _ _ h1
        have hp : 12 ^ (j + 1) = 12 ^ j * 12 := Nat.pow_succ 12 j
        obtain ⟨P, hP⟩ : ∃ P, 12 ^ j = P := ⟨_, rfl⟩
        rw [hP] at ih hp
        have hk : (n - j) * b0 ≤ 12 * b0 := Nat.mul_le_mul_right b0 (by omega)
        have hl := lcmN_le b0 (n - j)
        have hl2 : b0 * (n - j) ≤ b0 * 12 := Nat.mul_le_mul_left b0 (by omega)
        have hpos : 1 ≤ lcmN b0 (n - j) := by
          unfold lcmN
          have hg := Nat.gcd_le_left (n - j) (show 0 < b0 by omega)
          have hg0 : 0 < Nat.gcd b0 (n - j) := Nat.gcd_pos_of_pos_left _ (by omega)
          have hd : 0 < b0 / Nat.gcd b0 (n - j) := Nat.div_pos hg hg0
          exact Nat.mul_pos hd (by omega)
        rw [hp]
        rw [h3] at hl hpos
        exact ⟨by omega, by omega, hpos, by omega⟩
theorem pow12 (j : Nat) (h : j ≤ 11) : 12 ^ j ≤ 743008370688 := by
  have := Nat.pow_le_pow_right (show 0 < 12 by decide) h
  exact Nat.le_trans this (by decide)
theorem stepO_bd {xs : List Int} (h : xs.length ≤ 12) : stepO xs ≤ 20000000000000 := by
  unfold stepO fstS
  split
  · rename_i s b hs
    have h1 := stN_bd (remsOf xs) xs.length h xs.length s b (Nat.le_refl _) hs
    have h2 := Nat.pow_le_pow_right (show 0 < 12 by decide) h
    have h3 : (12 : Nat) ^ 12 = 8916100448256 := by decide
    omega
  · omega
def vStepO (xs : List Int) : Int × Bool := if ordB xs = true ∧ 0 < stepO xs then ((stepO xs : Nat), true) else (0, false)
end Go.Proofs.Ytpbbfpgjhmjjoac
namespace Go.Proofs.Ytpbbfpgjhmjjoac
open Go.ChangeShapes Go.WideShapes Go.ChangeAt Go.RowKit

/-- 1 2 .. n -/
def facN : Nat → Nat
  | 0 => 1
  | n + 1 => facN n * (n + 1)
theorem facN_bd : ∀ n, n < 13 → 1 ≤ facN n ∧ facN n ≤ 479001600 := by decide
set_option maxHeartbeats 1600000 in
theorem orTimes_any (n : Nat) (W : World) (hn : n ≤ 12) :
    Calls Try.prog 23 #[.int .i64 n] W fun e w' => e = .returned (.int .i64 (facN n : Nat)) ∧ Kp Nw W w' := by
  obtain ⟨R, hR⟩ : ∃ R, facN n = R := ⟨_, rfl⟩
  have HR := Lib.hid hR
  rw [hR]
  clear hR
  have n0 : (0 : Int) ≤ n := Int.natCast_nonneg _
  go_enter Try.func23, Try.ntmps23
  go_wp2
  go_loopw [3, 4] (fun u k wq => ∃ (j : Nat) (wr : World), 1 ≤ j ∧ (j ≤ n ∨ j = 1) ∧ k = .int .i64 ((j + 1 : Nat) : Int) ∧ u = .int .i64 (facN j : Nat) ∧ wr = wq ∧ Kp Nw W wr) (fun _ k _ => n + 2 - (intOf k).toNat)
  case atStart => exact ⟨1, _, Nat.le_refl _, Or.inr rfl, rfl, rfl, rfl, Kp.refl _ _⟩
  case round =>
    obtain ⟨j, wr, hj, hjn, rfl, rfl, rfl, hk⟩ := hrel
    have HK := Lib.hid hk
    have hb := facN_bd j (by omega)
    have HF : Hid (facN (j + 1) = facN j * (j + 1)) := Lib.hid rfl
    obtain ⟨F, hF⟩ : ∃ F, facN j = F := ⟨_, rfl⟩
    have HJ := Lib.hid hF
    rw [hF] at hb ⊢
    by_cases hlt : j < n
    · have hb1 := facN_bd (j + 1) (by omega)
      obtain ⟨M, hM⟩ : ∃ M, F * (j + 1) = M := ⟨_, rfl⟩
      have HM : Hid (facN (j + 1) = M) := Lib.hid (by rw [HF.out, hF, hM])
      rw [HM.out] at hb1
      have t1 : (j : Int) + 1 ≤ n := by omega
      have w1 : IntKind.i64.wrap ((j : Int) + 1 + 1) = ((j + 1 + 1 : Nat) : Int) := by rw [IntWalk.i64_in _ (by omega)]; omega
      have w2 : (F : Int) * ((j : Int) + 1) = (M : Int) := by rw [← hM]; simp
      have m1 : (M : Int) ≤ 479001600 := by omega
      have m0 : (0 : Int) ≤ M := Int.natCast_nonneg _
      have w3 : IntKind.i64.wrap (M : Int) = (M : Int) := IntWalk.i64_in _ (by omega)
      clear hk hF hM
      go_wp2
      go_roundw
      case rel => exact ⟨j + 1, _, by omega, Or.inl (by omega), rfl, by rw [HM.out], rfl, HK.out⟩
      case measure => simp [intOf] <;> omega
    · have HE : Hid (F = R) := Lib.hid (by
        rcases Nat.lt_or_ge n 1 with h | h
        · obtain rfl : n = 0 := by omega
          obtain rfl : j = 1 := by omega
          rw [← hF, ← HR.out]; rfl
        · obtain rfl : j = n := by omega
          rw [← hF, ← HR.out])
      have t1 : ¬ (j : Int) + 1 ≤ n := by omega
      clear hk hF
      go_wp2
      go_ret
      exact ⟨by rw [HE.out]; rfl, HK.out⟩

/-- how many of the first k numbers behind the turn i are less than its own -/
def lessC (xs : List Int) (i : Nat) : Nat → Nat
  | 0 => 0
  | k + 1 => lessC xs i k + (if xs.getD (i + 1 + k) 0 < xs.getD i 0 then 1 else 0)
theorem lessC_le (xs : List Int) (i : Nat) : ∀ k, lessC xs i k ≤ k
  | 0 => Nat.le_refl _
  | k + 1 => by
    have := lessC_le xs i k
    unfold lessC
    split <;> omega
def rankT (xs : List Int) : Nat → Nat
  | 0 => 0
  | i + 1 => rankT xs i + lessC xs i (xs.length - (i + 1)) * facN (xs.length - 1 - i)
theorem rankT_bd (xs : List Int) (h : xs.length ≤ 12) : ∀ i, i ≤ xs.length → rankT xs i ≤ i * (12 * 479001600)
  | 0, _ => Nat.le_refl _
  | i + 1, hi => by
    have ih := rankT_bd xs h i (by omega)
    have h1 := lessC_le xs i (xs.length - (i + 1))
    have h2 := (facN_bd (xs.length - 1 - i) (by omega)).2
    have h3 := Nat.mul_le_mul (show lessC xs i (xs.length - (i + 1)) ≤ 12 by omega) h2
    rw [rankT, Nat.succ_mul]
    omega
def rankN (xs : List Int) : Nat := rankT xs xs.length
def vRank (xs : List Int) : Int × Bool := if ordB xs = true then ((rankN xs : Nat), true) else (0, false)

end Go.Proofs.Ytpbbfpgjhmjjoac
namespace Go.Proofs.Ytpbbfpgjhmjjoac
open Go.ChangeShapes Go.WideShapes Go.ChangeAt Go.RowKit

/-- how many of the first k turns have their own number -/
def stayC (ys : List Int) : Nat → Nat
  | 0 => 0
  | i + 1 => stayC ys i + (if (i : Int) = ys.getD i 0 then 1 else 0)
theorem stayC_le (ys : List Int) : ∀ k, stayC ys k ≤ k
  | 0 => Nat.le_refl _
  | k + 1 => by
    have := stayC_le ys k
    unfold stayC
    split <;> omega
/-- how many of the steps 1 .. k have so many -/
def fixC (n m : Nat) : Nat → Nat
  | 0 => 0
  | k + 1 => fixC n m k + (if stayC (outs ((k + 1 : Nat) : Int) n (marks 0 n)) n = m then 1 else 0)
theorem fixC_le (n m : Nat) : ∀ k, fixC n m k ≤ k
  | 0 => Nat.le_refl _
  | k + 1 => by
    have := fixC_le n m k
    unfold fixC
    split <;> omega
def vFixed (p f : Int) : Int × Bool := if (1 ≤ p ∧ p ≤ 8) ∧ (0 ≤ f ∧ f ≤ p) then ((fixC p.toNat f.toNat (perT p.toNat) : Nat), true) else (0, false)
set_option maxRecDepth 1000000 in
set_option maxHeartbeats 6400000 in
theorem sStepsWithFixed_yes (n m : Nat) (W : World) (n1 : 1 ≤ n) (n2 : n ≤ 8) (hm : m ≤ n) :
    Calls Try.prog 14 #[.int .i64 n, .int .i64 m] W (IntB W (fixC n m (perT n) : Nat) true) := by
  obtain ⟨R, hR⟩ : ∃ R, fixC n m (perT n) = R := ⟨_, rfl⟩
  obtain ⟨P, hP⟩ : ∃ P, perT n = P := ⟨_, rfl⟩
  have hPl : P ≤ 27720 := by rw [← hP]; exact perT_le n (by omega)
  rw [hR]
  have HR : Hid (fixC n m P = R) := Lib.hid (by rw [← hP]; exact hR)
  have HP := Lib.hid hP
  clear hR hP
  have n0 : (0 : Int) ≤ n := Int.natCast_nonneg _
  have m0 : (0 : Int) ≤ m := Int.natCast_nonneg _
  go_enter Try.func14, Try.ntmps14
  go_wp2_with (first | ((with_reducible refine (l1In_yes (n : Int) 1 8 _ (by omega) (by omega)).mono ?_); rintro e w' ⟨rfl, rfl⟩) | ((with_reducible refine (l1In_yes (m : Int) _ _ _ (by omega) (by omega)).mono ?_); rintro e w' ⟨rfl, rfl⟩))
  go_loopw [6, 7] (fun u k wq => ∃ (j c : Nat) (wr : World), j ≤ P ∧ k = .int .i64 ((j + 1 : Nat) : Int) ∧ u = .int .i64 c ∧ fixC n m j = c ∧ wr = wq ∧ Kp Nw W wr) (fun _ k _ => P + 1 - (intOf k).toNat)
  case atStart => exact ⟨0, 0, _, Nat.zero_le _, rfl, rfl, rfl, rfl, Kp.refl _ _⟩
  case round =>
    obtain ⟨j, c, wr, hj, rfl, rfl, hc, rfl, hk⟩ := hrel
    have HK := Lib.hid hk
    have HC := Lib.hid hc
    have hcl := fixC_le n m j
    rw [hc] at hcl
    clear hk hc
    go_wp2_with fail
    refine (saPeriod_any n wr n1 (by omega)).mono ?_
    rw [HP.out]
    rintro e w1 ⟨rfl, hk1⟩
    have HK1 := Lib.hid (HK.out.nw hk1)
    clear hk1
    by_cases hlt : j < P
    · have t1 : (j : Int) + 1 ≤ P := by omega
      have w2 : IntKind.i64.wrap ((j : Int) + 1 + 1) = ((j + 1 + 1 : Nat) : Int) := by rw [IntWalk.i64_in _ (by omega)]; omega
      go_wp2_with fail
      refine (ciPeople_any n w1 (by omega)).mono ?_
      rintro e w2 ⟨v1, rfl, hs, hk2⟩
      have HS1 := Lib.hid hs
      have HK2 := Lib.hid (HK1.out.nw hk2)
      clear hs hk2
      go_wp2_with fail
      refine (ciOrder_any v1 ((j + 1 : Nat) : Int) (marks 0 n) _ w2 HS1.out (by rw [marks_length]; omega) (by omega) (by omega)).mono ?_
      rintro e w3 ⟨v2, rfl, hs2, hk3⟩
      rw [marks_length] at hs2
      obtain ⟨ys, hys⟩ : ∃ ys, outs ((j + 1 : Nat) : Int) n (marks 0 n) = ys := ⟨_, rfl⟩
      have hyl : ys.length = n := by rw [← hys, outs_length]
      have HN : Hid (fixC n m (j + 1) = c + (if stayC ys n = m then 1 else 0)) := Lib.hid (by rw [fixC, HC.out, hys])
      rw [hys] at hs2
      obtain ⟨gr, cr, rfl, hat, _⟩ := hs2.at_ (by rw [hyl]; omega)
      rw [hyl] at hat ⊢
      have HA := Lib.hid hat
      have HK3 := Lib.hid (HK2.out.nw hk3)
      clear hs2 hk3 hat hys hyl
      go_wp2
      go_loopw [8, 31] (fun s i wq => ∃ (k z : Nat) (wz : World), k ≤ n ∧ i = .int .i64 k ∧ s = .int .i64 z ∧ stayC ys k = z ∧ wz = wq ∧ Kp Nw w3 wz) (fun _ i _ => n - (intOf i).toNat)
      case atStart => exact ⟨0, 0, _, Nat.zero_le _, rfl, rfl, rfl, rfl, Kp.refl _ _⟩
      case round =>
        obtain ⟨k, z, wz, hk, rfl, rfl, hz, rfl, hkz⟩ := hrel
        have HKZ := Lib.hid hkz
        have HZ := Lib.hid hz
        have hzl := stayC_le ys k
        rw [hz] at hzl
        clear hkz hz
        have k0 : (0 : Int) ≤ k := Int.natCast_nonneg _
        by_cases hkn : k < n
        · have k1 : (k : Int) < n := by omega
          have ck := (HA.out.kq HKZ.out (fun h => h)).cell k hkn
          obtain ⟨y, hy⟩ : ∃ y, ys.getD k 0 = y := ⟨_, rfl⟩
          rw [hy] at ck
          have wk : IntKind.i64.wrap ((k : Int) + 1) = ((k + 1 : Nat) : Int) := by rw [IntWalk.i64_in _ (by omega)]; omega
          have wz1 : IntKind.i64.wrap ((z : Int) + 1) = ((z + 1 : Nat) : Int) := by rw [IntWalk.i64_in _ (by omega)]; omega
          by_cases hyk : (k : Int) = y
          · have HS : Hid (stayC ys (k + 1) = z + 1) := Lib.hid (by rw [stayC, HZ.out, hy, if_pos hyk])
            clear hy
            subst hyk
            go_wp2
            go_roundw
            case rel => exact ⟨k + 1, z + 1, _, by omega, by go_num, by go_num, HS.out, rfl, HKZ.out⟩
            case measure => simp [intOf] <;> omega
          · have HS : Hid (stayC ys (k + 1) = z) := Lib.hid (by rw [stayC, HZ.out, hy, if_neg hyk, Nat.add_zero])
            clear hy
            go_wp2
            go_roundw
            case rel => exact ⟨k + 1, z, _, by omega, by go_num, rfl, HS.out, rfl, HKZ.out⟩
            case measure => simp [intOf] <;> omega
        · have HE : Hid (stayC ys n = z) := Lib.hid (by rw [← HZ.out, show k = n by omega])
          have k1 : ¬ (k : Int) < n := by omega
          have wc1 : IntKind.i64.wrap ((c : Int) + 1) = ((c + 1 : Nat) : Int) := by rw [IntWalk.i64_in _ (by omega)]; omega
          by_cases hzm : z = m
          · have HN2 : Hid (fixC n m (j + 1) = c + 1) := Lib.hid (by rw [HN.out, HE.out, if_pos hzm])
            have zm : (z : Int) = (m : Int) := by omega
            clear hzm
            go_wp2
            go_roundw
            case rel => exact ⟨j + 1, c + 1, _, by omega, by go_num, by go_num, HN2.out, rfl, HK3.out.nw HKZ.out⟩
            case measure => simp [intOf] <;> omega
          · have HN2 : Hid (fixC n m (j + 1) = c) := Lib.hid (by rw [HN.out, HE.out, if_neg hzm, Nat.add_zero])
            have zm : ¬ (z : Int) = (m : Int) := by omega
            clear hzm
            go_wp2
            go_roundw
            case rel => exact ⟨j + 1, c, _, by omega, by go_num, rfl, HN2.out, rfl, HK3.out.nw HKZ.out⟩
            case measure => simp [intOf] <;> omega
    · have HE : Hid (c = R) := Lib.hid (by rw [← HC.out, ← HR.out, show j = P by omega])
      have t1 : ¬ (j : Int) + 1 ≤ P := by omega
      go_wp2
      go_ret2
      exact ⟨by rw [HE.out]; rfl, HK1.out⟩
theorem sStepsWithFixed_any (p f : Int) (W : World) : Calls Try.prog 14 #[.int .i64 p, .int .i64 f] W (IntB W (vFixed p f).1 (vFixed p f).2) := by
  unfold vFixed
  by_cases h : (1 ≤ p ∧ p ≤ 8) ∧ (0 ≤ f ∧ f ≤ p)
  · rw [if_pos h]
    obtain ⟨n, rfl⟩ : ∃ n : Nat, p = n := ⟨p.toNat, by omega⟩
    obtain ⟨m, rfl⟩ : ∃ m : Nat, f = m := ⟨f.toNat, by omega⟩
    exact sStepsWithFixed_yes n m W (by omega) (by omega) (by omega)
  rw [if_neg h]
  by_cases hp : 1 ≤ p ∧ p ≤ 8
  · have hf : f < 0 ∨ p < f := by omega
    clear h
    go_enter Try.func14, Try.ntmps14
    go_wp2_with (first | ((with_reducible refine (l1In_yes p _ _ _ hp.1 hp.2).mono ?_); rintro e w' ⟨rfl, rfl⟩) | ((with_reducible refine (l1In_no f _ _ _ (by omega)).mono ?_); rintro e w' ⟨rfl, rfl⟩))
    go_ret2
    exact ⟨rfl, Kp.refl _ _⟩
  · have hq : p < 1 ∨ 8 < p := by omega
    clear h hp
    go_enter Try.func14, Try.ntmps14
    go_wp2_with (first | ((with_reducible refine (l1In_no p _ _ _ hq).mono ?_); rintro e w' ⟨rfl, rfl⟩))
    go_ret2
    exact ⟨rfl, Kp.refl _ _⟩
end Go.Proofs.Ytpbbfpgjhmjjoac
namespace Go.Proofs.Ytpbbfpgjhmjjoac
open Go.ChangeShapes Go.WideShapes Go.ChangeAt Go.RowKit

def dropAt (l : List Int) (a : Nat) : List Int := l.take a ++ l.drop (a + 1)
theorem dropAt_len (l : List Int) (a : Nat) (h : a < l.length) : (dropAt l a).length = l.length - 1 := by unfold dropAt; simp; omega
/-- the rank, who is left and who was told, behind the first j turns -/
def rkR (n r : Nat) : Nat → Nat
  | 0 => r
  | j + 1 => rkR n r j % facN (n - j - 1)
def rkL (n r : Nat) : Nat → List Int
  | 0 => marks 0 n
  | j + 1 => dropAt (rkL n r j) (rkR n r j / facN (n - j - 1))
def rkT (n r : Nat) : Nat → List Int
  | 0 => []
  | j + 1 => rkT n r j ++ [(rkL n r j).getD (rkR n r j / facN (n - j - 1)) 0]
theorem facN_pos : ∀ n, 1 ≤ facN n
  | 0 => Nat.le_refl _
  | n + 1 => Nat.mul_pos (facN_pos n) (Nat.succ_pos n)
theorem rkR_lt (n r : Nat) (h : r < facN n) : ∀ j, rkR n r j < facN (n - j)
  | 0 => h
  | _ + 1 => Nat.mod_lt _ (facN_pos _)
theorem rkA_lt (n r : Nat) (h : r < facN n) (j : Nat) (hj : j < n) : rkR n r j / facN (n - j - 1) < n - j := by
  have h1 := rkR_lt n r h j
  obtain ⟨p, hp⟩ : ∃ p, n - j = p + 1 := ⟨n - j - 1, by omega⟩
  rw [hp] at h1 ⊢
  exact Nat.div_lt_of_lt_mul h1
theorem rkL_len (n r : Nat) (h : r < facN n) : ∀ j, j ≤ n → (rkL n r j).length = n - j
  | 0, _ => by rw [rkL, marks_length]; rfl
  | j + 1, hj => by
    have ih := rkL_len n r h j (by omega)
    rw [rkL, dropAt_len _ _ (by rw [ih]; exact rkA_lt n r h j hj), ih]
    rfl
theorem rkT_len (n r : Nat) : ∀ j, (rkT n r j).length = j
  | 0 => rfl
  | j + 1 => by rw [rkT, List.length_append, rkT_len n r j]; rfl
def vOfRank (p r : Int) : List Int × Bool := if (1 ≤ p ∧ p ≤ 12) ∧ (0 ≤ r ∧ r ≤ (facN p.toNat : Nat) - 1) then (rkT p.toNat r.toNat p.toNat, true) else ([], false)
set_option maxRecDepth 1000000 in
set_option maxHeartbeats 6400000 in
theorem sOrderOfRank_yes (n r : Nat) (W : World) (n1 : 1 ≤ n) (n2 : n ≤ 12) (hr : r < facN n) :
    Calls Try.prog 12 #[.int .i64 n, .int .i64 r] W (ListB W (rkT n r n) true) := by
  have HRF := Lib.hid hr
  have fb := (facN_bd n (by omega)).2
  have n0 : (0 : Int) ≤ n := Int.natCast_nonneg _
  have r0 : (0 : Int) ≤ r := Int.natCast_nonneg _
  obtain ⟨F, hF⟩ : ∃ F, facN n = F := ⟨_, rfl⟩
  rw [hF] at hr fb
  have HF := Lib.hid hF
  have wF : IntKind.i64.wrap ((F : Int) - 1) = (F : Int) - 1 := IntWalk.i64_in _ (by omega)
  clear hF
  go_enter Try.func12, Try.ntmps12
  go_wp2_with (first | ((with_reducible refine (l1In_yes (n : Int) 1 12 _ (by omega) (by omega)).mono ?_); rintro e w' ⟨rfl, rfl⟩))
  refine (orTimes_any n _ (by omega)).mono ?_
  rw [HF.out]
  rintro e w0 ⟨rfl, hk0⟩
  have HK0 := Lib.hid hk0
  clear hk0
  go_wp2_with (first | ((with_reducible refine (l1In_yes (r : Int) 0 ((F : Int) - 1) _ (by omega) (by omega)).mono ?_); rintro e w' ⟨rfl, rfl⟩))
  refine (ciPeople_any n w0 (by omega)).mono ?_
  rintro e w1 ⟨v0, rfl, hs0, hk1⟩
  have HS0 := Lib.hid (hs0.from HK0.out.size)
  have HK1 := Lib.hid (HK0.out.nw hk1)
  clear hs0 hk1
  go_wp2
  go_loopw [1, 6, 7, 8] (fun rv u0 r0 i wq => ∃ (j m q : Nat) (u t : Value) (wr : World), j + m = n ∧ i = .int .i64 m ∧ rv = .int .i64 q ∧ rkR n r j = q ∧ u = u0 ∧ t = r0 ∧ wr = wq ∧ Sl wr W.heap.size u (rkL n r j) ∧ Sl wr W.heap.size t (rkT n r j) ∧ (∀ b, u.ownBlock = some b → t.ownBlock ≠ some b) ∧ Kp Nw W wr) (fun _ _ _ i _ => (intOf i).toNat)
  case atStart => exact ⟨0, n, r, _, _, _, Nat.zero_add _, rfl, rfl, rfl, rfl, rfl, rfl, HS0.out, Sl.nil _ _, (fun b _ e => by simp [Value.ownBlock] at e), HK1.out⟩
  case round =>
    obtain ⟨j, m, q, u, t, wr, hj, rfl, rfl, hq, rfl, rfl, rfl, hu, hr, hdi, hk⟩ := hrel
    have HR := Lib.hid hr
    have HDI := Lib.hid hdi
    have HK := Lib.hid hk
    have HJ := Lib.hid hj
    have m0 : (0 : Int) ≤ m := Int.natCast_nonneg _
    by_cases hlt : 0 < m
    · have m1 : (0 : Int) < m := by omega
      obtain ⟨p, hp⟩ : ∃ p, p + 1 = m := ⟨m - 1, by omega⟩
      have hnj : n - j = m := by omega
      have hnj1 : n - j - 1 = p := by omega
      have hmb : m ≤ 12 := by omega
      have ql := rkR_lt n r HRF.out j
      rw [hq, hnj] at ql
      have al := rkA_lt n r HRF.out j (by omega)
      have ll := rkL_len n r HRF.out j (by omega)
      have hE1 : rkR n r (j + 1) = q % facN p := by rw [rkR, hq, hnj1]
      have hE2 : rkL n r (j + 1) = dropAt (rkL n r j) (q / facN p) := by rw [rkL, hq, hnj1]
      have hE3 : rkT n r (j + 1) = rkT n r j ++ [(rkL n r j).getD (q / facN p) 0] := by rw [rkT, hq, hnj1]
      rw [hq, hnj1, hnj] at al
      rw [hnj] at ll
      have pb := facN_bd p (by omega)
      have mb := (facN_bd m (by omega)).2
      have HPB : Hid (p + 1 = m) := Lib.hid hp
      obtain ⟨G, hG⟩ : ∃ G, facN p = G := ⟨_, rfl⟩
      have HG := Lib.hid hG
      rw [hG] at hE1 hE2 hE3 al pb
      obtain ⟨l, hl'⟩ : ∃ l, rkL n r j = l := ⟨_, rfl⟩
      rw [hl'] at hE2 hE3 ll hu
      obtain ⟨a, ha⟩ : ∃ a, q / G = a := ⟨_, rfl⟩
      rw [ha] at hE2 hE3 al
      obtain ⟨z, hz⟩ : ∃ z, q % G = z := ⟨_, rfl⟩
      rw [hz] at hE1
      obtain ⟨y, hy⟩ : ∃ y, l.getD a 0 = y := ⟨_, rfl⟩
      rw [hy] at hE3
      have HT0 := Lib.hid hE1
      have HT1 := Lib.hid hE2
      have HT2 := Lib.hid hE3
      have HLL := Lib.hid ll
      have HTL := Lib.hid (rkT_len n r j)
      have zl : z < G := by rw [← hz]; exact Nat.mod_lt _ (by omega)
      obtain ⟨gu, cu, rfl, hua, hc1, hc2, _, _⟩ := hu.at_ (by omega)
      rw [ll] at hua hc1 ⊢
      have HUA := Lib.hid hua
      have ca := hua.cell a al
      rw [hy] at ca
      have t1 : (q : Int).tdiv (G : Int) = (a : Int) := by rw [Int.tdiv_eq_ediv_of_nonneg (by omega), ← Int.natCast_ediv, ha]
      have t2 : IntKind.i64.wrap (a : Int) = (a : Int) := IntWalk.i64_in _ (by omega)
      have t3 : (q : Int).tmod (G : Int) = (z : Int) := by rw [Int.tmod_eq_emod_of_nonneg (by omega), ← Int.natCast_emod, hz]
      have t4 : IntKind.i64.wrap (z : Int) = (z : Int) := IntWalk.i64_in _ (by omega)
      have t5 : IntKind.i64.wrap ((m : Int) - 1) = (p : Int) := by rw [IntWalk.i64_in _ (by omega)]; omega
      have g1 : (G : Int) ≠ 0 := by omega
      have g2 : ¬ (G : Int) = 0 := by omega
      have g3 : ((G : Int) == 0) = false := by simp; omega
      have a0 : (0 : Int) ≤ a := Int.natCast_nonneg _
      have a1 : (a : Int) < m := by omega
      unfold maxLen at hc2
      have q1 : IntKind.i64.wrap ((a : Int) + 1) = (a : Int) + 1 := IntWalk.i64_in _ (by omega)
      have q2 : (0 : Int) ≤ (a : Int) + 1 := by omega
      have q3 : (a : Int) + 1 ≤ m := by omega
      have q4 : ((a : Int) + 1).toNat = a + 1 := by omega
      have q5 : (a : Int) ≤ cu := by omega
      have q6 := cut_to gu m cu a (by omega)
      obtain ⟨Ad, had, q7⟩ := cut_from gu m cu (a + 1) (by omega) (by omega)
      rw [show ((a + 1 : Nat) : Int) = (a : Int) + 1 from rfl] at q7
      have AD := Lib.hid had
      clear had
      have hz1 : W.heap.size ≤ wr.heap.size := HK.out.size
      have p12 : p ≤ 12 := by omega
      have jb : j ≤ 12 := by omega
      clear hq hu hr hdi hk hj hl' hy hua ha hz hG hp hnj hnj1 ll hE1 hE2 hE3 HRF
      go_wp2_with fail
      refine (orTimes_any p wr p12).mono ?_
      rw [HG.out]
      rintro e w3 ⟨rfl, hk3⟩
      have HK3 := Lib.hid (HK.out.nw hk3)
      have HU3 := Lib.hid (HUA.out.kq hk3 (fun h => h))
      have HR3 := Lib.hid (HR.out.below hk3.below')
      have c3 := keepc hk3 ca (fun h => h)
      clear hk3 ca
      go_wp2_with fail
      refine (orTimes_any p w3 p12).mono ?_
      rw [HG.out]
      rintro e w4 ⟨rfl, hk4⟩
      have HK4 := Lib.hid (HK3.out.nw hk4)
      have HU4 := Lib.hid (HU3.out.kq hk4 (fun h => h))
      have HR4 := Lib.hid (HR3.out.below hk4.below')
      have c4 := keepc hk4 c3 (fun h => h)
      have hz4 : W.heap.size ≤ w4.heap.size := HK4.out.size
      clear hk4 c3
      go_wp2_with (first | (at_builtin; refine wpList_app _ rfl (.tmp 38) (.tmp 43) rfl W.heap.size t _ (rkT n r j) [y] rfl rfl (HR4.out.below (Kp.al _ _).below') (Rd.one (g := w4.heap.size) (by simp)) nil_one (by rw [HTL.out]; simp; omega) (by simp; omega) ?_))
      intro r' w2 hs2 hk2 hat2
      have k2 : Kp (fun b => t.ownBlock = some b) w4 w2 := ((Kp.refl _ w4).alloc _).after hk2 (fun _ _ e => e)
      have HU2 := Lib.hid (HU4.out.kq k2 (fun e => HDI.out gu rfl e))
      have HK2 := Lib.hid (HK4.out.after k2 (fun b hb e => by have := (HR4.out.own_ge b e).1; omega))
      have HS2 := Lib.hid hs2
      have z2 : w4.heap.size ≤ w2.heap.size := k2.size
      clear hs2 hk2 hat2 k2 c4
      go_wp2_with fail
      go_region_held3 (fun w' => Kp Nw w2 w' ∧ True)
        (first
          | exact ⟨(Kp.refl _ _).drew, trivial⟩
          | exact ⟨hkW7, trivial⟩
          | exact ⟨hkW6, trivial⟩
          | fail)
        (first
          | (go_at_call 18
             refine (l1Own_any _ (l.take a) _ (Rd.nw' (HU2.out.take a (by omega)) (‹Kp Nw w2 _ ∧ _›.1)) (HU2.out.take_vn a (by omega) _) (by have := HLL.out; simp; omega)).mono ?_
             rintro e w6 ⟨v6, rfl, hs6, hk6⟩
             have hkW6 := (‹Kp Nw w2 _ ∧ _›.1).nw hk6)
          | (refine step_app _ (by rfl) (.tmp 48) (.tmp 52) (by rfl) w2.heap.size v6 _ (l.take a) (l.drop (a + 1)) (by rfl) (by rfl) hs6 (Rd.nw' (HU2.out.drop (a + 1) (by omega) _ _ AD.out) hkW6) (HU2.out.drop_vn _ _ _) (by have := HLL.out; simp; omega) hkW6.size ?_
             intro v7 w7 hs7 hk7 _
             have hkW7 := hkW6.own hs6 hk7)
          | fail)
      have HK7 := Lib.hid (HK2.out.nw hkW7)
      have HS7 := Lib.hid (show Sl w7 W.heap.size v7 (dropAt l a) from hs7.from (by omega))
      have HR7 := Lib.hid (HS2.out.below hkW7.below')
      have HD7 : Hid (∀ b, v7.ownBlock = some b → r'.ownBlock ≠ some b) := Lib.hid (fun b h1 h2 => by have h3 := (hs7.own_ge b h1).1; have h4 := (HS2.out.own_ge b h2).2; omega)
      clear hs7 hk7 hkW7 hs6 hk6 hkW6
      go_wp2
      go_roundw
      case rel => exact ⟨j + 1, p, z, v7, r', _, by have := HPB.out; have := HJ.out; omega, rfl, rfl, HT0.out, rfl, rfl, rfl, by rw [HT1.out]; exact HS7.out, by rw [HT2.out]; exact HR7.out, HD7.out, HK7.out⟩
      case measure => have := HPB.out; simp [intOf] <;> omega
    · obtain rfl : m = 0 := by omega
      obtain rfl : j = n := by omega
      clear hq hu hr hdi hk hj
      go_wp2
      go_ret2
      exact ⟨t, rfl, HR.out, HK.out⟩
theorem sOrderOfRank_any (p r : Int) (W : World) : Calls Try.prog 12 #[.int .i64 p, .int .i64 r] W (ListB W (vOfRank p r).1 (vOfRank p r).2) := by
  unfold vOfRank
  by_cases h : (1 ≤ p ∧ p ≤ 12) ∧ (0 ≤ r ∧ r ≤ (facN p.toNat : Nat) - 1)
  · rw [if_pos h]
    obtain ⟨n, rfl⟩ : ∃ n : Nat, p = n := ⟨p.toNat, by omega⟩
    obtain ⟨m, rfl⟩ : ∃ m : Nat, r = m := ⟨r.toNat, by omega⟩
    rw [Int.toNat_natCast] at h
    exact sOrderOfRank_yes n m W (by omega) (by omega) (by omega)
  rw [if_neg h]
  by_cases hp : 1 ≤ p ∧ p ≤ 12
  · obtain ⟨n, rfl⟩ : ∃ n : Nat, p = n := ⟨p.toNat, by omega⟩
    rw [Int.toNat_natCast] at h
    have fb := facN_bd n (by omega)
    obtain ⟨F, hF⟩ : ∃ F, facN n = F := ⟨_, rfl⟩
    rw [hF] at h fb
    have HF := Lib.hid hF
    have hr : r < 0 ∨ (F : Int) - 1 < r := by omega
    have wF : IntKind.i64.wrap ((F : Int) - 1) = (F : Int) - 1 := IntWalk.i64_in _ (by omega)
    obtain ⟨p1, p2⟩ := hp
    have n2 : n ≤ 12 := by omega
    clear h hF
    go_enter Try.func12, Try.ntmps12
    go_wp2_with (first | ((with_reducible refine (l1In_yes (n : Int) 1 12 _ p1 p2).mono ?_); rintro e w' ⟨rfl, rfl⟩))
    refine (orTimes_any n _ n2).mono ?_
    rw [HF.out]
    rintro e w0 ⟨rfl, hk0⟩
    have HK0 := Lib.hid hk0
    clear hk0
    go_wp2_with (first | ((with_reducible refine (l1In_no r 0 ((F : Int) - 1) _ hr).mono ?_); rintro e w' ⟨rfl, rfl⟩))
    go_ret2
    exact ⟨.slice none 0 0, rfl, Sl.nil _ _, HK0.out⟩
  · have hq : p < 1 ∨ 12 < p := by omega
    clear h hp
    go_enter Try.func12, Try.ntmps12
    go_wp2_with (first | ((with_reducible refine (l1In_no p _ _ _ hq).mono ?_); rintro e w' ⟨rfl, rfl⟩))
    go_ret2
    exact ⟨.slice none 0 0, rfl, Sl.nil _ _, Kp.refl _ _⟩
end Go.Proofs.Ytpbbfpgjhmjjoac
namespace Go.Proofs.Ytpbbfpgjhmjjoac
open Go.ChangeShapes Go.WideShapes Go.ChangeAt Go.RowKit

theorem boolInfo : (Try.prog.info? 4).map (fun i => (i.zero, i.size, i.bytes)) = some (some (.bool false), 1, 1) := by kernel_rfl
/-- a row of bools at an address -/
def BoAt (w : World) (B g cap n : Nat) (bs : List Bool) : Prop := bs.length = n ∧ w.ownsRow B 4 1 (.slice (some ⟨g, 0, none⟩) n cap) n (bs.map Value.bool)
theorem BoAt.cell {w : World} {B g cap n : Nat} {bs : List Bool} (h : BoAt w B g cap n bs) (j : Nat) (hj : j < n) : w.cell? ⟨g, j, none⟩ = some (.bool (bs.getD j true)) := by
  have hl : j < bs.length := by rw [h.1]; exact hj
  rw [World.ownsRow.cellAt h.2 j (by omega)]
  simp [List.getElem?_eq_getElem hl]
theorem BoAt.frozen {w : World} {B g cap n : Nat} {bs : List Bool} (h : BoAt w B g cap n bs) (j : Nat) : w.frozen? ⟨g, j, none⟩ = false := World.ownsRow.frozenAt h.2 j
theorem BoAt.store {w : World} {B g cap n : Nat} {bs : List Bool} (h : BoAt w B g cap n bs) (j : Nat) (u : Bool) : BoAt (w.setCell ⟨g, j, none⟩ (.bool u)) B g cap n (bs.set j u) :=
  ⟨by rw [List.length_set]; exact h.1, by rw [List.map_set]; exact (World.ownsRow.stored h.2 j (.bool u)).1⟩
theorem BoAt.zeros {w : World} {B g n : Nat} (h : w.ownsRow B 4 1 (.slice (some ⟨g, 0, none⟩) n n) n (madeCells #[Value.bool false] n).toList) : BoAt w B g n n (List.replicate n false) := by
  refine ⟨by simp, ?_⟩
  rw [toList_madeCells_one] at h
  rw [List.map_replicate]
  exact h
theorem BoAt.kq {w w' : World} {B g cap n : Nat} {bs : List Bool} {S : Nat → Prop} (h : BoAt w B g cap n bs) (hk : Kp S w w') (hs : ¬ S g) : BoAt w' B g cap n bs := by
  refine ⟨h.1, h.2.1, ?_⟩
  rcases h.2.2 with hn | ⟨g', cap', cur, he, hb, hgg, rest⟩
  · exact .inl hn
  · have e : g' = g := by
      injection he with h1 _ _
      injection h1 with h1
      injection h1 with h1 _ _
      exact h1.symm
    exact .inr ⟨g', cap', cur, he, hb, (hk.block g' (Array.getElem?_eq_some_iff.1 hgg).1 (by rw [e]; exact hs)).trans hgg, rest⟩
theorem cntF_set : ∀ (s : List Bool) (a : Nat), s.getD a true = false → (s.set a true).count false + 1 = s.count false
  | [], a, h => by simp at h
  | b :: s, 0, h => by
    simp at h
    subst h
    simp
  | b :: s, a + 1, h => by
    have ih := cntF_set s a (by simpa using h)
    simp only [List.set_cons_succ, List.count_cons]
    omega
/-- from a person on, until somebody was seen -/
def cycA (xs : List Int) : Nat → List Bool → Nat → List Int → List Bool × List Int
  | 0, s, _, c => (s, c)
  | k + 1, s, a, c => if s.getD a true = true then (s, c) else cycA xs k (s.set a true) (xs.getD a 0).toNat (c ++ [(a : Int)])
theorem cyc_len (xs : List Int) : ∀ (k : Nat) (s : List Bool) (a : Nat) (c : List Int), (cycA xs k s a c).1.length = s.length ∧ c.length ≤ (cycA xs k s a c).2.length ∧ (cycA xs k s a c).2.length ≤ c.length + s.count false
  | 0, s, a, c => by unfold cycA; exact ⟨rfl, Nat.le_refl _, Nat.le_add_right _ _⟩
  | k + 1, s, a, c => by
    unfold cycA
    split
    · exact ⟨rfl, Nat.le_refl _, Nat.le_add_right _ _⟩
    · rename_i h
      have ih := cyc_len xs k (s.set a true) (xs.getD a 0).toNat (c ++ [(a : Int)])
      have hc := cntF_set s a (by simpa using h)
      rw [List.length_set, List.length_append, List.length_singleton] at ih
      exact ⟨ih.1, by omega, by omega⟩
def cycs (xs : List Int) : Nat → List Bool × List (List Int)
  | 0 => (List.replicate xs.length false, [])
  | i + 1 => if (cycs xs i).1.getD i true = true then cycs xs i else ((cycA xs (xs.length + 1) (cycs xs i).1 i []).1, (cycs xs i).2 ++ [(cycA xs (xs.length + 1) (cycs xs i).1 i []).2])
theorem cycs_len (xs : List Int) : ∀ i, (cycs xs i).1.length = xs.length ∧ (cycs xs i).2.length ≤ i ∧ ∀ c ∈ (cycs xs i).2, 1 ≤ c.length ∧ c.length ≤ xs.length
  | 0 => ⟨by simp [cycs], Nat.le_refl _, fun c hc => by cases hc⟩
  | i + 1 => by
    obtain ⟨h1, h2, h3⟩ := cycs_len xs i
    unfold cycs
    split
    · exact ⟨h1, by omega, h3⟩
    · rename_i h
      obtain ⟨l1, l2, l3⟩ := cyc_len xs (xs.length + 1) (cycs xs i).1 i []
      have hcl : (cycs xs i).1.count false ≤ (cycs xs i).1.length := List.count_le_length
      refine ⟨by rw [l1, h1], by simp only [List.length_append, List.length_singleton]; omega, fun c hc => ?_⟩
      rcases List.mem_append.1 hc with hc | hc
      · exact h3 c hc
      · rw [List.mem_singleton] at hc
        subst hc
        refine ⟨?_, by simp only [List.length_nil] at l3; omega⟩
        have l4 := cyc_len xs xs.length ((cycs xs i).1.set i true) (xs.getD i 0).toNat ([] ++ [(i : Int)])
        rw [cycA, if_neg h]
        have := l4.2.1
        simpa using this
/-- the cycles of an order -/
def cycL (xs : List Int) : List (List Int) := (cycs xs xs.length).2
def vCycles (xs : List Int) : List (List Int) × Bool := if ordB xs = true then (cycL xs, true) else ([], false)
theorem vCycles_bd (xs : List Int) : (vCycles xs).1.length ≤ 1000 ∧ ∀ c ∈ (vCycles xs).1, c.length ≤ 1000 := by
  unfold vCycles
  split
  · rename_i h
    have hp := ordB_parts h
    obtain ⟨_, h2, h3⟩ := cycs_len xs xs.length
    exact ⟨show (cycs xs xs.length).2.length ≤ 1000 by omega, fun c hc => by have := (h3 c hc).2; omega⟩
  · exact ⟨Nat.zero_le _, fun c hc => by cases hc⟩
def vSign (xs : List Int) : Int × Bool := if ordB xs = true then (if (xs.length - (cycL xs).length) % 2 = 0 then 1 else -1, true) else (0, false)
/-- the least number that the lengths of the first j cycles divide -/
def powT (cs : List (List Int)) : Nat → Nat
  | 0 => 1
  | j + 1 => lcmN (powT cs j) (cs.getD j []).length
theorem lcmN_pos (x y : Nat) (hx : 1 ≤ x) (hy : 1 ≤ y) : 1 ≤ lcmN x y := by
  unfold lcmN
  have hg := Nat.gcd_le_left y (show 0 < x by omega)
  have hg0 : 0 < Nat.gcd x y := Nat.gcd_pos_of_pos_left _ (by omega)
  have hd : 0 < x / Nat.gcd x y := Nat.div_pos hg hg0
  exact Nat.mul_pos hd (by omega)
theorem powT_bd (cs : List (List Int)) (h : ∀ j, j < cs.length → 1 ≤ (cs.getD j []).length ∧ (cs.getD j []).length ≤ 12) : ∀ j, j ≤ cs.length → 1 ≤ powT cs j ∧ powT cs j ≤ 12 ^ j
  | 0, _ => ⟨Nat.le_refl _, Nat.le_refl _⟩
  | j + 1, hj => by
    have ih := powT_bd cs h j (by omega)
    have hh := h j (by omega)
    refine ⟨lcmN_pos _ _ ih.1 hh.1, Nat.le_trans (lcmN_le _ _) ?_⟩
    rw [Nat.pow_succ]
    exact Nat.mul_le_mul ih.2 hh.2
def vPower (xs : List Int) : Int × Bool := if ordB xs = true then ((powT (cycL xs) (cycL xs).length : Nat), true) else (0, false)
end Go.Proofs.Ytpbbfpgjhmjjoac
namespace Go.Proofs.Ytpbbfpgjhmjjoac
open Go.ChangeShapes Go.WideShapes Go.ChangeAt Go.RowKit
end Go.Proofs.Ytpbbfpgjhmjjoac
namespace Go.Proofs.Ytpbbfpgjhmjjoac
open Go.ChangeShapes Go.WideShapes Go.ChangeAt Go.RowKit

/-- a row of slices of the call's own, as values -/
def VR (w : World) (B : Nat) (v : Value) (vs : List Value) : Prop := w.ownsRow B 22 1 v vs.length vs
def VRd (w : World) (u : Value) (ys : List Value) : Prop := ∃ A c, u = .slice A ys.length c ∧ ∀ j, j < ys.length → ∃ g o, A = some ⟨g, o, none⟩ ∧ w.cell? ⟨g, o + j, none⟩ = some (ys.getD j nilS)
def Vnn (u : Value) (ys : List Value) : Prop := ys = [] → u = nilS ∨ ∃ (A : Addr) (c : Nat), u = .slice (some A) 0 c
theorem VRd.nw {w w' : World} {u : Value} {ys : List Value} (h : VRd w u ys) (hk : Kp Nw w w') : VRd w' u ys := by
  obtain ⟨A, c, rfl, hA⟩ := h
  refine ⟨A, c, rfl, fun k hlt => ?_⟩
  obtain ⟨g, o, rfl, hc⟩ := hA k hlt
  exact ⟨g, o, rfl, (hk.cell (World.block_lt_of_cell? w _ hc) (fun hs => hs)).trans hc⟩
theorem VRd.one {w : World} {g : Nat} {s : Value} (h : w.cell? ⟨g, 0, none⟩ = some s) : VRd w (.slice (some ⟨g, 0, none⟩) 1 1) [s] :=
  ⟨_, 1, rfl, fun j hj => ⟨g, 0, rfl, by
    have e : j = 0 := by simpa using hj
    subst e
    exact h⟩⟩
theorem VR.empty (w : World) (B : Nat) (hB : B ≤ w.heap.size) : VR (w.alloc (.cells #[] 22)) B (.slice (some ⟨w.heap.size, 0, none⟩) 0 0) [] :=
  ⟨by simp, .inr ⟨w.heap.size, 0, #[], rfl, hB, heap_alloc_new w _, Nat.le_refl _, Nat.zero_le _, by simp, by simp⟩⟩
theorem VR.kp {w w' : World} {B : Nat} {v : Value} {vs : List Value} {S : Nat → Prop} (h : VR w B v vs) (hk : Kp S w w') (hs : ∀ g, v.ownBlock = some g → ¬ S g) : VR w' B v vs := by
  refine ⟨h.1, ?_⟩
  rcases h.2 with hn | ⟨g, cap, cur, rfl, hb, hgg, rest⟩
  · exact .inl hn
  · exact .inr ⟨g, cap, cur, rfl, hb, (hk.block g (Array.getElem?_eq_some_iff.1 hgg).1 (hs g rfl)).trans hgg, rest⟩
theorem VR.nw {w w' : World} {B : Nat} {v : Value} {vs : List Value} (h : VR w B v vs) (hk : Kp Nw w w') : VR w' B v vs := h.kp hk (fun _ _ h => h)
/-- what is made behind a world and appended to what was made behind it leaves that world as it was -/
theorem VR.after {w0 w w' : World} {v : Value} {vs : List Value} (h : VR w w0.heap.size v vs) (k0 : Kp Nw w0 w) (hk : Kp (fun b => v.ownBlock = some b) w w') : Kp Nw w0 w' :=
  k0.after hk (fun g hg e => by have := (World.ownsRow.lt h g e).1; omega)
/-- one slice put into a row of slices, all old blocks kept -/
theorem SS.ins {w0 w' : World} {B E M : Nat} {v v' s : Value} {xss : List (List Int)} {xs : List Int} (vs : List Value) (hvl : vs.length = xss.length)
    (hjj : ∀ j, j < xss.length → Sl w0 B (vs.getD j nilS) (xss.getD j []) ∧ ∀ g, (vs.getD j nilS).ownBlock = some g → g < E ∧ v.ownBlock ≠ some g)
    (hd : ∀ i j, i < j → j < xss.length → ∀ g, (vs.getD i nilS).ownBlock = some g → (vs.getD j nilS).ownBlock ≠ some g)
    (hs : Sl w0 M s xs) (hBM : B ≤ M) (hEM : E ≤ M) (hM : M ≤ w0.heap.size) (a : Nat) (ha : a ≤ xss.length) (hk : Kp Nw w0 w') (hv : VR w' w0.heap.size v' (vs.take a ++ [s] ++ vs.drop a)) :
    SS w' B w'.heap.size v' (xss.take a ++ [xs] ++ xss.drop a) := by
  have hsz := hk.size
  have hlen : (vs.take a ++ [s] ++ vs.drop a).length = (xss.take a ++ [xs] ++ xss.drop a).length := by simp only [List.length_append, List.length_take, List.length_drop, hvl, List.length_singleton]
  have hl3 : (xss.take a ++ [xs] ++ xss.drop a).length = xss.length + 1 := by simp only [List.length_append, List.length_take, List.length_drop, List.length_singleton]; omega
  -- the j-th of the new row
  have get : ∀ {α : Type} (l : List α) (x d : α), a ≤ l.length → ∀ j, (l.take a ++ [x] ++ l.drop a).getD j d = if j < a then l.getD j d else if j = a then x else l.getD (j - 1) d := by
    intro α l x d hla j
    have ht : (l.take a).length = a := by rw [List.length_take]; omega
    simp only [List.getD]
    by_cases h1 : j < a
    · rw [if_pos h1, List.append_assoc, List.getElem?_append_left (by omega), List.getElem?_take, if_pos h1]
    · rw [if_neg h1]
      by_cases h2 : j = a
      · subst h2
        rw [if_pos rfl, List.append_assoc, List.getElem?_append_right (by omega), ht, Nat.sub_self]
        rfl
      · rw [if_neg h2, List.getElem?_append_right (by simp [ht]; omega), List.getElem?_drop]
        congr 2
        simp [ht]
        omega
  have gv := get vs s nilS (by omega)
  have gx := get xss xs [] ha
  have own' : ∀ g, v'.ownBlock = some g → w0.heap.size ≤ g ∧ g < w'.heap.size := fun g e => World.ownsRow.lt hv g e
  have owns : ∀ g, s.ownBlock = some g → M ≤ g ∧ g < w0.heap.size := fun g e => hs.own_ge g e
  refine ⟨_, hlen, ?_, fun g e => (own' g e).2, fun j hj => ?_, fun i j hij hj => ?_⟩
  · have h' := hv
    refine ⟨h'.1, ?_⟩
    rcases h'.2 with hn | ⟨g, cap, cur, e, hb, rest⟩
    · exact .inl hn
    · exact .inr ⟨g, cap, cur, e, by omega, rest⟩
  · rw [hl3] at hj
    rw [gv j, gx j]
    have old : ∀ i, i < xss.length → Sl w' B (vs.getD i nilS) (xss.getD i []) ∧ ∀ g, (vs.getD i nilS).ownBlock = some g → g < w'.heap.size ∧ v'.ownBlock ≠ some g := fun i hi =>
      ⟨(hjj i hi).1.kp hk (fun _ _ h => h), fun g e => ⟨by have := ((hjj i hi).2 g e).1; omega, fun e2 => by have := ((hjj i hi).2 g e).1; have := (own' g e2).1; omega⟩⟩
    by_cases h1 : j < a
    · simp only [if_pos h1]
      exact old j (by omega)
    · by_cases h2 : j = a
      · simp only [if_neg h1, if_pos h2]
        exact ⟨(hs.kp hk (fun _ _ h => h)).from hBM, fun g e => ⟨by have := (owns g e).2; omega, fun e2 => by have := (owns g e).2; have := (own' g e2).1; omega⟩⟩
      · simp only [if_neg h1, if_neg h2]
        exact old (j - 1) (by omega)
  · rw [hl3] at hj
    rw [gv i, gv j]
    have oldE : ∀ i, i < xss.length → ∀ g, (vs.getD i nilS).ownBlock = some g → g < E := fun i hi g e => ((hjj i hi).2 g e).1
    intro g e1 e2
    by_cases i1 : i < a
    · rw [if_pos i1] at e1
      have b1 := oldE i (by omega) g e1
      by_cases j1 : j < a
      · rw [if_pos j1] at e2
        exact hd i j hij (by omega) g e1 e2
      · rw [if_neg j1] at e2
        by_cases j2 : j = a
        · rw [if_pos j2] at e2
          have := (owns g e2).1
          omega
        · rw [if_neg j2] at e2
          exact hd i (j - 1) (by omega) (by omega) g e1 e2
    · rw [if_neg i1] at e1
      rw [if_neg (show ¬ j < a by omega), if_neg (show ¬ j = a by omega)] at e2
      have b2 := oldE (j - 1) (by omega) g e2
      by_cases i2 : i = a
      · rw [if_pos i2] at e1
        have := (owns g e1).1
        omega
      · rw [if_neg i2] at e1
        exact hd (i - 1) (j - 1) (by omega) (by omega) g e1 e2
end Go.Proofs.Ytpbbfpgjhmjjoac
namespace Go.Proofs.Ytpbbfpgjhmjjoac
open Go.ChangeShapes Go.WideShapes Go.ChangeAt Go.RowKit

/-- whether a list comes before another one, from the turn j on, for so many turns -/
def befN (xs ys : List Int) : Nat → Nat → Bool
  | 0, _ => false
  | k + 1, j => if xs.getD j 0 = ys.getD j 0 then befN xs ys k (j + 1) else decide (xs.getD j 0 < ys.getD j 0)
def bef (xs ys : List Int) : Bool := befN xs ys xs.length 0
/-- how many lists at the head come before one -/
def posL (o : List Int) : List (List Int) → Nat
  | [] => 0
  | c :: cs => if bef c o = true then posL o cs + 1 else 0
theorem posL_le (o : List Int) : ∀ cs, posL o cs ≤ cs.length
  | [] => Nat.le_refl _
  | c :: cs => by
    have := posL_le o cs
    unfold posL
    split
    · rw [List.length_cons]; omega
    · exact Nat.zero_le _
theorem posL_drop (o : List Int) (cs : List (List Int)) (a : Nat) (h : a < cs.length) : posL o (cs.drop a) = if bef (cs.getD a []) o = true then posL o (cs.drop (a + 1)) + 1 else 0 := by
  rw [List.drop_eq_getElem_cons h, posL]
  have e : cs.getD a [] = cs[a] := by simp [List.getD, h]
  rw [e]
def insAt (xss : List (List Int)) (o : List Int) : List (List Int) := xss.take (posL o xss) ++ [o] ++ xss.drop (posL o xss)
theorem insAt_len (xss : List (List Int)) (o : List Int) : (insAt xss o).length = xss.length + 1 := by
  have := posL_le o xss
  unfold insAt
  simp only [List.length_append, List.length_take, List.length_drop, List.length_singleton]
  omega
/-- the orders of the steps 1 .. k, each put at its place -/
def allK (n : Nat) : Nat → List (List Int)
  | 0 => []
  | k + 1 => insAt (allK n k) (outs ((k + 1 : Nat) : Int) n (marks 0 n))
theorem allK_len (n : Nat) : ∀ k, (allK n k).length = k ∧ ∀ c ∈ allK n k, c.length = n
  | 0 => ⟨rfl, fun c hc => by cases hc⟩
  | k + 1 => by
    obtain ⟨h1, h2⟩ := allK_len n k
    refine ⟨by rw [allK, insAt_len, h1], fun c hc => ?_⟩
    rw [allK, insAt] at hc
    rcases List.mem_append.1 hc with hc | hc
    · rcases List.mem_append.1 hc with hc | hc
      · exact h2 c (List.mem_of_mem_take hc)
      · rw [List.mem_singleton] at hc
        subst hc
        exact outs_length _ _ _
    · exact h2 c (List.mem_of_mem_drop hc)
theorem allK_get (n k j : Nat) (h : j < k) : ((allK n k).getD j []).length = n := by
  obtain ⟨h1, h2⟩ := allK_len n k
  have e : (allK n k).getD j [] = (allK n k)[j]'(by omega) := by simp [List.getD, show j < (allK n k).length by omega]
  rw [e]
  exact h2 _ (List.getElem_mem _)
def vAll (p : Int) : List (List Int) × Bool := if 1 ≤ p ∧ p ≤ 5 then (allK p.toNat (perT p.toNat), true) else ([], false)
theorem perT5 : ∀ m, m < 6 → perT m ≤ 60 := by decide
theorem vAll_bd (p : Int) : (vAll p).1.length ≤ 1000 ∧ ∀ c ∈ (vAll p).1, c.length ≤ 1000 := by
  unfold vAll
  split
  · rename_i h
    obtain ⟨h1, h2⟩ := allK_len p.toNat (perT p.toNat)
    exact ⟨by rw [h1]; exact Nat.le_trans (perT5 _ (by omega)) (by omega), fun c hc => by have := h2 c hc; omega⟩
  · exact ⟨Nat.zero_le _, fun c hc => by cases hc⟩
end Go.Proofs.Ytpbbfpgjhmjjoac
namespace Go.Proofs.Ytpbbfpgjhmjjoac
open Go.ChangeShapes Go.WideShapes Go.ChangeAt Go.RowKit

def vRem (xs : List Int) : List Int × Bool := if ordB xs = true then (remsOf xs, true) else ([], false)
theorem vRem_len (xs : List Int) : (vRem xs).1.length ≤ 1000000 := by
  unfold vRem
  split
  · rename_i h
    have := ordB_parts h
    simp only [remsOf_len]
    omega
  · exact Nat.zero_le _
def vUndo (xs : List Int) : List Int × Bool := if ordB xs = true then (undoL xs, true) else ([], false)
theorem vUndo_len (xs : List Int) : (vUndo xs).1.length ≤ 1000000 := by
  unfold vUndo
  split
  · rename_i h
    have := ordB_parts h
    simp only [undoL, undoN_len]
    omega
  · exact Nat.zero_le _
theorem vOfRank_len (p r : Int) : (vOfRank p r).1.length ≤ 1000000 := by
  unfold vOfRank
  split
  · simp only [rkT_len]; omega
  · exact Nat.zero_le _

theorem lawOrderOfRemainders (A : Option Addr) (n c : Nat) (xs : List Int) (W : World) (hu : Rd W (.slice A n c) xs) (hn : xs.length = n) (hm : n ≤ maxLen)
    (hI : ∀ (g B : Nat) (W : World), n ≤ 1048576 → SlAt W B g n n xs → Calls Try.prog 8 #[.slice (some ⟨g, 0, none⟩) n n] W (ListB W (vOrR xs).1 (vOrR xs).2)) :
    Calls Try.prog 3 #[.slice A n c] W fun e w' => e = .returned (.bool true) ∧ Kp Nw W w' := by
  by_cases hl : n ≤ 1048576
  · exact lawOrderOfRemainders_of A n c xs _ _ W hu hn hl (vOrR_len xs) (Lib.hid fun g B W hs => sOrderOfRemainders_any g n B xs W hs hl) (Lib.hid fun g B W hs => hI g B W hl hs)
  · exact lawOrderOfRemainders_bigp A n c W hm (by omega)

theorem lawOrderOfRank (p k : Int) (W : World) (hI : ∀ (W : World), Calls Try.prog 13 #[.int .i64 p, .int .i64 k] W (ListB W (vOfRank p k).1 (vOfRank p k).2)) :
    Calls Try.prog 4 #[.int .i64 p, .int .i64 k] W fun e w' => e = .returned (.bool true) ∧ Kp Nw W w' :=
  lawOrderOfRank_of p k _ _ W (vOfRank_len p k) (Lib.hid fun W => sOrderOfRank_any p k W) (Lib.hid hI)
theorem lawStepsWithFixed (p k : Int) (W : World) (hI : ∀ (W : World), Calls Try.prog 15 #[.int .i64 p, .int .i64 k] W (IntB W (vFixed p k).1 (vFixed p k).2)) :
    Calls Try.prog 5 #[.int .i64 p, .int .i64 k] W fun e w' => e = .returned (.bool true) ∧ Kp Nw W w' :=
  lawStepsWithFixed_of p k _ _ W (Lib.hid fun W => sStepsWithFixed_any p k W) (Lib.hid hI)
end Go.Proofs.Ytpbbfpgjhmjjoac
