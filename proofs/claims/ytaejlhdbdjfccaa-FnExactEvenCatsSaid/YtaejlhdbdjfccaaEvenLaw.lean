/- The law of EvenCats returns true at every three integers: the program and its model make the same cats, in new memory; no condition. -/
import Derived.Test.YtaejlhdbdjfccaaEven
namespace Go.Proofs.Ytaejlhdbdjfccaa
open Go.ChangeShapes Go.WideShapes Go.ChangeAt Go.RowKit

set_option maxHeartbeats 1600000 in
theorem lawEvenCats_of (p q r : Int) (xs : List Int) (k : Int) (b : Bool) (W : World) (hlen : xs.length ≤ 1000000)
    (hS : Hid (∀ W, Calls Try.prog 23 #[.int .i64 p, .int .i64 q, .int .i64 r] W (CatsRes0 W xs k b))) (hI : Hid (∀ W, Calls Try.prog 24 #[.int .i64 p, .int .i64 q, .int .i64 r] W (CatsRes0 W xs k b))) :
    Calls Try.prog 4 #[.int .i64 p, .int .i64 q, .int .i64 r] W fun e w' => e = .returned (.bool true) ∧ Kp Nw W w' := by
  obtain ⟨n, hn⟩ : ∃ n, xs.length = n := ⟨_, rfl⟩
  have hl : xs.length ≤ maxLen := by unfold maxLen; omega
  have hlen : n ≤ 1000000 := by omega
  have HN := Lib.hid hn
  clear hn
  have HL := Lib.hid hl
  clear hl
  have hn0 : (0 : Int) ≤ n := Int.natCast_nonneg _
  go_enter Try.func4, Try.ntmps4
  go_wp2_with fail
  refine (hS.out _).mono ?_
  rintro e w1 ⟨v1, rfl, hs1, hk1⟩
  obtain ⟨A1, c1, rfl⟩ := hs1.val HN.out
  have HS1 := Lib.hid hs1; have HK1 := Lib.hid hk1; clear hs1 hk1
  go_wp2_with fail
  refine (hI.out _).mono ?_
  rintro e w2 ⟨v2, rfl, hs2, hk2⟩
  obtain ⟨A2, c2, rfl⟩ := hs2.val HN.out
  have T1 := Lib.hid ((Two.new w1 _ _ _).nw hk2)
  have z2 : w1.heap.size < w2.heap.size := by have := hk2.size; simp at this; omega
  have O1 := Lib.hid HS1.out.own_ge
  have O2 := Lib.hid hs2.own_ge
  have HS2 := Lib.hid hs2; have HK2 := Lib.hid hk2; clear hs2 hk2
  obtain ⟨p0, p1⟩ := T1.out
  go_wp2_with fail
  refine (eqCats_same A2 A1 n c2 c1 k xs _ (HS2.out.rd.nw (.al _ _)) (((HS1.out.rd.nw (.al _ _)).nw HK2.out).nw (.al _ _)) HL.out).mono ?_
  rintro e w3 ⟨rfl, hk3⟩
  clear p0 p1
  have T1 := Lib.hid ((T1.out.nw (.al _ _)).nw hk3)
  have T2 := Lib.hid ((Two.new w2 _ _ _).nw hk3)
  have z3 : w2.heap.size < w3.heap.size := by have := hk3.size; simp at this; omega
  have HS2 := Lib.hid ((HS2.out.below (Kp.al _ _).below').below hk3.below')
  have HK3 := Lib.hid hk3; clear hk3
  obtain ⟨p0, p1⟩ := T2.out
  go_wp2_with fail
  refine (markCats_any A2 n c2 1 k xs _ _ HS2.out HN.out (by omega) (by omega) (by rw [HN.out]; omega)).mono ?_
  rintro e w4 ⟨rfl, hs4, hk4⟩
  have hne : ∀ g, (Value.slice A2 n c2).ownBlock = some g → w1.heap.size + 1 ≤ g ∧ g < w2.heap.size := fun g hg => by have := O2.out g hg; simp at this; omega
  have T1 := Lib.hid (T1.out.kp hk4 (fun hg => by have := hne _ hg; omega))
  have T2 := Lib.hid (T2.out.kp hk4 (fun hg => by have := hne _ hg; omega))
  have HS1 := Lib.hid ((((HS1.out.below (Kp.al _ _).below').below HK2.out.below').below (Kp.al _ _).below').below HK3.out.below' |>.kp hk4 (fun g h1 h2 => by have := hne _ h2; have := (O1.out g h1).2; omega))
  have z4 : w3.heap.size ≤ w4.heap.size := hk4.size
  have HS4 := Lib.hid hs4
  have HK4 := Lib.hid ((((HK1.out.nw (.al _ _)).nw HK2.out).nw (.al _ _)).nw HK3.out |>.after hk4 (fun g hg h2 => by have := hne _ h2; have := HK1.out.size; omega))
  have NE := Lib.hid hne
  clear p0 p1 hs4 hk4 hne
  obtain ⟨p0, p1⟩ := T2.out
  go_wp2_with fail
  refine (heldCats_any A2 n c2 1 k _ HS4.out.rd (by omega) (by omega) (by omega)).mono ?_
  rintro e w5 ⟨rfl, hk5⟩
  have T1 := Lib.hid (T1.out.nw hk5)
  have T2 := Lib.hid (T2.out.nw hk5)
  have z5 : w4.heap.size ≤ w5.heap.size := hk5.size
  have HS4 := Lib.hid (HS4.out.below hk5.below')
  have HS1 := Lib.hid (HS1.out.below hk5.below')
  have HK5 := Lib.hid (HK4.out.nw hk5)
  clear p0 p1 hk5
  go_wp2_with fail
  refine (hI.out _).mono ?_
  rintro e w6 ⟨v6, rfl, hs6, hk6⟩
  obtain ⟨A6, c6, rfl⟩ := hs6.val HN.out
  have T1 := Lib.hid (T1.out.nw hk6)
  have T2 := Lib.hid (T2.out.nw hk6)
  have z6 : w5.heap.size ≤ w6.heap.size := hk6.size
  have z16 : w1.heap.size < w6.heap.size := by omega
  have z26 : w2.heap.size < w6.heap.size := by omega
  have HS4 := Lib.hid (HS4.out.below hk6.below')
  have HS1 := Lib.hid (HS1.out.below hk6.below')
  have HK6 := Lib.hid (HK5.out.nw hk6)
  have HS6 := Lib.hid hs6
  clear hs6 hk6
  obtain ⟨p0, p1⟩ := T1.out
  go_wp2_with fail
  refine (eqCats_same A6 A1 n c6 c1 k xs _ (HS6.out.rd.nw (.al _ _)) (HS1.out.rd.nw (.al _ _)) HL.out).mono ?_
  rintro e w7 ⟨rfl, hk7⟩
  have T2 := Lib.hid ((T2.out.nw (.al _ _)).nw hk7)
  have HS4 := Lib.hid ((HS4.out.below (Kp.al _ _).below').below hk7.below')
  have HK7 := Lib.hid ((HK6.out.nw (.al _ _)).nw hk7)
  clear p0 p1 hk7
  obtain ⟨p0, p1⟩ := T2.out
  go_wp2_with fail
  refine (heldCats_any A2 n c2 1 k _ HS4.out.rd (by omega) (by omega) (by omega)).mono ?_
  rintro e w8 ⟨rfl, hk8⟩
  have HK8 := Lib.hid (HK7.out.nw hk8)
  clear hk8
  go_wp2
  go_ret
  exact ⟨rfl, HK8.out⟩

theorem lawEvenCats (p l k : Int) (W : World) :
    Calls Try.prog 4 #[.int .i64 p, .int .i64 l, .int .i64 k] W fun e w' => e = .returned (.bool true) ∧ Kp Nw W w' := by
  by_cases hp : p < 1 ∨ 40 < p
  · exact lawEvenCats_of p l k [] 0 false W (by simp) (Lib.hid fun w => sEven_no1 p l k w hp) (Lib.hid fun w => iEven_no p l k w hp)
  · obtain ⟨n, rfl⟩ : ∃ n : Nat, p = n := ⟨p.toNat, by omega⟩
    have n1 : 1 ≤ n := by omega
    have n2 : n ≤ 40 := by omega
    have hc := catB_even n l k n1 n2
    by_cases hl : l < 1 ∨ 9 < l
    · rw [decide_eq_false (show ¬ (1 ≤ l ∧ l ≤ 9) by omega), Bool.false_and] at hc
      exact lawEvenCats_of n l k [] 0 false W (by simp) (Lib.hid fun w => sEven_no2 n l k w (by omega) (by omega) hl) (Lib.hid fun w => iEven_of n l k false w n1 n2 hc.symm)
    · by_cases hk : k < 1 ∨ 1000000 < k
      · rw [decide_eq_false (show ¬ (1 ≤ k ∧ k ≤ 1000000) by omega), Bool.and_false] at hc
        exact lawEvenCats_of n l k [] 0 false W (by simp) (Lib.hid fun w => sEven_no3 n l k w (by omega) (by omega) (by omega) (by omega) hk) (Lib.hid fun w => iEven_of n l k false w n1 n2 hc.symm)
      · rw [decide_eq_true (show 1 ≤ l ∧ l ≤ 9 by omega), decide_eq_true (show 1 ≤ k ∧ k ≤ 1000000 by omega)] at hc
        exact lawEvenCats_of n l k (List.replicate n l) k true W (by simp; omega) (Lib.hid fun w => sEven_yes n l k w n1 n2 (by omega) (by omega) (by omega) (by omega)) (Lib.hid fun w => iEven_of n l k true w n1 n2 hc.symm)
end Go.Proofs.Ytaejlhdbdjfccaa
