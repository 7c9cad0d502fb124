/- The laws of SkipOrder and SkipLast return true at every three integers: the program and its model make the same list in new memory, and tell the same person; no condition. -/
import Derived.Test.YtaejlhdbdjfccaaSkipFn
namespace Go.Proofs.Ytaejlhdbdjfccaa
open Go.ChangeShapes Go.WideShapes Go.ChangeAt Go.RowKit

set_option maxHeartbeats 1600000 in
theorem lawSkipOrder_of (p : Int) (k : Int) (s : Int) (xs : List Int) (b : Bool) (W : World) (hlen : xs.length ≤ 1000000)
    (hS : Hid (∀ w, Kp Nw W w → Calls Try.prog 52 #[.int .i64 p, .int .i64 k, .int .i64 s] w (ListB w xs b))) (hI : Hid (∀ w, Kp Nw W w → Calls Try.prog 53 #[.int .i64 p, .int .i64 k, .int .i64 s] w (ListB w xs b))) :
    Calls Try.prog 16 #[.int .i64 p, .int .i64 k, .int .i64 s] W fun e w' => e = .returned (.bool true) ∧ Kp Nw W w' := by
  obtain ⟨n, hn⟩ : ∃ n, xs.length = n := ⟨_, rfl⟩
  have HL : Hid (xs.length ≤ maxLen) := Lib.hid (by unfold maxLen; omega)
  have hlen : n ≤ 1000000 := by omega
  have hn0 : (0 : Int) ≤ n := Int.natCast_nonneg _
  have HN := Lib.hid hn
  clear hn
  go_enter Try.func16, Try.ntmps16
  go_wp2_with fail
  refine (hS.out _ (.refl _ _)).mono ?_
  rintro e w1 ⟨v1, rfl, hs1, hk1⟩
  obtain ⟨A1, c1, rfl⟩ := hs1.val HN.out
  have HS1 := Lib.hid hs1; have HK1 := Lib.hid hk1; clear hs1 hk1
  go_wp2_with fail
  refine (hI.out _ HK1.out).mono ?_
  rintro e w2 ⟨v2, rfl, hs2, hk2⟩
  obtain ⟨A2, c2, rfl⟩ := hs2.val HN.out
  have O1 := Lib.hid HS1.out.own_ge
  have O2 := Lib.hid hs2.own_ge
  have HS1 := Lib.hid (HS1.out.below hk2.below')
  have HS2 := Lib.hid hs2; have HK2 := Lib.hid (HK1.out.nw hk2); have z2 := hk2.size; clear hs2 hk2
  go_wp2_with fail
  refine (eqIntS_same _ _ xs _ HS2.out.rd HS1.out.rd HL.out).mono ?_
  rintro e w3 ⟨rfl, d1, rfl⟩
  go_wp2_with fail
  refine (markIntS_any _ xs 1 _ _ (HS2.out.drewN d1) (by omega) (by omega) (by rw [HN.out]; omega)).mono ?_
  rintro e w4 ⟨rfl, hs4, hk4⟩
  rw [HN.out] at hs4 ⊢
  have HS1 := Lib.hid ((HS1.out.drewN d1).kp hk4 (fun g a b => by have := (O1.out g a).2; have := (O2.out g b).1; omega))
  have HS4 := Lib.hid hs4
  have HK4 := Lib.hid ((HK2.out.drewN d1).after hk4 (fun g hg b => by have := (O2.out g b).1; have := HK1.out.size; omega))
  clear hs4 hk4
  go_wp2_with fail
  refine (heldIntS_any _ 1 n _ HS4.out.rd (by omega) (by omega) (by omega)).mono ?_
  rintro e w5 ⟨rfl, rfl⟩
  go_wp2_with fail
  refine (hI.out _ HK4.out).mono ?_
  rintro e w6 ⟨v6, rfl, hs6, hk6⟩
  obtain ⟨A6, c6, rfl⟩ := hs6.val HN.out
  have HS4 := Lib.hid (HS4.out.below hk6.below')
  have HS1 := Lib.hid (HS1.out.below hk6.below')
  have HK6 := Lib.hid (HK4.out.nw hk6)
  have HS6 := Lib.hid hs6
  clear hs6 hk6
  go_wp2_with fail
  refine (eqIntS_same _ _ xs _ HS6.out.rd HS1.out.rd HL.out).mono ?_
  rintro e w7 ⟨rfl, d2, rfl⟩
  go_wp2_with fail
  refine (heldIntS_any _ 1 n _ (HS4.out.drewN d2).rd (by omega) (by omega) (by omega)).mono ?_
  rintro e w8 ⟨rfl, rfl⟩
  go_wp2
  go_ret
  exact ⟨rfl, HK6.out.drewN d2⟩

set_option maxHeartbeats 800000 in
theorem lawSkipLast_of (p : Int) (k : Int) (s : Int) (x : Int) (b : Bool) (W : World)
    (hS : Hid (∀ w, Kp Nw W w → Calls Try.prog 54 #[.int .i64 p, .int .i64 k, .int .i64 s] w (IntB w x b))) (hI : Hid (∀ w, Kp Nw W w → Calls Try.prog 55 #[.int .i64 p, .int .i64 k, .int .i64 s] w (IntB w x b))) :
    Calls Try.prog 17 #[.int .i64 p, .int .i64 k, .int .i64 s] W fun e w' => e = .returned (.bool true) ∧ Kp Nw W w' := by
  go_enter Try.func17, Try.ntmps17
  go_wp2_with fail
  refine (hS.out _ (.refl _ _)).mono ?_
  rintro e w1 ⟨rfl, hk1⟩
  have HK1 := Lib.hid hk1
  clear hk1
  go_wp2_with fail
  refine (hI.out _ HK1.out).mono ?_
  rintro e w2 ⟨rfl, hk2⟩
  have HK2 := Lib.hid (HK1.out.nw hk2)
  clear hk2
  go_wp2
  go_ret
  exact ⟨rfl, HK2.out⟩

theorem lawSkipOrder (p k s : Int) (W : World) :
    Calls Try.prog 16 #[.int .i64 p, .int .i64 k, .int .i64 s] W fun e w' => e = .returned (.bool true) ∧ Kp Nw W w' := by
  by_cases h : Asked p k
  · by_cases hs : s < 0 ∨ 200 < s
    · exact lawSkipOrder_of p k s [] false W (by simp) (Lib.hid fun w _ => sSkipOrder_no2 p k s w h hs) (Lib.hid fun w _ => iSkipOrder_no2 p k s w h hs)
    · obtain ⟨t, rfl⟩ : ∃ t : Nat, s = t := ⟨s.toNat, by omega⟩
      obtain ⟨n, rfl⟩ : ∃ n : Nat, p = n := ⟨p.toNat, by have := h.p1; omega⟩
      exact lawSkipOrder_of n k t (outsS k t n (marks 0 n)) true W (by rw [outsS_length]; have := h.p2; omega) (Lib.hid fun w _ => sSkipOrder_yes n t k w h (by omega)) (Lib.hid fun w _ => iSkipOrder_yes n t k w h (by omega))
  · exact lawSkipOrder_of p k s [] false W (by simp) (Lib.hid fun w _ => sSkipOrder_no1 p k s w h) (Lib.hid fun w _ => iSkipOrder_no1 p k s w h)

theorem lawSkipLast (p k s : Int) (W : World) :
    Calls Try.prog 17 #[.int .i64 p, .int .i64 k, .int .i64 s] W fun e w' => e = .returned (.bool true) ∧ Kp Nw W w' := by
  by_cases h : Asked p k
  · by_cases hs : s < 0 ∨ 200 < s
    · exact lawSkipLast_of p k s 0 false W (Lib.hid fun w _ => sSkipLast_no2 p k s w h hs) (Lib.hid fun w _ => iSkipLast_no2 p k s w h hs)
    · obtain ⟨t, rfl⟩ : ∃ t : Nat, s = t := ⟨s.toNat, by omega⟩
      obtain ⟨m, rfl⟩ : ∃ m : Nat, p = (m : Int) + 1 := ⟨(p - 1).toNat, by have := h.p1; omega⟩
      exact lawSkipLast_of _ k t _ true W (Lib.hid fun w _ => sSkipLast_yes m t k w h (by omega)) (Lib.hid fun w _ => iSkipLast_yes m t k w h (by omega))
  · exact lawSkipLast_of p k s 0 false W (Lib.hid fun w _ => sSkipLast_no1 p k s w h) (Lib.hid fun w _ => iSkipLast_no1 p k s w h)
end Go.Proofs.Ytaejlhdbdjfccaa
