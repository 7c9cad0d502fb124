/- The law of OrderOut returns true at every two integers: the program and its model make the same list, in new memory; no condition. -/
import Derived.Test.YtaejlhdbdjfccabOrder
namespace Go.Proofs.Ytaejlhdbdjfccab
open Go.ChangeShapes Go.WideShapes Go.ChangeAt Go.RowKit

theorem outs_length (k : Int) : ∀ (t : Nat) (l : List Int), (outs k t l).length = t
  | 0, _ => rfl
  | t + 1, l => by rw [outs, List.length_cons, outs_length k t]

set_option maxHeartbeats 1600000 in
theorem lawOrderOut_of (p k : Int) (xs : List Int) (b : Bool) (W : World) (hlen : xs.length ≤ 1000000)
    (hS : Hid (∀ W, Calls Try.prog 12 #[.int .i64 p, .int .i64 k] W (ListRes W xs b))) (hI : Hid (∀ W, Calls Try.prog 13 #[.int .i64 p, .int .i64 k] W (ListRes W xs b))) :
    Calls Try.prog 3 #[.int .i64 p, .int .i64 k] W fun e w' => e = .returned (.bool true) ∧ Kp Nw W w' := by
  obtain ⟨n, hn⟩ : ∃ n, xs.length = n := ⟨_, rfl⟩
  have HL : Hid (xs.length ≤ maxLen) := Lib.hid (by unfold maxLen; omega)
  have hlen : n ≤ 1000000 := by omega
  have hn0 : (0 : Int) ≤ n := Int.natCast_nonneg _
  have HN := Lib.hid hn
  clear hn
  go_enter Try.func3, Try.ntmps3
  go_wp2_with fail
  refine (hS.out _).mono ?_
  rintro e w1 ⟨v1, rfl, hs1, hk1⟩
  obtain ⟨A1, c1, rfl⟩ := hs1.val HN.out
  have HS1 := Lib.hid hs1; have HK1 := Lib.hid hk1; clear hs1 hk1
  go_wp2_with fail
  refine (hI.out _).mono ?_
  rintro e w2 ⟨v2, rfl, hs2, hk2⟩
  obtain ⟨A2, c2, rfl⟩ := hs2.val HN.out
  have O1 := Lib.hid HS1.out.own_ge
  have O2 := Lib.hid hs2.own_ge
  have HS1 := Lib.hid (HS1.out.below hk2.below')
  have HS2 := Lib.hid hs2; have HK2 := Lib.hid (HK1.out.nw hk2); have z2 := hk2.size; clear hs2 hk2
  go_wp2_with fail
  refine (eqIntS_same _ _ xs _ HS2.out.rd HS1.out.rd HL.out).mono ?_
  rintro e w3 ⟨rfl, d1, rfl⟩
  go_wp2_with fail
  refine (markIntS_any _ xs 1 _ _ (HS2.out.drewN d1) (by omega) (by omega) (by rw [HN.out]; omega)).mono ?_
  rintro e w4 ⟨rfl, hs4, hk4⟩
  rw [HN.out] at hs4 ⊢
  have HS1 := Lib.hid ((HS1.out.drewN d1).kp hk4 (fun g a b => by have := (O1.out g a).2; have := (O2.out g b).1; omega))
  have HS4 := Lib.hid hs4
  have HK4 := Lib.hid ((HK2.out.drewN d1).after hk4 (fun g hg b => by have := (O2.out g b).1; have := HK1.out.size; omega))
  clear hs4 hk4
  go_wp2_with fail
  refine (heldIntS_any _ 1 n _ HS4.out.rd (by omega) (by omega) (by omega)).mono ?_
  rintro e w5 ⟨rfl, rfl⟩
  go_wp2_with fail
  refine (hI.out _).mono ?_
  rintro e w6 ⟨v6, rfl, hs6, hk6⟩
  obtain ⟨A6, c6, rfl⟩ := hs6.val HN.out
  have HS4 := Lib.hid (HS4.out.below hk6.below')
  have HS1 := Lib.hid (HS1.out.below hk6.below')
  have HK6 := Lib.hid (HK4.out.nw hk6)
  have HS6 := Lib.hid hs6
  clear hs6 hk6
  go_wp2_with fail
  refine (eqIntS_same _ _ xs _ HS6.out.rd HS1.out.rd HL.out).mono ?_
  rintro e w7 ⟨rfl, d2, rfl⟩
  go_wp2_with fail
  refine (heldIntS_any _ 1 n _ (HS4.out.drewN d2).rd (by omega) (by omega) (by omega)).mono ?_
  rintro e w8 ⟨rfl, rfl⟩
  go_wp2
  go_ret
  exact ⟨rfl, HK6.out.drewN d2⟩

theorem lawOrderOut (p k : Int) (W : World) :
    Calls Try.prog 3 #[.int .i64 p, .int .i64 k] W fun e w' => e = .returned (.bool true) ∧ Kp Nw W w' := by
  by_cases h : Asked p k
  · obtain ⟨n, rfl⟩ : ∃ n : Nat, p = n := ⟨p.toNat, by have := h.p1; omega⟩
    have h2 := h.p2
    exact lawOrderOut_of n k (outs k n (marks 0 n)) true W (by rw [outs_length]; omega) (Lib.hid fun _ => sOrderOut_yes n k _ h) (Lib.hid fun _ => iOrderOut_yes n k _ h)
  · exact lawOrderOut_of p k [] false W (by simp) (Lib.hid fun _ => sOrderOut_no p k _ h) (Lib.hid fun _ => iOrderOut_no p k _ h)
end Go.Proofs.Ytaejlhdbdjfccab
