/- A pile that is stored into a new variable, and whether a deck can be dealt with counts (canDeal), in the program; no condition but on lengths. -/
import Derived.Test.YtpajmgonceepoacDoorIsDeck
import Derived.Test.YtpajmgonceepoacDoorLaws4
namespace Go.Proofs.YtpajmgonceepoacDoor
open Go.ChangeShapes Go.WideShapes Go.ChangeAt Go.RowKit

theorem new_pile (w : World) (Z c : List Int) (L : List Int) (n : Nat) (hZ : Z.length = 104) (hc : Cds c L) (hn : L.length = n) :
    ∃ w', (storeCells ⟨w.heap.size, 0, none⟩ (plc c n) 0).run Tryd.prog (w.alloc (.cells (plc Z 0).toArray 42)) = .ok () w' ∧ Pile w' w.heap.size L ∧ Kp Nw w w' ∧ (plc c n).length = 105 := by
  have b := Pb.new w Z 0
  refine ⟨_, run_storeCells_pile (n' := n) b hZ hc.1, ⟨c, hc, ?_⟩, (Kp.al w _).setRow (.inr (Nat.le_refl _)) _, by rw [plc_length, hc.1]⟩
  rw [hn]
  exact setRow_heap _ _ _ _ _ _ b

set_option maxRecDepth 100000 in
set_option maxHeartbeats 3200000 in
theorem canDeal_any (A : Option Addr) (n c : Nat) (xs : List Int) (A2 : Option Addr) (m c2 : Nat) (us : List Int) (W : World) (hv : Rd W (.slice A n c) xs) (hn : xs.length = n) (hl : n ≤ 2000000) (hu : Rd W (.slice A2 m c2) us) (hm : us.length = m) (hl2 : m ≤ 2000000) :
    Calls Tryd.prog 22 #[.slice A n c, .slice A2 m c2] W (BoolB W (deckB xs && countsB n us)) := by
  have n0 : (0 : Int) ≤ n := Int.natCast_nonneg _
  have m0 : (0 : Int) ≤ m := Int.natCast_nonneg _
  have HV := Lib.hid hv
  have HN := Lib.hid hn
  have HM := Lib.hid hm
  have HU := Lib.hid hu
  clear hv hn hm hu
  obtain ⟨d, hd⟩ : ∃ d, deckB xs = d := ⟨_, rfl⟩
  rw [hd]
  have HD := Lib.hid hd
  clear hd
  cases d with
  | false =>
    rw [Bool.false_and]
    go_enter Tryd.func22, Tryd.ntmps22
    go_wp2_with fail
    refine (isDeck_any A n c xs W HV.out HN.out hl).mono ?_
    rintro e w1 ⟨rfl, hk⟩
    rw [HD.out]
    have HK := Lib.hid hk
    clear hk
    go_wp2
    go_ret
    exact ⟨ret_bool rfl, HK.out⟩
  | true =>
    rw [Bool.true_and]
    by_cases hmn : m = n
    · subst hmn
      obtain ⟨r, hr⟩ : ∃ r, countsB m us = r := ⟨_, rfl⟩
      rw [hr]
      have HR : Hid (r = us.all (okR 0 1000)) := Lib.hid (by rw [← hr]; unfold countsB; rw [decide_eq_true HM.out, Bool.true_and])
      have HA : Hid (∀ (w : World), Kp Nw W w → ∀ k, k < m → ∃ g o, A2 = some ⟨g, o, none⟩ ∧ w.cell? ⟨g, o + k, none⟩ = some (.int .i64 (us.getD k 0))) := Lib.hid (fun w hk k hkm => by
        obtain ⟨A', c', hAc, hA⟩ := HU.out.nw hk
        have eA : A2 = A' := by injection hAc
        subst eA
        exact hA k (by rw [HM.out]; exact hkm))
      clear hr
      go_enter Tryd.func22, Tryd.ntmps22
      go_wp2_with fail
      refine (isDeck_any A m c xs W HV.out HN.out hl).mono ?_
      rintro e w1 ⟨rfl, hk⟩
      rw [HD.out]
      have HK := Lib.hid hk
      clear hk
      go_wp2
      go_loopw [19] (fun i wr => ∃ j : Nat, j ≤ m ∧ i = .int .i64 j ∧ (us.take j).all (okR 0 1000) = true ∧ Kp Nw W wr) (fun i _ => m - (intOf i).toNat)
      case atStart => exact ⟨0, Nat.zero_le _, rfl, rfl, HK.out⟩
      case round =>
        obtain ⟨j, hj, rfl, ha, hk⟩ := hrel
        have HAL := Lib.hid ha
        have HKW := Lib.hid hk
        have j0 : (0 : Int) ≤ j := Int.natCast_nonneg _
        by_cases hlt : j < m
        · have j1 : (j : Int) < m := by omega
          obtain ⟨g, o, rfl, c0⟩ := HA.out _ hk j hlt
          obtain ⟨x, hx⟩ : ∃ x, us.getD j 0 = x := ⟨_, rfl⟩
          rw [hx] at c0
          have ht : us.take (j + 1) = us.take j ++ [x] := by
            rw [List.take_add_one, ← hx, List.getD_eq_getElem?_getD, List.getElem?_eq_getElem (by rw [HM.out]; exact hlt)]; rfl
          have hmem : x ∈ us := by
            rw [← hx, List.getD_eq_getElem?_getD, List.getElem?_eq_getElem (by rw [HM.out]; exact hlt)]; exact List.getElem_mem _
          have w2 : IntKind.i64.wrap ((j : Int) + 1) = ((j + 1 : Nat) : Int) := by rw [IntWalk.i64_in _ (by omega)]; omega
          by_cases hin : 0 ≤ x ∧ x ≤ 1000
          · have HA1 : Hid ((us.take (j + 1)).all (okR 0 1000) = true) := Lib.hid (by
              rw [ht, List.all_append, ha]
              simp [okR]
              omega)
            clear hx ht hmem hk ha
            go_wp2_with (first | ((with_reducible refine (isUnder_yes x _ hin.1 hin.2).mono ?_); rintro e w' ⟨rfl, rfl⟩))
            go_roundw
            case rel => exact ⟨j + 1, by omega, rfl, HA1.out, HKW.out⟩
            case measure => simp [intOf] <;> omega
          · have HF : Hid (r = false) := Lib.hid (by
              rw [HR.out]
              apply Bool.eq_false_iff.2
              intro h1
              have h2 := List.all_eq_true.1 h1 x hmem
              simp [okR] at h2
              omega)
            clear hx ht hmem hk ha
            go_wp2_with (first | ((with_reducible refine (isUnder_no x _ (by omega)).mono ?_); rintro e w' ⟨rfl, rfl⟩))
            go_ret
            exact ⟨ret_bool HF.out.symm, HKW.out⟩
        · have e : j = m := by omega
          subst e
          have HT : Hid (r = true) := Lib.hid (by
            rw [HR.out, ← ha, List.take_of_length_le (by rw [HM.out]; exact Nat.le_refl _)])
          clear hk ha
          go_wp2
          go_ret
          exact ⟨ret_bool HT.out.symm, HKW.out⟩
    · have HF : Hid (countsB n us = false) := Lib.hid (by unfold countsB; rw [decide_eq_false (by rw [HM.out]; exact hmn), Bool.false_and])
      have hmi : ¬ (m : Int) = n := by omega
      go_enter Tryd.func22, Tryd.ntmps22
      go_wp2_with fail
      refine (isDeck_any A n c xs W HV.out HN.out hl).mono ?_
      rintro e w1 ⟨rfl, hk⟩
      rw [HD.out]
      have HK := Lib.hid hk
      clear hk
      go_wp2
      go_ret
      exact ⟨ret_bool HF.out.symm, HK.out⟩
end Go.Proofs.YtpajmgonceepoacDoor
