/- JoinOrders in the program; no condition but on lengths. -/
import Derived.Test.YtgbmoipkgnklfacIOrd
import Derived.Test.YtgbmoipkgnklfacIJoin
import Derived.Test.YtgbmoipkgnklfacSx
namespace Go.Proofs.Ytgbmoipkgnklfac
open Go.ChangeShapes Go.WideShapes Go.ChangeAt Go.RowKit

theorem Eb.sx {w : World} {b B : Nat} {xs : List Int} (h : Eb w b (exOn xs)) (n : Nat) (hn : xs.length = n) (hB : B ≤ b) : Sx w B (.slice (some ⟨b, 0, none⟩) n n) xs := by
  subst hn
  refine .inr ⟨b, _, _, _, rfl, hB, h, ?_⟩
  unfold exOn exC
  simp

set_option maxRecDepth 100000 in
set_option maxHeartbeats 3200000 in
theorem iJoinOrders_any (g n B : Nat) (xs : List Int) (g2 n2 B2 : Nat) (ys : List Int) (W : World) (hl : n ≤ 1048576) (hl2 : n2 ≤ 1048576) (hs : SlAt W B g n n xs) (hs2 : SlAt W B2 g2 n2 n2 ys) :
    Calls Try.prog 8 #[.slice (some ⟨g, 0, none⟩) n n, .slice (some ⟨g2, 0, none⟩) n2 n2] W (ListX W (vJoin xs ys).1 (vJoin xs ys).2) := by
  have hlx := hs.1
  have hly := hs2.1
  have HS := Lib.hid hs
  have HS2 := Lib.hid hs2
  clear hs hs2
  unfold vJoin
  cases hb : ordB xs
  · have HB := Lib.hid hb
    rw [if_neg (by simp)]
    clear hb hlx hly
    go_enter Try.func8, Try.ntmps8
    go_wp2_with fail
    refine (iIsOrder_any g n B xs W hl HS.out).mono ?_
    rw [HB.out]
    rintro e w1 ⟨rfl, hk1⟩
    have HK1 := Lib.hid hk1
    clear hk1
    go_wp2
    go_ret2
    exact ⟨.slice none 0 0, rfl, Sx.nil _ _, HK1.out⟩
  · have HB := Lib.hid hb
    have hp := ordB_parts hb
    cases hb2 : ordB ys
    · have HB2 := Lib.hid hb2
      rw [if_neg (by simp)]
      clear hb hb2 hlx hly hp
      go_enter Try.func8, Try.ntmps8
      go_wp2_with fail
      refine (iIsOrder_any g n B xs W hl HS.out).mono ?_
      rw [HB.out]
      rintro e w1 ⟨rfl, hk1⟩
      have HK1 := Lib.hid hk1
      have HS21 := Lib.hid (HS2.out.kq hk1 (fun h => h))
      clear hk1
      go_wp2_with fail
      refine (iIsOrder_any g2 n2 B2 ys w1 hl2 HS21.out).mono ?_
      rw [HB2.out]
      rintro e w2 ⟨rfl, hk2⟩
      have HK2 := Lib.hid (HK1.out.nw hk2)
      clear hk2
      go_wp2
      go_ret2
      exact ⟨.slice none 0 0, rfl, Sx.nil _ _, HK2.out⟩
    · have HB2 := Lib.hid hb2
      have hp2 := ordB_parts hb2
      by_cases he : n = n2
      · subst he
        rw [if_pos ⟨rfl, rfl, by omega⟩]
        have n1 : 1 ≤ n := by omega
        have n12 : n ≤ 12 := by omega
        have HLX := Lib.hid hlx
        have HLY := Lib.hid hly
        have HJL : Hid ((joinL xs ys).length = n) := Lib.hid (by rw [joinL_len]; exact hly)
        obtain ⟨R, hR⟩ : ∃ R, joinL xs ys = R := ⟨_, rfl⟩
        rw [hR] at HJL ⊢
        have HRR := Lib.hid hR
        have HBD : Hid (∀ j, j < n → 0 ≤ ys.getD j 0 ∧ ys.getD j 0 < (n : Int)) := Lib.hid (fun j hj => by
          have h9 := ordB_get hb2 j (by omega)
          rw [hly] at h9
          exact h9)
        clear hb hb2 hlx hly hp hp2 hR
        go_enter Try.func8, Try.ntmps8
        go_wp2_with fail
        refine (iIsOrder_any g n B xs W hl HS.out).mono ?_
        rw [HB.out]
        rintro e w1 ⟨rfl, hk1⟩
        have HK1 := Lib.hid hk1
        have HS21 := Lib.hid (HS2.out.kq hk1 (fun h => h))
        clear hk1
        go_wp2_with fail
        refine (iIsOrder_any g2 n B2 ys w1 hl2 HS21.out).mono ?_
        rw [HB2.out]
        rintro e w2 ⟨rfl, hk2⟩
        have HK2 := Lib.hid (HK1.out.nw hk2)
        clear hk2
        go_wp2_with fail
        refine (joiner_any (n : Int) w2).mono ?_
        rintro e w3 ⟨gj, rfl, hc3, hz3, hz4, hk3⟩
        have HK3 := Lib.hid (HK2.out.nw hk3)
        have HC3 := Lib.hid hc3
        clear hc3 hz3 hz4 hk3
        go_wp2_with (first
          | (go_at_call 32
             refine (joiner1_any gj w3.heap.size n (some ⟨g, 0, none⟩) (some ⟨g2, 0, none⟩) n n xs ys _ (keepc (Kp.al w3 _) HC3.out (fun h => h)) ((cell_of_row _ _ 0 _ _ _ (heap_alloc_new w3 _)).trans rfl) ((cell_of_row _ _ 1 _ _ _ (heap_alloc_new w3 _)).trans rfl) n1 n12 (HS.out.sl.rd.nw' (HK3.out.nw (.al _ _))) HLX.out (HS2.out.sl.rd.nw' (HK3.out.nw (.al _ _))) HLY.out HBD.out).mono ?_
             rw [HRR.out]
             rintro e w4 ⟨rfl, hk4⟩
             have HK4 := Lib.hid ((HK3.out.nw (.al _ _)).nw hk4)
             clear hk4)
          | (go_at_call 20; refine (list_any (exOn R) n _ n12).mono ?_; rintro e w5 ⟨b5, rfl, hb5, hz5, hk5⟩))
        have HR5 := Lib.hid (hb5.sx n HJL.out (Nat.le_trans HK4.out.size hz5))
        have HK5 := Lib.hid (HK4.out.nw hk5)
        clear hb5 hz5 hk5
        go_wp2
        go_ret2
        exact ⟨_, rfl, HR5.out, HK5.out⟩
      · rw [if_neg (fun h => he (by omega))]
        have he2 : ¬ (n : Int) = (n2 : Int) := by omega
        clear hb hb2 hlx hly hp hp2
        go_enter Try.func8, Try.ntmps8
        go_wp2_with fail
        refine (iIsOrder_any g n B xs W hl HS.out).mono ?_
        rw [HB.out]
        rintro e w1 ⟨rfl, hk1⟩
        have HK1 := Lib.hid hk1
        have HS21 := Lib.hid (HS2.out.kq hk1 (fun h => h))
        clear hk1
        go_wp2_with fail
        refine (iIsOrder_any g2 n2 B2 ys w1 hl2 HS21.out).mono ?_
        rw [HB2.out]
        rintro e w2 ⟨rfl, hk2⟩
        have HK2 := Lib.hid (HK1.out.nw hk2)
        clear hk2
        go_wp2
        go_ret2
        exact ⟨.slice none 0 0, rfl, Sx.nil _ _, HK2.out⟩
end Go.Proofs.Ytgbmoipkgnklfac
