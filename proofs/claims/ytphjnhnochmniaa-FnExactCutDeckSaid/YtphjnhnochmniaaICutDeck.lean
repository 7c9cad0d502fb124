/- What CutDeck gives in the program, told by plain lists: as the model; no condition but on lengths. -/
import Derived.Test.YtphjnhnochmniaaPileC
import Derived.Test.YtphjnhnochmniaaConcat
namespace Go.Proofs.Ytphjnhnochmniaa
open Go.ChangeShapes Go.WideShapes Go.ChangeAt Go.RowKit

set_option maxRecDepth 100000 in
set_option maxHeartbeats 3200000 in
theorem iCutDeck_all (g n B : Nat) (xs : List Int) (a : Int) (W : World) (hs : SlAt W B g n n xs) (hl : n ≤ 1048576) :
    Calls Try.prog 38 #[.slice (some ⟨g, 0, none⟩) n n, .int .i64 a] W (ListB W (vCutDeck xs a).1 (vCutDeck xs a).2) := by
  have HSL := Lib.hid hs
  have HRD := Lib.hid hs.sl.rd
  have HN : Hid (xs.length = n) := Lib.hid hs.1
  have n0 : (0 : Int) ≤ n := Int.natCast_nonneg _
  have hn' : xs.length = n := hs.1
  clear hs
  unfold vCutDeck
  by_cases hb : deckB xs = true
  · have HB := Lib.hid hb
    by_cases ha : 0 ≤ a ∧ a ≤ (xs.length : Int)
    · rw [if_pos ⟨hb, ha.1, ha.2⟩]
      obtain ⟨k, rfl⟩ : ∃ k : Nat, a = k := ⟨a.toNat, by omega⟩
      rw [Int.toNat_natCast]
      have hkn : k ≤ n := by omega
      have u0 : (0 : Int) ≤ k := Int.natCast_nonneg _
      have u1 : (k : Int) ≤ n := by omega
      have q6 := cut_to g n n k hkn
      obtain ⟨Ad, had, q7⟩ := cut_from g n n k hkn (Nat.le_refl _)
      have AD := Lib.hid had
      obtain ⟨h1, h104, _, _⟩ := deckB_parts hb
      rw [hn'] at h1 h104
      clear hb hn' had ha
      have HK0 : Hid (Kp Nw W W) := Lib.hid (Kp.refl _ _)
      go_enter Try.func38, Try.ntmps38
      go_wp2_with fail
      refine (isDeck_any (some ⟨g, 0, none⟩) n n xs _ (HRD.out.nw HK0.out) HN.out (by omega)).mono ?_
      rintro e w1 ⟨rfl, hk⟩
      rw [HB.out]
      have HK1 := Lib.hid (HK0.out.nw hk)
      clear hk
      go_wp2_with fail
      refine (within_yes (k : Int) 0 (n : Int) _ u0 u1).mono ?_
      rintro e w' ⟨rfl, rfl⟩
      go_wp2_with fail
      have h1' : 1 ≤ (n - k) + k := by omega
      go_region_law (first
        | (go_simp
           go_at_call 71
           refine (concat_two w1.heap.size 2 (some Ad) (some ⟨g, 0, none⟩) (n - k) (n - k) k n (xs.drop k) (xs.take k) _ (by simp) (by simp) (Rd.nw' (HSL.out.drop k hkn _ _ AD.out) (HK1.out.nw (.al _ _)).drew) (by rw [List.length_drop, HN.out]) (HSL.out.drop_vn _ _ _) (Rd.nw' (HSL.out.take k hkn) (HK1.out.nw (.al _ _)).drew) (by rw [List.length_take, HN.out]; omega) (HSL.out.take_vn k hkn _) h1' (by omega)).mono ?_
           rintro e w3 ⟨v3, rfl, hs3, hk3⟩
           have hk4 := (HK1.out.nw (.al _ _)).drew.nw hk3
           have hs4 : Sl w3 W.heap.size v3 (rot xs k) := hs3.from (HK1.out.nw (.al _ _)).drew.size)
        | fail)
      have HK3 := Lib.hid hk4
      have HS3 := Lib.hid hs4
      clear hs3 hk3 hk4 hs4
      go_wp2
      go_ret2
      exact ⟨_, rfl, HS3.out, HK3.out⟩
    · rw [if_neg (fun h => ha ⟨h.2.1, h.2.2⟩)]
      rw [hn'] at ha
      clear hb hn'
      have HK0 : Hid (Kp Nw W W) := Lib.hid (Kp.refl _ _)
      go_enter Try.func38, Try.ntmps38
      go_wp2_with fail
      refine (isDeck_any (some ⟨g, 0, none⟩) n n xs _ (HRD.out.nw HK0.out) HN.out (by omega)).mono ?_
      rintro e w1 ⟨rfl, hk⟩
      rw [HB.out]
      have HK1 := Lib.hid (HK0.out.nw hk)
      clear hk
      go_wp2_with fail
      refine (within_no a 0 (n : Int) _ (by omega)).mono ?_
      rintro e w' ⟨rfl, rfl⟩
      go_wp2
      go_ret2
      exact ⟨_, rfl, Sl.nil _ _, HK1.out⟩
  · rw [if_neg (fun h => hb h.1)]
    have HB := Lib.hid (show deckB xs = false by simpa using hb)
    clear hb hn'
    have HK0 : Hid (Kp Nw W W) := Lib.hid (Kp.refl _ _)
    go_enter Try.func38, Try.ntmps38
    go_wp2_with fail
    refine (isDeck_any (some ⟨g, 0, none⟩) n n xs _ (HRD.out.nw HK0.out) HN.out (by omega)).mono ?_
    rintro e w1 ⟨rfl, hk⟩
    rw [HB.out]
    have HK1 := Lib.hid (HK0.out.nw hk)
    clear hk
    go_wp2
    go_ret2
    exact ⟨_, rfl, Sl.nil _ _, HK1.out⟩
end Go.Proofs.Ytphjnhnochmniaa
