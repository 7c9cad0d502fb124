/- The law of TwoCount returns true at all arguments, given what the program and the model return; no other condition. -/
import Derived.Test.YtjlbillfbhkamaaSS
import Derived.Test.YtjlbillfbhkamaaTwoF
namespace Go.Proofs.Ytjlbillfbhkamaa
open Go.ChangeShapes Go.WideShapes Go.ChangeAt Go.RowKit

theorem offS_le (xss : List (List Int)) (c : Nat) (h : ∀ xs ∈ xss, xs.length ≤ c) : ∀ j, j ≤ xss.length → offS xss j ≤ j * c
  | 0, _ => by simp [offS]
  | j + 1, hj => by
    have h1 := offS_le xss c h j (by omega)
    rw [offS_succ xss j (by omega)]
    have h2 : xss.getD j [] ∈ xss := by
      have : xss.getD j [] = xss[j]'(by omega) := by simp [List.getD, show j < xss.length by omega]
      rw [this]; exact List.getElem_mem _
    have h3 := h _ h2
    have h4 : (j + 1) * c = j * c + c := Nat.succ_mul j c
    omega

set_option maxHeartbeats 3200000 in
set_option maxRecDepth 100000 in
theorem lawTwoCount_of (p : Int) (f : Int) (b : Int) (xss : List (List Int)) (q : Bool) (W : World) (hl : xss.length ≤ 1000) (hl2 : ∀ xs ∈ xss, xs.length ≤ 1000)
    (hS : Hid (∀ (W : World), Calls Try.prog 9 #[.int .i64 p, .int .i64 f, .int .i64 b] W (ListSB W xss q))) (hI : Hid (∀ (W : World), Calls Try.prog 10 #[.int .i64 p, .int .i64 f, .int .i64 b] W (ListSB W xss q))) :
    Calls Try.prog 3 #[.int .i64 p, .int .i64 f, .int .i64 b] W fun e w' => e = .returned (.bool true) ∧ Kp Nw W w' := by
  obtain ⟨n, hn⟩ : ∃ n, xss.length = n := ⟨_, rfl⟩
  have hoff := offS_le xss 1000 hl2
  have HB : Hid (∀ j, j < n → (1 : Int) + offS xss j ≤ 1000000000 ∧ (xss.getD j []).length ≤ 1000000000) := Lib.hid (fun j hj => by
    have h1 := hoff j (by omega)
    have h3 : j * 1000 ≤ 1000000 := by omega
    refine ⟨by omega, ?_⟩
    have h2 : xss.getD j [] ∈ xss := by
      have : xss.getD j [] = xss[j]'(by omega) := by simp [List.getD, show j < xss.length by omega]
      rw [this]; exact List.getElem_mem _
    have := hl2 _ h2
    omega)
  have HTOT : Hid ((1 : Int) + offS xss n ≤ 1000000000) := Lib.hid (by have h1 := hoff n (by omega); omega)
  have HL2 : Hid (∀ xs ∈ xss, xs.length ≤ 1000000) := Lib.hid (fun xs h => by have := hl2 xs h; omega)
  obtain ⟨t, ht⟩ : ∃ t : Int, (1 : Int) + offS xss n = t := ⟨_, rfl⟩
  have t1 : 1 ≤ t := by omega
  have tn : ¬ t < 0 := by omega
  have HTT := Lib.hid ht
  have HN := Lib.hid hn
  have hln : n ≤ 1000 := by omega
  clear hn hoff ht hl hl2
  have HK := Lib.hid (Kp.refl Nw W)
  go_enter Try.func3, Try.ntmps3
  go_wp2_with fail
  refine (hS.out _).mono ?_
  rintro e w1 ⟨v1, rfl, hs1, hk1⟩
  obtain ⟨A1, c1, rfl⟩ := hs1.val HN.out
  have z1 : W.heap.size ≤ w1.heap.size := hk1.size
  have HK := Lib.hid (HK.out.nw hk1)
  have HV1 := Lib.hid hs1
  clear hs1 hk1
  go_wp2_with fail
  refine (hI.out _).mono ?_
  rintro e w2 ⟨v2, rfl, hs2, hk2⟩
  obtain ⟨A2, c2, rfl⟩ := hs2.val HN.out
  have z2 : w1.heap.size ≤ w2.heap.size := hk2.size
  have HV1 := Lib.hid (HV1.out.nw hk2)
  have HK := Lib.hid (HK.out.nw hk2)
  have HV2 := Lib.hid hs2
  clear hs2 hk2
  go_wp2_with fail
  refine (eqIntSS_same _ _ _ _ _ _ xss _ HV2.out HV1.out (by rw [HN.out]; omega) HL2.out).mono ?_
  rintro e w3 ⟨rfl, hk3⟩
  have z3 : w2.heap.size ≤ w3.heap.size := hk3.size
  have HV1 := Lib.hid (HV1.out.nw hk3)
  have HV2 := Lib.hid (HV2.out.nw hk3)
  have HK := Lib.hid (HK.out.nw hk3)
  clear hk3
  go_wp2_with fail
  refine (markIntSS_any _ w1.heap.size w2.heap.size n xss 1 _ HV2.out HN.out (by omega) HTOT.out (by omega) HB.out).mono ?_
  rw [HTT.out]
  rintro e w4 ⟨rfl, hs4, hk4⟩
  have z4 : w3.heap.size ≤ w4.heap.size := hk4.size
  have HV1 := Lib.hid (HV1.out.kp hk4 (fun g _ _ h => by omega))
  have HK := Lib.hid (HK.out.after hk4 (fun g hg h => by omega))
  have HV2 := Lib.hid hs4
  clear hs4 hk4
  go_wp2_with fail
  refine (heldIntSS_any _ w1.heap.size w2.heap.size n xss 1 _ HV2.out HN.out (by omega) (by omega) HB.out).mono ?_
  rw [HTT.out]
  rintro e w5 ⟨rfl, rfl⟩
  go_wp2_with fail
  refine (hI.out _).mono ?_
  rintro e w6 ⟨v6, rfl, hs6, hk6⟩
  obtain ⟨A6, c6, rfl⟩ := hs6.val HN.out
  have z6 : w4.heap.size ≤ w6.heap.size := hk6.size
  have HV1 := Lib.hid (HV1.out.nw hk6)
  have HV2 := Lib.hid (HV2.out.nw hk6)
  have HK := Lib.hid (HK.out.nw hk6)
  have HV6 := Lib.hid hs6
  clear hs6 hk6
  go_wp2_with fail
  refine (eqIntSS_same _ _ _ _ _ _ xss _ HV6.out HV1.out (by rw [HN.out]; omega) HL2.out).mono ?_
  rintro e w7 ⟨rfl, hk7⟩
  have z7 : w6.heap.size ≤ w7.heap.size := hk7.size
  have HV1 := Lib.hid (HV1.out.nw hk7)
  have HV2 := Lib.hid (HV2.out.nw hk7)
  have HV6 := Lib.hid (HV6.out.nw hk7)
  have HK := Lib.hid (HK.out.nw hk7)
  clear hk7
  go_wp2_with fail
  refine (heldIntSS_any _ w1.heap.size w2.heap.size n xss 1 _ HV2.out HN.out (by omega) (by omega) HB.out).mono ?_
  rw [HTT.out]
  rintro e wl ⟨rfl, rfl⟩
  go_wp2
  go_ret
  exact ⟨rfl, HK.out⟩

set_option maxRecDepth 100000 in
theorem lawTwoCount_gen (p f b : Int) (W : World) (hs : ∀ (n : Nat) (W : World), Asked (n : Int) f → Asked (n : Int) b → Calls Try.prog 9 #[.int .i64 n, .int .i64 f, .int .i64 b] W (ListSB W ((rsN n f b).map peo) true))
    (hn : ∀ (W : World), ¬ (Asked p f ∧ Asked p b) → Calls Try.prog 9 #[.int .i64 p, .int .i64 f, .int .i64 b] W (ListSB W [] false)) :
    Calls Try.prog 3 #[.int .i64 p, .int .i64 f, .int .i64 b] W fun e w' => e = .returned (.bool true) ∧ Kp Nw W w' := by
  by_cases h : Asked p f ∧ Asked p b
  · obtain ⟨n, rfl⟩ : ∃ n : Nat, p = n := ⟨p.toNat, by have := h.1.p1; omega⟩
    refine lawTwoCount_of (n : Int) f b _ _ W (by rw [List.length_map]; have h2 := rsN_len n f b; have h3 := h.1.p2; omega) (fun xs hx => ?_) (Lib.hid fun W => hs n W h.1 h.2) (Lib.hid fun W => iTwoCount_yes n f b W h.1 h.2)
    obtain ⟨r, _, rfl⟩ := List.mem_map.1 hx
    have := peo_len r
    omega
  · exact lawTwoCount_of p f b _ _ W (Nat.zero_le _) (fun xs hx => by cases hx) (Lib.hid fun W => hn W h) (Lib.hid fun W => iTwoCount_no p f b W h)
end Go.Proofs.Ytjlbillfbhkamaa
