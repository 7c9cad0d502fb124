/- The model's text of a number (l1Num) is its decimal digits; no condition but that the number is at least 0 and at most a hundred million. -/
import Derived.Test.YtcekobdnghllcacDoorGoodS
import Derived.Laws.BytesString
import Derived.Laws.Concat
import Derived.Lib.ItoaNum
import Derived.Deep.RegionWith
namespace Go.Proofs.YtcekobdnghllcacDoor
open Go.ChangeShapes Go.WideShapes Go.ChangeAt Go.RowKit

theorem conv_one (b : Int) (w : World) (g : Nat) (hc : w.cell? ⟨g, 0, none⟩ = some (.int .u8 b)) :
    (convert 59 9 (.slice (some ⟨g, 0, none⟩) 1 1)).run Tryd.prog w = .ok (.string ⟨#[UInt8.ofNat b.toNat]⟩) w := by
  rw [run_convert_bytes_string w _ _ _ _ _ _ Tryd.underlying59 Tryd.underlying5 Tryd.underlying9]
  rw [run_bytesToString w ⟨g, 0, none⟩ 1 1 [b] (by simp [go_sem, hc])]
  rfl

theorem ret_string {a b : ByteArray} (h : a = b) : Ending.returned (.string a) = .returned (.string b) := by rw [h]

set_option maxRecDepth 100000 in
theorem l1Num_small (n : Nat) (W : World) (h : n < 10) :
    Calls Tryd.prog 27 #[.int .i64 n] W fun e w' => e = .returned (.string ⟨(Lib.decDigits n).toArray⟩) ∧ Kp Nw W w' := by
  have h0 : (0 : Int) ≤ n := Int.natCast_nonneg _
  have h1 : (n : Int) < 10 := by omega
  have hcv := conv_one (48 + (n : Int))
  have HD : Hid (Lib.decDigits n = [UInt8.ofNat (48 + (n : Int)).toNat]) := Lib.hid (by rw [Lib.decDigits_one h]; congr 2)
  rw [HD.out]
  go_enter Tryd.func27, Tryd.ntmps27
  go_wp2
  go_ret
  exact ⟨rfl, Kp.al _ _⟩

theorem digits_length (n : Nat) (h : n ≤ 100000000) : (Lib.decDigits n).length ≤ 20 := by
  have key : ∀ (k n : Nat), n < 10 ^ (k + 1) → (Lib.decDigits n).length ≤ k + 1 := by
    intro k
    induction k with
    | zero =>
      intro n hn
      rw [Lib.decDigits_one (by simpa using hn)]
      simp
    | succ k ih =>
      intro n hn
      by_cases h10 : n < 10
      · rw [Lib.decDigits_one h10]; simp
      · rw [Lib.decDigits, dif_neg h10, List.length_append]
        have := ih (n / 10) (by rw [Nat.div_lt_iff_lt_mul (by omega)]; rw [Nat.pow_succ] at hn; exact hn)
        simp only [List.length_cons, List.length_nil]
        omega
  have := key 9 n (by omega)
  omega

set_option maxRecDepth 100000 in
set_option maxHeartbeats 1600000 in
theorem l1Num_any (k : Nat) : ∀ (n : Nat) (W : World), n < k → n ≤ 100000000 →
    Calls Tryd.prog 27 #[.int .i64 n] W fun e w' => e = .returned (.string ⟨(Lib.decDigits n).toArray⟩) ∧ Kp Nw W w' := by
  induction k with
  | zero => intro n W h; omega
  | succ k ih =>
    intro n W hk hn
    by_cases h10 : n < 10
    · exact l1Num_small n W h10
    · have HI := Lib.hid (fun W => ih (n / 10) W (by omega) (by omega))
      clear ih
      have h0 : (0 : Int) ≤ n := Int.natCast_nonneg _
      have h1 : (10 : Int) ≤ n := by omega
      obtain ⟨d, hd⟩ : ∃ d : Nat, n % 10 = d := ⟨_, rfl⟩
      obtain ⟨q, hq⟩ : ∃ q : Nat, n / 10 = q := ⟨_, rfl⟩
      have hd9 : d < 10 := by omega
      have hl := digits_length q (by omega)
      have HD : Hid (Lib.decDigits n = Lib.decDigits q ++ [UInt8.ofNat (48 + (d : Int)).toNat]) := Lib.hid (by
        rw [Lib.decDigits, dif_neg h10, hq, hd]; congr 3)
      rw [HD.out]
      rw [hq] at HI
      obtain ⟨ls, hls⟩ : ∃ ls, Lib.decDigits q = ls := ⟨_, rfl⟩
      obtain ⟨c, hc⟩ : ∃ c, UInt8.ofNat (48 + (d : Int)).toNat = c := ⟨_, rfl⟩
      rw [hls] at HI hl ⊢
      have hcv := conv_one (48 + (d : Int))
      rw [hc] at hcv ⊢
      have hs1 : ¬ (9223372036854775807 : Nat) < ls.length + 1 := by omega
      have e1 : (n : Int) / 10 = (q : Int) := by omega
      have e2 : (n : Int) % 10 = (d : Int) := by omega
      have e3 : (n : Int).tmod 10 = (d : Int) := by rw [Int.tmod_eq_emod_of_nonneg h0]; exact e2
      have e4 : (n : Int).tdiv 10 = (q : Int) := by rw [Int.tdiv_eq_ediv_of_nonneg h0]; exact e1
      have w1 : IntKind.i64.wrap (q : Int) = q := IntWalk.i64_in _ (by omega)
      have w2 : IntKind.i64.wrap (d : Int) = d := IntWalk.i64_in _ (by omega)
      have w3 : IntKind.i64.wrap (48 + (d : Int)) = 48 + d := IntWalk.i64_in _ (by omega)
      have w4 : IntKind.u8.wrap (48 + (d : Int)) = 48 + d := by simp [IntKind.wrap, IntKind.signed, IntKind.bits]; omega
      clear hd hq hls h10 hk hc
      go_enter Tryd.func27, Tryd.ntmps27
      go_wp2_with fail
      go_region_with (first
          | (go_at_call 27
             refine (HI.out _).mono ?_
             rintro e w1 ⟨rfl, hk1⟩
             obtain ⟨hcc, hff⟩ := bcell hk1)
          | fail)
      all_goals go_wp2
      all_goals go_ret
      all_goals refine ⟨ret_string (ByteArray.mk_append_mk ls [c]), ?_⟩
      all_goals first
        | exact ((Kp.refl Nw W).alloc _).drew.nw hk1
        | exact ((Kp.refl Nw W).drew.nw hk1).alloc _
        | exact ((Kp.refl Nw W).drew.alloc _).nw hk1
        | exact (((Kp.refl Nw W).drew.nw hk1).alloc _).drew
        | exact ((((Kp.refl Nw W).alloc _).drew).nw hk1).drew
end Go.Proofs.YtcekobdnghllcacDoor
