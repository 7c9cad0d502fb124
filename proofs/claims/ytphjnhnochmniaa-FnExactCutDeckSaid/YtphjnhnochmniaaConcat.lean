/- slices.Grow of an empty list and slices.Concat of two lists in the program; no condition but on lengths. -/
import Derived.Test.YtphjnhnochmniaaPileC
import Derived.Lib.AppendZeros
namespace Go.Proofs.Ytphjnhnochmniaa
open Go.ChangeShapes Go.WideShapes Go.ChangeAt Go.RowKit

theorem run_zeros (w : World) (ty : TypeId) (n : Nat) (h1 : 1 ≤ n) (hl : n ≤ 1000000) :
    ∃ cap w', (Builtin.append_ #[22, 3] ty #[.slice none 0 0, .int .i64 n]).run Try.prog w = .ok (.slice (some ⟨w.heap.size, 0, none⟩) n cap) w' ∧ n ≤ cap ∧ cap ≤ maxLen ∧ Sl w' w.heap.size (.slice (some ⟨w.heap.size, 0, none⟩) 0 cap) [] ∧ Kp Nw w w' := by
  obtain ⟨i0, hi0, hz0, hz1, hz2⟩ := info_parts intInfo
  have hr := Go.Lib.run_append_nil_zeros (P := Try.prog) w 22 3 ty 3 i0 (.int .i64 0) .i64 .i64 Try.underlying22 Try.underlying3 hi0 hz0 n h1 (by omega) (by omega) (by rw [hz2]; omega)
  have hge := grownCap_ge w n 0 3
  have hle := grownCap_le_maxLen w n 0 3 (by unfold maxLen; omega)
  refine ⟨_, _, hr, hge, hle, ?_, (Kp.refl Nw w).drew.nw (.al _ _)⟩
  refine ⟨by simp, .inr ⟨w.heap.size, _, _, rfl, Nat.le_refl _, heap_alloc_new w.drew _, Nat.zero_le _, hle, ?_, by simp⟩⟩
  simp [Builtin.zeroCells, Value.cells]
  omega

set_option maxHeartbeats 1600000 in
theorem grow_nil (n : Nat) (W : World) (h1 : 1 ≤ n) (hl : n ≤ 1000000) : Calls Try.prog 85 #[.slice none 0 0, .int .i64 n] W (Makes W []) := by
  have n0 : (0 : Int) < n := by omega
  have n1 : (n : Int) ≤ 1000000 := by omega
  obtain ⟨cap, w1, hr, hc1, hc2, hs, hk⟩ := run_zeros W 22 n h1 hl
  have q := cut_to W.heap.size n cap 0 (Nat.zero_le _)
  have HS := Lib.hid hs
  have HK := Lib.hid hk
  clear hs hk
  go_enter Try.func85, Try.ntmps85
  go_wp2_with (first | (at_builtin; refine Go.Lib.wpList_append_run W rfl (.tmp 20) (.tmp 21) 22 3 rfl (.slice none 0 0) (.int .i64 n) rfl rfl (.slice (some ⟨W.heap.size, 0, none⟩) n cap) w1 hr ?_))
  go_wp2
  go_ret
  exact ⟨_, rfl, HS.out, HK.out⟩

set_option maxRecDepth 100000 in
set_option maxHeartbeats 3200000 in
theorem concat_two (b c : Nat) (A1 A2 : Option Addr) (n1 c1 n2 c2 : Nat) (xs ys : List Int) (W : World) (h0 : W.cell? ⟨b, 0, none⟩ = some (.slice A1 n1 c1)) (h1 : W.cell? ⟨b, 1, none⟩ = some (.slice A2 n2 c2))
    (r1 : Rd W (.slice A1 n1 c1) xs) (e1 : xs.length = n1) (v1 : Vn (.slice A1 n1 c1) xs) (r2 : Rd W (.slice A2 n2 c2) ys) (e2 : ys.length = n2) (v2 : Vn (.slice A2 n2 c2) ys) (hp : 1 ≤ n1 + n2) (hl : n1 + n2 ≤ 1000000) :
    Calls Try.prog 71 #[.slice (some ⟨b, 0, none⟩) 2 c] W (Makes W (xs ++ ys)) := by
  have R1 := Lib.hid r1
  have R2 := Lib.hid r2
  have E1 := Lib.hid e1
  have E2 := Lib.hid e2
  have V1 := Lib.hid v1
  have V2 := Lib.hid v2
  have H0 := Lib.hid h0
  have H1 := Lib.hid h1
  have a0 : (0 : Int) ≤ n1 := Int.natCast_nonneg _
  have b0 : (0 : Int) ≤ n2 := Int.natCast_nonneg _
  have hs1 : IntKind.i64.wrap ((n1 : Int) + n2) = ((n1 + n2 : Nat) : Int) := by rw [IntWalk.i64_in _ (by omega)]; omega
  have hs2 : IntKind.i64.wrap (0 + (n1 : Int)) = (n1 : Int) := by rw [IntWalk.i64_in _ (by omega)]; omega
  have k0 : ¬ (n1 : Int) < 0 := by omega
  have k1 : ¬ ((n1 + n2 : Nat) : Int) < 0 := by omega
  clear r1 r2 e1 e2 v1 v2 h0 h1
  go_enter Try.func71, Try.ntmps71
  go_wp2
  go_loopw [3, 11] (fun a i wr => ∃ j : Nat, j ≤ 2 ∧ i = .int .i64 j ∧ a = .int .i64 ((if j = 0 then 0 else if j = 1 then n1 else n1 + n2 : Nat) : Int) ∧ Kp Nw W wr) (fun _ i _ => 2 - (intOf i).toNat)
  case atStart => exact ⟨0, by omega, rfl, rfl, Kp.refl _ _⟩
  case round =>
    obtain ⟨j, hj, rfl, rfl, hk⟩ := hrel
    have HK := Lib.hid hk
    have c0 := keepc hk H0.out (fun h => h)
    have c1 := keepc hk H1.out (fun h => h)
    clear hk
    match j, hj with
    | 0, _ =>
      go_wp2
      go_roundw
      case rel => exact ⟨1, by omega, rfl, rfl, HK.out⟩
      case measure => simp [intOf]
    | 1, _ =>
      go_wp2
      go_roundw
      case rel => exact ⟨2, by omega, rfl, rfl, HK.out⟩
      case measure => simp [intOf]
    | 2, _ =>
      go_wp2_with fail
      refine (grow_nil (n1 + n2) _ hp hl).mono ?_
      rintro e w1 ⟨v, rfl, hs, hk⟩
      have HS : Hid (Sl w1 W.heap.size v []) := Lib.hid (hs.from HK.out.size)
      have HK1 := Lib.hid (HK.out.nw hk)
      clear hs hk c0 c1
      go_wp2
      go_loopw [6, 27] (fun s i wr => ∃ (j : Nat) (v : Value), j ≤ 2 ∧ i = .int .i64 j ∧ v = s ∧ Sl wr W.heap.size v (if j = 0 then [] else if j = 1 then xs else xs ++ ys) ∧ Kp Nw W wr) (fun _ i _ => 2 - (intOf i).toNat)
      case atStart => exact ⟨0, v, by omega, rfl, rfl, HS.out, HK1.out⟩
      case round =>
        obtain ⟨j, v, hj, rfl, rfl, hs, hk⟩ := hrel
        rename_i wr
        have HKW := Lib.hid hk
        have HSW := Lib.hid hs
        have c0 := keepc hk H0.out (fun h => h)
        have c1 := keepc hk H1.out (fun h => h)
        clear hs hk
        match j, hj with
        | 0, _ =>
          go_wp2_with (first | (at_builtin; refine wpList_app _ rfl (.tmp 31) (.tmp 32) rfl W.heap.size _ _ [] xs rfl rfl HSW.out (R1.out.nw' HKW.out) V1.out (by have := E1.out; simp; omega) HKW.out.size ?_))
          intro v' w2 hs2 hk2 _
          have HS2 := Lib.hid hs2
          have HK2 := Lib.hid (HKW.out.own HSW.out hk2)
          clear hs2 hk2
          go_wp2
          go_roundw
          case rel => exact ⟨1, _, by omega, rfl, rfl, HS2.out, HK2.out⟩
          case measure => simp [intOf]
        | 1, _ =>
          go_wp2_with (first | (at_builtin; refine wpList_app _ rfl (.tmp 31) (.tmp 32) rfl W.heap.size _ _ xs ys rfl rfl HSW.out (R2.out.nw' HKW.out) V2.out (by have := E1.out; have := E2.out; omega) HKW.out.size ?_))
          intro v' w2 hs2 hk2 _
          have HS2 := Lib.hid hs2
          have HK2 := Lib.hid (HKW.out.own HSW.out hk2)
          clear hs2 hk2
          go_wp2
          go_roundw
          case rel => exact ⟨2, _, by omega, rfl, rfl, HS2.out, HK2.out⟩
          case measure => simp [intOf]
        | 2, _ =>
          go_wp2
          go_ret
          exact ⟨_, rfl, HSW.out, HKW.out⟩
end Go.Proofs.Ytphjnhnochmniaa
