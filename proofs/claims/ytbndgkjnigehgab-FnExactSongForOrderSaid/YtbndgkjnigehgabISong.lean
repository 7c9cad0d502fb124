/- Songs in the program: the order out, the last one, the turn of a person, who is left, two songs compared; no condition. -/
import Derived.Test.YtbndgkjnigehgabSingI
import Derived.Test.YtbndgkjnigehgabSoM
namespace Go.Proofs.Ytbndgkjnigehgab
open Go.ChangeShapes Go.WideShapes Go.ChangeAt Go.RowKit
set_option maxHeartbeats 1600000 in
/-- two lists are the same -/
theorem equal_any (u v : Value) (xs ys : List Int) (W : World) (hu : Rd W u xs) (hv : Rd W v ys) (hl : xs.length ≤ 1000) (hl2 : ys.length ≤ 1000) :
    Calls Try.prog 22 #[u, v] W fun e w' => e = .returned (.bool (decide (xs = ys))) ∧ Kp Nw W w' := by
  obtain ⟨n, hn⟩ : ∃ n, xs.length = n := ⟨_, rfl⟩
  obtain ⟨m, hm⟩ : ∃ m, ys.length = m := ⟨_, rfl⟩
  obtain ⟨A, c, rfl, hA⟩ := hu
  obtain ⟨B, d, rfl, hB⟩ := hv
  rw [hn] at hl ⊢
  rw [hm] at hl2 ⊢
  have HN := Lib.hid hn
  have HM := Lib.hid hm
  have HA := Lib.hid hA
  have HB := Lib.hid hB
  clear hn hm hA hB
  by_cases e : n = m
  · subst e
    go_enter Try.func22, Try.ntmps22
    go_wp2
    go_loopw [13] (fun i9 wr => ∃ j : Nat, j ≤ n ∧ i9 = .int .i64 j ∧ Hid (xs.take j = ys.take j) ∧ Hid (Kp Nw W wr)) (fun i9 _ => n - (intOf i9).toNat)
    case atStart => exact ⟨0, Nat.zero_le _, rfl, Lib.hid (by simp), Lib.hid (Kp.refl _ _)⟩
    case round =>
      rename_i wr
      obtain ⟨j, hj, rfl, HE, HK⟩ := hrel
      have j0 : (0 : Int) ≤ j := Int.natCast_nonneg _
      by_cases hp : j < n
      · obtain ⟨g1, o1, rfl, c1⟩ := HA.out j (by rw [HN.out]; exact hp)
        obtain ⟨g2, o2, rfl, c2⟩ := HB.out j (by rw [HM.out]; exact hp)
        have hjx : j < xs.length := by rw [HN.out]; exact hp
        have hjy : j < ys.length := by rw [HM.out]; exact hp
        obtain ⟨x, hx⟩ : ∃ x, xs.getD j 0 = x := ⟨_, rfl⟩
        obtain ⟨y, hy⟩ : ∃ y, ys.getD j 0 = y := ⟨_, rfl⟩
        have hx2 : xs[j] = x := by rw [← hx]; simp [List.getD, hjx]
        have hy2 : ys[j] = y := by rw [← hy]; simp [List.getD, hjy]
        have d1 := keepc HK.out c1 (fun h => h)
        have d2 := keepc HK.out c2 (fun h => h)
        rw [hx] at d1
        rw [hy] at d2
        have jn : (j : Int) < n := by omega
        have HTX : Hid (xs.take (j + 1) = xs.take j ++ [x]) := Lib.hid (by rw [List.take_succ_eq_append_getElem hjx, hx2])
        have HTY : Hid (ys.take (j + 1) = ys.take j ++ [y]) := Lib.hid (by rw [List.take_succ_eq_append_getElem hjy, hy2])
        clear hx hy hx2 hy2 hjx hjy c1 c2
        by_cases hxy : x = y
        · subst hxy
          go_wp2_with fail
          go_quiet (fail)
          go_wp2
          go_roundw
          case rel => exact ⟨j + 1, by omega, by go_num, Lib.hid (by rw [HTX.out, HTY.out, HE.out]), Lib.hid (HK.out.drewN _)⟩
          case measure => simp [intOf] <;> omega
        · have hne : (x != y) = true := by simp [hxy]
          have HF : Hid (decide (xs = ys) = false) := Lib.hid (decide_eq_false (fun h => hxy (by
            have h1 := HTX.out
            rw [h, HTY.out] at h1
            have h2 := List.append_inj_right' h1 rfl
            simpa using h2.symm)))
          go_wp2_with fail
          go_quiet (fail)
          go_wp2
          go_ret
          exact ⟨ret_bool HF.out.symm, HK.out.drewN _⟩
      · have e : j = n := by omega
        subst e
        have HF : Hid (decide (xs = ys) = true) := Lib.hid (decide_eq_true (by
          have h := HE.out
          rwa [List.take_of_length_le (by rw [HN.out]; exact Nat.le_refl _), List.take_of_length_le (by rw [HM.out]; exact Nat.le_refl _)] at h))
        go_wp2
        go_ret
        exact ⟨ret_bool HF.out.symm, HK.out⟩
  · have HF : Hid (decide (xs = ys) = false) := Lib.hid (decide_eq_false (fun h => e (by rw [← HN.out, ← HM.out, h])))
    have e1 : ¬ (n : Int) = m := by omega
    have e2 : ((n : Int) != m) = true := by simp; omega
    go_enter Try.func22, Try.ntmps22
    go_wp2
    go_ret
    exact ⟨ret_bool HF.out.symm, Kp.refl _ _⟩


end Go.Proofs.Ytbndgkjnigehgab
