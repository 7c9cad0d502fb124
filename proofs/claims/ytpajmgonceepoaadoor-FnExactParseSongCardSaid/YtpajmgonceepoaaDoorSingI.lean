/- Songs in the program: counting out by one, the order out, the last one; whether there is a song; no condition but that there are a song and people. -/
import Derived.Test.YtpajmgonceepoaaDoorSing
namespace Go.Proofs.YtpajmgonceepoaaDoor
open Go.ChangeShapes Go.WideShapes Go.ChangeAt Go.RowKit Go.Conc

theorem sgB_of {xs : List Int} (h1 : 1 ≤ xs.length) (h2 : xs.length ≤ 20) (h : ∀ j, j < xs.length → 1 ≤ xs.getD j 0 ∧ xs.getD j 0 ≤ 1000000) : sgB xs = true := by
  unfold sgB
  rw [Bool.and_eq_true]
  refine ⟨decide_eq_true ⟨h1, h2⟩, List.all_eq_true.2 fun x hx => ?_⟩
  obtain ⟨i, hi, rfl⟩ := List.getElem_of_mem hx
  have := h i hi
  simp [List.getD, hi] at this
  simp [okR]
  exact this

set_option maxHeartbeats 1600000 in
theorem iIsSong_is (A : Option Addr) (n c : Nat) (xs : List Int) (W : World) (hu : Rd W (.slice A n c) xs) (hn : xs.length = n) (hl : n ≤ 2000000) :
    Calls Tryd.prog 18 #[.agg #[.slice A n c]] W (BoolB W (sgB xs)) := by
  by_cases hlen : (n : Int) < 1 ∨ 20 < (n : Int)
  · have HF : Hid (sgB xs = false) := Lib.hid (by unfold sgB; rw [decide_eq_false (by omega)]; rfl)
    go_enter Tryd.func18, Tryd.ntmps18
    go_wp2_with (first | ((with_reducible refine (within_no (n : Int) _ _ _ hlen).mono ?_); rintro e w' ⟨rfl, rfl⟩))
    go_ret
    exact ⟨ret_bool HF.out.symm, Kp.al _ _⟩
  · have n1 : 1 ≤ (n : Int) := by omega
    have n2 : (n : Int) ≤ 20 := by omega
    clear hlen
    have HN := Lib.hid hn
    obtain ⟨A', c', e', hA⟩ := hu
    rw [hn] at e'
    injection e' with e1 e2 e3
    subst e1 e3
    obtain ⟨g, o, rfl, -⟩ := hA 0 (by omega)
    have HA : Hid (∀ i, i < n → W.cell? ⟨g, o + i, none⟩ = some (.int .i64 (xs.getD i 0))) := Lib.hid (fun i hi => by
      obtain ⟨g', o', e, hc⟩ := hA i (by omega)
      injection e with e
      injection e with e1 e2
      rw [e1, e2]; exact hc)
    clear hA hn
    go_enter Tryd.func18, Tryd.ntmps18
    go_wp2_with (first | ((with_reducible refine (within_yes (n : Int) _ _ _ n1 n2).mono ?_); rintro e w' ⟨rfl, rfl⟩))
    go_loopw [13] (fun i wr => ∃ j : Nat, j ≤ n ∧ i = .int .i64 j ∧ Hid (∀ q, q < j → 1 ≤ xs.getD q 0 ∧ xs.getD q 0 ≤ 1000000) ∧ wr = (W.alloc (.cells #[.slice (some ⟨g, o, none⟩) n c] 28))) (fun i _ => n - (intOf i).toNat)
    case atStart => exact ⟨0, Nat.zero_le _, rfl, Lib.hid (fun q hq => absurd hq (by omega)), by first | trivial | rfl⟩
    case round =>
      rename_i wr
      obtain ⟨j, hj, rfl, HALL, hwr⟩ := hrel
      subst hwr
      by_cases hp : j < n
      · obtain ⟨x, hx⟩ : ∃ x, xs.getD j 0 = x := ⟨_, rfl⟩
        have hc := keepc (.al W (.cells #[.slice (some ⟨g, o, none⟩) n c] 28)) (HA.out j hp) (fun h => h)
        rw [hx] at hc
        have HX := Lib.hid hx
        have j0 : (0 : Int) ≤ j := Int.natCast_nonneg _
        have j1 : (j : Int) < n := by omega
        clear hx
        by_cases hok : 1 ≤ x ∧ x ≤ 1000000
        · obtain ⟨x1, x2⟩ := hok
          go_wp2_with (first | ((with_reducible refine (within_yes x _ _ _ x1 x2).mono ?_); rintro e w' ⟨rfl, rfl⟩))
          go_roundw
          case rel =>
            refine ⟨j + 1, by omega, by go_num, Lib.hid (fun q hq => ?_), by first | trivial | rfl⟩
            by_cases h : q < j
            · exact HALL.out q h
            · have e : q = j := by omega
              subst e
              rw [HX.out]
              exact ⟨x1, x2⟩
          case measure => simp [intOf]; omega
        · have HF : Hid (sgB xs = false) := Lib.hid (by
            cases h : sgB xs with
            | false => rfl
            | true =>
              have := sgB_get h j (by rw [HN.out]; exact hp)
              rw [HX.out] at this
              exact absurd this hok)
          have hno : x < 1 ∨ 1000000 < x := by omega
          clear hok
          go_wp2_with (first | ((with_reducible refine (within_no x _ _ _ hno).mono ?_); rintro e w' ⟨rfl, rfl⟩))
          go_ret
          exact ⟨ret_bool HF.out.symm, Kp.al _ _⟩
      · have e : j = n := by omega
        subst e
        have HT : Hid (sgB xs = true) := Lib.hid (sgB_of (by have := HN.out; omega) (by have := HN.out; omega) (fun q hq => HALL.out q (by rw [HN.out] at hq; exact hq)))
        go_wp2
        go_ret
        exact ⟨ret_bool HT.out.symm, Kp.al _ _⟩

end Go.Proofs.YtpajmgonceepoaaDoor
