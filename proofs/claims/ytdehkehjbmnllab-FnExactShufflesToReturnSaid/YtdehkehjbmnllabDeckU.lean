/- The model's shuffles (MilkDeck, MongeDeck, BackDeck); no condition but what the chapter asks. -/
import Derived.Test.YtdehkehjbmnllabDeckT
namespace Go.Proofs.Ytdehkehjbmnllab
open Go.ChangeShapes Go.WideShapes Go.ChangeAt Go.RowKit

/-- the top and the bottom card together, j times -/
def milkN (xs : List Int) : Nat → List Int
  | 0 => []
  | j + 1 => xs.getD j 0 :: xs.getD (xs.length - 1 - j) 0 :: milkN xs j
theorem milkN_length (xs : List Int) : ∀ j, (milkN xs j).length = 2 * j
  | 0 => rfl
  | j + 1 => by simp [milkN, milkN_length xs j]; omega
def milk (xs : List Int) : List Int := if xs.length % 2 = 1 then xs.getD (xs.length / 2) 0 :: milkN xs (xs.length / 2) else milkN xs (xs.length / 2)
theorem milk_length (xs : List Int) : (milk xs).length = xs.length := by
  unfold milk
  split
  · rw [List.length_cons, milkN_length]; omega
  · rw [milkN_length]; omega
/-- one on top, the next one under -/
def monN (xs : List Int) : Nat → List Int
  | 0 => []
  | j + 1 => if j % 2 = 1 then xs.getD j 0 :: monN xs j else monN xs j ++ [xs.getD j 0]
theorem monN_length (xs : List Int) : ∀ j, (monN xs j).length = j
  | 0 => rfl
  | j + 1 => by
    rw [monN]
    split
    · rw [List.length_cons, monN_length xs j]
    · rw [List.length_append, monN_length xs j]; rfl
def monge (xs : List Int) : List Int := monN xs xs.length

theorem Sl.dr {w : World} {B : Nat} {v : Value} {xs : List Int} (h : Sl w B v xs) : Sl w.drew B v xs := h

set_option maxRecDepth 100000 in
set_option maxHeartbeats 3200000 in
theorem caMilk_any (A : Option Addr) (n c : Nat) (xs : List Int) (W : World) (hu : Rd W (.slice A n c) xs) (hn : xs.length = n) (hp : 1 ≤ n) (hl : n ≤ 1000) :
    Calls Try.prog 20 #[.slice A n c] W (Makes W (milk xs)) := by
  obtain ⟨A', c', hAc, hA⟩ := id hu
  have eA : A = A' := by injection hAc
  subst eA
  obtain ⟨g0, o0, rfl, _⟩ := hA 0 (by omega)
  have hA2 : ∀ k, k < n → W.cell? ⟨g0, o0 + k, none⟩ = some (.int .i64 (xs.getD k 0)) := fun k hk => by
    obtain ⟨g, o, e, hc⟩ := hA k (by omega)
    injection e with e
    injection e with e1 e2
    subst e1 e2
    exact hc
  have HA := Lib.hid hA2
  have HN := Lib.hid hn
  have n0 : (0 : Int) ≤ n := Int.natCast_nonneg _
  have q0 : IntKind.i64.wrap ((n : Int) - 1) = (n : Int) - 1 := IntWalk.i64_in _ (by omega)
  clear hu hn hA hAc hA2
  go_enter Try.func20, Try.ntmps20
  go_wp2
  go_loopw [3, 4, 5] (fun o v h wr => ∃ (j : Nat) (z : Int) (r : Value), 2 * j ≤ n ∧ z = (n : Int) - 1 - j ∧ v = .int .i64 j ∧ h = .int .i64 z ∧ r = o ∧ Sl wr W.heap.size r (milkN xs j) ∧ Kp Nw W wr) (fun _ v _ _ => n - (intOf v).toNat)
  case atStart => exact ⟨0, _, _, by omega, by simp, rfl, rfl, rfl, Sl.nil _ _, Kp.refl _ _⟩
  case round =>
    obtain ⟨j, z, r, hj, hz, rfl, rfl, rfl, hr, hk⟩ := hrel
    have HR := Lib.hid hr
    have HK := Lib.hid hk
    have HZ := Lib.hid hz
    have j0 : (0 : Int) ≤ j := Int.natCast_nonneg _
    have hrl : (milkN xs j).length ≤ 1000 := by rw [milkN_length]; omega
    have hzz : W.heap.size ≤ wr.heap.size := HK.out.size
    clear hr hk
    by_cases hlt : (j : Int) < z
    · obtain ⟨q, hq⟩ : ∃ q : Nat, z = q := ⟨z.toNat, by omega⟩
      have hqn : q = n - 1 - j := by omega
      subst hq
      have c0 := keepc HK.out (HA.out j (by omega)) (fun h => h)
      have c1 := keepc HK.out (HA.out q (by omega)) (fun h => h)
      obtain ⟨x, hx⟩ : ∃ x, xs.getD j 0 = x := ⟨_, rfl⟩
      obtain ⟨y, hy⟩ : ∃ y, xs.getD q 0 = y := ⟨_, rfl⟩
      rw [hx] at c0
      rw [hy] at c1
      have HT : Hid (milkN xs (j + 1) = [x, y] ++ milkN xs j) := Lib.hid (by rw [milkN, HN.out, ← hqn, hx, hy]; rfl)
      have w0 : (0 : Int) ≤ q := Int.natCast_nonneg _
      have w1 : (q : Int) < n := by omega
      have w3 : (j : Int) < n := by omega
      have w2 : IntKind.i64.wrap ((q : Int) - 1) = (q : Int) - 1 := IntWalk.i64_in _ (by omega)
      clear hx hy hqn hz
      go_wp2_with fail
      go_region_law (refine step_app _ (by rfl) (.tmp 20) (.tmp 21) (by rfl) wr.heap.size (.slice (some ⟨wr.heap.size, 0, none⟩) 2 2) r [x, y] (milkN xs j) (by rfl) (by rfl) (Sl.lit2 wr x y).drew (HR.out.rd.nw' (Kp.al _ _).drew) HR.out.vn (by simp; omega) (by simp) ?_; intro v5 w5 hs5 hk5 ho5)
      all_goals
        have HS5 := Lib.hid (Sl.from hs5 hzz)
        have HK5 := Lib.hid ((HK.out.nw (Kp.al _ _).drew).own (Sl.from (Sl.dr (Sl.lit2 wr x y)) hzz) hk5)
        clear hs5 hk5 ho5
        go_wp2
        go_roundw
        case rel => exact ⟨j + 1, _, v5, by have := HZ.out; omega, by have := HZ.out; omega, rfl, rfl, rfl, by rw [HT.out]; exact HS5.out, HK5.out⟩
        case measure => simp [intOf] <;> omega
    · by_cases he : (j : Int) = z
      · subst he
        have hm : n % 2 = 1 := by omega
        have hjn : j = n / 2 := by omega
        have c0 := keepc HK.out (HA.out j (by omega)) (fun h => h)
        obtain ⟨x, hx⟩ : ∃ x, xs.getD j 0 = x := ⟨_, rfl⟩
        rw [hx] at c0
        have HT : Hid (milk xs = [x] ++ milkN xs j) := Lib.hid (by unfold milk; rw [HN.out, if_pos hm, ← hjn, hx]; rfl)
        have w3 : (j : Int) < n := by omega
        have ll : ¬ (j : Int) < j := by omega
        clear hx hz hjn
        go_wp2_with (first | (at_builtin; refine wpList_app _ rfl (.tmp 34) (.tmp 35) rfl wr.heap.size (.slice (some ⟨wr.heap.size, 0, none⟩) 1 1) r [x] (milkN xs j) rfl rfl (Sl.lit1 wr x) (HR.out.rd.nw' (Kp.al _ _)) HR.out.vn (by simp; omega) (by simp) ?_))
        intro v5 w5 hs5 hk5 ho5
        have HS5 := Lib.hid (Sl.from hs5 hzz)
        have HK5 := Lib.hid ((HK.out.nw (Kp.al _ _)).own (Sl.from (Sl.lit1 wr x) hzz) hk5)
        clear hs5 hk5 ho5
        go_wp2
        go_ret
        exact ⟨v5, rfl, by rw [HT.out]; exact HS5.out, HK5.out⟩
      · have HT : Hid (milk xs = milkN xs j) := Lib.hid (by unfold milk; rw [HN.out, if_neg (by omega)]; congr 1; omega)
        go_wp2
        go_ret
        exact ⟨r, rfl, by rw [HT.out]; exact HR.out, HK.out⟩

set_option maxRecDepth 100000 in
set_option maxHeartbeats 3200000 in
theorem caMonge_any (A : Option Addr) (n c : Nat) (xs : List Int) (W : World) (hu : Rd W (.slice A n c) xs) (hn : xs.length = n) (hp : 1 ≤ n) (hl : n ≤ 1000) :
    Calls Try.prog 25 #[.slice A n c] W (Makes W (monge xs)) := by
  obtain ⟨A', c', hAc, hA⟩ := id hu
  have eA : A = A' := by injection hAc
  subst eA
  obtain ⟨g0, o0, rfl, _⟩ := hA 0 (by omega)
  have hA2 : ∀ k, k < n → W.cell? ⟨g0, o0 + k, none⟩ = some (.int .i64 (xs.getD k 0)) := fun k hk => by
    obtain ⟨g, o, e, hc⟩ := hA k (by omega)
    injection e with e
    injection e with e1 e2
    subst e1 e2
    exact hc
  have HA := Lib.hid hA2
  have HN := Lib.hid hn
  have n0 : (0 : Int) ≤ n := Int.natCast_nonneg _
  clear hu hn hA hAc hA2
  go_enter Try.func25, Try.ntmps25
  go_wp2
  go_loopw [3, 8] (fun o v wr => ∃ (j : Nat) (r : Value), j ≤ n ∧ v = .int .i64 j ∧ r = o ∧ Sl wr W.heap.size r (monN xs j) ∧ Kp Nw W wr) (fun _ v _ => n - (intOf v).toNat)
  case atStart => exact ⟨0, _, Nat.zero_le _, rfl, rfl, Sl.nil _ _, Kp.refl _ _⟩
  case round =>
    obtain ⟨j, r, hj, rfl, rfl, hr, hk⟩ := hrel
    have HR := Lib.hid hr
    have HK := Lib.hid hk
    have j0 : (0 : Int) ≤ j := Int.natCast_nonneg _
    have hrl : (monN xs j).length ≤ 1000 := by rw [monN_length]; omega
    have hzz : W.heap.size ≤ wr.heap.size := HK.out.size
    clear hr hk
    by_cases hlt : j < n
    · have c0 := keepc HK.out (HA.out j hlt) (fun h => h)
      obtain ⟨x, hx⟩ : ∃ x, xs.getD j 0 = x := ⟨_, rfl⟩
      rw [hx] at c0
      have w3 : (j : Int) < n := by omega
      have w2 : IntKind.i64.wrap ((j : Int) + 1) = ((j + 1 : Nat) : Int) := by rw [IntWalk.i64_in _ (by omega)]; omega
      have wm : IntKind.i64.wrap ((j : Int).tmod 2) = ((j % 2 : Nat) : Int) := by rw [Int.tmod_eq_emod_of_nonneg (by omega), IntWalk.i64_in _ (by omega)]; omega
      by_cases ho : j % 2 = 1
      · have HT : Hid (monN xs (j + 1) = [x] ++ monN xs j) := Lib.hid (by rw [monN, if_pos ho, hx]; rfl)
        have wo : ((j % 2 : Nat) : Int) = 1 := by omega
        clear hx
        go_wp2_with (first | (at_builtin; refine wpList_app _ rfl (.tmp 17) (.tmp 18) rfl wr.heap.size (.slice (some ⟨wr.heap.size, 0, none⟩) 1 1) r [x] (monN xs j) rfl rfl (Sl.lit1 wr x) (HR.out.rd.nw' (Kp.al _ _)) HR.out.vn (by simp; omega) (by simp) ?_))
        intro v5 w5 hs5 hk5 ho5
        have HS5 := Lib.hid (Sl.from hs5 hzz)
        have HK5 := Lib.hid ((HK.out.nw (Kp.al _ _)).own (Sl.from (Sl.lit1 wr x) hzz) hk5)
        clear hs5 hk5 ho5
        go_wp2
        go_roundw
        case rel => exact ⟨j + 1, v5, by omega, rfl, rfl, by rw [HT.out]; exact HS5.out, HK5.out⟩
        case measure => simp [intOf] <;> omega
      · have HT : Hid (monN xs (j + 1) = monN xs j ++ [x]) := Lib.hid (by rw [monN, if_neg ho, hx])
        have wo : ¬ ((j % 2 : Nat) : Int) = 1 := by omega
        clear hx
        go_wp2_with (first | (at_builtin; refine wpList_app _ rfl (.tmp 20) (.tmp 22) rfl W.heap.size r _ (monN xs j) [x] rfl rfl (HR.out.below ((Kp.refl Nw wr).alloc _).below') (Rd.one (g := wr.heap.size) (by simp)) nil_one (by simp; omega) (by simp; omega) ?_))
        intro r' w3 hs3 hk3 hat
        have HS3 := Lib.hid hs3
        have HK3 := Lib.hid ((HK.out.nw (.al _ _)).own (HR.out.below (Kp.al _ _).below') hk3)
        clear hs3 hk3 hat
        go_wp2
        go_roundw
        case rel => exact ⟨j + 1, r', by omega, rfl, rfl, by rw [HT.out]; exact HS3.out, HK3.out⟩
        case measure => simp [intOf] <;> omega
    · have e : j = n := by omega
      subst e
      have E : Hid (monge xs = monN xs j) := Lib.hid (by unfold monge; rw [HN.out])
      go_wp2
      go_ret
      exact ⟨r, rfl, by rw [E.out]; exact HR.out, HK.out⟩
end Go.Proofs.Ytdehkehjbmnllab
