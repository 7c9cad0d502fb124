/- strconv.FormatInt by 2 gives the binary digits of a number, in a world that holds the library's table of de Bruijn; the number is in the chapter's range. -/
import Derived.Test.YteodhoekkeelcaaDoorLow
import Derived.Test.YteodhoekkeelcaaDoorMake
import Derived.IntWalk
import Derived.Laws.BytesString
import Derived.Laws.BitsAllLaws
import Derived.Laws.IdiomStrings
import Derived.Laws.BytesArg
namespace Go.Proofs.YteodhoekkeelcaaDoor
open Go.ChangeShapes Go.WideShapes Go.ChangeAt Go.RowKit Go.IntWalk

set_option maxRecDepth 100000 in
theorem tz64 (w : World) (hc : w.cell? ⟨6, 1, none⟩ = some (.int .u8 1)) : Calls Tryd.prog 100 #[.int .u64 2] w fun e w' => e = .returned (.int .i64 1) ∧ w = w' := by
  have e0 : IntKind.u64.wrap (-2) = 18446744073709551614 := by decide
  have e1 : bits .and .u64 2 18446744073709551614 = 2 := by decide
  have e2 : IntKind.u64.wrap (2 * 285870213051353865) = 571740426102707730 := by decide
  have E0 := Lib.hid e0; have E1 := Lib.hid e1; have E2 := Lib.hid e2
  have key : (IntKind.u64.wrap (bits .and .u64 2 (IntKind.u64.wrap (-2)) * 285870213051353865) / 288230376151711744).toNat = 1 := by rw [E0.out, E1.out, E2.out]; rfl
  clear e0 e1 e2 E0 E1 E2
  go_enter Tryd.func100, Tryd.ntmps100
  go_wp2
  go_ret
  exact ⟨rfl, rfl⟩
set_option maxRecDepth 100000 in
theorem tz2 (w : World) (hc : w.cell? ⟨6, 1, none⟩ = some (.int .u8 1)) : Calls Tryd.prog 90 #[.int .u64 2] w fun e w' => e = .returned (.int .i64 1) ∧ w = w' := by
  go_enter Tryd.func90, Tryd.ntmps90
  go_wp2_with (first | ((with_reducible refine (tz64 _ hc).mono ?_); rintro e w' ⟨rfl, rfl⟩))
  go_ret
  exact ⟨rfl, rfl⟩
theorem pow2 (w : World) : Calls Tryd.prog 89 #[.int .i64 2] w fun e w' => e = .returned (.bool true) ∧ w = w' := by
  go_enter Tryd.func89, Tryd.ntmps89
  go_wp2
  go_ret
  exact ⟨rfl, rfl⟩
/-- binary digits -/
def bin (n : Nat) : List UInt8 := if _h : 0 < n then bin (n / 2) ++ [UInt8.ofNat (48 + n % 2)] else []
termination_by n
theorem bin_go (n : Nat) (h : 0 < n) : bin n = bin (n / 2) ++ [UInt8.ofNat (48 + n % 2)] := by rw [bin, dif_pos h]
theorem bin_zero : bin 0 = [] := by rw [bin, dif_neg (by omega)]
theorem bin_one : bin 1 = [49] := by rw [bin_go 1 (by omega), show 1 / 2 = 0 by rfl, bin_zero]; rfl
theorem bin_len (k : Nat) : ∀ n, n < 2 ^ k → (bin n).length ≤ k := by
  induction k with
  | zero => intro n h; rw [show n = 0 by omega, bin_zero]; exact Nat.le_refl _
  | succ k ih =>
    intro n h
    by_cases h0 : 0 < n
    · rw [bin_go n h0, List.length_append]
      have := ih (n / 2) (by rw [Nat.pow_succ] at h; omega)
      simp; omega
    · rw [show n = 0 by omega, bin_zero]; simp
theorem bin_le (n : Nat) (h : n ≤ 1000000000000) : (bin n).length ≤ 40 := by
  have e : (2 : Nat) ^ 40 = 1099511627776 := by simp
  exact bin_len 40 n (by omega)
/-- a byte as a cell -/
def byV (b : UInt8) : Value := .int .u8 b.toNat
/-- the block of 65 bytes, those from j on known -/
structure By (w : World) (L j : Nat) (suf : List UInt8) : Prop where
  blk : ∃ cs : Array Value, w.heap[L]? = some (.cells cs 86 (0, 0)) ∧ cs.size = 65 ∧ cs.toList.drop j = suf.map byV
theorem By.kp {w w' : World} {L j : Nat} {suf : List UInt8} (h : By w L j suf) (hk : Kp Nw w w') : By w' L j suf := by
  obtain ⟨cs, h1, h2, h3⟩ := h.blk
  exact ⟨cs, (hk.block L (Array.getElem?_eq_some_iff.1 h1).1 (fun h => h)).trans h1, h2, h3⟩
theorem By.set {w : World} {L j : Nat} {suf : List UInt8} (h : By w L (j + 1) suf) (hj : j < 65) (b : UInt8) : By (w.setCell ⟨L, j, none⟩ (byV b)) L j (b :: suf) := by
  obtain ⟨cs, h1, h2, h3⟩ := h.blk
  refine ⟨cs.setIfInBounds j (byV b), heap_setCell_same w L j cs _ _ h1, by simpa using h2, ?_⟩
  have hl : j < cs.toList.length := by simpa [h2] using hj
  rw [Array.toList_setIfInBounds, List.drop_eq_getElem_cons (by simpa using hl), List.getElem_set_self, List.drop_set_of_lt (by omega), h3]
  rfl
theorem By.cell {w : World} {L j : Nat} {suf : List UInt8} (h : By w L j suf) (i : Nat) (hi : i < 65) : ∃ v, w.cell? ⟨L, i, none⟩ = some v := by
  obtain ⟨cs, h1, h2, h3⟩ := h.blk
  rw [cell_of_row w L i cs _ (0, 0) h1]
  exact ⟨cs[i], by simp [h2, hi]⟩
theorem By.frozen {w : World} {L j : Nat} {suf : List UInt8} (h : By w L j suf) (i : Nat) : w.frozen? ⟨L, i, none⟩ = false := by
  obtain ⟨cs, h1, _⟩ := h.blk
  simp [World.frozen?, h1]
theorem By.text {w : World} {L j : Nat} {suf : List UInt8} (h : By w L j suf) (c : Nat) :
    (convert 62 9 (.slice (some ⟨L, j, none⟩) suf.length c)).run Tryd.prog w = .ok (.string ⟨suf.toArray⟩) w := by
  obtain ⟨cs, h1, h2, h3⟩ := h.blk
  refine run_convert_bytes_back w 62 9 5 ⟨L, j, none⟩ c suf Tryd.underlying62 Tryd.underlying5 Tryd.underlying9 fun i hi => ?_
  have e : (⟨L, j, none⟩ : Addr).add i = ⟨L, j + i, none⟩ := by unfold Addr.add; split <;> simp_all
  rw [e, cell_of_row w L (j + i) cs _ (0, 0) h1]
  have h4 : (cs.toList.drop j)[i]? = some (byV suf[i]) := by rw [h3]; simp [hi]
  rw [List.getElem?_drop] at h4
  simpa [byV] using h4
theorem slice_arr (w : World) (L i : Nat) (hi : i < 65) : (Instr.sliceAt 86 (.pointer (some ⟨L, 0, none⟩)) (some (.int .i64 i)) none none).run Tryd.prog w = .ok (.slice (some ⟨L, i, none⟩) (65 - i) (65 - i)) w := by
  have h1 : ¬ 65 < i := by omega
  have h2 : ¬ 65 = i := by omega
  have e : (⟨L, 0, none⟩ : Addr).add i = ⟨L, i, none⟩ := by unfold Addr.add; split <;> simp_all
  simp only [Instr.sliceAt, Sem.run_bind, run_underlying Tryd.underlying86, Result.andThen_ok]
  simp [Instr.sureAddr, Instr.sliceBounds, Instr.sliceBound, asIntOf, h1, h2, e, go_sem]

theorem digit0 (u : Nat) (h : u < 18446744073709551616) : bits .and .u64 (u : Int) 1 = ((u % 2 : Nat) : Int) := by
  have := u64_and_nat u 1 h (by omega)
  rw [nat_mask1] at this
  exact this

set_option maxRecDepth 100000 in
set_option maxHeartbeats 3200000 in
theorem formatBits_any (n : Nat) (W : World) (h1 : 1 ≤ n) (h2 : n ≤ 1000000000000) (hc : W.cell? ⟨6, 1, none⟩ = some (.int .u8 1)) :
    Calls Tryd.prog 73 #[.slice none 0 0, .int .u64 n, .int .i64 2, .bool false, .bool false] W fun e w' => e = .returned (.tuple #[.slice none 0 0, .string ⟨(bin n).toArray⟩]) ∧ Kp Nw W w' := by
  have HLEN := Lib.hid (bin_le n h2)
  have hcz := keepc (Kp.al W (.cells Tryd.zeroCells86 86)) hc (fun h => h)
  have HC := Lib.hid hc
  clear hc
  go_enter Tryd.func73, Tryd.ntmps73
  go_wp2_with (first | ((with_reducible refine (pow2 _).mono ?_); rintro e w' ⟨rfl, rfl⟩) | ((with_reducible refine (tz2 _ hcz).mono ?_); rintro e w' ⟨rfl, rfl⟩))
  have B0 : By (W.alloc (.cells Tryd.zeroCells86 86)) W.heap.size 65 [] := ⟨_, heap_alloc_new W _, by kernel_rfl, by kernel_rfl⟩
  have HB0 := Lib.hid B0
  clear B0 hcz
  go_loopw [1, 13] (fun vu vj wr => ∃ (u j : Nat) (suf : List UInt8), vu = .int .u64 u ∧ vj = .int .i64 j ∧ 1 ≤ u ∧ u ≤ n ∧ Hid (bin n = bin u ++ suf) ∧ Hid (j + suf.length = 65) ∧ Hid (By wr W.heap.size j suf) ∧ Kp Nw W wr) (fun vu _ _ => (intOf vu).toNat)
  case atStart => exact ⟨n, 65, [], rfl, rfl, h1, Nat.le_refl _, Lib.hid (by simp), Lib.hid rfl, HB0, Kp.al _ _⟩
  case round =>
    rename_i wr
    obtain ⟨u, j, suf, rfl, rfl, hu1, hu2, hbin, hlen, hby, hk⟩ := hrel
    have HK := Lib.hid hk
    clear hk
    have hsl : suf.length ≤ 39 := by
      have := HLEN.out
      rw [hbin.out, List.length_append, bin_go u (by omega), List.length_append] at this
      simp at this
      omega
    obtain ⟨i, hi⟩ : ∃ i, j = i + 1 := ⟨j - 1, by have := hlen.out; omega⟩
    have hij : i < 65 := by have := hlen.out; omega
    subst hi
    have f := hby.out.frozen i
    obtain ⟨v, hv⟩ := hby.out.cell i hij
    by_cases hlt : 2 ≤ u
    · have d := digit0 u (by omega)
      have HX := Lib.hid (show bin n = bin (u / 2) ++ (UInt8.ofNat (48 + u % 2) :: suf) by rw [hbin.out, bin_go u (by omega)]; simp)
      have HS := Lib.hid (hby.out.set hij (UInt8.ofNat (48 + u % 2)))
      rcases (show u % 2 = 0 ∨ u % 2 = 1 by omega) with e | e
      all_goals (
        rw [e] at d HX HS
        have hlt2 : (2 : Int) ≤ u := by omega
        go_wp2
        go_roundw
        case rel => exact ⟨u / 2, i, _, by congr 1, rfl, by omega, by omega, HX, Lib.hid (by have := hlen.out; simp; omega), HS, HK.out.setCell (.inr (Nat.le_refl _)) _⟩
        case measure => simp [intOf]; omega)
    · have hu : u = 1 := by omega
      subst hu
      have HX := Lib.hid (show bin n = 49 :: suf by rw [hbin.out, bin_one]; rfl)
      have HS : Hid (By (wr.setCell ⟨W.heap.size, i, none⟩ (.int .u8 49)) W.heap.size i (49 :: suf)) := Lib.hid (hby.out.set hij 49)
      have dg : ∀ h, (ByteArray.mk #[48, 49, 50, 51, 52, 53, 54, 55, 56, 57, 97, 98, 99, 100, 101, 102, 103, 104, 105, 106, 107, 108, 109, 110, 111, 112, 113, 114, 115, 116, 117, 118, 119, 120, 121, 122])[1]'h = 49 := fun _ => rfl
      have SA := Lib.hid (fun w => slice_arr w W.heap.size i hij)
      have hl2 : Hid (65 - i = (49 :: suf).length) := Lib.hid (by have := hlen.out; simp; omega)
      have CV := Lib.hid (HS.out.text (65 - i))
      rw [← hl2.out, ← HX.out] at CV
      have sa := SA.out
      have cv := CV.out
      go_wp2
      go_ret2
      exact ⟨rfl, HK.out.setCell (.inr (Nat.le_refl _)) _⟩
set_option maxRecDepth 100000 in
set_option maxHeartbeats 1600000 in
theorem formatInt_in (n : Nat) (W : World) (h1 : 1 ≤ n) (h2 : n ≤ 1000000000000) (hc : W.cell? ⟨6, 1, none⟩ = some (.int .u8 1)) :
    Calls Tryd.prog 62 #[.int .i64 n, .int .i64 2] W fun e w' => e = .returned (.string ⟨(bin n).toArray⟩) ∧ Kp Nw W w' := by
  have CC := Lib.hid (formatBits_any n W h1 h2 hc)
  clear hc
  go_enter Tryd.func62, Tryd.ntmps62
  go_wp2_with fail
  refine CC.out.mono ?_
  rintro e w1 ⟨rfl, hk⟩
  have HK := Lib.hid hk
  clear hk
  go_wp2
  go_ret
  exact ⟨rfl, HK.out⟩
set_option maxRecDepth 100000 in
theorem formatInt_any (n : Nat) (W : World) (h1 : 1 ≤ n) (h2 : n ≤ 1000000000000) (hc : W.cell? ⟨6, 1, none⟩ = some (.int .u8 1)) :
    Calls Tryd.prog 48 #[.int .i64 n, .int .i64 2] W fun e w' => e = .returned (.string ⟨(bin n).toArray⟩) ∧ Kp Nw W w' := by
  have CC := Lib.hid (formatInt_in n W h1 h2 hc)
  clear hc
  go_enter Tryd.func48, Tryd.ntmps48
  go_wp2_with fail
  refine CC.out.mono ?_
  rintro e w1 ⟨rfl, hk⟩
  have HK := Lib.hid hk
  clear hk
  go_wp2
  go_ret
  exact ⟨rfl, HK.out⟩
end Go.Proofs.YteodhoekkeelcaaDoor
