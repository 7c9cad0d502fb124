/- The exchange that a list is, in the program: exchangeOf; isOrdered; no condition but at most twelve numbers. -/
import Derived.Test.YtgbmoipkgnklfaaEx
import Derived.Test.YtgbmoipkgnklfaaPile
namespace Go.Proofs.Ytgbmoipkgnklfaa
open Go.ChangeShapes Go.WideShapes Go.ChangeAt Go.RowKit

theorem ecut_all (b : Nat) (w : World) :
    (Instr.sliceAt 40 (.pointer (some ⟨b, 0, none⟩)) none none none).run Try.prog w = .ok (.slice (some ⟨b, 0, none⟩) 12 12) w := by
  rw [run_sliceAt_array_all _ _ _ exArr, exElem, exLen]
  simp [slicedAt, Result.andThen, addr_add]
theorem ecut_to (b n : Nat) (h : n ≤ 12) (w : World) :
    (Instr.sliceAt 40 (.pointer (some ⟨b, 0, none⟩)) none (some (.int .i64 (n : Int))) none).run Try.prog w = .ok (.slice (some ⟨b, 0, none⟩) n 12) w := by
  rw [run_sliceAt_array_h _ _ _ exArr _ _ (by omega) (by rw [exLen]; omega), exElem, exLen]
  simp [slicedAt, Result.andThen, addr_add]
/-- a list laid over the exchange with everybody at the turn -/
def exOn (xs : List Int) : List Int := xs ++ (marks 0 12).drop xs.length
theorem exOn_len (xs : List Int) (h : xs.length ≤ 12) : (exOn xs).length = 12 := by unfold exOn; rw [List.length_append, List.length_drop, marks_length]; omega
theorem exOn_take (xs : List Int) : (exOn xs).take xs.length = xs := by unfold exOn; simp
theorem exOn_low (xs : List Int) (j : Nat) (h : j < xs.length) : (exOn xs).getD j 0 = xs.getD j 0 := by
  unfold exOn
  simp only [List.getD]
  rw [List.getElem?_append_left h]
theorem exOn_high (xs : List Int) (j : Nat) (h : xs.length ≤ j) (hj : j < 12) : (exOn xs).getD j 0 = (j : Int) := by
  unfold exOn
  simp only [List.getD]
  rw [List.getElem?_append_right h, List.getElem?_drop, show xs.length + (j - xs.length) = j by omega]
  have := marks_getD 0 12 j hj
  simp only [List.getD] at this
  rw [this]
  omega
theorem exOn_splice (xs : List Int) : splice (exC (marks 0 12)) 0 (exC xs) = exC (exOn xs) := by
  unfold splice exC exOn
  simp [List.map_drop]

theorem isOrdered_yes (p : Int) (w : World) (h0 : 1 ≤ p) (h1 : p ≤ 12) : Calls Try.prog 28 #[.int .i64 p] w fun e w' => e = .returned (.bool true) ∧ w = w' := by
  go_enter Try.func28, Try.ntmps28
  go_wp2_with (first | ((with_reducible refine (within_yes p _ _ _ h0 h1).mono ?_); rintro e w' ⟨rfl, rfl⟩))
  go_ret
  exact ⟨rfl, rfl⟩
theorem isOrdered_no (p : Int) (w : World) (h : p < 1 ∨ 12 < p) : Calls Try.prog 28 #[.int .i64 p] w fun e w' => e = .returned (.bool false) ∧ w = w' := by
  go_enter Try.func28, Try.ntmps28
  go_wp2_with (first | ((with_reducible refine (within_no p _ _ _ h).mono ?_); rintro e w' ⟨rfl, rfl⟩))
  go_ret
  exact ⟨rfl, rfl⟩

set_option maxRecDepth 100000 in
set_option maxHeartbeats 1600000 in
theorem exchangeOf_any (A : Option Addr) (n c : Nat) (xs : List Int) (W : World) (hu : Rd W (.slice A n c) xs) (hn : xs.length = n) (hl : n ≤ 12) :
    Calls Try.prog 29 #[.slice A n c] W fun e w' => e = .returned (.agg (exC (exOn xs)).toArray) ∧ Kp Nw W w' := by
  obtain ⟨hz0, _⟩ := zero_of_info exZero
  obtain ⟨Z, hZ⟩ : ∃ Z : List Int, Z = List.replicate 12 0 := ⟨_, rfl⟩
  have hZl : Z.length = 12 := by rw [hZ, List.length_replicate]
  have hz : ∀ w, (zeroValue 40).run Try.prog w = .ok (.agg (exC Z).toArray) w := by rw [hZ]; exact hz0
  have hl1 : (exC Z).length = 12 := by rw [exC_length, hZl]
  obtain ⟨M, hM⟩ : ∃ M : List Int, M = marks 0 12 := ⟨_, rfl⟩
  have hMl : M.length = 12 := by rw [hM, marks_length]
  have hl2 : (exC M).length = 12 := by rw [exC_length, hMl]
  have HZL := Lib.hid hZl
  have HML := Lib.hid hMl
  have HM := Lib.hid hM
  have HU := Lib.hid hu
  have HN := Lib.hid hn
  obtain ⟨cs, hcs⟩ : ∃ cs, cs = exC xs := ⟨_, rfl⟩
  have hcl : cs.length = n := by rw [hcs, exC_length, hn]
  have HMN : Hid (cs.length = Nat.min n 12) := Lib.hid (by rw [hcl]; simp [Nat.min_def]; omega)
  have HP : Hid (0 < cs.length → ∃ ad, A = some ad ∧ ∀ j v, cs[j]? = some v → W.cell? (ad.add j) = some v) := Lib.hid (fun h0 => by
    obtain ⟨A', c', hAc, hA⟩ := hu
    have eA : A = A' := by injection hAc
    subst eA
    obtain ⟨g, o, rfl, _⟩ := hA 0 (by omega)
    refine ⟨_, rfl, fun j v hj => ?_⟩
    have hj' : j < cs.length := (List.getElem?_eq_some_iff.1 hj).1
    obtain ⟨g', o', e, hc⟩ := hA j (by omega)
    injection e with e
    injection e with e1 e2
    subst e1 e2
    rw [addr_add, hc, ← hj, hcs, exC_get xs j (by omega)])
  have HF : Hid (0 + cs.length ≤ (exC M).length) := Lib.hid (by rw [hl2, hcl]; omega)
  have H1 : Hid (∀ v ∈ cs, v.oneCell' = true) := Lib.hid (by rw [hcs]; exact exC_one xs)
  have HS : Hid (splice (exC M) 0 cs = exC (exOn xs)) := Lib.hid (by rw [hcs, hM]; exact exOn_splice xs)
  have HEL : Hid ((exOn xs).length = 12) := Lib.hid (exOn_len xs (by omega))
  have hsz : (Try.prog.info? 3).map (·.size) = some 1 := by kernel_rfl
  clear hz0 hZ hZl hMl hu hn hcs hcl
  go_enter Try.func29, Try.ntmps29
  go_wp2_with fail
  refine (everybodyAtTurn_any _).mono ?_
  rw [← hM]
  rintro e w1 ⟨rfl, hk1⟩
  clear hM
  have b0 := (Eb.new W Z).nw hk1
  have b1 := Eb.new w1 Z
  have hst := run_storeCells_ex b1 HZL.out HML.out
  have hz1 : W.heap.size + 1 ≤ w1.heap.size := by have := hk1.size; simp at this; omega
  have HK1 := Lib.hid ((((Kp.al W (.cells (exC Z).toArray 40)).nw hk1).nw (.al _ (.cells (exC Z).toArray 40))).setRow' (.inr (by omega : W.heap.size ≤ w1.heap.size)) (exC M).toArray)
  have B1 := Lib.hid (b1.row M)
  have B0 : Hid (Eb ((w1.alloc (.cells (exC Z).toArray 40)).setRow w1.heap.size (exC M).toArray) W.heap.size Z) := Lib.hid ((setRow_other _ _ _ _ (by omega)).trans (b0.nw (.al _ _)))
  have r1 := ecut_all w1.heap.size
  have HP2 : Hid (0 < cs.length → ∃ ad, A = some ad ∧ ∀ j v, cs[j]? = some v → ((w1.alloc (.cells (exC Z).toArray 40)).setRow w1.heap.size (exC M).toArray).cell? (ad.add j) = some v) := Lib.hid (fun h => by
    obtain ⟨ad, e, h2⟩ := HP.out h
    exact ⟨ad, e, fun j v hj => keepc HK1.out (h2 j v hj) (fun h => h)⟩)
  clear b0 b1 hk1
  go_wp2_with (first | (refine wpList_copy_kp rfl (.tmp 5) (.tmp 6) 22 22 rfl 3 Try.underlying22 hsz (some ⟨w1.heap.size, 0, none⟩) A 12 12 n c rfl rfl w1.heap.size 0 (exC M) 40 B1.out cs HMN.out (fun h => ⟨rfl, HP2.out h⟩) HF.out H1.out (fun g => g = w1.heap.size) _ (Kp.refl _ _) (.inl rfl) ?_))
  intro w3 hg3 hk3
  have hb3 : Eb w3 w1.heap.size (exOn xs) := by
    have h := hg3.out
    rw [HS.out] at h
    exact h
  have hr3 := B0.out.kp hk3.out (by omega)
  obtain ⟨E, hE⟩ : ∃ E, exOn xs = E := ⟨_, rfl⟩
  rw [hE] at hb3
  have hEl : E.length = 12 := by rw [← hE]; exact HEL.out
  have hl3 : (exC E).length = 12 := by rw [exC_length, hEl]
  have hst2 := run_storeCells_ex hr3 HZL.out hEl
  have HR := Lib.hid (hr3.row E)
  have HK := Lib.hid ((HK1.out.after hk3.out (fun g hg e => by subst e; omega)).setRow' (.inr (Nat.le_refl W.heap.size)) (exC E).toArray)
  have HB3 := Lib.hid hb3
  have HE := Lib.hid hE
  have HEL2 := Lib.hid hEl
  clear hg3 hk3 hb3 hr3 hE hEl
  go_wp2_with (first | (refine wpList_load_ex rfl (.tmp 3) rfl w1.heap.size rfl E HB3.out HEL2.out ?_))
  refine bodyPost_ret (ret_ex rfl rfl HR.out HEL2.out) rfl ?_
  exact ⟨by rw [HE.out], HK.out⟩
end Go.Proofs.Ytgbmoipkgnklfaa
