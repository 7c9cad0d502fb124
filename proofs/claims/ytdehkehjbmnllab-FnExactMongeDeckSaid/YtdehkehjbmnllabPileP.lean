/- A pile as a value: how the program lays one into memory and takes it out again whole (pileOf, placesOf); no condition but on how many cards there are. -/
import Derived.Test.YtdehkehjbmnllabPileM
import Derived.Laws.ResultCell
import Derived.Deep.WholeRow
namespace Go.Proofs.Ytdehkehjbmnllab
open Go.ChangeShapes Go.WideShapes Go.ChangeAt Go.RowKit

theorem pileSize : (Try.prog.info? 38).map (·.size) = some 105 := by kernel_rfl
theorem pileZero : (Try.prog.info? 38).map (fun i => (i.zero, i.size)) = some (some (.agg (plc (List.replicate 104 0) 0).toArray), 105) := by kernel_rfl
theorem pileBuilt (n : Nat) : Try.prog.built 38 [(1, .int .i64 (n : Int))] = some (plc (List.replicate 104 0) n).toArray := by kernel_rfl

/-- the whole pile out of its block -/
theorem run_load_pile {w : World} {b : Nat} {c : List Int} {n : Nat} (hb : Pb w b c n) (hc : c.length = 104) : (loadVar 38 ⟨b, 0, none⟩).run Try.prog w = .ok (.agg (plc c n).toArray) w := by
  exact run_loadVar_row w b _ _ _ _ _ hb Try.underlying38 rfl (by rw [pileSize]; simp [plc, hc])
theorem wp_load_pile {op : Oper} {a : Act} {w : World} {K : Act → World → Prop} {Q : Exit → Act → World → Prop} (x : Operand) (ho : op.op = .load 38 x)
    (b : Nat) (hx : a.eval x = .pointer (some ⟨b, 0, none⟩)) (c : List Int) (n : Nat) (hb : Pb w b c n) (hc : c.length = 104)
    (h : K (a.put op.dst (.agg (plc c n).toArray)) w) : op.wp Try.prog a w K Q := by
  unfold Oper.wp execOp
  simp only [ho, hx, Instr.loadAt, Instr.sureAddr, Sem.run_bind, Sem.run_pure, Result.andThen_ok, run_load_pile hb hc]
  exact h
/-- the same as the walk leaves them -/
theorem run_loadCells_pile {w : World} {b : Nat} {c : List Int} {n : Nat} (hb : Pb w b c n) (hc : c.length = 104) : (loadCellsFrom ⟨b, 0, none⟩ 0 105 #[]).run Try.prog w = .ok (plc c n).toArray w := by
  have := run_loadCells_list (P := Try.prog) w ⟨b, 0, none⟩ (plc c n) (fun j v hv => by
    rw [addr_add]
    show w.cell? ⟨b, 0 + j, none⟩ = _
    rw [Nat.zero_add, cell_of_row w b j _ _ _ hb, List.getElem?_toArray]
    exact hv)
  rw [plc_length, hc] at this
  exact this
theorem run_storeCells_pile {w : World} {b : Nat} {c c' : List Int} {n n' : Nat} (hb : Pb w b c n) (hc : c.length = 104) (hc' : c'.length = 104) : (storeCells ⟨b, 0, none⟩ (plc c' n') 0).run Try.prog w = .ok () (w.setRow b (plc c' n').toArray) := by
  have := run_storeCells_from (P := Try.prog) b 38 (plc c' n') 0 (plc c n).toArray w hb (by simp [plc, hc, hc']) (fun v hv => (Array.all_eq_true_iff_forall_mem.1 (plc_one c' n')) v (by simpa using hv))
  simpa using this
theorem plc_resize (c : List Int) (n m : Nat) (h : c.length = 104) : (plc c n).set 104 (.int .i64 (m : Int)) = plc c m := by
  unfold plc
  rw [List.set_append_right _ _ (by simp [h])]
  simp [h]
/-- a pile as a function's one result -/
theorem ret_pile {fn : Func} {p : Tmp} (h : fn.results = #[.cell p 38]) {a : Act} {w : World} {b : Nat} {c : List Int} {n : Nat} (hp : a.tmps.getD p undef = .pointer (some ⟨b, 0, none⟩)) (hb : Pb w b c n) (hc : c.length = 104) :
    (results fn a.tmps).run Try.prog w = .ok (.agg (plc c n).toArray) w :=
  results_cell_row h a.tmps w b _ _ _ _ hp hb Try.underlying38 rfl (by rw [pileSize]; simp [plc, hc])
def MakesP (W : World) (xs : List Int) (e : Ending) (w' : World) : Prop := ∃ v, e = .returned v ∧ PileV v xs ∧ Kp Nw W w'

set_option maxRecDepth 100000 in
set_option maxHeartbeats 1600000 in
theorem pileOf_any (A : Option Addr) (n c : Nat) (xs : List Int) (W : World) (hu : Rd W (.slice A n c) xs) (hn : xs.length = n) (hl : n ≤ 104) :
    Calls Try.prog 35 #[.slice A n c] W (MakesP W xs) := by
  obtain ⟨hz0, _⟩ := zero_of_info pileZero
  obtain ⟨Z, hZ⟩ : ∃ Z : List Int, Z = List.replicate 104 0 := ⟨_, rfl⟩
  have hZl : Z.length = 104 := by rw [hZ, List.length_replicate]
  have hz : ∀ w, (zeroValue 38).run Try.prog w = .ok (.agg (plc Z 0).toArray) w := by rw [hZ]; exact hz0
  have hl1 : (plc Z 0).length = 105 := by rw [plc_length, hZl]
  have hl2 : (plc Z n).length = 105 := by rw [plc_length, hZl]
  have hse := plc_resize Z 0 n hZl
  have b0 : Pb ((W.alloc (.cells (plc Z 0).toArray 38)).alloc (.cells (plc Z 0).toArray 38)) (W.heap.size + 1) Z 0 := by
    have h := Pb.new (W.alloc (.cells (plc Z 0).toArray 38)) Z 0
    rw [World.size_alloc] at h
    exact h
  have hs1 := run_storeCells_pile (n' := n) b0 hZl hZl
  have HZ := Lib.hid hZ
  have HZL := Lib.hid hZl
  have B1 : Hid (Pb (((W.alloc (.cells (plc Z 0).toArray 38)).alloc (.cells (plc Z 0).toArray 38)).setRow (W.heap.size + 1) (plc Z n).toArray) (W.heap.size + 1) Z n) := Lib.hid (setRow_heap _ _ _ _ _ _ b0)
  have B2 : Hid (Pb (((W.alloc (.cells (plc Z 0).toArray 38)).alloc (.cells (plc Z 0).toArray 38)).setRow (W.heap.size + 1) (plc Z n).toArray) W.heap.size Z 0) := Lib.hid ((setRow_other _ _ _ _ (by omega)).trans ((Pb.new W Z 0).kp (.al _ (.cells (plc Z 0).toArray 38)) (fun h => h)))
  have K2 : Hid (Kp Nw W (((W.alloc (.cells (plc Z 0).toArray 38)).alloc (.cells (plc Z 0).toArray 38)).setRow (W.heap.size + 1) (plc Z n).toArray)) := Lib.hid (((Kp.al W _).alloc _).setRow (.inr (by omega)) _)
  have HU := Lib.hid hu
  have HN := Lib.hid hn
  have r1 := acut_all (W.heap.size + 1)
  obtain ⟨cs, hcs⟩ : ∃ cs, cs = xs.map (Value.int .i64) := ⟨_, rfl⟩
  have hcl : cs.length = n := by rw [hcs, List.length_map, hn]
  have HM : Hid (cs.length = Nat.min n 104) := Lib.hid (by rw [hcl]; simp [Nat.min_def]; omega)
  have HP : Hid (0 < cs.length → ∃ ad, A = some ad ∧ ∀ j v, cs[j]? = some v → W.cell? (ad.add j) = some v) := Lib.hid (fun h0 => by
    obtain ⟨A', c', hAc, hA⟩ := hu
    have eA : A = A' := by injection hAc
    subst eA
    obtain ⟨g, o, rfl, _⟩ := hA 0 (by omega)
    refine ⟨_, rfl, fun j v hj => ?_⟩
    have hj' : j < cs.length := (List.getElem?_eq_some_iff.1 hj).1
    obtain ⟨g', o', e, hc⟩ := hA j (by omega)
    injection e with e
    injection e with e1 e2
    subst e1 e2
    rw [addr_add, hc, ← hj, hcs, List.getElem?_map, List.getElem?_eq_getElem (by omega)]
    simp [List.getElem?_eq_getElem (show j < xs.length by omega)])
  have HP2 : Hid (0 < cs.length → ∃ ad, A = some ad ∧ ∀ j v, cs[j]? = some v → (((W.alloc (.cells (plc Z 0).toArray 38)).alloc (.cells (plc Z 0).toArray 38)).setRow (W.heap.size + 1) (plc Z n).toArray).cell? (ad.add j) = some v) := Lib.hid (fun h => by
    obtain ⟨ad, e, h2⟩ := HP.out h
    exact ⟨ad, e, fun j v hj => keepc K2.out (h2 j v hj) (fun h => h)⟩)
  have HF : Hid (0 + cs.length ≤ (plc Z n).length) := Lib.hid (by rw [hl2, hcl]; omega)
  have H1 : Hid (∀ v ∈ cs, v.oneCell' = true) := Lib.hid (fun v hv => by
    rw [hcs] at hv
    obtain ⟨x, _, rfl⟩ := List.mem_map.1 hv
    rfl)
  have HS : Hid (splice (plc Z n) 0 cs = plc (splice Z 0 xs) n) := Lib.hid (by rw [hcs]; exact plc_splice Z n 0 xs (by omega))
  have HG1 : Hid (Cds (splice Z 0 xs) xs) := Lib.hid (Cds.lay hZl xs (by omega))
  have hsz : (Try.prog.info? 3).map (·.size) = some 1 := by kernel_rfl
  clear hz0 hZ hZl b0 hu hn hcs hcl
  go_enter Try.func35, Try.ntmps35
  go_wp2_with (first | (refine wpList_copy_kp rfl (.tmp 8) (.tmp 9) 22 22 rfl 3 Try.underlying22 hsz (some ⟨W.heap.size + 1, 0, none⟩) A 104 104 n c rfl rfl (W.heap.size + 1) 0 (plc Z n) 38 B1.out cs HM.out (fun h => ⟨rfl, HP2.out h⟩) HF.out H1.out (fun g => g = W.heap.size + 1) _ (Kp.refl _ _) (.inl rfl) ?_))
  intro w3 hg3 hk3
  have hb3 : Pb w3 (W.heap.size + 1) (splice Z 0 xs) n := by
    have h := hg3.out
    rw [HS.out] at h
    exact h
  have hr3 := B2.out.kp hk3.out (by omega)
  have hld := run_loadCells_pile hb3 HG1.out.1
  have hst := run_storeCells_pile (n' := n) hr3 HZL.out HG1.out.1
  have hl3 : (plc (splice Z 0 xs) n).length = 105 := by rw [plc_length, HG1.out.1]
  have HR := Lib.hid (setRow_heap w3 W.heap.size _ (plc (splice Z 0 xs) n).toArray _ _ hr3)
  have HK := Lib.hid ((K2.out.after hk3.out (fun g hg e => by subst e; omega)).setRow (.inr (Nat.le_refl W.heap.size)) (plc (splice Z 0 xs) n).toArray)
  have HB3 := Lib.hid hb3
  clear hg3 hk3 hb3 hr3 hld
  go_wp2
  refine wp_load_pile (.tmp 3) rfl (W.heap.size + 1) rfl _ n HB3.out HG1.out.1 ?_
  go_wp2
  refine bodyPost_ret (ret_pile rfl rfl HR.out HG1.out.1) rfl ?_
  exact ⟨_, rfl, ⟨_, HG1.out, by rw [HN.out]⟩, HK.out⟩
end Go.Proofs.Ytdehkehjbmnllab
