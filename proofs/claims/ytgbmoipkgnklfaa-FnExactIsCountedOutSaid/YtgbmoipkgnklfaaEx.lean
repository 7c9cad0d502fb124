/- An exchange of the program, an array of twelve numbers: as a value, in memory; the one with everybody at the turn; no condition. -/
import Derived.Test.YtgbmoipkgnklfaaMarks
import Derived.Test.YtgbmoipkgnklfaaMake
import Derived.Test.YtgbmoipkgnklfaaLaws
import Derived.Laws.ResultCell
import Derived.Deep.WholeRow
namespace Go.Proofs.Ytgbmoipkgnklfaa
open Go.ChangeShapes Go.WideShapes Go.ChangeAt Go.RowKit

def exC (c : List Int) : List Value := c.map (Value.int .i64)
theorem exC_length (c : List Int) : (exC c).length = c.length := List.length_map _
theorem exC_get (c : List Int) (i : Nat) (h : i < c.length) : (exC c)[i]? = some (.int .i64 (c.getD i 0)) := by simp [exC, h]
theorem exC_set (c : List Int) (i : Nat) (x : Int) : (exC c).toArray.setIfInBounds i (.int .i64 x) = (exC (c.set i x)).toArray := by
  rw [List.setIfInBounds_toArray, exC, exC, List.map_set]
theorem exC_one (c : List Int) : ∀ v ∈ exC c, v.oneCell' = true := fun v hv => by
  obtain ⟨x, _, rfl⟩ := List.mem_map.1 hv
  rfl
/-- a block that holds an exchange, whole -/
def Eb (w : World) (b : Nat) (c : List Int) : Prop := w.heap[b]? = some (.cells (exC c).toArray 40 (0, 0))
theorem Eb.cell {w : World} {b : Nat} {c : List Int} (h : Eb w b c) (i : Nat) (hi : i < c.length) : w.cell? ⟨b, i, none⟩ = some (.int .i64 (c.getD i 0)) := by
  rw [cell_of_row w b i _ _ _ h, List.getElem?_toArray]; exact exC_get c i hi
theorem Eb.frozen {w : World} {b : Nat} {c : List Int} (h : Eb w b c) (i : Nat) : w.frozen? ⟨b, i, none⟩ = false := frozen_of_row w b i _ _ h
theorem Eb.lt {w : World} {b : Nat} {c : List Int} (h : Eb w b c) : b < w.heap.size := by
  by_cases hlt : b < w.heap.size
  · exact hlt
  · have hn : w.heap[b]? = none := by simp; omega
    rw [Eb, hn] at h
    cases h
theorem Eb.kp {w w' : World} {b : Nat} {c : List Int} {S : Nat → Prop} (h : Eb w b c) (hk : Kp S w w') (hs : ¬ S b) : Eb w' b c := (hk.block b h.lt hs).trans h
theorem Eb.nw {w w' : World} {b : Nat} {c : List Int} (h : Eb w b c) (hk : Kp Nw w w') : Eb w' b c := h.kp hk (fun h => h)
theorem Eb.drewN {w : World} {b : Nat} {c : List Int} (h : Eb w b c) (k : Nat) : Eb (w.drewN k) b c := h
theorem Eb.set {w : World} {b : Nat} {c : List Int} (h : Eb w b c) (i : Nat) (x : Int) : Eb (w.setCell ⟨b, i, none⟩ (.int .i64 x)) b (c.set i x) := by
  have := heap_setCell_same w b i _ _ (.int .i64 x) h
  rw [exC_set c i x] at this
  exact this
theorem Eb.other {w : World} {b : Nat} {c : List Int} (h : Eb w b c) (a : Addr) (hne : b ≠ a.block) (u : Value) : Eb (w.setCell a u) b c := (heap_setCell_other w a b u hne).trans h
theorem Eb.new (w : World) (c : List Int) : Eb (w.alloc (.cells (exC c).toArray 40)) w.heap.size c := heap_alloc_new w _
theorem exSize : (Try.prog.info? 40).map (·.size) = some 12 := by kernel_rfl
theorem exZero : (Try.prog.info? 40).map (fun i => (i.zero, i.size)) = some (some (.agg (exC (List.replicate 12 0)).toArray), 12) := by kernel_rfl
theorem exArr : Try.prog.underlying 40 = some (.array (Try.prog.arrayLen 40) (Try.prog.elem 40)) := by kernel_rfl
theorem exLen : Try.prog.arrayLen 40 = 12 := by kernel_rfl
theorem exElem (w : World) : (sizeOf (Try.prog.elem 40)).run Try.prog w = .ok 1 w := by kernel_rfl
theorem run_load_ex {w : World} {b : Nat} {c : List Int} (hb : Eb w b c) (hc : c.length = 12) : (loadVar 40 ⟨b, 0, none⟩).run Try.prog w = .ok (.agg (exC c).toArray) w := by
  exact run_loadVar_row w b _ _ _ _ _ hb Try.underlying40 rfl (by rw [exSize]; simp [exC, hc])
theorem wp_load_ex {op : Oper} {a : Act} {w : World} {K : Act → World → Prop} {Q : Exit → Act → World → Prop} (x : Operand) (ho : op.op = .load 40 x)
    (b : Nat) (hx : a.eval x = .pointer (some ⟨b, 0, none⟩)) (c : List Int) (hb : Eb w b c) (hc : c.length = 12)
    (h : K (a.put op.dst (.agg (exC c).toArray)) w) : op.wp Try.prog a w K Q := by
  unfold Oper.wp execOp
  simp only [ho, hx, Instr.loadAt, Instr.sureAddr, Sem.run_bind, Sem.run_pure, Result.andThen_ok, run_load_ex hb hc]
  exact h
theorem wpList_load_ex {ops : Array Oper} {rest : List Oper} {o : Oper} {a : Act} {w : World} {Q : Exit → Act → World → Prop} (hgd : o.guard = none) (x : Operand) (ho : o.op = .load 40 x)
    (b : Nat) (hx : a.eval x = .pointer (some ⟨b, 0, none⟩)) (c : List Int) (hb : Eb w b c) (hc : c.length = 12)
    (h : wpList Try.prog ops Q rest (a.put o.dst (.agg (exC c).toArray)) w) : wpList Try.prog ops Q (o :: rest) a w :=
  wpList_load_row hgd 40 x ho b hx _ _ _ _ hb Try.underlying40 rfl (by rw [exSize]; simp [exC, hc]) h
theorem run_loadCells_ex {w : World} {b : Nat} {c : List Int} (hb : Eb w b c) (hc : c.length = 12) : (loadCellsFrom ⟨b, 0, none⟩ 0 12 #[]).run Try.prog w = .ok (exC c).toArray w := by
  have := run_loadCells_list (P := Try.prog) w ⟨b, 0, none⟩ (exC c) (fun j v hv => by
    rw [addr_add]
    show w.cell? ⟨b, 0 + j, none⟩ = _
    rw [Nat.zero_add, cell_of_row w b j _ _ _ hb, List.getElem?_toArray]
    exact hv)
  rw [exC_length, hc] at this
  exact this
theorem run_storeCells_ex {w : World} {b : Nat} {c c' : List Int} (hb : Eb w b c) (hc : c.length = 12) (hc' : c'.length = 12) : (storeCells ⟨b, 0, none⟩ (exC c') 0).run Try.prog w = .ok () (w.setRow b (exC c').toArray) := by
  have := run_storeCells_from (P := Try.prog) b 40 (exC c') 0 (exC c).toArray w hb (by simp [exC, hc, hc']) (exC_one c')
  simpa using this
theorem Eb.row {w : World} {b : Nat} {c : List Int} (h : Eb w b c) (c' : List Int) : Eb (w.setRow b (exC c').toArray) b c' := setRow_heap _ _ _ _ _ _ h
theorem ret_ex {fn : Func} {p : Tmp} (h : fn.results = #[.cell p 40]) {a : Act} {w : World} {b : Nat} {c : List Int} (hp : a.tmps.getD p undef = .pointer (some ⟨b, 0, none⟩)) (hb : Eb w b c) (hc : c.length = 12) :
    (results fn a.tmps).run Try.prog w = .ok (.agg (exC c).toArray) w :=
  results_cell_row h a.tmps w b _ _ _ _ hp hb Try.underlying40 rfl (by rw [exSize]; simp [exC, hc])
theorem Kp.setRow' {S : Nat → Prop} {a w : World} (h : Kp S a w) {g : Nat} (hp : S g ∨ a.heap.size ≤ g) (cs : Array Value) : Kp S a (w.setRow g cs) :=
  ⟨h.os, h.tape, h.output, by simpa using h.size, fun i hi hs => (setRow_other w g i cs (by
    rintro rfl
    rcases hp with hp | hp
    · exact hs hp
    · omega)).trans (h.block i hi hs)⟩
theorem ex_alloc2 (W : World) (c Z : List Int) (w2 : World) (hw : w2 = ((W.alloc (.cells (exC c).toArray 40)).alloc (.cells (exC Z).toArray 40))) :
    Eb w2 W.heap.size c ∧ Eb w2 (W.heap.size + 1) Z ∧ Kp Nw W w2 := by
  subst hw
  have h0 := Eb.new W c
  have h1 := Eb.new (W.alloc (.cells (exC c).toArray 40)) Z
  simp only [World.size_alloc] at h1
  exact ⟨h0.nw (.al _ _), h1, (Kp.al W _).nw (.al _ _)⟩
def stpE (n : Nat) (j : Nat) : List Int := marks 0 j ++ (List.replicate n (0 : Int)).drop j
theorem stpE_len (n j : Nat) (h : j ≤ n) : (stpE n j).length = n := by unfold stpE; simp [marks_length]; omega
theorem stpE_set (n j : Nat) (h : j < n) : (stpE n j).set j (j : Int) = stpE n (j + 1) := by
  have := marks_step 0 (List.replicate n (0 : Int)) j (by simpa using h)
  rw [Int.zero_add] at this
  exact this
theorem stpE_all (n : Nat) : stpE n n = marks 0 n := by unfold stpE; rw [List.drop_of_length_le (by simp), List.append_nil]

set_option maxRecDepth 100000 in
set_option maxHeartbeats 1600000 in
theorem everybodyAtTurn_any (W : World) : Calls Try.prog 31 #[] W fun e w' => e = .returned (.agg (exC (marks 0 12)).toArray) ∧ Kp Nw W w' := by
  obtain ⟨hz0, _⟩ := zero_of_info exZero
  obtain ⟨Z, hZ⟩ : ∃ Z : List Int, Z = List.replicate 12 0 := ⟨_, rfl⟩
  have hZl : Z.length = 12 := by rw [hZ, List.length_replicate]
  have hz : ∀ w, (zeroValue 40).run Try.prog w = .ok (.agg (exC Z).toArray) w := by rw [hZ]; exact hz0
  have hl1 : (exC Z).length = 12 := by rw [exC_length, hZl]
  have hZs : Z = stpE 12 0 := by rw [hZ]; rfl
  have HZS := Lib.hid hZs
  have HZL := Lib.hid hZl
  clear hz0 hZ hZs
  go_enter Try.func31, Try.ntmps31
  go_wp2
  obtain ⟨w2, hw2⟩ : ∃ w2, w2 = ((W.alloc (.cells (exC Z).toArray 40)).alloc (.cells (exC Z).toArray 40)) := ⟨_, rfl⟩
  obtain ⟨p0, p1, k2⟩ := ex_alloc2 W Z Z w2 hw2
  have P0 := Lib.hid p0
  have P1 := Lib.hid p1
  have K2 := Lib.hid k2
  rw [← hw2]
  clear p0 p1 k2 hw2
  go_loopw [3] (fun i wq => ∃ (j : Nat) (c : List Int) (wr : World), j ≤ 12 ∧ i = .int .i64 j ∧ wr = wq ∧ c = stpE 12 j ∧ Eb wr (W.heap.size + 1) c ∧ Eb wr W.heap.size Z ∧ Kp Nw W wr) (fun i _ => 12 - (intOf i).toNat)
  case atStart => exact ⟨0, Z, _, Nat.zero_le _, rfl, rfl, HZS.out, P1.out, P0.out, K2.out⟩
  case round =>
    obtain ⟨j, c, wr, hj, rfl, rfl, hc, h1, h0, hk⟩ := hrel
    have hcl : c.length = 12 := by rw [hc]; exact stpE_len 12 j hj
    have HC := Lib.hid hc
    have HCL := Lib.hid hcl
    have HB1 := Lib.hid h1
    have HB0 := Lib.hid h0
    have HK := Lib.hid hk
    have j0 : (0 : Int) ≤ j := Int.natCast_nonneg _
    by_cases hlt : j < 12
    · have j1 : (j : Int) < 12 := by omega
      have e1 : IntKind.i64.wrap ((j : Int) + 1) = (j : Int) + 1 := IntWalk.i64_in _ (by omega)
      have s1 := h1.cell j (by omega)
      have f1 := h1.frozen j
      clear h1 h0 hk hc hcl
      go_wp2
      go_roundw
      case rel => exact ⟨j + 1, c.set j (j : Int), _, by omega, by go_num, rfl, by rw [HC.out, stpE_set 12 j hlt], HB1.out.set j _, HB0.out.other _ (by show W.heap.size ≠ W.heap.size + 1; omega) _, HK.out.setCell (.inr (by show W.heap.size ≤ W.heap.size + 1; omega)) _⟩
      case measure => simp [intOf] <;> omega
    · have ej : j = 12 := by omega
      subst ej
      have hM : c = marks 0 12 := by rw [hc, stpE_all]
      have HM := Lib.hid hM
      have hst := run_storeCells_ex h0 HZL.out hcl
      have HR := Lib.hid (h0.row c)
      have HK2 := Lib.hid (hk.setRow' (.inr (Nat.le_refl W.heap.size)) (exC c).toArray)
      have hl2 : (exC c).length = 12 := by rw [exC_length, hcl]
      clear h1 h0 hk hc hcl hM
      go_wp2_with (first | (refine wpList_load_ex rfl (.tmp 1) rfl (W.heap.size + 1) rfl c HB1.out HCL.out ?_))
      refine bodyPost_ret (ret_ex rfl rfl HR.out HCL.out) rfl ?_
      exact ⟨by rw [HM.out], HK2.out⟩
end Go.Proofs.Ytgbmoipkgnklfaa
