/- slices.Values of a list of numbers gives them one after the other to any loop body that keeps what lay there before; slices.Collect makes a list of them again, slices.Sorted a sorted one; no condition but that the list is short. -/
import Derived.RangeFuncNested
import Derived.RangeFuncBound
import Derived.RangeFuncCalls
import Derived.RangeFuncLeaves
import Derived.Shelf.Abstract
import Derived.Shelf.RegionOpen
import Derived.WalkKit
import Derived.OwnWalkIn
import Derived.TacticsInMore
import Derived.LoopNIn
import Derived.LoopIn
import Derived.Sort.QuietIn
import Derived.IntWalk
import Derived.Lib.Hide
import Derived.Maps.AppendAt
import Derived.Maps.OwnIn
import Derived.Test.YtbndgkjnigehgabOnes
namespace Go.Proofs.Ytbndgkjnigehgab
open Go.RowKit Go.Shelf Go.IntWalk
attribute [local go_sem] Oper.semAt_some

/-- what lay below a block is as it was -/
def KB (B : Nat) (A C : World) : Prop := A.heap.size ≤ C.heap.size ∧ ∀ k, k < B → C.heap[k]? = A.heap[k]?
theorem KB.trans {B : Nat} {X Y Z : World} (h : KB B X Y) (k : KB B Y Z) : KB B X Z := ⟨Nat.le_trans h.1 k.1, fun i hi => (k.2 i hi).trans (h.2 i hi)⟩
theorem KB.refl (B : Nat) (A : World) : KB B A A := ⟨Nat.le_refl _, fun _ _ => rfl⟩
theorem KB.put {B : Nat} (W : World) (l : Nat) (o' : Obj) (hl : B ≤ l) : KB B W (W.putObj l o') := ⟨by simp, fun k hk => World.putObj_heap_other (by omega)⟩

set_option maxRecDepth 100000 in
set_option maxHeartbeats 4000000 in
theorem values1_in (n : Nat) (hn : 1 ≤ n) (l B Bn g off m c : Nat) (xs : List Int) (hm : xs.length = m) (hml : m ≤ 1000) (hgB : g < B) (J Jx : List Int → World → Prop) (W : World)
    (hY : ∀ pre x W, J pre W → pre.length < m → YieldAt Fence.wide (n - 1) Try.prog l #[.int .i64 x] W fun e W' =>
      (e = .returned (.bool true) ∧ J (pre ++ [x]) W' ∧ KB B W W') ∨ (e = .returned (.bool false) ∧ Jx (pre ++ [x]) W'))
    (hb : W.cell? ⟨Bn, 0, none⟩ = some (.slice (some ⟨g, off, none⟩) m c)) (hc : ∀ j, j < m → W.cell? ⟨g, off + j, none⟩ = some (.int .i64 (xs.getD j 0))) (h0 : J [] W) :
    CallsIn Fence.wide n Try.prog 32 #[.func (.yield l) #[] #[], .pointer (some ⟨Bn, 0, none⟩)] W fun e W' => (∃ v, e = .returned v) ∧
      ((∃ ys, ys = xs ∧ J ys W') ∨ (∃ pre, pre <+: xs ∧ Jx pre W')) := by
  have HY := Lib.hid hY
  have HM := Lib.hid hm
  have HC := Lib.hid hc
  clear hY hm hc
  refine callsIn_of_wp Try.func32 rfl trivial ?_ rfl
  simp only [Try.ntmps32, List.size_toArray, List.length_cons, List.length_nil, Nat.reduceAdd, Nat.reduceSub, Array.replicate_succ, Array.replicate_zero, List.push_toArray, List.append_toArray, List.nil_append, List.cons_append]
  gi_wp2
  gi_loopw [7] (fun i wr => ∃ j : Nat, j ≤ m ∧ i = .int .i64 j ∧ Hid (J (xs.take j) wr) ∧ Hid (∀ q, q < m → wr.cell? ⟨g, off + q, none⟩ = some (.int .i64 (xs.getD q 0)))) (fun i _ => m - (intOf i).toNat)
  case atStart => exact ⟨0, Nat.zero_le _, rfl, Lib.hid (by rw [List.take_zero]; exact h0), HC⟩
  case round =>
    rename_i wr
    obtain ⟨j, hj, rfl, HJS, HCW⟩ := hrel
    have j0 : (0 : Int) ≤ j := Int.natCast_nonneg _
    by_cases hlt : j < m
    · have jm : (j : Int) < m := by omega
      have cx := HCW.out j hlt
      obtain ⟨x, hx⟩ : ∃ x, xs.getD j 0 = x := ⟨_, rfl⟩
      rw [hx] at cx
      have hjx : j < xs.length := by rw [HM.out]; exact hlt
      have HX : Hid (xs.take (j + 1) = xs.take j ++ [x]) := Lib.hid (by rw [List.take_succ_eq_append_getElem hjx, ← hx]; simp [List.getD, hjx])
      have hlen : (xs.take j).length < m := by rw [List.length_take, HM.out]; omega
      obtain ⟨fn, tmps, assign, body, hy, hR⟩ := HY.out (xs.take j) x wr HJS.out hlen
      have HJ1 : Hid (j + 1 ≤ m) := Lib.hid (by omega)
      clear hx hjx hlen
      gi_wp2
      refine hR.mono ?_
      rintro e W3 (⟨rfl, hJ3, hk3⟩ | ⟨rfl, hJx3⟩)
      · have HJ3 : Hid (J (xs.take (j + 1)) W3) := Lib.hid (by rw [HX.out]; exact hJ3)
        have HC3 : Hid (∀ q, q < m → W3.cell? ⟨g, off + q, none⟩ = some (.int .i64 (xs.getD q 0))) := Lib.hid (fun q hq => (World.cell?_of_block (hk3.2 g hgB)).trans (HCW.out q hq))
        clear hJ3 hk3 hR hy
        gi_wp2
        go_roundw
        case rel => exact ⟨j + 1, HJ1.out, by go_num, HJ3, HC3⟩
        case measure => have := HJ1.out; simp [intOf]; omega
      · gi_wp2
        refine bodyPost_ret (results_none rfl _ _ _) rfl ?_
        exact ⟨⟨_, rfl⟩, .inr ⟨_, ⟨xs.drop (j + 1), by rw [← HX.out, List.take_append_drop]⟩, hJx3⟩⟩
    · have e : j = m := by omega
      subst e
      gi_wp2
      go_end0
      exact ⟨⟨_, rfl⟩, .inl ⟨_, rfl, by have := HJS.out; rwa [List.take_of_length_le (by rw [HM.out]; exact Nat.le_refl _)] at this⟩⟩

theorem intRow_info : (Try.prog.info? 3).map (fun i => (i.zero, i.size, i.bytes)) = some (some (.int .i64 0), 1, 8) := by kernel_rfl
theorem boxT : Try.prog.underlying 22 = some (.slice 3) := Try.underlying22

set_option maxRecDepth 100000 in
set_option maxHeartbeats 4000000 in
theorem appendVals_in (n : Nat) (hn : 3 ≤ n) (Bn g off m c : Nat) (xs : List Int) (w : World) (hm : xs.length = m) (hml : m ≤ 1000) (hb : w.cell? ⟨Bn, 0, none⟩ = some (.slice (some ⟨g, off, none⟩) m c)) (hcs : ∀ j, j < m → w.cell? ⟨g, off + j, none⟩ = some (.int .i64 (xs.getD j 0))) (h1m : 1 ≤ m) :
    CallsIn Fence.wide n Try.prog 37 #[.slice none 0 0, .func (.func 32) #[] #[.pointer (some ⟨Bn, 0, none⟩)]] w fun e W' => ∃ v, e = .returned v ∧ W'.ownsRow w.heap.size 3 1 v xs.length (xs.map (Value.int .i64)) ∧ Kp Nw w W' := by
  have hn1 : 1 ≤ n := by omega
  have hBn : Bn < w.heap.size := World.block_lt_of_cell? w _ hb
  have hgB : g < w.heap.size := World.block_lt_of_cell? w _ (hcs 0 (by omega))
  obtain ⟨i0, hi, hz0, hz1, hz2⟩ := info_parts intRow_info
  refine callsIn_of_wp_marks Try.func37 rfl trivial ?_ rfl
  simp only [Try.ntmps37, List.size_toArray, List.length_cons, List.length_nil, Nat.reduceAdd, Nat.reduceSub, Array.replicate_succ, Array.replicate_zero, List.push_toArray, List.append_toArray, List.nil_append, List.cons_append]
  gi_wp2
  have bS := Boxed.new w 22 (.slice none 0 0)
  have hB0 : Below w.heap.size w (w.alloc (.cells #[.slice none 0 0] 22)) := (Below.refl _ w).alloc (Nat.le_refl _) _
  have hsz : (w.alloc (.cells #[.slice none 0 0] 22)).heap.size = w.heap.size + 1 := by simp
  obtain ⟨W0, hW0⟩ : ∃ W0, w.alloc (.cells #[.slice none 0 0] 22) = W0 := ⟨_, rfl⟩
  have hk0 : ∀ k, k < w.heap.size → W0.heap[k]? = w.heap[k]? := fun k hk => by rw [← hW0]; exact Below.heap_alloc w _ k hk
  rw [hW0] at bS hB0 hsz ⊢
  clear hW0
  have hc0 : W0.cell? ⟨Bn, 0, none⟩ = some (.slice (some ⟨g, off, none⟩) m c) := (World.cell?_of_block (hk0 Bn hBn)).trans hb
  have hcs0 : ∀ j, j < m → W0.cell? ⟨g, off + j, none⟩ = some (.int .i64 (xs.getD j 0)) := fun j hj => (World.cell?_of_block (hk0 g hgB)).trans (hcs j hj)
  have hB1 : Bn < W0.heap.size := by omega
  have hgB1 : g < W0.heap.size := by omega
  refine wpIn_rangeFunc_ownH rfl hn1 (gf := 32) (lb := #[.pointer (some ⟨Bn, 0, none⟩)]) rfl trivial (enters_of Try.func32 (by kernel_rfl) rfl)
    (encs := fun x : Int => #[.int .i64 x]) (Kp := KB w.heap.size) (S := fun ys => ys = xs) (Sp := fun pre => pre <+: xs) (N := m) (w0 := W0)
    (fun l J Jx W hW _ _ hY h0 => values1_in (n - 1) (by omega) l w.heap.size Bn g off m c xs hm hml hgB J Jx W (fun pre x W hJ hl => hY pre x W hJ hl) ((hW.cell (p := ⟨Bn, 0, none⟩) hB1).trans hc0) (fun j hj => (hW.cell (p := ⟨g, off + j, none⟩) hgB1).trans (hcs0 j hj)) h0)
    (fun h k => h.trans k) (fun W l o o' hl h ho _ => KB.put W l o' (by omega)) (Below.refl _ _) (fun _ => rfl)
    (fun pre W => (∃ v, Boxed W w.heap.size 22 v ∧ W.ownsRow w.heap.size 3 1 v pre.length (pre.map (Value.int .i64)) ∧ (v = .slice none 0 0 ↔ pre = [])) ∧ Below w.heap.size w W)
    (fun _ _ _ => False)
    (OwnFrom.and (Own.from (holdsRow_own w.heap.size w.heap.size 22 3 1 (fun pre : List Int => pre.length) (fun pre => pre.map (Value.int .i64)) (fun pre v => v = .slice none 0 0 ↔ pre = [])) _) (ownFrom_below (Nat.le_refl _) (by omega)))
    (fun _ _ _ _ _ hs _ _ => hs)
    ⟨⟨_, bS, World.ownsRow_nil _ _ _ _, by simp⟩, hB0⟩
    (fun x a' _ => a' = { tmps := #[.slice none 0 0, .func (.func 32) #[] #[.pointer (some ⟨Bn, 0, none⟩)], .pointer (some ⟨w.heap.size, 0, none⟩), undef, .slice none 0 0, .int .i64 x, .func (.func 32) #[] #[.pointer (some ⟨Bn, 0, none⟩)], .int .i64 x, undef, undef, undef, undef, undef], defers := [] })
    (fun x a' _ X Y row hs hg hr => hs)
    ?assign ?body ?done ?stop
  case assign =>
    rintro l pre x W K hI hK
    gi_wp2
    exact hK _ _ ((KeepsOthers.refl _).from _) (KB.refl _ _) hI rfl
  case body =>
    rintro l pre x a' W hl ⟨r, hr⟩ ⟨⟨v, hv, hrow, hG⟩, hB⟩ rfl hlt
    have hc := hv.cell
    have hbs := hB.size
    have HR := Lib.hid hrow
    gi_wp2_with (gi_at_builtin; refine wpListIn_append_own _ rfl _ _ 22 rfl w.heap.size 3 i0 (.int .i64 0) 1 8 Try.underlying22 hi hz0 hz1 hz2 rfl (by decide) v _ _ rfl (HR.out.alloc _) ⟨W.heap.size, 0, none⟩ 1 1 [.int .i64 x] rfl rfl (cell_one_new _ _ _) (by simp [Value.oneCell']) (by unfold maxLen; omega) (by omega) (by simp; omega) ?_)
    intro v' w1 hown' hgr _
    obtain ⟨g', cap', rfl⟩ := ownsRow_succ hown'
    obtain ⟨hv1, hv2, hr2, hk2, hb2⟩ := hv.appended (by decide) hrow hB.size (Nat.le_refl _) hown' hgr
    have hc1 := hv1.cell
    have hf1 := hv1.frozen
    gi_wp2
    exact ⟨hk2.from _, ⟨hb2.size, fun k hk => hb2.block k hk⟩, ⟨_, hv2, by rw [List.length_append, List.map_append]; exact hr2, by simp⟩, hB.trans hb2⟩
  case done =>
    rintro D ys W hD rfl ⟨⟨v, hv, hrow, hG⟩, hB⟩ hK
    have hc := hv.cell
    gi_wp2
    refine ⟨by simp, .inl ⟨_, _, rfl, run_takeDeferred hK, ?_⟩⟩
    exact ⟨_, results_tmp rfl _ _ _, v, rfl, ownsRow_putObj hrow _ hK rfl, Kp.of_below (hB.trans (belowK_b (w := w) (Nat.le_refl _) W D _ _ (by omega) hK rfl rfl))⟩
  case stop =>
    rintro D c pre W _ _ h _
    exact h.elim

set_option maxHeartbeats 1000000 in
theorem collectVals_any (Bn g off m c : Nat) (xs : List Int) (w : World) (hm : xs.length = m) (hml : m ≤ 1000) (hb : w.cell? ⟨Bn, 0, none⟩ = some (.slice (some ⟨g, off, none⟩) m c)) (hcs : ∀ j, j < m → w.cell? ⟨g, off + j, none⟩ = some (.int .i64 (xs.getD j 0))) (h1m : 1 ≤ m) :
    Calls Try.prog 30 #[.func (.func 32) #[] #[.pointer (some ⟨Bn, 0, none⟩)]] w (Makes w xs) := by
  have C := Lib.hid (callsIn_wide.1 (appendVals_in 3 (Nat.le_refl _) Bn g off m c xs w hm hml hb hcs h1m))
  go_enter Try.func30, Try.ntmps30
  go_wp2_with fail
  refine C.out.mono ?_
  rintro e w1 ⟨v, rfl, hs, hk⟩
  have HS := Lib.hid hs; have HK := Lib.hid hk
  clear hs hk
  go_wp2
  go_ret
  exact ⟨v, rfl, HS.out, HK.out⟩

set_option maxHeartbeats 1000000 in
theorem sortedVals_any (Bn g off m c : Nat) (xs : List Int) (w : World) (hm : xs.length = m) (hml : m ≤ 1000) (hb : w.cell? ⟨Bn, 0, none⟩ = some (.slice (some ⟨g, off, none⟩) m c)) (hcs : ∀ j, j < m → w.cell? ⟨g, off + j, none⟩ = some (.int .i64 (xs.getD j 0))) (h1m : 1 ≤ m) :
    Calls Try.prog 20 #[.func (.func 32) #[] #[.pointer (some ⟨Bn, 0, none⟩)]] w (Makes w (srt xs)) := by
  have C := Lib.hid (collectVals_any Bn g off m c xs w hm hml hb hcs h1m)
  have HM := Lib.hid hm
  go_enter Try.func20, Try.ntmps20
  go_wp2_with fail
  refine C.out.mono ?_
  rintro e w1 ⟨v, rfl, hs, hk⟩
  have HS := Lib.hid hs; have HK := Lib.hid hk
  clear hs hk
  go_wp2_with fail
  refine (sort_any v xs _ _ HS.out (by rw [HM.out]; omega) (by rw [HM.out]; omega)).mono ?_
  rintro e w2 ⟨rfl, hs2, hk2⟩
  have HS2 := Lib.hid hs2
  have HK2 := Lib.hid (HK.out.own HS.out hk2)
  clear hs2 hk2
  go_wp2
  go_ret
  exact ⟨v, rfl, HS2.out, HK2.out⟩

set_option maxHeartbeats 1000000 in
theorem valuesOf_any (A : Option Addr) (n c : Nat) (W : World) :
    Calls Try.prog 21 #[.slice A n c] W fun e w' => e = .returned (.func (.func 32) #[] #[.pointer (some ⟨W.heap.size, 0, none⟩)]) ∧ w' = W.alloc (.cells #[.slice A n c] 22) := by
  have hmf : ∀ (fn : Fn) (first cap : Array Value) (w : World), (Instr.makeFunc fn first cap).run Try.prog w = .ok (.func fn first cap) w := fun _ _ _ _ => rfl
  go_enter Try.func21, Try.ntmps21
  go_wp2
  go_ret
  exact ⟨rfl, rfl⟩
end Go.Proofs.Ytbndgkjnigehgab
