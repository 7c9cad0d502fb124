/- The program's iterator over rounds (roundsOf) gives the rounds of its number of people one after the other, to any loop body that keeps the box of that number and the round's own box; no condition but that the number is in the chapter's range. -/
import Derived.RangeFuncNested
import Derived.RangeFuncBound
import Derived.RangeFuncCalls
import Derived.RangeFuncLeaves
import Derived.Shelf.Abstract
import Derived.Shelf.RegionOpen
import Derived.WalkKit
import Derived.OwnWalkIn
import Derived.TacticsInMore
import Derived.LoopNIn
import Derived.LoopIn
import Derived.Sort.QuietIn
import Derived.IntWalk
import Derived.Lib.Hide
import Derived.Test.YteodhoekkeelcaaRnd
namespace Go.Proofs.Yteodhoekkeelcaa
open Go.RowKit Go.Shelf Go.IntWalk
attribute [local go_sem] Oper.semAt_some

/-- a round as the program holds it -/
def rndC (x : Rnd) : Array Value := #[.int .i64 x.f, .int .i64 x.g, .int .i64 x.s, .int .i64 x.b]
def rndV (x : Rnd) : Value := .agg (rndC x)

set_option maxRecDepth 100000 in
set_option maxHeartbeats 4000000 in
theorem rounds1_in (n : Nat) (hn : 1 ≤ n) (l Bn p : Nat) (hp1 : 1 ≤ p) (hp2 : p ≤ 1000000000000) (K : World → World → Prop)
    (hK1 : ∀ (W : World) x W', K (W.alloc (.cells (rndC x) 40)) W' → ∀ j, j < 4 → W'.cell? ⟨W.heap.size, j, none⟩ = (rndC x)[j]?)
    (hK2 : ∀ (W W' : World), K W W' → W'.cell? ⟨Bn, 0, none⟩ = W.cell? ⟨Bn, 0, none⟩)
    (J Jx : List Rnd → World → Prop) (W : World) (hJ : AbidesFrom W.heap.size J)
    (hY : ∀ pre x W, Ok x → J pre W → pre.length < 41 → YieldAt Fence.wide (n - 1) Try.prog l #[rndV x] W fun e W' =>
      (e = .returned (.bool true) ∧ J (pre ++ [x]) W' ∧ K W W') ∨ (e = .returned (.bool false) ∧ Jx (pre ++ [x]) W'))
    (hBn : W.cell? ⟨Bn, 0, none⟩ = some (.int .i64 p)) (h0 : J [] W) :
    CallsIn Fence.wide n Try.prog 48 #[.func (.yield l) #[] #[], .pointer (some ⟨Bn, 0, none⟩)] W fun e W' => (∃ v, e = .returned v) ∧
      ((∃ ys, ys = rounds p ∧ J ys W') ∨ (∃ pre, pre <+: rounds p ∧ Jx pre W')) := by
  have HLEN := Lib.hid (rounds_len p hp2)
  have step : ∀ {pre : List Rnd} {A B : World}, J pre A → A.grownBy B none → J pre B := fun h hg => hJ _ _ _ none h hg (fun r e => by cases e)
  have HJ := Lib.hid hJ
  have HY := Lib.hid hY
  have HK1 := Lib.hid hK1
  have HK2 := Lib.hid hK2
  clear hJ hY hK1 hK2
  refine callsIn_of_wp Try.func48 rfl trivial ?_ rfl
  simp only [Try.ntmps48, List.size_toArray, List.length_cons, List.length_nil, Nat.reduceAdd, Nat.reduceSub, Array.replicate_succ, Array.replicate_zero, List.push_toArray, List.append_toArray, List.nil_append, List.cons_append]
  gi_wp2
  gi_quiet (fail)
  gi_wp2
  have hcell : (W.drewN nq).cell? ⟨Bn, 0, none⟩ = some (.int .i64 p) := hBn
  have hJ0 : J [] (W.drewN nq) := step h0 ⟨rfl, rfl, rfl, Nat.le_refl _, fun _ _ _ => rfl⟩
  gi_loopw [3, 4, 5, 6] (fun vf vg vl vq wr => ∃ (pre : List Rnd) (f g m q : Nat), vf = .int .i64 f ∧ vg = .int .i64 g ∧ vl = .int .i64 m ∧ vq = .int .i64 q ∧ Hid (rounds p = pre ++ rnds p f g m q) ∧ Hid (Fit p f g m q) ∧ J pre wr ∧ wr.cell? ⟨Bn, 0, none⟩ = some (.int .i64 p)) (fun _ _ vl _ _ => (intOf vl).toNat)
  case atStart => exact ⟨[], 0, 1, p, 1, rfl, rfl, rfl, rfl, Lib.hid rfl, Lib.hid (Fit.start p hp1), hJ0, hcell⟩
  case round =>
    rename_i wr
    obtain ⟨pre, f, g, m, q, rfl, rfl, rfl, rfl, hx, hfit, hJs, hc⟩ := hrel
    by_cases hm : 2 ≤ m
    · have hg := hfit.out.gap hm
      have hq := hfit.out.q1
      have hf := hfit.out.f1
      have hmp := hfit.out.l2
      have HX := Lib.hid (show rounds p = (pre ++ [⟨f + q * g, 2 * g, rsz m q, p - m⟩]) ++ rnds p (f + (1 - q) * g) (2 * g) (m - rsz m q) ((m + q) % 2) by rw [hx.out, rnds_go p f g m q hm hq]; simp)
      have HF := Lib.hid (hfit.out.next hm)
      have hb := rsz_bd m q hm hq
      have hpl : pre.length < 41 := by
        have := HLEN.out
        rw [hx.out, rnds_go p f g m q hm hq] at this
        simp at this
        omega
      clear hx hfit
      rcases (show q = 0 ∨ q = 1 by omega) with rfl | rfl
      · have ex : rndC ⟨f + 0 * g, 2 * g, rsz m 0, p - m⟩ = #[.int .i64 ((f : Int)), .int .i64 (2 * (g : Int)), .int .i64 (((m : Int) + 1) / 2), .int .i64 ((p : Int) - m)] := by
          unfold rndC rsz
          have e3 : ((p - m : Nat) : Int) = (p : Int) - m := by omega
          simp only [e3]
          simp
        have hy := HY.out pre ⟨f + 0 * g, 2 * g, rsz m 0, p - m⟩ (wr.alloc (.cells (rndC ⟨f + 0 * g, 2 * g, rsz m 0, p - m⟩) 40)) (rounds_ok p hp1 hp2 _ (by rw [HX.out]; simp)) (step hJs (World.grownBy_alloc _ _ none)) hpl
        have HK := Lib.hid (fun W' h => HK1.out wr ⟨f + 0 * g, 2 * g, rsz m 0, p - m⟩ W' h)
        unfold rndV at hy
        rw [ex] at hy HK
        obtain ⟨fn, tmps, assign, body, hy, hR⟩ := hy
        clear ex
        gi_wp2
        refine hR.mono ?_
        rintro e W3 (⟨rfl, hJ3, hk3⟩ | ⟨rfl, hJx3⟩)
        · have c2 := HK.out W3 hk3 2 (by omega)
          have cb := (HK2.out _ _ hk3).trans ((World.cell?_of_block (Below.heap_alloc wr _ _ (World.block_lt_of_cell? wr _ hc))).trans hc)
          simp at c2
          gi_wp2
          gi_quiet (fail)
          gi_wp2
          have hgr : W3.grownBy (W3.drewN nq) none := ⟨rfl, rfl, rfl, Nat.le_refl _, fun _ _ _ => rfl⟩
          have hJ4 := step hJ3 hgr
          refine ⟨⟨pre ++ [⟨f + 0 * g, 2 * g, rsz m 0, p - m⟩], f + (1 - 0) * g, 2 * g, m - rsz m 0, (m + 0) % 2, by congr 1; simp, by congr 1, by congr 1; unfold rsz; omega, by congr 1, HX, HF, hJ4, cb⟩, ?_⟩
          simp [intOf]; omega
        · gi_wp2
          refine bodyPost_ret (results_none rfl _ _ _) rfl ?_
          exact ⟨⟨_, rfl⟩, .inr ⟨_, ⟨_, HX.out.symm⟩, hJx3⟩⟩
      · have ex : rndC ⟨f + 1 * g, 2 * g, rsz m 1, p - m⟩ = #[.int .i64 ((f : Int) + g), .int .i64 (2 * (g : Int)), .int .i64 ((m : Int) / 2), .int .i64 ((p : Int) - m)] := by
          unfold rndC rsz
          have e3 : ((p - m : Nat) : Int) = (p : Int) - m := by omega
          simp only [e3]
          simp
        have hy := HY.out pre ⟨f + 1 * g, 2 * g, rsz m 1, p - m⟩ (wr.alloc (.cells (rndC ⟨f + 1 * g, 2 * g, rsz m 1, p - m⟩) 40)) (rounds_ok p hp1 hp2 _ (by rw [HX.out]; simp)) (step hJs (World.grownBy_alloc _ _ none)) hpl
        have HK := Lib.hid (fun W' h => HK1.out wr ⟨f + 1 * g, 2 * g, rsz m 1, p - m⟩ W' h)
        unfold rndV at hy
        rw [ex] at hy HK
        obtain ⟨fn, tmps, assign, body, hy, hR⟩ := hy
        clear ex
        gi_wp2
        refine hR.mono ?_
        rintro e W3 (⟨rfl, hJ3, hk3⟩ | ⟨rfl, hJx3⟩)
        · have c2 := HK.out W3 hk3 2 (by omega)
          have cb := (HK2.out _ _ hk3).trans ((World.cell?_of_block (Below.heap_alloc wr _ _ (World.block_lt_of_cell? wr _ hc))).trans hc)
          simp at c2
          gi_wp2
          gi_quiet (fail)
          gi_wp2
          have hgr : W3.grownBy (W3.drewN nq) none := ⟨rfl, rfl, rfl, Nat.le_refl _, fun _ _ _ => rfl⟩
          have hJ4 := step hJ3 hgr
          refine ⟨⟨pre ++ [⟨f + 1 * g, 2 * g, rsz m 1, p - m⟩], f + (1 - 1) * g, 2 * g, m - rsz m 1, (m + 1) % 2, by congr 1; simp, by congr 1, by congr 1; unfold rsz; omega, by congr 1, HX, HF, hJ4, cb⟩, ?_⟩
          simp [intOf]; omega
        · gi_wp2
          refine bodyPost_ret (results_none rfl _ _ _) rfl ?_
          exact ⟨⟨_, rfl⟩, .inr ⟨_, ⟨_, HX.out.symm⟩, hJx3⟩⟩
    · have hm1 : m = 1 := by have := hfit.out.l1; omega
      subst hm1
      have hg := hfit.out.g1
      have hf := hfit.out.f1
      have HX := Lib.hid (show rounds p = pre ++ [⟨f, g, 1, p - 1⟩] by rw [hx.out, rnds_end p f g 1 q hm])
      have hpl : pre.length < 41 := by
        have := HLEN.out
        rw [HX.out] at this
        simp at this
        omega
      have ex : rndC ⟨f, g, 1, p - 1⟩ = #[.int .i64 (f : Int), .int .i64 (g : Int), .int .i64 1, .int .i64 ((p : Int) - 1)] := by
        unfold rndC
        congr 1
        simp; omega
      have hy := HY.out pre ⟨f, g, 1, p - 1⟩ wr (rounds_ok p hp1 hp2 _ (by rw [HX.out]; simp)) hJs hpl
      unfold rndV at hy
      rw [ex] at hy
      obtain ⟨fn, tmps, assign, body, hy, hR⟩ := hy
      clear hx hfit ex hm
      gi_wp2
      refine hR.mono ?_
      rintro e W3 (⟨rfl, hJ3, hk3⟩ | ⟨rfl, hJx3⟩)
      · gi_wp2
        go_end0
        exact ⟨⟨_, rfl⟩, .inl ⟨_, HX.out.symm, hJ3⟩⟩
      · gi_wp2
        go_end0
        exact ⟨⟨_, rfl⟩, .inr ⟨_, ⟨[], by rw [HX.out]; simp⟩, hJx3⟩⟩
end Go.Proofs.Yteodhoekkeelcaa
