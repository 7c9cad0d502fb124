/- Exchanges compared as wholes, in the program; a step that loads one; no condition. -/
import Derived.Test.YtgbmoipkgnklfaaExO
import Derived.Laws.StructEq
namespace Go.Proofs.Ytgbmoipkgnklfaa
open Go.ChangeShapes Go.WideShapes Go.ChangeAt Go.RowKit

theorem exEqGuard : Try.prog.eqGuardType Try.prog.depth 40 = false := by kernel_rfl
theorem exElemT : Try.prog.elem 40 = 3 := by kernel_rfl
theorem intUnd : Try.prog.underlying 3 = some (.int .i64) := by kernel_rfl
theorem intSz (w : World) : (sizeOf 3).run Try.prog w = .ok 1 w := by kernel_rfl
theorem run_part_int (w : World) (c : List Int) (i : Nat) (h : i < c.length) : (part 3 (exC c).toArray i).run Try.prog w = .ok (.int .i64 (c.getD i 0)) w := by
  have e := exC_get c i h
  unfold part
  simp [Sem.run_bind, isAgg, run_underlying intUnd, e]
theorem seg_succ (a : List Int) (s k : Nat) (h : s + (k + 1) ≤ a.length) : (a.drop s).take (k + 1) = a.getD s 0 :: (a.drop (s + 1)).take k := by
  have h1 : s < a.length := by omega
  rw [List.drop_eq_getElem_cons h1, List.take_succ_cons]
  congr 1
  simp [List.getD, h1]
theorem eq_from (a b : List Int) (d : Nat) (w : World) : ∀ (k s : Nat), s + k ≤ a.length → s + k ≤ b.length →
    (forIn (List.range' s k) ((none : Option Bool), ()) fun i (__s : Option Bool × Unit) => do
            let x ← part 3 (exC a).toArray (i * 1)
            let y ← part 3 (exC b).toArray (i * 1)
            let r ← Op.equalIn (d + 1) 3 x y
            if (!r) = true then pure (ForInStep.done (some false, ())) else pure (ForInStep.yield (none, ()))).run Try.prog w = .ok (if (a.drop s).take k = (b.drop s).take k then none else some false, ()) w
  | 0, s, _, _ => by
    rw [if_pos (by simp)]
    simp
  | k + 1, s, h1, h2 => by
    rw [List.range'_succ, seg_succ a s k h1, seg_succ b s k h2]
    simp only [List.forIn_cons, Sem.run_bind, Nat.mul_one]
    rw [run_part_int w a s (by omega)]
    simp only [Result.andThen_ok]
    rw [run_part_int w b s (by omega)]
    simp only [Result.andThen_ok]
    rw [run_equalIn_int w d 3 .i64 .i64 _ _ intUnd]
    simp only [Result.andThen_ok]
    by_cases he : a.getD s 0 = b.getD s 0
    · have hb : (!(a.getD s 0 == b.getD s 0)) = false := by rw [he]; simp
      rw [hb]
      simp only [Bool.false_eq_true, if_false, Sem.run_pure, Result.andThen_ok]
      have ih := eq_from a b d w k (s + 1) (by omega) (by omega)
      simp only [Nat.mul_one] at ih
      rw [ih, he]
      by_cases hc : (a.drop (s + 1)).take k = (b.drop (s + 1)).take k
      · rw [if_pos hc, if_pos (by rw [hc])]
      · rw [if_neg hc, if_neg (fun h => hc (by injection h))]
    · have hb : (!(a.getD s 0 == b.getD s 0)) = true := by rw [Bool.not_eq_true', beq_eq_false_iff_ne]; exact he
      have hne : ¬ (a.getD s 0 :: (a.drop (s + 1)).take k = b.getD s 0 :: (b.drop (s + 1)).take k) := fun h => he (by injection h)
      rw [hb, if_neg hne, if_pos rfl]
      simp only [Sem.run_pure, Result.andThen_ok]
theorem run_eq_ex (a b : List Int) (w : World) (ha : a.length = 12) (hb : b.length = 12) (d : Nat) :
   (Op.equalIn (d + 1 + 1) 40 (.agg (exC a).toArray) (.agg (exC b).toArray)).run Try.prog w = .ok (decide (a = b)) w := by
  obtain ⟨e, he⟩ : ∃ e, d + 1 = e := ⟨_, rfl⟩
  rw [he]
  simp only [Op.equalIn.eq_2, Sem.run_bind, run_underlying exArr, Result.andThen_ok, exElem]
  rw [exLen, exElemT, ← he]
  simp only [Std.Legacy.Range.forIn_eq_forIn_range']
  have h := eq_from a b d w 12 0 (by omega) (by omega)
  rw [List.drop_zero, List.drop_zero, List.take_of_length_le (by omega), List.take_of_length_le (by omega)] at h
  refine (congrArg (fun r => Result.andThen r _) h).trans ?_
  by_cases hc : a = b
  · rw [if_pos hc, decide_eq_true hc]
    simp only [Result.andThen_ok, Sem.run_pure]
  · rw [if_neg hc, decide_eq_false hc]
    simp only [Result.andThen_ok, Sem.run_pure]
theorem run_eql_ex (a b : List Int) (w : World) (ha : a.length = 12) (hb : b.length = 12) : (binOp .eql 40 (.agg (exC a).toArray) (.agg (exC b).toArray)).run Try.prog w = .ok (.bool (decide (a = b))) w := by
  rw [run_eql_struct]
  have h : (Op.equalIn 10000 40 (.agg (exC a).toArray) (.agg (exC b).toArray)).run Try.prog w = .ok (decide (a = b)) w := run_eq_ex a b w ha hb 9998
  rw [h]
  rfl
theorem run_neq_ex (a b : List Int) (w : World) (ha : a.length = 12) (hb : b.length = 12) : (binOp .neq 40 (.agg (exC a).toArray) (.agg (exC b).toArray)).run Try.prog w = .ok (.bool (!decide (a = b))) w := by
  rw [run_neq_struct]
  have h : (Op.equalIn 10000 40 (.agg (exC a).toArray) (.agg (exC b).toArray)).run Try.prog w = .ok (decide (a = b)) w := run_eq_ex a b w ha hb 9998
  rw [h]
  rfl

/-- loading an exchange as a step of a region that draws its order -/
theorem step_load_ex {ops : Array Oper} {o : Oper} {a : Act} {w : World} {K : Act → World → Prop} {Q : Exit → Act → World → Prop} {E : Prop} (hgd : o.guard = none) (x : Operand) (ho : o.op = .load 40 x)
    (b : Nat) (hx : a.eval x = .pointer (some ⟨b, 0, none⟩)) (c : List Int) (hb : Eb w b c) (hc : c.length = 12)
    (h : K (a.put o.dst (.agg (exC c).toArray)) w) : if Region.wanted o (yielded ops a.tmps) = true then Oper.wp Try.prog o a w K Q else E := by
  have hw : Region.wanted o (yielded ops a.tmps) = true := by simp [Region.wanted, hgd]
  rw [if_pos hw]
  exact wp_load_ex x ho b hx c hb hc h

theorem Eb.range {w : World} {b : Nat} {c : List Int} (h : Eb w b c) : w.rangeAt b 0 (exC c) := fun j v hv => by
  rw [Nat.zero_add, cell_of_row w b j _ _ _ h, List.getElem?_toArray]
  exact hv
theorem exSizeC (c : List Int) (h : c.length = 12) : (Try.prog.info? 40).map (·.size) = some (exC c).length := by rw [exSize, exC_length, h]
end Go.Proofs.Ytgbmoipkgnklfaa
