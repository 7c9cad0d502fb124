/- Appending many clues to a row of the call's own, as one step of a walk; a part of a row of clues; no condition but that all are at most a thousand million. -/
import Derived.Test.YtcfghaeogbimeaaClu
import Derived.Test.YtcfghaeogbimeaaSong
namespace Go.Proofs.Ytcfghaeogbimeaa
open Go.ChangeShapes Go.WideShapes Go.ChangeAt Go.RowKit

/-- an empty slice is nil or starts somewhere -/
def VnC (u : Value) (ys : List Cu) : Prop := ys = [] → u = .slice none 0 0 ∨ ∃ (A : Addr) (c : Nat), u = .slice (some A) 0 c
theorem cv_one (ps : List Cu) : ∀ u ∈ cv ps, u.oneCell' = true := by
  intro u hu
  obtain ⟨x, _, rfl⟩ := List.mem_map.1 hu
  rfl
theorem RdC.from {w : World} {g o n c : Nat} {ps : List Cu} (h : RdC w (.slice (some ⟨g, o, none⟩) n c) ps) (k m c' : Nat) (hk : k + m ≤ n) (hl : ps.length = n) : RdC w (.slice (some ⟨g, o + k * 3, none⟩) m c') ((ps.drop k).take m) := by
  obtain ⟨A, c, hv, hA⟩ := h
  injection hv with e1 e2 e3
  subst e1
  refine ⟨_, c', by rw [List.length_take, List.length_drop, Nat.min_eq_left (by omega)], fun j hj => ?_⟩
  rw [List.length_take, List.length_drop, Nat.min_eq_left (by omega)] at hj
  obtain ⟨g', o', e, hc⟩ := hA (k + j) (by omega)
  injection e with e
  injection e with e1 e2
  subst e1 e2
  refine ⟨g, o + k * 3, rfl, ?_⟩
  have e2 : ((ps.drop k).take m).getD j (0, 0, 0) = ps.getD (k + j) (0, 0, 0) := by simp [List.getD, hj]
  rw [e2, show o + k * 3 + j * 3 = o + (k + j) * 3 by omega]
  exact hc

set_option maxRecDepth 100000 in
theorem run_clus (w : World) (ty : TypeId) (B : Nat) (v u : Value) (xs ys : List Cu) (hv : Co w B v xs) (hu : RdC w u ys) (hnil : VnC u ys)
    (hl : xs.length + ys.length ≤ 1000000) (hB : B ≤ w.heap.size) :
    ∃ v' w', (Builtin.append_ #[33, 33] ty #[v, u]).run Try.prog w = .ok v' w' ∧ Co w' B v' (xs ++ ys) ∧ Kp (fun b => v.ownBlock = some b) w w' := by
  obtain ⟨i0, hi0, hz0, hz1, hz2⟩ := info_parts clueInfo
  obtain ⟨A, c, rfl, hA⟩ := hu
  have key : ∀ ad : Addr, A = some ad → (∀ j u, (cv ys)[j]? = some u → w.cell? (ad.add j) = some u) → ∃ v' w', (Builtin.append_ #[33, 33] ty #[v, .slice A ys.length c]).run Try.prog w = .ok v' w' ∧ Co w' B v' (xs ++ ys) ∧ Kp (fun b => v.ownBlock = some b) w w' := by
    rintro ad rfl hc
    obtain ⟨v', w', hr, h2, h3, _, h5⟩ := run_append_own_at (P := Try.prog) w B 33 ty 25 i0 _ 3 24 Try.underlying33 hi0 hz0 hz1 hz2 rfl (by omega) v xs.length _ hv ad ys.length c (cv ys) (cv_length ys) hc (cv_one ys) (by unfold maxLen; omega) (by omega) hB
    refine ⟨v', w', hr, ?_, ⟨h3.os, h3.tape, h3.output, h3.size, fun k hk hs => h3.block k hk (fun e => hs e.symm)⟩⟩
    unfold Co
    rw [List.length_append, cv_append]
    exact h2
  by_cases hy : ys = []
  · subst hy
    rcases hnil rfl with h | ⟨ad, c', h⟩
    · injection h with h1 h2 h3
      subst h1
      subst h3
      exact ⟨v, w, run_append_owned_none (P := Try.prog) w B 33 ty 25 i0 3 Try.underlying33 hi0 v xs.length _ hv, by simpa using hv, Kp.refl _ _⟩
    · injection h with h1 h2 h3
      exact key _ h1 (fun j u hj => by simp [cv, f3] at hj)
  · have hp : 0 < ys.length := by
      cases ys with
      | nil => exact absurd rfl hy
      | cons => simp
    obtain ⟨g, o, rfl, _⟩ := hA 0 hp
    refine key _ rfl (fun j u hj => ?_)
    have hjl : j < ys.length * 3 := by
      have := (List.getElem?_eq_some_iff.1 hj).1
      rwa [cv_length] at this
    obtain ⟨q, hq⟩ : ∃ q, j / 3 = q := ⟨_, rfl⟩
    have hql : q < ys.length := by omega
    obtain ⟨g', o', e, h0, h1, h2⟩ := hA q hql
    injection e with e
    injection e with e1 e2
    subst e1 e2
    obtain ⟨c0, c1, c2⟩ := cv_get ys q hql
    rw [addr_add]
    have h3 : j = q * 3 ∨ j = q * 3 + 1 ∨ j = q * 3 + 2 := by omega
    rcases h3 with rfl | rfl | rfl
    · rw [h0, ← c0, hj]
    · rw [← Nat.add_assoc, h1, ← c1, hj]
    · rw [← Nat.add_assoc, h2, ← c2, hj]

theorem wp_clus (w : World) {o : Oper} {a : Act} {K : Act → World → Prop} {Q : Exit → Act → World → Prop} (s x : Operand)
    (ho : o.op = .call { callee := .builtin .append, args := #[s, x], argTypes := #[33, 33] })
    (B : Nat) (v u : Value) (xs ys : List Cu) (hs : a.eval s = v) (hx : a.eval x = u) (hv : Co w B v xs) (hu : RdC w u ys) (hnil : VnC u ys)
    (hl : xs.length + ys.length ≤ 1000000) (hB : B ≤ w.heap.size)
    (h : ∀ v' w', Co w' B v' (xs ++ ys) → Kp (fun b => v.ownBlock = some b) w w' → K (a.put o.dst v') w') : o.wp Try.prog a w K Q := by
  obtain ⟨v', w', hr, h2, h3⟩ := run_clus w o.type B v u xs ys hv hu hnil hl hB
  unfold Oper.wp execOp
  simp only [ho, resolve, invoke, builtin, Sem.run_bind, Sem.run_pure, Result.andThen_ok, List.map_toArray, List.map_cons, List.map_nil, hs, hx, hr]
  exact h v' w' h2 h3
theorem wpList_clus (w : World) {ops : Array Oper} {rest : List Oper} {o : Oper} {a : Act} {Q : Exit → Act → World → Prop} (hgd : o.guard = none) (s x : Operand)
    (ho : o.op = .call { callee := .builtin .append, args := #[s, x], argTypes := #[33, 33] })
    (B : Nat) (v u : Value) (xs ys : List Cu) (hs : a.eval s = v) (hx : a.eval x = u) (hv : Co w B v xs) (hu : RdC w u ys) (hnil : VnC u ys)
    (hl : xs.length + ys.length ≤ 1000000) (hB : B ≤ w.heap.size)
    (h : ∀ v' w', Co w' B v' (xs ++ ys) → Kp (fun b => v.ownBlock = some b) w w' → wpList Try.prog ops Q rest (a.put o.dst v') w') : wpList Try.prog ops Q (o :: rest) a w :=
  wpList_plain hgd fun _ hK => wp_clus w s x ho B v u xs ys hs hx hv hu hnil hl hB fun v' w' h2 h3 => hK _ _ (h v' w' h2 h3)
theorem step_clus (w : World) {ops : Array Oper} {o : Oper} {a : Act} {K : Act → World → Prop} {Q : Exit → Act → World → Prop} {E : Prop} (hgd : o.guard = none) (s x : Operand)
    (ho : o.op = .call { callee := .builtin .append, args := #[s, x], argTypes := #[33, 33] })
    (B : Nat) (v u : Value) (xs ys : List Cu) (hs : a.eval s = v) (hx : a.eval x = u) (hv : Co w B v xs) (hu : RdC w u ys) (hnil : VnC u ys)
    (hl : xs.length + ys.length ≤ 1000000) (hB : B ≤ w.heap.size)
    (h : ∀ v' w', Co w' B v' (xs ++ ys) → Kp (fun b => v.ownBlock = some b) w w' → K (a.put o.dst v') w') :
    if Region.wanted o (yielded ops a.tmps) = true then Oper.wp Try.prog o a w K Q else E := by
  have hw : Region.wanted o (yielded ops a.tmps) = true := by simp [Region.wanted, hgd]
  rw [if_pos hw]
  exact wp_clus w s x ho B v u xs ys hs hx hv hu hnil hl hB h
theorem Co.empty (w : World) (B : Nat) (hB : B ≤ w.heap.size) : Co (w.alloc (.cells #[] 25)) B (.slice (some ⟨w.heap.size, 0, none⟩) 0 0) [] := World.ownsRow_made w #[] 0 hB (by unfold maxLen; omega) rfl
/-- one clue in a block of its own -/
theorem RdC.one {w : World} {g : Nat} {p : Cu} (h : At3 w g 0 p) : RdC w (.slice (some ⟨g, 0, none⟩) 1 1) [p] :=
  ⟨_, 1, rfl, fun j hj => ⟨g, 0, rfl, by
    have e : j = 0 := by simpa using hj
    subst e
    exact h⟩⟩
/-- a clue in a block of the call's own -/
def Own3 (w : World) (b : Nat) (p : Cu) : Prop := (w.cell? ⟨b, 0, none⟩ = some (.int .i64 p.1) ∧ w.cell? ⟨b, 1, none⟩ = some (.int .i64 p.2.1) ∧ w.cell? ⟨b, 2, none⟩ = some (.int .i64 p.2.2)) ∧ w.frozen? ⟨b, 0, none⟩ = false ∧ w.frozen? ⟨b, 1, none⟩ = false ∧ w.frozen? ⟨b, 2, none⟩ = false
theorem Own3.new (w : World) (p : Cu) (t : TypeId) : Own3 (w.alloc (.cells #[.int .i64 p.1, .int .i64 p.2.1, .int .i64 p.2.2] t)) w.heap.size p := by
  refine ⟨⟨?_, ?_, ?_⟩, ?_, ?_, ?_⟩ <;> simp [World.cell?_alloc_at, World.frozen?_alloc_at]
theorem frz {w w' : World} {S : Nat → Prop} {b i : Nat} (hk : Kp S w w') (hl : b < w.heap.size) (hs : ¬ S b) (h : w.frozen? ⟨b, i, none⟩ = false) : w'.frozen? ⟨b, i, none⟩ = false :=
  (World.frozen?_of_block (a := ⟨b, i, none⟩) (hk.block b hl hs)).trans h
theorem Own3.kp {w w' : World} {b : Nat} {p : Cu} {S : Nat → Prop} (h : Own3 w b p) (hk : Kp S w w') (hs : ¬ S b) : Own3 w' b p := by
  obtain ⟨⟨h0, h1, h2⟩, f0, f1, f2⟩ := h
  have hl := World.block_lt_of_cell? w _ h0
  exact ⟨⟨keepc hk h0 hs, keepc hk h1 hs, keepc hk h2 hs⟩, frz hk hl hs f0, frz hk hl hs f1, frz hk hl hs f2⟩
theorem Own3.put {w : World} {b : Nat} {p : Cu} (h : Own3 w b p) (q : Cu) : Own3 (((w.setCell ⟨b, 0, none⟩ (.int .i64 q.1)).setCell ⟨b, 1, none⟩ (.int .i64 q.2.1)).setCell ⟨b, 2, none⟩ (.int .i64 q.2.2)) b q := by
  obtain ⟨⟨h0, h1, h2⟩, f0, f1, f2⟩ := h
  have n01 : (⟨b, 0, none⟩ : Addr) ≠ ⟨b, 1, none⟩ := by simp
  have n02 : (⟨b, 0, none⟩ : Addr) ≠ ⟨b, 2, none⟩ := by simp
  have n12 : (⟨b, 1, none⟩ : Addr) ≠ ⟨b, 2, none⟩ := by simp
  refine ⟨⟨?_, ?_, ?_⟩, ?_, ?_, ?_⟩
  · rw [World.cell?_setCell_other _ _ _ _ n02.symm, World.cell?_setCell_other _ _ _ _ n01.symm]
    exact World.cell?_setCell_same _ _ _ h0
  · rw [World.cell?_setCell_other _ _ _ _ n12.symm]
    exact World.cell?_setCell_same _ _ _ ((World.cell?_setCell_other _ _ _ _ n01).trans h1)
  · exact World.cell?_setCell_same _ _ _ ((World.cell?_setCell_other _ _ _ _ n12).trans ((World.cell?_setCell_other _ _ _ _ n02).trans h2))
  · rw [World.frozen?_setCell, World.frozen?_setCell, World.frozen?_setCell]; exact f0
  · rw [World.frozen?_setCell, World.frozen?_setCell, World.frozen?_setCell]; exact f1
  · rw [World.frozen?_setCell, World.frozen?_setCell, World.frozen?_setCell]; exact f2
theorem Own3.one {w : World} {b : Nat} {p : Cu} (h : Own3 w b p) : RdC w (.slice (some ⟨b, 0, none⟩) 1 1) [p] := RdC.one h.1
theorem VnC.some_ (A : Addr) (c n : Nat) (ys : List Cu) (h : ys.length = n) : VnC (.slice (some A) n c) ys := fun e => .inr ⟨A, c, by subst e; rw [← h]; rfl⟩
end Go.Proofs.Ytcfghaeogbimeaa
