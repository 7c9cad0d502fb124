/- Appending a list of integers to a slice of the call's own, as one step of a walk (in a statement of fixed order, and in one that draws its order); making a slice of n zeros; no condition but that all are at most a thousand million. -/
import Derived.Test.YtcekobdnghllcacDoorMarks
import Derived.Maps.AppendAt
import Derived.Deep.AppendLies
import Derived.RegionTactic
import Derived.Deep.RegionHeld3
namespace Go.Proofs.YtcekobdnghllcacDoor
open Go.ChangeShapes Go.WideShapes Go.ChangeAt Go.RowKit

theorem intInfo : (Tryd.prog.info? 3).map (fun i => (i.zero, i.size, i.bytes)) = some (some (.int .i64 0), 1, 8) := by kernel_rfl

theorem ints_one (xs : List Int) : ∀ u ∈ xs.map (Value.int .i64), u.oneCell' = true := by
  intro u hu
  obtain ⟨x, _, rfl⟩ := List.mem_map.1 hu
  rfl

theorem addr_add (g o j : Nat) : (⟨g, o, none⟩ : Addr).add j = ⟨g, o + j, none⟩ := by unfold Addr.add; split <;> simp_all

/-- an empty slice is nil or starts somewhere -/
def Vn (u : Value) (ys : List Int) : Prop := ys = [] → u = .slice none 0 0 ∨ ∃ (A : Addr) (c : Nat), u = .slice (some A) 0 c

set_option maxRecDepth 100000 in
theorem run_app (w : World) (ty : TypeId) (B : Nat) (v u : Value) (xs ys : List Int) (hv : Sl w B v xs) (hu : Rd w u ys) (hnil : Vn u ys)
    (hl : xs.length + ys.length ≤ 1000000000) (hB : B ≤ w.heap.size) :
    ∃ v' w', (Builtin.append_ #[47, 47] ty #[v, u]).run Tryd.prog w = .ok v' w' ∧ Sl w' B v' (xs ++ ys) ∧ Kp (fun b => v.ownBlock = some b) w w' ∧ (v'.ownBlock = v.ownBlock ∨ v'.ownBlock = some w.heap.size) := by
  obtain ⟨i0, hi0, hz0, hz1, hz2⟩ := info_parts intInfo
  obtain ⟨A, c, rfl, hA⟩ := hu
  have key : ∀ ad : Addr, A = some ad → (∀ j u, (ys.map (Value.int .i64))[j]? = some u → w.cell? (ad.add j) = some u) → ∃ v' w', (Builtin.append_ #[47, 47] ty #[v, .slice A ys.length c]).run Tryd.prog w = .ok v' w' ∧ Sl w' B v' (xs ++ ys) ∧ Kp (fun b => v.ownBlock = some b) w w' ∧ (v'.ownBlock = v.ownBlock ∨ v'.ownBlock = some w.heap.size) := by
    rintro ad rfl hc
    obtain ⟨v', w', hr, h2, h3, _, h5⟩ := run_append_own_at (P := Tryd.prog) w B 47 ty 3 i0 _ 1 8 Tryd.underlying47 hi0 hz0 hz1 hz2 rfl (by omega) v xs.length _ hv ad ys.length c (ys.map (Value.int .i64)) (by simp) hc (ints_one ys) (by unfold maxLen; omega) (by omega) hB
    refine ⟨v', w', hr, ?_, ⟨h3.os, h3.tape, h3.output, h3.size, fun k hk hs => h3.block k hk (fun e => hs e.symm)⟩, h5⟩
    unfold Sl
    rw [List.length_append, List.map_append]
    exact h2
  by_cases hy : ys = []
  · subst hy
    rcases hnil rfl with h | ⟨ad, c', h⟩
    · injection h with h1 h2 h3
      subst h1
      subst h3
      exact ⟨v, w, run_append_owned_none (P := Tryd.prog) w B 47 ty 3 i0 1 Tryd.underlying47 hi0 v xs.length _ hv, by simpa using hv, Kp.refl _ _, .inl rfl⟩
    · injection h with h1 h2 h3
      exact key _ h1 (fun j u hj => by simp at hj)
  · have hp : 0 < ys.length := by
      cases ys with
      | nil => exact absurd rfl hy
      | cons => simp
    obtain ⟨g, o, rfl, _⟩ := hA 0 hp
    refine key _ rfl (fun j u hj => ?_)
    rw [List.getElem?_map] at hj
    obtain ⟨x, hx, rfl⟩ := Option.map_eq_some_iff.1 hj
    obtain ⟨hj', hx'⟩ := List.getElem?_eq_some_iff.1 hx
    obtain ⟨g', o', h, hc⟩ := hA j hj'
    injection h with h
    injection h with h1 h2
    subst h1
    subst h2
    rw [addr_add, hc]
    simp [List.getD, hx]

theorem wp_app (w : World) {o : Oper} {a : Act} {K : Act → World → Prop} {Q : Exit → Act → World → Prop} (s x : Operand)
    (ho : o.op = .call { callee := .builtin .append, args := #[s, x], argTypes := #[47, 47] })
    (B : Nat) (v u : Value) (xs ys : List Int) (hs : a.eval s = v) (hx : a.eval x = u) (hv : Sl w B v xs) (hu : Rd w u ys) (hnil : Vn u ys)
    (hl : xs.length + ys.length ≤ 1000000000) (hB : B ≤ w.heap.size)
    (h : ∀ v' w', Sl w' B v' (xs ++ ys) → Kp (fun b => v.ownBlock = some b) w w' → (v'.ownBlock = v.ownBlock ∨ v'.ownBlock = some w.heap.size) → K (a.put o.dst v') w') : o.wp Tryd.prog a w K Q := by
  obtain ⟨v', w', hr, h2, h3, h4⟩ := run_app w o.type B v u xs ys hv hu hnil hl hB
  unfold Oper.wp execOp
  simp only [ho, resolve, invoke, builtin, Sem.run_bind, Sem.run_pure, Result.andThen_ok, List.map_toArray, List.map_cons, List.map_nil, hs, hx, hr]
  exact h v' w' h2 h3 h4

theorem wpList_app (w : World) {ops : Array Oper} {rest : List Oper} {o : Oper} {a : Act} {Q : Exit → Act → World → Prop} (hgd : o.guard = none) (s x : Operand)
    (ho : o.op = .call { callee := .builtin .append, args := #[s, x], argTypes := #[47, 47] })
    (B : Nat) (v u : Value) (xs ys : List Int) (hs : a.eval s = v) (hx : a.eval x = u) (hv : Sl w B v xs) (hu : Rd w u ys) (hnil : Vn u ys)
    (hl : xs.length + ys.length ≤ 1000000000) (hB : B ≤ w.heap.size)
    (h : ∀ v' w', Sl w' B v' (xs ++ ys) → Kp (fun b => v.ownBlock = some b) w w' → (v'.ownBlock = v.ownBlock ∨ v'.ownBlock = some w.heap.size) → wpList Tryd.prog ops Q rest (a.put o.dst v') w') : wpList Tryd.prog ops Q (o :: rest) a w :=
  wpList_plain hgd fun _ hK => wp_app w s x ho B v u xs ys hs hx hv hu hnil hl hB fun v' w' h2 h3 h4 => hK _ _ (h v' w' h2 h3 h4)

theorem step_app (w : World) {ops : Array Oper} {o : Oper} {a : Act} {K : Act → World → Prop} {Q : Exit → Act → World → Prop} {E : Prop} (hgd : o.guard = none) (s x : Operand)
    (ho : o.op = .call { callee := .builtin .append, args := #[s, x], argTypes := #[47, 47] })
    (B : Nat) (v u : Value) (xs ys : List Int) (hs : a.eval s = v) (hx : a.eval x = u) (hv : Sl w B v xs) (hu : Rd w u ys) (hnil : Vn u ys)
    (hl : xs.length + ys.length ≤ 1000000000) (hB : B ≤ w.heap.size)
    (h : ∀ v' w', Sl w' B v' (xs ++ ys) → Kp (fun b => v.ownBlock = some b) w w' → (v'.ownBlock = v.ownBlock ∨ v'.ownBlock = some w.heap.size) → K (a.put o.dst v') w') :
    if Region.wanted o (yielded ops a.tmps) = true then Oper.wp Tryd.prog o a w K Q else E := by
  have hw : Region.wanted o (yielded ops a.tmps) = true := by simp [Region.wanted, hgd]
  rw [if_pos hw]
  exact wp_app w s x ho B v u xs ys hs hx hv hu hnil hl hB h

/-- one integer in a block of its own -/
theorem Rd.one {w : World} {g : Nat} {k : Int} (h : w.cell? ⟨g, 0, none⟩ = some (.int .i64 k)) : Rd w (.slice (some ⟨g, 0, none⟩) 1 1) [k] :=
  ⟨_, 1, rfl, fun j hj => ⟨g, 0, rfl, by
    have e : j = 0 := by simpa using hj
    subst e
    exact h⟩⟩

theorem Sl.zeros {w : World} {B g n : Nat} (h : w.ownsRow B 3 1 (.slice (some ⟨g, 0, none⟩) n n) n (madeCells #[Value.int .i64 0] n).toList) : SlAt w B g n n (List.replicate n 0) := by
  refine ⟨by simp, ?_⟩
  rw [toList_madeCells_one] at h
  rw [List.map_replicate]
  exact h
end Go.Proofs.YtcekobdnghllcacDoor
