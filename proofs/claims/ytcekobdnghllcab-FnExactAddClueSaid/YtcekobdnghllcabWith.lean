/- Clues without one, in the model and in the program; parts of rows of clues; no condition but that the one is there. -/
import Derived.Test.YtcekobdnghllcabMCl
import Derived.Test.YtcekobdnghllcabLow
import Derived.Deep.RegionLaw
namespace Go.Proofs.Ytcekobdnghllcab
open Go.ChangeShapes Go.WideShapes Go.ChangeAt Go.RowKit

theorem elemClues : Try.prog.underlying 28 = some (.slice (Try.prog.elem 28)) := by kernel_rfl
theorem sizeClue (w : World) : (sizeOf (Try.prog.elem 28)).run Try.prog w = .ok 3 w := by kernel_rfl
theorem ccut_from (L n cap p : Nat) (h : p ≤ n) (hc : n ≤ cap) : ∃ Ad : Addr, (Ad = ⟨L, p * 3, none⟩ ∨ p = n) ∧
    ∀ w, (Instr.slice 28 (.slice (some ⟨L, 0, none⟩) n cap) (some (.int .i64 (p : Int))) none none).run Try.prog w = .ok (.slice (some Ad) (n - p) (cap - p)) w := by
  by_cases e : cap = p
  · refine ⟨⟨L, 0, none⟩, .inr (by omega), fun w => ?_⟩
    rw [run_slice_l _ _ _ _ _ elemClues _ _ (by omega) (by omega), sizeClue]
    simp [sliced, Result.andThen, e]
  · refine ⟨⟨L, p * 3, none⟩, .inl rfl, fun w => ?_⟩
    rw [run_slice_l _ _ _ _ _ elemClues _ _ (by omega) (by omega), sizeClue]
    simp [sliced, Result.andThen, e, addr_add]
theorem ccut_to (L n cap p : Nat) (h : p ≤ cap) (w : World) :
    (Instr.slice 28 (.slice (some ⟨L, 0, none⟩) n cap) none (some (.int .i64 (p : Int))) none).run Try.prog w = .ok (.slice (some ⟨L, 0, none⟩) p cap) w := by
  rw [run_slice_h _ _ _ _ _ elemClues _ _ (by omega) (by omega), sizeClue]
  simp [sliced, Result.andThen, addr_add]
theorem ccut_mid (L m cap l h : Nat) (h1 : l ≤ h) (h2 : h ≤ cap) (h3 : l < cap) (w : World) :
    (Instr.slice 28 (.slice (some ⟨L, 0, none⟩) m cap) (some (.int .i64 (l : Int))) (some (.int .i64 (h : Int))) none).run Try.prog w = .ok (.slice (some ⟨L, l * 3, none⟩) (h - l) (cap - l)) w := by
  rw [run_slice_lh _ _ _ _ _ elemClues _ _ _ _ (by omega) (by omega) (by omega), sizeClue]
  have e : ¬ cap = l := by omega
  simp [sliced, Result.andThen, e, addr_add]
theorem ccut_full (L n cap p : Nat) (h : p ≤ cap) (w : World) :
    (Instr.slice 28 (.slice (some ⟨L, 0, none⟩) n cap) none (some (.int .i64 (p : Int))) (some (.int .i64 (p : Int)))).run Try.prog w = .ok (.slice (some ⟨L, 0, none⟩) p p) w := by
  rw [run_slice_hm _ _ _ _ _ elemClues _ _ _ _ (by omega) (by omega) (by omega), sizeClue]
  simp [sliced, Result.andThen, addr_add]
theorem ccut_nil (w : World) :
    (Instr.slice 28 (.slice none 0 0) none (some (.int .i64 0)) (some (.int .i64 0))).run Try.prog w = .ok (.slice none 0 0) w := by
  rw [run_slice_hm _ _ _ _ _ elemClues _ _ _ _ (by omega) (by omega) (by omega), sizeClue]
  simp [sliced, Result.andThen]
theorem RdC.cells {w : World} {A : Option Addr} {n c : Nat} {ys : List Cu} (h : RdC w (.slice A n c) ys) (hp : 0 < ys.length) :
    ∃ ad : Addr, A = some ad ∧ ∀ j u, (cv ys)[j]? = some u → w.cell? (ad.add j) = some u := by
  obtain ⟨A', c', hv, hA⟩ := h
  injection hv with e1 e2 e3
  subst e1
  obtain ⟨g, o, rfl, _⟩ := hA 0 hp
  refine ⟨⟨g, o, none⟩, rfl, fun j u hj => ?_⟩
  have hjl : j < ys.length * 3 := by
    have := (List.getElem?_eq_some_iff.1 hj).1
    rwa [cv_length] at this
  obtain ⟨q, hq⟩ : ∃ q, j / 3 = q := ⟨_, rfl⟩
  have hql : q < ys.length := by omega
  obtain ⟨g', o', e, h0, h1, h2⟩ := hA q hql
  injection e with e
  injection e with e1 e2
  subst e1 e2
  obtain ⟨c0, c1, c2⟩ := cv_get ys q hql
  rw [addr_add]
  have h3 : j = q * 3 ∨ j = q * 3 + 1 ∨ j = q * 3 + 2 := by omega
  rcases h3 with rfl | rfl | rfl
  · rw [h0, ← c0, hj]
  · rw [← Nat.add_assoc, h1, ← c1, hj]
  · rw [← Nat.add_assoc, h2, ← c2, hj]
theorem RdC.dropAd {w : World} {g n c c' p : Nat} {Ad : Addr} {ps : List Cu} (h : RdC w (.slice (some ⟨g, 0, none⟩) n c) ps) (hn : ps.length = n) (hp : p ≤ n) (had : Ad = ⟨g, p * 3, none⟩ ∨ p = n) : RdC w (.slice (some Ad) (n - p) c') (ps.drop p) := by
  rcases had with rfl | rfl
  · have h2 := h.from (o := 0) p (n - p) c' (by omega) hn
    rw [Nat.zero_add] at h2
    rwa [List.take_of_length_le (by rw [List.length_drop]; omega)] at h2
  · exact ⟨some Ad, c', by rw [List.length_drop, hn], fun k hk => by rw [List.length_drop] at hk; omega⟩
theorem RdC.takeAd {w : World} {g n c c' p : Nat} {ps : List Cu} (h : RdC w (.slice (some ⟨g, 0, none⟩) n c) ps) (hn : ps.length = n) (hp : p ≤ n) : RdC w (.slice (some ⟨g, 0, none⟩) p c') (ps.take p) := by
  have h2 := h.from (o := 0) 0 p c' (by omega) hn
  rwa [Nat.zero_mul, List.drop_zero] at h2

set_option maxRecDepth 100000 in
theorem run_cgrow (w : World) (ty : TypeId) (b : Addr) (n : Nat) (u : Value) (xs ys : List Cu) (hx : RdC w (.slice (some b) n n) xs) (hn : xs.length = n) (hu : RdC w u ys) (hp : 0 < ys.length) (hl : xs.length + ys.length ≤ 1048577) :
    ∃ v' w', (Builtin.append_ #[28, 28] ty #[.slice (some b) n n, u]).run Try.prog w = .ok v' w' ∧ Co w' w.heap.size v' (xs ++ ys) ∧ Kp Nw w w' := by
  obtain ⟨i0, hi0, hz0, hz1, hz2⟩ := info_parts clueInfo
  obtain ⟨Au, cu, rfl, hA⟩ := hu
  obtain ⟨ad, rfl, hc⟩ := RdC.cells ⟨Au, cu, rfl, hA⟩ hp
  have holds : ∀ j v, (cv xs)[j]? = some v → w.cell? (b.add j) = some v := by
    by_cases h0 : 0 < xs.length
    · obtain ⟨b', e, h⟩ := hx.cells h0
      injection e with e
      rw [e]
      exact h
    · have e : xs = [] := List.eq_nil_of_length_eq_zero (by omega)
      intro j v hj
      rw [e] at hj
      simp [cv, f3] at hj
  obtain ⟨v', w', hr, h2, h3⟩ := run_append_arg_grows (P := Try.prog) w 28 ty 34 i0 _ 3 24 Try.underlying28 hi0 hz0 hz1 hz2 rfl (by omega) b n n (cv xs) (by rw [cv_length, hn]) holds ad ys.length cu (cv ys) (cv_length ys) hc (by omega) (by unfold maxLen; omega) (by omega)
  refine ⟨v', w', hr, ?_, ⟨h3.os, h3.tape, h3.output, h3.size, fun k hk hs => h3.block k hk (by simp)⟩⟩
  unfold Co
  rw [List.length_append, hn, cv_append]
  exact h2
theorem step_cgrow (w : World) {ops : Array Oper} {o : Oper} {a : Act} {K : Act → World → Prop} {Q : Exit → Act → World → Prop} {E : Prop} (hgd : o.guard = none) (s x : Operand)
    (ho : o.op = .call { callee := .builtin .append, args := #[s, x], argTypes := #[28, 28] })
    (b : Addr) (n : Nat) (u : Value) (xs ys : List Cu) (hs : a.eval s = .slice (some b) n n) (hx : a.eval x = u) (hv : RdC w (.slice (some b) n n) xs) (hn : xs.length = n) (hu : RdC w u ys) (hp : 0 < ys.length)
    (hl : xs.length + ys.length ≤ 1048577)
    (h : ∀ v' w', Co w' w.heap.size v' (xs ++ ys) → Kp Nw w w' → K (a.put o.dst v') w') :
    if Region.wanted o (yielded ops a.tmps) = true then Oper.wp Try.prog o a w K Q else E := by
  have hw : Region.wanted o (yielded ops a.tmps) = true := by simp [Region.wanted, hgd]
  rw [if_pos hw]
  obtain ⟨v', w', hr, h2, h3⟩ := run_cgrow w o.type b n u xs ys hv hn hu hp hl
  unfold Oper.wp execOp
  simp only [ho, resolve, invoke, builtin, Sem.run_bind, Sem.run_pure, Result.andThen_ok, List.map_toArray, List.map_cons, List.map_nil, hs, hx, hr]
  exact h v' w' h2 h3
theorem step_cnone (w : World) {ops : Array Oper} {o : Oper} {a : Act} {K : Act → World → Prop} {Q : Exit → Act → World → Prop} {E : Prop} (hgd : o.guard = none) (s x : Operand)
    (ho : o.op = .call { callee := .builtin .append, args := #[s, x], argTypes := #[28, 28] })
    (g n c : Nat) (ad : Addr) (hs : a.eval s = .slice (some ⟨g, 0, none⟩) n n) (hx : a.eval x = .slice (some ad) 0 c)
    (h : K (a.put o.dst (.slice (some ⟨g, 0, none⟩) n n)) w) :
    if Region.wanted o (yielded ops a.tmps) = true then Oper.wp Try.prog o a w K Q else E := by
  have hw : Region.wanted o (yielded ops a.tmps) = true := by simp [Region.wanted, hgd]
  rw [if_pos hw]
  obtain ⟨i0, hi0, hz0, hz1, hz2⟩ := info_parts clueInfo
  have hr := run_append_room_cells (P := Try.prog) w 28 o.type 34 i0 Try.underlying28 hi0 g 0 n n ad 0 c [] (by simp) (fun j u hj => by simp at hj) (fun u hu => by simp at hu) (by omega) (fun j hj => by simp at hj) (fun j hj => by simp at hj)
  unfold Oper.wp execOp
  simp only [ho, resolve, invoke, builtin, Sem.run_bind, Sem.run_pure, Result.andThen_ok, List.map_toArray, List.map_cons, List.map_nil, hs, hx, hr]
  exact h

/-- clues without one -/
def wo (ps : List Cu) (k : Nat) : List Cu := ps.take k ++ ps.drop (k + 1)
theorem wo_len (ps : List Cu) (k : Nat) (h : k < ps.length) : (wo ps k).length + 1 = ps.length := by
  unfold wo
  rw [List.length_append, List.length_take, List.length_drop]
  omega
theorem wo_all (ps : List Cu) (k : Nat) (h : ps.all cluB = true) : (wo ps k).all cluB = true := by
  unfold wo
  rw [List.all_append, Bool.and_eq_true]
  rw [List.all_eq_true] at h
  exact ⟨List.all_eq_true.2 fun x hx => h x (List.mem_of_mem_take hx), List.all_eq_true.2 fun x hx => h x (List.mem_of_mem_drop hx)⟩
set_option maxRecDepth 100000 in
theorem firstClues_any (g n c p : Nat) (W : World) (h : p ≤ c) : Calls Try.prog 17 #[.slice (some ⟨g, 0, none⟩) n c, .int .i64 p] W fun e w' => e = .returned (.slice (some ⟨g, 0, none⟩) p p) ∧ W = w' := by
  have q6 := ccut_full g n c p h
  have p0 : (0 : Int) ≤ p := Int.natCast_nonneg _
  go_enter Try.func17, Try.ntmps17
  go_wp2
  go_ret
  exact ⟨rfl, rfl⟩
set_option maxRecDepth 100000 in
theorem firstClues_nil (W : World) : Calls Try.prog 17 #[.slice none 0 0, .int .i64 0] W fun e w' => e = .returned (.slice none 0 0) ∧ W = w' := by
  have q6 := ccut_nil
  go_enter Try.func17, Try.ntmps17
  go_wp2
  go_ret
  exact ⟨rfl, rfl⟩
theorem Cl.cap {w : World} {B g n c : Nat} {ps : List Cu} (h : Co w B (.slice (some ⟨g, 0, none⟩) n c) ps) : n ≤ c := by
  rcases h.2 with ⟨he, _⟩ | ⟨g', cap, cur, he, _, _, h1, _⟩
  · cases he
  · injection he with _ e2 e3
    omega
end Go.Proofs.Ytcekobdnghllcab
