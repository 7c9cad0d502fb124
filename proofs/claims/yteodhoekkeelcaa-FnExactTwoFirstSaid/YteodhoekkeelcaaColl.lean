/- slices.Collect over the program's iterator of rounds: a slice of its own that reads as the list of rounds; no condition but that the number of people is in the chapter's range. -/
import Derived.Test.YteodhoekkeelcaaIter
import Derived.Test.YteodhoekkeelcaaMake
import Derived.Maps.AppendAt
import Derived.Maps.OwnIn
namespace Go.Proofs.Yteodhoekkeelcaa
open Go.ChangeShapes Go.WideShapes Go.ChangeAt Go.RowKit Go.Shelf
attribute [local go_sem] Oper.semAt_some

theorem rndInfo : (Try.prog.info? 40).map (fun i => (i.zero, i.size, i.bytes)) = some (some (.agg #[.int .i64 0, .int .i64 0, .int .i64 0, .int .i64 0]), 4, 32) := by kernel_rfl
/-- the cells of a list of rounds -/
def rcells (xs : List Rnd) : List Value := xs.flatMap fun x => (rndC x).toList
theorem rcells_snoc (xs : List Rnd) (x : Rnd) : rcells (xs ++ [x]) = rcells xs ++ (rndC x).toList := by simp [rcells]
theorem rcells_len (xs : List Rnd) : (rcells xs).length = xs.length * 4 := by
  induction xs with
  | nil => rfl
  | cons x r ih =>
    have e : rcells (x :: r) = (rndC x).toList ++ rcells r := by simp [rcells]
    rw [e, List.length_append, ih, List.length_cons]
    simp [rndC]; omega

/-- a block of rounds -/
def Cl (W : World) (k : Nat) : Prop := ∃ cur fr, W.heap[k]? = some (.cells cur 40 fr)
theorem Cl.lt {W : World} {k : Nat} (h : Cl W k) : k < W.heap.size := by
  obtain ⟨_, _, h⟩ := h
  exact (Array.getElem?_eq_some_iff.1 h).1
/-- the slice in the box B0 starts at block k -/
def At (W : World) (B0 k len cap : Nat) : Prop := W.cell? ⟨B0, 0, none⟩ = some (.slice (some ⟨k, 0, none⟩) len cap)
/-- what a loop body keeps that appends rounds to the slice in the box B0: the box of the number of people, and each cell of a block of rounds that the slice does not have room in -/
structure KA (Bn B0 : Nat) (A C : World) : Prop where
  bn : C.heap[Bn]? = A.heap[Bn]?
  sz : A.heap.size ≤ C.heap.size
  cl : ∀ k, Cl A k → Cl C k
  cell : ∀ k j, Cl A k → (∀ len cap, At A B0 k len cap → len = 0 ∨ j < 4 * len) → C.cell? ⟨k, j, none⟩ = A.cell? ⟨k, j, none⟩
  own : ∀ k len cap, At C B0 k len cap → len = 0 ∨ A.heap.size ≤ k ∨ ∃ len' cap', At A B0 k len' cap' ∧ 1 ≤ len' ∧ len' ≤ len
theorem KA.trans {Bn B0 : Nat} {A B C : World} (h : KA Bn B0 A B) (k : KA Bn B0 B C) : KA Bn B0 A C := by
  refine ⟨k.bn.trans h.bn, Nat.le_trans h.sz k.sz, fun i hi => k.cl i (h.cl i hi), fun i j hi hp => ?_, fun i len cap hC => ?_⟩
  · refine (k.cell i j (h.cl i hi) fun len cap hB => ?_).trans (h.cell i j hi hp)
    rcases h.own i len cap hB with e | e | ⟨len', cap', e1, e2, e3⟩
    · exact .inl e
    · have := hi.lt; omega
    · rcases hp len' cap' e1 with e4 | e4
      · omega
      · exact .inr (by omega)
  · rcases k.own i len cap hC with e | e | ⟨len', cap', e1, e2, e3⟩
    · exact .inl e
    · exact .inr (.inl (Nat.le_trans h.sz e))
    · rcases h.own i len' cap' e1 with e4 | e4 | ⟨l2, c2, e5, e6, e7⟩
      · omega
      · exact .inr (.inl e4)
      · exact .inr (.inr ⟨l2, c2, e5, e6, by omega⟩)
theorem KA.of_same {Bn B0 : Nat} {A C : World} (hsz : A.heap.size ≤ C.heap.size) (hb : C.heap[Bn]? = A.heap[Bn]?) (h0 : C.heap[B0]? = A.heap[B0]?) (h : ∀ k, Cl A k → C.heap[k]? = A.heap[k]?) : KA Bn B0 A C := by
  refine ⟨hb, hsz, fun k hk => ?_, fun k j hk _ => World.cell?_of_block (h k hk), fun k len cap hC => ?_⟩
  · obtain ⟨cur, fr, e⟩ := hk
    exact ⟨cur, fr, (h k ⟨cur, fr, e⟩).trans e⟩
  · have hA : At A B0 k len cap := by unfold At at hC ⊢; rw [← hC]; exact (World.cell?_of_block h0).symm
    by_cases e : len = 0
    · exact .inl e
    · exact .inr (.inr ⟨len, cap, hA, by omega, Nat.le_refl _⟩)
theorem KA.put {Bn B0 B : Nat} (hB : Bn < B) (h0 : B0 < B) (W : World) (l : Nat) (o o' : Obj) (hl : B ≤ l) (h : W.heap[l]? = some o) (ho : o.isCells = false) : KA Bn B0 W (W.putObj l o') :=
  KA.of_same (by simp) (World.putObj_heap_other (by omega)) (World.putObj_heap_other (by omega)) fun k hk => World.putObj_heap_other (fun e => by
    obtain ⟨cur, fr, hc⟩ := hk
    rw [e, h] at hc
    cases hc
    cases ho)
theorem KA.alloc {Bn B0 : Nat} (W : World) (hB : Bn < W.heap.size) (h0 : B0 < W.heap.size) (o : Obj) : KA Bn B0 W (W.alloc o) :=
  KA.of_same (by simp) (Below.heap_alloc W o Bn hB) (Below.heap_alloc W o B0 h0) fun k hk => Below.heap_alloc W o k hk.lt
theorem KA.new {Bn B0 : Nat} {W W' : World} {c : Array Value} (h : KA Bn B0 (W.alloc (.cells c 40)) W') (j : Nat) (hj : j < 4) : W'.cell? ⟨W.heap.size, j, none⟩ = c[j]? := by
  have hn := heap_alloc_new W (.cells c 40)
  rw [h.cell W.heap.size j ⟨c, (0, 0), hn⟩ fun len cap _ => by
    by_cases e : len = 0
    · exact .inl e
    · exact .inr (by omega)]
  unfold World.cell?
  rw [hn]
  rfl

/-- an append of one round: in new memory, or in the room that the slice has -/
theorem run_app1 (w : World) (ty : TypeId) (base n : Nat) (v : Value) (xs : List Rnd) (hv : w.ownsRow base 40 4 v n (rcells xs)) (g : Nat) (x : Rnd) (hg : w.heap[g]? = some (.cells (rndC x) 40 (0, 0)))
    (hl : n ≤ 1000000) (hB : base ≤ w.heap.size) :
    ∃ v' w', (Builtin.append_ #[50, 50] ty #[v, .slice (some ⟨g, 0, none⟩) 1 1]).run Try.prog w = .ok v' w' ∧ w'.ownsRow base 40 4 v' (n + 1) (rcells (xs ++ [x])) ∧
      ((v'.ownBlock = some w.heap.size ∧ w.grownBy w' none) ∨ ∃ b cap, v = .slice (some ⟨b, 0, none⟩) n cap ∧ v' = .slice (some ⟨b, 0, none⟩) (n + 1) cap ∧ w.grownBy w' (some b)) := by
  obtain ⟨i0, hi0, hz0, hz1, hz2⟩ := info_parts rndInfo
  have hcs : ∀ j u, (rndC x).toList[j]? = some u → w.cell? ((⟨g, 0, none⟩ : Addr).add j) = some u := fun j u hj => by
    have e : (⟨g, 0, none⟩ : Addr).add j = ⟨g, 0 + j, none⟩ := by unfold Addr.add; split <;> simp_all
    rw [e, Nat.zero_add]
    simp only [World.cell?, hg]
    simpa using hj
  have hone : ∀ u ∈ (rndC x).toList, u.oneCell' = true := fun u hu => by
    simp only [rndC, List.mem_cons, List.not_mem_nil, or_false] at hu
    rcases hu with rfl | rfl | rfl | rfl <;> rfl
  obtain ⟨v', w', hr, h2, h3, h4, h5⟩ := run_append_own_at (P := Try.prog) w base 50 ty 40 i0 _ 4 32 Try.underlying50 hi0 hz0 hz1 hz2 rfl (by omega) v n _ hv ⟨g, 0, none⟩ 1 1 (rndC x).toList rfl hcs hone (by unfold maxLen; omega) (by omega) hB
  refine ⟨v', w', hr, by rw [rcells_snoc]; exact h2, ?_⟩
  rcases hv.2 with ⟨rfl, h0⟩ | ⟨b, cap, cur, rfl, hbb, hgb, hnc, hcm, hcs', htk⟩
  · have hr2 := run_append_nil (P := Try.prog) w 50 ty 40 i0 _ Try.underlying50 hi0 hz0 ⟨g, 0, none⟩ 1 1 (rndC x).toList (by rw [hz1]; rfl) hcs (by omega) (by omega) (by rw [hz2]; omega)
    rw [hr] at hr2
    injection hr2 with e1 e2
    subst e1
    subst e2
    exact .inl ⟨rfl, ⟨rfl, rfl, rfl, by simp, fun k hk _ => heap_alloc_old w.drew _ k hk⟩⟩
  · by_cases hroom : n + 1 ≤ cap
    · have hr2 := run_append_room (P := Try.prog) w 50 ty 40 i0 Try.underlying50 hi0 b n cap cur hgb ⟨g, 0, none⟩ 1 1 (rndC x).toList (by rw [hz1]; rfl) hcs hone hroom (by rw [hz1, hcs']; show n * 4 + 4 ≤ cap * 4; omega)
      rw [hr] at hr2
      injection hr2 with e1 e2
      exact .inr ⟨b, cap, rfl, e1, by simpa [Value.ownBlock] using h3⟩
    · have holds : ∀ j u, (rcells xs)[j]? = some u → w.cell? ((⟨b, 0, none⟩ : Addr).add j) = some u := hv.cells (g := b) rfl
      have hr2 := run_append_grow (P := Try.prog) w 50 ty 40 i0 _ Try.underlying50 hi0 hz0 ⟨b, 0, none⟩ n cap (rcells xs) (by rw [hz1]; exact hv.1) holds ⟨g, 0, none⟩ 1 1 (rndC x).toList (by rw [hz1]; rfl) hcs (by omega) (by omega) (growslice_fits (by omega) (by rw [hz2]; omega))
      rw [hr] at hr2
      injection hr2 with e1 e2
      subst e1
      subst e2
      exact .inl ⟨rfl, ⟨rfl, rfl, rfl, by simp, fun k hk _ => heap_alloc_old w.drew _ k hk⟩⟩
theorem wpListIn_app1 {F : Fence} {nF : Nat} (w : World) {ops : Array Oper} {rest : List Oper} {o : Oper} {a : Act} {Q : Exit → Act → World → Prop} (hgd : o.guard = none) (s x : Operand)
    (ho : o.op = .call { callee := .builtin .append, args := #[s, x], argTypes := #[50, 50] }) (v u v' : Value) (w' : World) (hs : a.eval s = v) (hx : a.eval x = u)
    (hr : (Builtin.append_ #[50, 50] o.type #[v, u]).run Try.prog w = .ok v' w') (h : wpListIn F nF Try.prog ops Q rest (a.put o.dst v') w') : wpListIn F nF Try.prog ops Q (o :: rest) a w := by
  refine wpListIn_plain hgd fun K hK => ?_
  unfold Oper.wpIn
  refine ⟨by simp [Oper.about, ho, resolve, Target.leads, Sem.run_pure], ?_⟩
  rw [Oper.semAt_plain F _ _ (by rw [ho]; intro c hc; cases hc)]
  simp [execOp, ho, resolve, invoke, builtin, hs, hx, hr, Result.andThen]
  exact hK _ _ h

theorem addr_at (g j : Nat) : (⟨g, 0, none⟩ : Addr).add j = ⟨g, j, none⟩ := by unfold Addr.add; split <;> simp_all

theorem box_not_rounds {W : World} {B0 k : Nat} {v : Value} (hv : Boxed W B0 50 v) (hk : Cl W k) : k ≠ B0 := fun e => by
  obtain ⟨cur, fr, hc⟩ := hk
  rw [e] at hc
  have := (show W.heap[B0]? = _ from hv).symm.trans hc
  simp at this
theorem set_size (W : World) (p : Addr) (v : Value) : (W.setCell p v).heap.size = W.heap.size := by simp [World.setCell]
theorem KA.grow {Bn B0 : Nat} {W w1 : World} {v v' : Value} {tmp : Obj} (hv : Boxed W B0 50 v) (hv1 : Boxed w1 B0 50 v) (hblk : v'.ownBlock = some (W.alloc tmp).heap.size) (hg : (W.alloc tmp).grownBy w1 none)
    (hBn : Bn < B0) : KA Bn B0 W (w1.setCell ⟨B0, 0, none⟩ v') := by
  have hB := hv.lt
  have old : ∀ i, i < W.heap.size → i ≠ B0 → (w1.setCell ⟨B0, 0, none⟩ v').heap[i]? = W.heap[i]? := fun i hi h0 =>
    (Below.heap_setCell w1 ⟨B0, 0, none⟩ v' i h0).trans ((hg.block i (by simp; omega) (by simp)).trans (Below.heap_alloc W tmp i hi))
  have hs := hg.size
  rw [World.size_alloc] at hs
  refine ⟨old Bn (by omega) (by omega), by rw [set_size]; omega, fun k hk => ?_, fun k j hk _ => World.cell?_of_block (old k hk.lt (box_not_rounds hv hk)), fun k len cap hC => ?_⟩
  · obtain ⟨cur, fr, e⟩ := hk
    exact ⟨cur, fr, (old k (Cl.lt ⟨cur, fr, e⟩) (box_not_rounds hv ⟨cur, fr, e⟩)).trans e⟩
  · have := (hv1.set v').cell
    unfold At at hC
    rw [this] at hC
    injection hC with hC
    subst hC
    simp [Value.ownBlock] at hblk
    exact .inr (.inl (by omega))
theorem KA.room {Bn B0 b n cap : Nat} {W w1 : World} {pre : List Rnd} {x : Rnd} {tmp : Obj} (hv : Boxed W B0 50 (.slice (some ⟨b, 0, none⟩) n cap)) (hv1 : Boxed w1 B0 50 (.slice (some ⟨b, 0, none⟩) n cap))
    (hrow : W.ownsRow B0 40 4 (.slice (some ⟨b, 0, none⟩) n cap) n (rcells pre)) (hown : w1.ownsRow B0 40 4 (.slice (some ⟨b, 0, none⟩) (n + 1) cap) (n + 1) (rcells (pre ++ [x]))) (hn : n = pre.length) (h1 : 1 ≤ n)
    (hg : (W.alloc tmp).grownBy w1 (some b)) (hBn : Bn < B0) : KA Bn B0 W (w1.setCell ⟨B0, 0, none⟩ (.slice (some ⟨b, 0, none⟩) (n + 1) cap)) := by
  have hB := hv.lt
  have hb : B0 ≤ b ∧ b < W.heap.size := World.ownsRow.lt hrow b rfl
  obtain ⟨cur1, hg1⟩ : ∃ cur : Array Value, w1.heap[b]? = some (.cells cur 40 (0, 0)) := by
    rcases hown.2 with ⟨e, _⟩ | ⟨g, _, cur, e, _, hgg, _⟩
    · cases e
    · injection e with e1
      injection e1 with e2
      injection e2 with e3
      subst e3
      exact ⟨cur, hgg⟩
  have clb : Cl W b := by
    rcases hrow.2 with ⟨e, _⟩ | ⟨g, _, cur, e, _, hgg, _⟩
    · cases e
    · injection e with e1
      injection e1 with e2
      injection e2 with e3
      subst e3
      exact ⟨cur, _, hgg⟩
  have hbB := box_not_rounds hv clb
  have old : ∀ i, i < W.heap.size → i ≠ B0 → i ≠ b → (w1.setCell ⟨B0, 0, none⟩ (.slice (some ⟨b, 0, none⟩) (n + 1) cap)).heap[i]? = W.heap[i]? := fun i hi h0 hib =>
    (Below.heap_setCell w1 ⟨B0, 0, none⟩ _ i h0).trans ((hg.block i (by simp; omega) (fun e => hib (by simpa using e))).trans (Below.heap_alloc W tmp i hi))
  have hs := hg.size
  rw [World.size_alloc] at hs
  refine ⟨old Bn (by omega) (by omega) (by omega), by rw [set_size]; omega, fun k hk => ?_, fun k j hk hp => ?_, fun k len cap' hC => ?_⟩
  · by_cases e : k = b
    · subst e
      exact ⟨cur1, _, (Below.heap_setCell w1 ⟨B0, 0, none⟩ _ k hbB).trans hg1⟩
    · have hlt := hk.lt
      have hB0 := box_not_rounds hv hk
      obtain ⟨cur, fr, e'⟩ := hk
      exact ⟨cur, fr, (old k hlt hB0 e).trans e'⟩
  · by_cases e : k = b
    · subst e
      have hj : j < 4 * n := by
        rcases hp n cap hv.cell with h | h
        · omega
        · exact h
      have hjl : j < (rcells pre).length := by rw [rcells_len]; omega
      have c0 := hrow.cells (g := k) rfl j _ (List.getElem?_eq_getElem hjl)
      have c1 := hown.cells (g := k) rfl j (rcells pre)[j] (by rw [rcells_snoc, List.getElem?_append_left hjl]; exact List.getElem?_eq_getElem hjl)
      rw [addr_at] at c0 c1
      rw [c0, ← c1]
      exact World.cell?_of_block (Below.heap_setCell w1 ⟨B0, 0, none⟩ _ k hbB)
    · exact World.cell?_of_block (old k hk.lt (box_not_rounds hv hk) e)
  · have := (hv1.set (.slice (some ⟨b, 0, none⟩) (n + 1) cap)).cell
    unfold At at hC
    rw [this] at hC
    injection hC with hC
    injection hC with e1 e2 e3
    injection e1 with e1
    injection e1 with e1
    subst e1
    exact .inr (.inr ⟨n, cap, hv.cell, h1, by omega⟩)

set_option maxRecDepth 100000 in
set_option maxHeartbeats 4000000 in
theorem appendSeq_in (n : Nat) (hn : 3 ≤ n) (p Bn : Nat) (w : World) (hp1 : 1 ≤ p) (hp2 : p ≤ 1000000000000) (hc : w.cell? ⟨Bn, 0, none⟩ = some (.int .i64 p)) :
    CallsIn Fence.wide n Try.prog 49 #[.slice none 0 0, .func (.func 48) #[] #[.pointer (some ⟨Bn, 0, none⟩)]] w fun e W' => ∃ v, e = .returned v ∧ W'.ownsRow w.heap.size 40 4 v (rounds p).length (rcells (rounds p)) ∧ Kp Nw w W' := by
  have hn1 : 1 ≤ n := by omega
  have hBn : Bn < w.heap.size := World.block_lt_of_cell? w _ hc
  obtain ⟨i0, hi, hz0, hz1, hz2⟩ := info_parts rndInfo
  refine callsIn_of_wp_marks Try.func49 rfl trivial ?_ rfl
  simp only [Try.ntmps49, List.size_toArray, List.length_cons, List.length_nil, Nat.reduceAdd, Nat.reduceSub, Array.replicate_succ, Array.replicate_zero, List.push_toArray, List.append_toArray, List.nil_append, List.cons_append]
  gi_wp2
  have bS := Boxed.new w 50 (.slice none 0 0)
  have hB0 : Below w.heap.size w (w.alloc (.cells #[.slice none 0 0] 50)) := (Below.refl _ w).alloc (Nat.le_refl _) _
  have hsz : (w.alloc (.cells #[.slice none 0 0] 50)).heap.size = w.heap.size + 1 := by simp
  have hc0 : (w.alloc (.cells #[.slice none 0 0] 50)).cell? ⟨Bn, 0, none⟩ = some (.int .i64 p) := (World.cell?_of_block (Below.heap_alloc w _ Bn hBn)).trans hc
  obtain ⟨W0, hW0⟩ : ∃ W0, w.alloc (.cells #[.slice none 0 0] 50) = W0 := ⟨_, rfl⟩
  rw [hW0] at bS hB0 hsz hc0 ⊢
  clear hW0
  have hB1 : Bn < W0.heap.size := by omega
  refine wpIn_rangeFunc_ownH rfl hn1 (gf := 48) (lb := #[.pointer (some ⟨Bn, 0, none⟩)]) rfl trivial (enters_of Try.func48 (by kernel_rfl) rfl)
    (encs := fun x : Rnd => #[rndV x]) (Kp := KA Bn w.heap.size) (S := fun ys => ys = rounds p) (Sp := fun pre => pre <+: rounds p) (N := 41) (w0 := W0)
    (fun l J Jx W hW hJ _ hY h0 => rounds1_in (n - 1) (by omega) l Bn p hp1 hp2 (KA Bn w.heap.size) (fun _ _ _ h j hj => h.new j hj) (fun _ _ h => World.cell?_of_block h.bn) J Jx W hJ (fun pre x W _ => hY pre x W) ((hW.cell (p := ⟨Bn, 0, none⟩) hB1).trans hc0) h0)
    (fun h k => h.trans k) (fun W l o o' hl h ho _ => KA.put (by omega) (by omega) W l o o' hl h ho) (Below.refl _ _) (fun _ => rfl)
    (fun pre W => (∃ v, Boxed W w.heap.size 50 v ∧ W.ownsRow w.heap.size 40 4 v pre.length (rcells pre) ∧ (v = .slice none 0 0 ↔ pre = [])) ∧ Below w.heap.size w W)
    (fun _ _ _ => False)
    (OwnFrom.and (Own.from (holdsRow_own w.heap.size w.heap.size 50 40 4 (fun pre => pre.length) (fun pre => rcells pre) (fun pre v => v = .slice none 0 0 ↔ pre = [])) _) (ownFrom_below (Nat.le_refl _) (by omega)))
    (fun _ _ _ _ _ hs _ _ => hs)
    ⟨⟨_, bS, World.ownsRow_nil _ _ _ _, by simp⟩, hB0⟩
    (fun x a' W => ∃ Bx, w.heap.size < Bx ∧ W.heap[Bx]? = some (.cells (rndC x) 40 (0, 0)) ∧ a' = { tmps := #[.slice none 0 0, .func (.func 48) #[] #[.pointer (some ⟨Bn, 0, none⟩)], .pointer (some ⟨w.heap.size, 0, none⟩), undef, .slice none 0 0, .pointer (some ⟨Bx, 0, none⟩), .func (.func 48) #[] #[.pointer (some ⟨Bn, 0, none⟩)], rndV x, undef, undef, undef, undef, undef], defers := [] })
    (fun x a' _ X Y row hs hg hr => by
      obtain ⟨Bx, h1, h2, h3⟩ := hs
      refine ⟨Bx, h1, (hg.block Bx (Array.getElem?_eq_some_iff.1 h2).1 (fun e => ?_)).trans h2, h3⟩
      obtain ⟨o, ho, hc⟩ := (hr Bx e.symm).2
      rw [h2] at ho
      cases ho
      cases hc)
    ?assign ?body ?done ?stop
  case assign =>
    rintro l pre x W K ⟨⟨v, hv, hrow, hG⟩, hB⟩ hK
    unfold rndV rndC
    gi_wp2
    have hlt := hv.lt
    exact hK _ _ ((KeepsOthers.alloc _ _).from _) (KA.alloc W (by omega) hlt _) ⟨⟨v, hv.alloc _, hrow.alloc _, hG⟩, hB.alloc hB.size _⟩ ⟨W.heap.size, hlt, heap_alloc_new W _, rfl⟩
  case body =>
    rintro l pre x a' W hl ⟨r, hr⟩ ⟨⟨v, hv, hrow, hG⟩, hB⟩ ⟨Bx, hBx, bX, rfl⟩ hlt
    have hc := hv.cell
    have y0 : W.cell? ⟨Bx, 0, none⟩ = some (.int .i64 (x.f : Int)) := by simp [World.cell?, bX, rndC]
    have y1 : W.cell? ⟨Bx, 1, none⟩ = some (.int .i64 (x.g : Int)) := by simp [World.cell?, bX, rndC]
    have y2 : W.cell? ⟨Bx, 2, none⟩ = some (.int .i64 (x.s : Int)) := by simp [World.cell?, bX, rndC]
    have y3 : W.cell? ⟨Bx, 3, none⟩ = some (.int .i64 (x.b : Int)) := by simp [World.cell?, bX, rndC]
    have hbs := hB.size
    obtain ⟨v', w1, hr, hown', hcase⟩ := run_app1 (W.alloc (.cells (rndC x) 40)) 50 w.heap.size pre.length v pre (hrow.alloc _) W.heap.size x (heap_alloc_new W _) (by omega) (by simp; omega)
    obtain ⟨g', cap', rfl⟩ := ownsRow_succ hown'
    have hgr : (W.alloc (.cells (rndC x) 40)).grownBy w1 v.ownBlock := by
      rcases hcase with ⟨_, hg⟩ | ⟨b, cap, rfl, _, hg⟩
      · exact ⟨hg.os, hg.tape, hg.output, hg.size, fun k hk _ => hg.block k hk (by simp)⟩
      · exact hg
    obtain ⟨hv1, hv2, hr2, hk2, hb2⟩ := hv.appended (by decide) hrow hB.size (Nat.le_refl _) hown' hgr
    have hc1 := hv1.cell
    have hf1 := hv1.frozen
    have HR := Lib.hid hr
    unfold rndC at HR
    clear hr
    gi_wp2_with (gi_at_builtin; refine wpListIn_app1 _ rfl _ _ rfl v _ _ w1 rfl rfl HR.out ?_)
    refine ⟨hk2.from _, ?_, ⟨_, hv2, by rw [List.length_append]; exact hr2, by simp⟩, hB.trans hb2⟩
    rcases hcase with ⟨hblk, hg⟩ | ⟨b, cap, rfl, hv', hg⟩
    · exact KA.grow hv hv1 hblk hg hBn
    · have hne : pre ≠ [] := fun e => by have := hG.2 e; cases this
      rw [hv'] at hown' ⊢
      exact KA.room hv hv1 hrow hown' rfl (by cases pre; exact absurd rfl hne; simp) hg hBn
  case done =>
    rintro D ys W hD rfl ⟨⟨v, hv, hrow, hG⟩, hB⟩ hK
    have hc := hv.cell
    gi_wp2
    refine ⟨by simp, .inl ⟨_, _, rfl, run_takeDeferred hK, ?_⟩⟩
    exact ⟨_, results_tmp rfl _ _ _, v, rfl, ownsRow_putObj hrow _ hK rfl, Kp.of_below (hB.trans (belowK_b (w := w) (Nat.le_refl _) W D _ _ (by omega) hK rfl rfl))⟩
  case stop =>
    rintro D c pre W _ _ h _
    exact h.elim

set_option maxHeartbeats 1000000 in
theorem collect_any (p Bn : Nat) (w : World) (hp1 : 1 ≤ p) (hp2 : p ≤ 1000000000000) (hc : w.cell? ⟨Bn, 0, none⟩ = some (.int .i64 p)) :
    Calls Try.prog 46 #[.func (.func 48) #[] #[.pointer (some ⟨Bn, 0, none⟩)]] w fun e W' => ∃ v, e = .returned v ∧ W'.ownsRow w.heap.size 40 4 v (rounds p).length (rcells (rounds p)) ∧ Kp Nw w W' := by
  have C := Lib.hid (callsIn_wide.1 (appendSeq_in 3 (Nat.le_refl _) p Bn w hp1 hp2 hc))
  go_enter Try.func46, Try.ntmps46
  go_wp2_with fail
  refine C.out.mono ?_
  rintro e w1 ⟨v, rfl, hs, hk⟩
  have HS := Lib.hid hs; have HK := Lib.hid hk
  clear hs hk
  go_wp2
  go_ret
  exact ⟨v, rfl, HS.out, HK.out⟩
end Go.Proofs.Yteodhoekkeelcaa
