/- The texts Set, Widen, Least, Steps, as one. -/
import Derived.Test.YtlkmknigfdgnoaaSaveQ
import Derived.Test.YtlkmknigfdgnoaaGcd
import Derived.Maps.RangeWalk
import Derived.Test.YtlkmknigfdgnoaaFrom
import Derived.Test.YtlkmknigfdgnoaaSav
import Derived.ScopeJumps
namespace Go.Proofs.Ytlkmknigfdgnoaa
open Go.ChangeShapes Go.WideShapes Go.ChangeAt Go.RowKit Go.Maps

theorem keyInt : Keyed Try.prog 3 := int_keyed Try.underlying3
/-- block b is a map that reads as D, of at most n entries -/
abbrev Mp (w : World) (b n : Nat) (D : DataW Unit) : Prop := w.ownsMap Try.prog 3 (plainElem (H := Unit) Try.prog 4) b n D
/-- .. that is ranged over by block r -/
abbrev Rn (w : World) (b r n : Nat) (D : DataW Unit) (left : Lit → Bool) (cnt : Nat) : Prop := w.ranges Try.prog 3 (plainElem (H := Unit) Try.prog 4) b r n D left cnt
theorem Mp.kp {w w' : World} {b n : Nat} {D : DataW Unit} {S : Nat → Prop} (h : Mp w b n D) (hk : Kp S w w') (hs : ¬ S b) : Mp w' b n D := by
  have hlt := World.ownsMap.lt h
  obtain ⟨es, clock, hb, F, hn, hD⟩ := h
  exact ⟨es, clock, (hk.block b hlt hs).trans hb, F, hn, hD⟩
theorem Rn.kp {w w' : World} {b r n : Nat} {D : DataW Unit} {left : Lit → Bool} {cnt : Nat} {S : Nat → Prop} (h : Rn w b r n D left cnt) (hk : Kp S w w') (hb' : ¬ S b) (hr' : ¬ S r) : Rn w' b r n D left cnt := by
  have h1 := World.ownsMap.lt (World.ranges.owns h)
  have h2 := World.ranges.lt h
  obtain ⟨es, clock, since, seen, c0, hb, F, hs, hD, hr, rest⟩ := h
  exact ⟨es, clock, since, seen, c0, (hk.block b h1 hb').trans hb, F, hs, hD, (hk.block r h2 hr').trans hr, rest⟩
theorem Kp.gr {S : Nat → Prop} {w w' : World} {row : Option Nat} (hg : w.grownBy w' row) (hS : ∀ g, row = some g → S g) : Kp S w w' :=
  (Kp.refl S w).grown hg (fun g hg => .inl (hS g hg))
theorem Mp.tight {w : World} {b n : Nat} {D : DataW Unit} (h : Mp w b n D) : Mp w b (Maps.size D) D := by
  obtain ⟨es, clock, hb, F, hn, hD⟩ := h
  refine ⟨es, clock, hb, F, ?_, hD⟩
  rw [hD, size_eq, length_sorted]
  simp
/-- the keys of D are the numbers of T -/
def HasD (D : DataW Unit) (T : Nat → Prop) : Prop := ∀ kl : Lit, Maps.has D kl = true ↔ ∃ k : Nat, kl = .int .i64 (k : Int) ∧ T k
theorem HasD.empty : HasD (.map []) (fun _ => False) := fun kl => by simp [has_eq]
theorem HasD.iff {D : DataW Unit} {T T' : Nat → Prop} (h : HasD D T) (hT : ∀ k, T' k ↔ T k) : HasD D T' := fun kl => by
  rw [h kl]
  exact ⟨fun ⟨k, e, hk⟩ => ⟨k, e, (hT k).2 hk⟩, fun ⟨k, e, hk⟩ => ⟨k, e, (hT k).1 hk⟩⟩
theorem HasD.put {D : DataW Unit} {T T' : Nat → Prop} (hD : IsMap D) (h : HasD D T) (x : Nat) (d : DataW Unit) (hT : ∀ k, T' k ↔ (T k ∨ k = x)) : HasD (D.put (.int .i64 (x : Int)) d) T' := by
  intro kl
  by_cases e : kl = .int .i64 (x : Int)
  · subst e
    rw [has_put_same hD (show WideAt.IsKeyLit (Lit.int .i64 (x : Int)) from trivial)]
    exact ⟨fun _ => ⟨x, rfl, (hT x).2 (.inr rfl)⟩, fun _ => rfl⟩
  · rw [has_put_other e, h kl]
    constructor
    · rintro ⟨k, rfl, hk⟩
      exact ⟨k, rfl, (hT k).2 (.inl hk)⟩
    · rintro ⟨k, rfl, hk⟩
      rcases (hT k).1 hk with hk | rfl
      · exact ⟨k, rfl, hk⟩
      · exact absurd rfl e
theorem HasD.del {D : DataW Unit} {T T' : Nat → Prop} (h : HasD D T) (x : Nat) (hT : ∀ k, T' k ↔ (T k ∧ k ≠ x)) : HasD (D.del (.int .i64 (x : Int))) T' := by
  intro kl
  by_cases e : kl = .int .i64 (x : Int)
  · subst e
    rw [has_del_same]
    refine ⟨fun h => (by cases h), ?_⟩
    rintro ⟨k, e, hk⟩
    have e2 : k = x := by
      have := (Lit.int.inj e).2
      omega
    exact absurd e2 ((hT k).1 hk).2
  · rw [has_del_other e, h kl]
    constructor
    · rintro ⟨k, rfl, hk⟩
      exact ⟨k, rfl, (hT k).2 ⟨hk, fun e2 => e (by rw [e2])⟩⟩
    · rintro ⟨k, rfl, hk⟩
      exact ⟨k, rfl, ((hT k).1 hk).1⟩
def litN : Lit → Nat
  | .int _ x => x.toNat - 1
  | _ => 0
theorem HasD.size {w : World} {b n : Nat} {D : DataW Unit} {S : Nat → Bool} {P : Nat} (h : Mp w b n D) (hT : HasD D (KeyP S P)) : Maps.size D = countK S P := by
  obtain ⟨es, rfl, hp, hk⟩ := World.ownsMap.entries h keyInt
  have hmem : ∀ p ∈ es, ∃ k : Nat, p.1 = .int .i64 (k : Int) ∧ KeyP S P k := fun p hp' => (hT p.1).1 (by rw [has_eq]; exact List.any_eq_true.2 ⟨p, hp', WideAt.sameKey_self (hk p hp')⟩)
  have hnd : (es.map (fun p => litN p.1)).Nodup := by
    rw [List.Nodup, List.pairwise_map]
    refine List.Pairwise.imp_of_mem ?_ hp
    intro x y hx hy hne e
    obtain ⟨a, ea, ha⟩ := hmem x hx
    obtain ⟨c, ec, hc⟩ := hmem y hy
    apply hne
    rw [ea, ec] at e ⊢
    have h1 := ha.1
    have h2 := hc.1
    have e2 : a = c := by
      simp [litN] at e
      omega
    rw [e2]
  rw [countK_filter, size_eq, ← List.length_map (fun p : Lit × DataW Unit => litN p.1)]
  apply Nat.le_antisymm
  · refine sub_len _ _ hnd (fun i hi => ?_)
    obtain ⟨p, hp', rfl⟩ := List.mem_map.1 hi
    obtain ⟨k, e, k1, k2, k3⟩ := hmem p hp'
    rw [List.mem_filter, List.mem_range, e]
    show (k : Int).toNat - 1 < P ∧ S ((k : Int).toNat - 1 + 1) = true
    rw [Int.toNat_natCast, show k - 1 + 1 = k by omega]
    exact ⟨by omega, k3⟩
  · refine sub_len _ _ (List.nodup_range.filter _) (fun i hi => ?_)
    obtain ⟨h1, h2⟩ := List.mem_filter.1 hi
    have h1 := List.mem_range.1 h1
    obtain ⟨p, hp', e⟩ := List.any_eq_true.1 ((hT (.int .i64 ((i + 1 : Nat) : Int))).2 ⟨i + 1, rfl, by omega, by omega, h2⟩)
    refine List.mem_map.2 ⟨p, hp', ?_⟩
    rw [WideAt.sameKey_eq e]
    show ((i + 1 : Nat) : Int).toNat - 1 = i
    rw [Int.toNat_natCast]
    omega
theorem HasD.le {w : World} {b n : Nat} {D : DataW Unit} {T : Nat → Prop} {P : Nat} (h : Mp w b n D) (hT : HasD D T) (hb : ∀ k, T k → 1 ≤ k ∧ k ≤ P) : Maps.size D ≤ P := by
  open Classical in
  have h1 : HasD D (KeyP (fun k => decide (T k)) P) := hT.iff (fun k => ⟨fun h => of_decide_eq_true h.2.2, fun h => ⟨(hb k h).1, (hb k h).2, decide_eq_true h⟩⟩)
  rw [HasD.size h h1]
  exact countK_le _ _
theorem Mp.cap {w : World} {b n : Nat} {D : DataW Unit} {T : Nat → Prop} {P : Nat} (h : Mp w b n D) (hT : HasD D T) (hb : ∀ k, T k → 1 ≤ k ∧ k ≤ P) : Mp w b P D :=
  World.ownsMap.mono (Mp.tight h) (HasD.le h hT hb)
theorem strike_iff (left : Lit → Bool) (x k : Nat) : (left (.int .i64 (k : Int)) && !(Lit.int .i64 (k : Int)).sameKey (.int .i64 (x : Int))) = true ↔ (left (.int .i64 (k : Int)) = true ∧ k ≠ x) := by
  by_cases e : k = x
  · subst e
    rw [WideAt.sameKey_self (show WideAt.IsKeyLit (Lit.int .i64 (k : Int)) from trivial)]
    simp
  · rw [sameKey_ne (fun h => e (by have := (Lit.int.inj h).2; omega))]
    simp [e]
theorem elemBool : plainElem (H := Unit) Try.prog 4 (.bool true) = some (.lit (.bool true), []) := plainElem_bool Try.underlying4 true

section
variable (w : World) {ops : Array Oper} {rest : List Oper} {o : Oper} {a : Act} {Q : Exit → Act → World → Prop}
/-- the step of a range over such a map -/
theorem wpList_next_set (hg : o.guard = none) (it : Operand) (hop : o.op = Op.next it false) (b r n : Nat) (D : DataW Unit) (left : Lit → Bool) (cnt : Nat)
    (hit : a.eval it = .pointer (some ⟨r, 0, none⟩)) (h : Rn w b r n D left cnt)
    (hDone : (∀ kl, left kl = false) → wpList Try.prog ops Q rest (a.put o.dst (.tuple #[.bool false])) w)
    (hMore : ∀ (x : Int) (c : Value) (w' : World) (cnt' : Nat), left (.int .i64 x) = true → Maps.has D (.int .i64 x) = true → Rn w' b r n D (fun z => left z && !z.sameKey (.int .i64 x)) cnt' → cnt' < cnt →
      w.grownBy w' (some r) → (Instr.entry (.pointer (some ⟨r, 0, none⟩))).run Try.prog w' = .ok (.tuple #[.int .i64 x, c]) w' → wpList Try.prog ops Q rest (a.put o.dst (.tuple #[.bool true, .int .i64 x, c])) w') :
    wpList Try.prog ops Q (o :: rest) a w :=
  wpList_next_ranges w hg it hop 3 keyInt _ (Value.int .i64) (fun c : Value => c) (fun key kl hkey => by obtain ⟨x, rfl, _⟩ := keyOf_int_inv Try.underlying3 hkey; exact ⟨x, rfl⟩) (fun v y hv => ⟨v, rfl⟩)
    b r n D left cnt hit h (fun _ hl => hDone hl) (fun x c kl y w' cnt' hkey hlk hv hat hrg hlt hgr hsz hen => by
      obtain ⟨x', ex, rfl, hwx⟩ := keyOf_int_inv Try.underlying3 hkey
      cases ex
      exact hMore x c w' cnt' hlk (has_true_of_atKey hat) hrg hlt hgr hen)
/-- a map's literal -/
theorem wpList_insert_own {H : Type} {P : Program} (hg : o.guard = none) (m x v : Operand) (t : TypeId) (hop : o.op = Op.insert t m x v)
    (k e : TypeId) (K : Keyed P k) (ht : P.underlying t = some (.map k e)) (R : Value → Option (DataW H × List MemPlace)) (b n : Nat) (D : DataW H)
    (hm : a.eval m = .map (some b)) (hown : w.ownsMap P k R b n D) (hn : n < maxLen) (key val : Value) (kl : Lit) (hx : a.eval x = key) (hv : a.eval v = val) (hkey : keyOf P k key = some kl)
    (d : DataW H) (ps : List MemPlace) (hval : R val = some (d, ps))
    (hK : ∀ w', w'.ownsMap P k R b (n + 1) (D.put kl d) → w.grownBy w' (some b) → wpList P ops Q rest (a.put o.dst undef) w') :
    wpList P ops Q (o :: rest) a w := by
  refine wpList_plain hg fun K' hK' => ?_
  obtain ⟨w', hrun, r1, r2⟩ := hown.update K ht hn hkey hval
  unfold Oper.wp
  simp [execOp, hop, hm, hx, hv, hrun, Result.andThen]
  exact hK' _ _ (hK w' r1 r2)
end
theorem run_makeMap_size (w : World) (q : IntKind) (h : Int) : (Instr.makeMap 44 (some (.int q h))).run Try.prog w = .ok (.map (some w.heap.size)) (w.alloc (.map #[] 0)) := by
  have hu : Try.prog.underlying 44 = some (.map 3 4) := Try.underlying44
  simp [Instr.makeMap, run_underlying hu, asInt, asIntOf, Result.andThen]
theorem keyOfNat (k : Nat) (h : k ≤ 1000000000) : keyOf Try.prog 3 (.int .i64 (k : Int)) = some (.int .i64 (k : Int)) :=
  keyOf_int_mk Try.underlying3 (WalkArith.wf_i64 (by omega))
/-- the cells of a set of steps and its period -/
def stp (b P : Nat) : List Value := [.map (some b), .int .i64 (P : Int)]
/-- block g holds two cells of such a set -/
def StB (w : World) (g : Nat) (cs : List Value) : Prop := w.heap[g]? = some (.cells cs.toArray 46 (0, 0))
theorem StB.cell {w : World} {g : Nat} {cs : List Value} (h : StB w g cs) (i : Nat) : w.cell? ⟨g, i, none⟩ = cs[i]? := by
  rw [cell_of_row w g i _ _ _ h]; simp
theorem StB.frozen {w : World} {g : Nat} {cs : List Value} (h : StB w g cs) (i : Nat) : w.frozen? ⟨g, i, none⟩ = false := frozen_of_row w g i _ _ h
theorem StB.lt {w : World} {g : Nat} {cs : List Value} (h : StB w g cs) : g < w.heap.size := (Array.getElem?_eq_some_iff.1 h).1
theorem StB.kp {w w' : World} {g : Nat} {cs : List Value} {S : Nat → Prop} (h : StB w g cs) (hk : Kp S w w') (hs : ¬ S g) : StB w' g cs := (hk.block g h.lt hs).trans h
theorem StB.new (w : World) (cs : List Value) : StB (w.alloc (.cells cs.toArray 46)) w.heap.size cs := heap_alloc_new w _
theorem StB.set {w : World} {g : Nat} {cs : List Value} (h : StB w g cs) (i : Nat) (x : Value) : StB (w.setCell ⟨g, i, none⟩ x) g (cs.set i x) := by
  have := heap_setCell_same w g i _ _ x h
  rw [List.setIfInBounds_toArray] at this
  exact this
theorem StB.set2 {w : World} {g : Nat} {a b : Value} (h : StB w g [a, b]) (x y : Value) : StB ((w.setCell ⟨g, 0, none⟩ x).setCell ⟨g, 1, none⟩ y) g [x, y] := (h.set 0 x).set 1 y
theorem StB.other {w : World} {g : Nat} {cs : List Value} (h : StB w g cs) (a : Addr) (hne : g ≠ a.block) (u : Value) : StB (w.setCell a u) g cs := (heap_setCell_other w a g u hne).trans h
/-- .. a set and its period -/
abbrev Sb (w : World) (g b P : Nat) : Prop := StB w g (stp b P)
theorem Sb.map {w : World} {g b P : Nat} (h : Sb w g b P) : w.cell? ⟨g, 0, none⟩ = some (.map (some b)) := h.cell 0
theorem Sb.per {w : World} {g b P : Nat} (h : Sb w g b P) : w.cell? ⟨g, 1, none⟩ = some (.int .i64 (P : Int)) := h.cell 1
end Go.Proofs.Ytlkmknigfdgnoaa
namespace Go.Proofs.Ytlkmknigfdgnoaa
open Go.ChangeShapes Go.WideShapes Go.ChangeAt Go.RowKit Go.Maps

/-- the blocks that a call with such a set lays first -/
theorem two_new (W : World) (b P : Nat) (cs : List Value) (w2 : World) (hw : w2 = ((W.alloc (.cells #[.map (some b), .int .i64 (P : Int)] 46)).alloc (.cells cs.toArray 46))) :
    Sb w2 W.heap.size b P ∧ StB w2 (W.heap.size + 1) cs ∧ Kp Nw W w2 ∧ w2.heap.size = W.heap.size + 1 + 1 := by
  subst hw
  refine ⟨?_, ?_, (Kp.al _ _).alloc _, by simp⟩
  · exact (StB.new W (stp b P)).kp (Kp.al _ _) (fun h => h)
  · have := StB.new (W.alloc (.cells #[.map (some b), .int .i64 (P : Int)] 46)) cs
    rw [World.size_alloc] at this
    exact this

/-- whether a number is among the steps, by a greater period, that are filled in already -/
def WdP (S : Nat → Bool) (P Q : Nat) (left : Lit → Bool) (k : Nat) : Prop := KeyP S Q k ∧ left (.int .i64 (resK P k : Nat)) = false

theorem lay_a (w3 w5 : World) (N Q : Nat) (l3 : N + 1 < w3.heap.size) (h : w5 = ((w3.alloc (.map #[] 0)).alloc (.cells #[.map (some w3.heap.size), .int .i64 (Q : Int)] 46)).drew) :
    Mp w5 w3.heap.size 0 (.map []) ∧ StB w5 (w3.heap.size + 1) [.map (some w3.heap.size), .int .i64 (Q : Int)] ∧ Kp Nw w3 w5 ∧ N + 1 < w3.heap.size ∧ N + 1 < w3.heap.size + 1 ∧ w3.heap.size ≠ w3.heap.size + 1 := by
  subst h
  refine ⟨World.ownsMap.drew (World.ownsMap.alloc (World.ownsMap_made _ _ _ _) _), ?_, ((Kp.al _ _).alloc _).drew, l3, by omega, by omega⟩
  have := StB.new (w3.alloc (.map #[] 0)) [.map (some w3.heap.size), .int .i64 (Q : Int)]
  rw [World.size_alloc] at this
  exact this
theorem lay_b (w3 w5 : World) (N Q : Nat) (l3 : N + 1 < w3.heap.size) (h : w5 = ((w3.alloc (.cells #[.map (some (w3.heap.size + 1)), .int .i64 (Q : Int)] 46)).alloc (.map #[] 0)).drew) :
    Mp w5 (w3.heap.size + 1) 0 (.map []) ∧ StB w5 w3.heap.size [.map (some (w3.heap.size + 1)), .int .i64 (Q : Int)] ∧ Kp Nw w3 w5 ∧ N + 1 < w3.heap.size + 1 ∧ N + 1 < w3.heap.size ∧ w3.heap.size + 1 ≠ w3.heap.size := by
  subst h
  refine ⟨?_, ?_, ((Kp.al _ _).alloc _).drew, by omega, l3, by omega⟩
  · have := World.ownsMap_made (w3.alloc (.cells #[.map (some (w3.heap.size + 1)), .int .i64 (Q : Int)] 46)) Try.prog 3 (plainElem (H := Unit) Try.prog 4)
    rw [World.size_alloc] at this
    exact World.ownsMap.drew this
  · have := StB.new w3 [.map (some (w3.heap.size + 1)), .int .i64 (Q : Int)]
    exact StB.kp this ((Kp.al _ _).drew) (fun h => h)
theorem wd_start (S : Nat → Bool) (P Q : Nat) (P1 : 1 ≤ P) (hS : ∀ k, S (k + P) = S k) (D : DataW Unit) (hT : HasD D (KeyP S P)) (v : Nat) : WdP S P Q (Maps.has D) v ↔ False := by
  refine ⟨fun h => ?_, fun h => h.elim⟩
  have h1 := (hT (.int .i64 (resK P v : Nat))).2 ⟨resK P v, rfl, resK_key S P P1 hS v h.1.1 h.1.2.2⟩
  have h2 : Maps.has D (.int .i64 (resK P v : Nat)) = false := h.2
  rw [h1] at h2
  cases h2
theorem wd_end (S : Nat → Bool) (P Q : Nat) (left : Lit → Bool) (h : ∀ kl, left kl = false) (v : Nat) : KeyP S Q v ↔ WdP S P Q left v := ⟨fun hk => ⟨hk, h _⟩, fun hk => hk.1⟩
/-- .. and the ones that stand for f up to j times the period */ -/
def WdJ (S : Nat → Bool) (P Q : Nat) (left : Lit → Bool) (f j v : Nat) : Prop := WdP S P Q left v ∨ (KeyP S Q v ∧ resK P v = f ∧ v < f + j * P)
theorem wd_first (S : Nat → Bool) (P Q : Nat) (left : Lit → Bool) (f v : Nat) : WdJ S P Q left f 0 v ↔ WdP S P Q left v := by
  refine ⟨fun h => ?_, .inl⟩
  rcases h with h | ⟨h1, h2, h3⟩
  · exact h
  · have := resK_form P v h1.1
    rw [h2] at this
    have h4 := Nat.zero_le ((v - 1) / P * P)
    omega
theorem wd_step (S : Nat → Bool) (P Q : Nat) (left : Lit → Bool) (f j v : Nat) (f1 : 1 ≤ f) (f2 : f ≤ P) (hS : ∀ k, S (k + P) = S k) (hf : S f = true) (hl : f + j * P ≤ Q) : WdJ S P Q left f (j + 1) v ↔ (WdJ S P Q left f j v ∨ v = f + j * P) := by
  have hr : resK P (f + j * P) = f := by rw [resK_mul P f f1 j, resK_self P f f1 f2]
  constructor
  · rintro (h | ⟨h1, h2, h3⟩)
    · exact .inl (.inl h)
    · rcases (resK_next P f v j f1 f2 h1.1 h2).1 h3 with h4 | h4
      · exact .inl (.inr ⟨h1, h2, h4⟩)
      · exact .inr h4
  · rintro ((h | ⟨h1, h2, h3⟩) | rfl)
    · exact .inl h
    · exact .inr ⟨h1, h2, (resK_next P f v j f1 f2 h1.1 h2).2 (.inl h3)⟩
    · have hk : KeyP S Q (f + j * P) := ⟨by omega, hl, by rw [per_mul S P hS]; exact hf⟩
      exact .inr ⟨hk, hr, (resK_next P f (f + j * P) j f1 f2 hk.1 hr).2 (.inr rfl)⟩
theorem wd_last (S : Nat → Bool) (P Q : Nat) (left : Lit → Bool) (f j v : Nat) (hl : Q < f + j * P) : WdP S P Q (fun z => left z && !z.sameKey (.int .i64 (f : Int))) v ↔ WdJ S P Q left f j v := by
  have hs := strike_iff left f (resK P v)
  constructor
  · rintro ⟨h1, h2⟩
    by_cases e : resK P v = f
    · exact .inr ⟨h1, e, Nat.lt_of_le_of_lt h1.2.1 hl⟩
    · refine .inl ⟨h1, ?_⟩
      cases hb : left (.int .i64 (resK P v : Nat))
      · rfl
      · have h4 := hs.2 ⟨hb, e⟩
        have h3 : (left (.int .i64 (resK P v : Nat)) && !(Lit.int .i64 (resK P v : Nat)).sameKey (.int .i64 (f : Int))) = false := h2
        rw [h3] at h4
        cases h4
  · rintro (⟨h1, h2⟩ | ⟨h1, h2, _⟩)
    · refine ⟨h1, ?_⟩
      show (left _ && _) = false
      rw [h2]; rfl
    · refine ⟨h1, ?_⟩
      cases hb : (left (.int .i64 (resK P v : Nat)) && !(Lit.int .i64 (resK P v : Nat)).sameKey (.int .i64 (f : Int)))
      · exact hb
      · exact absurd h2 (hs.1 hb).2

set_option maxRecDepth 100000 in
set_option maxHeartbeats 3200000 in
theorem widen_same (b P q : Nat) (W : World) (P1 : 1 ≤ P) (hP : P ≤ 1000000) (q2 : q ≤ 1000) (hL : Nat.lcm P q = P) :
    Calls Try.prog 73 #[.agg #[.map (some b), .int .i64 P], .int .i64 q] W fun e w' => e = .returned (.agg #[.map (some b), .int .i64 (P : Int)]) ∧ Kp Nw W w' := by
  have hc := lcm_any P q
  obtain ⟨w2, hw2⟩ : ∃ w2, w2 = ((W.alloc (.cells #[.map (some b), .int .i64 (P : Int)] 46)).alloc (.cells #[.map none, .int .i64 0] 46)) := ⟨_, rfl⟩
  obtain ⟨s0, s1, k2, z2⟩ := two_new W b P [.map none, .int .i64 0] w2 hw2
  have HW := Lib.hid hw2
  have K2 := Lib.hid k2
  have HC := Lib.hid hc
  have S0 := Lib.hid s0
  have S1 := Lib.hid s1
  clear hc k2 hw2 s0 s1
  go_enter Try.func73, Try.ntmps73
  go_wp2_with fail
  rw [← HW.out]
  go_wp2_with fail
  refine (HC.out _ P1 (by omega) q2).mono ?_
  rw [hL]
  rintro e w3 ⟨rfl, hk⟩
  have s0 := S0.out.kp hk (fun h => h)
  have s1 := S1.out.kp hk (fun h => h)
  have c0 := Sb.map s0
  have c1 := Sb.per s0
  have c2 : w3.cell? ⟨W.heap.size + 1, 0, none⟩ = some (.map none) := s1.cell 0
  have c3 : w3.cell? ⟨W.heap.size + 1, 1, none⟩ = some (.int .i64 0) := s1.cell 1
  have f2 := s1.frozen 0
  have f3 := s1.frozen 1
  have B2 := Lib.hid (s1.set2 (.map (some b)) (.int .i64 (P : Int)))
  have HK := Lib.hid (K2.out.trans hk)
  clear hk s0 s1
  go_wp2
  have r0 := B2.out.cell 0
  have r1 := B2.out.cell 1
  refine bodyPost_ret (v := .agg #[.map (some b), .int .i64 (P : Int)]) (by simp [results, Try.results73, go_sem, r0, r1]) rfl ⟨rfl, ?_⟩
  exact (HK.out.setCell (.inr (by show W.heap.size ≤ W.heap.size + 1; omega)) _).setCell (.inr (by show W.heap.size ≤ W.heap.size + 1; omega)) _

set_option maxRecDepth 100000 in
set_option maxHeartbeats 3200000 in
theorem widen_more (b n P Q q : Nat) (D : DataW Unit) (S : Nat → Bool) (W : World) (hm : Mp W b n D) (hT : HasD D (KeyP S P)) (P1 : 1 ≤ P) (hS : ∀ k, S (k + P) = S k) (hP : P ≤ 1000000) (q1 : 1 ≤ q) (q2 : q ≤ 1000)
    (hQ : Nat.lcm P q = Q) (hQ2 : Q ≤ 1000000) (hne : Q ≠ P) :
    Calls Try.prog 73 #[.agg #[.map (some b), .int .i64 P], .int .i64 q] W fun e w' => ∃ b' D', e = .returned (.agg #[.map (some b'), .int .i64 (Q : Int)]) ∧ Mp w' b' Q D' ∧ HasD D' (KeyP S Q) ∧ W.heap.size ≤ b' ∧ b' < w'.heap.size ∧ Kp Nw W w' := by
  have hc := lcm_any P q
  have hb := World.ownsMap.lt hm
  obtain ⟨w2, hw2⟩ : ∃ w2, w2 = ((W.alloc (.cells #[.map (some b), .int .i64 (P : Int)] 46)).alloc (.cells #[.map none, .int .i64 0] 46)) := ⟨_, rfl⟩
  obtain ⟨s0, s1, k2, z2⟩ := two_new W b P [.map none, .int .i64 0] w2 hw2
  have HW := Lib.hid hw2
  have K2 := Lib.hid k2
  have HC := Lib.hid hc
  have S0 := Lib.hid s0
  have S1 := Lib.hid s1
  have M2 := Lib.hid (Mp.kp hm k2 (fun h => h))
  obtain ⟨z, hz⟩ : ∃ z, Maps.size D = z := ⟨_, rfl⟩
  have hz2 : z ≤ P := by rw [← hz]; exact HasD.le hm hT (fun k hk => ⟨hk.1, hk.2.1⟩)
  have HZ := Lib.hid hz
  have hPQ : P ∣ Q := by rw [← hQ]; exact Nat.dvd_lcm_left _ _
  obtain ⟨m, hm2⟩ := hPQ
  have hm0 : 1 ≤ m := by
    have := Nat.lcm_pos P1 q1
    rw [hQ, hm2] at this
    exact Nat.pos_of_mul_pos_left this
  have hml : m ≤ 1000000 := by
    have := Nat.le_mul_of_pos_left m P1
    omega
  have hzm : z * m ≤ 1000000 := by
    have := Nat.mul_le_mul_right m hz2
    omega
  have wq : (Q : Int) / (P : Int) = (m : Int) := by
    rw [hm2, Int.natCast_mul, Int.mul_ediv_cancel_left _ (by omega)]
  obtain ⟨y, hy⟩ : ∃ y, z * m = y := ⟨_, rfl⟩
  have wy : (z : Int) * (m : Int) = (y : Int) := by rw [← Int.natCast_mul, hy]
  have y1 : y ≤ 1000000 := by omega
  have P0 : ¬ (P : Int) = 0 := by omega
  have hne2 : ¬ (Q : Int) = P := by omega
  clear hc k2 hw2 s0 s1 hzm hy hz hm2 hm
  go_enter Try.func73, Try.ntmps73
  go_wp2_with fail
  rw [← HW.out]
  go_wp2_with fail
  refine (HC.out _ P1 (by omega) q2).mono ?_
  rw [hQ]
  rintro e w3 ⟨rfl, hk⟩
  have s0 := S0.out.kp hk (fun h => h)
  have c0 := Sb.map s0
  have c1 := Sb.per s0
  have l3 : W.heap.size + 1 < w3.heap.size := by have := hk.size; omega
  have l4 : b < w3.heap.size := by omega
  have m3 := Mp.kp M2.out hk (fun h => h)
  have hlen := fun (w' : World) (h : Kp Nw w3 w') ty => World.ownsMap.len (Mp.kp m3 h (fun h => h)) Try.underlying44 ty
  have hlenA := hlen w3.drew (Kp.refl _ _).drew
  have hlenB := hlen (w3.alloc (.cells #[.map none, .int .i64 0] 46)).drew (Kp.al _ _).drew
  have cB : (w3.alloc (.cells #[.map none, .int .i64 0] 46)).cell? ⟨W.heap.size, 1, none⟩ = some (.int .i64 (P : Int)) := by rw [← c1]; exact (show Kp Nw w3 _ from Kp.al w3 _).cell (show W.heap.size < w3.heap.size by omega) (fun h => h)
  have cB0 : (w3.alloc (.cells #[.map none, .int .i64 0] 46)).cell? ⟨W.heap.size, 0, none⟩ = some (.map (some b)) := by rw [← c0]; exact (show Kp Nw w3 _ from Kp.al w3 _).cell (show W.heap.size < w3.heap.size by omega) (fun h => h)
  have hmk := run_makeMap_size
  have HK := Lib.hid (K2.out.trans hk)
  have S0' := Lib.hid s0
  have S1' := Lib.hid (S1.out.kp hk (fun h => h))
  have M3 := Lib.hid (Mp.kp M2.out hk (fun h => h))
  rw [HZ.out] at hlenA hlenB
  clear hk s0 hlen m3
  go_wp2
  go_region
  all_goals
    first
    | (obtain ⟨w5, h5⟩ : ∃ w5, w5 = ((w3.alloc (.map #[] 0)).alloc (.cells #[.map (some w3.heap.size), .int .i64 (Q : Int)] 46)).drew := ⟨_, rfl⟩
       rw [← h5]
       have L := lay_a w3 w5 W.heap.size Q l3 h5
       clear h5
       obtain ⟨g, hg⟩ : ∃ g, g = w3.heap.size + 1 := ⟨_, rfl⟩
       rw [← hg] at L ⊢
       obtain ⟨b', hb'⟩ : ∃ b', b' = w3.heap.size := ⟨_, rfl⟩
       rw [← hb'] at L ⊢)
    | (obtain ⟨w5, h5⟩ : ∃ w5, w5 = ((w3.alloc (.cells #[.map (some (w3.heap.size + 1)), .int .i64 (Q : Int)] 46)).alloc (.map #[] 0)).drew := ⟨_, rfl⟩
       rw [← h5]
       have L := lay_b w3 w5 W.heap.size Q l3 h5
       clear h5
       obtain ⟨b', hb'⟩ : ∃ b', b' = w3.heap.size + 1 := ⟨_, rfl⟩
       rw [← hb'] at L ⊢
       obtain ⟨g, hg⟩ : ∃ g, g = w3.heap.size := ⟨_, rfl⟩
       rw [← hg] at L ⊢)
  all_goals
    obtain ⟨mb, sg, hk5, lb, lg, nbg⟩ := L
    have BD : Hid (b < W.heap.size ∧ W.heap.size + 1 < b' ∧ W.heap.size + 1 < g ∧ b' ≠ g) := Lib.hid ⟨hb, lb, lg, nbg⟩
    have S5 := Lib.hid (S0'.out.kp hk5 (fun h => h))
    have Z5 := Lib.hid (S1'.out.kp hk5 (fun h => h))
    have G5 := Lib.hid sg
    have M5 := Lib.hid (Mp.kp M3.out hk5 (fun h => h))
    have MB := Lib.hid mb
    have K5 := Lib.hid (HK.out.trans hk5)
    have L5 : Hid (b' < w5.heap.size ∧ g < w5.heap.size) := Lib.hid ⟨World.ownsMap.lt mb, sg.lt⟩
    have c0 := Sb.map S5.out
    clear hk5 mb sg lb lg nbg hg hb' hlenA hlenB cB cB0 hmk c1 l3 l4
    go_wp2_with (first | (at_range; refine wpList_range_own _ rfl _ 44 rfl 3 4 keyInt Try.underlying44 _ b n D rfl M5.out ?_; intro w0 hrg0 hg0 hs0))
    go_frame
    obtain ⟨r, hr⟩ : ∃ r, r = w5.heap.size := ⟨_, rfl⟩
    rw [← hr] at hrg0 ⊢
    have k0 : Kp Nw w5 w0 := Kp.gr hg0 (fun g h => by cases h)
    have HR : Hid (b' < r ∧ g < r ∧ W.heap.size + 1 < r ∧ b < r) := Lib.hid (by have h1 := L5.out; have h2 := BD.out; rw [← hr] at h1; omega)
    have S6 := Lib.hid (S5.out.kp k0 (fun h => h))
    have Z6 := Lib.hid (Z5.out.kp k0 (fun h => h))
    have G6 := Lib.hid (G5.out.kp k0 (fun h => h))
    have MB6 := Lib.hid (Mp.kp MB.out k0 (fun h => h))
    have RG0 := Lib.hid hrg0
    have K6 := Lib.hid (K5.out.trans k0)
    clear hr hg0 hs0 hrg0 k0 c0
    go_loopw [7] (fun _ wr => ∃ (left : Lit → Bool) (cnt : Nat) (D' : DataW Unit), Rn wr b r n D left cnt ∧ Mp wr b' Q D' ∧ HasD D' (WdP S P Q left) ∧ Kp (fun i => i = r ∨ i = b') w0 wr) (fun _ wr => wr.rangeLeft b r)
    case atStart => exact ⟨_, _, _, RG0.out, World.ownsMap.mono MB6.out (Nat.zero_le _), HasD.empty.iff (wd_start S P Q P1 hS D hT), Kp.refl _ _⟩
    case round =>
      obtain ⟨left, cnt, D', hrg, hm', hT', hk⟩ := hrel
      have RG := Lib.hid hrg
      have MM := Lib.hid hm'
      have TT := Lib.hid hT'
      have KK := Lib.hid hk
      have s6 := S6.out.kp hk (fun h => by have := HR.out; have := BD.out; omega)
      have g6 := G6.out.kp hk (fun h => by have := HR.out; have := BD.out; omega)
      have z6 := Z6.out.kp hk (fun h => by have := HR.out; have := BD.out; omega)
      have d0 : wr.cell? ⟨g, 0, none⟩ = some (.map (some b')) := g6.cell 0
      have d1 : wr.cell? ⟨g, 1, none⟩ = some (.int .i64 (Q : Int)) := g6.cell 1
      have c2 : wr.cell? ⟨W.heap.size + 1, 0, none⟩ = some (.map none) := z6.cell 0
      have c3 : wr.cell? ⟨W.heap.size + 1, 1, none⟩ = some (.int .i64 0) := z6.cell 1
      have f2 := z6.frozen 0
      have f3 := z6.frozen 1
      have B2 := Lib.hid (z6.set2 (.map (some b')) (.int .i64 (Q : Int)))
      clear hm' hT' hk
      go_wp2_with (first | (at_next; refine wpList_next_set _ rfl _ rfl b r n _ _ _ rfl hrg ?_ ?_))
      · intro hl0
        have HL := Lib.hid hl0
        clear hl0 hrg s6 g6 z6
        go_wp2
        have r0 := B2.out.cell 0
        have r1 := B2.out.cell 1
        refine bodyPost_ret (v := .agg #[.map (some b'), .int .i64 (Q : Int)]) (by simp [results, Try.results73, go_sem, r0, r1]) rfl ⟨b', D', rfl, ?_, TT.out.iff (wd_end S P Q left HL.out), by have := BD.out; omega, ?_, ?_⟩
        · exact World.ownsMap.setCell (World.ownsMap.setCell MM.out (by show b' ≠ W.heap.size + 1; have := BD.out; omega) _) (by show b' ≠ W.heap.size + 1; have := BD.out; omega) _
        · have := World.ownsMap.lt MM.out
          simpa using this
        · exact ((K6.out.after KK.out (fun i hi h => by have := HR.out; have := BD.out; omega)).setCell (.inr (by show W.heap.size ≤ W.heap.size + 1; omega)) _).setCell (.inr (by show W.heap.size ≤ W.heap.size + 1; omega)) _
      · intro x c w1 cnt1 hlx hhas hrg1 hlt hg1 hen
        obtain ⟨f, ef, hf⟩ := (hT (.int .i64 x)).1 hhas
        obtain rfl : x = (f : Int) := (Lit.int.inj ef).2
        have f1 := hf.1
        have f2' := hf.2.1
        have HF := Lib.hid hf.2.2
        have kr : Kp (fun i => i = r ∨ i = b') wr w1 := Kp.gr hg1 (fun g h => by cases h; exact .inl rfl)
        have KK1 := Lib.hid (KK.out.trans kr)
        have MM1 : Hid (Mp w1 b' Q D') := Lib.hid (World.ownsMap.kept MM.out hg1 (by intro h; have := HR.out; cases h; omega))
        have RG1 := Lib.hid hrg1
        have LT : Hid (w1.rangeLeft b r < wr.rangeLeft b r) := Lib.hid (by rw [hrg1.left_eq, hrg.left_eq]; exact hlt)
        clear hhas hf ef hlt hrg1 hrg hg1 hlx kr s6 g6 z6 d0 d1 c2 c3 f2 f3
        have s7 := S6.out.kp KK1.out (fun h => by have := HR.out; have := BD.out; omega)
        have c1 := Sb.per s7
        have S7 := Lib.hid s7
        have G7 := Lib.hid (G6.out.kp KK1.out (fun h => by have := HR.out; have := BD.out; omega))
        clear s7
        go_wp2
        go_loopw [8] (fun iv wy => ∃ (i : Nat) (D2 : DataW Unit), iv = .int .i64 ((f + i * P : Nat) : Int) ∧ f + i * P ≤ Q + P ∧ Mp wy b' Q D2 ∧ HasD D2 (WdJ S P Q left f i) ∧ Kp (fun k => k = b') w1 wy) (fun iv _ => (Q + P + 1 - (intOf iv).toNat))
        case atStart => exact ⟨0, D', by simp, by omega, MM1.out, TT.out.iff (fun v => (wd_first S P Q left f v)), Kp.refl _ _⟩
        case round =>
          obtain ⟨i, D2, rfl, hi, hm2, hT2, hk2⟩ := hrel
          have g7 := G7.out.kp hk2 (fun h => by have := BD.out; omega)
          have d0 : wr.cell? ⟨g, 0, none⟩ = some (.map (some b')) := g7.cell 0
          have s8 := S7.out.kp hk2 (fun h => by have := BD.out; omega)
          have c1 := Sb.per s8
          have S8 := Lib.hid s8
          have RG2 : Hid (Rn wr b r n D (fun z => left z && !z.sameKey (.int .i64 (f : Int))) cnt1) := Lib.hid (Rn.kp RG1.out hk2 (by have := BD.out; omega) (by have := HR.out; omega))
          have KK2 := Lib.hid (KK1.out.trans (hk2.mono (fun k _ h => .inr h)))
          have TT2 := Lib.hid hT2
          have K2' := Lib.hid hk2
          clear g7 hT2 hk2 s8
          by_cases hlt : f + i * P ≤ Q
          · have t1 : ((f + i * P : Nat) : Int) ≤ Q := by omega
            have HST := Lib.hid (fun v => wd_step S P Q left f i v f1 f2' hS HF.out hlt)
            have ex : f + (i + 1) * P = f + i * P + P := by rw [Nat.succ_mul]; omega
            have w2' : IntKind.i64.wrap (((f + i * P : Nat) : Int) + (P : Int)) = ((f + (i + 1) * P : Nat) : Int) := by rw [IntWalk.i64_in _ (by omega), ex]; omega
            have EX := Lib.hid ex
            clear ex
            obtain ⟨kv, hkv⟩ : ∃ kv, f + i * P = kv := ⟨_, rfl⟩
            have KV := Lib.hid hkv
            rw [hkv] at t1 w2' hlt HST hi ⊢
            obtain ⟨kn, hkn⟩ : ∃ kn, f + (i + 1) * P = kn := ⟨_, rfl⟩
            have KN := Lib.hid hkn
            rw [hkn] at w2'
            have EX2 : Hid (kn = kv + P) := Lib.hid (by rw [← hkn, EX.out, hkv])
            clear hkn hkv
            go_wp2_with (first | (at_mapUpdate; refine wpList_mapUpdate_own _ rfl _ _ _ 44 rfl 3 4 keyInt Try.underlying44 _ b' Q D2 rfl hm2 (by unfold maxLen; omega) _ _ _ rfl rfl (keyOfNat kv (by omega)) _ [] elemBool ?_; intro w6 hm6 hg6; have k6 : Kp (fun k => k = b') wr w6 := Kp.gr hg6 (fun g h => by cases h; rfl); have c1 := Sb.per (S8.out.kp k6 (fun h => by have := BD.out; omega))))
            have hT6 : HasD (D2.put (.int .i64 (kv : Int)) (.lit (.bool true))) (WdJ S P Q left f (i + 1)) := TT2.out.put (World.ownsMap.isMap hm2) kv _ HST.out
            have M6 := Lib.hid (Mp.cap hm6 hT6 (fun k hk => by
              rcases hk with hk | hk
              · exact ⟨hk.1.1, hk.1.2.1⟩
              · exact ⟨hk.1.1, hk.1.2.1⟩))
            have T6 := Lib.hid hT6
            have K8 := Lib.hid (K2'.out.trans k6)
            clear hm6 hg6 k6 hT6 hm2
            go_wp2
            go_roundw
            case rel => exact ⟨i + 1, _, by rw [KN.out], by have := EX2.out; rw [KN.out]; omega, M6.out, T6.out, K8.out⟩
            case measure =>
              have := EX2.out
              simp [intOf] <;> omega
          · have t1 : ¬ ((f + i * P : Nat) : Int) ≤ Q := by omega
            have HLA := Lib.hid (fun v => wd_last S P Q left f i v (show Q < f + i * P by omega))
            have M6 := Lib.hid hm2
            clear hm2
            go_wp2
            go_roundw
            case rel => exact ⟨_, ⟨cnt1, RG2.out⟩, D2, M6.out, TT2.out.iff HLA.out, KK2.out⟩
            case measure => rw [RG2.out.left_eq, ← RG1.out.left_eq]; exact LT.out
end Go.Proofs.Ytlkmknigfdgnoaa
namespace Go.Proofs.Ytlkmknigfdgnoaa
open Go.ChangeShapes Go.WideShapes Go.ChangeAt Go.RowKit Go.Maps

theorem widen_any (b n P q : Nat) (D : DataW Unit) (S : Nat → Bool) (W : World) (hm : Mp W b n D) (hT : HasD D (KeyP S P)) (P1 : 1 ≤ P) (hS : ∀ k, S (k + P) = S k) (hP : P ≤ 1000000) (q1 : 1 ≤ q) (q2 : q ≤ 1000) (hQ2 : Nat.lcm P q ≤ 1000000) :
    Calls Try.prog 73 #[.agg #[.map (some b), .int .i64 P], .int .i64 q] W fun e w' => ∃ b' n' D', e = .returned (.agg #[.map (some b'), .int .i64 (Nat.lcm P q : Nat)]) ∧ Mp w' b' n' D' ∧ HasD D' (KeyP S (Nat.lcm P q)) ∧ (b' = b ∨ W.heap.size ≤ b') ∧ b' < w'.heap.size ∧ Kp Nw W w' := by
  by_cases e : Nat.lcm P q = P
  · refine (widen_same b P q W P1 hP q2 e).mono ?_
    rintro e1 w' ⟨rfl, hk⟩
    have hb := World.ownsMap.lt hm
    exact ⟨b, n, D, by rw [e], Mp.kp hm hk (fun h => h), by rw [e]; exact hT, .inl rfl, by have := hk.size; omega, hk⟩
  · refine (widen_more b n P (Nat.lcm P q) q D S W hm hT P1 hS hP q1 q2 rfl hQ2 e).mono ?_
    rintro e1 w' ⟨b', D', rfl, h1, h2, h3, h4, h5⟩
    exact ⟨b', _, D', rfl, h1, h2, .inr h3, h4, h5⟩
/-- the lesser of two numbers, as the program tells it -/
def mn (m : Int) (v : Nat) : Int := if (v : Int) < m then (v : Int) else m
theorem one_new (W : World) (b P : Nat) (w1 : World) (hw : w1 = W.alloc (.cells #[.map (some b), .int .i64 (P : Int)] 46)) : Sb w1 W.heap.size b P ∧ Kp Nw W w1 := by
  subst hw
  exact ⟨StB.new W (stp b P), Kp.al _ _⟩
theorem HasD.none {w : World} {b n : Nat} {D : DataW Unit} {T : Nat → Prop} (h : Mp w b n D) (hT : HasD D T) (h0 : Maps.size D = 0) (k : Nat) : ¬ T k := by
  intro hk
  obtain ⟨es, rfl⟩ := World.ownsMap.isMap h
  have h1 := (hT (.int .i64 (k : Int))).2 ⟨k, rfl, hk⟩
  have h2 : es = [] := List.eq_nil_of_length_eq_zero h0
  subst h2
  simp [has_eq] at h1
theorem HasD.some {w : World} {b n : Nat} {D : DataW Unit} {T : Nat → Prop} (h : Mp w b n D) (hT : HasD D T) (h0 : Maps.size D ≠ 0) : ∃ k, T k := by
  obtain ⟨es, rfl, hp, hk⟩ := World.ownsMap.entries h keyInt
  cases es with
  | nil => exact absurd rfl h0
  | cons p r =>
    have h1 : Maps.has (.map (p :: r)) p.1 = true := by rw [has_eq]; exact List.any_eq_true.2 ⟨p, List.mem_cons_self, WideAt.sameKey_self (hk p List.mem_cons_self)⟩
    obtain ⟨k, _, hk⟩ := (hT p.1).1 h1
    exact ⟨k, hk⟩

/-- what holds of the least one so far -/
def LstI (w0 wr : World) (b r n : Nat) (D : DataW Unit) (S : Nat → Bool) (s P : Nat) (m : Int) : Prop :=
  ∃ (left : Lit → Bool) (cnt : Nat), Rn wr b r n D left cnt ∧ (s : Int) ≤ m ∧ m ≤ (s : Int) + P ∧ (∀ k, KeyP S P k → left (.int .i64 (k : Int)) = false → m ≤ valI s P k) ∧ (m = (s : Int) + P ∨ ∃ k, KeyP S P k ∧ m = valI s P k) ∧ Kp (fun i => i = r) w0 wr

set_option maxRecDepth 100000 in
set_option maxHeartbeats 3200000 in
theorem leastAfter_any (b n P s : Nat) (D : DataW Unit) (S : Nat → Bool) (W : World) (hm : Mp W b n D) (hT : HasD D (KeyP S P)) (P1 : 1 ≤ P) (hS : ∀ k, S (k + P) = S k) (hP : P ≤ 1000000) (hs : s ≤ 1000000) :
    Calls Try.prog 58 #[.agg #[.map (some b), .int .i64 P], .int .i64 s] W fun e w' => ∃ r bb, e = .returned (.tuple #[.int .i64 r, .bool bb]) ∧ Nxt S s P r bb ∧ Kp Nw W w' := by
  have hb := World.ownsMap.lt hm
  obtain ⟨w1, hw1⟩ : ∃ w1, w1 = W.alloc (.cells #[.map (some b), .int .i64 (P : Int)] 46) := ⟨_, rfl⟩
  obtain ⟨s0, k1⟩ := one_new W b P w1 hw1
  have m1 := Mp.kp hm k1 (fun h => h)
  have HW := Lib.hid hw1
  have K1 := Lib.hid k1
  have S0 := Lib.hid s0
  have M1 := Lib.hid m1
  have c0 := Sb.map s0
  have c1 := Sb.per s0
  have BD : Hid (b < W.heap.size) := Lib.hid hb
  have sn0 : (0 : Int) ≤ s := Int.natCast_nonneg _
  have Pn0 : (1 : Int) ≤ P := by omega
  have Pn1 : (P : Int) ≤ 1000000 := by omega
  have sn1 : (s : Int) ≤ 1000000 := by omega
  have wsP : IntKind.i64.wrap ((s : Int) + (P : Int)) = (s : Int) + P := IntWalk.i64_in _ (by omega)
  by_cases hz : Maps.size D = 0
  · have HZ := Lib.hid hz
    have HN := Lib.hid (nxt_none S P P1 hS s (HasD.none hm hT hz))
    clear hw1 s0 k1 m1 hz hm
    go_enter Try.func58, Try.ntmps58
    go_wp2_with (first | (at_len; rw [← HW.out]; refine wpList_len_own _ rfl _ 44 rfl 3 4 Try.underlying44 _ b n D rfl M1.out ?_; rw [HZ.out]))
    go_ret2
    exact ⟨0, false, rfl, HN.out, K1.out⟩
  · obtain ⟨z, hz2⟩ : ∃ z, Maps.size D = z := ⟨_, rfl⟩
    rw [hz2] at hz
    have HZ := Lib.hid hz2
    have t0 : ¬ (z : Int) = 0 := by omega
    have HE := Lib.hid (HasD.some hm hT (by rw [hz2]; exact hz))
    clear hw1 s0 k1 m1 hz hz2 hm
    go_enter Try.func58, Try.ntmps58
    go_wp2_with (first | (at_len; rw [← HW.out]; refine wpList_len_own _ rfl _ 44 rfl 3 4 Try.underlying44 _ b n D rfl M1.out ?_; rw [HZ.out]) | (at_range; refine wpList_range_own _ rfl _ 44 rfl 3 4 keyInt Try.underlying44 _ b n D rfl M1.out ?_; intro w0 hrg0 hg0 hs0))
    go_frame
    rw [show ((z : Int) == 0) = false by simpa using t0]
    obtain ⟨r, hr⟩ : ∃ r, r = w1.heap.size := ⟨_, rfl⟩
    rw [← hr] at hrg0 ⊢
    have k0 : Kp Nw w1 w0 := Kp.gr hg0 (fun g h => by cases h)
    have HR : Hid (W.heap.size < r ∧ b < r) := Lib.hid (by have h1 := S0.out.lt; have h2 := BD.out; omega)
    have S6 := Lib.hid (S0.out.kp k0 (fun h => h))
    have RG0 := Lib.hid hrg0
    have K6 := Lib.hid (K1.out.trans k0)
    clear hr hg0 hs0 hrg0 k0 c0 c1
    go_loopw [6, 7] (fun lv _ wr => ∃ m : Int, lv = .int .i64 m ∧ LstI w0 wr b r n D S s P m) (fun _ _ wr => wr.rangeLeft b r)
    case atStart => exact ⟨_, rfl, _, _, RG0.out, by omega, by omega, fun k hk h => (by rw [(hT _).2 ⟨k, rfl, hk⟩] at h; cases h), .inl rfl, Kp.refl _ _⟩
    case round =>
      obtain ⟨m, rfl, left, cnt, hrg, m0, m1, hA, hB, hk⟩ := hrel
      have RG := Lib.hid hrg
      have HA := Lib.hid hA
      have HB := Lib.hid hB
      have KK := Lib.hid hk
      clear hA hB hk
      go_wp2_with (first | (at_next; refine wpList_next_set _ rfl _ rfl b r n _ _ _ rfl hrg ?_ ?_))
      · intro hl0
        have HN := Lib.hid (nxt_some S P P1 hS s m m1 (fun k hk => HA.out k hk (hl0 _)) HB.out HE.out)
        clear hl0 hrg
        go_wp2
        go_ret2
        exact ⟨m, true, rfl, HN.out, K6.out.after KK.out (fun i hi h => by have := HR.out; omega)⟩
      · intro x c w2 cnt1 hlx hhas hrg1 hlt hg1 hen
        obtain ⟨f, ef, hf⟩ := (hT (.int .i64 x)).1 hhas
        obtain rfl : x = (f : Int) := (Lit.int.inj ef).2
        have f1 := hf.1
        have f2 := hf.2.1
        have HF := Lib.hid hf
        have kr : Kp (fun i => i = r) wr w2 := Kp.gr hg1 (fun g h => by cases h; rfl)
        have KK1 := Lib.hid (KK.out.trans kr)
        have RG1 := Lib.hid hrg1
        have LT : Hid (w2.rangeLeft b r < wr.rangeLeft b r) := Lib.hid (by rw [hrg1.left_eq, hrg.left_eq]; exact hlt)
        have c1 := Sb.per (S6.out.kp KK1.out (fun h => by have := HR.out; omega))
        obtain ⟨v, hv, v1, v2, _⟩ := valI_nat S P P1 hS s f hf
        have HV := Lib.hid hv
        have hv2 : (s : Int) + 1 + ((f : Int) - s - 1) % (P : Int) = (v : Int) := hv
        have a0 := Int.emod_nonneg ((f : Int) - s - 1) (b := (P : Int)) (by omega)
        have a1 := Int.emod_lt_of_pos ((f : Int) - s - 1) (b := (P : Int)) (by omega)
        obtain ⟨y, hy⟩ : ∃ y, ((f : Int) - s - 1) % (P : Int) = y := ⟨_, rfl⟩
        have HY := Lib.hid hy
        rw [hy] at hv2 a0 a1
        have fn1 : (f : Int) ≤ 1000000 := by omega
        have fn0 : (1 : Int) ≤ f := by omega
        have w1' : IntKind.i64.wrap ((s : Int) + 1) = (s : Int) + 1 := IntWalk.i64_in _ (by omega)
        have w2' : IntKind.i64.wrap ((f : Int) - (s : Int)) = (f : Int) - s := IntWalk.i64_in _ (by omega)
        have w3' : IntKind.i64.wrap ((f : Int) - (s : Int) - 1) = (f : Int) - s - 1 := IntWalk.i64_in _ (by omega)
        have w4' : IntKind.i64.wrap ((s : Int) + 1 + y) = (v : Int) := by rw [IntWalk.i64_in _ (by omega)]; exact hv2
        have HNEW : Hid (∀ k, KeyP S P k → (left (.int .i64 (k : Int)) && !(Lit.int .i64 (k : Int)).sameKey (.int .i64 (f : Int))) = false → mn m v ≤ valI s P k) := Lib.hid (by
          intro k hk hl
          by_cases e : k = f
          · subst e
            rw [HV.out]
            unfold mn
            split <;> omega
          · have h1 : left (.int .i64 (k : Int)) = false := by
              cases hb : left (.int .i64 (k : Int))
              · rfl
              · have := (strike_iff left f k).2 ⟨hb, e⟩
                rw [hl] at this
                cases this
            have := HA.out k hk h1
            unfold mn
            split <;> omega)
        have HNB : Hid (mn m v = (s : Int) + P ∨ ∃ k, KeyP S P k ∧ mn m v = valI s P k) := Lib.hid (by
          unfold mn
          split
          · exact .inr ⟨f, HF.out, HV.out.symm⟩
          · exact HB.out)
        have hmin1 : (s : Int) ≤ mn m v := by unfold mn; split <;> omega
        have hmin2 : mn m v ≤ (s : Int) + P := by unfold mn; split <;> omega
        clear hhas hf ef hlt hrg1 hrg hg1 hlx kr hv hv2 hy
        have HL2 : Hid (LstI w0 w2 b r n D S s P (mn m v)) := Lib.hid ⟨_, _, RG1.out, hmin1, hmin2, HNEW.out, HNB.out, KK1.out⟩
        by_cases hvm : (v : Int) < m
        · have HL3 : Hid (LstI w0 w2 b r n D S s P (v : Int)) := Lib.hid (by have h := HL2.out; rw [show mn m v = (v : Int) from if_pos hvm] at h; exact h)
          go_wp2_with (first | ((with_reducible refine (around_any _ (P : Int) _ (by omega) (by omega) (by omega) (by omega)).mono ?_); rw [HY.out]; rintro e w' ⟨rfl, rfl⟩))
          go_roundw
          case rel => exact ⟨_, rfl, HL3.out⟩
          case measure => exact LT.out
        · have HL3 : Hid (LstI w0 w2 b r n D S s P m) := Lib.hid (by have h := HL2.out; rw [show mn m v = m from if_neg hvm] at h; exact h)
          go_wp2_with (first | ((with_reducible refine (around_any _ (P : Int) _ (by omega) (by omega) (by omega) (by omega)).mono ?_); rw [HY.out]; rintro e w' ⟨rfl, rfl⟩))
          go_roundw
          case rel => exact ⟨_, rfl, HL3.out⟩
          case measure => exact LT.out

set_option maxRecDepth 100000 in
set_option maxHeartbeats 3200000 in
theorem countUpTo_any (b n P M q : Nat) (D : DataW Unit) (S : Nat → Bool) (W : World) (hm : Mp W b n D) (hT : HasD D (KeyP S P)) (P1 : 1 ≤ P) (hS : ∀ k, S (k + P) = S k) (hP : P ≤ 1000000) (hM : M ≤ 1000000) (hq : M = q * P) :
    Calls Try.prog 59 #[.agg #[.map (some b), .int .i64 P], .int .i64 M] W (IntO W (countK S M : Nat)) := by
  obtain ⟨w1, hw1⟩ : ∃ w1, w1 = W.alloc (.cells #[.map (some b), .int .i64 (P : Int)] 46) := ⟨_, rfl⟩
  obtain ⟨s0, k1⟩ := one_new W b P w1 hw1
  have m1 := Mp.kp hm k1 (fun h => h)
  have HW := Lib.hid hw1
  have K1 := Lib.hid k1
  have c0 := Sb.map s0
  have c1 := Sb.per s0
  have Mn0 : (0 : Int) ≤ M := Int.natCast_nonneg _
  have Pn0 : ¬ (P : Int) = 0 := by omega
  have hlen := fun ty => World.ownsMap.len (w := w1.drew) m1 Try.underlying44 ty
  obtain ⟨z, hz2⟩ : ∃ z, Maps.size D = z := ⟨_, rfl⟩
  rw [hz2] at hlen
  have hzP : z ≤ P := by rw [← hz2]; exact HasD.le hm hT (fun k hk => ⟨hk.1, hk.2.1⟩)
  have wq : (M : Int) / (P : Int) = (q : Int) := by rw [hq, Int.natCast_mul, Int.mul_ediv_cancel _ (by omega)]
  obtain ⟨y, hy⟩ : ∃ y, z * q = y := ⟨_, rfl⟩
  have wy : (z : Int) * (q : Int) = (y : Int) := by rw [← Int.natCast_mul, hy]
  have y1 : y ≤ 1000000 := by
    rw [← hy]
    have := Nat.mul_le_mul_right q hzP
    rw [Nat.mul_comm P q] at this
    omega
  have HE : Hid (countK S M = y) := Lib.hid (by rw [hq, countK_mul S P hS q, ← HasD.size hm hT, hz2, ← hy, Nat.mul_comm])
  have y0 : (0 : Int) ≤ y := Int.natCast_nonneg _
  have z0 : (0 : Int) ≤ z := Int.natCast_nonneg _
  have q0 : (0 : Int) ≤ q := Int.natCast_nonneg _
  have yn : (y : Int) ≤ 1000000 := by omega
  have HWD : Hid (w1 = W.alloc (.cells #[.map (some b), .int .i64 (P : Int)] 46)) := HW
  have qM : q ≤ 1000000 := by
    have := Nat.le_mul_of_pos_right q P1
    omega
  have qn1 : (q : Int) ≤ 1000000 := by omega
  clear hw1 s0 k1 m1 hz2 hy hq hzP y1 qM
  rw [HE.out]
  go_enter Try.func59, Try.ntmps59
  go_wp2_with fail
  rw [← HWD.out]
  go_region
  all_goals go_wp2
  all_goals go_ret
  all_goals
    refine ⟨congrArg Ending.returned (congrArg (Value.int IntKind.i64) ?_), K1.out.drew⟩
    first
    | rfl
    | (show wrap64 ((z : Int) * wrap64 (q : Int)) = (y : Int)
       have h1 : wrap64 (q : Int) = q := by unfold wrap64; omega
       rw [h1, wy]
       unfold wrap64
       omega)
end Go.Proofs.Ytlkmknigfdgnoaa
namespace Go.Proofs.Ytlkmknigfdgnoaa
open Go.ChangeShapes Go.WideShapes Go.ChangeAt Go.RowKit Go.Maps

theorem fndD_mem (x : Int) : ∀ (xs : List Int) (j : Nat), (0 ≤ fndD x xs j ↔ x ∈ xs)
  | [], j => by simp [fndD]
  | y :: r, j => by
    unfold fndD
    by_cases e : y = x
    · rw [if_pos e]
      exact ⟨fun _ => by rw [e]; exact List.mem_cons_self, fun _ => Int.natCast_nonneg _⟩
    · rw [if_neg e, fndD_mem x r (j + 1)]
      have e2 : ¬ x = y := fun h => e h.symm
      rw [List.mem_cons]
      exact ⟨.inr, fun h => h.resolve_left e2⟩
theorem contains_any (v : Value) (xs : List Int) (x : Int) (W : World) (hv : Rd W v xs) (hl : xs.length ≤ 1000000) :
    Calls Try.prog 74 #[v, .int .i64 x] W fun e w' => e = .returned (.bool (xs.contains x)) ∧ W = w' := by
  obtain ⟨y, hy⟩ : ∃ y, fndD x xs 0 = y := ⟨_, rfl⟩
  have HY := Lib.hid hy
  have HV := Lib.hid hv
  have hm := fndD_mem x xs 0
  rw [hy] at hm
  by_cases h : x ∈ xs
  · have y0 : 0 ≤ y := hm.2 h
    have HE : Hid (xs.contains x = true) := Lib.hid (by simpa using h)
    clear hy hm h hv
    go_enter Try.func74, Try.ntmps74
    go_wp2_with (first | ((with_reducible refine (index_any _ xs x _ HV.out hl).mono ?_); rw [HY.out]; rintro e w' ⟨rfl, rfl⟩))
    go_ret
    exact ⟨ret_bool (by rw [HE.out] <;> simp [y0]), rfl⟩
  · have y0 : ¬ 0 ≤ y := fun h2 => h (hm.1 h2)
    have HE : Hid (xs.contains x = false) := Lib.hid (by simpa using h)
    clear hy hm h hv
    go_enter Try.func74, Try.ntmps74
    go_wp2_with (first | ((with_reducible refine (index_any _ xs x _ HV.out hl).mono ?_); rw [HY.out]; rintro e w' ⟨rfl, rfl⟩))
    go_ret
    exact ⟨ret_bool (by rw [HE.out] <;> simp [y0]), rfl⟩

/-- a scope with one label, jumped back to: what holds at the label is walked on from once -/
theorem wp_scope_once {P : Program} {a : Act} {w : World} {Q : Exit → Act → World → Prop} {c : Code} (l : Nat) (J : Act → World → Prop) (μ : Act → World → Nat)
    (h : ∃ rest, findLabel c l = some (Code.skip.seq rest) ∧ ∀ a w, J a w → rest.wp P (Exit.jump l (fun a' w' => J a' w' ∧ μ a' w' < μ a w) Q) a w)
    (first : (∀ rest, findLabel c l = some (Code.skip.seq rest) → ∀ a w, J a w → rest.wp P (Exit.jump l J Q) a w) → c.wp P (Exit.jump l J Q) a w) : (Code.scope c).wp P Q a w := by
  obtain ⟨rest, hf, pass⟩ := h
  refine wp_scope_jumps l J μ hf (first ?_) (fun a w hJ => wp_seq (wp_skip (pass a w hJ)))
  intro r hr a w hJ
  rw [hf] at hr
  cases hr
  refine wp_mono (pass a w hJ) (fun e a w q => ?_)
  cases e with
  | goto l' => exact ⟨q.1, q.2.1⟩
  | _ => exact q

/-- what holds at each turn: block N is the result's, block g has the steps found -/
def StJ (n T : Nat) (v : Value) (sv : List Int) (N g : Nat) (W : World) (a : Act) (w : World) : Prop :=
  ∃ (t b k : Nat) (D : DataW Unit) (u7 u8 u9 u10 u11 u12 u13 u14 u15 u16 u17 u18 u19 u20 u21 u22 u23 u24 u25 u26 u27 u28 u29 u30 u31 u32 u33 u34 u35 u36 u37 u38 u39 u40 u41 u42 u43 u44 u45 u46 : Value), a = { tmps := #[.int .i64 n, v, undef, undef, .pointer (some ⟨N, 0, none⟩), .pointer (some ⟨g, 0, none⟩), .int .i64 t, u7, u8, u9, u10, u11, u12, u13, u14, u15, u16, u17, u18, u19, u20, u21, u22, u23, u24, u25, u26, u27, u28, u29, u30, u31, u32, u33, u34, u35, u36, u37, u38, u39, u40, u41, u42, u43, u44, u45, u46], defers := [] } ∧
    t ≤ T ∧ StB w N [.map none, .int .i64 0] ∧ Sb w g b (pT n t) ∧ Mp w b k D ∧ HasD D (KeyP (okT n sv t) (pT n t)) ∧ b ≠ N ∧ b ≠ g ∧ W.heap.size ≤ b ∧ N < g ∧ Kp Nw W w
/-- what holds while those are struck by whom one goes at turn t -/
def StL (n t : Nat) (sv : List Int) (b r k P : Nat) (w0 wr : World) : Prop :=
  ∃ (left : Lit → Bool) (cnt : Nat) (D : DataW Unit), Rn wr b r k D left cnt ∧ HasD D (fun x => KeyP (okT n sv t) P x ∧ (left (.int .i64 (x : Int)) = true ∨ sv.contains (outN (x : Int) (n - 1 - t) t) = false)) ∧ Kp (fun i => i = r ∨ i = b) w0 wr
/-- what a call returns -/
def StR (n T : Nat) (sv : List Int) (W : World) (e : Ending) (w' : World) : Prop :=
  ∃ (b k P : Nat) (D : DataW Unit), e = .returned (.agg #[.map (some b), .int .i64 (P : Int)]) ∧ Mp w' b k D ∧ HasD D (KeyP (okT n sv T) P) ∧ 1 ≤ P ∧ P ≤ 720720 ∧ P ∣ pT n T ∧ (∀ k, okT n sv T (k + P) = okT n sv T k) ∧ Kp Nw W w'
theorem stR_none (n T t : Nat) (sv : List Int) (hT : T ≤ n) (ht : t ≤ T) (w : World) (b k : Nat) (D : DataW Unit) (hm : Mp w b k D) (hD : HasD D (KeyP (okT n sv t) (pT n t))) (h0 : Maps.size D = 0) :
    HasD D (KeyP (okT n sv T) (pT n t)) ∧ (∀ k, okT n sv T (k + pT n t) = okT n sv T k) := by
  have P1 := pT_pos n t (by omega)
  have hp : ∀ k, okT n sv t (k + pT n t) = okT n sv t k := fun k => okT_per n sv t (by omega) k _ (Nat.dvd_refl _)
  have h1 : ∀ k, okT n sv t k = false := fun k => by
    rw [← hp k]
    cases h : okT n sv t (k + pT n t)
    · rfl
    · exact absurd (resK_key (okT n sv t) (pT n t) P1 hp (k + pT n t) (by omega) h) (HasD.none hm hD h0 _)
  have h2 : ∀ k, okT n sv T k = false := fun k => okT_mono n sv k t T ht (h1 k)
  refine ⟨hD.iff (fun k => ⟨fun h => (by have := h.2.2; rw [h2] at this; cases this), fun h => (by have := h.2.2; rw [h1] at this; cases this)⟩), fun k => by rw [h2, h2]⟩

set_option maxRecDepth 1000000 in
set_option maxHeartbeats 6400000 in
theorem stepsSaving_any (n T : Nat) (v : Value) (sv : List Int) (L : Nat) (W : World) (hv : Rd W v sv) (hl : sv.length = L) (hT : T + L = n) (n1 : 1 ≤ n) (n2 : n ≤ 16) :
    Calls Try.prog 57 #[.int .i64 n, v] W (StR n T sv W) := by
  obtain ⟨Av, cv, rfl, _⟩ := id hv
  rw [hl] at hv ⊢
  have HV := Lib.hid hv
  have hl2 : sv.length ≤ 1000000 := by omega
  clear hv hl
  have hmm := @run_makeMap Try.prog
  go_enter Try.func57, Try.ntmps57
  go_wp2
  refine wp_scope_once 0 (fun a w => ∃ g, StJ n T (.slice Av L cv) sv W.heap.size g W a w) (fun a _ => n + 1 - (intOf (a.tmps.getD 6 undef)).toNat) ⟨_, rfl, ?_⟩ ?_
  · rintro a w ⟨g, t, b, k, D, u7, u8, u9, u10, u11, u12, u13, u14, u15, u16, u17, u18, u19, u20, u21, u22, u23, u24, u25, u26, u27, u28, u29, u30, u31, u32, u33, u34, u35, u36, u37, u38, u39, u40, u41, u42, u43, u44, u45, u46, rfl, ht, z0, s0, hm, hD, nb0, nb1, nb2, nb3, hk⟩
    have Z0 := Lib.hid z0
    have S0 := Lib.hid s0
    have HM := Lib.hid hm
    have HD := Lib.hid hD
    have HK := Lib.hid hk
    have BN : Hid (b ≠ W.heap.size ∧ b ≠ g ∧ W.heap.size ≤ b ∧ b < w.heap.size ∧ g < w.heap.size ∧ W.heap.size < w.heap.size ∧ W.heap.size < g) := Lib.hid ⟨nb0, nb1, nb2, World.ownsMap.lt hm, s0.lt, z0.lt, nb3⟩
    obtain ⟨P, hP⟩ : ∃ P, pT n t = P := ⟨_, rfl⟩
    have HPT := Lib.hid hP
    have P1 : 1 ≤ P := by rw [← hP]; exact pT_pos n t (by omega)
    have P2 : P ≤ 720720 := by rw [← hP]; exact pT_le n t n2 (by omega)
    rw [hP] at s0
    have c0 := Sb.map s0
    have c1 := Sb.per s0
    have e0 : w.cell? ⟨W.heap.size, 0, none⟩ = some (.map none) := z0.cell 0
    have e1 : w.cell? ⟨W.heap.size, 1, none⟩ = some (.int .i64 0) := z0.cell 1
    have f0 := z0.frozen 0
    have f1 := z0.frozen 1
    have B2 := Lib.hid (z0.set2 (.map (some b)) (.int .i64 (P : Int)))
    have t0 : (0 : Int) ≤ t := Int.natCast_nonneg _
    have wnL : IntKind.i64.wrap ((n : Int) - (L : Int)) = (T : Int) := by rw [IntWalk.i64_in _ (by omega)]; omega
    clear z0 s0 hD hk nb0 nb1 nb2 nb3 hP
    by_cases htT : t = T
    · subst htT
      have ge : (t : Int) ≥ t := Int.le_refl _
      have HPE : Hid (∀ k, okT n sv t (k + P) = okT n sv t k) := Lib.hid (fun k => okT_per n sv t (by omega) k P (by rw [HPT.out]; exact Nat.dvd_refl _))
      go_wp2
      have r0 := B2.out.cell 0
      have r1 := B2.out.cell 1
      simp only [Exit.jump]
      refine bodyPost_ret (v := .agg #[.map (some b), .int .i64 (P : Int)]) (by simp [results, Try.results57, go_sem, r0, r1]) rfl ?_
      refine ⟨b, k, P, D, rfl, World.ownsMap.setCell (World.ownsMap.setCell HM.out (by show b ≠ W.heap.size; exact BN.out.1) _) (by show b ≠ W.heap.size; exact BN.out.1) _, ?_, P1, P2, by rw [← HPT.out]; exact pT_mono n _ _ (by omega), ?_, (HK.out.setCell (.inr (Nat.le_refl _)) _).setCell (.inr (Nat.le_refl _)) _⟩
      · have := HD.out; rw [HPT.out] at this; exact this
      · exact HPE.out
    · have ge : ¬ (t : Int) ≥ T := by omega
      obtain ⟨z, hz⟩ : ∃ z, Maps.size D = z := ⟨_, rfl⟩
      have hlen := World.ownsMap.len hm Try.underlying44 3
      rw [hz] at hlen
      have HZ := Lib.hid hz
      by_cases hz0 : z = 0
      · subst hz0
        have HN := Lib.hid (stR_none n T t sv (by omega) ht w b k D hm HD.out hz)
        clear hz hm
        go_wp2
        have r0 := B2.out.cell 0
        have r1 := B2.out.cell 1
        simp only [Exit.jump]
        refine bodyPost_ret (v := .agg #[.map (some b), .int .i64 (P : Int)]) (by simp [results, Try.results57, go_sem, r0, r1]) rfl ?_
        refine ⟨b, k, P, D, rfl, World.ownsMap.setCell (World.ownsMap.setCell HM.out (by show b ≠ W.heap.size; exact BN.out.1) _) (by show b ≠ W.heap.size; exact BN.out.1) _, ?_, P1, P2, by rw [← HPT.out]; exact pT_mono n _ _ (by omega), ?_, (HK.out.setCell (.inr (Nat.le_refl _)) _).setCell (.inr (Nat.le_refl _)) _⟩
        · have := HN.out.1; rw [HPT.out] at this; exact this
        · have := HN.out.2; rw [HPT.out] at this; exact this
      · have z0 : ¬ (z : Int) = 0 := by omega
        have wq : IntKind.i64.wrap ((n : Int) - (t : Int)) = ((n - t : Nat) : Int) := by rw [IntWalk.i64_in _ (by omega)]; omega
        obtain ⟨Q, hQ⟩ : ∃ Q, Nat.lcm P (n - t) = Q := ⟨_, rfl⟩
        have HQT : Hid (pT n (t + 1) = Q) := Lib.hid (by rw [pT, HPT.out]; exact hQ)
        have HQ := Lib.hid hQ
        have Q2 : Q ≤ 720720 := by rw [← HQT.out]; exact pT_le n (t + 1) n2 (by omega)
        have Q1 : 1 ≤ Q := by rw [← HQT.out]; exact pT_pos n (t + 1) (by omega)
        have HWI := Lib.hid (widen_any b k P (n - t) D (okT n sv t) w hm (by have := HD.out; rw [HPT.out] at this; exact this) P1 (fun x => okT_per n sv t (by omega) x P (by rw [HPT.out]; exact Nat.dvd_refl _)) (by omega) (by omega) (by omega) (by rw [hQ]; omega))
        rw [hQ] at HWI
        clear hz hm hQ e0 e1 f0 f1 B2
        go_wp2_with fail
        refine HWI.out.mono ?_
        rintro e w3 ⟨b2, k2, D2, rfl, m2, hD2, hb2, hlt2, hk3⟩
        have BN2 : Hid (b2 ≠ W.heap.size ∧ b2 ≠ g ∧ W.heap.size ≤ b2) := Lib.hid (by have := BN.out; omega)
        have s3 := S0.out.kp hk3 (fun h => h)
        rw [HPT.out] at s3
        have c2 := Sb.map s3
        have c3 := Sb.per s3
        have f2 := s3.frozen 0
        have f3 := s3.frozen 1
        obtain ⟨w4, hw4⟩ : ∃ w4, w4 = ((w3.setCell ⟨g, 0, none⟩ (.map (some b2))).setCell ⟨g, 1, none⟩ (.int .i64 (Q : Int))) := ⟨_, rfl⟩
        have HW4 := Lib.hid hw4
        have S4 : Hid (Sb w4 g b2 Q) := Lib.hid (by rw [hw4]; exact StB.set2 s3 _ _)
        have Z4 : Hid (StB w4 W.heap.size [.map none, .int .i64 0]) := Lib.hid (by rw [hw4]; exact ((Z0.out.kp hk3 (fun h => h)).other _ (by show W.heap.size ≠ g; have := BN.out; omega) _).other _ (by show W.heap.size ≠ g; have := BN.out; omega) _)
        have M4 : Hid (Mp w4 b2 k2 D2) := Lib.hid (by rw [hw4]; exact World.ownsMap.setCell (World.ownsMap.setCell m2 (by show b2 ≠ g; exact BN2.out.2.1) _) (by show b2 ≠ g; exact BN2.out.2.1) _)
        have K4 : Hid (Kp Nw W w4) := Lib.hid (by rw [hw4]; exact ((HK.out.trans hk3).setCell (.inr (by show W.heap.size ≤ g; have := BN.out; omega)) _).setCell (.inr (by show W.heap.size ≤ g; have := BN.out; omega)) _)
        have HD2 := Lib.hid hD2
        clear s3 hw4 m2 hD2 hb2 hlt2 hk3 c0 c1 hlen
        go_wp2_with (first | (at_range; rw [← HW4.out]; refine wpList_range_own _ rfl _ 44 rfl 3 4 keyInt Try.underlying44 _ b2 k2 D2 rfl M4.out ?_; intro w0 hrg0 hg0 hs0))
        go_frame
        obtain ⟨r, hr⟩ : ∃ r, r = w4.heap.size := ⟨_, rfl⟩
        rw [← hr] at hrg0 ⊢
        have k0 : Kp Nw w4 w0 := Kp.gr hg0 (fun g h => by cases h)
        have HR : Hid (g < r ∧ W.heap.size < r ∧ b2 < r) := Lib.hid (by have h1 := S4.out.lt; have h2 := Z4.out.lt; have h3 := World.ownsMap.lt M4.out; omega)
        have S6 := Lib.hid (S4.out.kp k0 (fun h => h))
        have Z6 := Lib.hid (Z4.out.kp k0 (fun h => h))
        have RG0 := Lib.hid hrg0
        have K6 := Lib.hid (K4.out.trans k0)
        clear hr hg0 hs0 hrg0 k0 c2 c3 f2 f3
        go_loopw [7] (fun _ wr => StL n t sv b2 r k2 Q w0 wr) (fun _ wr => wr.rangeLeft b2 r)
        case atStart => exact ⟨_, _, _, RG0.out, HD2.out.iff (fun x => ⟨fun h => h.1, fun h => ⟨h, .inl ((HD2.out _).2 ⟨x, rfl, h⟩)⟩⟩), Kp.refl _ _⟩
        case round =>
          obtain ⟨left, cnt, D3, hrg, hT3, hk⟩ := hrel
          have T3 := Lib.hid hT3
          have KK := Lib.hid hk
          clear hk
          go_wp2_with (first | (at_next; refine wpList_next_set _ rfl _ rfl b2 r k2 _ _ _ rfl hrg ?_ ?_))
          · intro hl0
            have HT4 : Hid (HasD D3 (KeyP (okT n sv (t + 1)) Q)) := Lib.hid (hT3.iff (fun x => by
              constructor
              · rintro ⟨x1, x2, x3⟩
                rw [okT, Bool.and_eq_true, Bool.not_eq_true'] at x3
                exact ⟨⟨x1, x2, x3.1⟩, .inr x3.2⟩
              · rintro ⟨⟨x1, x2, x3⟩, h⟩
                rcases h with h | h
                · rw [hl0] at h; cases h
                · refine ⟨x1, x2, ?_⟩
                  rw [okT, Bool.and_eq_true, Bool.not_eq_true']
                  exact ⟨x3, h⟩))
            have M7 := Lib.hid hrg.owns
            have S7 := Lib.hid (S6.out.kp KK.out (fun h => by have := HR.out; have := BN2.out; omega))
            have Z7 := Lib.hid (Z6.out.kp KK.out (fun h => by have := HR.out; have := BN2.out; omega))
            have K7 := Lib.hid (K6.out.after KK.out (fun i hi h => by have := HR.out; have := BN2.out; omega))
            have wt : IntKind.i64.wrap ((t : Int) + 1) = ((t + 1 : Nat) : Int) := by rw [IntWalk.i64_in _ (by omega)]; omega
            clear hl0 hrg hT3
            go_wp2
            go_step3
            refine ⟨rfl, ⟨g, t + 1, b2, k2, D3, _, _, _, _, _, _, _, _, _, _, _, _, _, _, _, _, _, _, _, _, _, _, _, _, _, _, _, _, _, _, _, _, _, _, _, _, _, _, _, _, rfl, by omega, Z7.out, by rw [HQT.out]; exact S7.out, M7.out, by rw [HQT.out]; exact HT4.out, BN2.out.1, BN2.out.2.1, BN2.out.2.2, BN.out.2.2.2.2.2.2, K7.out⟩, ?_⟩
            simp [intOf]
            omega
          · intro x c w1 cnt1 hlx hhas hrg1 hlt hg1 hen
            obtain ⟨f, ef, hf⟩ := (hT3 (.int .i64 x)).1 hhas
            obtain rfl : x = (f : Int) := (Lit.int.inj ef).2
            have f1 := hf.1.1
            have f2' := hf.1.2.1
            have kr : Kp (fun i => i = r ∨ i = b2) wr w1 := Kp.gr hg1 (fun g h => by cases h; exact .inl rfl)
            have KK1 := Lib.hid (KK.out.trans kr)
            have RG1 := Lib.hid hrg1
            have LT : Hid (cnt1 < cnt) := Lib.hid hlt
            have HC0 : Hid (wr.rangeLeft b2 r = cnt) := Lib.hid hrg.left_eq
            have c0 := Sb.map (S6.out.kp KK1.out (fun h => by have := HR.out; have := BN2.out; omega))
            have HV1 := Lib.hid (HV.out.nw (K6.out.after KK1.out (fun i hi h => by have := HR.out; have := BN2.out; omega)))
            obtain ⟨y, hy⟩ : ∃ y, outN (f : Int) (n - 1 - t) t = y := ⟨_, rfl⟩
            have HY := Lib.hid hy
            have fn1 : (f : Int) ≤ 720720 := by omega
            have fn0 : (1 : Int) ≤ f := by omega
            have HF := Lib.hid hf
            have HLX := Lib.hid hlx
            clear hhas hf ef hlt hrg1 hrg hg1 hlx kr hy hT3
            cases hc : sv.contains y
            · have HC := Lib.hid hc
              have HT5 : Hid (HasD D3 (fun x => KeyP (okT n sv t) Q x ∧ ((left (.int .i64 (x : Int)) && !(Lit.int .i64 (x : Int)).sameKey (.int .i64 (f : Int))) = true ∨ sv.contains (outN (x : Int) (n - 1 - t) t) = false))) := Lib.hid (T3.out.iff (fun x => by
                constructor
                · rintro ⟨h1, h2⟩
                  refine ⟨h1, ?_⟩
                  rcases h2 with h2 | h2
                  · exact .inl ((strike_iff left f x).1 h2).1
                  · exact .inr h2
                · rintro ⟨h1, h2⟩
                  refine ⟨h1, ?_⟩
                  by_cases e : x = f
                  · subst e
                    exact .inr (by rw [HY.out]; exact HC.out)
                  · rcases h2 with h2 | h2
                    · exact .inl ((strike_iff left f x).2 ⟨h2, e⟩)
                    · exact .inr h2))
              clear hc
              go_wp2_with (first | ((with_reducible refine (outByFormula_any (n : Int) (f : Int) (t : Int) (n - 1 - t) t _ (by omega) rfl (by omega) (by omega) (by omega)).mono ?_); rw [HY.out]; rintro e w' ⟨rfl, rfl⟩) | ((with_reducible refine (contains_any _ sv y _ HV1.out hl2).mono ?_); rw [HC.out]; rintro e w' ⟨rfl, rfl⟩))
              go_roundw
              case rel => exact ⟨_, _, _, RG1.out, HT5.out, KK1.out⟩
              case measure => rw [RG1.out.left_eq, HC0.out]; exact LT.out
            · have HC := Lib.hid hc
              have HT5 : Hid (HasD (D3.del (.int .i64 (f : Int))) (fun x => KeyP (okT n sv t) Q x ∧ ((left (.int .i64 (x : Int)) && !(Lit.int .i64 (x : Int)).sameKey (.int .i64 (f : Int))) = true ∨ sv.contains (outN (x : Int) (n - 1 - t) t) = false))) := Lib.hid (T3.out.del f (fun x => by
                constructor
                · rintro ⟨h1, h2⟩
                  by_cases e : x = f
                  · subst e
                    rcases h2 with h2 | h2
                    · exact absurd rfl ((strike_iff left x x).1 h2).2
                    · rw [HY.out, HC.out] at h2; cases h2
                  · refine ⟨⟨h1, ?_⟩, e⟩
                    rcases h2 with h2 | h2
                    · exact .inl ((strike_iff left f x).1 h2).1
                    · exact .inr h2
                · rintro ⟨⟨h1, h2⟩, e⟩
                  refine ⟨h1, ?_⟩
                  rcases h2 with h2 | h2
                  · exact .inl ((strike_iff left f x).2 ⟨h2, e⟩)
                  · exact .inr h2))
              clear hc
              go_wp2_with (first | ((with_reducible refine (outByFormula_any (n : Int) (f : Int) (t : Int) (n - 1 - t) t _ (by omega) rfl (by omega) (by omega) (by omega)).mono ?_); rw [HY.out]; rintro e w' ⟨rfl, rfl⟩) | ((with_reducible refine (contains_any _ sv y _ HV1.out hl2).mono ?_); rw [HC.out]; rintro e w' ⟨rfl, rfl⟩) | (at_delete; refine wpList_delete_ranges _ rfl _ _ 44 3 rfl 4 keyInt Try.underlying44 _ b2 r k2 _ _ _ rfl RG1.out _ _ rfl (keyOfNat f (by omega)) ?_; intro w6 cnt2 hrg2 hle hturn; go_frame))
              rw [strike_twice] at hrg2
              have k6 : Kp (fun i => i = r ∨ i = b2) w1 w6 := Kp.gr hturn.grown (fun g h => by cases h; exact .inr rfl)
              go_roundw
              case rel => exact ⟨_, _, _, hrg2, HT5.out, KK1.out.trans k6⟩
              case measure => rw [hrg2.left_eq, HC0.out]; have := LT.out; omega
  · intro H
    have hm0 : Mp ((W.alloc (.cells #[.map none, .int .i64 0] 46)).alloc (.map #[] 0)) (W.heap.size + 1) 0 (.map []) := by
      have := World.ownsMap_made (W.alloc (.cells #[.map none, .int .i64 0] 46)) Try.prog 3 (plainElem (H := Unit) Try.prog 4)
      rw [World.size_alloc] at this
      exact this
    go_wp2_with (first | (refine wpList_insert_own _ rfl _ _ _ 44 rfl 3 4 keyInt Try.underlying44 _ _ 0 (.map []) rfl hm0 (by unfold maxLen; omega) _ _ _ rfl rfl (keyOf_int_mk Try.underlying3 (by decide)) _ [] elemBool ?_; intro w1 hm1 hg1))
    have l1 : W.heap.size + 1 < w1.heap.size := World.ownsMap.lt hm1
    have hk1 : Kp Nw W w1 := (((Kp.refl Nw W).alloc _).alloc _).grown hg1 (fun g hg => .inr (by cases hg; omega))
    have z1 : StB w1 W.heap.size [.map none, .int .i64 0] := ((StB.new W [.map none, .int .i64 0]).kp (Kp.al _ _) (fun h => h)).kp (Kp.gr (S := fun i => i = W.heap.size + 1) hg1 (fun g h => by cases h; rfl)) (by omega)
    go_step3
    rename_i hKK
    refine hKK _ _ ?_
    refine H _ rfl _ _ ⟨w1.heap.size, 0, W.heap.size + 1, 1, _, _, _, _, _, _, _, _, _, _, _, _, _, _, _, _, _, _, _, _, _, _, _, _, _, _, _, _, _, _, _, _, _, _, _, _, _, _, _, _, _, rfl, Nat.zero_le _, z1.kp (Kp.al _ _) (fun h => h), StB.new w1 (stp (W.heap.size + 1) 1), World.ownsMap.alloc hm1 _, ?_, by omega, by omega, by omega, by omega, hk1.alloc _⟩
    exact HasD.put isMap_empty HasD.empty 1 _ (fun x => ⟨fun h => .inr (by have h1 := h.1; have h2 : x ≤ 1 := h.2.1; omega), fun h => by
      rcases h with h | h
      · exact h.elim
      · subst h; exact ⟨Nat.le_refl _, Nat.le_refl _, rfl⟩⟩)
end Go.Proofs.Ytlkmknigfdgnoaa
