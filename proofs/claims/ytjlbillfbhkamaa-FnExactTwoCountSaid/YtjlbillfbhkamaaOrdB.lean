/- The order of a count forth and back in the program: the model's list; no condition but that there are at most two hundred people and the steps are those of the chapter. -/
import Derived.Test.YtjlbillfbhkamaaTw
import Derived.ScopeJumps
import Derived.Laws.EntriesVeiled
namespace Go.Proofs.Ytjlbillfbhkamaa
open Go.ChangeShapes Go.WideShapes Go.ChangeAt Go.RowKit

/-- a scope with one label, jumped back to: what holds at the label is walked on from once -/
theorem wp_scope_jumps' {P : Program} {a : Act} {w : World} {Q : Exit → Act → World → Prop} {c : Code} (l : Nat) (J : Act → World → Prop) (μ : Act → World → Nat)
    (h : ∃ rest, findLabel c l = some (Code.skip.seq rest) ∧ ∀ a w, J a w → rest.wp P (Exit.jump l (fun a' w' => J a' w' ∧ μ a' w' < μ a w) Q) a w)
    (first : (∀ rest, findLabel c l = some (Code.skip.seq rest) → ∀ a w, J a w → rest.wp P (Exit.jump l J Q) a w) → c.wp P (Exit.jump l J Q) a w) : (Code.scope c).wp P Q a w := by
  obtain ⟨rest, hf, pass⟩ := h
  refine wp_scope_jumps l J μ hf (first ?_) (fun a w hJ => wp_seq (wp_skip (pass a w hJ)))
  intro r hr a w hJ
  rw [hf] at hr
  cases hr
  refine wp_mono (pass a w hJ) (fun e a w q => ?_)
  cases e with
  | goto l' => exact ⟨q.1, q.2.1⟩
  | _ => exact q


/-- a block, whole -/
def Bt (w : World) (g : Nat) (t : TypeId) (cs : List Value) : Prop := w.heap[g]? = some (.cells cs.toArray t (0, 0))
theorem Bt.cell {w : World} {g : Nat} {t : TypeId} {cs : List Value} (h : Bt w g t cs) (i : Nat) : w.cell? ⟨g, i, none⟩ = cs[i]? := by
  rw [cell_of_row w g i _ _ (0, 0) h]; simp
theorem Bt.frozen {w : World} {g : Nat} {t : TypeId} {cs : List Value} (h : Bt w g t cs) (i : Nat) : w.frozen? ⟨g, i, none⟩ = false := by
  have h' : w.heap[g]? = some (.cells cs.toArray t (0, 0)) := h
  simp [World.frozen?, h']
theorem Bt.lt {w : World} {g : Nat} {t : TypeId} {cs : List Value} (h : Bt w g t cs) : g < w.heap.size := (Array.getElem?_eq_some_iff.1 h).1
theorem Bt.kp {w w' : World} {g : Nat} {t : TypeId} {cs : List Value} {S : Nat → Prop} (h : Bt w g t cs) (hk : Kp S w w') (hs : ¬ S g) : Bt w' g t cs := (hk.block g h.lt hs).trans h
theorem Bt.new (w : World) (t : TypeId) (cs : List Value) : Bt (w.alloc (.cells cs.toArray t)) w.heap.size t cs := heap_alloc_new w _
theorem Bt.set {w : World} {g : Nat} {t : TypeId} {cs : List Value} (h : Bt w g t cs) (i : Nat) (x : Value) : Bt (w.setCell ⟨g, i, none⟩ x) g t (cs.set i x) := by
  have := heap_setCell_same w g i cs.toArray t x h
  unfold Bt
  rw [this]
  simp
theorem Bt.set2 {w : World} {g : Nat} {t : TypeId} {a b : Value} (h : Bt w g t [a, b]) (x y : Value) : Bt ((w.setCell ⟨g, 0, none⟩ x).setCell ⟨g, 1, none⟩ y) g t [x, y] := (h.set 0 x).set 1 y
theorem Bt.other {w : World} {g : Nat} {t : TypeId} {cs : List Value} (h : Bt w g t cs) (a : Addr) (hne : g ≠ a.block) (u : Value) : Bt (w.setCell a u) g t cs := (heap_setCell_other w a g u hne).trans h

theorem person_number (a b : Int) : ∀ w : World, (Instr.field 59 (.agg #[.int .i64 a, .int .i64 b]) 1).run Try.prog w = .ok (.int .i64 b) w := fun _ => by kernel_rfl

theorem stp_two (f b : Int) (j : Nat) : stp f b (j + 2) = stp f b j := by unfold stp; rw [Nat.add_mod_right]
end Go.Proofs.Ytjlbillfbhkamaa
