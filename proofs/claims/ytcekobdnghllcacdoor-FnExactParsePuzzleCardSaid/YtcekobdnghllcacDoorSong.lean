/- Songs: the laws' helpers on them (equal, mark, held, size, copy), songs that come in, opened; no condition but that the slices' cells are there. -/
import Derived.Test.YtcekobdnghllcacDoorLaws
import Derived.Lib.SmallJoins
import Derived.Carry
import Derived.ChangeSlices
import Derived.ChangeSame
namespace Go.Proofs.YtcekobdnghllcacDoor
open Go.ChangeShapes Go.WideShapes Go.ChangeAt Go.RowKit Go.Joins
/-- what stands in a block of one cell -/
def Own1 (w : World) (b : Nat) (x : Value) : Prop := w.cell? ⟨b, 0, none⟩ = some x ∧ w.frozen? ⟨b, 0, none⟩ = false
theorem Own1.new (w : World) (x : Value) (t : TypeId) : Own1 (w.alloc (.cells #[x] t)) w.heap.size x := by
  refine ⟨?_, ?_⟩ <;> simp [World.cell?_alloc_at, World.frozen?_alloc_at]
theorem Own1.kp {w w' : World} {b : Nat} {x : Value} {S : Nat → Prop} (h : Own1 w b x) (hk : Kp S w w') (hs : ¬ S b) : Own1 w' b x :=
  ⟨keepc hk h.1 hs, (World.frozen?_of_block (a := ⟨b, 0, none⟩) (hk.block b (World.block_lt_of_cell? w _ h.1) hs)).trans h.2⟩
theorem one_set (w : World) (b : Nat) (x u : Value) (h0 : w.cell? ⟨b, 0, none⟩ = some u) : (w.setCell ⟨b, 0, none⟩ x).cell? ⟨b, 0, none⟩ = some x := World.cell?_setCell_same _ _ _ h0
theorem keepo (w : World) (a p : Addr) (x u : Value) (h : w.cell? a = some u) (hne : p.block ≠ a.block) : (w.setCell p x).cell? a = some u :=
  (World.cell?_setCell_other _ _ _ _ (fun e => hne (by rw [e]))).trans h

/-- what the laws' copy of a song returns -/
def SongCopy (W : World) (n : Nat) (xs : List Int) (e : Ending) (w' : World) : Prop := ∃ g, e = .returned (.agg #[.slice (some ⟨g, 0, none⟩) n n]) ∧ SlAt w' W.heap.size g n n xs ∧ Kp Nw W w' ∧ W.heap.size ≤ g ∧ g < w'.heap.size

theorem open_agg1 {H : Type} {enc : TypeId × Value → H} {P : Program} {w : World} {base : Nat} {spare : Nat → Bool} {held : Bool} {r : Reach} {b0 : Nat} {t : TypeId} {f0 : Field} {v : Value} {d : DataW H} {p : List MemPlace} (hs : P.underlying t = some (.struct #[f0])) (hone : Go.Deep.oneCellFields P #[f0] = true) (hC : P.cellsOf t = 1)
    (hv : Value.okWide P w r b0 t v) (h : DataW.Trod enc P w base spare held t v d p) :
    ∃ (v0 : Value) (y0 : DataW H × List MemPlace) (n : Nat), v = .agg #[v0] ∧ d = .agg [y0.1] ∧ p = y0.2 ∧ DataW.trod enc P w base spare held n f0.type [v0] = some y0 := by
  obtain ⟨cs, rfl, hsz⟩ := okWide_struct hs hv
  obtain ⟨c0, rfl⟩ : ∃ c0, cs = #[c0] := by
    have h1 := hsz.trans hC
    exact ⟨cs[0], Array.ext (by simpa using h1) (fun i hi hi' => by simp at hi'; subst hi'; rfl)⟩
  obtain ⟨fuel, hf⟩ := h
  obtain ⟨y0, n, hx, _, h0⟩ := trod_struct1 hs hf
  obtain ⟨o0, k0⟩ := Go.Deep.hone_of hone 0 f0 rfl
  simp only [Prod.mk.injEq] at hx
  exact ⟨c0, y0, n, rfl, hx.1, hx.2, by simpa [Value.cells, o0, k0] using h0⟩

theorem cellsIntS : Tryd.prog.cellsOf 3 = 1 := by kernel_rfl
end Go.Proofs.YtcekobdnghllcacDoor
