/- DropClue in the model; results that are puzzles; no condition. -/
import Derived.Test.YtcekobdnghllcabPuzB
import Derived.Test.YtcekobdnghllcabMPz
import Derived.Test.YtcekobdnghllcabWith
namespace Go.Proofs.Ytcekobdnghllcab
open Go.ChangeShapes Go.WideShapes Go.ChangeAt Go.RowKit

/-- a puzzle boxed, a puzzle's cell for the result: both are there behind a call -/
theorem puz_open (x : Value) (W w1 : World) (hk : Kp Nw ((W.alloc (.cells #[x] 30)).alloc (.cells #[.slice none 0 0] 30)) w1) :
    Kp Nw W w1 ∧ W.heap.size + 2 ≤ w1.heap.size ∧ Own1 w1 W.heap.size x ∧ Own1 w1 (W.heap.size + 1) (.slice none 0 0) := by
  refine ⟨((Kp.al W _).nw (.al _ _)).nw hk, by have := hk.size; simp only [World.size_alloc] at this; exact this, ((Own1.new W x 30).kp (.al _ _) (fun h => h)).kp hk (fun h => h), ?_⟩
  have h := (Own1.new (W.alloc (.cells #[x] 30)) (.slice none 0 0) 30).kp hk (fun h => h)
  simpa only [World.size_alloc] using h
/-- the result stored into its cell -/
theorem puz_close {W w1 : World} {v : Value} {xs : List Cu} (b : Nat) (hs : Cl w1 (W.heap.size + b + 1) v xs) (hk : Kp Nw W w1) :
    Cl (w1.setCell ⟨W.heap.size + b, 0, none⟩ v) W.heap.size v xs ∧ Kp Nw W (w1.setCell ⟨W.heap.size + b, 0, none⟩ v) := by
  refine ⟨?_, hk.setCell (.inr (by show W.heap.size ≤ W.heap.size + b; omega)) _⟩
  have k9 : Kp (fun g => g = W.heap.size + b) w1 w1 := Kp.refl _ _
  exact (hs.kp (k9.setCell (p := ⟨W.heap.size + b, 0, none⟩) (.inl rfl) v) (fun gg a b => by have := (hs.own_ge gg a).1; omega)).from (by omega)
theorem puz_none {W w1 : World} (b : Nat) (hz : W.heap.size + b + 1 ≤ w1.heap.size) (hk : Kp Nw W w1) :
    Cl (w1.setCell ⟨W.heap.size + b, 0, none⟩ (.slice none 0 0)) W.heap.size (.slice none 0 0) [] ∧ Kp Nw W (w1.setCell ⟨W.heap.size + b, 0, none⟩ (.slice none 0 0)) :=
  puz_close b ((Cl.nil w1 w1.heap.size).from hz) hk
def vDrop (ps : List Cu) (k : Int) : List Cu × Bool := if puzB ps = true ∧ 0 ≤ k ∧ k ≤ (ps.length : Int) - 1 then (wo ps k.toNat, true) else ([], false)
theorem vDrop_len (ps : List Cu) (k : Int) : (vDrop ps k).1.length ≤ 1000000 := by
  unfold vDrop
  split
  · rename_i h
    have h6 := (puz_parts h.1).1
    have := wo_len ps k.toNat (by omega)
    simp only
    omega
  · exact Nat.zero_le _

end Go.Proofs.Ytcekobdnghllcab
