/- The functions of chapter 1 that make the list 0, 1, .., n - 1 (in the program and in its model) and the model's copy of a list; no condition but that n is at most a million. -/
import Derived.Test.YtcekobdnghllcacDoorApp
namespace Go.Proofs.YtcekobdnghllcacDoor
open Go.ChangeShapes Go.WideShapes Go.ChangeAt Go.RowKit

/-- nothing that was there has changed -/
def Nw (_ : Nat) : Prop := False
theorem Kp.after {S T : Nat → Prop} {a b c : World} (h : Kp S a b) (k : Kp T b c) (hT : ∀ g, g < a.heap.size → T g → S g) : Kp S a c :=
  ⟨k.os.trans h.os, k.tape.trans h.tape, k.output.trans h.output, Nat.le_trans h.size k.size, fun i hi hs => (k.block i (Nat.lt_of_lt_of_le hi h.size) (fun ht => hs (hT i hi ht))).trans (h.block i hi hs)⟩
theorem Sl.own_ge {w : World} {B : Nat} {v : Value} {xs : List Int} (h : Sl w B v xs) : ∀ g, v.ownBlock = some g → B ≤ g ∧ g < w.heap.size := World.ownsRow.lt h
theorem Kp.own {W w w' : World} {v : Value} {xs : List Int} (h : Kp Nw W w) (hs : Sl w W.heap.size v xs) (k : Kp (fun b => v.ownBlock = some b) w w') : Kp Nw W w' :=
  h.after k (fun g hg he => by have := (hs.own_ge g he).1; omega)
theorem Kp.below' {w w' : World} (h : Kp Nw w w') : Below w.heap.size w w' := h.below (Nat.le_refl _) (fun _ hk => hk.elim)

theorem Kp.al (w : World) (o : Obj) : Kp Nw w (w.alloc o) := (Kp.refl Nw w).alloc o
theorem Kp.nw {S : Nat → Prop} {a b c : World} (h : Kp S a b) (k : Kp Nw b c) : Kp S a c := h.after k (fun _ _ hs => hs.elim)
theorem keepc {S : Nat → Prop} {w w' : World} (hk : Kp S w w') {a : Addr} {x : Value} (h : w.cell? a = some x) (hs : ¬ S a.block) : w'.cell? a = some x :=
  (hk.cell (World.block_lt_of_cell? w _ h) hs).trans h

/-- what a call returns that makes a list -/
def Makes (W : World) (xs : List Int) (e : Ending) (w' : World) : Prop := ∃ v, e = .returned v ∧ Sl w' W.heap.size v xs ∧ Kp Nw W w'

theorem Sl.val {w : World} {B : Nat} {v : Value} {xs : List Int} (h : Sl w B v xs) {n : Nat} (hn : xs.length = n) : ∃ A c, v = .slice A n c := by
  subst hn
  rcases h.2 with ⟨rfl, h0⟩ | ⟨g, cap, cur, rfl, _⟩
  · exact ⟨none, 0, by rw [h0]⟩
  · exact ⟨_, cap, rfl⟩

theorem nil_one {k : Int} {u : Value} : Vn u [k] := fun h => by cases h

theorem marks_snoc (k : Int) (n : Nat) : marks k (n + 1) = marks k n ++ [k + n] := by simp [marks, List.range_succ]

end Go.Proofs.YtcekobdnghllcacDoor
