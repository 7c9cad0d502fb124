/- The circle of the program in memory: who is next, how one goes (forward); no condition but that the circle has at most a thousand places. -/
import Derived.Test.YtcfghaeogbimeaeDel
import Derived.Test.YtcfghaeogbimeaeFrom
import Derived.Outline
namespace Go.Proofs.Ytcfghaeogbimeae
open Go.ChangeShapes Go.WideShapes Go.ChangeAt Go.RowKit

/-- a circle: the one from whom the next turn counts, those who are left, and the step -/
def Ci (w : World) (C L cap : Nat) (ps : List (Int × Int)) (q : Int × Int) (k : Int) : Prop :=
  w.heap[C]? = some (.cells #[.int .i64 q.1, .int .i64 q.2, .slice (some ⟨L, 0, none⟩) ps.length cap, .int .i64 k] 95 (0, 0)) ∧ Ps w L cap ps

theorem Ci.ne {w : World} {C L cap : Nat} {ps : List (Int × Int)} {q : Int × Int} {k : Int} (h : Ci w C L cap ps q k) : C ≠ L := by
  rintro rfl
  obtain ⟨h1, cur, h2, _⟩ := h
  rw [h1] at h2
  injection h2 with h2
  injection h2 with _ h2
  exact absurd h2 (by decide)
theorem Ci.lt {w : World} {C L cap : Nat} {ps : List (Int × Int)} {q : Int × Int} {k : Int} (h : Ci w C L cap ps q k) : C < w.heap.size := (Array.getElem?_eq_some_iff.1 h.1).1
theorem Ci.kp {w w' : World} {C L cap : Nat} {ps : List (Int × Int)} {q : Int × Int} {k : Int} {S : Nat → Prop} (h : Ci w C L cap ps q k) (hk : Kp S w w') (h1 : ¬ S C) (h2 : ¬ S L) : Ci w' C L cap ps q k :=
  ⟨(hk.block C h.lt h1).trans h.1, h.2.kp hk h2⟩
theorem Ci.nw {w w' : World} {C L cap : Nat} {ps : List (Int × Int)} {q : Int × Int} {k : Int} (h : Ci w C L cap ps q k) (hk : Kp Nw w w') : Ci w' C L cap ps q k := h.kp hk (fun h => h) (fun h => h)
theorem Ci.cells {w : World} {C L cap : Nat} {ps : List (Int × Int)} {q : Int × Int} {k : Int} (h : Ci w C L cap ps q k) :
    w.cell? ⟨C, 0, none⟩ = some (.int .i64 q.1) ∧ w.cell? ⟨C, 1, none⟩ = some (.int .i64 q.2) ∧ w.cell? ⟨C, 2, none⟩ = some (.slice (some ⟨L, 0, none⟩) ps.length cap) ∧ w.cell? ⟨C, 3, none⟩ = some (.int .i64 k) := by
  refine ⟨?_, ?_, ?_, ?_⟩ <;> rw [cell_of_row w C _ _ _ (0, 0) h.1] <;> rfl
theorem Ci.frozen {w : World} {C L cap : Nat} {ps : List (Int × Int)} {q : Int × Int} {k : Int} (h : Ci w C L cap ps q k) (j : Nat) : w.frozen? ⟨C, j, none⟩ = false := by
  have := h.1
  simp [World.frozen?, this]

/-- the places of people are different -/
def Diff (ps : List (Int × Int)) : Prop := ∀ i j, i < j → j < ps.length → (ps.getD i (0, 0)).1 ≠ (ps.getD j (0, 0)).1

set_option maxHeartbeats 1600000 in
theorem next_any (C L cap i : Nat) (ps : List (Int × Int)) (q : Int × Int) (k : Int) (W : World) (hC : Ci W C L cap ps q k) (hi : i < ps.length) (hq : ps.getD i (0, 0) = q) (hd : Diff ps) :
    Calls Try.prog 71 #[.pointer (some ⟨C, 0, none⟩)] W fun e w' => e = .returned (.int .i64 i) ∧ Kp Nw W w' := by
  have hmf : ∀ (fn : Fn) (first cap : Array Value) (w : World), (Instr.makeFunc fn first cap).run Try.prog w = .ok (.func fn first cap) w := fun _ _ _ _ => rfl
  obtain ⟨c0, c1, c2, c3⟩ := hC.cells
  have HC := Lib.hid hC
  have C0 := Lib.hid c0
  have C1 := Lib.hid c1
  have C2 := Lib.hid c2
  have HQ := Lib.hid hq
  have HE : Hid (∀ j, j < i → (ps.getD j (0, 0)).1 ≠ q.1) := Lib.hid (fun j hj => by rw [← hq]; exact hd j i hj hi)
  clear hC hq hd c3
  go_enter Try.func71, Try.ntmps71
  go_wp2_with fail
  go_region_held3? (fun w' => Kp Nw W w' ∧ w'.cell? ⟨C, 0, none⟩ = some (.int .i64 q.1) ∧ w'.cell? ⟨C, 1, none⟩ = some (.int .i64 q.2) ∧ w'.cell? ⟨C, 2, none⟩ = some (.slice (some ⟨L, 0, none⟩) ps.length cap))
    (first
      | exact ⟨(Kp.refl _ _).drew, C0.out, C1.out, C2.out⟩
      | exact ⟨hkW1, keepc hkW1 C0.out (fun h => h), keepc hkW1 C1.out (fun h => h), keepc hkW1 C2.out (fun h => h)⟩)
    (first
      | (go_at_call 74
         refine (indexFunc_any L cap i ps _ (HC.out.2.kp (‹Kp Nw W _ ∧ _›.1) (fun h => h)) hi q HQ.out HE.out).mono ?_
         rintro e w1 ⟨rfl, hk1⟩
         have hkW1 := (‹Kp Nw W _ ∧ _›.1).nw hk1))
  have HK := Lib.hid hkW1
  clear hkW1 hk1
  go_wp2
  go_ret
  exact ⟨rfl, HK.out⟩
end Go.Proofs.Ytcfghaeogbimeae
