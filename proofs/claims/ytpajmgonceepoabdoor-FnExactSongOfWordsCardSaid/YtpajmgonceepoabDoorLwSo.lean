/- The texts Song, SongB, LwSoBestTurn, LwSoIsSong, LwSoLastBySongs, LwSoLeastSong, LwSoSafePlaces, LwSoSameOrder, LwSoSongForOrder, LwSoSongLast, LwSoSongLeft, LwSoSongOrder, LwSoSongPeriod, LwSoSongTurn, LwSoTurnSong, as one. -/
import Derived.Test.YtpajmgonceepoabDoorLaws
import Derived.Lib.SmallJoins
import Derived.Carry
import Derived.ChangeSlices
import Derived.ChangeSame
import Derived.Test.YtpajmgonceepoabDoorLwO7
namespace Go.Proofs.YtpajmgonceepoabDoor
open Go.ChangeShapes Go.WideShapes Go.ChangeAt Go.RowKit Go.Joins
set_option maxHeartbeats 400000 in
theorem eqSong_same (A A' : Option Addr) (n c c' : Nat) (xs : List Int) (W : World) (hu : Rd W (.slice A n c) xs) (hv : Rd W (.slice A' n c') xs) (hl : xs.length ≤ maxLen) :
    Calls Tryd.prog 7 #[.agg #[.slice A n c], .agg #[.slice A' n c']] W fun e w' => e = .returned (.bool true) ∧ Kp Nw W w' := by
  have hu2 := Lib.hid (fun o o' => hu.nw (((Kp.refl Nw W).alloc o).alloc o'))
  have hv2 := Lib.hid (fun o o' => hv.nw (((Kp.refl Nw W).alloc o).alloc o'))
  clear hu hv
  go_enter Tryd.func7, Tryd.ntmps7
  go_wp2_with fail
  refine (eqIntS_same _ _ xs _ (hu2.out _ _) (hv2.out _ _) hl).mono ?_
  rintro e w' ⟨rfl, m, rfl⟩
  go_wp2
  go_ret
  exact ⟨rfl, (((Kp.refl Nw W).alloc _).alloc _).drewN _⟩

set_option maxHeartbeats 400000 in
theorem markSong_any (A : Option Addr) (n c : Nat) (k : Int) (xs : List Int) (W : World) (B : Nat) (hu : Sl W B (.slice A n c) xs) (hn : xs.length = n) (h0 : 0 ≤ k) (h1 : k ≤ 1000000000) (hl : xs.length ≤ 1000000000) :
    Calls Tryd.prog 8 #[.agg #[.slice A n c], .int .i64 k] W fun e w' => e = .returned (.int .i64 (k + n)) ∧ Sl w' B (.slice A n c) (marks k n) ∧ Kp (fun g => (Value.slice A n c).ownBlock = some g) W w' := by
  have hu2 := Lib.hid (fun o => hu.kp ((Kp.refl Nw W).alloc o) (fun _ _ hs => hs))
  subst hn
  clear hu
  go_enter Tryd.func8, Tryd.ntmps8
  go_wp2_with fail
  refine (markIntS_any _ xs k _ B (hu2.out _) h0 h1 hl).mono ?_
  rintro e w' ⟨rfl, hs, hk⟩
  have HS := Lib.hid hs
  have HK := Lib.hid hk
  clear hs hk
  go_wp2
  go_ret
  exact ⟨rfl, HS.out, ((Kp.refl _ W).alloc _).trans HK.out⟩

set_option maxHeartbeats 400000 in
theorem heldSong_any (A : Option Addr) (n c : Nat) (k : Int) (W : World) (hu : Rd W (.slice A n c) (marks k n)) (h0 : 0 ≤ k) (h1 : k ≤ 1000000000) (hl : n ≤ 1000000000) :
    Calls Tryd.prog 9 #[.agg #[.slice A n c], .int .i64 k] W fun e w' => e = .returned (.int .i64 (k + n)) ∧ Kp Nw W w' := by
  have hu2 := Lib.hid (fun o => hu.nw ((Kp.refl Nw W).alloc o))
  have h2 : (0 : Int) ≤ n := Int.natCast_nonneg _
  clear hu
  go_enter Tryd.func9, Tryd.ntmps9
  go_wp2_with fail
  refine (heldIntS_any _ k n _ (hu2.out _) h0 h1 hl).mono ?_
  rintro e w' ⟨rfl, rfl⟩
  go_wp2
  go_ret
  exact ⟨rfl, (Kp.refl _ W).alloc _⟩

/-- what stands in a block of one cell -/
def Own1 (w : World) (b : Nat) (x : Value) : Prop := w.cell? ⟨b, 0, none⟩ = some x ∧ w.frozen? ⟨b, 0, none⟩ = false
theorem Own1.new (w : World) (x : Value) (t : TypeId) : Own1 (w.alloc (.cells #[x] t)) w.heap.size x := by
  refine ⟨?_, ?_⟩ <;> simp [World.cell?_alloc_at, World.frozen?_alloc_at]
theorem Own1.kp {w w' : World} {b : Nat} {x : Value} {S : Nat → Prop} (h : Own1 w b x) (hk : Kp S w w') (hs : ¬ S b) : Own1 w' b x :=
  ⟨keepc hk h.1 hs, (World.frozen?_of_block (a := ⟨b, 0, none⟩) (hk.block b (World.block_lt_of_cell? w _ h.1) hs)).trans h.2⟩
theorem one_set (w : World) (b : Nat) (x u : Value) (h0 : w.cell? ⟨b, 0, none⟩ = some u) : (w.setCell ⟨b, 0, none⟩ x).cell? ⟨b, 0, none⟩ = some x := World.cell?_setCell_same _ _ _ h0
theorem keepo (w : World) (a p : Addr) (x u : Value) (h : w.cell? a = some u) (hne : p.block ≠ a.block) : (w.setCell p x).cell? a = some u :=
  (World.cell?_setCell_other _ _ _ _ (fun e => hne (by rw [e]))).trans h

/-- what the laws' copy of a song returns -/
def SongCopy (W : World) (n : Nat) (xs : List Int) (e : Ending) (w' : World) : Prop := ∃ g, e = .returned (.agg #[.slice (some ⟨g, 0, none⟩) n n]) ∧ SlAt w' W.heap.size g n n xs ∧ Kp Nw W w' ∧ W.heap.size ≤ g ∧ g < w'.heap.size

theorem open_agg1 {H : Type} {enc : TypeId × Value → H} {P : Program} {w : World} {base : Nat} {spare : Nat → Bool} {held : Bool} {r : Reach} {b0 : Nat} {t : TypeId} {f0 : Field} {v : Value} {d : DataW H} {p : List MemPlace} (hs : P.underlying t = some (.struct #[f0])) (hone : Go.Deep.oneCellFields P #[f0] = true) (hC : P.cellsOf t = 1)
    (hv : Value.okWide P w r b0 t v) (h : DataW.Trod enc P w base spare held t v d p) :
    ∃ (v0 : Value) (y0 : DataW H × List MemPlace) (n : Nat), v = .agg #[v0] ∧ d = .agg [y0.1] ∧ p = y0.2 ∧ DataW.trod enc P w base spare held n f0.type [v0] = some y0 := by
  obtain ⟨cs, rfl, hsz⟩ := okWide_struct hs hv
  obtain ⟨c0, rfl⟩ : ∃ c0, cs = #[c0] := by
    have h1 := hsz.trans hC
    exact ⟨cs[0], Array.ext (by simpa using h1) (fun i hi hi' => by simp at hi'; subst hi'; rfl)⟩
  obtain ⟨fuel, hf⟩ := h
  obtain ⟨y0, n, hx, _, h0⟩ := trod_struct1 hs hf
  obtain ⟨o0, k0⟩ := Go.Deep.hone_of hone 0 f0 rfl
  simp only [Prod.mk.injEq] at hx
  exact ⟨c0, y0, n, rfl, hx.1, hx.2, by simpa [Value.cells, o0, k0] using h0⟩

theorem cellsIntS : Tryd.prog.cellsOf 3 = 1 := by kernel_rfl
end Go.Proofs.YtpajmgonceepoabDoor
namespace Go.Proofs.YtpajmgonceepoabDoor
open Go.ChangeShapes Go.WideShapes Go.ChangeAt Go.RowKit
/-- what a call returns that makes a song, or fails -/
def SongB (W : World) (xs : List Int) (b : Bool) (e : Ending) (w' : World) : Prop := ∃ v, e = .returned (.tuple #[.agg #[v], .bool b]) ∧ Sl w' W.heap.size v xs ∧ Kp Nw W w'
/-- a copied list is as it was where nothing old changed -/
theorem SlAt.kq8 {w w' : World} {B g cap n : Nat} {xs : List Int} {S : Nat → Prop} (h : SlAt w B g cap n xs) (hk : Kp S w w') (hs : ¬ S g) : SlAt w' B g cap n xs := by
  have h1 := h.sl.kp hk (fun g' e => by
    have e' : g' = g := by simp [Value.ownBlock] at e; omega
    rw [e']; exact hs)
  refine ⟨h.1, ?_⟩
  unfold Sl at h1
  rw [h.1] at h1
  exact h1
end Go.Proofs.YtpajmgonceepoabDoor
namespace Go.Proofs.YtpajmgonceepoabDoor
open Go.ChangeShapes Go.WideShapes Go.ChangeAt Go.RowKit
end Go.Proofs.YtpajmgonceepoabDoor
namespace Go.Proofs.YtpajmgonceepoabDoor
open Go.ChangeShapes Go.WideShapes Go.ChangeAt Go.RowKit
end Go.Proofs.YtpajmgonceepoabDoor
namespace Go.Proofs.YtpajmgonceepoabDoor
open Go.ChangeShapes Go.WideShapes Go.ChangeAt Go.RowKit
end Go.Proofs.YtpajmgonceepoabDoor
namespace Go.Proofs.YtpajmgonceepoabDoor
open Go.ChangeShapes Go.WideShapes Go.ChangeAt Go.RowKit
end Go.Proofs.YtpajmgonceepoabDoor
namespace Go.Proofs.YtpajmgonceepoabDoor
open Go.ChangeShapes Go.WideShapes Go.ChangeAt Go.RowKit
end Go.Proofs.YtpajmgonceepoabDoor
namespace Go.Proofs.YtpajmgonceepoabDoor
open Go.ChangeShapes Go.WideShapes Go.ChangeAt Go.RowKit
end Go.Proofs.YtpajmgonceepoabDoor
namespace Go.Proofs.YtpajmgonceepoabDoor
open Go.ChangeShapes Go.WideShapes Go.ChangeAt Go.RowKit
end Go.Proofs.YtpajmgonceepoabDoor
namespace Go.Proofs.YtpajmgonceepoabDoor
open Go.ChangeShapes Go.WideShapes Go.ChangeAt Go.RowKit
end Go.Proofs.YtpajmgonceepoabDoor
namespace Go.Proofs.YtpajmgonceepoabDoor
open Go.ChangeShapes Go.WideShapes Go.ChangeAt Go.RowKit
end Go.Proofs.YtpajmgonceepoabDoor
namespace Go.Proofs.YtpajmgonceepoabDoor
open Go.ChangeShapes Go.WideShapes Go.ChangeAt Go.RowKit
end Go.Proofs.YtpajmgonceepoabDoor
namespace Go.Proofs.YtpajmgonceepoabDoor
open Go.ChangeShapes Go.WideShapes Go.ChangeAt Go.RowKit
end Go.Proofs.YtpajmgonceepoabDoor
namespace Go.Proofs.YtpajmgonceepoabDoor
open Go.ChangeShapes Go.WideShapes Go.ChangeAt Go.RowKit
end Go.Proofs.YtpajmgonceepoabDoor
namespace Go.Proofs.YtpajmgonceepoabDoor
open Go.ChangeShapes Go.WideShapes Go.ChangeAt Go.RowKit
end Go.Proofs.YtpajmgonceepoabDoor
