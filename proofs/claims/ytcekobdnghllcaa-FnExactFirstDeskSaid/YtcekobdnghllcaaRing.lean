/- RingOf in the program and in its model, and the laws' helpers on rings (equal, mark, held); no condition but that the slices' cells are there. -/
import Derived.Test.YtcekobdnghllcaaMake
import Derived.Test.YtcekobdnghllcaaLow
namespace Go.Proofs.Ytcekobdnghllcaa
open Go.ChangeShapes Go.WideShapes Go.ChangeAt Go.RowKit

theorem bcell {W w1 : World} (hb : Kp Nw W w1) : (∀ b o, b < W.heap.size → w1.cell? ⟨b, o, none⟩ = W.cell? ⟨b, o, none⟩) ∧ (∀ b o, b < W.heap.size → w1.frozen? ⟨b, o, none⟩ = W.frozen? ⟨b, o, none⟩) :=
  ⟨fun b o h => hb.below'.cell (p := ⟨b, o, none⟩) h, fun b o h => hb.below'.frozen (p := ⟨b, o, none⟩) h⟩

/-- what a call returns that makes a ring -/
def MakesRing (W : World) (xs : List Int) (k : Int) (e : Ending) (w' : World) : Prop := ∃ v, e = .returned (.tuple #[.agg #[v, .int .i64 k], .bool true]) ∧ Sl w' W.heap.size v xs ∧ Kp Nw W w'

theorem Rd.kp {w w' : World} {v : Value} {xs : List Int} {S : Nat → Prop} (h : Rd w v xs) (hk : Kp S w w') (hs : ∀ A n c, v = .slice (some A) n c → 0 < n → ¬ S A.block) : Rd w' v xs := by
  obtain ⟨A, c, rfl, hA⟩ := h
  refine ⟨A, c, rfl, fun k hlt => ?_⟩
  obtain ⟨g, o, rfl, hc⟩ := hA k hlt
  exact ⟨g, o, rfl, (hk.cell (World.block_lt_of_cell? w _ hc) (hs ⟨g, o, none⟩ xs.length c rfl (Nat.lt_of_le_of_lt (Nat.zero_le _) hlt))).trans hc⟩
theorem Rd.nw {w w' : World} {v : Value} {xs : List Int} (h : Rd w v xs) (hk : Kp Nw w w') : Rd w' v xs := h.kp hk (fun _ _ _ _ _ hs => hs)

set_option maxHeartbeats 400000 in
theorem eqRing_same (A A' : Option Addr) (n c c' : Nat) (k : Int) (xs : List Int) (W : World) (hu : Rd W (.slice A n c) xs) (hv : Rd W (.slice A' n c') xs) (hl : xs.length ≤ maxLen) :
    Calls Try.prog 16 #[.agg #[.slice A n c, .int .i64 k], .agg #[.slice A' n c', .int .i64 k]] W fun e w' => e = .returned (.bool true) ∧ Kp Nw W w' := by
  have hu2 := Lib.hid (fun o o' => hu.nw (((Kp.refl Nw W).alloc o).alloc o'))
  have hv2 := Lib.hid (fun o o' => hv.nw (((Kp.refl Nw W).alloc o).alloc o'))
  clear hu hv
  go_enter Try.func16, Try.ntmps16
  go_wp2_with fail
  refine (eqIntS_same _ _ xs _ (hu2.out _ _) (hv2.out _ _) hl).mono ?_
  rintro e w' ⟨rfl, m, rfl⟩
  go_wp2
  go_ret
  exact ⟨rfl, (((Kp.refl Nw W).alloc _).alloc _).drewN _⟩

set_option maxHeartbeats 400000 in
theorem markRing_any (A : Option Addr) (n c : Nat) (k s : Int) (xs : List Int) (W : World) (B : Nat) (hu : Sl W B (.slice A n c) xs) (hn : xs.length = n) (h0 : 0 ≤ k) (h1 : k ≤ 1000000000) (hl : xs.length ≤ 1000000000) :
    Calls Try.prog 18 #[.agg #[.slice A n c, .int .i64 s], .int .i64 k] W fun e w' => e = .returned (.int .i64 (k + n)) ∧ Sl w' B (.slice A n c) (marks k n) ∧ Kp (fun g => (Value.slice A n c).ownBlock = some g) W w' := by
  have hu2 := Lib.hid (fun o => hu.kp ((Kp.refl Nw W).alloc o) (fun _ _ hs => hs))
  subst hn
  clear hu
  go_enter Try.func18, Try.ntmps18
  go_wp2_with fail
  refine (markIntS_any _ xs k _ B (hu2.out _) h0 h1 hl).mono ?_
  rintro e w' ⟨rfl, hs, hk⟩
  have HS := Lib.hid hs
  have HK := Lib.hid hk
  clear hs hk
  go_wp2
  go_ret
  exact ⟨rfl, HS.out, ((Kp.refl _ W).alloc _).trans HK.out⟩

set_option maxHeartbeats 400000 in
theorem heldRing_any (A : Option Addr) (n c : Nat) (k s : Int) (W : World) (hu : Rd W (.slice A n c) (marks k n)) (h0 : 0 ≤ k) (h1 : k ≤ 1000000000) (hl : n ≤ 1000000000) :
    Calls Try.prog 20 #[.agg #[.slice A n c, .int .i64 s], .int .i64 k] W fun e w' => e = .returned (.int .i64 (k + n)) ∧ Kp Nw W w' := by
  have hu2 := Lib.hid (fun o => hu.nw ((Kp.refl Nw W).alloc o))
  have h2 : (0 : Int) ≤ n := Int.natCast_nonneg _
  clear hu
  go_enter Try.func20, Try.ntmps20
  go_wp2_with fail
  refine (heldIntS_any _ k n _ (hu2.out _) h0 h1 hl).mono ?_
  rintro e w' ⟨rfl, rfl⟩
  go_wp2
  go_ret
  exact ⟨rfl, (Kp.refl _ W).alloc _⟩
end Go.Proofs.Ytcekobdnghllcaa
