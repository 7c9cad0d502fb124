/- The texts Song, SongB, LwSoBestTurn, LwSoIsSong, LwSoLastBySongs, LwSoLeastSong, LwSoSafePlaces, LwSoSameOrder, LwSoSongForOrder, LwSoSongLast, LwSoSongLeft, LwSoSongOrder, LwSoSongPeriod, LwSoSongTurn, LwSoTurnSong, as one. -/
import Derived.Test.YtbndgkjnigehgabLaws
import Derived.Lib.SmallJoins
import Derived.Carry
import Derived.ChangeSlices
import Derived.ChangeSame
import Derived.Test.YtbndgkjnigehgabLwO7
namespace Go.Proofs.Ytbndgkjnigehgab
open Go.ChangeShapes Go.WideShapes Go.ChangeAt Go.RowKit Go.Joins
set_option maxHeartbeats 400000 in
theorem eqSong_same (A A' : Option Addr) (n c c' : Nat) (xs : List Int) (W : World) (hu : Rd W (.slice A n c) xs) (hv : Rd W (.slice A' n c') xs) (hl : xs.length ≤ maxLen) :
    Calls Try.prog 7 #[.agg #[.slice A n c], .agg #[.slice A' n c']] W fun e w' => e = .returned (.bool true) ∧ Kp Nw W w' := by
  have hu2 := Lib.hid (fun o o' => hu.nw (((Kp.refl Nw W).alloc o).alloc o'))
  have hv2 := Lib.hid (fun o o' => hv.nw (((Kp.refl Nw W).alloc o).alloc o'))
  clear hu hv
  go_enter Try.func7, Try.ntmps7
  go_wp2_with fail
  refine (eqIntS_same _ _ xs _ (hu2.out _ _) (hv2.out _ _) hl).mono ?_
  rintro e w' ⟨rfl, m, rfl⟩
  go_wp2
  go_ret
  exact ⟨rfl, (((Kp.refl Nw W).alloc _).alloc _).drewN _⟩

set_option maxHeartbeats 400000 in
theorem markSong_any (A : Option Addr) (n c : Nat) (k : Int) (xs : List Int) (W : World) (B : Nat) (hu : Sl W B (.slice A n c) xs) (hn : xs.length = n) (h0 : 0 ≤ k) (h1 : k ≤ 1000000000) (hl : xs.length ≤ 1000000000) :
    Calls Try.prog 10 #[.agg #[.slice A n c], .int .i64 k] W fun e w' => e = .returned (.int .i64 (k + n)) ∧ Sl w' B (.slice A n c) (marks k n) ∧ Kp (fun g => (Value.slice A n c).ownBlock = some g) W w' := by
  have hu2 := Lib.hid (fun o => hu.kp ((Kp.refl Nw W).alloc o) (fun _ _ hs => hs))
  subst hn
  clear hu
  go_enter Try.func10, Try.ntmps10
  go_wp2_with fail
  refine (markIntS_any _ xs k _ B (hu2.out _) h0 h1 hl).mono ?_
  rintro e w' ⟨rfl, hs, hk⟩
  have HS := Lib.hid hs
  have HK := Lib.hid hk
  clear hs hk
  go_wp2
  go_ret
  exact ⟨rfl, HS.out, ((Kp.refl _ W).alloc _).trans HK.out⟩

set_option maxHeartbeats 400000 in
theorem heldSong_any (A : Option Addr) (n c : Nat) (k : Int) (W : World) (hu : Rd W (.slice A n c) (marks k n)) (h0 : 0 ≤ k) (h1 : k ≤ 1000000000) (hl : n ≤ 1000000000) :
    Calls Try.prog 11 #[.agg #[.slice A n c], .int .i64 k] W fun e w' => e = .returned (.int .i64 (k + n)) ∧ Kp Nw W w' := by
  have hu2 := Lib.hid (fun o => hu.nw ((Kp.refl Nw W).alloc o))
  have h2 : (0 : Int) ≤ n := Int.natCast_nonneg _
  clear hu
  go_enter Try.func11, Try.ntmps11
  go_wp2_with fail
  refine (heldIntS_any _ k n _ (hu2.out _) h0 h1 hl).mono ?_
  rintro e w' ⟨rfl, rfl⟩
  go_wp2
  go_ret
  exact ⟨rfl, (Kp.refl _ W).alloc _⟩

/-- what stands in a block of one cell -/
def Own1 (w : World) (b : Nat) (x : Value) : Prop := w.cell? ⟨b, 0, none⟩ = some x ∧ w.frozen? ⟨b, 0, none⟩ = false
theorem Own1.new (w : World) (x : Value) (t : TypeId) : Own1 (w.alloc (.cells #[x] t)) w.heap.size x := by
  refine ⟨?_, ?_⟩ <;> simp [World.cell?_alloc_at, World.frozen?_alloc_at]
theorem Own1.kp {w w' : World} {b : Nat} {x : Value} {S : Nat → Prop} (h : Own1 w b x) (hk : Kp S w w') (hs : ¬ S b) : Own1 w' b x :=
  ⟨keepc hk h.1 hs, (World.frozen?_of_block (a := ⟨b, 0, none⟩) (hk.block b (World.block_lt_of_cell? w _ h.1) hs)).trans h.2⟩
theorem one_set (w : World) (b : Nat) (x u : Value) (h0 : w.cell? ⟨b, 0, none⟩ = some u) : (w.setCell ⟨b, 0, none⟩ x).cell? ⟨b, 0, none⟩ = some x := World.cell?_setCell_same _ _ _ h0
theorem keepo (w : World) (a p : Addr) (x u : Value) (h : w.cell? a = some u) (hne : p.block ≠ a.block) : (w.setCell p x).cell? a = some u :=
  (World.cell?_setCell_other _ _ _ _ (fun e => hne (by rw [e]))).trans h

/-- what the laws' copy of a song returns -/
def SongCopy (W : World) (n : Nat) (xs : List Int) (e : Ending) (w' : World) : Prop := ∃ g, e = .returned (.agg #[.slice (some ⟨g, 0, none⟩) n n]) ∧ SlAt w' W.heap.size g n n xs ∧ Kp Nw W w' ∧ W.heap.size ≤ g ∧ g < w'.heap.size

theorem open_agg1 {H : Type} {enc : TypeId × Value → H} {P : Program} {w : World} {base : Nat} {spare : Nat → Bool} {held : Bool} {r : Reach} {b0 : Nat} {t : TypeId} {f0 : Field} {v : Value} {d : DataW H} {p : List MemPlace} (hs : P.underlying t = some (.struct #[f0])) (hone : Go.Deep.oneCellFields P #[f0] = true) (hC : P.cellsOf t = 1)
    (hv : Value.okWide P w r b0 t v) (h : DataW.Trod enc P w base spare held t v d p) :
    ∃ (v0 : Value) (y0 : DataW H × List MemPlace) (n : Nat), v = .agg #[v0] ∧ d = .agg [y0.1] ∧ p = y0.2 ∧ DataW.trod enc P w base spare held n f0.type [v0] = some y0 := by
  obtain ⟨cs, rfl, hsz⟩ := okWide_struct hs hv
  obtain ⟨c0, rfl⟩ : ∃ c0, cs = #[c0] := by
    have h1 := hsz.trans hC
    exact ⟨cs[0], Array.ext (by simpa using h1) (fun i hi hi' => by simp at hi'; subst hi'; rfl)⟩
  obtain ⟨fuel, hf⟩ := h
  obtain ⟨y0, n, hx, _, h0⟩ := trod_struct1 hs hf
  obtain ⟨o0, k0⟩ := Go.Deep.hone_of hone 0 f0 rfl
  simp only [Prod.mk.injEq] at hx
  exact ⟨c0, y0, n, rfl, hx.1, hx.2, by simpa [Value.cells, o0, k0] using h0⟩

theorem cellsIntS : Try.prog.cellsOf 3 = 1 := by kernel_rfl
end Go.Proofs.Ytbndgkjnigehgab
namespace Go.Proofs.Ytbndgkjnigehgab
open Go.ChangeShapes Go.WideShapes Go.ChangeAt Go.RowKit
/-- what a call returns that makes a song, or fails -/
def SongB (W : World) (xs : List Int) (b : Bool) (e : Ending) (w' : World) : Prop := ∃ v, e = .returned (.tuple #[.agg #[v], .bool b]) ∧ Sl w' W.heap.size v xs ∧ Kp Nw W w'
/-- a copied list is as it was where nothing old changed -/
theorem SlAt.kq8 {w w' : World} {B g cap n : Nat} {xs : List Int} {S : Nat → Prop} (h : SlAt w B g cap n xs) (hk : Kp S w w') (hs : ¬ S g) : SlAt w' B g cap n xs := by
  have h1 := h.sl.kp hk (fun g' e => by
    have e' : g' = g := by simp [Value.ownBlock] at e; omega
    rw [e']; exact hs)
  refine ⟨h.1, ?_⟩
  unfold Sl at h1
  rw [h.1] at h1
  exact h1
end Go.Proofs.Ytbndgkjnigehgab
namespace Go.Proofs.Ytbndgkjnigehgab
open Go.ChangeShapes Go.WideShapes Go.ChangeAt Go.RowKit
end Go.Proofs.Ytbndgkjnigehgab
namespace Go.Proofs.Ytbndgkjnigehgab
open Go.ChangeShapes Go.WideShapes Go.ChangeAt Go.RowKit
end Go.Proofs.Ytbndgkjnigehgab
namespace Go.Proofs.Ytbndgkjnigehgab
open Go.ChangeShapes Go.WideShapes Go.ChangeAt Go.RowKit
end Go.Proofs.Ytbndgkjnigehgab
namespace Go.Proofs.Ytbndgkjnigehgab
open Go.ChangeShapes Go.WideShapes Go.ChangeAt Go.RowKit
end Go.Proofs.Ytbndgkjnigehgab
namespace Go.Proofs.Ytbndgkjnigehgab
open Go.ChangeShapes Go.WideShapes Go.ChangeAt Go.RowKit
end Go.Proofs.Ytbndgkjnigehgab
namespace Go.Proofs.Ytbndgkjnigehgab
open Go.ChangeShapes Go.WideShapes Go.ChangeAt Go.RowKit
end Go.Proofs.Ytbndgkjnigehgab
namespace Go.Proofs.Ytbndgkjnigehgab
open Go.ChangeShapes Go.WideShapes Go.ChangeAt Go.RowKit

set_option maxHeartbeats 800000 in
theorem lawSongForOrder_bigO (AO : Option Addr) (nO cO : Nat) (W : World) (hm : nO ≤ maxLen) (hb : 1048576 < nO) :
    Calls Try.prog 3 #[.slice AO nO cO] W fun e w' => e = .returned (.bool true) ∧ Kp Nw W w' := by
  have hb2 : (1048576 : Int) < nO := by omega
  have hb3 : (nO : Int) ≤ 9223372036854775807 := by unfold maxLen at hm; omega
  go_enter Try.func3, Try.ntmps3
  go_wp2
  go_ret
  exact ⟨rfl, Kp.refl _ _⟩

set_option maxHeartbeats 3200000 in
set_option maxRecDepth 100000 in
theorem lawSongForOrder_of (AO : Option Addr) (nO cO : Nat) (xsO : List Int) (zs : List Int) (b : Bool) (W : World) (huO : Rd W (.slice AO nO cO) xsO) (hnO : xsO.length = nO) (hO : nO ≤ 1048576) (hlen : zs.length ≤ 1000000)
    (hS : Hid (∀ (gO BO : Nat) (W : World), SlAt W BO gO nO nO xsO → Calls Try.prog 4 #[.slice (some ⟨gO, 0, none⟩) nO nO] W (SongB W zs b))) (hI : Hid (∀ (gO BO : Nat) (W : World), SlAt W BO gO nO nO xsO → Calls Try.prog 6 #[.slice (some ⟨gO, 0, none⟩) nO nO] W (SongB W zs b))) :
    Calls Try.prog 3 #[.slice AO nO cO] W fun e w' => e = .returned (.bool true) ∧ Kp Nw W w' := by
  obtain ⟨m, hm⟩ : ∃ m, zs.length = m := ⟨_, rfl⟩
  have HL : Hid (zs.length ≤ maxLen) := Lib.hid (by unfold maxLen; omega)
  have hlen : m ≤ 1000000 := by omega
  have hm0 : (0 : Int) ≤ m := Int.natCast_nonneg _
  have HM := Lib.hid hm
  clear hm
  have HUO := Lib.hid huO
  have HNO := Lib.hid hnO
  have HLXO : Hid (xsO.length ≤ maxLen) := Lib.hid (by unfold maxLen; omega)
  have n0O : (0 : Int) ≤ nO := Int.natCast_nonneg _
  have q1O : (nO : Int) ≤ 1048576 := by omega
  clear huO hnO
  have HK := Lib.hid (Kp.refl Nw W)
  go_enter Try.func3, Try.ntmps3
  go_wp2_with fail
  refine (toIntS_any _ nO xsO _ (HUO.out.nw HK.out) HNO.out hO).mono ?_
  rintro e w1 ⟨g1, rfl, hs1, hk1, hg1, hl1⟩
  have HTO := Lib.hid hs1
  have RHTO : Hid (W.heap.size ≤ g1 ∧ g1 < w1.heap.size) := Lib.hid ⟨hg1, hl1⟩
  have HK := Lib.hid (HK.out.nw hk1)
  have z1 : W.heap.size ≤ w1.heap.size := hk1.size
  clear hs1 hk1 hg1 hl1
  go_wp2_with fail
  refine (hS.out g1 _ _ HTO.out).mono ?_
  rintro e w2 ⟨v2, rfl, hs2, hk2⟩
  obtain ⟨A2, c2, rfl⟩ := hs2.val HM.out
  have HV2 := Lib.hid hs2
  have O2 : Hid (∀ g, (Value.slice A2 m c2).ownBlock = some g → w1.heap.size ≤ g ∧ g < w2.heap.size) := Lib.hid (fun g hg => by have := hs2.own_ge g hg; omega)
  have HTO := Lib.hid (HTO.out.kq8 hk2 (fun h => h))
  have HK := Lib.hid (HK.out.nw hk2)
  have z2 : w1.heap.size ≤ w2.heap.size := hk2.size
  clear hs2 hk2
  go_wp2_with fail
  have hkp := Kp.al w2 (.cells #[.slice A2 m c2] 24)
  have HV2 := Lib.hid (HV2.out.below hkp.below')
  have HK := Lib.hid (HK.out.nw hkp)
  clear hkp
  have TV2 : Hid ((w2.alloc (.cells #[.slice A2 m c2] 24)).cell? ⟨w2.heap.size, 0, none⟩ = some (.slice A2 m c2)) := Lib.hid (Own1.new w2 (.slice A2 m c2) 24).1
  refine (toIntS_any _ nO xsO _ (HUO.out.nw HK.out) HNO.out hO).mono ?_
  rintro e w3 ⟨g3, rfl, hs3, hk3, hg3, hl3⟩
  have HXO := Lib.hid hs3
  have hg3 : w2.heap.size + 1 ≤ g3 := by simp only [World.size_alloc] at hg3; omega
  have RHXO : Hid (w2.heap.size + 1 ≤ g3 ∧ g3 < w3.heap.size) := Lib.hid ⟨hg3, hl3⟩
  have HV2 := Lib.hid (HV2.out.below hk3.below')
  have TV2 := Lib.hid (keepc hk3 TV2.out (fun h => h))
  have HK := Lib.hid (HK.out.nw hk3)
  have z3 : w2.heap.size + 1 ≤ w3.heap.size := by have := hk3.size; simp only [World.size_alloc] at this; omega
  clear hs3 hk3 hg3 hl3
  go_wp2_with fail
  refine (hI.out g3 _ _ HXO.out).mono ?_
  rintro e w4 ⟨v4, rfl, hs4, hk4⟩
  obtain ⟨A4, c4, rfl⟩ := hs4.val HM.out
  have HV4 := Lib.hid hs4
  have O4 : Hid (∀ g, (Value.slice A4 m c4).ownBlock = some g → w3.heap.size ≤ g ∧ g < w4.heap.size) := Lib.hid (fun g hg => by have := hs4.own_ge g hg; omega)
  have HV2 := Lib.hid (HV2.out.below hk4.below')
  have TV2 := Lib.hid (keepc hk4 TV2.out (fun h => h))
  have HXO := Lib.hid (HXO.out.kq8 hk4 (fun h => h))
  have HK := Lib.hid (HK.out.nw hk4)
  have z4 : w3.heap.size ≤ w4.heap.size := hk4.size
  clear hs4 hk4
  have tTV2 := TV2.out
  have yTV2 : w2.heap.size < w4.heap.size := by omega
  go_wp2_with fail
  have hkp := Kp.al w4 (.cells #[.slice A4 m c4] 24)
  have HV2 := Lib.hid (HV2.out.below hkp.below')
  have TV2 := Lib.hid (keepc hkp TV2.out (fun h => h))
  have HXO := Lib.hid (HXO.out.kq8 hkp (fun h => h))
  have HV4 := Lib.hid (HV4.out.below hkp.below')
  have HK := Lib.hid (HK.out.nw hkp)
  clear hkp
  have TV4 : Hid ((w4.alloc (.cells #[.slice A4 m c4] 24)).cell? ⟨w4.heap.size, 0, none⟩ = some (.slice A4 m c4)) := Lib.hid (Own1.new w4 (.slice A4 m c4) 24).1
  refine (eqSong_same A4 A2 m c4 c2 zs _ HV4.out.rd HV2.out.rd HL.out).mono ?_
  rintro e w5 ⟨rfl, hk5⟩
  have HV2 := Lib.hid (HV2.out.below hk5.below')
  have TV2 := Lib.hid (keepc hk5 TV2.out (fun h => h))
  have HXO := Lib.hid (HXO.out.kq8 hk5 (fun h => h))
  have HV4 := Lib.hid (HV4.out.below hk5.below')
  have TV4 := Lib.hid (keepc hk5 TV4.out (fun h => h))
  have HK := Lib.hid (HK.out.nw hk5)
  have z5 : w4.heap.size + 1 ≤ w5.heap.size := by have := hk5.size; simp only [World.size_alloc] at this; omega
  clear tTV2 yTV2
  clear hk5
  go_wp2_with fail
  refine (toIntS_any _ nO xsO _ (HUO.out.nw HK.out) HNO.out hO).mono ?_
  rintro e w6 ⟨g6, rfl, hs6, hk6, hg6, hl6⟩
  have HYO := Lib.hid hs6
  have RHYO : Hid (w5.heap.size ≤ g6 ∧ g6 < w6.heap.size) := Lib.hid ⟨hg6, hl6⟩
  have HV2 := Lib.hid (HV2.out.below hk6.below')
  have TV2 := Lib.hid (keepc hk6 TV2.out (fun h => h))
  have HXO := Lib.hid (HXO.out.kq8 hk6 (fun h => h))
  have HV4 := Lib.hid (HV4.out.below hk6.below')
  have TV4 := Lib.hid (keepc hk6 TV4.out (fun h => h))
  have HK := Lib.hid (HK.out.nw hk6)
  have z6 : w5.heap.size ≤ w6.heap.size := hk6.size
  clear hs6 hk6 hg6 hl6
  go_wp2_with fail
  refine (eqIntS_same _ _ xsO _ HXO.out.sl.rd HYO.out.sl.rd HLXO.out).mono ?_
  rintro e w7 ⟨rfl, d7, hd7⟩
  have hk7 : Kp Nw w6 w7 := by rw [hd7]; exact (Kp.refl _ _).drewN d7
  clear hd7
  have HV2 := Lib.hid (HV2.out.below hk7.below')
  have TV2 := Lib.hid (keepc hk7 TV2.out (fun h => h))
  have HXO := Lib.hid (HXO.out.kq8 hk7 (fun h => h))
  have HV4 := Lib.hid (HV4.out.below hk7.below')
  have TV4 := Lib.hid (keepc hk7 TV4.out (fun h => h))
  have HYO := Lib.hid (HYO.out.kq8 hk7 (fun h => h))
  have HK := Lib.hid (HK.out.nw hk7)
  have z7 : w6.heap.size ≤ w7.heap.size := hk7.size
  clear hk7
  go_wp2_with fail
  refine (markIntS_any _ xsO (1) _ _ HXO.out.sl (by omega) (by omega) (by rw [HNO.out]; omega)).mono ?_
  rintro e w8 ⟨rfl, _, hk8⟩
  rw [HNO.out]
  have MO : Hid (∀ g, (Value.slice (some ⟨g3, 0, none⟩) nO nO).ownBlock = some g → g = g3) := Lib.hid (fun g hg => by simp [Value.ownBlock] at hg; omega)
  have MMO : Hid (∀ g, (Value.slice (some ⟨g3, 0, none⟩) nO nO).ownBlock = some g → _ ≤ g ∧ g < _) := Lib.hid (fun g hg => by rw [MO.out g hg]; exact RHXO.out)
  have HV2 := Lib.hid (HV2.out.kp hk8 (fun g a b => by have := O2.out g a; have := MMO.out g b; omega))
  have TV2 := Lib.hid (keepc hk8 TV2.out (fun hg => by have := MMO.out _ hg; simp only [] at this; omega))
  have HV4 := Lib.hid (HV4.out.kp hk8 (fun g a b => by have := O4.out g a; have := MMO.out g b; omega))
  have TV4 := Lib.hid (keepc hk8 TV4.out (fun hg => by have := MMO.out _ hg; simp only [] at this; omega))
  have HK := Lib.hid (HK.out.after hk8 (fun g hg h2 => by have := MMO.out g h2; omega))
  have z8 : w7.heap.size ≤ w8.heap.size := hk8.size
  clear hk8
  have tTV4 := TV4.out
  have yTV4 : w4.heap.size < w8.heap.size := by omega
  have tTV2 := TV2.out
  have yTV2 : w2.heap.size < w8.heap.size := by omega
  go_wp2_with fail
  refine (eqSong_same A4 A2 m c4 c2 zs _ HV4.out.rd HV2.out.rd HL.out).mono ?_
  rintro e w9 ⟨rfl, hk9⟩
  have HV2 := Lib.hid (HV2.out.below hk9.below')
  have TV2 := Lib.hid (keepc hk9 TV2.out (fun h => h))
  have HV4 := Lib.hid (HV4.out.below hk9.below')
  have TV4 := Lib.hid (keepc hk9 TV4.out (fun h => h))
  have HK := Lib.hid (HK.out.nw hk9)
  have z9 : w8.heap.size ≤ w9.heap.size := hk9.size
  clear tTV4 yTV4
  clear tTV2 yTV2
  clear hk9
  have tTV4 := TV4.out
  have yTV4 : w4.heap.size < w9.heap.size := by omega
  go_wp2_with fail
  refine (markSong_any A4 m c4 1 zs _ _ HV4.out HM.out (by omega) (by omega) (by rw [HM.out]; omega)).mono ?_
  rintro e w10 ⟨rfl, hs10, hk10⟩
  have HV2 := Lib.hid (HV2.out.kp hk10 (fun g a b => by have := O2.out g a; have := O4.out g b; omega))
  have TV2 := Lib.hid (keepc hk10 TV2.out (fun hg => by have := O4.out _ hg; simp only [] at this; omega))
  have TV4 := Lib.hid (keepc hk10 TV4.out (fun hg => by have := O4.out _ hg; simp only [] at this; omega))
  have HK := Lib.hid (HK.out.after hk10 (fun g hg h2 => by have := O4.out g h2; omega))
  have z10 : w9.heap.size ≤ w10.heap.size := hk10.size
  have HV4 := Lib.hid hs10
  clear hs10 hk10
  clear tTV4 yTV4
  have tTV4 := TV4.out
  have yTV4 : w4.heap.size < w10.heap.size := by omega
  go_wp2_with fail
  refine (heldSong_any A4 m c4 1 _ HV4.out.rd (by omega) (by omega) (by omega)).mono ?_
  rintro e w11 ⟨rfl, hk11⟩
  have HV2 := Lib.hid (HV2.out.below hk11.below')
  have TV2 := Lib.hid (keepc hk11 TV2.out (fun h => h))
  have HV4 := Lib.hid (HV4.out.below hk11.below')
  have TV4 := Lib.hid (keepc hk11 TV4.out (fun h => h))
  have HK := Lib.hid (HK.out.nw hk11)
  have z11 : w10.heap.size ≤ w11.heap.size := hk11.size
  clear tTV4 yTV4
  clear hk11
  go_wp2_with fail
  refine (toIntS_any _ nO xsO _ (HUO.out.nw HK.out) HNO.out hO).mono ?_
  rintro e w12 ⟨g12, rfl, hs12, hk12, hg12, hl12⟩
  have HZO := Lib.hid hs12
  have RHZO : Hid (w11.heap.size ≤ g12 ∧ g12 < w12.heap.size) := Lib.hid ⟨hg12, hl12⟩
  have HV2 := Lib.hid (HV2.out.below hk12.below')
  have TV2 := Lib.hid (keepc hk12 TV2.out (fun h => h))
  have HV4 := Lib.hid (HV4.out.below hk12.below')
  have TV4 := Lib.hid (keepc hk12 TV4.out (fun h => h))
  have HK := Lib.hid (HK.out.nw hk12)
  have z12 : w11.heap.size ≤ w12.heap.size := hk12.size
  clear hs12 hk12 hg12 hl12
  go_wp2_with fail
  refine (hI.out g12 _ _ HZO.out).mono ?_
  rintro e w13 ⟨v13, rfl, hs13, hk13⟩
  obtain ⟨A13, c13, rfl⟩ := hs13.val HM.out
  have HV13 := Lib.hid hs13
  have O13 : Hid (∀ g, (Value.slice A13 m c13).ownBlock = some g → w12.heap.size ≤ g ∧ g < w13.heap.size) := Lib.hid (fun g hg => by have := hs13.own_ge g hg; omega)
  have HV2 := Lib.hid (HV2.out.below hk13.below')
  have TV2 := Lib.hid (keepc hk13 TV2.out (fun h => h))
  have HV4 := Lib.hid (HV4.out.below hk13.below')
  have TV4 := Lib.hid (keepc hk13 TV4.out (fun h => h))
  have HZO := Lib.hid (HZO.out.kq8 hk13 (fun h => h))
  have HK := Lib.hid (HK.out.nw hk13)
  have z13 : w12.heap.size ≤ w13.heap.size := hk13.size
  clear hs13 hk13
  have tTV2 := TV2.out
  have yTV2 : w2.heap.size < w13.heap.size := by omega
  go_wp2_with fail
  have hkp := Kp.al w13 (.cells #[.slice A13 m c13] 24)
  have HV2 := Lib.hid (HV2.out.below hkp.below')
  have TV2 := Lib.hid (keepc hkp TV2.out (fun h => h))
  have HV4 := Lib.hid (HV4.out.below hkp.below')
  have TV4 := Lib.hid (keepc hkp TV4.out (fun h => h))
  have HV13 := Lib.hid (HV13.out.below hkp.below')
  have HK := Lib.hid (HK.out.nw hkp)
  clear hkp
  have TV13 : Hid ((w13.alloc (.cells #[.slice A13 m c13] 24)).cell? ⟨w13.heap.size, 0, none⟩ = some (.slice A13 m c13)) := Lib.hid (Own1.new w13 (.slice A13 m c13) 24).1
  refine (eqSong_same A13 A2 m c13 c2 zs _ HV13.out.rd HV2.out.rd HL.out).mono ?_
  rintro e w14 ⟨rfl, hk14⟩
  have HV2 := Lib.hid (HV2.out.below hk14.below')
  have TV2 := Lib.hid (keepc hk14 TV2.out (fun h => h))
  have HV4 := Lib.hid (HV4.out.below hk14.below')
  have TV4 := Lib.hid (keepc hk14 TV4.out (fun h => h))
  have HV13 := Lib.hid (HV13.out.below hk14.below')
  have TV13 := Lib.hid (keepc hk14 TV13.out (fun h => h))
  have HK := Lib.hid (HK.out.nw hk14)
  have z14 : w13.heap.size + 1 ≤ w14.heap.size := by have := hk14.size; simp only [World.size_alloc] at this; omega
  clear tTV2 yTV2
  clear hk14
  have tTV4 := TV4.out
  have yTV4 : w4.heap.size < w14.heap.size := by omega
  go_wp2_with fail
  refine (heldSong_any A4 m c4 1 _ HV4.out.rd (by omega) (by omega) (by omega)).mono ?_
  rintro e w15 ⟨rfl, hk15⟩
  have HV2 := Lib.hid (HV2.out.below hk15.below')
  have TV2 := Lib.hid (keepc hk15 TV2.out (fun h => h))
  have HV4 := Lib.hid (HV4.out.below hk15.below')
  have TV4 := Lib.hid (keepc hk15 TV4.out (fun h => h))
  have HV13 := Lib.hid (HV13.out.below hk15.below')
  have TV13 := Lib.hid (keepc hk15 TV13.out (fun h => h))
  have HK := Lib.hid (HK.out.nw hk15)
  have z15 : w14.heap.size ≤ w15.heap.size := hk15.size
  clear tTV4 yTV4
  clear hk15
  go_wp2
  go_ret
  exact ⟨rfl, HK.out⟩
end Go.Proofs.Ytbndgkjnigehgab
namespace Go.Proofs.Ytbndgkjnigehgab
open Go.ChangeShapes Go.WideShapes Go.ChangeAt Go.RowKit
end Go.Proofs.Ytbndgkjnigehgab
namespace Go.Proofs.Ytbndgkjnigehgab
open Go.ChangeShapes Go.WideShapes Go.ChangeAt Go.RowKit
end Go.Proofs.Ytbndgkjnigehgab
namespace Go.Proofs.Ytbndgkjnigehgab
open Go.ChangeShapes Go.WideShapes Go.ChangeAt Go.RowKit
end Go.Proofs.Ytbndgkjnigehgab
namespace Go.Proofs.Ytbndgkjnigehgab
open Go.ChangeShapes Go.WideShapes Go.ChangeAt Go.RowKit
end Go.Proofs.Ytbndgkjnigehgab
namespace Go.Proofs.Ytbndgkjnigehgab
open Go.ChangeShapes Go.WideShapes Go.ChangeAt Go.RowKit
end Go.Proofs.Ytbndgkjnigehgab
namespace Go.Proofs.Ytbndgkjnigehgab
open Go.ChangeShapes Go.WideShapes Go.ChangeAt Go.RowKit
end Go.Proofs.Ytbndgkjnigehgab
