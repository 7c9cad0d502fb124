/- The texts Song, SongB, LwSoBestTurn, LwSoIsSong, LwSoLastBySongs, LwSoLeastSong, LwSoSafePlaces, LwSoSameOrder, LwSoSongForOrder, LwSoSongLast, LwSoSongLeft, LwSoSongOrder, LwSoSongPeriod, LwSoSongTurn, LwSoTurnSong, as one. -/
import Derived.Test.YtbndgkjnigehgaaLaws
import Derived.Lib.SmallJoins
import Derived.Carry
import Derived.ChangeSlices
import Derived.ChangeSame
import Derived.Test.YtbndgkjnigehgaaLwO7
namespace Go.Proofs.Ytbndgkjnigehgaa
open Go.ChangeShapes Go.WideShapes Go.ChangeAt Go.RowKit Go.Joins

theorem szIntS_gen (A : Option Addr) (n c : Nat) (l : Int) (W : World) (hn : n ≤ maxLen) (l0 : 0 ≤ l) (l1 : l ≤ 1048576) :
    Calls Try.prog 13 #[.slice A n c, .int .i64 l] W fun e w' => e = .returned (.int .i64 (if (n : Int) ≤ l then l - (n : Int) else -1)) ∧ W = w' := by
  unfold maxLen at hn
  by_cases h : (n : Int) ≤ l
  · rw [if_pos h]
    have h1 : (0 : Int) ≤ l - (n : Int) := by omega
    go_enter Try.func13, Try.ntmps13
    go_wp2
    go_ret
    exact ⟨rfl, rfl⟩
  · rw [if_neg h]
    have h1 : l - (n : Int) < 0 := by omega
    go_enter Try.func13, Try.ntmps13
    go_wp2
    go_ret
    exact ⟨rfl, rfl⟩
theorem szSong_small (A : Option Addr) (n c : Nat) (l : Int) (W : World) (l1 : l ≤ 1048576) (h : (n : Int) ≤ l) :
    Calls Try.prog 4 #[.agg #[.slice A n c], .int .i64 l] W fun e w' => e = .returned (.int .i64 (l - (n : Int))) ∧ Kp Nw W w' := by
  have h1 : (0 : Int) ≤ l - (n : Int) := by omega
  go_enter Try.func4, Try.ntmps4
  go_wp2_with fail
  refine (szIntS_gen A n c l _ (by unfold maxLen; omega) (by omega) l1).mono ?_
  rintro e w' ⟨rfl, rfl⟩
  rw [if_pos h]
  go_wp2
  go_ret
  exact ⟨rfl, Kp.al _ _⟩
theorem szSong_large (A : Option Addr) (n c : Nat) (l : Int) (W : World) (hn : n ≤ maxLen) (l0 : 0 ≤ l) (l1 : l ≤ 1048576) (h : l < (n : Int)) :
    Calls Try.prog 4 #[.agg #[.slice A n c], .int .i64 l] W fun e w' => e = .returned (.int .i64 (-1)) ∧ Kp Nw W w' := by
  go_enter Try.func4, Try.ntmps4
  go_wp2_with fail
  refine (szIntS_gen A n c l _ hn l0 l1).mono ?_
  rintro e w' ⟨rfl, rfl⟩
  rw [if_neg (by omega)]
  go_wp2
  go_ret
  exact ⟨rfl, Kp.al _ _⟩

set_option maxHeartbeats 400000 in
theorem eqSong_same (A A' : Option Addr) (n c c' : Nat) (xs : List Int) (W : World) (hu : Rd W (.slice A n c) xs) (hv : Rd W (.slice A' n c') xs) (hl : xs.length ≤ maxLen) :
    Calls Try.prog 9 #[.agg #[.slice A n c], .agg #[.slice A' n c']] W fun e w' => e = .returned (.bool true) ∧ Kp Nw W w' := by
  have hu2 := Lib.hid (fun o o' => hu.nw (((Kp.refl Nw W).alloc o).alloc o'))
  have hv2 := Lib.hid (fun o o' => hv.nw (((Kp.refl Nw W).alloc o).alloc o'))
  clear hu hv
  go_enter Try.func9, Try.ntmps9
  go_wp2_with fail
  refine (eqIntS_same _ _ xs _ (hu2.out _ _) (hv2.out _ _) hl).mono ?_
  rintro e w' ⟨rfl, m, rfl⟩
  go_wp2
  go_ret
  exact ⟨rfl, (((Kp.refl Nw W).alloc _).alloc _).drewN _⟩

set_option maxHeartbeats 400000 in
theorem markSong_any (A : Option Addr) (n c : Nat) (k : Int) (xs : List Int) (W : World) (B : Nat) (hu : Sl W B (.slice A n c) xs) (hn : xs.length = n) (h0 : 0 ≤ k) (h1 : k ≤ 1000000000) (hl : xs.length ≤ 1000000000) :
    Calls Try.prog 10 #[.agg #[.slice A n c], .int .i64 k] W fun e w' => e = .returned (.int .i64 (k + n)) ∧ Sl w' B (.slice A n c) (marks k n) ∧ Kp (fun g => (Value.slice A n c).ownBlock = some g) W w' := by
  have hu2 := Lib.hid (fun o => hu.kp ((Kp.refl Nw W).alloc o) (fun _ _ hs => hs))
  subst hn
  clear hu
  go_enter Try.func10, Try.ntmps10
  go_wp2_with fail
  refine (markIntS_any _ xs k _ B (hu2.out _) h0 h1 hl).mono ?_
  rintro e w' ⟨rfl, hs, hk⟩
  have HS := Lib.hid hs
  have HK := Lib.hid hk
  clear hs hk
  go_wp2
  go_ret
  exact ⟨rfl, HS.out, ((Kp.refl _ W).alloc _).trans HK.out⟩

/-- what stands in a block of one cell -/
def Own1 (w : World) (b : Nat) (x : Value) : Prop := w.cell? ⟨b, 0, none⟩ = some x ∧ w.frozen? ⟨b, 0, none⟩ = false
theorem Own1.new (w : World) (x : Value) (t : TypeId) : Own1 (w.alloc (.cells #[x] t)) w.heap.size x := by
  refine ⟨?_, ?_⟩ <;> simp [World.cell?_alloc_at, World.frozen?_alloc_at]
theorem Own1.kp {w w' : World} {b : Nat} {x : Value} {S : Nat → Prop} (h : Own1 w b x) (hk : Kp S w w') (hs : ¬ S b) : Own1 w' b x :=
  ⟨keepc hk h.1 hs, (World.frozen?_of_block (a := ⟨b, 0, none⟩) (hk.block b (World.block_lt_of_cell? w _ h.1) hs)).trans h.2⟩
theorem one_set (w : World) (b : Nat) (x u : Value) (h0 : w.cell? ⟨b, 0, none⟩ = some u) : (w.setCell ⟨b, 0, none⟩ x).cell? ⟨b, 0, none⟩ = some x := World.cell?_setCell_same _ _ _ h0
theorem keepo (w : World) (a p : Addr) (x u : Value) (h : w.cell? a = some u) (hne : p.block ≠ a.block) : (w.setCell p x).cell? a = some u :=
  (World.cell?_setCell_other _ _ _ _ (fun e => hne (by rw [e]))).trans h

/-- what the laws' copy of a song returns -/
def SongCopy (W : World) (n : Nat) (xs : List Int) (e : Ending) (w' : World) : Prop := ∃ g, e = .returned (.agg #[.slice (some ⟨g, 0, none⟩) n n]) ∧ SlAt w' W.heap.size g n n xs ∧ Kp Nw W w' ∧ W.heap.size ≤ g ∧ g < w'.heap.size

set_option maxHeartbeats 800000 in
theorem toSong_any (A : Option Addr) (n c : Nat) (xs : List Int) (W : World) (hu : Rd W (.slice A n c) xs) (hn : xs.length = n) (hl : n ≤ 1048576) :
    Calls Try.prog 6 #[.agg #[.slice A n c]] W (SongCopy W n xs) := by
  have HU := Lib.hid hu
  have HN := Lib.hid hn
  clear hu hn
  go_enter Try.func6, Try.ntmps6
  go_wp2_with fail
  refine (toIntS_any _ n xs _ (((HU.out.nw (.al _ _)).nw (.al _ _)).nw (.al _ _)) HN.out hl).mono ?_
  rintro e w1 ⟨g, rfl, hs, hk, hg1, hg2⟩
  obtain ⟨a0, a1⟩ := (((Own1.new W (.slice A n c) 24).kp (.al _ (.cells #[.slice none 0 0] 28)) (fun h => h)).kp (.al _ (.cells #[.slice none 0 0] 28)) (fun h => h)).kp hk (fun h => h)
  obtain ⟨r0, r1⟩ := ((Own1.new (W.alloc (.cells #[.slice A n c] 24)) (.slice none 0 0) 28).kp (.al _ (.cells #[.slice none 0 0] 28)) (fun h => h)).kp hk (fun h => h)
  obtain ⟨o0, o1⟩ := (Own1.new ((W.alloc (.cells #[.slice A n c] 24)).alloc (.cells #[.slice none 0 0] 28)) (.slice none 0 0) 28).kp hk (fun h => h)
  simp only [World.size_alloc] at r0 r1 o0 o1 hg1
  have z0 := one_set _ (W.heap.size + 1) (.slice (some ⟨g, 0, none⟩) n n) _ (keepo _ _ ⟨W.heap.size + 1 + 1, 0, none⟩ (.slice (some ⟨g, 0, none⟩) n n) _ r0 (by simp))
  have H := Lib.hid hs
  have HK := Lib.hid hk
  have k1 : Hid (Kp Nw W w1) := Lib.hid ((((Kp.al W _).nw (.al _ _)).nw (.al _ _)).nw hk)
  clear hs hk
  go_wp2
  refine bodyPost_ret (v := .agg #[.slice (some ⟨g, 0, none⟩) n n]) (by simp [results, Try.results6, go_sem, z0]) rfl ⟨g, rfl, ?_, ?_, by omega, by simp [World.setCell]; omega⟩
  · have k2 : Kp (fun b => b = W.heap.size + 1 ∨ b = W.heap.size + 1 + 1) w1 w1 := Kp.refl _ _
    have h := H.out.sl.kp ((k2.setCell (p := ⟨W.heap.size + 1 + 1, 0, none⟩) (.inl (.inr rfl)) (.slice (some ⟨g, 0, none⟩) n n)).setCell (p := ⟨W.heap.size + 1, 0, none⟩) (.inl (.inl rfl)) (.slice (some ⟨g, 0, none⟩) n n)) (fun g' hg' => by
      have e : g' = g := by simp [Value.ownBlock] at hg'; omega
      omega)
    exact ⟨H.out.1, by have h3 := (h.from (B' := W.heap.size) (by simp only [World.size_alloc]; omega)); unfold Sl at h3; rw [H.out.1] at h3; exact h3⟩
  · exact (k1.out.setCell (.inr (by show W.heap.size ≤ W.heap.size + 1 + 1; omega)) _).setCell (.inr (by show W.heap.size ≤ W.heap.size + 1; omega)) _

theorem cellsSong : Try.prog.cellsOf 24 = 1 := by kernel_rfl

theorem open_agg1 {H : Type} {enc : TypeId × Value → H} {P : Program} {w : World} {base : Nat} {spare : Nat → Bool} {held : Bool} {r : Reach} {b0 : Nat} {t : TypeId} {f0 : Field} {v : Value} {d : DataW H} {p : List MemPlace} (hs : P.underlying t = some (.struct #[f0])) (hone : Go.Deep.oneCellFields P #[f0] = true) (hC : P.cellsOf t = 1)
    (hv : Value.okWide P w r b0 t v) (h : DataW.Trod enc P w base spare held t v d p) :
    ∃ (v0 : Value) (y0 : DataW H × List MemPlace) (n : Nat), v = .agg #[v0] ∧ d = .agg [y0.1] ∧ p = y0.2 ∧ DataW.trod enc P w base spare held n f0.type [v0] = some y0 := by
  obtain ⟨cs, rfl, hsz⟩ := okWide_struct hs hv
  obtain ⟨c0, rfl⟩ : ∃ c0, cs = #[c0] := by
    have h1 := hsz.trans hC
    exact ⟨cs[0], Array.ext (by simpa using h1) (fun i hi hi' => by simp at hi'; subst hi'; rfl)⟩
  obtain ⟨fuel, hf⟩ := h
  obtain ⟨y0, n, hx, _, h0⟩ := trod_struct1 hs hf
  obtain ⟨o0, k0⟩ := Go.Deep.hone_of hone 0 f0 rfl
  simp only [Prod.mk.injEq] at hx
  exact ⟨c0, y0, n, rfl, hx.1, hx.2, by simpa [Value.cells, o0, k0] using h0⟩

theorem cellsIntS : Try.prog.cellsOf 3 = 1 := by kernel_rfl
set_option maxRecDepth 100000 in
theorem open_song {H : Type} {enc : TypeId × Value → H} {W : World} {base : Nat} {v : Value} {d : DataW H} {p : List MemPlace} (hv : Value.okWide Try.prog W .any base 24 v) (h : DataW.Trod enc Try.prog W 0 (fun _ => true) true 24 v d p) :
    ∃ (A : Option Addr) (n c : Nat) (xs : List Int), v = .agg #[.slice A n c] ∧ Rd W (.slice A n c) xs ∧ xs.length = n ∧ n ≤ maxLen := by
  obtain ⟨v0, y0, m, rfl, rfl, rfl, t0⟩ := open_agg1 Try.underlying24 (by kernel_rfl) cellsSong hv h
  rcases open_ints Try.underlying22 Try.underlying3 cellsIntS t0 with ⟨hcs, _⟩ | ⟨a, len, cap, zs, hcs, _, hl, hm, hz, _, hcell, _⟩
  · simp only [List.cons.injEq, and_true] at hcs
    subst hcs
    exact ⟨none, 0, 0, [], rfl, ⟨none, 0, rfl, fun j hj => by simp at hj⟩, rfl, Nat.zero_le _⟩
  · simp only [List.cons.injEq, and_true] at hcs
    subst hcs
    simp only [if_true] at hz
    have hlen : (zs.take len).length = len := by rw [List.length_take]; omega
    refine ⟨some a, len, cap, zs.take len, rfl, ⟨some a, cap, by rw [hlen], fun j hj => ?_⟩, hlen, by omega⟩
    rw [hlen] at hj
    have hc := hcell j (by omega)
    obtain ⟨b, off, spot⟩ := a
    have hspot : spot = none := by simpa [Addr.add] using World.cell?_spot (hcell 0 (by omega))
    subst hspot
    refine ⟨b, off, rfl, ?_⟩
    rw [← addr_add, hc]
    simp [List.getD, hj]
end Go.Proofs.Ytbndgkjnigehgaa
namespace Go.Proofs.Ytbndgkjnigehgaa
open Go.ChangeShapes Go.WideShapes Go.ChangeAt Go.RowKit
/-- what a call returns that makes a song, or fails -/
def SongB (W : World) (xs : List Int) (b : Bool) (e : Ending) (w' : World) : Prop := ∃ v, e = .returned (.tuple #[.agg #[v], .bool b]) ∧ Sl w' W.heap.size v xs ∧ Kp Nw W w'
/-- a copied list is as it was where nothing old changed -/
theorem SlAt.kq8 {w w' : World} {B g cap n : Nat} {xs : List Int} {S : Nat → Prop} (h : SlAt w B g cap n xs) (hk : Kp S w w') (hs : ¬ S g) : SlAt w' B g cap n xs := by
  have h1 := h.sl.kp hk (fun g' e => by
    have e' : g' = g := by simp [Value.ownBlock] at e; omega
    rw [e']; exact hs)
  refine ⟨h.1, ?_⟩
  unfold Sl at h1
  rw [h.1] at h1
  exact h1
end Go.Proofs.Ytbndgkjnigehgaa
namespace Go.Proofs.Ytbndgkjnigehgaa
open Go.ChangeShapes Go.WideShapes Go.ChangeAt Go.RowKit
end Go.Proofs.Ytbndgkjnigehgaa
namespace Go.Proofs.Ytbndgkjnigehgaa
open Go.ChangeShapes Go.WideShapes Go.ChangeAt Go.RowKit
end Go.Proofs.Ytbndgkjnigehgaa
namespace Go.Proofs.Ytbndgkjnigehgaa
open Go.ChangeShapes Go.WideShapes Go.ChangeAt Go.RowKit
end Go.Proofs.Ytbndgkjnigehgaa
namespace Go.Proofs.Ytbndgkjnigehgaa
open Go.ChangeShapes Go.WideShapes Go.ChangeAt Go.RowKit
end Go.Proofs.Ytbndgkjnigehgaa
namespace Go.Proofs.Ytbndgkjnigehgaa
open Go.ChangeShapes Go.WideShapes Go.ChangeAt Go.RowKit

set_option maxHeartbeats 800000 in
theorem lawSafePlaces_bigA (AA : Option Addr) (nA cA : Nat) (p : Int) (k : Int) (W : World) (hm : nA ≤ maxLen) (hb : 1048576 < nA) :
    Calls Try.prog 3 #[.agg #[.slice AA nA cA], .int .i64 p, .int .i64 k] W fun e w' => e = .returned (.bool true) ∧ Kp Nw W w' := by
  have HK := Lib.hid (Kp.refl Nw W)
  go_enter Try.func3, Try.ntmps3
  go_wp2_with fail
  refine (szSong_large AA nA cA (1048576) _ hm (by omega) (by omega) (by omega)).mono ?_
  rintro e w1 ⟨rfl, hk1⟩
  have HK := Lib.hid ((HK.out.alloc (.cells #[.slice AA nA cA] 24)).nw hk1)
  have z1 : W.heap.size + 1 ≤ w1.heap.size := by have := hk1.size; simp only [World.size_alloc] at this; omega
  clear hk1
  go_wp2
  go_ret
  exact ⟨rfl, HK.out⟩

set_option maxHeartbeats 3200000 in
set_option maxRecDepth 100000 in
theorem lawSafePlaces_of (AA : Option Addr) (nA cA : Nat) (xsA : List Int) (p : Int) (k : Int) (zs : List Int) (b : Bool) (W : World) (huA : Rd W (.slice AA nA cA) xsA) (hnA : xsA.length = nA) (hso : nA ≤ 1048576) (hlen : zs.length ≤ 1000000)
    (hS : Hid (∀ (gA BA : Nat) (W : World), SlAt W BA gA nA nA xsA → Calls Try.prog 5 #[.agg #[.slice (some ⟨gA, 0, none⟩) nA nA], .int .i64 p, .int .i64 k] W (ListB W zs b))) (hI : Hid (∀ (gA BA : Nat) (W : World), SlAt W BA gA nA nA xsA → Calls Try.prog 7 #[.agg #[.slice (some ⟨gA, 0, none⟩) nA nA], .int .i64 p, .int .i64 k] W (ListB W zs b))) :
    Calls Try.prog 3 #[.agg #[.slice AA nA cA], .int .i64 p, .int .i64 k] W fun e w' => e = .returned (.bool true) ∧ Kp Nw W w' := by
  obtain ⟨m, hm⟩ : ∃ m, zs.length = m := ⟨_, rfl⟩
  have HL : Hid (zs.length ≤ maxLen) := Lib.hid (by unfold maxLen; omega)
  have hlen : m ≤ 1000000 := by omega
  have hm0 : (0 : Int) ≤ m := Int.natCast_nonneg _
  have HM := Lib.hid hm
  clear hm
  have HUA := Lib.hid huA
  have HNA := Lib.hid hnA
  have hA : nA ≤ 1048576 := by omega
  have HLXA : Hid (xsA.length ≤ maxLen) := Lib.hid (by unfold maxLen; omega)
  have n0A : (0 : Int) ≤ nA := Int.natCast_nonneg _
  clear huA hnA
  have q1A : (0 : Int) ≤ 1048576 - (nA : Int) := by omega
  have HK := Lib.hid (Kp.refl Nw W)
  go_enter Try.func3, Try.ntmps3
  go_wp2_with fail
  refine (szSong_small AA nA cA (1048576) _ (by omega) (by omega)).mono ?_
  rintro e w1 ⟨rfl, hk1⟩
  have HK := Lib.hid ((HK.out.alloc (.cells #[.slice AA nA cA] 24)).nw hk1)
  have z1 : W.heap.size + 1 ≤ w1.heap.size := by have := hk1.size; simp only [World.size_alloc] at this; omega
  have TA : Hid (w1.cell? ⟨W.heap.size, 0, none⟩ = some (.slice AA nA cA)) := Lib.hid (by have h := ((Own1.new W (.slice AA nA cA) 24).kp hk1 (fun h => h)).1; simpa only [World.size_alloc] using h)
  clear hk1
  have tTA := TA.out
  have yTA : W.heap.size < w1.heap.size := by omega
  go_wp2_with fail
  refine (toSong_any AA nA cA xsA _ (HUA.out.nw HK.out) HNA.out hA).mono ?_
  rintro e w2 ⟨g2, rfl, hs2, hk2, hg2, hl2⟩
  have HTA := Lib.hid hs2
  have RHTA : Hid (w1.heap.size ≤ g2 ∧ g2 < w2.heap.size) := Lib.hid ⟨hg2, hl2⟩
  have TA := Lib.hid (keepc hk2 TA.out (fun h => h))
  have HK := Lib.hid (HK.out.nw hk2)
  have z2 : w1.heap.size ≤ w2.heap.size := hk2.size
  clear tTA yTA
  clear hs2 hk2 hg2 hl2
  go_wp2_with fail
  refine (hS.out g2 _ _ HTA.out).mono ?_
  rintro e w3 ⟨v3, rfl, hs3, hk3⟩
  obtain ⟨A3, c3, rfl⟩ := hs3.val HM.out
  have HV3 := Lib.hid hs3
  have O3 : Hid (∀ g, (Value.slice A3 m c3).ownBlock = some g → w2.heap.size ≤ g ∧ g < w3.heap.size) := Lib.hid (fun g hg => by have := hs3.own_ge g hg; omega)
  have TA := Lib.hid (keepc hk3 TA.out (fun h => h))
  have HTA := Lib.hid (HTA.out.kq8 hk3 (fun h => h))
  have HK := Lib.hid (HK.out.nw hk3)
  have z3 : w2.heap.size ≤ w3.heap.size := hk3.size
  clear hs3 hk3
  have tTA := TA.out
  have yTA : W.heap.size < w3.heap.size := by omega
  go_wp2_with fail
  refine (toSong_any AA nA cA xsA _ (HUA.out.nw HK.out) HNA.out hA).mono ?_
  rintro e w4 ⟨g4, rfl, hs4, hk4, hg4, hl4⟩
  have HXA := Lib.hid hs4
  have RHXA : Hid (w3.heap.size ≤ g4 ∧ g4 < w4.heap.size) := Lib.hid ⟨hg4, hl4⟩
  have TA := Lib.hid (keepc hk4 TA.out (fun h => h))
  have HV3 := Lib.hid (HV3.out.below hk4.below')
  have HK := Lib.hid (HK.out.nw hk4)
  have z4 : w3.heap.size ≤ w4.heap.size := hk4.size
  clear tTA yTA
  clear hs4 hk4 hg4 hl4
  go_wp2_with fail
  have hkp := Kp.al w4 (.cells #[.slice (some ⟨g4, 0, none⟩) nA nA] 28)
  have TA := Lib.hid (keepc hkp TA.out (fun h => h))
  have HV3 := Lib.hid (HV3.out.below hkp.below')
  have HXA := Lib.hid (HXA.out.kq8 hkp (fun h => h))
  have HK := Lib.hid (HK.out.nw hkp)
  clear hkp
  have TXA : Hid ((w4.alloc (.cells #[.slice (some ⟨g4, 0, none⟩) nA nA] 28)).cell? ⟨w4.heap.size, 0, none⟩ = some (.slice (some ⟨g4, 0, none⟩) nA nA)) := Lib.hid (Own1.new w4 (.slice (some ⟨g4, 0, none⟩) nA nA) 28).1
  refine (hI.out g4 _ _ HXA.out).mono ?_
  rintro e w5 ⟨v5, rfl, hs5, hk5⟩
  obtain ⟨A5, c5, rfl⟩ := hs5.val HM.out
  have HV5 := Lib.hid hs5
  have O5 : Hid (∀ g, (Value.slice A5 m c5).ownBlock = some g → w4.heap.size + 1 ≤ g ∧ g < w5.heap.size) := Lib.hid (fun g hg => by have := hs5.own_ge g hg; simp only [World.size_alloc] at this; omega)
  have TA := Lib.hid (keepc hk5 TA.out (fun h => h))
  have HV3 := Lib.hid (HV3.out.below hk5.below')
  have HXA := Lib.hid (HXA.out.kq8 hk5 (fun h => h))
  have TXA := Lib.hid (keepc hk5 TXA.out (fun h => h))
  have HK := Lib.hid (HK.out.nw hk5)
  have z5 : w4.heap.size + 1 ≤ w5.heap.size := by have := hk5.size; simp only [World.size_alloc] at this; omega
  clear hs5 hk5
  go_wp2_with fail
  refine (eqIntS_same _ _ zs _ HV5.out.rd HV3.out.rd HL.out).mono ?_
  rintro e w6 ⟨rfl, d6, hd6⟩
  have hk6 : Kp Nw w5 w6 := by rw [hd6]; exact (Kp.refl _ _).drewN d6
  clear hd6
  have TA := Lib.hid (keepc hk6 TA.out (fun h => h))
  have HV3 := Lib.hid (HV3.out.below hk6.below')
  have HXA := Lib.hid (HXA.out.kq8 hk6 (fun h => h))
  have TXA := Lib.hid (keepc hk6 TXA.out (fun h => h))
  have HV5 := Lib.hid (HV5.out.below hk6.below')
  have HK := Lib.hid (HK.out.nw hk6)
  have z6 : w5.heap.size ≤ w6.heap.size := hk6.size
  clear hk6
  have tTA := TA.out
  have tTXA := TXA.out
  go_wp2_with fail
  go_region_held3 (fun w' => Kp Nw w6 w' ∧ w'.cell? ⟨W.heap.size, 0, none⟩ = some (.slice AA nA cA) ∧ w'.cell? ⟨w4.heap.size, 0, none⟩ = some (.slice (some ⟨g4, 0, none⟩) nA nA))
    (first
      | exact ⟨(Kp.refl _ _).drew, TA.out, TXA.out⟩
      | exact ⟨hkW8, keepc hkW8 TA.out (fun h => h), keepc hkW8 TXA.out (fun h => h)⟩
      | exact ⟨hkW7, keepc hkW7 TA.out (fun h => h), keepc hkW7 TXA.out (fun h => h)⟩)
    (first
      | (go_at_call 6
         refine (toSong_any AA nA cA xsA _ (HUA.out.nw (HK.out.nw (‹Kp Nw w6 _ ∧ _›.1))) HNA.out hA).mono ?_
         rintro e w7 ⟨g7, rfl, hs7, hk7, hg7, hl7⟩
         have hkW7 := (‹Kp Nw w6 _ ∧ _›.1).nw hk7)
      | (go_at_call 9
         refine (eqSong_same _ _ nA _ _ xsA _ (HXA.out.sl.rd.nw (‹Kp Nw w6 _ ∧ _›.1)) hs7.sl.rd HLXA.out).mono ?_
         rintro e w8 ⟨rfl, hk8⟩
         have hkW8 := (‹Kp Nw w6 _ ∧ _›.1).nw hk8)
      | fail)
  clear tTA
  clear tTXA
  have TA := Lib.hid (keepc hkW8 TA.out (fun h => h))
  have HV3 := Lib.hid (HV3.out.below hkW8.below')
  have HXA := Lib.hid (HXA.out.kq8 hkW8 (fun h => h))
  have TXA := Lib.hid (keepc hkW8 TXA.out (fun h => h))
  have HV5 := Lib.hid (HV5.out.below hkW8.below')
  have HK := Lib.hid (HK.out.nw hkW8)
  have z8 : w6.heap.size ≤ w8.heap.size := hkW8.size
  clear hkW8 hkW7 hk7 hk8 hs7 hg7 hl7
  have tTXA := TXA.out
  have yTXA : w4.heap.size < w8.heap.size := by omega
  go_wp2_with fail
  refine (markSong_any _ nA nA (1) xsA _ _ HXA.out.sl HNA.out (by omega) (by omega) (by rw [HNA.out]; omega)).mono ?_
  rintro e w9 ⟨rfl, _, hk9⟩
  have MA : Hid (∀ g, (Value.slice (some ⟨g4, 0, none⟩) nA nA).ownBlock = some g → g = g4) := Lib.hid (fun g hg => by simp [Value.ownBlock] at hg; omega)
  have MMA : Hid (∀ g, (Value.slice (some ⟨g4, 0, none⟩) nA nA).ownBlock = some g → _ ≤ g ∧ g < _) := Lib.hid (fun g hg => by rw [MA.out g hg]; exact RHXA.out)
  have TA := Lib.hid (keepc hk9 TA.out (fun hg => by have := MMA.out _ hg; simp only [] at this; omega))
  have HV3 := Lib.hid (HV3.out.kp hk9 (fun g a b => by have := O3.out g a; have := MMA.out g b; omega))
  have TXA := Lib.hid (keepc hk9 TXA.out (fun hg => by have := MMA.out _ hg; simp only [] at this; omega))
  have HV5 := Lib.hid (HV5.out.kp hk9 (fun g a b => by have := O5.out g a; have := MMA.out g b; omega))
  have HK := Lib.hid (HK.out.after hk9 (fun g hg h2 => by have := MMA.out g h2; omega))
  have z9 : w8.heap.size ≤ w9.heap.size := hk9.size
  clear hk9
  clear tTXA yTXA
  go_wp2_with fail
  refine (eqIntS_same _ _ zs _ HV5.out.rd HV3.out.rd HL.out).mono ?_
  rintro e w10 ⟨rfl, d10, hd10⟩
  have hk10 : Kp Nw w9 w10 := by rw [hd10]; exact (Kp.refl _ _).drewN d10
  clear hd10
  have TA := Lib.hid (keepc hk10 TA.out (fun h => h))
  have HV3 := Lib.hid (HV3.out.below hk10.below')
  have HV5 := Lib.hid (HV5.out.below hk10.below')
  have HK := Lib.hid (HK.out.nw hk10)
  have z10 : w9.heap.size ≤ w10.heap.size := hk10.size
  clear hk10
  go_wp2_with fail
  refine (markIntS_any _ zs 1 _ _ HV5.out (by omega) (by omega) (by rw [HM.out]; omega)).mono ?_
  rintro e w11 ⟨rfl, hs11, hk11⟩
  rw [HM.out] at hs11 ⊢
  have TA := Lib.hid (keepc hk11 TA.out (fun hg => by have := O5.out _ hg; simp only [] at this; omega))
  have HV3 := Lib.hid (HV3.out.kp hk11 (fun g a b => by have := O3.out g a; have := O5.out g b; omega))
  have HK := Lib.hid (HK.out.after hk11 (fun g hg h2 => by have := O5.out g h2; omega))
  have z11 : w10.heap.size ≤ w11.heap.size := hk11.size
  have HV5 := Lib.hid hs11
  clear hs11 hk11
  go_wp2_with fail
  refine (heldIntS_any _ 1 m _ HV5.out.rd (by omega) (by omega) (by omega)).mono ?_
  rintro e wl ⟨rfl, rfl⟩
  have tTA := TA.out
  have yTA : W.heap.size < w11.heap.size := by omega
  go_wp2_with fail
  refine (toSong_any AA nA cA xsA _ (HUA.out.nw HK.out) HNA.out hA).mono ?_
  rintro e w12 ⟨g12, rfl, hs12, hk12, hg12, hl12⟩
  have HZA := Lib.hid hs12
  have RHZA : Hid (w11.heap.size ≤ g12 ∧ g12 < w12.heap.size) := Lib.hid ⟨hg12, hl12⟩
  have TA := Lib.hid (keepc hk12 TA.out (fun h => h))
  have HV3 := Lib.hid (HV3.out.below hk12.below')
  have HV5 := Lib.hid (HV5.out.below hk12.below')
  have HK := Lib.hid (HK.out.nw hk12)
  have z12 : w11.heap.size ≤ w12.heap.size := hk12.size
  clear tTA yTA
  clear hs12 hk12 hg12 hl12
  go_wp2_with fail
  refine (hI.out g12 _ _ HZA.out).mono ?_
  rintro e w13 ⟨v13, rfl, hs13, hk13⟩
  obtain ⟨A13, c13, rfl⟩ := hs13.val HM.out
  have HV13 := Lib.hid hs13
  have O13 : Hid (∀ g, (Value.slice A13 m c13).ownBlock = some g → w12.heap.size ≤ g ∧ g < w13.heap.size) := Lib.hid (fun g hg => by have := hs13.own_ge g hg; omega)
  have TA := Lib.hid (keepc hk13 TA.out (fun h => h))
  have HV3 := Lib.hid (HV3.out.below hk13.below')
  have HV5 := Lib.hid (HV5.out.below hk13.below')
  have HZA := Lib.hid (HZA.out.kq8 hk13 (fun h => h))
  have HK := Lib.hid (HK.out.nw hk13)
  have z13 : w12.heap.size ≤ w13.heap.size := hk13.size
  clear hs13 hk13
  go_wp2_with fail
  refine (eqIntS_same _ _ zs _ HV13.out.rd HV3.out.rd HL.out).mono ?_
  rintro e w14 ⟨rfl, d14, hd14⟩
  have hk14 : Kp Nw w13 w14 := by rw [hd14]; exact (Kp.refl _ _).drewN d14
  clear hd14
  have TA := Lib.hid (keepc hk14 TA.out (fun h => h))
  have HV3 := Lib.hid (HV3.out.below hk14.below')
  have HV5 := Lib.hid (HV5.out.below hk14.below')
  have HV13 := Lib.hid (HV13.out.below hk14.below')
  have HK := Lib.hid (HK.out.nw hk14)
  have z14 : w13.heap.size ≤ w14.heap.size := hk14.size
  clear hk14
  go_wp2_with fail
  refine (heldIntS_any _ 1 m _ HV5.out.rd (by omega) (by omega) (by omega)).mono ?_
  rintro e wl ⟨rfl, rfl⟩
  go_wp2
  go_ret
  exact ⟨rfl, HK.out⟩
end Go.Proofs.Ytbndgkjnigehgaa
namespace Go.Proofs.Ytbndgkjnigehgaa
open Go.ChangeShapes Go.WideShapes Go.ChangeAt Go.RowKit
end Go.Proofs.Ytbndgkjnigehgaa
namespace Go.Proofs.Ytbndgkjnigehgaa
open Go.ChangeShapes Go.WideShapes Go.ChangeAt Go.RowKit
end Go.Proofs.Ytbndgkjnigehgaa
namespace Go.Proofs.Ytbndgkjnigehgaa
open Go.ChangeShapes Go.WideShapes Go.ChangeAt Go.RowKit
end Go.Proofs.Ytbndgkjnigehgaa
namespace Go.Proofs.Ytbndgkjnigehgaa
open Go.ChangeShapes Go.WideShapes Go.ChangeAt Go.RowKit
end Go.Proofs.Ytbndgkjnigehgaa
namespace Go.Proofs.Ytbndgkjnigehgaa
open Go.ChangeShapes Go.WideShapes Go.ChangeAt Go.RowKit
end Go.Proofs.Ytbndgkjnigehgaa
namespace Go.Proofs.Ytbndgkjnigehgaa
open Go.ChangeShapes Go.WideShapes Go.ChangeAt Go.RowKit
end Go.Proofs.Ytbndgkjnigehgaa
namespace Go.Proofs.Ytbndgkjnigehgaa
open Go.ChangeShapes Go.WideShapes Go.ChangeAt Go.RowKit
end Go.Proofs.Ytbndgkjnigehgaa
namespace Go.Proofs.Ytbndgkjnigehgaa
open Go.ChangeShapes Go.WideShapes Go.ChangeAt Go.RowKit
end Go.Proofs.Ytbndgkjnigehgaa
