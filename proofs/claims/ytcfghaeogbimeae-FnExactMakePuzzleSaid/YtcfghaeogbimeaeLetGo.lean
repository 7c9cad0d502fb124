/- The circle of the program: how one goes (letGo); no condition but that the circle has at most a thousand places. -/
import Derived.Test.YtcfghaeogbimeaeCircle
namespace Go.Proofs.Ytcfghaeogbimeae
open Go.ChangeShapes Go.WideShapes Go.ChangeAt Go.RowKit

theorem Kp.frozen {S : Nat → Prop} {w w' : World} (h : Kp S w w') {p : Addr} (hp : p.block < w.heap.size) (hs : ¬ S p.block) : w'.frozen? p = w.frozen? p :=
  World.frozen?_of_block (h.block p.block hp hs)
theorem keepf {S : Nat → Prop} {w w' : World} (hk : Kp S w w') {a : Addr} (hl : a.block < w.heap.size) (h : w.frozen? a = false) (hs : ¬ S a.block) : w'.frozen? a = false := (hk.frozen hl hs).trans h

/-- two cells of a new block in the world at hand -/
def Own2 (w : World) (b : Nat) (x y : Value) : Prop := w.cell? ⟨b, 0, none⟩ = some x ∧ w.cell? ⟨b, 1, none⟩ = some y ∧ w.frozen? ⟨b, 0, none⟩ = false ∧ w.frozen? ⟨b, 1, none⟩ = false
theorem Own2.kp {w w' : World} {b : Nat} {x y : Value} {S : Nat → Prop} (h : Own2 w b x y) (hk : Kp S w w') (hs : ¬ S b) : Own2 w' b x y :=
  have hl := World.block_lt_of_cell? w _ h.1
  ⟨keepc hk h.1 hs, keepc hk h.2.1 hs, keepf hk (a := ⟨b, 0, none⟩) hl h.2.2.1 hs, keepf hk (a := ⟨b, 1, none⟩) hl h.2.2.2 hs⟩
theorem Own2.new (w : World) (x y : Value) (t : TypeId) : Own2 (w.alloc (.cells #[x, y] t)) w.heap.size x y := by
  refine ⟨?_, ?_, ?_, ?_⟩ <;> simp [World.cell?_alloc_at, World.frozen?_alloc_at]

theorem two_set (w : World) (b : Nat) (x y u v : Value) (h0 : w.cell? ⟨b, 0, none⟩ = some u) (h1 : w.cell? ⟨b, 1, none⟩ = some v) :
    ((w.setCell ⟨b, 0, none⟩ x).setCell ⟨b, 1, none⟩ y).cell? ⟨b, 0, none⟩ = some x ∧ ((w.setCell ⟨b, 0, none⟩ x).setCell ⟨b, 1, none⟩ y).cell? ⟨b, 1, none⟩ = some y := by
  constructor
  · rw [World.cell?_setCell_other _ _ _ _ (by simp), World.cell?_setCell_same _ _ _ h0]
  · exact World.cell?_setCell_same _ _ _ ((World.cell?_setCell_other _ _ _ _ (by simp)).trans h1)
theorem keeps (w : World) (a p : Addr) (x u : Value) (h : w.cell? a = some u) (hne : p.block ≠ a.block) : (w.setCell p x).cell? a = some u :=
  (World.cell?_setCell_other _ _ _ _ (fun e => hne (by rw [e]))).trans h

/-- a block of the circle, whole -/
def Bk (w : World) (C : Nat) (cs : Array Value) : Prop := w.heap[C]? = some (.cells cs 95 (0, 0))
theorem Bk.set {w : World} {C : Nat} {cs : Array Value} (h : Bk w C cs) (j : Nat) (u : Value) : Bk (w.setCell ⟨C, j, none⟩ u) C (cs.setIfInBounds j u) := heap_setCell_same w C j cs _ u h
theorem Bk.other {w : World} {C : Nat} {cs : Array Value} (h : Bk w C cs) (a : Addr) (hne : C ≠ a.block) (u : Value) : Bk (w.setCell a u) C cs := (heap_setCell_other w a C u hne).trans h
theorem Bk.drew {w : World} {C : Nat} {cs : Array Value} (h : Bk w C cs) : Bk w.drew C cs := h
theorem Ps.other {w : World} {L cap : Nat} {ps : List (Int × Int)} (h : Ps w L cap ps) (a : Addr) (hne : L ≠ a.block) (u : Value) : Ps (w.setCell a u) L cap ps := by
  obtain ⟨cur, hc, r⟩ := h
  exact ⟨cur, (heap_setCell_other w a L u hne).trans hc, r⟩
theorem Ps.drew {w : World} {L cap : Nat} {ps : List (Int × Int)} (h : Ps w L cap ps) : Ps w.drew L cap ps := h

theorem delete_as (L cap i m : Nat) (ps : List (Int × Int)) (W : World) (hP : Ps W L cap ps) (hi : i < m + 1) (hm : ps.length = m + 1) :
    Calls Try.prog 72 #[.slice (some ⟨L, 0, none⟩) (m + 1) cap, .int .i64 i, .int .i64 ((i : Int) + 1)] W fun e w' => e = .returned (.slice (some ⟨L, 0, none⟩) m cap) ∧ Ps w' L cap (ps.eraseIdx i) ∧ Kp (fun b => b = L) W w' := by
  have h := delete_any L cap i ps W hP (by omega)
  rw [hm] at h
  exact h

set_option maxHeartbeats 1600000 in
theorem passTo_any (C L cap m j : Nat) (nx : Int) (ps : List (Int × Int)) (q x : Int × Int) (k : Int) (W : World) (hC : Ci W C L cap ps q k) (hn : ps.length = m) (h2 : 1 ≤ m) (b1 : -1000000 ≤ nx) (b2 : nx ≤ 1000000)
    (hj : nx % (m : Int) = (j : Int)) (hx : ps.getD j (0, 0) = x) :
    Calls Try.prog 73 #[.pointer (some ⟨C, 0, none⟩), .int .i64 nx] W fun e w' => e = .returned (.tuple #[]) ∧ Ci w' C L cap ps x k ∧ Kp (fun b => b = C) W w' := by
  have hne := hC.ne
  have hb : m ≤ cap ∧ cap ≤ 1000000 := by
    obtain ⟨_, _, _, h1, h2, _⟩ := hC.2
    omega
  obtain ⟨hb1, hb2⟩ := hb
  have hjm : j < m := by
    have h1 := Int.emod_lt_of_pos nx (b := (m : Int)) (by omega)
    omega
  obtain ⟨c0, c1, c2, c3⟩ := hC.cells
  obtain ⟨l0, l1⟩ := hC.2.cell j (by omega)
  rw [hx] at l0 l1
  rw [hn] at c2
  have f0 := hC.frozen 0
  have f1 := hC.frozen 1
  obtain ⟨x1, x2⟩ := x
  have HB : Hid (Bk W C #[.int .i64 q.1, .int .i64 q.2, .slice (some ⟨L, 0, none⟩) m cap, .int .i64 k]) := Lib.hid (by have h := hC.1; rw [hn] at h; exact h)
  have HP := Lib.hid hC.2
  have HN := Lib.hid hn
  have HJ := Lib.hid hj
  have S2 : Hid (W.drew.cell? ⟨C, 2, none⟩ = some (.slice (some ⟨L, 0, none⟩) m cap)) := Lib.hid (by exact c2)
  have S0 : Hid (W.drew.cell? ⟨L, j * 2, none⟩ = some (.int .i64 x1)) := Lib.hid (by exact l0)
  have S1 : Hid (W.drew.cell? ⟨L, j * 2 + 1, none⟩ = some (.int .i64 x2)) := Lib.hid (by exact l1)
  have T2 : Hid (((W.setCell ⟨C, 0, none⟩ (.int .i64 x1)).setCell ⟨C, 1, none⟩ (.int .i64 x2)).drew.cell? ⟨C, 2, none⟩ = some (.slice (some ⟨L, 0, none⟩) m cap)) := Lib.hid (by
    show ((W.setCell ⟨C, 0, none⟩ (.int .i64 x1)).setCell ⟨C, 1, none⟩ (.int .i64 x2)).cell? ⟨C, 2, none⟩ = _
    rw [World.cell?_setCell_other _ _ _ _ (by simp), World.cell?_setCell_other _ _ _ _ (by simp)]; exact c2)
  have T0 : Hid (((W.setCell ⟨C, 0, none⟩ (.int .i64 x1)).setCell ⟨C, 1, none⟩ (.int .i64 x2)).drew.cell? ⟨L, j * 2, none⟩ = some (.int .i64 x1)) := Lib.hid (by
    show ((W.setCell ⟨C, 0, none⟩ (.int .i64 x1)).setCell ⟨C, 1, none⟩ (.int .i64 x2)).cell? ⟨L, j * 2, none⟩ = _
    rw [World.cell?_setCell_other _ _ _ _ (fun e => hne (by injection e)), World.cell?_setCell_other _ _ _ _ (fun e => hne (by injection e))]; exact l0)
  have T1 : Hid (((W.setCell ⟨C, 0, none⟩ (.int .i64 x1)).setCell ⟨C, 1, none⟩ (.int .i64 x2)).drew.cell? ⟨L, j * 2 + 1, none⟩ = some (.int .i64 x2)) := Lib.hid (by
    show ((W.setCell ⟨C, 0, none⟩ (.int .i64 x1)).setCell ⟨C, 1, none⟩ (.int .i64 x2)).cell? ⟨L, j * 2 + 1, none⟩ = _
    rw [World.cell?_setCell_other _ _ _ _ (fun e => hne (by injection e)), World.cell?_setCell_other _ _ _ _ (fun e => hne (by injection e))]; exact l1)
  have j0 : (0 : Int) ≤ j := Int.natCast_nonneg _
  have j1 : (j : Int) < m := by omega
  clear hC hn hx hj c3
  go_enter Try.func73, Try.ntmps73
  go_wp2_with fail
  have hj := HJ.out
  go_region_held3 (fun w' => w'.cell? ⟨C, 2, none⟩ = some (.slice (some ⟨L, 0, none⟩) m cap) ∧ w'.cell? ⟨L, j * 2, none⟩ = some (.int .i64 x1) ∧ w'.cell? ⟨L, j * 2 + 1, none⟩ = some (.int .i64 x2))
    (first
      | exact ⟨S2.out, S0.out, S1.out⟩
      | exact ⟨T2.out, T0.out, T1.out⟩
      | go_keep)
    (first
      | (go_at_call 70
         refine (around_any nx m _ (by omega) (by omega) (by omega) (by omega)).mono ?_
         rintro e w1 ⟨rfl, rfl⟩))
  go_wp2
  go_end0
  refine ⟨rfl, ⟨?_, ?_⟩, ?_⟩
  · have hb := (((Bk.set (C := C) HB.out 0 (.int .i64 x1)).set 1 (.int .i64 x2)).drew)
    rw [HN.out]
    exact hb
  · exact (((HP.out.other ⟨C, 0, none⟩ (fun e => hne e.symm) _).other ⟨C, 1, none⟩ (fun e => hne e.symm) _).drew)
  · exact (((Kp.refl (fun b => b = C) W).setCell (.inl rfl) _).setCell (.inl rfl) _).drew

set_option maxHeartbeats 1600000 in
theorem counted_any (C L cap i m j : Nat) (ps : List (Int × Int)) (q : Int × Int) (k : Int) (W : World) (hC : Ci W C L cap ps q k) (hn : ps.length = m + 1) (hi : i < m + 1) (hq : ps.getD i (0, 0) = q) (hd : Diff ps) (k1 : 1 ≤ k) (k2 : k ≤ 1000000)
    (hj : ((i : Int) + k - 1) % ((m : Int) + 1) = (j : Int)) :
    Calls Try.prog 68 #[.pointer (some ⟨C, 0, none⟩)] W fun e w' => e = .returned (.int .i64 j) ∧ Kp Nw W w' := by
  have hb : m + 1 ≤ cap ∧ cap ≤ 1000000 := by
    obtain ⟨_, _, _, h1, h2, _⟩ := hC.2
    omega
  obtain ⟨hb1, hb2⟩ := hb
  have HC := Lib.hid hC
  obtain ⟨c0, c1, c2, c3⟩ := HC.out.cells
  rw [hn] at c2
  have C2 := Lib.hid c2
  have C3 := Lib.hid c3
  have HN := Lib.hid hn
  have HQ := Lib.hid hq
  have HD := Lib.hid hd
  have i0 : (0 : Int) ≤ i := Int.natCast_nonneg _
  have q0 : IntKind.i64.wrap ((i : Int) + k) = (i : Int) + k := IntWalk.i64_in _ (by omega)
  have q1 : IntKind.i64.wrap ((i : Int) + k - 1) = (i : Int) + k - 1 := IntWalk.i64_in _ (by omega)
  clear hC hn hq hd c0 c1 c2 c3
  go_enter Try.func68, Try.ntmps68
  go_wp2_with fail
  go_region_held3 (fun w' => Kp Nw W w' ∧ w'.cell? ⟨C, 2, none⟩ = some (.slice (some ⟨L, 0, none⟩) (m + 1) cap) ∧ w'.cell? ⟨C, 3, none⟩ = some (.int .i64 k))
    (first
      | exact ⟨(Kp.refl _ _).drew, C2.out, C3.out⟩
      | exact ⟨hkW1, keepc hkW1 C2.out (fun h => h), keepc hkW1 C3.out (fun h => h)⟩
      | exact ⟨hkW2, keepc hkW2 C2.out (fun h => h), keepc hkW2 C3.out (fun h => h)⟩)
    (first
      | (go_at_call 71
         refine (next_any C L cap i ps q k _ (HC.out.nw (‹Kp Nw _ _ ∧ _›.1)) (by rw [HN.out]; exact hi) HQ.out HD.out).mono ?_
         rintro e w1 ⟨rfl, hk1⟩
         have hkW1 := (‹Kp Nw _ _ ∧ _›.1).nw hk1)
      | (go_at_call 70
         refine (around_any ((i : Int) + k - 1) ((m : Int) + 1) _ (by omega) (by omega) (by omega) (by omega)).mono ?_
         rintro e w2 ⟨rfl, rfl⟩
         have hkW2 := ‹Kp Nw _ _ ∧ _›.1))
  have hkW : Kp Nw W w1 := hkW1
  have HK1 := Lib.hid hkW
  clear hkW1 hk1 hkW
  go_wp2
  go_ret
  exact ⟨rfl, HK1.out⟩

set_option maxHeartbeats 1600000 in
theorem counted_one (C L cap : Nat) (p : Int × Int) (k : Int) (W : World) (hC : Ci W C L cap [p] p k) (k1 : 1 ≤ k) (k2 : k ≤ 1000000) :
    Calls Try.prog 68 #[.pointer (some ⟨C, 0, none⟩)] W fun e w' => e = .returned (.int .i64 ((0 : Nat) : Int)) ∧ Kp Nw W w' :=
  counted_any C L cap 0 0 0 [p] p k W hC rfl (by omega) rfl (fun a b h1 h2 => by simp at h2; omega) k1 k2 (by simp)

set_option maxHeartbeats 1600000 in
theorem letGo_any (C L cap i m j : Nat) (nx : Int) (ps : List (Int × Int)) (p q x : Int × Int) (k : Int) (W : World) (hC : Ci W C L cap ps q k) (hn : ps.length = m + 1) (hi : i < m + 1) (hp : ps.getD i (0, 0) = p) (h2 : 1 ≤ m) (b1 : -1000000 ≤ nx) (b2 : nx ≤ 1000000)
    (hj : nx % (m : Int) = (j : Int)) (hx : (ps.eraseIdx i).getD j (0, 0) = x) :
    Calls Try.prog 69 #[.pointer (some ⟨C, 0, none⟩), .int .i64 i, .int .i64 nx] W fun e w' => e = .returned (.agg #[.int .i64 p.1, .int .i64 p.2]) ∧
      Ci w' C L cap (ps.eraseIdx i) x k ∧ Kp (fun b => b = C ∨ b = L) W w' := by
  have hne := hC.ne
  have hCl := hC.lt
  have hLl := hC.2.lt
  have hb : m + 1 ≤ cap ∧ cap ≤ 1000000 := by
    obtain ⟨_, _, _, h1, h2, _⟩ := hC.2
    omega
  obtain ⟨hb1, hb2⟩ := hb
  have hjm : j < m := by
    have h1 := Int.emod_lt_of_pos nx (b := (m : Int)) (by omega)
    omega
  have el : (ps.eraseIdx i).length = m := by rw [List.length_eraseIdx, if_pos (by omega)]; omega
  obtain ⟨c0, c1, c2, c3⟩ := hC.cells
  obtain ⟨d0, d1⟩ := hC.2.cell i (by omega)
  rw [hp] at d0 d1
  rw [hn] at c2
  obtain ⟨p1, p2⟩ := p
  obtain ⟨x1, x2⟩ := x
  have HC := Lib.hid hC
  have HN := Lib.hid hn
  have HPI := Lib.hid hp
  have HX := Lib.hid hx
  have HJ := Lib.hid hj
  have EL := Lib.hid el
  have C2 := Lib.hid c2
  have i0 : (0 : Int) ≤ i := Int.natCast_nonneg _
  have i1 : (i : Int) < (m : Int) + 1 := by omega
  clear hC hn hp hx hj el c0 c1 c3
  go_enter Try.func69, Try.ntmps69
  go_wp2_with fail
  refine (delete_as L cap i m ps _ ((HC.out.2.kp (.al _ _) (fun h => h)).kp (.al _ _) (fun h => h)) hi HN.out).mono ?_
  rintro e w2 ⟨rfl, hP2, hk2⟩
  have hz : W.heap.size + 2 ≤ w2.heap.size := by have := hk2.size; simp at this; omega
  have hB : w2.heap[C]? = some (.cells #[.int .i64 q.1, .int .i64 q.2, .slice (some ⟨L, 0, none⟩) (m + 1) cap, .int .i64 k] 95 (0, 0)) := by
    have h := (((Kp.al W (.cells #[.int .i64 0, .int .i64 0] 87)).nw (.al _ (.cells #[.int .i64 p1, .int .i64 p2] 87))).block C hCl (fun h => h)).trans HC.out.1
    rw [HN.out] at h
    exact (hk2.block C (by simp; omega) hne).trans h
  have HB := Lib.hid hB
  have e0 : w2.cell? ⟨C, 0, none⟩ = some (.int .i64 q.1) := by rw [cell_of_row w2 C _ _ _ (0, 0) hB]; rfl
  have e1 : w2.cell? ⟨C, 1, none⟩ = some (.int .i64 q.2) := by rw [cell_of_row w2 C _ _ _ (0, 0) hB]; rfl
  have e2 : w2.cell? ⟨C, 2, none⟩ = some (.slice (some ⟨L, 0, none⟩) (m + 1) cap) := by rw [cell_of_row w2 C _ _ _ (0, 0) hB]; rfl
  have f0 : w2.frozen? ⟨C, 0, none⟩ = false := by simp [World.frozen?, hB]
  have f1 : w2.frozen? ⟨C, 1, none⟩ = false := by simp [World.frozen?, hB]
  have f2 : w2.frozen? ⟨C, 2, none⟩ = false := by simp [World.frozen?, hB]
  have GO := Lib.hid ((Own2.new (W.alloc (.cells #[.int .i64 0, .int .i64 0] 87)) (.int .i64 p1) (.int .i64 p2) 87).kp hk2 (by simp; omega))
  have RO := Lib.hid (((Own2.new W (.int .i64 0) (.int .i64 0) 87).kp (.al _ (.cells #[.int .i64 p1, .int .i64 p2] 87)) (fun h => h)).kp hk2 (by omega))
  have HP2 := Lib.hid hP2
  have HK2 := Lib.hid hk2
  clear hP2 hk2 hB c2 d0 d1
  go_wp2_with fail
  refine (passTo_any C L cap m j nx (ps.eraseIdx i) q (x1, x2) k _ ⟨by rw [EL.out]; exact Bk.set (C := C) HB.out 2 (.slice (some ⟨L, 0, none⟩) m cap), HP2.out.other ⟨C, 2, none⟩ (fun e => hne e.symm) _⟩ EL.out h2 b1 b2 HJ.out HX.out).mono ?_
  rintro e w3 ⟨rfl, hC3, hk3⟩
  have k23 : Kp (fun b => b = C) w2 w3 := ((Kp.refl (fun b => b = C) w2).setCell (p := ⟨C, 2, none⟩) (.inl rfl) _).trans hk3
  obtain ⟨g0, g1, g2, g3⟩ := GO.out.kp k23 (by simp only [World.size_alloc]; omega)
  obtain ⟨r0, r1, r2, r3⟩ := RO.out.kp k23 (by omega)
  simp only [World.size_alloc] at g0 g1 g2 g3
  obtain ⟨z0, z1⟩ := two_set _ W.heap.size (.int .i64 p1) (.int .i64 p2) _ _ r0 r1
  have HC3 := Lib.hid hC3
  have HK3 := Lib.hid k23
  have hz3 : w2.heap.size ≤ w3.heap.size := k23.size
  clear hC3 hk3 k23
  go_wp2
  refine bodyPost_ret (v := .agg #[.int .i64 p1, .int .i64 p2]) (by simp [results, Try.results69, go_sem, z0, z1]) rfl ⟨rfl, ?_, ?_⟩
  · have k1 : Kp (fun b => b = W.heap.size) w3 w3 := Kp.refl _ _
    exact HC3.out.kp ((k1.setCell (.inl rfl) _).setCell (.inl rfl) _) (by omega) (by omega)
  · have k1 : Kp (fun b => b = C ∨ b = L) W w2 := (((Kp.refl (fun b => b = C ∨ b = L) W).alloc _).alloc _).after HK2.out (fun g _ e => .inr e)
    exact (((k1.trans (HK3.out.mono (fun _ _ h => .inl h))).setCell (.inr (Nat.le_refl _)) _).setCell (.inr (Nat.le_refl _)) _)

set_option maxHeartbeats 1600000 in
theorem letGo_last (C L cap : Nat) (nx : Int) (p q : Int × Int) (k : Int) (W : World) (hC : Ci W C L cap [p] q k) :
    Calls Try.prog 69 #[.pointer (some ⟨C, 0, none⟩), .int .i64 ((0 : Nat) : Int), .int .i64 nx] W fun e w' => e = .returned (.agg #[.int .i64 p.1, .int .i64 p.2]) ∧ Ci w' C L cap [] q k ∧ Kp (fun b => b = C ∨ b = L) W w' := by
  have hne := hC.ne
  have hCl := hC.lt
  have hLl := hC.2.lt
  have hb : 0 + 1 ≤ cap ∧ cap ≤ 1000000 := by
    obtain ⟨_, _, _, h1, h2, _⟩ := hC.2
    exact ⟨h1, h2⟩
  obtain ⟨hb1, hb2⟩ := hb
  obtain ⟨c0, c1, c2, c3⟩ := hC.cells
  obtain ⟨d0, d1⟩ := hC.2.cell 0 (by simp)
  simp only [List.length_cons, List.length_nil, Nat.zero_add, Nat.zero_mul, List.getD_cons_zero] at c2 d0 d1
  obtain ⟨p1, p2⟩ := p
  have HC := Lib.hid hC
  clear hC c0 c1 c3
  go_enter Try.func69, Try.ntmps69
  go_wp2_with fail
  refine (delete_as L cap 0 0 [(p1, p2)] _ ((HC.out.2.kp (.al _ _) (fun h => h)).kp (.al _ _) (fun h => h)) (by omega) rfl).mono ?_
  rintro e w2 ⟨rfl, hP2, hk2⟩
  have hz : W.heap.size + 2 ≤ w2.heap.size := by have := hk2.size; simp at this; omega
  have hB : w2.heap[C]? = some (.cells #[.int .i64 q.1, .int .i64 q.2, .slice (some ⟨L, 0, none⟩) 1 cap, .int .i64 k] 95 (0, 0)) := by
    have h := (((Kp.al W (.cells #[.int .i64 0, .int .i64 0] 87)).nw (.al _ (.cells #[.int .i64 p1, .int .i64 p2] 87))).block C hCl (fun h => h)).trans HC.out.1
    exact (hk2.block C (by simp; omega) hne).trans h
  have HB := Lib.hid hB
  have e2 : w2.cell? ⟨C, 2, none⟩ = some (.slice (some ⟨L, 0, none⟩) 1 cap) := by rw [cell_of_row w2 C _ _ _ (0, 0) hB]; rfl
  have f2 : w2.frozen? ⟨C, 2, none⟩ = false := by simp [World.frozen?, hB]
  obtain ⟨g0, g1, g2, g3⟩ := (Own2.new (W.alloc (.cells #[.int .i64 0, .int .i64 0] 87)) (.int .i64 p1) (.int .i64 p2) 87).kp hk2 (by simp; omega)
  obtain ⟨r0, r1, r2, r3⟩ := ((Own2.new W (.int .i64 0) (.int .i64 0) 87).kp (.al _ (.cells #[.int .i64 p1, .int .i64 p2] 87)) (fun h => h)).kp hk2 (by omega)
  simp only [World.size_alloc] at g0 g1 g2 g3
  have HP2 := Lib.hid hP2
  have HK2 := Lib.hid hk2
  clear hP2 hk2 hB c2 d0 d1
  go_wp2
  obtain ⟨z0, z1⟩ := two_set _ W.heap.size (.int .i64 p1) (.int .i64 p2) _ _ (keeps _ _ ⟨C, 2, none⟩ (.slice (some ⟨L, 0, none⟩) 0 cap) _ (r0) (by show C ≠ W.heap.size; omega)) (keeps _ _ ⟨C, 2, none⟩ (.slice (some ⟨L, 0, none⟩) 0 cap) _ (r1) (by show C ≠ W.heap.size; omega))
  refine bodyPost_ret (v := .agg #[.int .i64 p1, .int .i64 p2]) (by simp [results, Try.results69, go_sem, z0, z1]) rfl ⟨rfl, ⟨?_, ?_⟩, ?_⟩
  · exact ((Bk.set (C := C) HB.out 2 (.slice (some ⟨L, 0, none⟩) 0 cap)).other ⟨W.heap.size, 0, none⟩ (by show C ≠ W.heap.size; omega) (.int .i64 p1)).other ⟨W.heap.size, 1, none⟩ (by show C ≠ W.heap.size; omega) (.int .i64 p2)
  · exact ((HP2.out.other ⟨C, 2, none⟩ (fun e => hne e.symm) _).other ⟨W.heap.size, 0, none⟩ (by show L ≠ W.heap.size; omega) _).other ⟨W.heap.size, 1, none⟩ (by show L ≠ W.heap.size; omega) _
  · have k1 : Kp (fun b => b = C ∨ b = L) W w2 := (((Kp.refl (fun b => b = C ∨ b = L) W).alloc _).alloc _).after HK2.out (fun g _ e => .inr e)
    exact ((k1.setCell (.inl (.inl rfl)) _).setCell (.inr (Nat.le_refl _)) _).setCell (.inr (Nat.le_refl _)) _
end Go.Proofs.Ytcfghaeogbimeae
