/- The texts Hid, Fit, as one. -/
import Derived.Test.YtcfghaeogbimeaeMIn
import Derived.Test.YtcfghaeogbimeaeMPz
import Derived.Test.YtcfghaeogbimeaeOutN
import Derived.Deep.RegionLaw
import Derived.Test.YtcfghaeogbimeaeMCl
namespace Go.Proofs.Ytcfghaeogbimeae
open Go.ChangeShapes Go.WideShapes Go.ChangeAt Go.RowKit

/-- three values in a block of the call's own -/
def OwnV (w : World) (b : Nat) (x y z : Value) : Prop := (w.cell? ⟨b, 0, none⟩ = some x ∧ w.cell? ⟨b, 1, none⟩ = some y ∧ w.cell? ⟨b, 2, none⟩ = some z) ∧ w.frozen? ⟨b, 0, none⟩ = false ∧ w.frozen? ⟨b, 1, none⟩ = false ∧ w.frozen? ⟨b, 2, none⟩ = false
theorem OwnV.new (w : World) (x y z : Value) (t : TypeId) : OwnV (w.alloc (.cells #[x, y, z] t)) w.heap.size x y z := by
  refine ⟨⟨?_, ?_, ?_⟩, ?_, ?_, ?_⟩ <;> simp [World.cell?_alloc_at, World.frozen?_alloc_at]
theorem OwnV.kp {w w' : World} {b : Nat} {x y z : Value} {S : Nat → Prop} (h : OwnV w b x y z) (hk : Kp S w w') (hs : ¬ S b) : OwnV w' b x y z := by
  obtain ⟨⟨h0, h1, h2⟩, f0, f1, f2⟩ := h
  have hl := World.block_lt_of_cell? w _ h0
  exact ⟨⟨keepc hk h0 hs, keepc hk h1 hs, keepc hk h2 hs⟩, frz hk hl hs f0, frz hk hl hs f1, frz hk hl hs f2⟩
theorem OwnV.put {w : World} {b : Nat} {x y z : Value} (h : OwnV w b x y z) (x' y' z' : Value) : OwnV (((w.setCell ⟨b, 0, none⟩ x').setCell ⟨b, 1, none⟩ y').setCell ⟨b, 2, none⟩ z') b x' y' z' := by
  obtain ⟨⟨h0, h1, h2⟩, f0, f1, f2⟩ := h
  have n01 : (⟨b, 0, none⟩ : Addr) ≠ ⟨b, 1, none⟩ := by simp
  have n02 : (⟨b, 0, none⟩ : Addr) ≠ ⟨b, 2, none⟩ := by simp
  have n12 : (⟨b, 1, none⟩ : Addr) ≠ ⟨b, 2, none⟩ := by simp
  refine ⟨⟨?_, ?_, ?_⟩, ?_, ?_, ?_⟩
  · rw [World.cell?_setCell_other _ _ _ _ n02.symm, World.cell?_setCell_other _ _ _ _ n01.symm]
    exact World.cell?_setCell_same _ _ _ h0
  · rw [World.cell?_setCell_other _ _ _ _ n12.symm]
    exact World.cell?_setCell_same _ _ _ ((World.cell?_setCell_other _ _ _ _ n01).trans h1)
  · exact World.cell?_setCell_same _ _ _ ((World.cell?_setCell_other _ _ _ _ n12).trans ((World.cell?_setCell_other _ _ _ _ n02).trans h2))
  · rw [World.frozen?_setCell, World.frozen?_setCell, World.frozen?_setCell]; exact f0
  · rw [World.frozen?_setCell, World.frozen?_setCell, World.frozen?_setCell]; exact f1
  · rw [World.frozen?_setCell, World.frozen?_setCell, World.frozen?_setCell]; exact f2

/-- the last and the first one of an order -/
theorem hid_last (k : Int) (m : Nat) : (outs k (m + 1) (marks 0 (m + 1))).getD m 0 = lastN k m := by
  have h := out_outs k 0 m (marks 0 (m + 1)) (m + 1) (by rw [marks_length]; omega) (by omega)
  rw [h, outN_last]
  have hb := lastN_bd k m
  rw [marks_getD 0 (m + 1) _ (by omega)]
  omega
theorem hid_first (k : Int) (m : Nat) : (outs k (m + 1) (marks 0 (m + 1))).getD 0 0 = (k - 1) % ((m + 1 : Nat) : Int) := by
  have h := out_outs k m 0 (marks 0 (m + 1)) (m + 1) (by rw [marks_length]) (by omega)
  rw [h]
  have h1 := Int.emod_nonneg (k - 1) (b := (m : Int) + 1) (by omega)
  have h2 := Int.emod_lt_of_pos (k - 1) (b := (m : Int) + 1) (by omega)
  have e : outN k m 0 = (k - 1) % ((m : Int) + 1) := rfl
  rw [e, marks_getD 0 (m + 1) _ (by omega)]
  push_cast
  omega

/-- a clue with what the circle has in place of what it says -/
def tellC (p : Cu) (n : Nat) (k : Int) : Cu :=
  if p.1 = 0 then (p.1, p.2.1, (n : Int) % p.2.1)
  else if p.1 = 1 then (p.1, p.2.1, k % p.2.1)
  else if p.1 = 2 then (p.1, lastN k (n - 1), p.2.2)
  else if p.1 = 3 then (p.1, (k - 1) % (n : Int), p.2.2)
  else if p.1 = 4 then (p.1, p.2.1, fndD p.2.1 (outs k n (marks 0 n)) 0)
  else (p.1, min p.2.1 n, p.2.2)
theorem fit_tell (p : Cu) (n : Nat) (k : Int) (h : cluB p = true) : fitB p n k = decide (tellC p n k = p) := by
  obtain ⟨q, a, b⟩ := p
  rcases clu_kind h with ⟨rfl, a1, a2⟩ | ⟨rfl, a1, a2⟩ | ⟨rfl, a1, a2⟩ | ⟨rfl, a1, a2⟩ | ⟨rfl, a1, a2⟩ | ⟨rfl, a1, a2⟩ <;> simp [fitB, tellC]
  omega

set_option maxRecDepth 100000 in
set_option maxHeartbeats 3200000 in
theorem hiddenOf_any (n : Nat) (k : Int) (W : World) (n1 : 1 ≤ n) (n2 : n ≤ 10) (k1 : 1 ≤ k) (k2 : k ≤ 12) :
    Calls Try.prog 40 #[.int .i64 n, .int .i64 k] W fun e w' => ∃ v, e = .returned (.agg #[.int .i64 n, .int .i64 k, v]) ∧ Sl w' W.heap.size v (outs k n (marks 0 n)) ∧ Kp Nw W w' := by
  have hask : Asked n k := ⟨by omega, by omega, by omega, by omega⟩
  have O1 := Lib.hid (OwnV.new W (.int .i64 0) (.int .i64 0) (.slice none 0 0) 63)
  go_enter Try.func40, Try.ntmps40
  go_wp2_with fail
  refine (orderOfAll_any n k _ hask).mono ?_
  rintro e w1 ⟨G, rfl, hP, hk1, hG⟩
  have HP := Lib.hid hP
  have HK1 := Lib.hid hk1
  clear hP hk1
  go_wp2_with fail
  refine (numbersOf_any ⟨G, 0, none⟩ n n (ordP k (marks 0 n)) _ HP.out.rdp (by rw [ordP_length, marks_length]) (by omega)).mono ?_
  rintro e w2 ⟨v, rfl, hs, hk2⟩
  rw [ordP_snd, marks_length] at hs
  obtain ⟨A, c, rfl⟩ := hs.val (n := n) (outs_length _ _ _)
  have hr := O1.out.kp (HK1.out.nw hk2) (fun h => h)
  have hz : (W.alloc (.cells #[.int .i64 0, .int .i64 0, .slice none 0 0] 63)).heap.size ≤ w1.heap.size := HK1.out.size
  have HZ := Lib.hid hz
  have hso := hs.own_ge
  have z := hr.put (.int .i64 n) (.int .i64 k) (.slice A n c)
  have kS : Kp (fun b => b = W.heap.size) w2 (((w2.setCell ⟨W.heap.size, 0, none⟩ (.int .i64 n)).setCell ⟨W.heap.size, 1, none⟩ (.int .i64 k)).setCell ⟨W.heap.size, 2, none⟩ (.slice A n c)) := (((Kp.refl (fun b => b = W.heap.size) w2).setCell (p := ⟨W.heap.size, 0, none⟩) (.inl rfl) (.int .i64 n)).setCell (p := ⟨W.heap.size, 1, none⟩) (.inl rfl) (.int .i64 k)).setCell (p := ⟨W.heap.size, 2, none⟩) (.inl rfl) (.slice A n c)
  have HS := Lib.hid ((hs.kp kS (fun g hg e => by have := (hso g hg).1; rw [World.size_alloc] at hz; omega)).from (B' := W.heap.size) (by rw [World.size_alloc] at hz; omega))
  have HK := Lib.hid ((((Kp.al W _).nw HK1.out).nw hk2).after kS (fun g hg e => by omega))
  obtain ⟨⟨r0, r1, r2⟩, f0, f1, f2⟩ := hr
  obtain ⟨⟨z0, z1, z2⟩, _⟩ := z
  clear hs hk2 hz hso kS
  go_wp2
  exact bodyPost_ret (v := .agg #[.int .i64 n, .int .i64 k, .slice A n c]) (by simp [results, Try.results40, go_sem, z0, z1, z2]) rfl ⟨_, rfl, HS.out, HK.out⟩

set_option maxRecDepth 100000 in
set_option maxHeartbeats 6400000 in
theorem tell_any (p : Cu) (m : Nat) (k : Int) (A : Option Addr) (c : Nat) (W : World) (hv : Rd W (.slice A (m + 1) c) (outs k (m + 1) (marks 0 (m + 1)))) (n2 : m + 1 ≤ 10) (k1 : 1 ≤ k) (k2 : k ≤ 12) (q0 : 0 ≤ p.1) (q5 : p.1 ≤ 5) (qa : p.1 ≤ 1 → 2 ≤ p.2.1 ∧ p.2.1 ≤ 5) :
    Calls Try.prog 57 #[.agg #[.int .i64 ((m : Int) + 1), .int .i64 k, .slice A (m + 1) c], .agg #[.int .i64 p.1, .int .i64 p.2.1, .int .i64 p.2.2]] W fun e w' => e = .returned (.agg #[.int .i64 (tellC p (m + 1) k).1, .int .i64 (tellC p (m + 1) k).2.1, .int .i64 (tellC p (m + 1) k).2.2]) ∧ Kp Nw W w' := by
  obtain ⟨q, a, b⟩ := p
  simp only at q0 q5 qa ⊢
  obtain ⟨t, ht⟩ : ∃ t, tellC (q, a, b) (m + 1) k = t := ⟨_, rfl⟩
  rw [ht]
  have HU := Lib.hid hv
  have hq : q = 0 ∨ q = 1 ∨ q = 2 ∨ q = 3 ∨ q = 4 ∨ q = 5 := by omega
  have kA : Kp Nw W (((W.alloc (.cells #[.int .i64 ((m : Int) + 1), .int .i64 k, .slice A (m + 1) c] 63)).alloc (.cells #[.int .i64 q, .int .i64 a, .int .i64 b] 49)).alloc (.cells #[.int .i64 0, .int .i64 0, .int .i64 0] 49)) := ((Kp.al W _).nw (.al _ _)).nw (.al _ _)
  have KA := Lib.hid kA
  obtain ⟨A', c', hA', hcell⟩ := hv.nw' kA
  rw [outs_length] at hA' hcell
  injection hA' with e1 e2 e3
  subst e1
  have HCELL := Lib.hid hcell
  have hm0 : (0 : Int) ≤ m := Int.natCast_nonneg _
  clear hv kA hcell e2 e3
  rcases hq with rfl | rfl | rfl | rfl | rfl | rfl
  · obtain ⟨r, hr⟩ : ∃ r, ((m : Int) + 1) % a = r := ⟨_, rfl⟩
    have HT : Hid (t = (0, a, r)) := Lib.hid (by rw [← ht, ← hr]; simp [tellC])
    rw [HT.out]
    show Calls _ _ _ _ fun e w' => e = .returned (.agg #[.int .i64 0, .int .i64 a, .int .i64 r]) ∧ _
    clear ht
    obtain ⟨ya, yb⟩ := qa (by omega)
    have r1 : 0 ≤ r := by rw [← hr]; exact Int.emod_nonneg _ (by omega)
    have r2 : r ≤ 12 := by rw [← hr]; have := Int.emod_lt_of_pos (((m : Int) + 1)) (show 0 < a by omega); omega
    have r3 : (((m : Int) + 1)).tmod a = r := by rw [Int.tmod_eq_emod_of_nonneg (by omega)]; exact hr
    have r4 : IntKind.i64.wrap r = r := IntWalk.i64_in _ (by omega)
    have r5 : ¬ a = 0 := by omega
    have r6 : (a == 0) = false := by simpa using r5
    clear hr
    go_enter Try.func57, Try.ntmps57
    go_wp2
    refine bodyPost_ret (v := .agg #[.int .i64 0, .int .i64 a, .int .i64 r]) (by simp [results, Try.results57, go_sem]) rfl ⟨rfl, ?_⟩
    exact ((Kp.al W _).nw (.al _ _)).nw (.al _ _)
  · obtain ⟨r, hr⟩ : ∃ r, k % a = r := ⟨_, rfl⟩
    have HT : Hid (t = (1, a, r)) := Lib.hid (by rw [← ht, ← hr]; simp [tellC])
    rw [HT.out]
    show Calls _ _ _ _ fun e w' => e = .returned (.agg #[.int .i64 1, .int .i64 a, .int .i64 r]) ∧ _
    clear ht
    obtain ⟨ya, yb⟩ := qa (by omega)
    have r1 : 0 ≤ r := by rw [← hr]; exact Int.emod_nonneg _ (by omega)
    have r2 : r ≤ 12 := by rw [← hr]; have := Int.emod_lt_of_pos (k) (show 0 < a by omega); omega
    have r3 : (k).tmod a = r := by rw [Int.tmod_eq_emod_of_nonneg (by omega)]; exact hr
    have r4 : IntKind.i64.wrap r = r := IntWalk.i64_in _ (by omega)
    have r5 : ¬ a = 0 := by omega
    have r6 : (a == 0) = false := by simpa using r5
    clear hr
    go_enter Try.func57, Try.ntmps57
    go_wp2
    refine bodyPost_ret (v := .agg #[.int .i64 1, .int .i64 a, .int .i64 r]) (by simp [results, Try.results57, go_sem]) rfl ⟨rfl, ?_⟩
    exact ((Kp.al W _).nw (.al _ _)).nw (.al _ _)
  · obtain ⟨r, hr⟩ : ∃ r, lastN k m = r := ⟨_, rfl⟩
    have HT : Hid (t = (2, r, b)) := Lib.hid (by rw [← ht, ← hr]; simp [tellC])
    rw [HT.out]
    show Calls _ _ _ _ fun e w' => e = .returned (.agg #[.int .i64 2, .int .i64 r, .int .i64 b]) ∧ _
    clear ht
    obtain ⟨g, o, rfl, hc⟩ := HCELL.out m (by omega)
    rw [hid_last, hr] at hc
    have q1 : IntKind.i64.wrap ((m : Int) + 1 - 1) = (m : Int) := by rw [show (m : Int) + 1 - 1 = (m : Int) by omega]; exact IntWalk.i64_in _ (by omega)
    have q3 : IntKind.i64.wrap (m : Int) = (m : Int) := IntWalk.i64_in _ (by omega)
    have q2 : (m : Int) < ((m : Int) + 1) := by omega
    clear hr
    go_enter Try.func57, Try.ntmps57
    go_wp2
    refine bodyPost_ret (v := .agg #[.int .i64 2, .int .i64 r, .int .i64 b]) (by simp [results, Try.results57, go_sem]) rfl ⟨rfl, ?_⟩
    exact ((Kp.al W _).nw (.al _ _)).nw (.al _ _)
  · obtain ⟨r, hr⟩ : ∃ r, (k - 1) % ((m : Int) + 1) = r := ⟨_, rfl⟩
    have HT : Hid (t = (3, r, b)) := Lib.hid (by rw [← ht, ← hr]; simp [tellC])
    rw [HT.out]
    show Calls _ _ _ _ fun e w' => e = .returned (.agg #[.int .i64 3, .int .i64 r, .int .i64 b]) ∧ _
    clear ht
    obtain ⟨g, o, rfl, hc⟩ := HCELL.out 0 (by omega)
    rw [hid_first] at hc
    push_cast at hc
    rw [hr] at hc
    simp only [Nat.add_zero] at hc
    have q2 : (0 : Int) < ((m : Int) + 1) := by omega
    clear hr
    go_enter Try.func57, Try.ntmps57
    go_wp2
    refine bodyPost_ret (v := .agg #[.int .i64 3, .int .i64 r, .int .i64 b]) (by simp [results, Try.results57, go_sem]) rfl ⟨rfl, ?_⟩
    exact ((Kp.al W _).nw (.al _ _)).nw (.al _ _)
  · obtain ⟨r, hr⟩ : ∃ r, fndD a (outs k (m + 1) (marks 0 (m + 1))) 0 = r := ⟨_, rfl⟩
    have HT : Hid (t = (4, a, r)) := Lib.hid (by rw [← ht, ← hr]; simp [tellC])
    rw [HT.out]
    show Calls _ _ _ _ fun e w' => e = .returned (.agg #[.int .i64 4, .int .i64 a, .int .i64 r]) ∧ _
    clear ht
    go_enter Try.func57, Try.ntmps57
    go_wp2_with fail
    refine (index_any _ (outs k (m + 1) (marks 0 (m + 1))) a _ (HU.out.nw' KA.out) (by rw [outs_length]; omega)).mono ?_
    rw [hr]
    rintro e w1 ⟨rfl, rfl⟩
    clear hr
    go_wp2
    refine bodyPost_ret (v := .agg #[.int .i64 4, .int .i64 a, .int .i64 r]) (by simp [results, Try.results57, go_sem]) rfl ⟨rfl, ?_⟩
    exact ((Kp.al W _).nw (.al _ _)).nw (.al _ _)
  · obtain ⟨r, hr⟩ : ∃ r, min a ((m : Int) + 1) = r := ⟨_, rfl⟩
    have HT : Hid (t = (5, r, b)) := Lib.hid (by rw [← ht, ← hr]; simp [tellC])
    rw [HT.out]
    show Calls _ _ _ _ fun e w' => e = .returned (.agg #[.int .i64 5, .int .i64 r, .int .i64 b]) ∧ _
    clear ht
    have HR := Lib.hid hr
    clear hr
    go_enter Try.func57, Try.ntmps57
    go_wp2
    all_goals
      refine bodyPost_ret (v := .agg #[.int .i64 5, .int .i64 r, .int .i64 b]) (by simp [results, Try.results57, go_sem]; try (rw [← HR.out]; omega)) rfl ⟨rfl, ?_⟩
      exact ((Kp.al W _).nw (.al _ _)).nw (.al _ _)

set_option maxRecDepth 100000 in
set_option maxHeartbeats 3200000 in
theorem fits_any (p : Cu) (m : Nat) (k : Int) (A : Option Addr) (c : Nat) (W : World) (hv : Rd W (.slice A (m + 1) c) (outs k (m + 1) (marks 0 (m + 1)))) (n2 : m + 1 ≤ 10) (k1 : 1 ≤ k) (k2 : k ≤ 12) (hp : cluB p = true) (r : Bool) (hr : fitB p (m + 1) k = r) :
    Calls Try.prog 66 #[.agg #[.int .i64 ((m : Int) + 1), .int .i64 k, .slice A (m + 1) c], .agg #[.int .i64 p.1, .int .i64 p.2.1, .int .i64 p.2.2]] W fun e w' => e = .returned (.bool r) ∧ Kp Nw W w' := by
  have kA : Kp Nw W ((W.alloc (.cells #[.int .i64 ((m : Int) + 1), .int .i64 k, .slice A (m + 1) c] 63)).alloc (.cells #[.int .i64 p.1, .int .i64 p.2.1, .int .i64 p.2.2] 49)) := (Kp.al W _).nw (.al _ _)
  have HT := Lib.hid (fun w (hk : Kp Nw ((W.alloc (.cells #[.int .i64 ((m : Int) + 1), .int .i64 k, .slice A (m + 1) c] 63)).alloc (.cells #[.int .i64 p.1, .int .i64 p.2.1, .int .i64 p.2.2] 49)) w) => tell_any p m k A c w (hv.nw' (kA.nw hk)) n2 k1 k2 (by
    obtain ⟨q, a, b⟩ := p
    rcases clu_kind hp with ⟨rfl, _⟩ | ⟨rfl, _⟩ | ⟨rfl, _⟩ | ⟨rfl, _⟩ | ⟨rfl, _⟩ | ⟨rfl, _⟩ <;> simp) (by
    obtain ⟨q, a, b⟩ := p
    rcases clu_kind hp with ⟨rfl, _⟩ | ⟨rfl, _⟩ | ⟨rfl, _⟩ | ⟨rfl, _⟩ | ⟨rfl, _⟩ | ⟨rfl, _⟩ <;> simp) (by
    obtain ⟨q, a, b⟩ := p
    rcases clu_kind hp with ⟨rfl, h⟩ | ⟨rfl, h⟩ | ⟨rfl, _⟩ | ⟨rfl, _⟩ | ⟨rfl, _⟩ | ⟨rfl, _⟩ <;> first | exact fun _ => h | (intro h; simp at h)))
  have HO := Lib.hid (fun w (hk : Kp Nw ((W.alloc (.cells #[.int .i64 ((m : Int) + 1), .int .i64 k, .slice A (m + 1) c] 63)).alloc (.cells #[.int .i64 p.1, .int .i64 p.2.1, .int .i64 p.2.2] 49)) w) => (Own3.new (W.alloc (.cells #[.int .i64 ((m : Int) + 1), .int .i64 k, .slice A (m + 1) c] 63)) p 49).kp hk (fun h => h))
  rw [fit_tell p _ _ hp] at hr
  obtain ⟨⟨t0, t1, t2⟩, ht⟩ : ∃ t, tellC p (m + 1) k = t := ⟨_, rfl⟩
  rw [ht] at HT hr
  have HR := Lib.hid hr
  obtain ⟨q, a, b⟩ := p
  simp only [World.size_alloc] at HT HO HR ⊢
  have HA := Lib.hid kA
  clear ht hr hv hp kA
  by_cases h0 : q = t0
  · subst h0
    by_cases h1 : a = t1
    · subst h1
      by_cases h2 : b = t2
      · subst h2
        have HR2 : Hid (r = true) := Lib.hid (by rw [← HR.out]; simp)
        clear HR
        go_enter Try.func66, Try.ntmps66
        go_wp2_with fail
        first
        | (go_region_law (first
          | (go_simp
             go_at_call 57
             refine (HT.out _ (by first | exact (Kp.refl Nw _).drew | exact (Kp.refl Nw _))).mono ?_
             rintro e w1 ⟨rfl, hk1⟩
             have kW : Kp Nw ((W.alloc (.cells #[.int .i64 ((m : Int) + 1), .int .i64 k, .slice A (m + 1) c] 63)).alloc (.cells #[.int .i64 q, .int .i64 a, .int .i64 b] 49)) w1 := Kp.nw (by first | exact (Kp.refl Nw _).drew | exact (Kp.refl Nw _)) hk1
             obtain ⟨⟨b0, b1, b2⟩, _⟩ := HO.out w1 kW)
          | fail))
        | trivial
        all_goals
          have HK1 := Lib.hid (HA.out.nw kW)
          clear kW hk1 b0 b1 b2
          go_wp2
          go_ret
          exact ⟨ret_bool HR2.out.symm, HK1.out⟩
      · have h2 : ¬ t2 = b := fun e => h2 e.symm
        have g2 : (t2 == b) = false := by simpa using h2
        have HR2 : Hid (r = false) := Lib.hid (by rw [← HR.out]; simp [h2])
        clear HR
        go_enter Try.func66, Try.ntmps66
        go_wp2_with fail
        first
        | (go_region_law (first
          | (go_simp
             go_at_call 57
             refine (HT.out _ (by first | exact (Kp.refl Nw _).drew | exact (Kp.refl Nw _))).mono ?_
             rintro e w1 ⟨rfl, hk1⟩
             have kW : Kp Nw ((W.alloc (.cells #[.int .i64 ((m : Int) + 1), .int .i64 k, .slice A (m + 1) c] 63)).alloc (.cells #[.int .i64 q, .int .i64 a, .int .i64 b] 49)) w1 := Kp.nw (by first | exact (Kp.refl Nw _).drew | exact (Kp.refl Nw _)) hk1
             obtain ⟨⟨b0, b1, b2⟩, _⟩ := HO.out w1 kW)
          | fail))
        | trivial
        all_goals
          have HK1 := Lib.hid (HA.out.nw kW)
          clear kW hk1 b0 b1 b2
          go_wp2
          go_ret
          exact ⟨ret_bool HR2.out.symm, HK1.out⟩
    · have h1 : ¬ t1 = a := fun e => h1 e.symm
      have g1 : (t1 == a) = false := by simpa using h1
      have HR2 : Hid (r = false) := Lib.hid (by rw [← HR.out]; simp [h1])
      clear HR
      go_enter Try.func66, Try.ntmps66
      go_wp2_with fail
      first
      | (go_region_law (first
        | (go_simp
           go_at_call 57
           refine (HT.out _ (by first | exact (Kp.refl Nw _).drew | exact (Kp.refl Nw _))).mono ?_
           rintro e w1 ⟨rfl, hk1⟩
           have kW : Kp Nw ((W.alloc (.cells #[.int .i64 ((m : Int) + 1), .int .i64 k, .slice A (m + 1) c] 63)).alloc (.cells #[.int .i64 q, .int .i64 a, .int .i64 b] 49)) w1 := Kp.nw (by first | exact (Kp.refl Nw _).drew | exact (Kp.refl Nw _)) hk1
           obtain ⟨⟨b0, b1, b2⟩, _⟩ := HO.out w1 kW)
        | fail))
      | trivial
      all_goals
        have HK1 := Lib.hid (HA.out.nw kW)
        clear kW hk1 b0 b1 b2
        go_wp2
        go_ret
        exact ⟨ret_bool HR2.out.symm, HK1.out⟩
  · have h0 : ¬ t0 = q := fun e => h0 e.symm
    have g0 : (t0 == q) = false := by simpa using h0
    have HR2 : Hid (r = false) := Lib.hid (by rw [← HR.out]; simp [h0])
    clear HR
    go_enter Try.func66, Try.ntmps66
    go_wp2_with fail
    first
    | (go_region_law (first
      | (go_simp
         go_at_call 57
         refine (HT.out _ (by first | exact (Kp.refl Nw _).drew | exact (Kp.refl Nw _))).mono ?_
         rintro e w1 ⟨rfl, hk1⟩
         have kW : Kp Nw ((W.alloc (.cells #[.int .i64 ((m : Int) + 1), .int .i64 k, .slice A (m + 1) c] 63)).alloc (.cells #[.int .i64 q, .int .i64 a, .int .i64 b] 49)) w1 := Kp.nw (by first | exact (Kp.refl Nw _).drew | exact (Kp.refl Nw _)) hk1
         obtain ⟨⟨b0, b1, b2⟩, _⟩ := HO.out w1 kW)
      | fail))
    | trivial
    all_goals
      have HK1 := Lib.hid (HA.out.nw kW)
      clear kW hk1 b0 b1 b2
      go_wp2
      go_ret
      exact ⟨ret_bool HR2.out.symm, HK1.out⟩
end Go.Proofs.Ytcfghaeogbimeae
namespace Go.Proofs.Ytcfghaeogbimeae
open Go.ChangeShapes Go.WideShapes Go.ChangeAt Go.RowKit

theorem isHidden_any (n k : Int) (W : World) : Calls Try.prog 38 #[.int .i64 n, .int .i64 k] W fun e w' => e = .returned (.bool (hidB n k)) ∧ W = w' := by
  by_cases hA : 1 ≤ n ∧ n ≤ 10
  · obtain ⟨y1, y2⟩ := hA
    by_cases hB : 1 ≤ k ∧ k ≤ 12
    · obtain ⟨y3, y4⟩ := hB
      have hr : hidB n k = true := by simp [hidB]; omega
      rw [hr]
      clear hr
      go_enter Try.func38, Try.ntmps38
      go_wp2_with (first | ((with_reducible refine (within_yes k 1 12 _ y3 y4).mono ?_); rintro e w' ⟨rfl, rfl⟩) | ((with_reducible refine (within_yes n 1 10 _ y1 y2).mono ?_); rintro e w' ⟨rfl, rfl⟩))
      go_ret
      exact ⟨rfl, rfl⟩
    · have y3 : k < 1 ∨ 12 < k := by omega
      have hr : hidB n k = false := by simp [hidB]; omega
      rw [hr]
      clear hr hB
      go_enter Try.func38, Try.ntmps38
      go_wp2_with (first | ((with_reducible refine (within_no k 1 12 _ y3).mono ?_); rintro e w' ⟨rfl, rfl⟩) | ((with_reducible refine (within_yes n 1 10 _ y1 y2).mono ?_); rintro e w' ⟨rfl, rfl⟩))
      go_ret
      exact ⟨rfl, rfl⟩
  · have y1 : n < 1 ∨ 10 < n := by omega
    have hr : hidB n k = false := by simp [hidB]; omega
    rw [hr]
    clear hr hA
    go_enter Try.func38, Try.ntmps38
    go_wp2_with (first | ((with_reducible refine (within_no n 1 10 _ y1).mono ?_); rintro e w' ⟨rfl, rfl⟩))
    go_ret
    exact ⟨rfl, rfl⟩


theorem hiddenOf_s (m : Nat) (k : Int) (W : World) (n2 : m + 1 ≤ 10) (k1 : 1 ≤ k) (k2 : k ≤ 12) :
    Calls Try.prog 40 #[.int .i64 ((m : Int) + 1), .int .i64 k] W fun e w' => ∃ A c, e = .returned (.agg #[.int .i64 ((m : Int) + 1), .int .i64 k, .slice A (m + 1) c]) ∧ Sl w' W.heap.size (.slice A (m + 1) c) (outs k (m + 1) (marks 0 (m + 1))) ∧ Kp Nw W w' := by
  have h := hiddenOf_any (m + 1) k W (by omega) n2 k1 k2
  rw [show ((m + 1 : Nat) : Int) = (m : Int) + 1 from rfl] at h
  refine h.mono ?_
  rintro e w' ⟨v, rfl, hs, hk⟩
  obtain ⟨A, c, rfl⟩ := hs.val (n := m + 1) (outs_length _ _ _)
  exact ⟨A, c, rfl, hs, hk⟩

set_option maxRecDepth 100000 in
set_option maxHeartbeats 3200000 in
theorem fitsAll_any (ps : List Cu) (m : Nat) (k : Int) (A : Option Addr) (c : Nat) (A2 : Option Addr) (n c2 : Nat) (W : World) (hv : Rd W (.slice A (m + 1) c) (outs k (m + 1) (marks 0 (m + 1)))) (n2 : m + 1 ≤ 10) (k1 : 1 ≤ k) (k2 : k ≤ 12)
    (hu : RdC W (.slice A2 n c2) ps) (hn : ps.length = n) (hm : n ≤ 1000000) (hg : ps.all cluB = true) (b : Bool) (hb : fitA ps (m + 1) k = b) :
    Calls Try.prog 60 #[.agg #[.int .i64 ((m : Int) + 1), .int .i64 k, .slice A (m + 1) c], .slice A2 n c2] W fun e w' => e = .returned (.bool b) ∧ Kp Nw W w' := by
  obtain ⟨A', c', hA', hA⟩ := hu
  rw [hn] at hA'
  injection hA' with e1 e2 e3
  subst e1
  have HA := Lib.hid hA
  have HN := Lib.hid hn
  have HB := Lib.hid hb
  have HV := Lib.hid hv
  have HX := Lib.hid (OwnV.new W (.int .i64 ((m : Int) + 1)) (.int .i64 k) (.slice A (m + 1) c) 63)
  have n0 : (0 : Int) ≤ n := Int.natCast_nonneg _
  have HGD : Hid (∀ j, j < n → cluB (ps.getD j (0, 0, 0)) = true) := Lib.hid (fun j hj => by
    have := List.all_eq_true.1 hg (ps[j]'(by omega)) (List.getElem_mem _)
    have e : ps.getD j (0, 0, 0) = ps[j]'(by omega) := by simp [List.getD, show j < ps.length by omega]
    rw [e]; exact this)
  clear hA hn hg e2 e3 hb hv
  go_enter Try.func60, Try.ntmps60
  go_wp2
  go_loopw [9] (fun i wy => ∃ (j : Nat) (wr : World), j ≤ n ∧ i = .int .i64 j ∧ wr = wy ∧ ((ps.take j).all fun c => fitB c (m + 1) k) = true ∧ Hid (OwnV wr W.heap.size (.int .i64 ((m : Int) + 1)) (.int .i64 k) (.slice A (m + 1) c)) ∧ Hid (Kp Nw W wr)) (fun i _ => n - (intOf i).toNat)
  case atStart => exact ⟨0, _, Nat.zero_le _, rfl, rfl, rfl, HX, Lib.hid (Kp.al _ _)⟩
  case round =>
    obtain ⟨j, wr, hj, rfl, rfl, ha, HO, HK⟩ := hrel
    have j0 : (0 : Int) ≤ j := Int.natCast_nonneg _
    by_cases hlt : j < n
    · have hl' : j < ps.length := by rw [HN.out]; exact hlt
      obtain ⟨g, o, rfl, hc⟩ := HA.out j hl'
      have hcl := HGD.out j hlt
      obtain ⟨p, hp⟩ : ∃ p, ps.getD j (0, 0, 0) = p := ⟨_, rfl⟩
      rw [hp] at hc hcl
      have hx : ps[j] = p := by rw [← hp]; simp [hl']
      obtain ⟨a0, a1, a2⟩ := hc.kp HK.out (fun h => h)
      have j1 : (j : Int) < n := by omega
      have kb : Kp Nw wr (wr.alloc (.cells #[.int .i64 p.1, .int .i64 p.2.1, .int .i64 p.2.2] 49)) := .al _ _
      obtain ⟨⟨o0, o1, o2⟩, _⟩ := HO.out.kp kb (fun h => h)
      obtain ⟨r, hr⟩ : ∃ r, fitB p (m + 1) k = r := ⟨_, rfl⟩
      have HF := Lib.hid (fits_any p m k A c _ (HV.out.nw' (HK.out.nw kb)) n2 k1 k2 hcl r hr)
      cases r
      · have HE : Hid (b = false) := Lib.hid (by
          rw [← HB.out]
          unfold fitA
          rw [List.all_eq_false]
          exact ⟨ps[j], List.getElem_mem _, by rw [hx, hr]; simp⟩)
        clear hc hp hx hl' ha hr hcl
        go_wp2_with fail
        refine HF.out.mono ?_
        rintro e w5 ⟨rfl, hk5⟩
        have HK5 := Lib.hid ((HK.out.nw kb).nw hk5)
        clear hk5
        go_wp2
        go_ret
        exact ⟨ret_bool HE.out.symm, HK5.out⟩
      · have HA1 : Hid (((ps.take (j + 1)).all fun c => fitB c (m + 1) k) = true) := Lib.hid (by rw [List.take_succ_eq_append_getElem hl', List.all_append, ha, hx]; simp [hr])
        clear hc hp hx hl' ha hr hcl
        go_wp2_with fail
        refine HF.out.mono ?_
        rintro e w5 ⟨rfl, hk5⟩
        have HK5 := Lib.hid ((HK.out.nw kb).nw hk5)
        have HO5 := Lib.hid ((HO.out.kp kb (fun h => h)).kp hk5 (fun h => h))
        clear hk5
        go_wp2
        go_roundw
        case rel => exact ⟨j + 1, _, by omega, by go_num, rfl, HA1.out, HO5, HK5⟩
        case measure => simp [intOf]; omega
    · have e : j = n := by omega
      subst e
      have HE : Hid (b = true) := Lib.hid (by
        rw [List.take_of_length_le (by rw [HN.out]; exact Nat.le_refl _)] at ha
        rw [← HB.out]
        exact ha)
      clear ha
      go_wp2
      go_ret
      exact ⟨ret_bool HE.out.symm, HK.out⟩
end Go.Proofs.Ytcfghaeogbimeae
