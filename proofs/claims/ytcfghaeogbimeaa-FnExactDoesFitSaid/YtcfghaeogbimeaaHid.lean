/- The program's hidden circles: what one has in place of what a clue says (tell), whether it fits a clue; no condition but that people and step are few. -/
import Derived.Test.YtcfghaeogbimeaaIClu
import Derived.Test.YtcfghaeogbimeaaPzD
import Derived.Test.YtcfghaeogbimeaaOutN
import Derived.Deep.RegionLaw
namespace Go.Proofs.Ytcfghaeogbimeaa
open Go.ChangeShapes Go.WideShapes Go.ChangeAt Go.RowKit

/-- three values in a block of the call's own -/
def OwnV (w : World) (b : Nat) (x y z : Value) : Prop := (w.cell? ⟨b, 0, none⟩ = some x ∧ w.cell? ⟨b, 1, none⟩ = some y ∧ w.cell? ⟨b, 2, none⟩ = some z) ∧ w.frozen? ⟨b, 0, none⟩ = false ∧ w.frozen? ⟨b, 1, none⟩ = false ∧ w.frozen? ⟨b, 2, none⟩ = false
theorem OwnV.new (w : World) (x y z : Value) (t : TypeId) : OwnV (w.alloc (.cells #[x, y, z] t)) w.heap.size x y z := by
  refine ⟨⟨?_, ?_, ?_⟩, ?_, ?_, ?_⟩ <;> simp [World.cell?_alloc_at, World.frozen?_alloc_at]
theorem OwnV.kp {w w' : World} {b : Nat} {x y z : Value} {S : Nat → Prop} (h : OwnV w b x y z) (hk : Kp S w w') (hs : ¬ S b) : OwnV w' b x y z := by
  obtain ⟨⟨h0, h1, h2⟩, f0, f1, f2⟩ := h
  have hl := World.block_lt_of_cell? w _ h0
  exact ⟨⟨keepc hk h0 hs, keepc hk h1 hs, keepc hk h2 hs⟩, frz hk hl hs f0, frz hk hl hs f1, frz hk hl hs f2⟩
theorem OwnV.put {w : World} {b : Nat} {x y z : Value} (h : OwnV w b x y z) (x' y' z' : Value) : OwnV (((w.setCell ⟨b, 0, none⟩ x').setCell ⟨b, 1, none⟩ y').setCell ⟨b, 2, none⟩ z') b x' y' z' := by
  obtain ⟨⟨h0, h1, h2⟩, f0, f1, f2⟩ := h
  have n01 : (⟨b, 0, none⟩ : Addr) ≠ ⟨b, 1, none⟩ := by simp
  have n02 : (⟨b, 0, none⟩ : Addr) ≠ ⟨b, 2, none⟩ := by simp
  have n12 : (⟨b, 1, none⟩ : Addr) ≠ ⟨b, 2, none⟩ := by simp
  refine ⟨⟨?_, ?_, ?_⟩, ?_, ?_, ?_⟩
  · rw [World.cell?_setCell_other _ _ _ _ n02.symm, World.cell?_setCell_other _ _ _ _ n01.symm]
    exact World.cell?_setCell_same _ _ _ h0
  · rw [World.cell?_setCell_other _ _ _ _ n12.symm]
    exact World.cell?_setCell_same _ _ _ ((World.cell?_setCell_other _ _ _ _ n01).trans h1)
  · exact World.cell?_setCell_same _ _ _ ((World.cell?_setCell_other _ _ _ _ n12).trans ((World.cell?_setCell_other _ _ _ _ n02).trans h2))
  · rw [World.frozen?_setCell, World.frozen?_setCell, World.frozen?_setCell]; exact f0
  · rw [World.frozen?_setCell, World.frozen?_setCell, World.frozen?_setCell]; exact f1
  · rw [World.frozen?_setCell, World.frozen?_setCell, World.frozen?_setCell]; exact f2

/-- the last and the first one of an order -/
theorem hid_last (k : Int) (m : Nat) : (outs k (m + 1) (marks 0 (m + 1))).getD m 0 = lastN k m := by
  have h := out_outs k 0 m (marks 0 (m + 1)) (m + 1) (by rw [marks_length]; omega) (by omega)
  rw [h, outN_last]
  have hb := lastN_bd k m
  rw [marks_getD 0 (m + 1) _ (by omega)]
  omega
theorem hid_first (k : Int) (m : Nat) : (outs k (m + 1) (marks 0 (m + 1))).getD 0 0 = (k - 1) % ((m + 1 : Nat) : Int) := by
  have h := out_outs k m 0 (marks 0 (m + 1)) (m + 1) (by rw [marks_length]) (by omega)
  rw [h]
  have h1 := Int.emod_nonneg (k - 1) (b := (m : Int) + 1) (by omega)
  have h2 := Int.emod_lt_of_pos (k - 1) (b := (m : Int) + 1) (by omega)
  have e : outN k m 0 = (k - 1) % ((m : Int) + 1) := rfl
  rw [e, marks_getD 0 (m + 1) _ (by omega)]
  push_cast
  omega

/-- a clue with what the circle has in place of what it says -/
def tellC (p : Cu) (n : Nat) (k : Int) : Cu :=
  if p.1 = 0 then (p.1, p.2.1, (n : Int) % p.2.1)
  else if p.1 = 1 then (p.1, p.2.1, k % p.2.1)
  else if p.1 = 2 then (p.1, lastN k (n - 1), p.2.2)
  else if p.1 = 3 then (p.1, (k - 1) % (n : Int), p.2.2)
  else if p.1 = 4 then (p.1, p.2.1, fndD p.2.1 (outs k n (marks 0 n)) 0)
  else (p.1, min p.2.1 n, p.2.2)
theorem fit_tell (p : Cu) (n : Nat) (k : Int) (h : cluB p = true) : fitB p n k = decide (tellC p n k = p) := by
  obtain ⟨q, a, b⟩ := p
  rcases clu_kind h with ⟨rfl, a1, a2⟩ | ⟨rfl, a1, a2⟩ | ⟨rfl, a1, a2⟩ | ⟨rfl, a1, a2⟩ | ⟨rfl, a1, a2⟩ | ⟨rfl, a1, a2⟩ <;> simp [fitB, tellC]
  omega

set_option maxRecDepth 100000 in
set_option maxHeartbeats 3200000 in
theorem hiddenOf_any (n : Nat) (k : Int) (W : World) (n1 : 1 ≤ n) (n2 : n ≤ 10) (k1 : 1 ≤ k) (k2 : k ≤ 12) :
    Calls Try.prog 26 #[.int .i64 n, .int .i64 k] W fun e w' => ∃ v, e = .returned (.agg #[.int .i64 n, .int .i64 k, v]) ∧ Sl w' W.heap.size v (outs k n (marks 0 n)) ∧ Kp Nw W w' := by
  have hask : Asked n k := ⟨by omega, by omega, by omega, by omega⟩
  have O1 := Lib.hid (OwnV.new W (.int .i64 0) (.int .i64 0) (.slice none 0 0) 52)
  go_enter Try.func26, Try.ntmps26
  go_wp2_with fail
  refine (orderOfAll_any n k _ hask).mono ?_
  rintro e w1 ⟨G, rfl, hP, hk1, hG⟩
  have HP := Lib.hid hP
  have HK1 := Lib.hid hk1
  clear hP hk1
  go_wp2_with fail
  refine (numbersOf_any ⟨G, 0, none⟩ n n (ordP k (marks 0 n)) _ HP.out.rdp (by rw [ordP_length, marks_length]) (by omega)).mono ?_
  rintro e w2 ⟨v, rfl, hs, hk2⟩
  rw [ordP_snd, marks_length] at hs
  obtain ⟨A, c, rfl⟩ := hs.val (n := n) (outs_length _ _ _)
  have hr := O1.out.kp (HK1.out.nw hk2) (fun h => h)
  have hz : (W.alloc (.cells #[.int .i64 0, .int .i64 0, .slice none 0 0] 52)).heap.size ≤ w1.heap.size := HK1.out.size
  have HZ := Lib.hid hz
  have hso := hs.own_ge
  have z := hr.put (.int .i64 n) (.int .i64 k) (.slice A n c)
  have kS : Kp (fun b => b = W.heap.size) w2 (((w2.setCell ⟨W.heap.size, 0, none⟩ (.int .i64 n)).setCell ⟨W.heap.size, 1, none⟩ (.int .i64 k)).setCell ⟨W.heap.size, 2, none⟩ (.slice A n c)) := (((Kp.refl (fun b => b = W.heap.size) w2).setCell (p := ⟨W.heap.size, 0, none⟩) (.inl rfl) (.int .i64 n)).setCell (p := ⟨W.heap.size, 1, none⟩) (.inl rfl) (.int .i64 k)).setCell (p := ⟨W.heap.size, 2, none⟩) (.inl rfl) (.slice A n c)
  have HS := Lib.hid ((hs.kp kS (fun g hg e => by have := (hso g hg).1; rw [World.size_alloc] at hz; omega)).from (B' := W.heap.size) (by rw [World.size_alloc] at hz; omega))
  have HK := Lib.hid ((((Kp.al W _).nw HK1.out).nw hk2).after kS (fun g hg e => by omega))
  obtain ⟨⟨r0, r1, r2⟩, f0, f1, f2⟩ := hr
  obtain ⟨⟨z0, z1, z2⟩, _⟩ := z
  clear hs hk2 hz hso kS
  go_wp2
  exact bodyPost_ret (v := .agg #[.int .i64 n, .int .i64 k, .slice A n c]) (by simp [results, Try.results26, go_sem, z0, z1, z2]) rfl ⟨_, rfl, HS.out, HK.out⟩

set_option maxRecDepth 100000 in
set_option maxHeartbeats 6400000 in
theorem tell_any (p : Cu) (m : Nat) (k : Int) (A : Option Addr) (c : Nat) (W : World) (hv : Rd W (.slice A (m + 1) c) (outs k (m + 1) (marks 0 (m + 1)))) (n2 : m + 1 ≤ 10) (k1 : 1 ≤ k) (k2 : k ≤ 12) (q0 : 0 ≤ p.1) (q5 : p.1 ≤ 5) (qa : p.1 ≤ 1 → 2 ≤ p.2.1 ∧ p.2.1 ≤ 5) :
    Calls Try.prog 38 #[.agg #[.int .i64 ((m : Int) + 1), .int .i64 k, .slice A (m + 1) c], .agg #[.int .i64 p.1, .int .i64 p.2.1, .int .i64 p.2.2]] W fun e w' => e = .returned (.agg #[.int .i64 (tellC p (m + 1) k).1, .int .i64 (tellC p (m + 1) k).2.1, .int .i64 (tellC p (m + 1) k).2.2]) ∧ Kp Nw W w' := by
  obtain ⟨q, a, b⟩ := p
  simp only at q0 q5 qa ⊢
  obtain ⟨t, ht⟩ : ∃ t, tellC (q, a, b) (m + 1) k = t := ⟨_, rfl⟩
  rw [ht]
  have HU := Lib.hid hv
  have hq : q = 0 ∨ q = 1 ∨ q = 2 ∨ q = 3 ∨ q = 4 ∨ q = 5 := by omega
  have kA : Kp Nw W (((W.alloc (.cells #[.int .i64 ((m : Int) + 1), .int .i64 k, .slice A (m + 1) c] 52)).alloc (.cells #[.int .i64 q, .int .i64 a, .int .i64 b] 25)).alloc (.cells #[.int .i64 0, .int .i64 0, .int .i64 0] 25)) := ((Kp.al W _).nw (.al _ _)).nw (.al _ _)
  have KA := Lib.hid kA
  obtain ⟨A', c', hA', hcell⟩ := hv.nw' kA
  rw [outs_length] at hA' hcell
  injection hA' with e1 e2 e3
  subst e1
  have HCELL := Lib.hid hcell
  have hm0 : (0 : Int) ≤ m := Int.natCast_nonneg _
  clear hv kA hcell e2 e3
  rcases hq with rfl | rfl | rfl | rfl | rfl | rfl
  · obtain ⟨r, hr⟩ : ∃ r, ((m : Int) + 1) % a = r := ⟨_, rfl⟩
    have HT : Hid (t = (0, a, r)) := Lib.hid (by rw [← ht, ← hr]; simp [tellC])
    rw [HT.out]
    show Calls _ _ _ _ fun e w' => e = .returned (.agg #[.int .i64 0, .int .i64 a, .int .i64 r]) ∧ _
    clear ht
    obtain ⟨ya, yb⟩ := qa (by omega)
    have r1 : 0 ≤ r := by rw [← hr]; exact Int.emod_nonneg _ (by omega)
    have r2 : r ≤ 12 := by rw [← hr]; have := Int.emod_lt_of_pos (((m : Int) + 1)) (show 0 < a by omega); omega
    have r3 : (((m : Int) + 1)).tmod a = r := by rw [Int.tmod_eq_emod_of_nonneg (by omega)]; exact hr
    have r4 : IntKind.i64.wrap r = r := IntWalk.i64_in _ (by omega)
    have r5 : ¬ a = 0 := by omega
    have r6 : (a == 0) = false := by simpa using r5
    clear hr
    go_enter Try.func38, Try.ntmps38
    go_wp2
    refine bodyPost_ret (v := .agg #[.int .i64 0, .int .i64 a, .int .i64 r]) (by simp [results, Try.results38, go_sem]) rfl ⟨rfl, ?_⟩
    exact ((Kp.al W _).nw (.al _ _)).nw (.al _ _)
  · obtain ⟨r, hr⟩ : ∃ r, k % a = r := ⟨_, rfl⟩
    have HT : Hid (t = (1, a, r)) := Lib.hid (by rw [← ht, ← hr]; simp [tellC])
    rw [HT.out]
    show Calls _ _ _ _ fun e w' => e = .returned (.agg #[.int .i64 1, .int .i64 a, .int .i64 r]) ∧ _
    clear ht
    obtain ⟨ya, yb⟩ := qa (by omega)
    have r1 : 0 ≤ r := by rw [← hr]; exact Int.emod_nonneg _ (by omega)
    have r2 : r ≤ 12 := by rw [← hr]; have := Int.emod_lt_of_pos (k) (show 0 < a by omega); omega
    have r3 : (k).tmod a = r := by rw [Int.tmod_eq_emod_of_nonneg (by omega)]; exact hr
    have r4 : IntKind.i64.wrap r = r := IntWalk.i64_in _ (by omega)
    have r5 : ¬ a = 0 := by omega
    have r6 : (a == 0) = false := by simpa using r5
    clear hr
    go_enter Try.func38, Try.ntmps38
    go_wp2
    refine bodyPost_ret (v := .agg #[.int .i64 1, .int .i64 a, .int .i64 r]) (by simp [results, Try.results38, go_sem]) rfl ⟨rfl, ?_⟩
    exact ((Kp.al W _).nw (.al _ _)).nw (.al _ _)
  · obtain ⟨r, hr⟩ : ∃ r, lastN k m = r := ⟨_, rfl⟩
    have HT : Hid (t = (2, r, b)) := Lib.hid (by rw [← ht, ← hr]; simp [tellC])
    rw [HT.out]
    show Calls _ _ _ _ fun e w' => e = .returned (.agg #[.int .i64 2, .int .i64 r, .int .i64 b]) ∧ _
    clear ht
    obtain ⟨g, o, rfl, hc⟩ := HCELL.out m (by omega)
    rw [hid_last, hr] at hc
    have q1 : IntKind.i64.wrap ((m : Int) + 1 - 1) = (m : Int) := by rw [show (m : Int) + 1 - 1 = (m : Int) by omega]; exact IntWalk.i64_in _ (by omega)
    have q3 : IntKind.i64.wrap (m : Int) = (m : Int) := IntWalk.i64_in _ (by omega)
    have q2 : (m : Int) < ((m : Int) + 1) := by omega
    clear hr
    go_enter Try.func38, Try.ntmps38
    go_wp2
    refine bodyPost_ret (v := .agg #[.int .i64 2, .int .i64 r, .int .i64 b]) (by simp [results, Try.results38, go_sem]) rfl ⟨rfl, ?_⟩
    exact ((Kp.al W _).nw (.al _ _)).nw (.al _ _)
  · obtain ⟨r, hr⟩ : ∃ r, (k - 1) % ((m : Int) + 1) = r := ⟨_, rfl⟩
    have HT : Hid (t = (3, r, b)) := Lib.hid (by rw [← ht, ← hr]; simp [tellC])
    rw [HT.out]
    show Calls _ _ _ _ fun e w' => e = .returned (.agg #[.int .i64 3, .int .i64 r, .int .i64 b]) ∧ _
    clear ht
    obtain ⟨g, o, rfl, hc⟩ := HCELL.out 0 (by omega)
    rw [hid_first] at hc
    push_cast at hc
    rw [hr] at hc
    simp only [Nat.add_zero] at hc
    have q2 : (0 : Int) < ((m : Int) + 1) := by omega
    clear hr
    go_enter Try.func38, Try.ntmps38
    go_wp2
    refine bodyPost_ret (v := .agg #[.int .i64 3, .int .i64 r, .int .i64 b]) (by simp [results, Try.results38, go_sem]) rfl ⟨rfl, ?_⟩
    exact ((Kp.al W _).nw (.al _ _)).nw (.al _ _)
  · obtain ⟨r, hr⟩ : ∃ r, fndD a (outs k (m + 1) (marks 0 (m + 1))) 0 = r := ⟨_, rfl⟩
    have HT : Hid (t = (4, a, r)) := Lib.hid (by rw [← ht, ← hr]; simp [tellC])
    rw [HT.out]
    show Calls _ _ _ _ fun e w' => e = .returned (.agg #[.int .i64 4, .int .i64 a, .int .i64 r]) ∧ _
    clear ht
    go_enter Try.func38, Try.ntmps38
    go_wp2_with fail
    refine (index_any _ (outs k (m + 1) (marks 0 (m + 1))) a _ (HU.out.nw' KA.out) (by rw [outs_length]; omega)).mono ?_
    rw [hr]
    rintro e w1 ⟨rfl, rfl⟩
    clear hr
    go_wp2
    refine bodyPost_ret (v := .agg #[.int .i64 4, .int .i64 a, .int .i64 r]) (by simp [results, Try.results38, go_sem]) rfl ⟨rfl, ?_⟩
    exact ((Kp.al W _).nw (.al _ _)).nw (.al _ _)
  · obtain ⟨r, hr⟩ : ∃ r, min a ((m : Int) + 1) = r := ⟨_, rfl⟩
    have HT : Hid (t = (5, r, b)) := Lib.hid (by rw [← ht, ← hr]; simp [tellC])
    rw [HT.out]
    show Calls _ _ _ _ fun e w' => e = .returned (.agg #[.int .i64 5, .int .i64 r, .int .i64 b]) ∧ _
    clear ht
    have HR := Lib.hid hr
    clear hr
    go_enter Try.func38, Try.ntmps38
    go_wp2
    all_goals
      refine bodyPost_ret (v := .agg #[.int .i64 5, .int .i64 r, .int .i64 b]) (by simp [results, Try.results38, go_sem]; try (rw [← HR.out]; omega)) rfl ⟨rfl, ?_⟩
      exact ((Kp.al W _).nw (.al _ _)).nw (.al _ _)

set_option maxRecDepth 100000 in
set_option maxHeartbeats 3200000 in
theorem fits_any (p : Cu) (m : Nat) (k : Int) (A : Option Addr) (c : Nat) (W : World) (hv : Rd W (.slice A (m + 1) c) (outs k (m + 1) (marks 0 (m + 1)))) (n2 : m + 1 ≤ 10) (k1 : 1 ≤ k) (k2 : k ≤ 12) (hp : cluB p = true) (r : Bool) (hr : fitB p (m + 1) k = r) :
    Calls Try.prog 27 #[.agg #[.int .i64 ((m : Int) + 1), .int .i64 k, .slice A (m + 1) c], .agg #[.int .i64 p.1, .int .i64 p.2.1, .int .i64 p.2.2]] W fun e w' => e = .returned (.bool r) ∧ Kp Nw W w' := by
  have kA : Kp Nw W ((W.alloc (.cells #[.int .i64 ((m : Int) + 1), .int .i64 k, .slice A (m + 1) c] 52)).alloc (.cells #[.int .i64 p.1, .int .i64 p.2.1, .int .i64 p.2.2] 25)) := (Kp.al W _).nw (.al _ _)
  have HT := Lib.hid (fun w (hk : Kp Nw ((W.alloc (.cells #[.int .i64 ((m : Int) + 1), .int .i64 k, .slice A (m + 1) c] 52)).alloc (.cells #[.int .i64 p.1, .int .i64 p.2.1, .int .i64 p.2.2] 25)) w) => tell_any p m k A c w (hv.nw' (kA.nw hk)) n2 k1 k2 (by
    obtain ⟨q, a, b⟩ := p
    rcases clu_kind hp with ⟨rfl, _⟩ | ⟨rfl, _⟩ | ⟨rfl, _⟩ | ⟨rfl, _⟩ | ⟨rfl, _⟩ | ⟨rfl, _⟩ <;> simp) (by
    obtain ⟨q, a, b⟩ := p
    rcases clu_kind hp with ⟨rfl, _⟩ | ⟨rfl, _⟩ | ⟨rfl, _⟩ | ⟨rfl, _⟩ | ⟨rfl, _⟩ | ⟨rfl, _⟩ <;> simp) (by
    obtain ⟨q, a, b⟩ := p
    rcases clu_kind hp with ⟨rfl, h⟩ | ⟨rfl, h⟩ | ⟨rfl, _⟩ | ⟨rfl, _⟩ | ⟨rfl, _⟩ | ⟨rfl, _⟩ <;> first | exact fun _ => h | (intro h; simp at h)))
  have HO := Lib.hid (fun w (hk : Kp Nw ((W.alloc (.cells #[.int .i64 ((m : Int) + 1), .int .i64 k, .slice A (m + 1) c] 52)).alloc (.cells #[.int .i64 p.1, .int .i64 p.2.1, .int .i64 p.2.2] 25)) w) => (Own3.new (W.alloc (.cells #[.int .i64 ((m : Int) + 1), .int .i64 k, .slice A (m + 1) c] 52)) p 25).kp hk (fun h => h))
  rw [fit_tell p _ _ hp] at hr
  obtain ⟨⟨t0, t1, t2⟩, ht⟩ : ∃ t, tellC p (m + 1) k = t := ⟨_, rfl⟩
  rw [ht] at HT hr
  have HR := Lib.hid hr
  obtain ⟨q, a, b⟩ := p
  simp only [World.size_alloc] at HT HO HR ⊢
  have HA := Lib.hid kA
  clear ht hr hv hp kA
  by_cases h0 : q = t0
  · subst h0
    by_cases h1 : a = t1
    · subst h1
      by_cases h2 : b = t2
      · subst h2
        have HR2 : Hid (r = true) := Lib.hid (by rw [← HR.out]; simp)
        clear HR
        go_enter Try.func27, Try.ntmps27
        go_wp2_with fail
        first
        | (go_region_law (first
          | (go_simp
             go_at_call 38
             refine (HT.out _ (by first | exact (Kp.refl Nw _).drew | exact (Kp.refl Nw _))).mono ?_
             rintro e w1 ⟨rfl, hk1⟩
             have kW : Kp Nw ((W.alloc (.cells #[.int .i64 ((m : Int) + 1), .int .i64 k, .slice A (m + 1) c] 52)).alloc (.cells #[.int .i64 q, .int .i64 a, .int .i64 b] 25)) w1 := Kp.nw (by first | exact (Kp.refl Nw _).drew | exact (Kp.refl Nw _)) hk1
             obtain ⟨⟨b0, b1, b2⟩, _⟩ := HO.out w1 kW)
          | fail))
        | trivial
        all_goals
          have HK1 := Lib.hid (HA.out.nw kW)
          clear kW hk1 b0 b1 b2
          go_wp2
          go_ret
          exact ⟨ret_bool HR2.out.symm, HK1.out⟩
      · have h2 : ¬ t2 = b := fun e => h2 e.symm
        have g2 : (t2 == b) = false := by simpa using h2
        have HR2 : Hid (r = false) := Lib.hid (by rw [← HR.out]; simp [h2])
        clear HR
        go_enter Try.func27, Try.ntmps27
        go_wp2_with fail
        first
        | (go_region_law (first
          | (go_simp
             go_at_call 38
             refine (HT.out _ (by first | exact (Kp.refl Nw _).drew | exact (Kp.refl Nw _))).mono ?_
             rintro e w1 ⟨rfl, hk1⟩
             have kW : Kp Nw ((W.alloc (.cells #[.int .i64 ((m : Int) + 1), .int .i64 k, .slice A (m + 1) c] 52)).alloc (.cells #[.int .i64 q, .int .i64 a, .int .i64 b] 25)) w1 := Kp.nw (by first | exact (Kp.refl Nw _).drew | exact (Kp.refl Nw _)) hk1
             obtain ⟨⟨b0, b1, b2⟩, _⟩ := HO.out w1 kW)
          | fail))
        | trivial
        all_goals
          have HK1 := Lib.hid (HA.out.nw kW)
          clear kW hk1 b0 b1 b2
          go_wp2
          go_ret
          exact ⟨ret_bool HR2.out.symm, HK1.out⟩
    · have h1 : ¬ t1 = a := fun e => h1 e.symm
      have g1 : (t1 == a) = false := by simpa using h1
      have HR2 : Hid (r = false) := Lib.hid (by rw [← HR.out]; simp [h1])
      clear HR
      go_enter Try.func27, Try.ntmps27
      go_wp2_with fail
      first
      | (go_region_law (first
        | (go_simp
           go_at_call 38
           refine (HT.out _ (by first | exact (Kp.refl Nw _).drew | exact (Kp.refl Nw _))).mono ?_
           rintro e w1 ⟨rfl, hk1⟩
           have kW : Kp Nw ((W.alloc (.cells #[.int .i64 ((m : Int) + 1), .int .i64 k, .slice A (m + 1) c] 52)).alloc (.cells #[.int .i64 q, .int .i64 a, .int .i64 b] 25)) w1 := Kp.nw (by first | exact (Kp.refl Nw _).drew | exact (Kp.refl Nw _)) hk1
           obtain ⟨⟨b0, b1, b2⟩, _⟩ := HO.out w1 kW)
        | fail))
      | trivial
      all_goals
        have HK1 := Lib.hid (HA.out.nw kW)
        clear kW hk1 b0 b1 b2
        go_wp2
        go_ret
        exact ⟨ret_bool HR2.out.symm, HK1.out⟩
  · have h0 : ¬ t0 = q := fun e => h0 e.symm
    have g0 : (t0 == q) = false := by simpa using h0
    have HR2 : Hid (r = false) := Lib.hid (by rw [← HR.out]; simp [h0])
    clear HR
    go_enter Try.func27, Try.ntmps27
    go_wp2_with fail
    first
    | (go_region_law (first
      | (go_simp
         go_at_call 38
         refine (HT.out _ (by first | exact (Kp.refl Nw _).drew | exact (Kp.refl Nw _))).mono ?_
         rintro e w1 ⟨rfl, hk1⟩
         have kW : Kp Nw ((W.alloc (.cells #[.int .i64 ((m : Int) + 1), .int .i64 k, .slice A (m + 1) c] 52)).alloc (.cells #[.int .i64 q, .int .i64 a, .int .i64 b] 25)) w1 := Kp.nw (by first | exact (Kp.refl Nw _).drew | exact (Kp.refl Nw _)) hk1
         obtain ⟨⟨b0, b1, b2⟩, _⟩ := HO.out w1 kW)
      | fail))
    | trivial
    all_goals
      have HK1 := Lib.hid (HA.out.nw kW)
      clear kW hk1 b0 b1 b2
      go_wp2
      go_ret
      exact ⟨ret_bool HR2.out.symm, HK1.out⟩
end Go.Proofs.Ytcfghaeogbimeaa
