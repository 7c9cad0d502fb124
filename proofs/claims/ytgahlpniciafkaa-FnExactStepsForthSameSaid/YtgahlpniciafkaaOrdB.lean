/- The order of a count forth and back in the program: the model's list; no condition but that there are at most two hundred people and the steps are those of the chapter. -/
import Derived.Test.YtgahlpniciafkaaTw
import Derived.ScopeJumps
import Derived.Laws.EntriesVeiled
namespace Go.Proofs.Ytgahlpniciafkaa
open Go.ChangeShapes Go.WideShapes Go.ChangeAt Go.RowKit

/-- a scope with one label, jumped back to: what holds at the label is walked on from once -/
theorem wp_scope_jumps' {P : Program} {a : Act} {w : World} {Q : Exit → Act → World → Prop} {c : Code} (l : Nat) (J : Act → World → Prop) (μ : Act → World → Nat)
    (h : ∃ rest, findLabel c l = some (Code.skip.seq rest) ∧ ∀ a w, J a w → rest.wp P (Exit.jump l (fun a' w' => J a' w' ∧ μ a' w' < μ a w) Q) a w)
    (first : (∀ rest, findLabel c l = some (Code.skip.seq rest) → ∀ a w, J a w → rest.wp P (Exit.jump l J Q) a w) → c.wp P (Exit.jump l J Q) a w) : (Code.scope c).wp P Q a w := by
  obtain ⟨rest, hf, pass⟩ := h
  refine wp_scope_jumps l J μ hf (first ?_) (fun a w hJ => wp_seq (wp_skip (pass a w hJ)))
  intro r hr a w hJ
  rw [hf] at hr
  cases hr
  refine wp_mono (pass a w hJ) (fun e a w q => ?_)
  cases e with
  | goto l' => exact ⟨q.1, q.2.1⟩
  | _ => exact q


/-- a block, whole -/
def Bt (w : World) (g : Nat) (t : TypeId) (cs : List Value) : Prop := w.heap[g]? = some (.cells cs.toArray t (0, 0))
theorem Bt.cell {w : World} {g : Nat} {t : TypeId} {cs : List Value} (h : Bt w g t cs) (i : Nat) : w.cell? ⟨g, i, none⟩ = cs[i]? := by
  rw [cell_of_row w g i _ _ (0, 0) h]; simp
theorem Bt.frozen {w : World} {g : Nat} {t : TypeId} {cs : List Value} (h : Bt w g t cs) (i : Nat) : w.frozen? ⟨g, i, none⟩ = false := by
  have h' : w.heap[g]? = some (.cells cs.toArray t (0, 0)) := h
  simp [World.frozen?, h']
theorem Bt.lt {w : World} {g : Nat} {t : TypeId} {cs : List Value} (h : Bt w g t cs) : g < w.heap.size := (Array.getElem?_eq_some_iff.1 h).1
theorem Bt.kp {w w' : World} {g : Nat} {t : TypeId} {cs : List Value} {S : Nat → Prop} (h : Bt w g t cs) (hk : Kp S w w') (hs : ¬ S g) : Bt w' g t cs := (hk.block g h.lt hs).trans h
theorem Bt.new (w : World) (t : TypeId) (cs : List Value) : Bt (w.alloc (.cells cs.toArray t)) w.heap.size t cs := heap_alloc_new w _
theorem Bt.set {w : World} {g : Nat} {t : TypeId} {cs : List Value} (h : Bt w g t cs) (i : Nat) (x : Value) : Bt (w.setCell ⟨g, i, none⟩ x) g t (cs.set i x) := by
  have := heap_setCell_same w g i cs.toArray t x h
  unfold Bt
  rw [this]
  simp
theorem Bt.set2 {w : World} {g : Nat} {t : TypeId} {a b : Value} (h : Bt w g t [a, b]) (x y : Value) : Bt ((w.setCell ⟨g, 0, none⟩ x).setCell ⟨g, 1, none⟩ y) g t [x, y] := (h.set 0 x).set 1 y
theorem Bt.other {w : World} {g : Nat} {t : TypeId} {cs : List Value} (h : Bt w g t cs) (a : Addr) (hne : g ≠ a.block) (u : Value) : Bt (w.setCell a u) g t cs := (heap_setCell_other w a g u hne).trans h

theorem person_number (a b : Int) : ∀ w : World, (Instr.field 48 (.agg #[.int .i64 a, .int .i64 b]) 1).run Try.prog w = .ok (.int .i64 b) w := fun _ => by kernel_rfl

/-- how a turn counts -/
def tOut (j : Nat) : Value := if j % 2 = 0 then .func (.func 59) #[] #[] else .func (.func 60) #[] #[]
def tNow (f b : Int) (j : Nat) : List Value := [.int .i64 (stp f b j), tOut j]
theorem stp_two (f b : Int) (j : Nat) : stp f b (j + 2) = stp f b j := by unfold stp; rw [Nat.add_mod_right]
theorem tOut_two (j : Nat) : tOut (j + 2) = tOut j := by unfold tOut; rw [Nat.add_mod_right]
theorem tNow_two (f b : Int) (j : Nat) : tNow f b (j + 2) = tNow f b j := by unfold tNow; rw [stp_two, tOut_two]

/-- what holds ahead of turn j -/
def OrJ (n : Nat) (f b : Int) (W : World) (a : Act) (w : World) : Prop :=
  ∃ (j C L N T B : Nat) (k : Int) (r u11 u12 u13 u14 u15 u16 u17 u18 u19 u20 u21 u22 u23 u24 u25 u26 u27 u28 u29 u30 u31 u32 u33 u34 u35 u36 u37 u38 u39 u40 : Value), a = { tmps := #[.int .i64 n, .int .i64 f, .int .i64 b, undef, undef, undef, .slice none 0 0, .pointer (some ⟨C, 0, none⟩), .pointer (some ⟨N, 0, none⟩), .pointer (some ⟨T, 0, none⟩), r, u11, u12, u13, u14, u15, u16, u17, u18, u19, u20, u21, u22, u23, u24, u25, u26, u27, u28, u29, u30, u31, u32, u33, u34, u35, u36, u37, u38, u39, u40], defers := [] } ∧
    j < n ∧ Tw f b (num (marks 0 n)) C L n k w j ∧ Sl w B r (boT f b (marks 0 n) j) ∧ Bt w N 55 (tNow f b j) ∧ Bt w T 55 (tNow f b (j + 1)) ∧ (W.heap.size ≤ C ∧ W.heap.size ≤ L ∧ W.heap.size ≤ N ∧ W.heap.size ≤ T) ∧ (C < B ∧ L < B ∧ N < B ∧ T < B) ∧ (C ≠ N ∧ C ≠ T ∧ L ≠ N ∧ L ≠ T ∧ N ≠ T) ∧ B ≤ w.heap.size ∧ Kp Nw W w

set_option maxRecDepth 1000000 in
set_option maxHeartbeats 6400000 in
theorem orderForthAndBack_any (n : Nat) (f b : Int) (W : World) (n1 : 1 ≤ n) (n2 : n ≤ 200) (f1 : 1 ≤ f) (f2 : f ≤ 1000000) (b1 : 1 ≤ b) (b2 : b ≤ 1000000) :
    Calls Try.prog 47 #[.int .i64 n, .int .i64 f, .int .i64 b] W (Makes W (boT f b (marks 0 n) n)) := by
  go_enter Try.func47, Try.ntmps47
  go_wp2
  refine wp_scope_jumps' 0 (OrJ n f b W) (fun a _ => n - lenOf (a.tmps.getD 10 undef)) ⟨_, rfl, ?_⟩ ?_
  · rintro a w ⟨j, C, L, N, T, B, k, r, u11, u12, u13, u14, u15, u16, u17, u18, u19, u20, u21, u22, u23, u24, u25, u26, u27, u28, u29, u30, u31, u32, u33, u34, u35, u36, u37, u38, u39, u40, rfl, hj, htw, hr, hn, ht, hW, hB, hne, hBs, hk⟩
    have htl := boT_length f b (marks 0 n) j
    obtain ⟨A0, c0, rfl⟩ := hr.val htl
    have HR := Lib.hid hr
    have HTW := Lib.hid htw
    have HN := Lib.hid hn
    have HT := Lib.hid ht
    have HK := Lib.hid hk
    have HNE := Lib.hid (show (C < B ∧ L < B ∧ N < B ∧ T < B) ∧ (C ≠ N ∧ C ≠ T ∧ L ≠ N ∧ L ≠ T ∧ N ≠ T) ∧ B ≤ w.heap.size ∧ (W.heap.size ≤ C ∧ W.heap.size ≤ L ∧ W.heap.size ≤ N ∧ W.heap.size ≤ T) from ⟨hB, hne, hBs, hW⟩)
    have HTL := Lib.hid htl
    obtain ⟨x, hx⟩ : ∃ x, twW f b (num (marks 0 n)) j = x := ⟨_, rfl⟩
    have HX := Lib.hid hx
    have HBT : Hid (boT f b (marks 0 n) (j + 1) = boT f b (marks 0 n) j ++ [x.2]) := Lib.hid (by
      have h1 := boT_twW f b (num (marks 0 n)) j
      rw [num_snd, hx] at h1
      exact h1)
    obtain ⟨s, hs⟩ : ∃ s, stp f b j = s := ⟨_, rfl⟩
    have HS := Lib.hid hs
    have hsb : 1 ≤ s ∧ s ≤ 1000000 := by
      rw [← hs]
      unfold stp
      split
      · exact ⟨f1, f2⟩
      · exact ⟨b1, b2⟩
    obtain ⟨s1, s2⟩ := hsb
    have l0 : (num (marks 0 n)).length = n := by rw [num_length, marks_length]
    have HL0 := Lib.hid l0
    have cN0 : w.cell? ⟨N, 0, none⟩ = some (.int .i64 s) := by rw [hn.cell 0]; simp [tNow, hs]
    by_cases hq : j % 2 = 0
    · skip
      have ho : tOut j = .func (.func 59) #[] #[] := by unfold tOut; rw [if_pos hq]
      have HO := Lib.hid ho
      have cN1 : (w.setCell ⟨C, 3, none⟩ (.int .i64 s)).cell? ⟨N, 1, none⟩ = some (.func (.func 59) #[] #[]) := by
        rw [(hn.other ⟨C, 3, none⟩ (fun e => hne.1 e.symm) _).cell 1]; simp [tNow, ho]
      have c3 : w.cell? ⟨C, 3, none⟩ = some (.int .i64 k) := by
        obtain ⟨ps, i, q, hC, _⟩ := htw
        exact hC.cells.2.2.2
      have f3 : w.frozen? ⟨C, 3, none⟩ = false := by
        obtain ⟨ps, i, q, hC, _⟩ := htw
        exact hC.frozen 3
      have HTW1 : Hid (Tw f b (num (marks 0 n)) C L n s (w.setCell ⟨C, 3, none⟩ (.int .i64 s)) j) := Lib.hid htw.step
      have K1 : Hid (Kp (fun i => i = C) w (w.setCell ⟨C, 3, none⟩ (.int .i64 s))) := Lib.hid ((Kp.refl (fun i => i = C) w).setCell (.inl rfl) _)
      have z0 : C < w.heap.size ∧ L < w.heap.size ∧ N < w.heap.size ∧ T < w.heap.size := by omega
      have hcall := tw_forth f b _ C L n j s _ HTW1.out hq hs s1 s2 (by rw [l0]; exact hj)
      rw [hx] at hcall
      have HC := Lib.hid hcall
      have hfd := person_number x.1 x.2
      clear hcall hr htw hn ht hk hW hB hne hBs htl hx hs l0 ho
      go_wp2_with fail
      refine HC.out.mono ?_
      rintro e w2 ⟨rfl, htw2, hk2⟩
      have k2 : Kp (fun b => b = C ∨ b = L) w w2 := (K1.out.mono (fun _ _ h => .inl h)).trans hk2
      have zz : w.heap.size ≤ w2.heap.size := k2.size
      have HTW2 := Lib.hid htw2
      have HN2 := Lib.hid (HN.out.kp k2 (by have := HNE.out; omega))
      have HT2 := Lib.hid (HT.out.kp k2 (by have := HNE.out; omega))
      have HR2 := Lib.hid (HR.out.kp k2 (fun g hg h => by have := HNE.out; have := (HR.out.own_ge g hg).1; omega))
      have HK2 := Lib.hid (HK.out.after k2 (fun g hg h => by have := HNE.out; omega))
      clear htw2 hk2 k2 cN0 cN1 c3 f3
      go_wp2_with (first | (at_builtin; refine wpList_app _ rfl (.tmp 24) (.tmp 30) rfl B (.slice A0 j c0) _ (boT f b (marks 0 n) j) [x.2] rfl rfl (HR2.out.below ((Kp.refl Nw w2).alloc _).below') (Rd.one (g := w2.heap.size) (by simp)) nil_one (by rw [HTL.out]; simp; omega) (by have := HNE.out; simp; omega) ?_))
      intro r' w3 hr3 hk3 _
      have hown : ∀ g, (Value.slice A0 j c0).ownBlock = some g → B ≤ g := fun g hg => (HR2.out.own_ge g hg).1
      have k3 : Kp (fun b => (Value.slice A0 j c0).ownBlock = some b) w2 w3 := ((Kp.refl _ w2).alloc _).after hk3 (fun g _ e => e)
      have z3 : w2.heap.size ≤ w3.heap.size := k3.size
      have tw3 := HTW2.out.kp k3 (fun h => by have := HNE.out; have := hown _ h; omega) (fun h => by have := HNE.out; have := hown _ h; omega)
      have n3 := HN2.out.kp k3 (fun h => by have := HNE.out; have := hown _ h; omega)
      have t3 := HT2.out.kp k3 (fun h => by have := HNE.out; have := hown _ h; omega)
      have kk3 := HK2.out.after k3 (fun g hg h => by have := HNE.out; have := hown _ h; omega)
      obtain ⟨m, hm, c2⟩ := tw3.len
      rw [HL0.out] at hm
      rw [← HBT.out] at hr3
      obtain ⟨A3, d3, rfl⟩ := hr3.val (boT_length f b (marks 0 n) (j + 1))
      have R3 := Lib.hid hr3
      have TW3 := Lib.hid tw3
      have N3 := Lib.hid n3
      have T3 := Lib.hid t3
      have KK3 := Lib.hid kk3
      by_cases hl : j + 1 = n
      · have hm0 : m = 0 := by omega
        subst hm0
        clear hr3 hk3 hown k3 tw3 n3 t3 kk3 hm
        go_wp2
        simp only [Exit.jump]
        go_ret
        refine ⟨_, rfl, ?_, KK3.out⟩
        have R := R3.out
        rw [hl] at R
        exact R.from (by have := HNE.out; omega)
      · have m0 : (0 : Int) < (m : Int) := by omega
        have m1 : (m : Int) > 0 := m0
        have ho2 : tOut (j + 1) = .func (.func 60) #[] #[] := by unfold tOut; rw [if_neg (by omega)]
        obtain ⟨q, hqq⟩ : ∃ q, stp f b (j + 1) = q := ⟨_, rfl⟩
        have eN : tNow f b j = [.int .i64 s, .func (.func 59) #[] #[]] := by unfold tNow; rw [HS.out, HO.out]
        have eT : tNow f b (j + 1) = [.int .i64 q, (.func (.func 60) #[] #[])] := by unfold tNow; rw [ho2, hqq]
        have EN := Lib.hid eN
        have ET := Lib.hid eT
        have nT : N ≠ T := HNE.out.2.1.2.2.2.2
        rw [eN] at n3
        rw [eT] at t3
        have a0 := n3.cell 0
        have a1 := n3.cell 1
        have b0 := t3.cell 0
        have b1 := t3.cell 1
        simp only [List.getElem?_cons_zero, List.getElem?_cons_succ] at a0 a1 b0 b1
        have n4 := n3.set2 (.int .i64 q) (.func (.func 60) #[] #[])
        have t4 := (t3.other ⟨N, 0, none⟩ (fun e => nT e.symm) (.int .i64 q)).other ⟨N, 1, none⟩ (fun e => nT e.symm) (.func (.func 60) #[] #[])
        have g0 := t4.cell 0
        have g1 := t4.cell 1
        simp only [List.getElem?_cons_zero, List.getElem?_cons_succ] at g0 g1
        have fa0 := n3.frozen 0
        have fa1 := n3.frozen 1
        have fb0 := t3.frozen 0
        have fb1 := t3.frozen 1
        have N5 := Lib.hid ((n4.other ⟨T, 0, none⟩ nT (.int .i64 s)).other ⟨T, 1, none⟩ nT (.func (.func 59) #[] #[]))
        have T5 := Lib.hid (t4.set2 (.int .i64 s) (.func (.func 59) #[] #[]))
        have k5 : Kp (fun i => i = N ∨ i = T) w3 ((((w3.setCell ⟨N, 0, none⟩ (.int .i64 q)).setCell ⟨N, 1, none⟩ (.func (.func 60) #[] #[])).setCell ⟨T, 0, none⟩ (.int .i64 s)).setCell ⟨T, 1, none⟩ (.func (.func 59) #[] #[])) :=
          ((((Kp.refl _ w3).setCell (.inl (.inl rfl)) _).setCell (.inl (.inl rfl)) _).setCell (.inl (.inr rfl)) _).setCell (.inl (.inr rfl)) _
        have K5 := Lib.hid k5
        clear hr3 hk3 hown k3 tw3 n3 t3 kk3 hm n4 t4 k5 eN eT ho2 hqq
        go_wp2
        go_step3
        refine ⟨rfl, ⟨j + 1, C, L, N, T, B, s, _, _, _, _, _, _, _, _, _, _, _, _, _, _, _, _, _, _, _, _, _, _, _, _, _, _, _, _, _, _, _, rfl, by omega, TW3.out.kp K5.out (by have := HNE.out; omega) (by have := HNE.out; omega), R3.out.kp K5.out (fun g hg h => by have := HNE.out; have := (R3.out.own_ge g hg).1; omega), by rw [ET.out]; exact N5.out, by rw [tNow_two, EN.out]; exact T5.out, HNE.out.2.2.2, HNE.out.1, HNE.out.2.1, ?_, KK3.out.after K5.out (fun g hg h => by have := HNE.out; omega)⟩, ?_⟩
        · have := HNE.out; simp; omega
        · simp [lenOf]; omega
    · skip
      have ho : tOut j = .func (.func 60) #[] #[] := by unfold tOut; rw [if_neg hq]
      have HO := Lib.hid ho
      have cN1 : (w.setCell ⟨C, 3, none⟩ (.int .i64 s)).cell? ⟨N, 1, none⟩ = some (.func (.func 60) #[] #[]) := by
        rw [(hn.other ⟨C, 3, none⟩ (fun e => hne.1 e.symm) _).cell 1]; simp [tNow, ho]
      have c3 : w.cell? ⟨C, 3, none⟩ = some (.int .i64 k) := by
        obtain ⟨ps, i, q, hC, _⟩ := htw
        exact hC.cells.2.2.2
      have f3 : w.frozen? ⟨C, 3, none⟩ = false := by
        obtain ⟨ps, i, q, hC, _⟩ := htw
        exact hC.frozen 3
      have HTW1 : Hid (Tw f b (num (marks 0 n)) C L n s (w.setCell ⟨C, 3, none⟩ (.int .i64 s)) j) := Lib.hid htw.step
      have K1 : Hid (Kp (fun i => i = C) w (w.setCell ⟨C, 3, none⟩ (.int .i64 s))) := Lib.hid ((Kp.refl (fun i => i = C) w).setCell (.inl rfl) _)
      have z0 : C < w.heap.size ∧ L < w.heap.size ∧ N < w.heap.size ∧ T < w.heap.size := by omega
      have hcall := tw_back f b _ C L n j s _ HTW1.out (by omega) hs s1 s2 (by rw [l0]; exact hj)
      rw [hx] at hcall
      have HC := Lib.hid hcall
      have hfd := person_number x.1 x.2
      clear hcall hr htw hn ht hk hW hB hne hBs htl hx hs l0 ho
      go_wp2_with fail
      refine HC.out.mono ?_
      rintro e w2 ⟨rfl, htw2, hk2⟩
      have k2 : Kp (fun b => b = C ∨ b = L) w w2 := (K1.out.mono (fun _ _ h => .inl h)).trans hk2
      have zz : w.heap.size ≤ w2.heap.size := k2.size
      have HTW2 := Lib.hid htw2
      have HN2 := Lib.hid (HN.out.kp k2 (by have := HNE.out; omega))
      have HT2 := Lib.hid (HT.out.kp k2 (by have := HNE.out; omega))
      have HR2 := Lib.hid (HR.out.kp k2 (fun g hg h => by have := HNE.out; have := (HR.out.own_ge g hg).1; omega))
      have HK2 := Lib.hid (HK.out.after k2 (fun g hg h => by have := HNE.out; omega))
      clear htw2 hk2 k2 cN0 cN1 c3 f3
      go_wp2_with (first | (at_builtin; refine wpList_app _ rfl (.tmp 24) (.tmp 30) rfl B (.slice A0 j c0) _ (boT f b (marks 0 n) j) [x.2] rfl rfl (HR2.out.below ((Kp.refl Nw w2).alloc _).below') (Rd.one (g := w2.heap.size) (by simp)) nil_one (by rw [HTL.out]; simp; omega) (by have := HNE.out; simp; omega) ?_))
      intro r' w3 hr3 hk3 _
      have hown : ∀ g, (Value.slice A0 j c0).ownBlock = some g → B ≤ g := fun g hg => (HR2.out.own_ge g hg).1
      have k3 : Kp (fun b => (Value.slice A0 j c0).ownBlock = some b) w2 w3 := ((Kp.refl _ w2).alloc _).after hk3 (fun g _ e => e)
      have z3 : w2.heap.size ≤ w3.heap.size := k3.size
      have tw3 := HTW2.out.kp k3 (fun h => by have := HNE.out; have := hown _ h; omega) (fun h => by have := HNE.out; have := hown _ h; omega)
      have n3 := HN2.out.kp k3 (fun h => by have := HNE.out; have := hown _ h; omega)
      have t3 := HT2.out.kp k3 (fun h => by have := HNE.out; have := hown _ h; omega)
      have kk3 := HK2.out.after k3 (fun g hg h => by have := HNE.out; have := hown _ h; omega)
      obtain ⟨m, hm, c2⟩ := tw3.len
      rw [HL0.out] at hm
      rw [← HBT.out] at hr3
      obtain ⟨A3, d3, rfl⟩ := hr3.val (boT_length f b (marks 0 n) (j + 1))
      have R3 := Lib.hid hr3
      have TW3 := Lib.hid tw3
      have N3 := Lib.hid n3
      have T3 := Lib.hid t3
      have KK3 := Lib.hid kk3
      by_cases hl : j + 1 = n
      · have hm0 : m = 0 := by omega
        subst hm0
        clear hr3 hk3 hown k3 tw3 n3 t3 kk3 hm
        go_wp2
        simp only [Exit.jump]
        go_ret
        refine ⟨_, rfl, ?_, KK3.out⟩
        have R := R3.out
        rw [hl] at R
        exact R.from (by have := HNE.out; omega)
      · have m0 : (0 : Int) < (m : Int) := by omega
        have m1 : (m : Int) > 0 := m0
        have ho2 : tOut (j + 1) = .func (.func 59) #[] #[] := by unfold tOut; rw [if_pos (by omega)]
        obtain ⟨q, hqq⟩ : ∃ q, stp f b (j + 1) = q := ⟨_, rfl⟩
        have eN : tNow f b j = [.int .i64 s, .func (.func 60) #[] #[]] := by unfold tNow; rw [HS.out, HO.out]
        have eT : tNow f b (j + 1) = [.int .i64 q, (.func (.func 59) #[] #[])] := by unfold tNow; rw [ho2, hqq]
        have EN := Lib.hid eN
        have ET := Lib.hid eT
        have nT : N ≠ T := HNE.out.2.1.2.2.2.2
        rw [eN] at n3
        rw [eT] at t3
        have a0 := n3.cell 0
        have a1 := n3.cell 1
        have b0 := t3.cell 0
        have b1 := t3.cell 1
        simp only [List.getElem?_cons_zero, List.getElem?_cons_succ] at a0 a1 b0 b1
        have n4 := n3.set2 (.int .i64 q) (.func (.func 59) #[] #[])
        have t4 := (t3.other ⟨N, 0, none⟩ (fun e => nT e.symm) (.int .i64 q)).other ⟨N, 1, none⟩ (fun e => nT e.symm) (.func (.func 59) #[] #[])
        have g0 := t4.cell 0
        have g1 := t4.cell 1
        simp only [List.getElem?_cons_zero, List.getElem?_cons_succ] at g0 g1
        have fa0 := n3.frozen 0
        have fa1 := n3.frozen 1
        have fb0 := t3.frozen 0
        have fb1 := t3.frozen 1
        have N5 := Lib.hid ((n4.other ⟨T, 0, none⟩ nT (.int .i64 s)).other ⟨T, 1, none⟩ nT (.func (.func 60) #[] #[]))
        have T5 := Lib.hid (t4.set2 (.int .i64 s) (.func (.func 60) #[] #[]))
        have k5 : Kp (fun i => i = N ∨ i = T) w3 ((((w3.setCell ⟨N, 0, none⟩ (.int .i64 q)).setCell ⟨N, 1, none⟩ (.func (.func 59) #[] #[])).setCell ⟨T, 0, none⟩ (.int .i64 s)).setCell ⟨T, 1, none⟩ (.func (.func 60) #[] #[])) :=
          ((((Kp.refl _ w3).setCell (.inl (.inl rfl)) _).setCell (.inl (.inl rfl)) _).setCell (.inl (.inr rfl)) _).setCell (.inl (.inr rfl)) _
        have K5 := Lib.hid k5
        clear hr3 hk3 hown k3 tw3 n3 t3 kk3 hm n4 t4 k5 eN eT ho2 hqq
        go_wp2
        go_step3
        refine ⟨rfl, ⟨j + 1, C, L, N, T, B, s, _, _, _, _, _, _, _, _, _, _, _, _, _, _, _, _, _, _, _, _, _, _, _, _, _, _, _, _, _, _, _, rfl, by omega, TW3.out.kp K5.out (by have := HNE.out; omega) (by have := HNE.out; omega), R3.out.kp K5.out (fun g hg h => by have := HNE.out; have := (R3.out.own_ge g hg).1; omega), by rw [ET.out]; exact N5.out, by rw [tNow_two, EN.out]; exact T5.out, HNE.out.2.2.2, HNE.out.1, HNE.out.2.1, ?_, KK3.out.after K5.out (fun g hg h => by have := HNE.out; omega)⟩, ?_⟩
        · have := HNE.out; simp; omega
        · simp [lenOf]; omega
  · intro H
    go_wp2_with fail
    refine (firstNumbers_any n W (by omega)).mono ?_
    rintro e w1 ⟨v, rfl, hs, hk⟩
    obtain ⟨A, c, rfl⟩ := hs.val (marks_length 0 n)
    have HS := Lib.hid hs
    have HK := Lib.hid hk
    clear hs hk
    go_wp2_with fail
    refine (circleOf_any _ (marks 0 n) f _ HS.out.rd (by rw [marks_length]; omega) (by rw [marks_length]; omega)).mono ?_
    rintro e w2 ⟨C, L, rfl, hC, hk, hC1, hL1⟩
    rw [marks_length] at hC
    have HC := Lib.hid hC
    have HK2 := Lib.hid (HK.out.nw hk)
    have z1 := HK.out.size
    have z2 : w1.heap.size ≤ w2.heap.size := hk.size
    have zC := hC.lt
    have zL := hC.2.lt
    clear hk hC
    go_wp2
    go_step3
    rename_i hKK
    refine hKK _ _ ?_
    have ka : Kp Nw w2 (w2.alloc (.cells #[.int .i64 f, .func (.func 59) #[] #[]] 55)) := .al _ _
    have kb : Kp Nw w2 ((w2.alloc (.cells #[.int .i64 f, .func (.func 59) #[] #[]] 55)).alloc (.cells #[.int .i64 b, .func (.func 60) #[] #[]] 55)) := ka.alloc _
    refine H _ rfl _ _ ⟨0, C, L, w2.heap.size, w2.heap.size + 1, w2.heap.size + 2, f, _, _, _, _, _, _, _, _, _, _, _, _, _, _, _, _, _, _, _, _, _, _, _, _, _, _, _, _, _, _, _, rfl, by omega, (Tw.start HC.out (by rw [marks_length]; omega)).kp kb (fun h => h) (fun h => h), Sl.nil _ _, ?_, ?_, ⟨by omega, by omega, by omega, by omega⟩, ⟨by omega, by omega, by omega, by omega⟩, ⟨by omega, by omega, by omega, by omega, by omega⟩, by simp, HK2.out.nw kb⟩
    · exact (Bt.new w2 55 (tNow f b 0)).kp (Kp.al _ _) (fun h => h)
    · have := Bt.new (w2.alloc (.cells #[.int .i64 f, .func (.func 59) #[] #[]] 55)) 55 (tNow f b 1)
      rw [World.size_alloc] at this
      exact this
end Go.Proofs.Ytgahlpniciafkaa
