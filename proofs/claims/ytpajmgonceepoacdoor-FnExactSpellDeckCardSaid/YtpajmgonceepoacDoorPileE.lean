/- A pile of the places (placesOf), equal counts (evenCounts) and the pile that is dealt as an order (undeal), in the program; no condition but that there are 1 .. 104 cards, as many counts, each 0 .. 1000. -/
import Derived.Test.YtpajmgonceepoacDoorPileG
import Derived.Test.YtpajmgonceepoacDoorEven
namespace Go.Proofs.YtpajmgonceepoacDoor
open Go.ChangeShapes Go.WideShapes Go.ChangeAt Go.RowKit

theorem zero_pileZ : ∃ Z : List Int, Z = List.replicate 104 0 ∧ Cds Z [] ∧ ∀ w, (zeroValue 42).run Tryd.prog w = .ok (.agg (plc Z 0).toArray) w :=
  ⟨List.replicate 104 0, rfl, Cds.zero, (zero_of_info pileZero).1⟩

set_option maxRecDepth 100000 in
set_option maxHeartbeats 1600000 in
theorem placesOf_any (n : Nat) (W : World) (hl : n ≤ 104) :
    Calls Tryd.prog 31 #[.int .i64 n] W (MakesP W (marks 0 n)) := by
  obtain ⟨Z, hZ, hz⟩ := zero_pile
  have hl1 : (plc Z 0).length = 105 := by rw [plc_length, hZ.1]
  have B0 := Lib.hid (Pb.new W Z 0)
  have HZ := Lib.hid hZ
  have K0 := Lib.hid (Kp.al W (.cells (plc Z 0).toArray 42))
  clear hZ
  go_enter Tryd.func31, Tryd.ntmps31
  go_wp2_with fail
  refine (firstNumbers_any n _ (by omega)).mono ?_
  rintro e w1 ⟨v, rfl, hs, hk⟩
  obtain ⟨A, c, rfl⟩ := hs.val (marks_length 0 n)
  have HS := Lib.hid hs
  have B1 := Lib.hid (B0.out.kp hk (fun h => h))
  have K1 := Lib.hid (K0.out.nw hk)
  clear hs hk
  go_wp2_with fail
  refine (pileOf_any A n c (marks 0 n) w1 HS.out.rd (marks_length 0 n) hl).mono ?_
  rintro e w2 ⟨v2, rfl, ⟨c2, g2, rfl⟩, hk2⟩
  have b2 := B1.out.kp hk2 (fun h => h)
  rw [marks_length]
  have hst := run_storeCells_pile (n' := n) b2 HZ.out.1 g2.1
  have hl3 : (plc c2 n).length = 105 := by rw [plc_length, g2.1]
  have HR := Lib.hid (setRow_heap w2 W.heap.size _ (plc c2 n).toArray _ _ b2)
  have HK := Lib.hid ((K1.out.nw hk2).setRow (.inr (Nat.le_refl W.heap.size)) (plc c2 n).toArray)
  have G2 := Lib.hid g2
  clear b2 hk2 g2
  go_wp2
  refine bodyPost_ret (ret_pile rfl rfl HR.out G2.out.1) rfl ?_
  exact ⟨_, rfl, ⟨_, G2.out, by rw [marks_length]⟩, HK.out⟩

/-- an order laid at places that are told -/
theorem Cds.at_ {c xs : List Int} (h : Cds c xs) (i : Nat) (x : Int) : Cds (c.set i x) (xs.set i x) := by
  obtain ⟨h1, h2, h3⟩ := h
  refine ⟨by rw [List.length_set]; exact h1, by rw [List.length_set]; exact h2, ?_⟩
  rw [List.length_set, List.take_set, h3]

set_option maxRecDepth 100000 in
set_option maxHeartbeats 3200000 in
theorem undeal_any (v : Value) (A : Option Addr) (n cp : Nat) (os us : List Int) (W : World) (hv : PileV v os) (hn : os.length = n) (hu : Rd W (.slice A n cp) us) (hm : us.length = n) (h1 : 1 ≤ n) (hok : us.all (okR 0 1000) = true) :
    Calls Tryd.prog 23 #[v, .slice A n cp] W (MakesP W (scat os (deal (marks 0 n) us))) := by
  obtain ⟨c, hg, rfl⟩ := hv
  rw [hn]
  obtain ⟨Z, hZe, hZ, hz⟩ := zero_pileZ
  have hn4 : n ≤ 104 := by have := hg.2.1; omega
  have hl1 : (plc Z 0).length = 105 := by rw [plc_length, hZ.1]
  have hl2 : (plc c n).length = 105 := by rw [plc_length, hg.1]
  have hl3 : (plc Z n).length = 105 := by rw [plc_length, hZ.1]
  have hse := plc_resize Z 0 n hZ.1
  obtain ⟨w3, hw3⟩ : ∃ w3, w3 = (((W.alloc (.cells (plc c n).toArray 42)).alloc (.cells (plc Z 0).toArray 42)).alloc (.cells (plc Z 0).toArray 42)) := ⟨_, rfl⟩
  obtain ⟨p0, p1, p2, k3⟩ := three_new W c Z n w3 hw3
  have hs1 := run_storeCells_pile (n' := n) p2 hZ.1 hZ.1
  have s0 : ((W.alloc (.cells (plc c n).toArray 42)).alloc (.cells (plc Z 0).toArray 42)).cell? ⟨W.heap.size, 104, none⟩ = some (.int .i64 n) :=
    (((Pb.new W c n).kp (.al _ _) (fun h => h)).size hg.1)
  have q2 : Pb (w3.setRow (W.heap.size + 1 + 1) (plc Z n).toArray) (W.heap.size + 1 + 1) Z n := setRow_heap _ _ _ _ _ _ p2
  have q1 : Pb (w3.setRow (W.heap.size + 1 + 1) (plc Z n).toArray) (W.heap.size + 1) Z 0 := (setRow_other _ _ _ _ (by omega)).trans p1
  have q0 : Pb (w3.setRow (W.heap.size + 1 + 1) (plc Z n).toArray) W.heap.size c n := (setRow_other _ _ _ _ (by omega)).trans p0
  have qk : Kp Nw W (w3.setRow (W.heap.size + 1 + 1) (plc Z n).toArray) := k3.setRow (.inr (by omega)) _
  have s1 := q0.size hg.1
  rw [hw3] at hs1 s1
  have Q0 := Lib.hid q0
  have Q1 := Lib.hid q1
  have Q2 := Lib.hid q2
  have QK := Lib.hid qk
  have HG := Lib.hid hg
  have HZ := Lib.hid hZ
  have HZE := Lib.hid hZe
  have HN := Lib.hid hn
  have HU := Lib.hid hu
  have HM := Lib.hid hm
  have HO := Lib.hid hok
  have HW := Lib.hid hw3
  clear q0 q1 q2 qk hg hZ hZe hn hu hm hok hw3 p0 p1 p2 k3
  go_enter Tryd.func23, Tryd.ntmps23
  go_wp2_with fail
  rw [← HW.out]
  refine (placesOf_any n _ hn4).mono ?_
  rintro e w4 ⟨vp, rfl, hvp, hk4⟩
  have R0 := Lib.hid (Q0.out.kp hk4 (fun h => h))
  have R1 := Lib.hid (Q1.out.kp hk4 (fun h => h))
  have R2 := Lib.hid (Q2.out.kp hk4 (fun h => h))
  have RK := Lib.hid (QK.out.nw hk4)
  have HVP := Lib.hid hvp
  clear hvp hk4 s0 s1 hs1
  go_wp2_with fail
  refine (deal_any vp A n cp (marks 0 n) us w4 HVP.out (HU.out.nw RK.out) HM.out (marks_length 0 n).symm h1 HO.out).mono ?_
  rintro e w5 ⟨vd, rfl, ⟨c5, g5, rfl⟩, hk5⟩
  obtain ⟨ps, hps⟩ : ∃ ps, ps = deal (marks 0 n) us := ⟨_, rfl⟩
  rw [← hps] at g5 ⊢
  have hpl : ps.length = n := by rw [hps, deal_length]; exact HM.out
  have HPM : Hid (∀ x ∈ ps, 0 ≤ x ∧ x < (n : Int)) := Lib.hid (fun x hx => by rw [hps] at hx; exact marks_mem n x (deal_mem us _ (by rw [HM.out, marks_length]; exact Nat.le_refl _) x hx))
  rw [hpl]
  have hl5 : (plc c5 n).length = 105 := by rw [plc_length, g5.1]
  have b5 := Pb.new w5 Z 0
  have hs5 := run_storeCells_pile (n' := n) b5 HZ.out.1 g5.1
  obtain ⟨w6, hw6⟩ : ∃ w6, w6 = (w5.alloc (.cells (plc Z 0).toArray 42)).setRow w5.heap.size (plc c5 n).toArray := ⟨_, rfl⟩
  rw [← hw6] at hs5
  have hk6 : Kp Nw w5 w6 := by rw [hw6]; exact (Kp.al w5 _).setRow (.inr (Nat.le_refl _)) _
  have P6 : Hid (Pile w6 w5.heap.size ps) := Lib.hid ⟨c5, g5, by rw [hpl, hw6]; exact setRow_heap _ _ _ _ _ _ b5⟩
  have hk46 := hk5.nw hk6
  have U0 := Lib.hid (R0.out.kp hk46 (fun h => h))
  have U1 := Lib.hid (R1.out.kp hk46 (fun h => h))
  have U2 := Lib.hid (R2.out.kp hk46 (fun h => h))
  have UK := Lib.hid (RK.out.nw hk46)
  have HPS := Lib.hid hps
  have HPL := Lib.hid hpl
  clear hps hpl hk5 hk6 hk46 b5 hw6 g5
  go_wp2_with fail
  refine (list_any w5.heap.size ps w6 P6.out (by rw [HPL.out]; exact h1)).mono ?_
  rintro e w7 ⟨vl, rfl, hs7, hk7⟩
  obtain ⟨A7, c7, rfl⟩ := hs7.val HPL.out
  obtain ⟨AP, cP, hPe, hPc⟩ := hs7.rd
  have eP : A7 = AP := by injection hPe
  subst eP
  obtain ⟨g7, o7, rfl, _⟩ := hPc 0 (by rw [HPL.out]; omega)
  have HPC : Hid (∀ k, k < n → w7.cell? ⟨g7, o7 + k, none⟩ = some (.int .i64 (ps.getD k 0))) := Lib.hid (fun k hk => by
    obtain ⟨g, o, e, hc⟩ := hPc k (by rw [HPL.out]; exact hk)
    injection e with e
    injection e with e1 e2
    subst e1 e2
    exact hc)
  have HPO := Lib.hid (hs7.own_ge g7 rfl).1
  have b6 : W.heap.size + 1 + 1 < w6.heap.size := U2.out.lt
  have U0 := Lib.hid (U0.out.kp hk7 (fun h => h))
  have U1 := Lib.hid (U1.out.kp hk7 (fun h => h))
  have U2 := Lib.hid (U2.out.kp hk7 (fun h => h))
  have UK7 := Lib.hid (UK.out.nw hk7)
  clear hs7 hk7 hPe hPc hs5
  go_wp2
  go_loopw [19] (fun i wx => ∃ (t : Nat) (cx : List Int), t ≤ n ∧ i = .int .i64 t ∧ Cds cx (scatN os ps t) ∧ Pb wx (W.heap.size + 1 + 1) cx n ∧ Kp (fun g => g = W.heap.size + 1 + 1) w7 wx) (fun i _ => n - (intOf i).toNat)
  case atStart =>
    refine ⟨0, Z, Nat.zero_le _, rfl, ⟨HZ.out.1, by rw [scatN_length, HN.out]; exact hn4, ?_⟩, U2.out, Kp.refl _ _⟩
    rw [scatN_length, HN.out, HZE.out, scatN, HN.out, List.take_replicate, Nat.min_eq_left hn4]
  case round =>
    obtain ⟨t, cx, ht, rfl, gx, bx, hkx⟩ := hrel
    have y0 := U0.out.kp hkx (by omega)
    have y1 := U1.out.kp hkx (by omega)
    have t0 : (0 : Int) ≤ t := Int.natCast_nonneg _
    by_cases htl : t < n
    · have t1 : (t : Int) < n := by omega
      have c1 := keepc hkx (HPC.out t htl) (show ¬ g7 = W.heap.size + 1 + 1 by have := HPO.out; omega)
      have c0 := y0.cell t (by rw [HG.out.1]; omega)
      rw [HG.out.get t (by rw [HN.out]; exact htl)] at c0
      obtain ⟨p, hp⟩ : ∃ p, ps.getD t 0 = p := ⟨_, rfl⟩
      obtain ⟨x, hx⟩ : ∃ x, os.getD t 0 = x := ⟨_, rfl⟩
      have hpm := HPM.out p (by rw [← hp, List.getD_eq_getElem?_getD, List.getElem?_eq_getElem (show t < ps.length by rw [HPL.out]; exact htl)]; exact List.getElem_mem _)
      obtain ⟨q, rfl⟩ : ∃ q : Nat, p = q := ⟨p.toNat, by omega⟩
      rw [hp] at c1
      rw [hx] at c0
      have ql : q < n := by omega
      have q0 : (0 : Int) ≤ q := Int.natCast_nonneg _
      have q1 : (q : Int) < 104 := by omega
      have t2 : (t : Int) < 104 := by omega
      have cd := bx.cell q (by rw [gx.1]; omega)
      have fd := bx.frozen q
      have w2 : IntKind.i64.wrap ((t : Int) + 1) = ((t + 1 : Nat) : Int) := by rw [IntWalk.i64_in _ (by omega)]; omega
      have BX := Lib.hid (bx.set q (by rw [gx.1]; omega) x)
      have GX : Hid (Cds (cx.set q x) (scatN os ps (t + 1))) := Lib.hid (by
        rw [scatN, hp, hx]
        exact gx.at_ q x)
      have KX := Lib.hid (hkx.setCell (p := ⟨W.heap.size + 1 + 1, q, none⟩) (.inl rfl) (.int .i64 x))
      clear y0 y1 bx gx hkx hp hx hpm
      go_wp2
      go_roundw
      case rel => exact ⟨t + 1, _, by omega, rfl, GX.out, BX.out, KX.out⟩
      case measure => simp [intOf] <;> omega
    · have e : t = n := by omega
      subst e
      have et : scatN os ps t = scat os ps := by unfold scat; rw [HPL.out]
      rw [et] at gx
      have hst := run_storeCells_pile (n' := t) y1 HZ.out.1 gx.1
      have hlx : (plc cx t).length = 105 := by rw [plc_length, gx.1]
      have HR := Lib.hid (setRow_heap _ (W.heap.size + 1) _ (plc cx t).toArray _ _ y1)
      have HK := Lib.hid ((UK7.out.after hkx (fun g hg e => by omega)).setRow (.inr (by omega : W.heap.size ≤ W.heap.size + 1)) (plc cx t).toArray)
      have HB3 := Lib.hid bx
      have G3 := Lib.hid gx
      clear y0 y1 bx gx hkx et
      go_wp2
      refine wp_load_pile (.tmp 5) rfl (W.heap.size + 1 + 1) rfl _ t HB3.out G3.out.1 ?_
      go_wp2
      refine bodyPost_ret (ret_pile rfl rfl HR.out G3.out.1) rfl ?_
      rw [← HPS.out]
      exact ⟨_, rfl, ⟨_, G3.out, by rw [scat_length, HN.out]⟩, HK.out⟩
end Go.Proofs.YtpajmgonceepoacDoor
