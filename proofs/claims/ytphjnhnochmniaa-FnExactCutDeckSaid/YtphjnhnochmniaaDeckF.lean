/- The deck that is dealt as an order with counts, in the model (caFor): each card lies where the places are dealt; no condition but that there are at most a thousand cards and as many counts as cards. -/
import Derived.Test.YtphjnhnochmniaaDeck
namespace Go.Proofs.Ytphjnhnochmniaa
open Go.ChangeShapes Go.WideShapes Go.ChangeAt Go.RowKit

theorem SlAt.kd {w w' : World} {B g cap n : Nat} {xs : List Int} {S : Nat → Prop} (h : SlAt w B g cap n xs) (hk : Kp S w w') (hs : ¬ S g) : SlAt w' B g cap n xs := by
  have h1 := h.sl.kp hk (fun g' e => by
    have e' : g' = g := by simp [Value.ownBlock] at e; omega
    rw [e']; exact hs)
  refine ⟨h.1, ?_⟩
  unfold Sl at h1
  rw [h.1] at h1
  exact h1
theorem marks_mem (n : Nat) (x : Int) (h : x ∈ marks 0 n) : 0 ≤ x ∧ x < n := by
  unfold marks at h
  simp at h
  omega
/-- cards laid at places, one after the other -/
def scatN (os ps : List Int) : Nat → List Int
  | 0 => List.replicate os.length 0
  | j + 1 => (scatN os ps j).set (ps.getD j 0).toNat (os.getD j 0)
theorem scatN_length (os ps : List Int) : ∀ j, (scatN os ps j).length = os.length
  | 0 => by simp [scatN]
  | j + 1 => by rw [scatN, List.length_set, scatN_length os ps j]
def scat (os ps : List Int) : List Int := scatN os ps ps.length
theorem scat_length (os ps : List Int) : (scat os ps).length = os.length := scatN_length _ _ _

set_option maxRecDepth 100000 in
set_option maxHeartbeats 3200000 in
theorem caFor_any (A : Option Addr) (n c : Nat) (A2 : Option Addr) (c2 : Nat) (os us : List Int) (W : World) (hv : Rd W (.slice A n c) os) (hn : os.length = n) (hu : Rd W (.slice A2 n c2) us) (hm : us.length = n) (hl : n ≤ 1000) (hok : us.all (okR 0 1000) = true) :
    Calls Try.prog 53 #[.slice A n c, .slice A2 n c2] W (Makes W (scat os (deal (marks 0 n) us))) := by
  obtain ⟨i0, hi0, hz0, hz1, hz2⟩ := info_parts intInfo
  have HU := Lib.hid hu
  have HM := Lib.hid hm
  have HN := Lib.hid hn
  have HOK := Lib.hid hok
  obtain ⟨A', c', hAc, hA⟩ := id hv
  have eA : A = A' := by injection hAc
  subst eA
  have HA := Lib.hid hA
  clear hv hu hm hn hok hA hAc
  go_enter Try.func53, Try.ntmps53
  go_wp2
  go_loopw [5, 12] (fun o i wr => ∃ (j : Nat) (r : Value), j ≤ n ∧ i = .int .i64 j ∧ r = o ∧ Sl wr W.heap.size r (marks 0 j) ∧ Kp Nw W wr) (fun _ i _ => n - (intOf i).toNat)
  case atStart => exact ⟨0, _, Nat.zero_le _, rfl, rfl, Sl.nil _ _, Kp.refl _ _⟩
  case round =>
    obtain ⟨j, r, hj, rfl, rfl, hr, hk⟩ := hrel
    have HR := Lib.hid hr
    have HK := Lib.hid hk
    have j0 : (0 : Int) ≤ j := Int.natCast_nonneg _
    clear hr hk
    by_cases hlt : j < n
    · have j1 : (j : Int) < n := by omega
      go_wp2_with (first | (at_builtin; refine wpList_app _ rfl (.tmp 15) (.tmp 17) rfl W.heap.size r _ (marks 0 j) [(j : Int)] rfl rfl (HR.out.below ((Kp.refl Nw wr).alloc _).below') (Rd.one (g := wr.heap.size) (by simp)) nil_one (by simp [marks_length]; omega) (by have := HK.out.size; simp; omega) ?_))
      intro r' w3 hs3 hk3 hat
      have HS3 : Hid (Sl w3 W.heap.size r' (marks 0 (j + 1))) := Lib.hid (by rw [marks_snoc]; simpa using hs3)
      have HK3 := Lib.hid ((HK.out.nw (.al _ _)).own (HR.out.below (Kp.al _ _).below') hk3)
      clear hs3 hk3 hat
      go_wp2
      go_roundw
      case rel => exact ⟨j + 1, r', by omega, by go_num, rfl, HS3.out, HK3.out⟩
      case measure => simp [intOf]; omega
    · have e : j = n := by omega
      subst e
      have hzz : W.heap.size ≤ wr.heap.size := HK.out.size
      go_wp2_with (first | (at_make; refine wpList_make_full _ rfl _ _ 22 rfl wr.heap.size 3 i0 (.int .i64 0) 1 Try.underlying22 hi0 hz0 hz1 _ _ _ _ j rfl rfl rfl rfl (by rw [hz2]; omega) (by unfold maxLen; omega) (Nat.le_refl _) ?_))
      intro w3 hown hgrow
      have hk3 : Kp Nw wr w3 := (Kp.refl Nw _).grown hgrow (fun g hg => by cases hg)
      have HS := Lib.hid (Sl.zeros hown)
      have hl3 : wr.heap.size < w3.heap.size := (World.ownsRow.lt hown _ rfl).2
      have HR3 := Lib.hid (HR.out.below hk3.below')
      have HK3 := Lib.hid (HK.out.nw hk3)
      obtain ⟨gm, hgm⟩ : ∃ gm, gm = wr.heap.size := ⟨_, rfl⟩
      rw [← hgm] at HS hl3 hzz ⊢
      obtain ⟨Ar, cr, rfl⟩ := HR3.out.val (marks_length 0 j)
      clear hown hgrow hk3 hgm HR HK
      go_wp2_with fail
      refine (caDeal_any (.slice Ar j cr) A2 j c2 (marks 0 j) us w3 HR3.out.rd HR3.out.vn (HU.out.nw HK3.out) HM.out (by rw [marks_length]; omega) (by rw [marks_length]; exact Nat.le_refl _) HOK.out).mono ?_
      rintro e w4 ⟨v4, rfl, hs4, hk4⟩
      obtain ⟨ps, hps⟩ : ∃ ps, ps = deal (marks 0 j) us := ⟨_, rfl⟩
      have hpl : ps.length = j := by rw [hps, deal_length]; exact HM.out
      have hpm : ∀ x ∈ ps, 0 ≤ x ∧ x < (j : Int) := fun x hx => by rw [hps] at hx; exact marks_mem j x (deal_mem us _ (by have := HM.out; rw [marks_length]; omega) x hx)
      rw [← hps] at hs4 ⊢
      obtain ⟨A4, c4, rfl⟩ := hs4.val hpl
      have HPS := Lib.hid hps
      have HPL := Lib.hid hpl
      have HPM := Lib.hid hpm
      have HP := Lib.hid hs4
      have HS4 : Hid (SlAt w4 gm gm j j (scatN os ps 0)) := Lib.hid (by rw [scatN, HN.out]; exact HS.out.kd hk4 (fun h => h))
      have HK4 := Lib.hid (HK3.out.nw hk4)
      have hl4 : gm < w4.heap.size := by have := hk4.size; omega
      obtain ⟨AP, cP, hPe, hPc⟩ := HP.out.rd
      have eP : A4 = AP := by injection hPe
      subst eP
      have HPC := Lib.hid hPc
      have HPO := Lib.hid HP.out.own_ge
      clear hs4 hk4 hps hpl hpm HS HR3 HK3 hPe hPc
      go_wp2
      go_loopw [27] (fun i wx => ∃ t : Nat, t ≤ j ∧ i = .int .i64 t ∧ SlAt wx gm gm j j (scatN os ps t) ∧ Kp (fun b => b = gm) w4 wx) (fun i _ => j - (intOf i).toNat)
      case atStart => exact ⟨0, Nat.zero_le _, rfl, HS4.out, Kp.refl _ _⟩
      case round =>
        obtain ⟨t, ht, rfl, hs, hk⟩ := hrel
        have HSX := Lib.hid hs
        have HKX := Lib.hid hk
        have t0 : (0 : Int) ≤ t := Int.natCast_nonneg _
        by_cases htl : t < j
        · have t1 : (t : Int) < j := by omega
          obtain ⟨g1, o1, rfl, hc1⟩ := HPC.out t (by rw [HPL.out]; exact htl)
          obtain ⟨g0, o0, rfl, hc0⟩ := HA.out t (by rw [HN.out]; exact htl)
          have l0 : g0 < W.heap.size := World.block_lt_of_cell? W _ hc0
          have l1 := (HPO.out g1 rfl).1
          have c1 := keepc hk hc1 (show ¬ g1 = gm by omega)
          have c0 := keepc hk (keepc HK4.out hc0 (fun h => h)) (show ¬ g0 = gm by omega)
          obtain ⟨p, hp⟩ : ∃ p, ps.getD t 0 = p := ⟨_, rfl⟩
          obtain ⟨x, hx⟩ : ∃ x, os.getD t 0 = x := ⟨_, rfl⟩
          have hpm := HPM.out p (by rw [← hp, List.getD_eq_getElem?_getD, List.getElem?_eq_getElem (show t < ps.length by rw [HPL.out]; exact htl)]; exact List.getElem_mem _)
          obtain ⟨q, rfl⟩ : ∃ q : Nat, p = q := ⟨p.toNat, by omega⟩
          rw [hp] at c1
          rw [hx] at c0
          have ql : q < j := by omega
          have q1 : (q : Int) < j := hpm.2
          have q0 : (0 : Int) ≤ q := Int.natCast_nonneg _
          have HSC : Hid (scatN os ps (t + 1) = (scatN os ps t).set q x) := Lib.hid (by rw [scatN, hp, hx]; simp)
          have cs := hs.cell q ql
          have fs := hs.frozen q
          clear hs hk hc1 hc0 hp hx hpm
          go_wp2
          go_roundw
          case rel => exact ⟨t + 1, by omega, by go_num, by rw [HSC.out]; exact HSX.out.store q x, HKX.out.setCell (.inl rfl) _⟩
          case measure => simp [intOf]; omega
        · have e : t = j := by omega
          subst e
          have e2 : scatN os ps t = scat os ps := by unfold scat; rw [HPL.out]
          rw [e2] at hs
          have HSF := Lib.hid (hs.sl.from hzz)
          have HKF := Lib.hid (HK4.out.after hk (fun g hg h => by have h9 : g = gm := h; omega))
          clear hs hk e2
          go_wp2
          go_ret
          exact ⟨.slice (some ⟨gm, 0, none⟩) t t, rfl, by rw [← HPS.out]; exact HSF.out, HKF.out⟩
end Go.Proofs.Ytphjnhnochmniaa
