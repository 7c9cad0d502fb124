/- MakePuzzle in the model; no condition. -/
import Derived.Test.YtcfghaeogbimeaePzK
import Derived.Test.YtcfghaeogbimeaePuzB
import Derived.Deep.RegionLaw
namespace Go.Proofs.Ytcfghaeogbimeae
open Go.ChangeShapes Go.WideShapes Go.ChangeAt Go.RowKit

/-- the first clues that are made, and the number behind them -/
def mkZ (n : Nat) (k d : Int) : Nat → List Cu × Int
  | 0 => ([], d)
  | j + 1 => ((mkZ n k d j).1 ++ [mkC (nx (mkZ n k d j).2 % 6) (nx (nx (mkZ n k d j).2)) n k], nx (nx (mkZ n k d j).2))
theorem mkZ_bd (n : Nat) (k d : Int) (d0 : 0 ≤ d) (d1 : d ≤ 9999) : ∀ j, (mkZ n k d j).1.length = j ∧ 0 ≤ (mkZ n k d j).2 ∧ (mkZ n k d j).2 ≤ 10006
  | 0 => ⟨rfl, d0, by show d ≤ 10006; omega⟩
  | j + 1 => by
    have h := mkZ_bd n k d d0 d1 j
    have hb := nx_bd (nx (mkZ n k d j).2)
    exact ⟨by rw [mkZ, List.length_append, h.1]; rfl, hb.1, hb.2⟩
theorem mkZ_get (n : Nat) (k d : Int) (d0 : 0 ≤ d) (d1 : d ≤ 9999) (i : Nat) : ∀ j, i < j → (mkZ n k d j).1.getD i (0, 0, 0) = mkC (nx (mkZ n k d i).2 % 6) (nx (nx (mkZ n k d i).2)) n k
  | 0, h => by omega
  | j + 1, h => by
    have hl := (mkZ_bd n k d d0 d1 j).1
    rw [mkZ]
    by_cases e : i = j
    · subst e
      simp [List.getD, hl]
    · have := mkZ_get n k d d0 d1 i j (by omega)
      rw [← this]
      simp [List.getD, List.getElem?_append_left (show i < (mkZ n k d j).1.length by omega)]
def vMake (p s c d : Int) : List Cu × Bool := if hidB p s = true ∧ 0 ≤ c ∧ c ≤ 6 ∧ 0 ≤ d ∧ d ≤ 9999 then ((mkZ p.toNat s d c.toNat).1, true) else ([], false)
theorem vMake_len (p s c d : Int) : (vMake p s c d).1.length ≤ 1000000 := by
  unfold vMake
  split
  · rename_i h
    have := (mkZ_bd p.toNat s d h.2.2.2.1 h.2.2.2.2 c.toNat).1
    simp only
    omega
  · exact Nat.zero_le _
theorem own1_putM {w : World} {b : Nat} {x : Value} (h : Own1 w b x) (y : Value) : Own1 (w.setCell ⟨b, 0, none⟩ y) b y := ⟨one_set w b y _ h.1, by rw [World.frozen?_setCell]; exact h.2⟩

set_option maxRecDepth 100000 in
set_option maxHeartbeats 12800000 in
theorem sMakePuzzle_any (p s c d : Int) (W : World) : Calls Try.prog 15 #[.int .i64 p, .int .i64 s, .int .i64 c, .int .i64 d] W (PuzB W (vMake p s c d).1 (vMake p s c d).2) := by
  have HH := Lib.hid (pzHidden_any p s)
  obtain ⟨h, hh⟩ : ∃ h, hidB p s = h := ⟨_, rfl⟩
  rw [hh] at HH
  cases h
  · rw [show vMake p s c d = ([], false) from by unfold vMake; rw [if_neg (fun h => by rw [hh] at h; cases h.1)]]
    clear hh
    go_enter Try.func15, Try.ntmps15
    go_wp2_with (first | ((with_reducible refine (HH.out _).mono ?_); rintro e w' ⟨rfl, rfl⟩))
    exact bodyPost_ret (v := .tuple #[.agg #[.slice none 0 0], .bool false]) (by simp [results, Try.results15, go_sem]) rfl ⟨_, rfl, Cl.nil _ _, Kp.al _ _⟩
  by_cases hc : 0 ≤ c ∧ c ≤ 6
  · obtain ⟨c0, c6⟩ := hc
    by_cases hd : 0 ≤ d ∧ d ≤ 9999
    · obtain ⟨d0, d9⟩ := hd
      obtain ⟨e, he⟩ : ∃ e, c.toNat = e := ⟨_, rfl⟩
      obtain rfl : c = (e : Int) := by omega
      obtain ⟨n1, n2, k1, k2⟩ : 1 ≤ p ∧ p ≤ 10 ∧ 1 ≤ s ∧ s ≤ 12 := by
        unfold hidB at hh
        rw [Bool.and_eq_true, decide_eq_true_eq, decide_eq_true_eq] at hh
        exact ⟨hh.1.1, hh.1.2, hh.2.1, hh.2.2⟩
      obtain ⟨m, rfl⟩ : ∃ m : Nat, p = (m : Int) + 1 := ⟨(p - 1).toNat, by omega⟩
      rw [show vMake ((m : Int) + 1) s e d = ((mkZ (m + 1) s d e).1, true) from by
        unfold vMake
        rw [if_pos ⟨hh, c0, c6, d0, d9⟩, Int.toNat_natCast, show ((m : Int) + 1).toNat = m + 1 by omega]]
      clear hh he
      have O0 := Lib.hid ((Own1.new W (.slice none 0 0) 30).kp (Kp.al _ (.cells #[.slice none 0 0] 30)) (fun h => h))
      have O1 := Lib.hid (Own1.new (W.alloc (.cells #[.slice none 0 0] 30)) (.slice none 0 0) 30)
      simp only [World.size_alloc] at O1
      go_enter Try.func15, Try.ntmps15
      go_wp2_with (first | ((with_reducible refine (HH.out _).mono ?_); rintro e w' ⟨rfl, rfl⟩) | ((with_reducible refine (l1In_yes _ _ _ _ c0 c6).mono ?_); rintro e w' ⟨rfl, rfl⟩) | ((with_reducible refine (l1In_yes _ _ _ _ d0 d9).mono ?_); rintro e w' ⟨rfl, rfl⟩))
      go_loopw [2, 11] (fun o i wy => ∃ (j : Nat) (v : Value) (wr : World), j ≤ e ∧ o = .int .i64 ((e : Int) - j) ∧ i = .int .i64 (mkZ (m + 1) s d j).2 ∧ wr = wy ∧ Hid (Own1 wr W.heap.size (.slice none 0 0)) ∧ Hid (Own1 wr (W.heap.size + 1) v) ∧ Hid (Co wr (W.heap.size + 2) v (mkZ (m + 1) s d j).1) ∧ Hid (Kp Nw W wr) ∧ W.heap.size + 2 ≤ wr.heap.size) (fun o _ _ => (intOf o).toNat)
      case atStart => exact ⟨0, _, _, Nat.zero_le _, by simp, rfl, rfl, O0, O1, Lib.hid (World.ownsRow_nil _ _ _ _), Lib.hid ((Kp.al W _).nw (.al _ _)), by simp⟩
      case round =>
        obtain ⟨j, v, wr, hj, rfl, rfl, rfl, HO, HC, HV, HK, hsz⟩ := hrel
        have hbd := mkZ_bd (m + 1) s d d0 d9 j
        have hst : mkZ (m + 1) s d (j + 1) = ((mkZ (m + 1) s d j).1 ++ [mkC (nx (mkZ (m + 1) s d j).2 % 6) (nx (nx (mkZ (m + 1) s d j).2)) (m + 1) s], nx (nx (mkZ (m + 1) s d j).2)) := rfl
        obtain ⟨⟨l, z⟩, hl⟩ : ∃ x, mkZ (m + 1) s d j = x := ⟨_, rfl⟩
        rw [hl] at hbd hst HV ⊢
        simp only at hbd hst HV ⊢
        obtain ⟨hll, z0, z6⟩ := hbd
        have j0 : (0 : Int) ≤ j := Int.natCast_nonneg _
        by_cases hlt : j < e
        · have i1 : (0 : Int) < (e : Int) - j := by omega
          have i2 : IntKind.i64.wrap ((e : Int) - j - 1) = (e : Int) - j - 1 := IntWalk.i64_in _ (by omega)
          obtain ⟨za, hza⟩ : ∃ za, nx z = za := ⟨_, rfl⟩
          have ba := nx_bd z
          have HN1 := Lib.hid (pzNext_any z wr z0 z6)
          rw [hza] at hst ba HN1
          obtain ⟨zb, hzb⟩ : ∃ zb, nx za = zb := ⟨_, rfl⟩
          have bb := nx_bd za
          have HN2 := Lib.hid (pzNext_any za wr ba.1 ba.2)
          rw [hzb] at hst bb HN2
          obtain ⟨q, hq⟩ : ∃ q, za % 6 = q := ⟨_, rfl⟩
          have q1 : 0 ≤ q := by rw [← hq]; exact Int.emod_nonneg _ (by omega)
          have q2 : q < 6 := by rw [← hq]; exact Int.emod_lt_of_pos _ (by omega)
          have q3 : za.tmod 6 = q := by rw [Int.tmod_eq_emod_of_nonneg (by omega)]; exact hq
          have q4 : IntKind.i64.wrap q = q := IntWalk.i64_in _ (by omega)
          have HOF := Lib.hid (fun w => pzOf_any q zb m s w (by omega) k1 k2 q1 (by omega) bb.1)
          rw [hq] at hst
          obtain ⟨⟨c1, c2, c3⟩, hcc⟩ : ∃ x, mkC q zb (m + 1) s = x := ⟨_, rfl⟩
          rw [hcc] at hst HOF
          simp only at HOF
          have HST := Lib.hid hst
          have HLT : Hid (l.length + [((c1, c2, c3) : Cu)].length ≤ 1000000) := Lib.hid (by simp; omega)
          obtain ⟨x0, x1⟩ := HC.out
          clear hl hst hza hzb hq hcc
          go_wp2_with fail
          refine HN1.out.mono ?_
          rintro e9 w9 ⟨rfl, rfl⟩
          go_wp2_with fail
          refine HN2.out.mono ?_
          rintro e9 w9 ⟨rfl, rfl⟩
          go_wp2_with fail
          first
          | (go_region_law (first
            | (go_simp
               go_at_call 37
               refine (HOF.out _).mono ?_
               rintro e9 w1 ⟨rfl, hk1⟩
               have kW : Kp Nw wr w1 := Kp.nw (by first | exact Kp.refl _ _ | exact (Kp.refl Nw _).drew) hk1
               obtain ⟨x2, x3⟩ := HC.out.kp kW (fun h => h)
               have x6 := keepc (Kp.al w1 (.cells #[.int .i64 c1, .int .i64 c2, .int .i64 c3] 49)) x2 (fun h => h))
            | (refine step_clus _ (by rfl) (.tmp 40) (.tmp 46) (by rfl) (W.heap.size + 2) v (.slice (some ⟨w1.heap.size, 0, none⟩) 1 1) l [(c1, c2, c3)] (by rfl) (by rfl) ((HV.out.nw kW).nw (by first | exact .al _ _ | exact (Kp.al _ _).drew | exact (Kp.refl Nw _).drew.nw (.al _ _))) (Own3.new w1 (c1, c2, c3) 49).one (VnC.some_ _ _ 1 _ rfl) HLT.out (by have := kW.size; simp [World.size_alloc] at this ⊢; omega) ?_
               intro v5 w5 hs5 hk5
               obtain ⟨A5, c5, rfl⟩ := hs5.val (n := j + 1) (by simp; omega)
               have k5 : Kp (fun b => v.ownBlock = some b) w1 w5 := ((Kp.al w1 (.cells #[.int .i64 c1, .int .i64 c2, .int .i64 c3] 49)).mono (fun _ _ h => h.elim)).trans hk5
               have hvb : ∀ b, v.ownBlock = some b → W.heap.size + 2 ≤ b := fun b hb => (World.ownsRow.lt HV.out b hb).1
               obtain ⟨x4, x5⟩ := (HC.out.kp kW (fun h => h)).kp k5 (fun e => by have := hvb _ e; omega))
            | fail))
          | trivial
          all_goals
            have kS : Kp (fun b => b = W.heap.size + 1) w5 (w5.setCell ⟨W.heap.size + 1, 0, none⟩ (.slice A5 (j + 1) c5)) := (Kp.refl (fun b => b = W.heap.size + 1) w5).setCell (p := ⟨W.heap.size + 1, 0, none⟩) (.inl rfl) _
            have HC6 := Lib.hid (own1_putM (show Own1 w5 (W.heap.size + 1) _ from ⟨x4, x5⟩) (.slice A5 (j + 1) c5))
            have HO6 := Lib.hid (((HO.out.kp kW (fun h => h)).kp k5 (fun e => by have := hvb _ e; omega)).kp kS (by omega))
            have HV6 := Lib.hid (hs5.kp kS (fun g hg e => by have := (World.ownsRow.lt hs5 g hg).1; omega))
            have HK6 := Lib.hid (((HK.out.nw kW).after k5 (fun g hg e => by have := hvb _ e; omega)).setCell (p := ⟨W.heap.size + 1, 0, none⟩) (.inr (Nat.le_succ _)) (.slice A5 (j + 1) c5))
            have hz6 : W.heap.size + 2 ≤ (w5.setCell ⟨W.heap.size + 1, 0, none⟩ (.slice A5 (j + 1) c5)).heap.size := by
              have h2 := kW.size
              have h3 := k5.size
              have h4 := kS.size
              omega
            clear hs5 hk5 k5 kS kW hk1 x0 x1 x2 x3 x4 x5 x6 hvb
            go_wp2
            go_roundw
            case rel => exact ⟨j + 1, _, _, by omega, by congr 1; push_cast; omega, by rw [HST.out], rfl, HO6, HC6, by rw [HST.out]; exact HV6, HK6, hz6⟩
            case measure => simp [intOf]; omega
        · have ej : j = e := by omega
          subst ej
          have i1 : ¬ (0 : Int) < (j : Int) - j := by omega
          obtain ⟨Av, cv9, rfl⟩ := HV.out.val hll
          obtain ⟨x0, x1⟩ := HC.out
          obtain ⟨o0, o1⟩ := HO.out
          have z9 := one_set wr W.heap.size (.slice Av j cv9) _ o0
          have kS : Kp (fun b => b = W.heap.size) wr (wr.setCell ⟨W.heap.size, 0, none⟩ (.slice Av j cv9)) := (Kp.refl (fun b => b = W.heap.size) wr).setCell (p := ⟨W.heap.size, 0, none⟩) (.inl rfl) _
          have HZ := Lib.hid ((HV.out.cl.kp kS (fun g hg e => by have := (HV.out.cl.own_ge g hg).1; omega)).from (B' := W.heap.size) (by omega))
          have HZ2 := Lib.hid (HK.out.setCell (p := ⟨W.heap.size, 0, none⟩) (.inr (Nat.le_refl _)) (.slice Av j cv9))
          rw [hl]
          clear kS hst
          go_wp2
          exact bodyPost_ret (v := .tuple #[.agg #[.slice Av j cv9], .bool true]) (by simp [results, Try.results15, go_sem, z9]) rfl ⟨_, rfl, HZ.out, HZ2.out⟩
    · rw [show vMake p s c d = ([], false) from by unfold vMake; rw [if_neg (fun h => hd ⟨h.2.2.2.1, h.2.2.2.2⟩)]]
      have hd' : d < 0 ∨ 9999 < d := by omega
      clear hd hh
      go_enter Try.func15, Try.ntmps15
      go_wp2_with (first | ((with_reducible refine (HH.out _).mono ?_); rintro e w' ⟨rfl, rfl⟩) | ((with_reducible refine (l1In_yes _ _ _ _ c0 c6).mono ?_); rintro e w' ⟨rfl, rfl⟩) | ((with_reducible refine (l1In_no _ _ _ _ hd').mono ?_); rintro e w' ⟨rfl, rfl⟩))
      exact bodyPost_ret (v := .tuple #[.agg #[.slice none 0 0], .bool false]) (by simp [results, Try.results15, go_sem]) rfl ⟨_, rfl, Cl.nil _ _, Kp.al _ _⟩
  · rw [show vMake p s c d = ([], false) from by unfold vMake; rw [if_neg (fun h => hc ⟨h.2.1, h.2.2.1⟩)]]
    have hc' : c < 0 ∨ 6 < c := by omega
    clear hc hh
    go_enter Try.func15, Try.ntmps15
    go_wp2_with (first | ((with_reducible refine (HH.out _).mono ?_); rintro e w' ⟨rfl, rfl⟩) | ((with_reducible refine (l1In_no _ _ _ _ hc').mono ?_); rintro e w' ⟨rfl, rfl⟩))
    exact bodyPost_ret (v := .tuple #[.agg #[.slice none 0 0], .bool false]) (by simp [results, Try.results15, go_sem]) rfl ⟨_, rfl, Cl.nil _ _, Kp.al _ _⟩
end Go.Proofs.Ytcfghaeogbimeae
