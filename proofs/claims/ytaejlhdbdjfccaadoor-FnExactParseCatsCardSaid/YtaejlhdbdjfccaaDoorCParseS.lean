/- The model's reading of a text of cats (ParseCats): the two parts, the step, the lives, and whether they make cats. -/
import Derived.Test.YtaejlhdbdjfccaaDoorCPure
import Derived.Test.YtaejlhdbdjfccaaDoorParseS
namespace Go.Proofs.YtaejlhdbdjfccaaDoor
open Go.ChangeShapes Go.WideShapes Go.ChangeAt Go.RowKit

set_option maxRecDepth 100000 in
set_option maxHeartbeats 1600000 in
theorem liParse_off (l : List UInt8) (W : World) (hl : l.length ≤ 1048576) (h : 100 < l.length ∨ (sp 126 [] l).length ≠ 2) :
    Calls Tryd.prog 22 #[.string ⟨l.toArray⟩] W (CatsRes0 W [] 0 false) := by
  have hp := sp_pos 126 l []
  obtain ⟨n, hn⟩ : ∃ n, (sp 126 [] l).length = n := ⟨_, rfl⟩
  rw [hn] at h hp
  have HN := Lib.hid hn
  have hll : (l.length : Int) ≤ 1048576 := by omega
  have HP : Hid (0 < (sp 126 [] l).length) := Lib.hid (by omega)
  clear hn
  by_cases h1 : 100 < l.length
  · have h2 : 100 < (l.length : Int) := by omega
    clear h h1
    go_enter Tryd.func22, Tryd.ntmps22
    go_wp2_with fail
    refine (l1Split_any l 126 _ hl).mono ?_
    rintro e w1 ⟨v, rfl, hs1, hk1⟩
    obtain ⟨g, cap, rfl, hc1, hg1, hg2, hcell⟩ := hs1.at_ HP.out
    rw [HN.out] at hc1 hcell ⊢
    have HT1 := Lib.hid ((Own2.new W (.slice none 0 0) (.int .i64 0) 28).kp hk1 (fun h => h))
    have HK1 := Lib.hid ((Kp.al W (.cells #[.slice none 0 0, .int .i64 0] 28)).nw hk1)
    rw [World.size_alloc] at hg1
    clear hs1 hk1
    obtain ⟨q0, q1, q2, q3⟩ := HT1.out
    obtain ⟨y0, y1⟩ := two_set _ W.heap.size (.slice none 0 0) (.int .i64 0) _ _ q0 q1
    go_wp2
    refine bodyPost_ret (v := .tuple #[.agg #[.slice none 0 0, .int .i64 0], .bool false]) (by simp [results, Tryd.results22, go_sem, y0, y1]) rfl ⟨_, rfl, Sl.nil _ _, ?_⟩
    exact (HK1.out.setCell (.inr (Nat.le_refl _)) _).setCell (.inr (Nat.le_refl _)) _
  · have h2 : (l.length : Int) ≤ 100 := by omega
    have h3 : ¬ n = 2 := by omega
    have h4 : ((n : Int) != 2) = true := by simp; omega
    have h6 : ¬ 100 < (l.length : Int) := by omega
    clear h h1
    go_enter Tryd.func22, Tryd.ntmps22
    go_wp2_with fail
    refine (l1Split_any l 126 _ hl).mono ?_
    rintro e w1 ⟨v, rfl, hs1, hk1⟩
    obtain ⟨g, cap, rfl, hc1, hg1, hg2, hcell⟩ := hs1.at_ HP.out
    rw [HN.out] at hc1 hcell ⊢
    have HT1 := Lib.hid ((Own2.new W (.slice none 0 0) (.int .i64 0) 28).kp hk1 (fun h => h))
    have HK1 := Lib.hid ((Kp.al W (.cells #[.slice none 0 0, .int .i64 0] 28)).nw hk1)
    rw [World.size_alloc] at hg1
    clear hs1 hk1
    obtain ⟨q0, q1, q2, q3⟩ := HT1.out
    obtain ⟨y0, y1⟩ := two_set _ W.heap.size (.slice none 0 0) (.int .i64 0) _ _ q0 q1
    go_wp2
    refine bodyPost_ret (v := .tuple #[.agg #[.slice none 0 0, .int .i64 0], .bool false]) (by simp [results, Tryd.results22, go_sem, y0, y1]) rfl ⟨_, rfl, Sl.nil _ _, ?_⟩
    exact (HK1.out.setCell (.inr (Nat.le_refl _)) _).setCell (.inr (Nat.le_refl _)) _

set_option maxRecDepth 100000 in
set_option maxHeartbeats 3200000 in
theorem liParse_on (l a c : List UInt8) (W : World) (hl : l.length ≤ 100) (h : sp 126 [] l = [a, c]) (hal : a.length ≤ 1000) (hcl : c.length ≤ 1000) (G : Bool) (hG : catB ((sp 44 [] c).map rd6) (stp a) = G) (ys : List Int) (y : Int) (hys : ys = if G = true then (sp 44 [] c).map rd6 else []) (hy : y = if G = true then stp a else 0) :
    Calls Tryd.prog 22 #[.string ⟨l.toArray⟩] W (CatsRes0 W ys y G) := by
  have hll : (l.length : Int) ≤ 100 := by omega
  have HN : Hid ((sp 126 [] l).length = 2) := Lib.hid (by rw [h]; rfl)
  have HP : Hid (0 < (sp 126 [] l).length) := Lib.hid (by rw [h]; simp)
  have HL0 : Hid ((sp 126 [] l).getD 0 [] = a) := Lib.hid (by rw [h]; rfl)
  have HL1 : Hid ((sp 126 [] l).getD 1 [] = c) := Lib.hid (by rw [h]; rfl)
  have HG := Lib.hid hG
  have HYS := Lib.hid hys
  have HY := Lib.hid hy
  have hl : l.length ≤ 1048576 := by omega
  obtain ⟨n, hn⟩ : ∃ n, (sp 44 [] c).length = n := ⟨_, rfl⟩
  have HNN := Lib.hid hn
  have HPP : Hid (0 < (sp 44 [] c).length) := Lib.hid (sp_pos 44 c [])
  have hn1 : n ≤ 1001 := by have := sp_count 44 c []; omega
  have HPL : Hid (∀ p ∈ sp 44 [] c, p.length ≤ 1000) := Lib.hid (fun p hp => by have := sp_piece 44 c [] p hp; simp at this; omega)
  clear h hG hys hy hn
  · go_enter Tryd.func22, Tryd.ntmps22
    go_wp2_with fail
    refine (l1Split_any l 126 _ hl).mono ?_
    rintro e w1 ⟨v, rfl, hs1, hk1⟩
    obtain ⟨g, cap, rfl, hc1, hg1, hg2, hcell⟩ := hs1.at_ HP.out
    rw [HN.out] at hc1 hcell ⊢
    have HT1 := Lib.hid ((Own2.new W (.slice none 0 0) (.int .i64 0) 28).kp hk1 (fun h => h))
    have HK1 := Lib.hid ((Kp.al W (.cells #[.slice none 0 0, .int .i64 0] 28)).nw hk1)
    rw [World.size_alloc] at hg1
    have HC0 := Lib.hid (hcell 0 (by omega))
    have HC1 := Lib.hid (hcell 1 (by omega))
    rw [HL0.out] at HC0
    rw [HL1.out] at HC1
    unfold sval at HC0 HC1
    clear hs1 hk1 hcell
    have HC0o := HC0.out
    go_wp2_with fail
    refine (l1Read_any a _ (by omega)).mono ?_
    rintro e w2 ⟨rfl, hk2⟩
    have HT2 := Lib.hid (HT1.out.kp hk2 (fun h => h))
    have HK2 := Lib.hid (HK1.out.nw hk2)
    have c0 := keepc hk2 HC0.out (fun h => h)
    have HC1 := Lib.hid (keepc hk2 HC1.out (fun h => h))
    clear hk2 HC0o HC0
    have z2 : g < w2.heap.size := World.block_lt_of_cell? w2 _ c0
    have c0' := keepc (.al w2 (.cells #[.slice none 0 0, .int .i64 (rd6 a)] 28)) c0 (fun h => h)
    by_cases hm : a = mil
    · have HST : Hid (stp a = 1000000) := Lib.hid (by unfold stp; rw [if_pos hm])
      subst hm
      have hbe : (mil == mil) = true := by simp
      have HT3 := Lib.hid (HT2.out.kp (.al w2 (.cells #[.slice none 0 0, .int .i64 (rd6 mil)] 28)) (fun h => h))
      have HR3 := Lib.hid (Own2.new w2 (.slice none 0 0) (.int .i64 (rd6 mil)) 28)
      have HC1 := Lib.hid (keepc (.al w2 (.cells #[.slice none 0 0, .int .i64 (rd6 mil)] 28)) HC1.out (fun h => h))
      have HK2 := Lib.hid (HK2.out.nw (.al w2 (.cells #[.slice none 0 0, .int .i64 (rd6 mil)] 28)))
      have hWl : W.heap.size < w2.heap.size := World.block_lt_of_cell? w2 _ HT2.out.1
      go_wp2_with fail
      go_region_held3 (fun w' => w'.cell? ⟨g, 0, none⟩ = some (.string ⟨mil.toArray⟩))
        (first
          | exact c0'
          | exact u0
          | fail)
        (first
          | (go_at_call 30
             refine (l1Num_mil _).mono ?_
             rintro e w3 ⟨rfl, hk3⟩
             have u0 := keepc ((Kp.refl Nw _).drew.nw hk3) c0' (fun h => h))
          | fail)
      have hk3' : Kp Nw (w2.alloc (.cells #[.slice none 0 0, .int .i64 (rd6 mil)] 28)) w3 := (Kp.refl Nw _).drew.nw hk3
      have HT4 := Lib.hid (HT3.out.kp hk3' (fun h => h))
      have HR4 := Lib.hid (HR3.out.kp hk3' (fun h => h))
      have HC4 := Lib.hid (keepc hk3' HC1.out (fun h => h))
      have HK4 := Lib.hid (HK2.out.nw hk3')
      clear hk3 hk3' HT3 HR3 HC1 HK2
      clear u0 c0' c0
      obtain ⟨r0, r1, r2, r3⟩ := HR4.out
      have kR : Kp (fun b => b = w2.heap.size) w3 (w3.setCell ⟨w2.heap.size, 1, none⟩ (.int .i64 1000000)) := (Kp.refl (fun b => b = w2.heap.size) w3).setCell (p := ⟨w2.heap.size, 1, none⟩) (.inl rfl) _
      have HT4 := Lib.hid (HT4.out.kp kR (by omega))
      have HC4 := Lib.hid (keepc kR HC4.out (show ¬ g = w2.heap.size by omega))
      have HR4 : Hid (Own2 (w3.setCell ⟨w2.heap.size, 1, none⟩ (.int .i64 1000000)) w2.heap.size (.slice none 0 0) (.int .i64 1000000)) := Lib.hid ⟨(World.cell?_setCell_other _ _ _ _ (by simp)).trans r0, World.cell?_setCell_same _ _ _ r1, by simpa using r2, by simpa using r3⟩
      have HK4 := Lib.hid (HK4.out.setCell (p := ⟨w2.heap.size, 1, none⟩) (.inr (show W.heap.size ≤ w2.heap.size by omega)) (.int .i64 1000000))
      clear kR
      have c1 := HC4.out
      go_wp2_with fail
      refine (l1Split_any c 44 _ (by omega)).mono ?_
      rintro e w5 ⟨v5, rfl, hs5, hk5⟩
      obtain ⟨g5, cap5, rfl, hc5, hg5, hg5', hcell5⟩ := hs5.at_ HPP.out
      rw [HNN.out] at hc5 hcell5 ⊢
      have HT5 := Lib.hid (HT4.out.kp hk5 (fun h => h))
      have HR5 := Lib.hid (HR4.out.kp hk5 (fun h => h))
      have h5N : ¬ g5 = w2.heap.size := by have h4l := World.block_lt_of_cell? _ _ HR4.out.1; simp only at h4l; omega
      have HK5 := Lib.hid (HK4.out.nw hk5)
      have HC5 := Lib.hid hcell5
      have hRl : w2.heap.size < w5.heap.size := World.block_lt_of_cell? w5 _ HR5.out.1
      clear hs5 hk5 hcell5
      clear HT4 HR4 HK4 HC4 c1
      have hT5 : W.heap.size < w5.heap.size := World.block_lt_of_cell? w5 _ HT5.out.1
      have hTR : ¬ W.heap.size = w2.heap.size := by omega
      have h50 := HC5.out 0 (by have := HPP.out; rw [HNN.out] at this; exact this)
      have h5R : g5 < w5.heap.size := World.block_lt_of_cell? w5 _ h50
      clear h50
      go_wp2
      go_loopw [7, 35] (fun _ i wr => ∃ (j : Nat) (v : Value), j ≤ n ∧ i = .int .i64 j ∧ Hid (Own2 wr w2.heap.size v (.int .i64 1000000)) ∧ Hid (Sl wr w5.heap.size v (((sp 44 [] c).take j).map rd6)) ∧ Hid (Kp (fun b => b = w2.heap.size) w5 wr)) (fun _ i _ => n - (intOf i).toNat)
      case atStart => exact ⟨0, _, Nat.zero_le _, rfl, HR5, Lib.hid (by simpa using Sl.nil _ _), Lib.hid (Kp.refl _ _)⟩
      case round =>
        rename_i wr
        obtain ⟨j, v, hj, rfl, HR, HS, HK⟩ := hrel
        have j0 : (0 : Int) ≤ j := Int.natCast_nonneg _
        by_cases hlt : j < n
        · have j1 : (j : Int) < n := by omega
          have hl' : j < (sp 44 [] c).length := by rw [HNN.out]; exact hlt
          obtain ⟨p, hp⟩ : ∃ p, (sp 44 [] c).getD j [] = p := ⟨_, rfl⟩
          have cp := keepc HK.out (HC5.out j hlt) (show ¬ g5 = w2.heap.size from h5N)
          rw [hp] at cp
          have hx : (sp 44 [] c)[j] = p := by rw [← hp]; simp [hl']
          have hpl := HPL.out p (by rw [← hx]; exact List.getElem_mem _)
          have HX : Hid (((sp 44 [] c).take (j + 1)).map rd6 = ((sp 44 [] c).take j).map rd6 ++ [rd6 p]) := Lib.hid (by rw [List.take_succ_eq_append_getElem hl', hx]; simp)
          have HLJ : Hid ((((sp 44 [] c).take j).map rd6).length = j) := Lib.hid (by simp; omega)
          have HTL : Hid ((((sp 44 [] c).take j).map rd6).length ≤ 1001) := Lib.hid (by simp; omega)
          obtain ⟨Av, cv, rfl⟩ := HS.out.val (n := j) (by simp; omega)
          have r0 := HR.out.1
          have hsz := HK.out.size
          have hrl : w2.heap.size < wr.heap.size := World.block_lt_of_cell? wr _ r0
          have hvo : Hid (∀ q, (Value.slice Av j cv).ownBlock = some q → w5.heap.size ≤ q) := Lib.hid (fun q hq => (HS.out.own_ge q hq).1)
          have hrr : ∀ q, w5.heap.size ≤ q → ¬ q = w2.heap.size := fun q hq => by omega
          unfold sval at cp
          clear hp hx hl'
          go_wp2_with fail
          go_region_law (first
            | (go_simp
               go_at_call 35
               refine (l1Read_any p _ (by omega)).mono ?_
               rintro e w5b ⟨rfl, hk⟩
               have kk : Kp Nw wr w5b := (Kp.refl Nw _).drew.nw hk
               have u0 := keepc kk r0 (fun h => h)
               have u1 := keepc (.al w5b (.cells #[.int .i64 (rd6 p)] 3)) u0 (fun h => h))
            | (refine step_app _ (by rfl) (.tmp 40) (.tmp 43) (by rfl) w5.heap.size (.slice Av j cv) _ (((sp 44 [] c).take j).map rd6) [rd6 p] (by rfl) (by rfl) ((HS.out.below kk.below').below (Kp.al _ _).below') (Rd.one (by simp)) nil_one (by have := HTL.out; simp only [List.length_singleton]; omega) (by have := kk.size; simp; omega) ?_
               intro v6 w6 hs6 hk6 ho6
               obtain ⟨A6, c6, rfl⟩ := hs6.val (n := j + 1) (by rw [List.length_append, HLJ.out]; rfl)
               have hk6w := ((HK.out.nw kk).nw (.al _ _)).after hk6 (fun q hq e => by have := hvo.out q e; omega)
               have hk6' := (((Kp.refl (fun b => (Value.slice Av j cv).ownBlock = some b) wr).nw kk).nw (.al _ _)).after hk6 (fun q hq e => e)
               have x6 := HR.out.kp hk6' (fun e => hrr _ (hvo.out _ e) rfl)
               obtain ⟨x0, x1, x2, x3⟩ := x6))
          all_goals
            rw [← HX.out] at hs6
            have kS : Kp (fun b => b = w2.heap.size) w6 (w6.setCell ⟨w2.heap.size, 0, none⟩ (.slice A6 (j + 1) c6)) := (Kp.refl (fun b => b = w2.heap.size) w6).setCell (p := ⟨w2.heap.size, 0, none⟩) (.inl rfl) _
            have HR7 := Lib.hid (show Own2 (w6.setCell ⟨w2.heap.size, 0, none⟩ (.slice A6 (j + 1) c6)) w2.heap.size (.slice A6 (j + 1) c6) (.int .i64 1000000) from ⟨World.cell?_setCell_same _ _ _ x0, (World.cell?_setCell_other _ _ _ _ (by simp)).trans x1, by simpa using x2, by simpa using x3⟩)
            have HS7 := Lib.hid (hs6.kp kS (fun q hq e => hrr q (hs6.own_ge q hq).1 e))
            have HK7 := Lib.hid (hk6w.setCell (p := ⟨w2.heap.size, 0, none⟩) (.inl rfl) (.slice A6 (j + 1) c6))
            clear kS hs6 hk6 hk6' hk6w x0 x1 x2 x3 u0 u1 kk hk
            go_wp2
            go_roundw
            case rel => exact ⟨j + 1, _, by omega, by go_num, HR7, HS7, HK7⟩
            case measure => simp [intOf]; omega
        · obtain rfl : j = n := by omega
          have hE : (sp 44 [] c).take j = (sp 44 [] c) := List.take_of_length_le (by have := HNN.out; omega)
          rw [hE] at HS
          obtain ⟨g7, cap7, rfl, hat, hcap, hcap2, hge, hgl⟩ := HS.out.at_ (by rw [List.length_map]; exact HPP.out)
          rw [List.length_map, HNN.out] at hat hcap HR
          have HS7 := Lib.hid hat
          have HG7 : Hid (G = catB ((sp 44 [] c).map rd6) 1000000) := Lib.hid (by rw [← HST.out]; exact HG.out.symm)
          have hT := (HT5.out.kp HK.out hTR)
          have HKW := Lib.hid (HK5.out.after HK.out (fun q hq e => by have : q = w2.heap.size := e; omega))
          obtain ⟨r0, r1, r2, r3⟩ := HR.out
          clear hat hE hge hgl hlt
          go_wp2_with fail
          refine (liGood_any (some ⟨g7, 0, none⟩) cap7 j ((sp 44 [] c).map rd6) 1000000 _ HS7.out.sl.rd HS7.out.1 (by omega) G HG7.out).mono ?_
          rintro e w8 ⟨rfl, hk8⟩
          obtain ⟨q0, q1, q2, q3⟩ := hT.kp hk8 (fun h => h)
          obtain ⟨s0, s1, s2, s3⟩ := HR.out.kp hk8 (fun h => h)
          have HS8 := Lib.hid (HS7.out.sl.below hk8.below')
          have HK8 := Lib.hid (HKW.out.nw hk8)
          have hys := HYS.out
          have hy := HY.out
          rw [HST.out] at hy
          have z8 : W.heap.size < w8.heap.size := World.block_lt_of_cell? w8 _ q0
          clear hk8 hT HYS HY r0 r1 r2 r3
          cases G
          · obtain rfl : ys = [] := by rw [hys]; rfl
            obtain rfl : y = 0 := by rw [hy]; rfl
            clear hys hy
            obtain ⟨y0, y1⟩ := two_set _ W.heap.size (.slice none 0 0) (.int .i64 0) _ _ q0 q1
            go_wp2
            refine bodyPost_ret (v := .tuple #[.agg #[.slice none 0 0, .int .i64 0], .bool false]) (by simp [results, Tryd.results22, go_sem, y0, y1]) rfl ⟨_, rfl, Sl.nil _ _, ?_⟩
            exact (HK8.out.setCell (.inr (Nat.le_refl _)) _).setCell (.inr (Nat.le_refl _)) _
          · have HYE : Hid (ys = (sp 44 [] c).map rd6) := Lib.hid (by rw [hys]; rfl)
            obtain rfl : y = 1000000 := by rw [hy]; rfl
            clear hys hy
            obtain ⟨y0, y1⟩ := two_set _ W.heap.size (.slice (some ⟨g7, 0, none⟩) j cap7) (.int .i64 1000000) _ _ q0 q1
            go_wp2
            refine bodyPost_ret (v := .tuple #[.agg #[.slice (some ⟨g7, 0, none⟩) j cap7, .int .i64 1000000], .bool true]) (by simp [results, Tryd.results22, go_sem, y0, y1]) rfl ⟨_, rfl, ?_, ?_⟩
            · rw [HYE.out]
              have k1' : Kp (fun b => b = W.heap.size) w8 w8 := Kp.refl _ _
              exact (HS8.out.kp ((k1'.setCell (.inl rfl) _).setCell (.inl rfl) _) (fun g hg e => by have := (HS8.out.own_ge g hg).1; omega)).from (by omega)
            · exact (HK8.out.setCell (.inr (Nat.le_refl _)) _).setCell (.inr (Nat.le_refl _)) _
    · have HST : Hid (stp a = rd6 a) := Lib.hid (by unfold stp; rw [if_neg hm])
      have hbe : (a == mil) = false := by simpa using hm
      have hbe2 : ¬ a = mil := hm
      have HT3 := Lib.hid (HT2.out.kp (.al w2 (.cells #[.slice none 0 0, .int .i64 (rd6 a)] 28)) (fun h => h))
      have HR3 := Lib.hid (Own2.new w2 (.slice none 0 0) (.int .i64 (rd6 a)) 28)
      have HC1 := Lib.hid (keepc (.al w2 (.cells #[.slice none 0 0, .int .i64 (rd6 a)] 28)) HC1.out (fun h => h))
      have HK2 := Lib.hid (HK2.out.nw (.al w2 (.cells #[.slice none 0 0, .int .i64 (rd6 a)] 28)))
      have hWl : W.heap.size < w2.heap.size := World.block_lt_of_cell? w2 _ HT2.out.1
      go_wp2_with fail
      go_region_held3 (fun w' => w'.cell? ⟨g, 0, none⟩ = some (.string ⟨a.toArray⟩))
        (first
          | exact c0'
          | exact u0
          | fail)
        (first
          | (go_at_call 30
             refine (l1Num_mil _).mono ?_
             rintro e w3 ⟨rfl, hk3⟩
             have u0 := keepc ((Kp.refl Nw _).drew.nw hk3) c0' (fun h => h))
          | fail)
      have hk3' : Kp Nw (w2.alloc (.cells #[.slice none 0 0, .int .i64 (rd6 a)] 28)) w3 := (Kp.refl Nw _).drew.nw hk3
      have HT4 := Lib.hid (HT3.out.kp hk3' (fun h => h))
      have HR4 := Lib.hid (HR3.out.kp hk3' (fun h => h))
      have HC4 := Lib.hid (keepc hk3' HC1.out (fun h => h))
      have HK4 := Lib.hid (HK2.out.nw hk3')
      clear hk3 hk3' HT3 HR3 HC1 HK2
      clear u0 c0' c0
      have c1 := HC4.out
      go_wp2_with fail
      refine (l1Split_any c 44 _ (by omega)).mono ?_
      rintro e w5 ⟨v5, rfl, hs5, hk5⟩
      obtain ⟨g5, cap5, rfl, hc5, hg5, hg5', hcell5⟩ := hs5.at_ HPP.out
      rw [HNN.out] at hc5 hcell5 ⊢
      have HT5 := Lib.hid (HT4.out.kp hk5 (fun h => h))
      have HR5 := Lib.hid (HR4.out.kp hk5 (fun h => h))
      have h5N : ¬ g5 = w2.heap.size := by have h4l := World.block_lt_of_cell? _ _ HR4.out.1; simp only at h4l; omega
      have HK5 := Lib.hid (HK4.out.nw hk5)
      have HC5 := Lib.hid hcell5
      have hRl : w2.heap.size < w5.heap.size := World.block_lt_of_cell? w5 _ HR5.out.1
      clear hs5 hk5 hcell5
      clear HT4 HR4 HK4 HC4 c1
      have hT5 : W.heap.size < w5.heap.size := World.block_lt_of_cell? w5 _ HT5.out.1
      have hTR : ¬ W.heap.size = w2.heap.size := by omega
      have h50 := HC5.out 0 (by have := HPP.out; rw [HNN.out] at this; exact this)
      have h5R : g5 < w5.heap.size := World.block_lt_of_cell? w5 _ h50
      clear h50
      go_wp2
      go_loopw [7, 35] (fun _ i wr => ∃ (j : Nat) (v : Value), j ≤ n ∧ i = .int .i64 j ∧ Hid (Own2 wr w2.heap.size v (.int .i64 (rd6 a))) ∧ Hid (Sl wr w5.heap.size v (((sp 44 [] c).take j).map rd6)) ∧ Hid (Kp (fun b => b = w2.heap.size) w5 wr)) (fun _ i _ => n - (intOf i).toNat)
      case atStart => exact ⟨0, _, Nat.zero_le _, rfl, HR5, Lib.hid (by simpa using Sl.nil _ _), Lib.hid (Kp.refl _ _)⟩
      case round =>
        rename_i wr
        obtain ⟨j, v, hj, rfl, HR, HS, HK⟩ := hrel
        have j0 : (0 : Int) ≤ j := Int.natCast_nonneg _
        by_cases hlt : j < n
        · have j1 : (j : Int) < n := by omega
          have hl' : j < (sp 44 [] c).length := by rw [HNN.out]; exact hlt
          obtain ⟨p, hp⟩ : ∃ p, (sp 44 [] c).getD j [] = p := ⟨_, rfl⟩
          have cp := keepc HK.out (HC5.out j hlt) (show ¬ g5 = w2.heap.size from h5N)
          rw [hp] at cp
          have hx : (sp 44 [] c)[j] = p := by rw [← hp]; simp [hl']
          have hpl := HPL.out p (by rw [← hx]; exact List.getElem_mem _)
          have HX : Hid (((sp 44 [] c).take (j + 1)).map rd6 = ((sp 44 [] c).take j).map rd6 ++ [rd6 p]) := Lib.hid (by rw [List.take_succ_eq_append_getElem hl', hx]; simp)
          have HLJ : Hid ((((sp 44 [] c).take j).map rd6).length = j) := Lib.hid (by simp; omega)
          have HTL : Hid ((((sp 44 [] c).take j).map rd6).length ≤ 1001) := Lib.hid (by simp; omega)
          obtain ⟨Av, cv, rfl⟩ := HS.out.val (n := j) (by simp; omega)
          have r0 := HR.out.1
          have hsz := HK.out.size
          have hrl : w2.heap.size < wr.heap.size := World.block_lt_of_cell? wr _ r0
          have hvo : Hid (∀ q, (Value.slice Av j cv).ownBlock = some q → w5.heap.size ≤ q) := Lib.hid (fun q hq => (HS.out.own_ge q hq).1)
          have hrr : ∀ q, w5.heap.size ≤ q → ¬ q = w2.heap.size := fun q hq => by omega
          unfold sval at cp
          clear hp hx hl'
          go_wp2_with fail
          go_region_law (first
            | (go_simp
               go_at_call 35
               refine (l1Read_any p _ (by omega)).mono ?_
               rintro e w5b ⟨rfl, hk⟩
               have kk : Kp Nw wr w5b := (Kp.refl Nw _).drew.nw hk
               have u0 := keepc kk r0 (fun h => h)
               have u1 := keepc (.al w5b (.cells #[.int .i64 (rd6 p)] 3)) u0 (fun h => h))
            | (refine step_app _ (by rfl) (.tmp 40) (.tmp 43) (by rfl) w5.heap.size (.slice Av j cv) _ (((sp 44 [] c).take j).map rd6) [rd6 p] (by rfl) (by rfl) ((HS.out.below kk.below').below (Kp.al _ _).below') (Rd.one (by simp)) nil_one (by have := HTL.out; simp only [List.length_singleton]; omega) (by have := kk.size; simp; omega) ?_
               intro v6 w6 hs6 hk6 ho6
               obtain ⟨A6, c6, rfl⟩ := hs6.val (n := j + 1) (by rw [List.length_append, HLJ.out]; rfl)
               have hk6w := ((HK.out.nw kk).nw (.al _ _)).after hk6 (fun q hq e => by have := hvo.out q e; omega)
               have hk6' := (((Kp.refl (fun b => (Value.slice Av j cv).ownBlock = some b) wr).nw kk).nw (.al _ _)).after hk6 (fun q hq e => e)
               have x6 := HR.out.kp hk6' (fun e => hrr _ (hvo.out _ e) rfl)
               obtain ⟨x0, x1, x2, x3⟩ := x6))
          all_goals
            rw [← HX.out] at hs6
            have kS : Kp (fun b => b = w2.heap.size) w6 (w6.setCell ⟨w2.heap.size, 0, none⟩ (.slice A6 (j + 1) c6)) := (Kp.refl (fun b => b = w2.heap.size) w6).setCell (p := ⟨w2.heap.size, 0, none⟩) (.inl rfl) _
            have HR7 := Lib.hid (show Own2 (w6.setCell ⟨w2.heap.size, 0, none⟩ (.slice A6 (j + 1) c6)) w2.heap.size (.slice A6 (j + 1) c6) (.int .i64 (rd6 a)) from ⟨World.cell?_setCell_same _ _ _ x0, (World.cell?_setCell_other _ _ _ _ (by simp)).trans x1, by simpa using x2, by simpa using x3⟩)
            have HS7 := Lib.hid (hs6.kp kS (fun q hq e => hrr q (hs6.own_ge q hq).1 e))
            have HK7 := Lib.hid (hk6w.setCell (p := ⟨w2.heap.size, 0, none⟩) (.inl rfl) (.slice A6 (j + 1) c6))
            clear kS hs6 hk6 hk6' hk6w x0 x1 x2 x3 u0 u1 kk hk
            go_wp2
            go_roundw
            case rel => exact ⟨j + 1, _, by omega, by go_num, HR7, HS7, HK7⟩
            case measure => simp [intOf]; omega
        · obtain rfl : j = n := by omega
          have hE : (sp 44 [] c).take j = (sp 44 [] c) := List.take_of_length_le (by have := HNN.out; omega)
          rw [hE] at HS
          obtain ⟨g7, cap7, rfl, hat, hcap, hcap2, hge, hgl⟩ := HS.out.at_ (by rw [List.length_map]; exact HPP.out)
          rw [List.length_map, HNN.out] at hat hcap HR
          have HS7 := Lib.hid hat
          have HG7 : Hid (G = catB ((sp 44 [] c).map rd6) (rd6 a)) := Lib.hid (by rw [← HST.out]; exact HG.out.symm)
          have hT := (HT5.out.kp HK.out hTR)
          have HKW := Lib.hid (HK5.out.after HK.out (fun q hq e => by have : q = w2.heap.size := e; omega))
          obtain ⟨r0, r1, r2, r3⟩ := HR.out
          clear hat hE hge hgl hlt
          go_wp2_with fail
          refine (liGood_any (some ⟨g7, 0, none⟩) cap7 j ((sp 44 [] c).map rd6) (rd6 a) _ HS7.out.sl.rd HS7.out.1 (by omega) G HG7.out).mono ?_
          rintro e w8 ⟨rfl, hk8⟩
          obtain ⟨q0, q1, q2, q3⟩ := hT.kp hk8 (fun h => h)
          obtain ⟨s0, s1, s2, s3⟩ := HR.out.kp hk8 (fun h => h)
          have HS8 := Lib.hid (HS7.out.sl.below hk8.below')
          have HK8 := Lib.hid (HKW.out.nw hk8)
          have hys := HYS.out
          have hy := HY.out
          rw [HST.out] at hy
          have z8 : W.heap.size < w8.heap.size := World.block_lt_of_cell? w8 _ q0
          clear hk8 hT HYS HY r0 r1 r2 r3
          cases G
          · obtain rfl : ys = [] := by rw [hys]; rfl
            obtain rfl : y = 0 := by rw [hy]; rfl
            clear hys hy
            obtain ⟨y0, y1⟩ := two_set _ W.heap.size (.slice none 0 0) (.int .i64 0) _ _ q0 q1
            go_wp2
            refine bodyPost_ret (v := .tuple #[.agg #[.slice none 0 0, .int .i64 0], .bool false]) (by simp [results, Tryd.results22, go_sem, y0, y1]) rfl ⟨_, rfl, Sl.nil _ _, ?_⟩
            exact (HK8.out.setCell (.inr (Nat.le_refl _)) _).setCell (.inr (Nat.le_refl _)) _
          · have HYE : Hid (ys = (sp 44 [] c).map rd6) := Lib.hid (by rw [hys]; rfl)
            obtain rfl : y = (rd6 a) := by rw [hy]; rfl
            clear hys hy
            obtain ⟨y0, y1⟩ := two_set _ W.heap.size (.slice (some ⟨g7, 0, none⟩) j cap7) (.int .i64 (rd6 a)) _ _ q0 q1
            go_wp2
            refine bodyPost_ret (v := .tuple #[.agg #[.slice (some ⟨g7, 0, none⟩) j cap7, .int .i64 (rd6 a)], .bool true]) (by simp [results, Tryd.results22, go_sem, y0, y1]) rfl ⟨_, rfl, ?_, ?_⟩
            · rw [HYE.out]
              have k1' : Kp (fun b => b = W.heap.size) w8 w8 := Kp.refl _ _
              exact (HS8.out.kp ((k1'.setCell (.inl rfl) _).setCell (.inl rfl) _) (fun g hg e => by have := (HS8.out.own_ge g hg).1; omega)).from (by omega)
            · exact (HK8.out.setCell (.inr (Nat.le_refl _)) _).setCell (.inr (Nat.le_refl _)) _

end Go.Proofs.YtaejlhdbdjfccaaDoor
