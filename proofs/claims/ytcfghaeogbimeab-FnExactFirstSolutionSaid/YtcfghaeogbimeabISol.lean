/- The program's CountSolutions, IsSolved, Solutions, told by plain values; no condition. -/
import Derived.Test.YtcfghaeogbimeabFitg
import Derived.Test.YtcfghaeogbimeabMPz
namespace Go.Proofs.Ytcfghaeogbimeab
open Go.ChangeShapes Go.WideShapes Go.ChangeAt Go.RowKit

set_option maxRecDepth 100000 in
set_option maxHeartbeats 3200000 in
theorem iCountSolutions_any (A : Option Addr) (n c : Nat) (ps : List Cu) (W : World) (hu : RdC W (.slice A n c) ps) (hn : ps.length = n) (hm : n ≤ maxLen) :
    Calls Try.prog 16 #[.agg #[.slice A n c]] W (IntB W (vCountSol ps).1 (vCountSol ps).2) := by
  have hk0 : Kp Nw W (W.alloc (.cells #[.slice A n c] 31)) := .al _ _
  obtain ⟨b, hb⟩ : ∃ b, puzB ps = b := ⟨_, rfl⟩
  have HC := Lib.hid (cluesOf_any A n c ps _ (hu.nw hk0) hn hm b hb)
  have HN := Lib.hid hn
  have HB := Lib.hid hb
  obtain ⟨r, hr⟩ : ∃ r, vCountSol ps = r := ⟨_, rfl⟩
  rw [hr]
  cases b
  · have HR : Hid (r = (0, false)) := Lib.hid (by rw [← hr]; unfold vCountSol; rw [if_neg (fun h => by rw [hb] at h; cases h)])
    simp only [Bool.false_eq_true, if_false] at HC
    clear hu hn hb hr hk0
    go_enter Try.func16, Try.ntmps16
    go_wp2_with fail
    refine HC.out.mono ?_
    rintro e w1 ⟨rfl, hk1⟩
    have HK1 := Lib.hid ((Kp.al W _).nw hk1)
    clear hk1
    go_wp2
    go_ret2
    rw [HR.out]
    exact ⟨rfl, HK1.out⟩
  · have HR : Hid (r = (((solA ps 10).length : Int), true)) := Lib.hid (by rw [← hr]; unfold vCountSol; rw [if_pos hb])
    simp only [if_true] at HC
    clear hu hn hb hr hk0
    obtain ⟨h6, hall⟩ := puz_parts HB.out
    have h7 : n ≤ 6 := by have := HN.out; omega
    go_enter Try.func16, Try.ntmps16
    go_wp2_with fail
    refine HC.out.mono ?_
    rintro e w1 ⟨v1, rfl, hs1, hk1⟩
    obtain ⟨A1, c1, rfl⟩ := hs1.val HN.out
    have HS1 := Lib.hid hs1.cl
    have HK1 := Lib.hid ((Kp.al W _).nw hk1)
    clear hk1 hs1
    go_wp2_with fail
    obtain ⟨q, hq⟩ : ∃ q, (solA ps 10).length = q := ⟨_, rfl⟩
    have HF := Lib.hid (countFitting_any A1 n c1 ps _ HS1.out.rd HN.out h7 hall)
    rw [hq] at HF HR
    clear hq
    refine HF.out.mono ?_
    rintro e w2 ⟨rfl, hk2⟩
    have HK2 := Lib.hid (HK1.out.nw hk2)
    clear hk2
    go_wp2
    go_ret2
    rw [HR.out]
    exact ⟨rfl, HK2.out⟩

set_option maxRecDepth 100000 in
set_option maxHeartbeats 3200000 in
theorem iSolutions_any (A : Option Addr) (n c : Nat) (ps : List Cu) (W : World) (hu : RdC W (.slice A n c) ps) (hn : ps.length = n) (hm : n ≤ maxLen) :
    Calls Try.prog 9 #[.agg #[.slice A n c]] W (ListSB W (vSolutions ps).1 (vSolutions ps).2) := by
  have hk0 : Kp Nw W (W.alloc (.cells #[.slice A n c] 31)) := .al _ _
  obtain ⟨b, hb⟩ : ∃ b, puzB ps = b := ⟨_, rfl⟩
  have HC := Lib.hid (cluesOf_any A n c ps _ (hu.nw hk0) hn hm b hb)
  have HN := Lib.hid hn
  have HB := Lib.hid hb
  obtain ⟨r, hr⟩ : ∃ r, vSolutions ps = r := ⟨_, rfl⟩
  rw [hr]
  cases b
  · have HR : Hid (r = ([], false)) := Lib.hid (by rw [← hr]; unfold vSolutions; rw [if_neg (fun h => by rw [hb] at h; cases h)])
    simp only [Bool.false_eq_true, if_false] at HC
    clear hu hn hb hr hk0
    go_enter Try.func9, Try.ntmps9
    go_wp2_with fail
    refine HC.out.mono ?_
    rintro e w1 ⟨rfl, hk1⟩
    have HK1 := Lib.hid ((Kp.al W _).nw hk1)
    clear hk1
    go_wp2
    go_ret2
    rw [HR.out]
    exact ⟨_, rfl, SS.nil _ _ _, HK1.out⟩
  · have HR : Hid (r = (solA ps 10, true)) := Lib.hid (by rw [← hr]; unfold vSolutions; rw [if_pos hb])
    simp only [if_true] at HC
    clear hu hn hb hr hk0
    obtain ⟨h6, hall⟩ := puz_parts HB.out
    have h7 : n ≤ 6 := by have := HN.out; omega
    go_enter Try.func9, Try.ntmps9
    go_wp2_with fail
    refine HC.out.mono ?_
    rintro e w1 ⟨v1, rfl, hs1, hk1⟩
    obtain ⟨A1, c1, rfl⟩ := hs1.val HN.out
    have HS1 := Lib.hid hs1.cl
    have HK1 := Lib.hid ((Kp.al W _).nw hk1)
    clear hk1 hs1
    go_wp2_with fail
    refine (fitting_any A1 n c1 ps _ HS1.out.rd HN.out h7 hall).mono ?_
    rintro e w2 ⟨v2, hs2, rfl, hmap, hr2, hk2⟩
    obtain ⟨q, hq⟩ : ∃ q, hs2.length = q := ⟨_, rfl⟩
    obtain ⟨A2, c2, rfl⟩ := hr2.val hq
    have hq1 : q ≤ 120 := by rw [← hq]; have e : hs2.length = (solA ps 10).length := by rw [← hmap, List.length_map]
                             have := solA_len ps 10
                             omega
    have HK2 := Lib.hid (HK1.out.nw hk2)
    have HR2 := Lib.hid hr2
    have HQ := Lib.hid hq
    have HM := Lib.hid hmap
    clear hk2 hr2 hq hmap
    go_wp2
    go_loopw [6, 19] (fun o i wy => ∃ (j : Nat) (v : Value) (wr : World), j ≤ q ∧ i = .int .i64 j ∧ v = o ∧ wr = wy ∧ Hid (SS wr w2.heap.size wr.heap.size v ((hs2.take j).map two)) ∧ Hid (Kp Nw w2 wr)) (fun _ i _ => q - (intOf i).toNat)
    case atStart => exact ⟨0, _, _, Nat.zero_le _, rfl, rfl, rfl, Lib.hid (SS.nil _ _ _), Lib.hid (Kp.refl _ _)⟩
    case round =>
      obtain ⟨j, v, wr, hj, rfl, rfl, rfl, HSS, HKR⟩ := hrel
      have j0 : (0 : Int) ≤ j := Int.natCast_nonneg _
      by_cases hlt : j < q
      · have j1 : (j : Int) < q := by omega
        have hl' : j < hs2.length := by rw [HQ.out]; exact hlt
        obtain ⟨g, rfl, hg, a0, a1, a2⟩ := HR2.out.at3 HQ.out j hlt
        obtain ⟨⟨x, y, za, zn, zc⟩, hx⟩ : ∃ h, hs2.getD j (0, 0, none, 0, 0) = h := ⟨_, rfl⟩
        rw [hx] at a0 a1 a2
        unfold hsl at a2
        simp only at a0 a1 a2
        have e0 := keepc HKR.out a0 (fun h => h)
        have e1 := keepc HKR.out a1 (fun h => h)
        have e2 := keepc HKR.out a2 (fun h => h)
        have HNX : Hid ((hs2.take (j + 1)).map two = (hs2.take j).map two ++ [[x, y]]) := Lib.hid (by
          have e : hs2[j] = (x, y, za, zn, zc) := by rw [← hx]; simp [hl']
          rw [List.take_succ_eq_append_getElem hl', List.map_append, e]
          rfl)
        have HLL : Hid (((hs2.take j).map two).length ≤ 1000) := Lib.hid (by rw [List.length_map, List.length_take]; omega)
        have kb : Kp Nw wr (wr.alloc (.cells #[.int .i64 x, .int .i64 y, .slice za zn zc] 52)) := .al _ _
        have HKB := Lib.hid (HKR.out.nw kb)
        have HSB : Hid (SS (wr.alloc (.cells #[.int .i64 x, .int .i64 y, .slice za zn zc] 52)) w2.heap.size (wr.heap.size + 1) v ((hs2.take j).map two)) := Lib.hid ((HSS.out.nw kb).from (Nat.le_refl _) (Nat.le_succ _))
        have hzb : w2.heap.size ≤ (wr.alloc (.cells #[.int .i64 x, .int .i64 y, .slice za zn zc] 52)).heap.size := HKB.out.size
        have hrow := (Sl.lit2 (wr.alloc (.cells #[.int .i64 x, .int .i64 y, .slice za zn zc] 52)) x y).below (Kp.al _ (.cells #[.slice (some ⟨wr.heap.size + 1, 0, none⟩) 2 2] 50)).below'
        have HRO : Hid (Sl (((wr.alloc (.cells #[.int .i64 x, .int .i64 y, .slice za zn zc] 52)).alloc (.cells #[.int .i64 x, .int .i64 y] 3)).alloc (.cells #[.slice (some ⟨wr.heap.size + 1, 0, none⟩) 2 2] 50)) (wr.alloc (.cells #[.int .i64 x, .int .i64 y, .slice za zn zc] 52)).heap.size (.slice (some ⟨wr.heap.size + 1, 0, none⟩) 2 2) [x, y]) := Lib.hid (by simpa only [World.size_alloc] using hrow)
        have k1 : Kp Nw (wr.alloc (.cells #[.int .i64 x, .int .i64 y, .slice za zn zc] 52)) ((wr.alloc (.cells #[.int .i64 x, .int .i64 y, .slice za zn zc] 52)).alloc (.cells #[.int .i64 x, .int .i64 y] 3)) := .al _ _
        have HC1 : Hid ((((wr.alloc (.cells #[.int .i64 x, .int .i64 y, .slice za zn zc] 52)).alloc (.cells #[.int .i64 x, .int .i64 y] 3)).alloc (.cells #[.slice (some ⟨wr.heap.size + 1, 0, none⟩) 2 2] 50)).cell? ⟨wr.heap.size + 1 + 1, 0, none⟩ = some (.slice (some ⟨wr.heap.size + 1, 0, none⟩) 2 2)) := Lib.hid (by
          have h := (Own1.new ((wr.alloc (.cells #[.int .i64 x, .int .i64 y, .slice za zn zc] 52)).alloc (.cells #[.int .i64 x, .int .i64 y] 3)) (.slice (some ⟨wr.heap.size + 1, 0, none⟩) 2 2) 50).1
          simpa only [World.size_alloc] using h)
        have HK12 := Lib.hid k1
        clear a0 a1 a2 hx hg hl' kb k1 hrow
        go_wp2_with (first | (at_builtin; refine wpList_ss (wr.alloc (.cells #[.int .i64 x, .int .i64 y, .slice za zn zc] 52)) _ rfl (.tmp 23) (.tmp 29) rfl w2.heap.size (wr.heap.size + 1) (wr.heap.size + 1 + 1) v (.slice (some ⟨wr.heap.size + 1, 0, none⟩) 2 2) ((hs2.take j).map two) [x, y] rfl rfl HSB.out (HK12.out.alloc _) (by simp) HRO.out HC1.out (by have := HLL.out; omega) hzb ?_))
        intro v5 w5 hs5 hk5
        have kk : Kp (fun b => v.ownBlock = some b) (wr.alloc (.cells #[.int .i64 x, .int .i64 y, .slice za zn zc] 52)) w5 := ((HK12.out.alloc _).mono (fun _ _ h => h.elim)).trans hk5
        have hown : ∀ g, v.ownBlock = some g → w2.heap.size ≤ g := fun g hg => (HSS.out.own g hg).1
        have HK5 := Lib.hid (HKB.out.after kk (fun g hg e => by have := hown g e; omega))
        have HS5 : Hid (SS w5 w2.heap.size w5.heap.size v5 ((hs2.take (j + 1)).map two)) := Lib.hid (by rw [HNX.out]; first | exact hs5 | (rw [List.map_take]; exact hs5))
        clear hs5 hk5 kk hown
        go_wp2
        go_roundw
        case rel => exact ⟨j + 1, _, _, by omega, by go_num, rfl, rfl, HS5, HK5⟩
        case measure => simp [intOf]; omega
      · have e : j = q := by omega
        subst e
        have HS9 : Hid (SS wr W.heap.size wr.heap.size v (solA ps 10)) := Lib.hid (by
          have h := HSS.out
          rw [List.take_of_length_le (by rw [HQ.out]; exact Nat.le_refl _), HM.out] at h
          exact h.from HK2.out.size (Nat.le_refl _))
        go_wp2
        go_ret2
        rw [HR.out]
        exact ⟨_, rfl, HS9.out, HK2.out.nw HKR.out⟩
end Go.Proofs.Ytcfghaeogbimeab
