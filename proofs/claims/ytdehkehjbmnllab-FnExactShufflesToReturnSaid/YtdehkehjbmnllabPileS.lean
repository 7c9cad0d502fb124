/- A pile that is shuffled by a kind (shufflePile: monge, turned back), and a deck (shuffle), in the program; no condition but on lengths. -/
import Derived.Test.YtdehkehjbmnllabPileC
namespace Go.Proofs.Ytdehkehjbmnllab
open Go.ChangeShapes Go.WideShapes Go.ChangeAt Go.RowKit

def ShufB (W : World) (L : List Int) (e : Ending) (w' : World) : Prop := ∃ v, e = .returned (.tuple #[v, .bool true]) ∧ PileV v L ∧ Kp Nw W w'
theorem two_new (W : World) (c Z : List Int) (n : Nat) (w2 : World) (hw : w2 = ((W.alloc (.cells (plc c n).toArray 38)).alloc (.cells (plc Z 0).toArray 38))) :
    Pb w2 W.heap.size c n ∧ Pb w2 (W.heap.size + 1) Z 0 ∧ Kp Nw W w2 := by
  subst hw
  have h0 := Pb.new W c n
  have h1 := Pb.new (W.alloc (.cells (plc c n).toArray 38)) Z 0
  simp only [World.size_alloc] at h1
  exact ⟨h0.kp (.al _ _) (fun h => h), h1, (Kp.al W _).nw (.al _ _)⟩

set_option maxRecDepth 100000 in
set_option maxHeartbeats 3200000 in
theorem shufflePile_monge (v : Value) (xs : List Int) (W : World) (hv : PileV v xs) :
    Calls Try.prog 28 #[v, .int .i64 1] W (ShufB W (monge xs)) := by
  obtain ⟨c, hg, rfl⟩ := hv
  obtain ⟨n, hn⟩ : ∃ n, xs.length = n := ⟨_, rfl⟩
  have VX : Hid (PileV (.agg (plc c n).toArray) xs) := Lib.hid ⟨c, hg, by rw [hn]⟩
  rw [hn]
  obtain ⟨Z, hZ, hz⟩ := zero_pile
  have hl1 : (plc Z 0).length = 105 := by rw [plc_length, hZ.1]
  have hl2 : (plc c n).length = 105 := by rw [plc_length, hg.1]
  obtain ⟨w2, hw2⟩ : ∃ w2, w2 = ((W.alloc (.cells (plc c n).toArray 38)).alloc (.cells (plc Z 0).toArray 38)) := ⟨_, rfl⟩
  obtain ⟨p0, p1, k2⟩ := two_new W c Z n w2 hw2
  have P0 := Lib.hid p0
  have P1 := Lib.hid p1
  have K2 := Lib.hid k2
  have HZ := Lib.hid hZ
  have HG := Lib.hid hg
  have HN := Lib.hid hn
  have HW := Lib.hid hw2
  clear hg p0 p1 k2 hZ hn hw2
  go_enter Try.func28, Try.ntmps28
  go_wp2_with fail
  rw [← HW.out]
  refine wp_load_pile (.tmp 2) rfl W.heap.size rfl _ n P0.out HG.out.1 ?_
  go_wp2_with fail
  refine (monge_any _ xs _ VX.out).mono ?_
  rintro e w3 ⟨v3, rfl, ⟨c3, g3, rfl⟩, hk3⟩
  have el : (monge xs).length = n := by unfold monge; rw [monN_length, HN.out]
  rw [el]
  have b3 := P1.out.kp hk3 (fun h => h)
  have hst := run_storeCells_pile (n' := n) b3 HZ.out.1 g3.1
  have hl3 : (plc c3 n).length = 105 := by rw [plc_length, g3.1]
  have HR : Hid (Pb (w3.setRow (W.heap.size + 1) (plc c3 n).toArray) (W.heap.size + 1) c3 n) := Lib.hid (setRow_heap _ _ _ _ _ _ b3)
  have HK := Lib.hid ((K2.out.nw hk3).setRow (.inr (by omega : W.heap.size ≤ W.heap.size + 1)) (plc c3 n).toArray)
  have G3 := Lib.hid g3
  have EL := Lib.hid el
  clear b3 hk3 g3 el
  go_wp2
  refine bodyPost_ret (v := .tuple #[.agg (plc c3 n).toArray, .bool true]) ?_ rfl ?_
  · rw [results_cell_tmp rfl]
    have h9 := run_load_pile HR.out G3.out.1
    simp [asAddr, Result.andThen, h9]
  · exact ⟨_, rfl, ⟨_, G3.out, by rw [EL.out]⟩, HK.out⟩

set_option maxRecDepth 100000 in
set_option maxHeartbeats 3200000 in
theorem shufflePile_turnBack (v : Value) (xs : List Int) (W : World) (hv : PileV v xs) :
    Calls Try.prog 28 #[v, .int .i64 2] W (ShufB W (xs.reverse)) := by
  obtain ⟨c, hg, rfl⟩ := hv
  obtain ⟨n, hn⟩ : ∃ n, xs.length = n := ⟨_, rfl⟩
  have VX : Hid (PileV (.agg (plc c n).toArray) xs) := Lib.hid ⟨c, hg, by rw [hn]⟩
  rw [hn]
  obtain ⟨Z, hZ, hz⟩ := zero_pile
  have hl1 : (plc Z 0).length = 105 := by rw [plc_length, hZ.1]
  have hl2 : (plc c n).length = 105 := by rw [plc_length, hg.1]
  obtain ⟨w2, hw2⟩ : ∃ w2, w2 = ((W.alloc (.cells (plc c n).toArray 38)).alloc (.cells (plc Z 0).toArray 38)) := ⟨_, rfl⟩
  obtain ⟨p0, p1, k2⟩ := two_new W c Z n w2 hw2
  have P0 := Lib.hid p0
  have P1 := Lib.hid p1
  have K2 := Lib.hid k2
  have HZ := Lib.hid hZ
  have HG := Lib.hid hg
  have HN := Lib.hid hn
  have HW := Lib.hid hw2
  clear hg p0 p1 k2 hZ hn hw2
  go_enter Try.func28, Try.ntmps28
  go_wp2_with fail
  rw [← HW.out]
  refine wp_load_pile (.tmp 2) rfl W.heap.size rfl _ n P0.out HG.out.1 ?_
  go_wp2_with fail
  refine (turnBack_any _ xs _ VX.out).mono ?_
  rintro e w3 ⟨v3, rfl, ⟨c3, g3, rfl⟩, hk3⟩
  have el : (xs.reverse).length = n := by rw [List.length_reverse, HN.out]
  rw [el]
  have b3 := P1.out.kp hk3 (fun h => h)
  have hst := run_storeCells_pile (n' := n) b3 HZ.out.1 g3.1
  have hl3 : (plc c3 n).length = 105 := by rw [plc_length, g3.1]
  have HR : Hid (Pb (w3.setRow (W.heap.size + 1) (plc c3 n).toArray) (W.heap.size + 1) c3 n) := Lib.hid (setRow_heap _ _ _ _ _ _ b3)
  have HK := Lib.hid ((K2.out.nw hk3).setRow (.inr (by omega : W.heap.size ≤ W.heap.size + 1)) (plc c3 n).toArray)
  have G3 := Lib.hid g3
  have EL := Lib.hid el
  clear b3 hk3 g3 el
  go_wp2
  refine bodyPost_ret (v := .tuple #[.agg (plc c3 n).toArray, .bool true]) ?_ rfl ?_
  · rw [results_cell_tmp rfl]
    have h9 := run_load_pile HR.out G3.out.1
    simp [asAddr, Result.andThen, h9]
  · exact ⟨_, rfl, ⟨_, G3.out, by rw [EL.out]⟩, HK.out⟩

set_option maxRecDepth 100000 in
set_option maxHeartbeats 3200000 in
theorem shuffle_of (k : Int) (g n B : Nat) (xs L' : List Int) (W : World) (hs : SlAt W B g n n xs) (hl : n ≤ 1048576) (hL : L'.length = xs.length)
    (hk : Hid (∀ (v : Value) (W : World), PileV v xs → Calls Try.prog 28 #[v, .int .i64 k] W (ShufB W L'))) :
    Calls Try.prog 21 #[.slice (some ⟨g, 0, none⟩) n n, .int .i64 k] W (ListB W (if deckB xs = true then (L', true) else ([], false)).1 (if deckB xs = true then (L', true) else ([], false)).2) := by
  have HRD := Lib.hid hs.sl.rd
  have HN : Hid (xs.length = n) := Lib.hid hs.1
  have HL' : Hid (L'.length = n) := Lib.hid (by rw [hL]; exact hs.1)
  have n0 : (0 : Int) ≤ n := Int.natCast_nonneg _
  clear hs hL
  by_cases hb : deckB xs = true
  · rw [if_pos hb]
    have HB := Lib.hid hb
    clear hb
    obtain ⟨h1, h104, _, _⟩ := deckB_parts HB.out
    rw [HN.out] at h1 h104
    obtain ⟨Z, hZ, hz⟩ := zero_pile
    have HZ := Lib.hid hZ
    have hl1 : (plc Z 0).length = 105 := by rw [plc_length, hZ.1]
    clear hZ
    have HK0 : Hid (Kp Nw W W) := Lib.hid (Kp.refl _ _)
    go_enter Try.func21, Try.ntmps21
    go_wp2_with fail
    refine (isDeck_any (some ⟨g, 0, none⟩) n n xs _ (HRD.out.nw HK0.out) HN.out (by omega)).mono ?_
    rintro e w1 ⟨rfl, hk⟩
    rw [HB.out]
    have HK1 := Lib.hid (HK0.out.nw hk)
    clear hk
    go_wp2_with fail
    refine (pileOf_any (some ⟨g, 0, none⟩) n n xs _ (HRD.out.nw HK1.out) HN.out h104).mono ?_
    rintro e w2 ⟨vp, rfl, hvp, hk⟩
    have HVP := Lib.hid hvp
    have HK2 := Lib.hid (HK1.out.nw hk)
    clear hk hvp
    go_wp2_with fail
    refine (hk.out vp _ HVP.out).mono ?_
    rintro e w3 ⟨vd, rfl, ⟨cd, gd, rfl⟩, hkk⟩
    have HK3 := Lib.hid (HK2.out.nw hkk)
    clear hkk
    obtain ⟨L, hL⟩ : ∃ L, L = L' := ⟨_, rfl⟩
    rw [← hL] at gd ⊢
    have hLn : L.length = n := by rw [hL]; exact HL'.out
    rw [hLn]
    obtain ⟨wn, hst, hpn, hkn, hl5⟩ := new_pile w3 Z cd L n HZ.out.1 gd hLn
    have HP := Lib.hid hpn
    have HLN := Lib.hid hLn
    have HL := Lib.hid hL
    have hb5 : w3.heap.size < wn.heap.size := hpn.lt
    have HK4 := Lib.hid (HK3.out.nw hkn)
    clear hpn hkn gd hLn hL
    go_wp2_with fail
    refine (list_any w3.heap.size L _ HP.out (by rw [HLN.out]; exact h1)).mono ?_
    rintro e w5 ⟨vl, rfl, hs, hk⟩
    have HS : Hid (Sl w5 W.heap.size vl L) := Lib.hid (hs.from HK4.out.size)
    have HK5 := Lib.hid (HK4.out.nw hk)
    clear hk hs
    go_wp2
    go_ret2
    rw [← HL.out]
    exact ⟨_, rfl, HS.out, HK5.out⟩
  · rw [if_neg hb]
    have HB := Lib.hid (show deckB xs = false by simpa using hb)
    clear hb
    have HK0 : Hid (Kp Nw W W) := Lib.hid (Kp.refl _ _)
    go_enter Try.func21, Try.ntmps21
    go_wp2_with fail
    refine (isDeck_any (some ⟨g, 0, none⟩) n n xs _ (HRD.out.nw HK0.out) HN.out (by omega)).mono ?_
    rintro e w1 ⟨rfl, hk⟩
    rw [HB.out]
    have HK1 := Lib.hid (HK0.out.nw hk)
    clear hk
    go_wp2
    go_ret2
    exact ⟨_, rfl, Sl.nil _ _, HK1.out⟩

end Go.Proofs.Ytdehkehjbmnllab
