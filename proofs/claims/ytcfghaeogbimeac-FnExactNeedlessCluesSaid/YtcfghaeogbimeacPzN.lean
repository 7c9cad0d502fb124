/- NeedlessClues in the model, told by plain values; no condition. -/
import Derived.Test.YtcfghaeogbimeacPzE
import Derived.Test.YtcfghaeogbimeacWith
namespace Go.Proofs.Ytcfghaeogbimeac
open Go.ChangeShapes Go.WideShapes Go.ChangeAt Go.RowKit

/-- the first indices without whose clue there are as many solutions -/
def needT (ps : List Cu) : Nat → List Int
  | 0 => []
  | j + 1 => if (solA (wo ps j) 10).length = (solA ps 10).length then needT ps j ++ [(j : Int)] else needT ps j
theorem needT_len (ps : List Cu) : ∀ j, (needT ps j).length ≤ j
  | 0 => Nat.le_refl _
  | j + 1 => by
    have := needT_len ps j
    rw [needT]
    split
    · rw [List.length_append, List.length_singleton]; omega
    · omega
def vNeed (ps : List Cu) : List Int × Bool := if puzB ps = true then (needT ps ps.length, true) else ([], false)
theorem vNeed_len (ps : List Cu) : (vNeed ps).1.length ≤ 1000000 := by
  unfold vNeed
  split
  · rename_i h
    have := (puz_parts h).1
    have := needT_len ps ps.length
    simp only
    omega
  · exact Nat.zero_le _
set_option maxRecDepth 100000 in
set_option maxHeartbeats 3200000 in
theorem sNeedlessClues_any (g n B : Nat) (ps : List Cu) (W : World) (hs : ClAt W B g n n ps) (hm : n ≤ maxLen) :
    Calls Try.prog 17 #[.agg #[.slice (some ⟨g, 0, none⟩) n n]] W (ListB W (vNeed ps).1 (vNeed ps).2) := by
  have HU := Lib.hid hs.cl.rd
  have HN := Lib.hid hs.1
  obtain ⟨b, hb⟩ : ∃ b, puzB ps = b := ⟨_, rfl⟩
  have HG := Lib.hid (pzGood_any (some ⟨g, 0, none⟩) n n ps (W.alloc (.cells #[.slice (some ⟨g, 0, none⟩) n n] 31)) (hs.cl.rd.nw (.al _ _)) hs.1 hm b hb.symm)
  have HB := Lib.hid hb
  obtain ⟨r, hr⟩ : ∃ r, vNeed ps = r := ⟨_, rfl⟩
  rw [hr]
  have HC1 := Lib.hid (Own1.new W (.slice (some ⟨g, 0, none⟩) n n) 31).1
  cases b
  · have HR : Hid (r = ([], false)) := Lib.hid (by rw [← hr]; unfold vNeed; rw [if_neg (fun h => by rw [hb] at h; cases h)])
    clear hs hb hr
    go_enter Try.func17, Try.ntmps17
    go_wp2_with fail
    refine HG.out.mono ?_
    rintro e w1 ⟨rfl, hk1⟩
    have HK1 := Lib.hid ((Kp.al W _).nw hk1)
    clear hk1
    go_wp2
    go_ret2
    rw [HR.out]
    exact ⟨_, rfl, Sl.nil _ _, HK1.out⟩
  · have HR : Hid (r = (needT ps n, true)) := Lib.hid (by rw [← hr]; unfold vNeed; rw [if_pos hb, HN.out])
    clear hs hb hr
    obtain ⟨h6, hall⟩ := puz_parts HB.out
    have h7 : n ≤ 6 := by have := HN.out; omega
    have n0 : (0 : Int) ≤ n := Int.natCast_nonneg _
    obtain ⟨q0, hq0⟩ : ∃ q0, (solA ps 10).length = q0 := ⟨_, rfl⟩
    have HQ0 := Lib.hid hq0
    clear hq0
    go_enter Try.func17, Try.ntmps17
    go_wp2_with fail
    refine HG.out.mono ?_
    rintro e w1 ⟨rfl, hk1⟩
    have c1 := keepc hk1 HC1.out (fun h => h)
    have HC2 := Lib.hid c1
    have HK1 := Lib.hid ((Kp.al W _).nw hk1)
    have hW1 : W.heap.size < w1.heap.size := World.block_lt_of_cell? w1 _ HC2.out
    clear hk1
    go_wp2_with fail
    refine (pzAll_any (some ⟨g, 0, none⟩) n n ps _ (HU.out.nw HK1.out) HN.out h7 hall).mono ?_
    rintro e wa ⟨va, rfl, hsa, hka⟩
    obtain ⟨Aa, ca, rfl⟩ := hsa.val HQ0.out
    have HKA := Lib.hid (HK1.out.nw hka)
    have ca2 := keepc hka HC2.out (fun h => h)
    have HCA := Lib.hid ca2
    have hWa : W.heap.size < wa.heap.size := World.block_lt_of_cell? wa _ ca2
    clear hsa hka c1
    go_wp2
    go_loopw [4, 17] (fun o i wy => ∃ (j : Nat) (v : Value) (wr : World), j ≤ n ∧ i = .int .i64 j ∧ v = o ∧ wr = wy ∧ Hid (Sl wr wa.heap.size v (needT ps j)) ∧ Hid (wr.cell? ⟨W.heap.size, 0, none⟩ = some (.slice (some ⟨g, 0, none⟩) n n)) ∧ Hid (Kp Nw wa wr)) (fun _ i _ => n - (intOf i).toNat)
    case atStart => exact ⟨0, _, _, Nat.zero_le _, rfl, rfl, rfl, Lib.hid (Sl.nil _ _), HCA, Lib.hid (Kp.refl _ _)⟩
    case round =>
      obtain ⟨j, v, wr, hj, rfl, rfl, rfl, HS, HC, HK⟩ := hrel
      have j0 : (0 : Int) ≤ j := Int.natCast_nonneg _
      have hc := HC.out
      by_cases hlt : j < n
      · have j1 : (j : Int) < n := by omega
        have hwl : (wo ps j).length = n - 1 := by have := wo_len ps j (by rw [HN.out]; exact hlt); rw [HN.out] at this; omega
        have HWL := Lib.hid hwl
        have HNX : Hid (needT ps (j + 1) = if (solA (wo ps j) 10).length = q0 then needT ps j ++ [(j : Int)] else needT ps j) := Lib.hid (by rw [← HQ0.out]; rfl)
        obtain ⟨q2, hq2⟩ : ∃ q2, (solA (wo ps j) 10).length = q2 := ⟨_, rfl⟩
        rw [hq2] at HNX
        have HQ2 := Lib.hid hq2
        have hnl := needT_len ps j
        clear hq2 hwl
        go_wp2_with fail
        refine (pzWithout_any g n n j ps _ (HU.out.nw (HKA.out.nw HK.out)) HN.out (Nat.le_refl _) hlt (by omega)).mono ?_
        rintro e w2 ⟨v2, rfl, hs2, hk2⟩
        obtain ⟨A2, c2, rfl⟩ := hs2.val HWL.out
        have HS2 := Lib.hid hs2.cl.rd
        have HK2 := Lib.hid (HK.out.nw hk2)
        have HV2 := Lib.hid (HS.out.below hk2.below')
        have HC2 := Lib.hid (keepc hk2 HC.out (fun h => h))
        clear hs2 hk2 hc
        go_wp2_with fail
        refine (pzAll_any A2 (n - 1) c2 (wo ps j) _ HS2.out HWL.out (by omega) (wo_all ps j hall)).mono ?_
        rintro e w3 ⟨v3, rfl, hs3, hk3⟩
        obtain ⟨A3, c3, rfl⟩ := hs3.val HQ2.out
        have HK3 := Lib.hid (HK2.out.nw hk3)
        have HS3 := Lib.hid (HV2.out.below hk3.below')
        have HC3 := Lib.hid (keepc hk3 HC2.out (fun h => h))
        have hz3 : wa.heap.size ≤ w3.heap.size := HK3.out.size
        clear hs3 hk3
        by_cases heq : q2 = q0
        · rw [if_pos heq] at HNX
          subst heq
          go_wp2_with (first | (at_builtin; refine wpList_app _ rfl (.tmp 28) (.tmp 30) rfl wa.heap.size v _ (needT ps j) [(j : Int)] rfl rfl (HS3.out.below (Kp.al _ _).below') (Rd.one (g := w3.heap.size) (by simp)) nil_one (by simp; omega) (by simp; omega) ?_))
          intro v5 w5 hs5 hk5 hat5
          have HS5 := Lib.hid hs5
          have hvb : ∀ b, v.ownBlock = some b → wa.heap.size ≤ b := fun b hb => (HS3.out.own_ge b hb).1
          have HK5 := Lib.hid ((HK3.out.nw (.al _ _)).after hk5 (fun g hg e => by have := hvb g e; omega))
          have HC5 := Lib.hid (keepc hk5 (keepc (Kp.al w3 _) HC3.out (fun h => h)) (fun e => by have := hvb W.heap.size e; omega))
          clear hs5 hk5 hat5 hvb
          go_wp2
          go_roundw
          case rel => exact ⟨j + 1, _, _, by omega, by go_num, rfl, rfl, Lib.hid (by rw [HNX.out]; exact HS5.out), HC5, HK5⟩
          case measure => simp [intOf]; omega
        · rw [if_neg heq] at HNX
          have y1 : ¬ (q2 : Int) = q0 := by omega
          have y2 : ((q2 : Int) == q0) = false := by simpa using y1
          go_wp2
          go_roundw
          case rel => exact ⟨j + 1, _, _, by omega, by go_num, rfl, rfl, Lib.hid (by rw [HNX.out]; exact HS3.out), HC3, HK3⟩
          case measure => simp [intOf]; omega
      · have e : j = n := by omega
        subst e
        have HS9 := Lib.hid (HS.out.from (B' := W.heap.size) HKA.out.size)
        go_wp2
        go_ret2
        rw [HR.out]
        exact ⟨_, rfl, HS9.out, HKA.out.nw HK.out⟩
end Go.Proofs.Ytcfghaeogbimeac
