/- LeftByClues in the model, told by plain values; no condition. -/
import Derived.Test.YtcfghaeogbimeadPzE
import Derived.Test.YtcfghaeogbimeadWith
namespace Go.Proofs.Ytcfghaeogbimead
open Go.ChangeShapes Go.WideShapes Go.ChangeAt Go.RowKit

/-- how many circles fit the first clues, none to so many -/
def leftT (ps : List Cu) (m : Nat) : List Int := (List.range m).map fun j => ((solA (ps.take j) 10).length : Int)
theorem leftT_len (ps : List Cu) (m : Nat) : (leftT ps m).length = m := by simp [leftT]
theorem leftT_succ (ps : List Cu) (m : Nat) : leftT ps (m + 1) = leftT ps m ++ [((solA (ps.take m) 10).length : Int)] := by simp [leftT, List.range_succ]
def vLeft (ps : List Cu) : List Int × Bool := if puzB ps = true then (leftT ps (ps.length + 1), true) else ([], false)
theorem vLeft_len (ps : List Cu) : (vLeft ps).1.length ≤ 1000000 := by
  unfold vLeft
  split
  · rename_i h
    have := (puz_parts h).1
    simp only [leftT_len]
    omega
  · exact Nat.zero_le _
theorem take_all {ps : List Cu} (k : Nat) (h : ps.all cluB = true) : (ps.take k).all cluB = true := by
  rw [List.all_eq_true] at h ⊢
  exact fun x hx => h x (List.mem_of_mem_take hx)
set_option maxRecDepth 100000 in
set_option maxHeartbeats 3200000 in
theorem sLeftByClues_any (g n B : Nat) (ps : List Cu) (W : World) (hs : ClAt W B g n n ps) (hm : n ≤ maxLen) :
    Calls Try.prog 16 #[.agg #[.slice (some ⟨g, 0, none⟩) n n]] W (ListB W (vLeft ps).1 (vLeft ps).2) := by
  have HU := Lib.hid hs.cl.rd
  have HN := Lib.hid hs.1
  obtain ⟨b, hb⟩ : ∃ b, puzB ps = b := ⟨_, rfl⟩
  have HG := Lib.hid (pzGood_any (some ⟨g, 0, none⟩) n n ps (W.alloc (.cells #[.slice (some ⟨g, 0, none⟩) n n] 28)) (hs.cl.rd.nw (.al _ _)) hs.1 hm b hb.symm)
  have HB := Lib.hid hb
  obtain ⟨r, hr⟩ : ∃ r, vLeft ps = r := ⟨_, rfl⟩
  rw [hr]
  have HC1 := Lib.hid (Own1.new W (.slice (some ⟨g, 0, none⟩) n n) 28).1
  cases b
  · have HR : Hid (r = ([], false)) := Lib.hid (by rw [← hr]; unfold vLeft; rw [if_neg (fun h => by rw [hb] at h; cases h)])
    clear hs hb hr
    go_enter Try.func16, Try.ntmps16
    go_wp2_with fail
    refine HG.out.mono ?_
    rintro e w1 ⟨rfl, hk1⟩
    have HK1 := Lib.hid ((Kp.al W _).nw hk1)
    clear hk1
    go_wp2
    go_ret2
    rw [HR.out]
    exact ⟨_, rfl, Sl.nil _ _, HK1.out⟩
  · have HR : Hid (r = (leftT ps (n + 1), true)) := Lib.hid (by rw [← hr]; unfold vLeft; rw [if_pos hb, HN.out])
    clear hs hb hr
    obtain ⟨h6, hall⟩ := puz_parts HB.out
    have h7 : n ≤ 6 := by have := HN.out; omega
    have n0 : (0 : Int) ≤ n := Int.natCast_nonneg _
    go_enter Try.func16, Try.ntmps16
    go_wp2_with fail
    refine HG.out.mono ?_
    rintro e w1 ⟨rfl, hk1⟩
    have HC2 := Lib.hid (keepc hk1 HC1.out (fun h => h))
    have HK1 := Lib.hid ((Kp.al W _).nw hk1)
    have hW1 : W.heap.size < w1.heap.size := World.block_lt_of_cell? w1 _ HC2.out
    clear hk1
    go_wp2
    go_loopw [4, 5] (fun o i wy => ∃ (j : Nat) (v : Value) (wr : World), j ≤ n + 1 ∧ i = .int .i64 j ∧ v = o ∧ wr = wy ∧ Hid (Sl wr w1.heap.size v (leftT ps j)) ∧ Hid (wr.cell? ⟨W.heap.size, 0, none⟩ = some (.slice (some ⟨g, 0, none⟩) n n)) ∧ Hid (Kp Nw w1 wr)) (fun _ i _ => n + 1 - (intOf i).toNat)
    case atStart => exact ⟨0, _, _, Nat.zero_le _, rfl, rfl, rfl, Lib.hid (Sl.nil _ _), HC2, Lib.hid (Kp.refl _ _)⟩
    case round =>
      obtain ⟨j, v, wr, hj, rfl, rfl, rfl, HS, HC, HK⟩ := hrel
      have j0 : (0 : Int) ≤ j := Int.natCast_nonneg _
      have hc := HC.out
      by_cases hlt : j ≤ n
      · have j1 : (j : Int) ≤ n := by omega
        have q6 := ccut_to g n n j hlt
        have HP := Lib.hid (pzAll_any (some ⟨g, 0, none⟩) j n (ps.take j) wr (((HU.out.nw (HK1.out.nw HK.out))).takeAd HN.out hlt) (by rw [List.length_take, HN.out]; omega) (by omega) (take_all j hall))
        have HNX := Lib.hid (leftT_succ ps j)
        obtain ⟨q, hq⟩ : ∃ q, (solA (ps.take j) 10).length = q := ⟨_, rfl⟩
        rw [hq] at HNX
        have HQ := Lib.hid hq
        clear hq
        go_wp2_with fail
        refine HP.out.mono ?_
        rintro e w2 ⟨v2, rfl, hs2, hk2⟩
        obtain ⟨A2, c2, rfl⟩ := hs2.val HQ.out
        have HK2 := Lib.hid (HK.out.nw hk2)
        have HS2 := Lib.hid (HS.out.below hk2.below')
        have HC3 := Lib.hid (keepc hk2 HC.out (fun h => h))
        have hz2 : w1.heap.size ≤ w2.heap.size := HK2.out.size
        clear hs2 hk2
        go_wp2_with (first | (at_builtin; refine wpList_app _ rfl (.tmp 16) (.tmp 23) rfl w1.heap.size v _ (leftT ps j) [(q : Int)] rfl rfl (HS2.out.below (Kp.al _ _).below') (Rd.one (g := w2.heap.size) (by simp)) nil_one (by rw [leftT_len]; simp; omega) (by simp; omega) ?_))
        intro v3 w3 hs3 hk3 hat3
        have HS3 := Lib.hid hs3
        have hvb : ∀ b, v.ownBlock = some b → w1.heap.size ≤ b := fun b hb => (HS2.out.own_ge b hb).1
        have HK3 := Lib.hid ((HK2.out.nw (.al _ _)).after hk3 (fun g hg e => by have := hvb g e; omega))
        have HC4 := Lib.hid (keepc hk3 (keepc (Kp.al w2 _) HC3.out (fun h => h)) (fun e => by have := hvb W.heap.size e; omega))
        clear hs3 hk3 hat3 hvb hc
        go_wp2
        go_roundw
        case rel => exact ⟨j + 1, _, _, by omega, by go_num, rfl, rfl, Lib.hid (by rw [HNX.out]; exact HS3.out), HC4, HK3⟩
        case measure => simp [intOf]; omega
      · have e : j = n + 1 := by omega
        subst e
        have HS9 := Lib.hid (HS.out.from (B' := W.heap.size) HK1.out.size)
        go_wp2
        go_ret2
        rw [HR.out]
        exact ⟨_, rfl, HS9.out, HK1.out.nw HK.out⟩
end Go.Proofs.Ytcfghaeogbimead
