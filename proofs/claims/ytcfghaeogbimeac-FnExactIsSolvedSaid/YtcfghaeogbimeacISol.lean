/- The program's CountSolutions, IsSolved, Solutions, told by plain values; no condition. -/
import Derived.Test.YtcfghaeogbimeacFitg
import Derived.Test.YtcfghaeogbimeacMPz
namespace Go.Proofs.Ytcfghaeogbimeac
open Go.ChangeShapes Go.WideShapes Go.ChangeAt Go.RowKit
set_option maxRecDepth 100000 in
set_option maxHeartbeats 3200000 in
theorem iIsSolved_any (A : Option Addr) (n c : Nat) (ps : List Cu) (W : World) (hu : RdC W (.slice A n c) ps) (hn : ps.length = n) (hm : n ≤ maxLen) :
    Calls Try.prog 16 #[.agg #[.slice A n c]] W (Bool2B W (vIsSolved ps).1 (vIsSolved ps).2) := by
  have hk0 : Kp Nw W (W.alloc (.cells #[.slice A n c] 31)) := .al _ _
  obtain ⟨b, hb⟩ : ∃ b, puzB ps = b := ⟨_, rfl⟩
  have HC := Lib.hid (cluesOf_any A n c ps _ (hu.nw hk0) hn hm b hb)
  have HN := Lib.hid hn
  have HB := Lib.hid hb
  obtain ⟨r, hr⟩ : ∃ r, vIsSolved ps = r := ⟨_, rfl⟩
  rw [hr]
  cases b
  · have HR : Hid (r = (false, false)) := Lib.hid (by rw [← hr]; unfold vIsSolved; rw [if_neg (fun h => by rw [hb] at h; cases h)])
    simp only [Bool.false_eq_true, if_false] at HC
    clear hu hn hb hr hk0
    go_enter Try.func16, Try.ntmps16
    go_wp2_with fail
    refine HC.out.mono ?_
    rintro e w1 ⟨rfl, hk1⟩
    have HK1 := Lib.hid ((Kp.al W _).nw hk1)
    clear hk1
    go_wp2
    go_ret2
    rw [HR.out]
    exact ⟨rfl, HK1.out⟩
  · have HR : Hid (r = (decide ((solA ps 10).length = 1), true)) := Lib.hid (by rw [← hr]; unfold vIsSolved; rw [if_pos hb])
    simp only [if_true] at HC
    clear hu hn hb hr hk0
    obtain ⟨h6, hall⟩ := puz_parts HB.out
    have h7 : n ≤ 6 := by have := HN.out; omega
    go_enter Try.func16, Try.ntmps16
    go_wp2_with fail
    refine HC.out.mono ?_
    rintro e w1 ⟨v1, rfl, hs1, hk1⟩
    obtain ⟨A1, c1, rfl⟩ := hs1.val HN.out
    have HS1 := Lib.hid hs1.cl
    have HK1 := Lib.hid ((Kp.al W _).nw hk1)
    clear hk1 hs1
    go_wp2_with fail
    obtain ⟨q, hq⟩ : ∃ q, decide ((solA ps 10).length = 1) = q := ⟨_, rfl⟩
    have HF := Lib.hid (areSolved_any A1 n c1 ps _ HS1.out.rd HN.out h7 hall)
    rw [hq] at HF HR
    clear hq
    refine HF.out.mono ?_
    rintro e w2 ⟨rfl, hk2⟩
    have HK2 := Lib.hid (HK1.out.nw hk2)
    clear hk2
    go_wp2
    go_ret2
    rw [HR.out]
    exact ⟨rfl, HK2.out⟩

end Go.Proofs.Ytcfghaeogbimeac
