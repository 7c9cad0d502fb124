/- The model's DoesFit, Solutions, CountSolutions, IsSolved, told by plain values; no condition. -/
import Derived.Test.YtcfghaeogbimeaaPzC
import Derived.Test.YtcfghaeogbimeaaLwO7
import Derived.Test.YtcfghaeogbimeaaSS
import Derived.Test.YtcfghaeogbimeaaRes
namespace Go.Proofs.Ytcfghaeogbimeaa
open Go.ChangeShapes Go.WideShapes Go.ChangeAt Go.RowKit

theorem puz_parts {ps : List Cu} (h : puzB ps = true) : ps.length ≤ 6 ∧ ps.all cluB = true := by
  unfold puzB at h
  rw [Bool.and_eq_true, decide_eq_true_eq] at h
  exact h
theorem box3 (W : World) (p : Cu) {w' : World} (hk : Kp Nw (W.alloc (.cells #[.int .i64 p.1, .int .i64 p.2.1, .int .i64 p.2.2] 25)) w') : At3 w' W.heap.size 0 p := by
  have h : At3 (W.alloc (.cells #[.int .i64 p.1, .int .i64 p.2.1, .int .i64 p.2.2] 25)) W.heap.size 0 p := by
    refine ⟨?_, ?_, ?_⟩ <;> simp [World.cell?_alloc_at]
  exact h.kp hk (fun h => h)

set_option maxRecDepth 100000 in
set_option maxHeartbeats 1600000 in
theorem sDoesFit_any (p : Cu) (n k : Int) (W : World) : Calls Try.prog 14 #[.agg #[.int .i64 p.1, .int .i64 p.2.1, .int .i64 p.2.2], .int .i64 n, .int .i64 k] W (Bool2B W (vDoesFit p n k).1 (vDoesFit p n k).2) := by
  have HC := Lib.hid (pzClue_any p)
  obtain ⟨b, hb⟩ : ∃ b, cluB p = b := ⟨_, rfl⟩
  rw [hb] at HC
  obtain ⟨d, hd⟩ : ∃ d, hidB n k = d := ⟨_, rfl⟩
  have HH := Lib.hid (pzHidden_any n k)
  rw [hd] at HH
  have HB3 := Lib.hid (fun (w' : World) => box3 W p (w' := w'))
  obtain ⟨r, hr⟩ : ∃ r, vDoesFit p n k = r := ⟨_, rfl⟩
  rw [hr]
  cases b
  · have HR : Hid (r = (false, false)) := Lib.hid (by rw [← hr]; unfold vDoesFit; rw [if_neg (fun h => by rw [hb] at h; cases h.1)])
    obtain ⟨x, y, z⟩ := p
    simp only at HC HB3 ⊢
    clear hb hd hr
    go_enter Try.func14, Try.ntmps14
    go_wp2_with fail
    refine (HC.out _).mono ?_
    rintro e w1 ⟨rfl, hk1⟩
    have HK1 := Lib.hid ((Kp.al W _).nw hk1)
    clear hk1
    go_wp2
    go_ret2
    rw [HR.out]
    exact ⟨rfl, HK1.out⟩
  · cases d
    · have HR : Hid (r = (false, false)) := Lib.hid (by rw [← hr]; unfold vDoesFit; rw [if_neg (fun h => by rw [hd] at h; cases h.2)])
      obtain ⟨x, y, z⟩ := p
      simp only at HC HB3 ⊢
      clear hb hd hr
      go_enter Try.func14, Try.ntmps14
      go_wp2_with fail
      refine (HC.out _).mono ?_
      rintro e w1 ⟨rfl, hk1⟩
      have HK1 := Lib.hid ((Kp.al W _).nw hk1)
      clear hk1
      go_wp2_with fail
      refine (HH.out _).mono ?_
      rintro e w2 ⟨rfl, rfl⟩
      go_wp2
      go_ret2
      rw [HR.out]
      exact ⟨rfl, HK1.out⟩
    · have HR : Hid (r = (fitB p n.toNat k, true)) := Lib.hid (by rw [← hr]; unfold vDoesFit; rw [if_pos ⟨hb, hd⟩])
      unfold hidB at hd
      rw [Bool.and_eq_true, decide_eq_true_eq, decide_eq_true_eq] at hd
      obtain ⟨⟨n1, n2⟩, k1, k2⟩ := hd
      obtain ⟨m, rfl⟩ : ∃ m : Nat, n = m := ⟨n.toNat, by omega⟩
      rw [Int.toNat_natCast] at HR
      have HF := Lib.hid (fun w => pzFits_any p m k w hb (by omega) (by omega) k1 k2)
      obtain ⟨x, y, z⟩ := p
      simp only at HC HB3 HF ⊢
      clear hb hr
      go_enter Try.func14, Try.ntmps14
      go_wp2_with fail
      refine (HC.out _).mono ?_
      rintro e w1 ⟨rfl, hk1⟩
      obtain ⟨b0, b1, b2⟩ := HB3.out w1 hk1
      simp only [Nat.zero_add] at b0 b1 b2
      have HK1 := Lib.hid ((Kp.al W _).nw hk1)
      clear hk1
      go_wp2_with fail
      refine (HH.out _).mono ?_
      rintro e w2 ⟨rfl, rfl⟩
      go_wp2_with fail
      refine (HF.out _).mono ?_
      rintro e w3 ⟨rfl, hk3⟩
      have HK3 := Lib.hid (HK1.out.nw hk3)
      clear hk3
      go_wp2
      go_ret2
      rw [HR.out]
      exact ⟨rfl, HK3.out⟩

def vCountSol (ps : List Cu) : Int × Bool := if puzB ps = true then ((solA ps 10).length, true) else (0, false)
def vSolutions (ps : List Cu) : List (List Int) × Bool := if puzB ps = true then (solA ps 10, true) else ([], false)
def vIsSolved (ps : List Cu) : Bool × Bool := if puzB ps = true then (decide ((solA ps 10).length = 1), true) else (false, false)

end Go.Proofs.Ytcfghaeogbimeaa
