/- FirstSolution in the program, told by plain values; no condition. -/
import Derived.Test.YtcfghaeogbimeabPzF
import Derived.Test.YtcfghaeogbimeabISol
namespace Go.Proofs.Ytcfghaeogbimeab
open Go.ChangeShapes Go.WideShapes Go.ChangeAt Go.RowKit

set_option maxRecDepth 100000 in
set_option maxHeartbeats 1600000 in
theorem iFirstSolution_any (A : Option Addr) (n c : Nat) (ps : List Cu) (W : World) (hu : RdC W (.slice A n c) ps) (hn : ps.length = n) (hm : n ≤ maxLen) :
    Calls Try.prog 18 #[.agg #[.slice A n c]] W (Int2B W (vFirst ps).1 (vFirst ps).2.1 (vFirst ps).2.2) := by
  obtain ⟨r, hrr⟩ : ∃ r, vFirst ps = r := ⟨_, rfl⟩
  have HRR := Lib.hid hrr
  rw [hrr]
  clear hrr
  have HG := Lib.hid (iSolutions_any A n c ps (W.alloc (.cells #[.slice A n c] 31)) (hu.nw (.al _ _)) hn hm)
  have htwo := vSol_two ps
  have hlen := vSol_len ps
  clear hu hn
  go_enter Try.func18, Try.ntmps18
  go_wp2_with fail
  refine HG.out.mono ?_
  rintro e w2 ⟨v, rfl, hs, hk2⟩
  have HK2 := Lib.hid ((Kp.al W _).nw hk2)
  obtain ⟨xss, hxss⟩ : ∃ xss, (vSolutions ps).1 = xss := ⟨_, rfl⟩
  rw [hxss] at hs htwo hlen
  obtain ⟨q, hq⟩ : ∃ q, xss.length = q := ⟨_, rfl⟩
  have HL : Hid ((vSolutions ps).1.length = q) := Lib.hid (by rw [hxss]; exact hq)
  have HX := Lib.hid hxss
  have HQ := Lib.hid hq
  have HT := Lib.hid htwo
  obtain ⟨A1, d1, rfl⟩ := hs.val hq
  have HS := Lib.hid hs
  rw [hq] at hlen
  clear hs hk2 hq hxss htwo
  by_cases h : q = 0
  · subst h
    have HR : Hid (r = (0, 0, false)) := Lib.hid (by rw [← HRR.out]; unfold vFirst; rw [if_pos HL.out])
    go_wp2
    exact bodyPost_ret (v := .tuple #[.int .i64 0, .int .i64 0, .bool false]) (by simp [results, Try.results18, go_sem]) rfl ⟨by rw [HR.out], HK2.out⟩
  · obtain ⟨g, s, rfl, hcs, hsl, hown⟩ := HS.out.cell 0 (by rw [HQ.out]; omega)
    have h2 := HT.out _ (show xss.getD 0 [] ∈ xss by
      have hjl : 0 < xss.length := by rw [HQ.out]; omega
      rw [List.getD_eq_getElem?_getD, List.getElem?_eq_getElem hjl]
      exact List.getElem_mem hjl)
    obtain ⟨g2, c3, rfl, hat, _⟩ := hsl.at_ (by omega)
    rw [h2] at hcs hat
    have d0 := hat.cell 0 (by omega)
    have d1 := hat.cell 1 (by omega)
    obtain ⟨x, hx⟩ : ∃ x, (xss.getD 0 []).getD 0 0 = x := ⟨_, rfl⟩
    obtain ⟨y, hy⟩ : ∃ y, (xss.getD 0 []).getD 1 0 = y := ⟨_, rfl⟩
    rw [hx] at d0
    rw [hy] at d1
    have HR : Hid (r = (x, y, true)) := Lib.hid (by rw [← HRR.out]; unfold vFirst; rw [if_neg (by rw [HL.out]; exact h), HX.out, hx, hy])
    have q0 : ¬ (q : Int) = 0 := by omega
    have q1 : ((q : Int) == 0) = false := by simpa using q0
    have q2 : (0 : Int) < q := by omega
    have q4 : 0 < q := by omega
    clear hsl hown hat hx hy h2 h
    go_wp2_with fail
    go_region_held3 (fun w' => Kp Nw w2 w' ∧ w'.cell? ⟨g, 0, none⟩ = some (.slice (some ⟨g2, 0, none⟩) 2 c3) ∧ w'.cell? ⟨g2, 0, none⟩ = some (.int .i64 x) ∧ w'.cell? ⟨g2, 1, none⟩ = some (.int .i64 y))
      (first
        | exact ⟨(Kp.refl _ _).drew, hcs, d0, d1⟩
        | fail)
      (fail)
    all_goals
      go_wp2
      exact bodyPost_ret (v := .tuple #[.int .i64 x, .int .i64 y, .bool true]) (by simp [results, Try.results18, go_sem]) rfl ⟨by rw [HR.out], HK2.out.nw (Kp.refl _ _).drew⟩
end Go.Proofs.Ytcfghaeogbimeab
