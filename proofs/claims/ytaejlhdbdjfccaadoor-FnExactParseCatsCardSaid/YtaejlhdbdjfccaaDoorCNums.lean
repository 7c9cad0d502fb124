/- The program's reading of a list of lives (parseNumbers): the pieces between commas, each a numeral up to 9, at most 40. -/
import Derived.Test.YtaejlhdbdjfccaaDoorNums
namespace Go.Proofs.YtaejlhdbdjfccaaDoor
open Go.ChangeShapes Go.WideShapes Go.ChangeAt Go.RowKit

/-- a numeral up to a bound -/
def okC (p : List UInt8) : Bool := canon p && decide (val p ≤ 9)

/-- what parseNumbers returns -/
def NumsResC (W : World) (ps : List (List UInt8)) (e : Ending) (w' : World) : Prop := ListRes W (if ps.all okC then nums ps else []) (ps.all okC) e w'

set_option maxRecDepth 100000 in
set_option maxHeartbeats 1600000 in
theorem parseNumbersC_any (l : List UInt8) (W : World) (ps : List (List UInt8)) (hps : ps = Lib.splitK [44] 0 (min 41 (l.length + 1) - 1) l) (hT : Tabs W) (hM : Mx W) (hl : l.length < 2000000) (hlen : ∀ p ∈ ps, p.length ≤ 2000000) (n1 : ps.length ≤ 40) :
    Calls Tryd.prog 25 #[.string ⟨l.toArray⟩, .string ⟨#[44]⟩, .int .i64 40, .int .i64 9] W (NumsResC W ps) := by
  obtain ⟨i0, hi0, hz0, hz1, hz2⟩ := info_parts intInfo
  have HT := Lib.hid hT
  have HLEN := Lib.hid hlen
  obtain ⟨n, hn⟩ : ∃ n, ps.length = n := ⟨_, rfl⟩
  have HN := Lib.hid hn
  have hc := splitN_any l 41 W hM hl (by omega) (by omega)
  rw [← hps, hn] at hc
  rw [hn] at n1
  have HC := Lib.hid hc
  have n2 : (n : Int) ≤ 40 := by omega
  clear hT hlen hn hc hps
  go_enter Tryd.func25, Tryd.ntmps25
  go_wp2_with fail
  refine HC.out.mono ?_
  rintro e w1 ⟨c, hc1, hc2, rfl, hk1, hcell⟩
  have HK1 := Lib.hid hk1
  have HP := Lib.hid hcell
  clear hk1 hcell
  go_wp2_with (first | (at_make; refine wpList_make_full _ rfl _ _ 22 rfl w1.heap.size 3 i0 (.int .i64 0) 1 Tryd.underlying22 hi0 hz0 hz1 _ _ _ _ n rfl rfl rfl rfl (by rw [hz2]; omega) (by unfold maxLen; omega) (Nat.le_refl _) ?_))
  intro w2 hown hgrow
  have hk2 : Kp Nw w1 w2 := (Kp.refl _ _).grown hgrow (fun g hg => by cases hg)
  have HS := Lib.hid (Sl.zeros hown)
  have HK := Lib.hid hk2
  clear hown hgrow hk2
  go_wp2
  go_loopw [12, 13, 14, 15, 30] (fun _ _ _ _ i wr => ∃ j : Nat, j ≤ n ∧ i = .int .i64 j ∧ SlAt wr w1.heap.size w1.heap.size n n (fill (nums ps) (List.replicate n 0) j) ∧ (ps.take j).all okC = true ∧ Kp Nw w1 wr) (fun _ _ _ _ i _ => n - (intOf i).toNat)
  case atStart => exact ⟨0, Nat.zero_le _, rfl, by rw [fill_zero]; exact HS.out, rfl, HK.out⟩
  case round =>
    rename_i wr
    obtain ⟨j, hj, rfl, hs, ha, hk⟩ := hrel
    have j0 : (0 : Int) ≤ j := Int.natCast_nonneg _
    by_cases hlt : j < n
    · have hl' : j < ps.length := by rw [HN.out]; exact hlt
      obtain ⟨p, hp⟩ : ∃ p, ps.getD j [] = p := ⟨_, rfl⟩
      have c0 := keepc hk (HP.out j hlt) (fun h => h)
      rw [hp] at c0
      have hx : ps[j] = p := by rw [← hp]; simp [hl']
      have hpl := HLEN.out p (by rw [← hx]; exact List.getElem_mem _)
      have j1 : (j : Int) < n := by omega
      have f0 := hs.frozen j
      have s0 := hs.cell j hlt
      have H := Lib.hid hs
      have HK2 := Lib.hid hk
      unfold strV at c0
      by_cases ok : okC p = true
      · have HA : Hid ((ps.take (j + 1)).all okC = true) := Lib.hid (by rw [List.take_succ_eq_append_getElem hl', List.all_append, ha, hx]; simp [ok])
        have HX := Lib.hid hp
        unfold okC at ok
        rw [Bool.and_eq_true] at ok
        have ok1 := Lib.hid ok.1
        have ok2 := Lib.hid (of_decide_eq_true ok.2)
        clear hs hk ha ok hp hx hl' s0 f0
        go_wp2_with fail
        refine (parseNumber_yes p 9 _ ((HT.out.nw HK1.out).nw HK2.out) (by omega) (by omega) ok1.out ok2.out).mono ?_
        rintro e w5 ⟨rfl, hk5⟩
        have H5 := Lib.hid (H.out.nw hk5)
        have HK5 := Lib.hid (HK2.out.nw hk5)
        have f0 := H5.out.frozen j
        have s0 := H5.out.cell j hlt
        clear hk5
        go_wp2
        go_roundw
        case rel =>
          refine ⟨j + 1, by omega, by go_num, ?_, HA.out, HK5.out.setCell (.inr (Nat.le_refl _)) _⟩
          have h2 := H5.out.store j (val p : Int)
          rw [fill_set (nums ps) _ j (val p : Int) (by simp [nums, HN.out]) (by simp [nums, HN.out]; exact hlt) (by rw [nums_get ps j (by rw [HN.out]; exact hlt), HX.out])] at h2
          exact h2
        case measure => simp [intOf]; omega
      · have HA : Hid (ps.all okC = false) := Lib.hid (by rw [List.all_eq_false]; exact ⟨ps[j], List.getElem_mem _, by rw [hx]; exact ok⟩)
        have no : ¬ (canon p = true ∧ val p ≤ 9) := by
          rintro ⟨a, b⟩
          apply ok
          unfold okC
          rw [a]
          simp [b]
        have NO := Lib.hid no
        clear hs hk ha ok hp hx hl' s0 f0 no
        go_wp2_with fail
        refine (parseNumber_no p 9 _ ((HT.out.nw HK1.out).nw HK2.out) (by omega) (by omega) NO.out).mono ?_
        rintro e w5 ⟨rfl, hk5⟩
        have HK5 := Lib.hid (HK1.out.nw (HK2.out.nw hk5))
        clear hk5
        go_wp2
        go_ret2
        unfold NumsResC
        rw [HA.out]
        exact ⟨_, rfl, Sl.nil _ _, HK5.out⟩
    · have e : j = n := by omega
      subst e
      have hn1 := HN.out
      have HA : Hid (ps.all okC = true) := Lib.hid (by rw [List.take_of_length_le (by omega)] at ha; exact ha)
      rw [show fill (nums ps) (List.replicate j 0) j = nums ps by
        have := fill_all (nums ps) (List.replicate j 0) (by simp [nums, hn1])
        rwa [show (nums ps).length = j by simp [nums, hn1]] at this] at hs
      have H := Lib.hid hs
      have HK2 := Lib.hid (HK1.out.nw hk)
      clear hs hk ha
      go_wp2
      go_ret2
      unfold NumsResC
      rw [HA.out]
      exact ⟨_, rfl, H.out.sl.from HK1.out.size, HK2.out⟩

end Go.Proofs.YtaejlhdbdjfccaaDoor
