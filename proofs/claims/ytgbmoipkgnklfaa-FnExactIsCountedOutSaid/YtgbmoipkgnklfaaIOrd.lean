/- slices.Sort on the first places of an exchange; IsOrder in the program; no condition but on lengths. -/
import Derived.Sort.OwnSortedInts
import Derived.Test.YtgbmoipkgnklfaaShelf
import Derived.Test.YtgbmoipkgnklfaaExE
import Derived.Test.YtgbmoipkgnklfaaIm7
namespace Go.Proofs.Ytgbmoipkgnklfaa
open Go.ChangeShapes Go.WideShapes Go.ChangeAt Go.RowKit

theorem put_exC (c ts : List Int) (h : ts.length ≤ c.length) : Go.Sort.putCells (Value.int .i64) 0 ts.toArray (exC c).toArray = (exC (ts ++ c.drop ts.length)).toArray := by
  apply Array.ext'
  apply List.ext_getElem?
  intro j
  rw [Array.getElem?_toList, Array.getElem?_toList]
  by_cases hj : j < ts.length
  · simp [Go.Sort.putCells, exC, hj, show j < c.length by omega, List.getElem?_append_left]
  · by_cases hc : j < c.length
    · simp [Go.Sort.putCells, exC, hj, hc, show ts.length ≤ j by omega, List.getElem?_append_right]
    · simp [Go.Sort.putCells, exC, show ¬ j < c.length by omega, show ts.length ≤ j by omega, List.getElem?_append_right]
theorem srt_length' (ys : List Int) : (srt ys).length = ys.length := List.length_mergeSort ys
theorem sort_ex (b n : Nat) (c : List Int) (W : World) (hb : Eb W b c) (hc : c.length = 12) (hn : n ≤ 12) :
    Calls Try.prog 30 #[.slice (some ⟨b, 0, none⟩) n 12] W fun e w' => e = .returned (.tuple #[]) ∧ Eb w' b (srt (c.take n) ++ c.drop n) ∧ Kp (fun g => g = b) W w' := by
  have hl : (c.take n).length = n := by rw [List.length_take]; omega
  have h := Try.slices_Sort_int b 0 12 (c.take n) W (holds_of_blockI hb (by rw [hl, exC, List.map_take]))
    hb.lt (by rw [hl]; omega)
  rw [hl] at h
  refine h.mono ?_
  rintro e w' ⟨rfl, m, os, rfl⟩
  refine ⟨rfl, ?_, (Kp.refl _ W).grown (grownBy_sortedI _) (fun g hg => .inl (by cases hg; rfl))⟩
  have h2 := heap_sortedI (n := m) (os := os) (srt (c.take n)).toArray hb
  rw [put_exC c _ (by rw [srt_length', hl]; omega), srt_length', hl] at h2
  exact h2

def ordM (xs : List Int) : List Int := srt xs ++ (marks 0 12).drop xs.length
theorem ordM_len (xs : List Int) (h : xs.length ≤ 12) : (ordM xs).length = 12 := by unfold ordM; rw [List.length_append, srt_length', List.length_drop, marks_length]; omega
theorem ordM_is (xs : List Int) (h1 : 1 ≤ xs.length) (h2 : xs.length ≤ 12) : decide (ordM xs = marks 0 12) = ordB xs := by
  rw [ordB_on ⟨h1, h2⟩]
  apply decide_eq_decide.2
  rw [ord_srt xs xs.length rfl]
  have ht : (marks 0 12).take xs.length = marks 0 xs.length := by
    unfold marks
    rw [← List.map_take, List.take_range, Nat.min_eq_left h2]
  unfold ordM
  constructor
  · intro e
    have e2 : (srt xs ++ (marks 0 12).drop xs.length).take xs.length = (marks 0 12).take xs.length := by rw [e]
    rw [ht, List.take_append_of_le_length (by rw [srt_length']; exact Nat.le_refl _), List.take_of_length_le (by rw [srt_length']; exact Nat.le_refl _)] at e2
    exact e2
  · intro e
    rw [e, ← ht, List.take_append_drop]
theorem sort_exOn (xs : List Int) : srt ((exOn xs).take xs.length) ++ (exOn xs).drop xs.length = ordM xs := by
  rw [exOn_take]
  unfold ordM exOn
  rw [List.drop_left]

set_option maxRecDepth 100000 in
set_option maxHeartbeats 3200000 in
theorem iIsOrder_is (A : Option Addr) (n c : Nat) (xs : List Int) (W : World) (hu : Rd W (.slice A n c) xs) (hn : xs.length = n) (hl : n ≤ 2000000) :
    Calls Try.prog 18 #[.slice A n c] W (BoolB W (ordB xs)) := by
  by_cases hp : 1 ≤ (n : Int) ∧ (n : Int) ≤ 12
  · obtain ⟨h1, h2⟩ := hp
    have n1 : 1 ≤ xs.length := by omega
    have n2 : xs.length ≤ 12 := by omega
    have n3 : n ≤ 12 := by omega
    have HV := Lib.hid (ordM_is xs n1 n2)
    have HL := Lib.hid (ordM_len xs n2)
    have HE := Lib.hid (exOn_len xs n2)
    have HSO := Lib.hid (sort_exOn xs)
    obtain ⟨hz0, _⟩ := zero_of_info exZero
    obtain ⟨Z, hZ⟩ : ∃ Z : List Int, Z = List.replicate 12 0 := ⟨_, rfl⟩
    have hZl : Z.length = 12 := by rw [hZ, List.length_replicate]
    have hz : ∀ w, (zeroValue 40).run Try.prog w = .ok (.agg (exC Z).toArray) w := by rw [hZ]; exact hz0
    have hl1 : (exC Z).length = 12 := by rw [exC_length, hZl]
    obtain ⟨E, hE⟩ : ∃ E, exOn xs = E := ⟨_, rfl⟩
    obtain ⟨O, hO⟩ : ∃ O, ordM xs = O := ⟨_, rfl⟩
    have hEl : E.length = 12 := by rw [← hE]; exact HE.out
    have hl2 : (exC E).length = 12 := by rw [exC_length, hEl]
    have HEE := Lib.hid hE
    have HEL := Lib.hid hEl
    have HOL : Hid (O.length = 12) := Lib.hid (by rw [← hO]; exact HL.out)
    have HOO : Hid (decide (O = marks 0 12) = ordB xs) := Lib.hid (by rw [← hO]; exact HV.out)
    have HSS : Hid (srt (E.take n) ++ E.drop n = O) := Lib.hid (by rw [← hE, ← hO, ← hn]; exact HSO.out)
    have HZL := Lib.hid hZl
    have HU := Lib.hid hu
    have HN := Lib.hid hn
    obtain ⟨b, hb⟩ : ∃ b, ordB xs = b := ⟨_, rfl⟩
    rw [hb] at HOO ⊢
    have heq : ∀ w, (binOp .eql 40 (.agg (exC O).toArray) (.agg (exC (marks 0 12)).toArray)).run Try.prog w = .ok (.bool b) w := fun w => by
      rw [run_eql_ex O (marks 0 12) w HOL.out (marks_length 0 12), HOO.out]
    have hSC := exSizeC O HOL.out
    have hAR := exArr
    have hgd := exEqGuard
    clear hz0 hZ hZl hE hO hEl hu hn hb n1 n2 HV HL HE HSO
    go_enter Try.func18, Try.ntmps18
    go_wp2_with (first | ((with_reducible refine (isOrdered_yes (n : Int) _ h1 h2).mono ?_); rintro e w' ⟨rfl, rfl⟩))
    refine (exchangeOf_any A n c xs W HU.out HN.out n3).mono ?_
    rw [HEE.out]
    rintro e w1 ⟨rfl, hk1⟩
    have b1 := Eb.new w1 Z
    have hst := run_storeCells_ex b1 HZL.out HEL.out
    have B1 := Lib.hid (b1.row E)
    have HK1 := Lib.hid ((hk1.nw (.al _ (.cells (exC Z).toArray 40))).setRow' (.inr hk1.size) (exC E).toArray)
    have r1 := ecut_to w1.heap.size n n3
    have hz1 : W.heap.size ≤ w1.heap.size := hk1.size
    clear b1 hk1
    go_wp2_with fail
    refine (sort_ex w1.heap.size n E _ B1.out HEL.out n3).mono ?_
    rw [HSS.out]
    rintro e w3 ⟨rfl, hb3, hk3⟩
    have HB3 := Lib.hid hb3
    have HK3 := Lib.hid (HK1.out.after hk3 (fun g hg e => by omega))
    clear hb3 hk3 hst
    go_wp2_with fail
    go_region_held3 (fun w' => Kp Nw w3 w' ∧ w'.rangeAt w1.heap.size 0 (exC O))
      (first
        | exact ⟨(Kp.refl _ _).drew, HB3.out.range⟩
        | exact ⟨hkW4, (HB3.out.nw hkW4).range⟩
        | fail)
      (first
        | (go_at_call 31
           refine (everybodyAtTurn_any _).mono ?_
           rintro e w4 ⟨rfl, hk4⟩
           have hkW4 := (‹Kp Nw w3 _ ∧ _›.1).nw hk4)
        | fail)
    have HKK := Lib.hid (HK3.out.nw hkW4)
    clear hkW4 hk4
    go_wp2
    go_ret
    exact ⟨rfl, HKK.out⟩
  · have hp' : (n : Int) < 1 ∨ 12 < (n : Int) := by omega
    have HB : Hid (ordB xs = false) := Lib.hid (ordB_off (fun h => by omega))
    clear hp hu
    go_enter Try.func18, Try.ntmps18
    go_wp2_with (first | ((with_reducible refine (isOrdered_no (n : Int) _ hp').mono ?_); rintro e w' ⟨rfl, rfl⟩))
    go_ret
    exact ⟨ret_bool HB.out.symm, Kp.refl _ _⟩
theorem iIsOrder_any (g n B : Nat) (xs : List Int) (W : World) (hl : n ≤ 1048576) (hs : SlAt W B g n n xs) : Calls Try.prog 18 #[.slice (some ⟨g, 0, none⟩) n n] W (BoolB W (ordB xs)) :=
  iIsOrder_is _ n n xs W hs.sl.rd hs.1 (by omega)
end Go.Proofs.Ytgbmoipkgnklfaa
