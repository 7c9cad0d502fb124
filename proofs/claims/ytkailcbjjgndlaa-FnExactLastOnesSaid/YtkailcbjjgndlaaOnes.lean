/- The last ones to be there, in the program and in the model: the end of the order of all, in rising order; no condition. -/
import Derived.Sort.OwnSortedInts
import Derived.Test.YtkailcbjjgndlaaShelf
import Derived.Test.YtkailcbjjgndlaaPut
import Derived.Test.YtkailcbjjgndlaaOrder
import Derived.Test.YtkailcbjjgndlaaOutN
import Derived.Test.YtkailcbjjgndlaaLwLastOnes
namespace Go.Proofs.Ytkailcbjjgndlaa
open Go.ChangeShapes Go.WideShapes Go.ChangeAt Go.RowKit

theorem srt_length (ys : List Int) : (srt ys).length = ys.length := List.length_mergeSort ys
theorem sort_any (v : Value) (ys : List Int) (B : Nat) (W : World) (hv : Sl W B v ys) (hp : 0 < ys.length) (hl : ys.length ≤ 1000) :
    Calls Try.prog 18 #[v] W fun e w' => e = .returned (.tuple #[]) ∧ Sl w' B v (srt ys) ∧ Kp (fun b => v.ownBlock = some b) W w' := by
  rcases hv.2 with ⟨_, h⟩ | ⟨g, cap, cur, rfl, hB, hb, h1, h2, h3, h4⟩
  · omega
  · refine (Try.slices_Sort_int g 0 cap ys W (holds_of_blockI hb (by rw [Nat.mul_one] at h4; exact h4)) (Array.getElem?_eq_some_iff.1 hb).1 (by omega)).mono ?_
    rintro e w' ⟨rfl, n, os, rfl⟩
    refine ⟨rfl, ?_, (Kp.refl _ W).grown (grownBy_sortedI _) (fun g' hg => .inl (by cases hg; rfl))⟩
    have := ownsRow_sortedI (n := n) (os := os) (ss := ys) (ts := srt ys) (srt_length ys) hB hb h1 h2 h3
    unfold Sl
    rw [srt_length]
    exact this

set_option maxRecDepth 100000 in
set_option maxHeartbeats 3200000 in
theorem iLastOnes_yes (n u : Nat) (k : Int) (W : World) (h : Asked n k) (u1 : 1 ≤ u) (u2 : u ≤ n) :
    Calls Try.prog 5 #[.int .i64 n, .int .i64 k, .int .i64 u] W (ListB W (srt ((outs k n (marks 0 n)).drop (n - u))) true) := by
  have h1 := h.p1; have h2 := h.p2
  obtain ⟨d, hd⟩ : ∃ d, n - u = d := ⟨_, rfl⟩
  have q0 : (1 : Int) ≤ u := by omega
  have q1 : (u : Int) ≤ n := by omega
  have e1 : IntKind.i64.wrap ((n : Int) - (u : Int)) = (d : Int) := by rw [IntWalk.i64_in _ (by omega)]; omega
  have hdn : d < n := by omega
  have d0 : (0 : Int) ≤ d := Int.natCast_nonneg _
  rw [hd]
  clear hd
  go_enter Try.func5, Try.ntmps5
  go_wp2_with (first | ((with_reducible refine (isCount_yes _ _ _ h).mono ?_); rintro e w' ⟨rfl, rfl⟩) | ((with_reducible refine (within_yes (u : Int) _ _ _ q0 q1).mono ?_); rintro e w' ⟨rfl, rfl⟩))
  refine (orderOfAll_any n k _ h).mono ?_
  rintro e w1 ⟨G, rfl, hP, hk, hG⟩
  have HP := Lib.hid hP
  have HK := Lib.hid hk
  obtain ⟨Ad, had, r2⟩ := pcut_from G n n d (by omega) (by omega)
  have hol : (ordP k (marks 0 n)).length = n := by rw [ordP_length, marks_length]
  have HL := Lib.hid hol
  have RP : Hid (RdP w1 Ad ((ordP k (marks 0 n)).drop d)) := Lib.hid (by
    intro j hj
    rw [List.length_drop, hol] at hj
    obtain ⟨a0, a1⟩ := hP.cell (d + j) (by rw [hol]; omega)
    rcases had with rfl | e
    · refine ⟨G, d * 2, rfl, ?_, ?_⟩
      · rw [show d * 2 + j * 2 = (d + j) * 2 by omega, a0]; simp [List.getD]
      · rw [show d * 2 + j * 2 + 1 = (d + j) * 2 + 1 by omega, a1]; simp [List.getD]
    · omega)
  have HE : Hid (((ordP k (marks 0 n)).drop d).map (·.2) = (outs k n (marks 0 n)).drop d) := Lib.hid (by
    rw [List.map_drop, ordP_snd, marks_length])
  have HYL : Hid (((outs k n (marks 0 n)).drop d).length = n - d) := Lib.hid (by rw [List.length_drop, outs_length])
  clear hP hk hol had
  go_wp2_with fail
  refine (numbersOf_any Ad (n - d) (n - d) _ _ RP.out (by rw [List.length_drop, HL.out]) (by omega)).mono ?_
  rintro e w2 ⟨v2, rfl, hs2, hk2⟩
  rw [HE.out] at hs2
  have HS2 := Lib.hid hs2
  have HK2 := Lib.hid (HK.out.nw hk2)
  have hz1 : W.heap.size ≤ w1.heap.size := HK.out.size
  clear hs2 hk2
  go_wp2_with fail
  refine (sort_any v2 _ _ _ HS2.out (by rw [HYL.out]; omega) (by rw [HYL.out]; omega)).mono ?_
  rintro e w3 ⟨rfl, hs3, hk3⟩
  have HS3 := Lib.hid (hs3.from hz1)
  have HK3 := Lib.hid (HK2.out.after hk3 (fun g hg he => by have := (HS2.out.own_ge g he).1; omega))
  clear hs3 hk3
  go_wp2
  go_ret2
  exact ⟨v2, rfl, HS3.out, HK3.out⟩
set_option maxRecDepth 100000 in
set_option maxHeartbeats 3200000 in
theorem sLastOnes_yes (n u : Nat) (k : Int) (W : World) (h : Asked n k) (u1 : 1 ≤ u) (u2 : u ≤ n) :
    Calls Try.prog 4 #[.int .i64 n, .int .i64 k, .int .i64 u] W (ListB W (srt ((outs k n (marks 0 n)).drop (n - u))) true) := by
  have h1 := h.p1; have h2 := h.p2
  obtain ⟨d, hd⟩ : ∃ d, n - u = d := ⟨_, rfl⟩
  have q0 : (1 : Int) ≤ u := by omega
  have q1 : (u : Int) ≤ n := by omega
  have e1 : IntKind.i64.wrap ((n : Int) - (u : Int)) = (d : Int) := by rw [IntWalk.i64_in _ (by omega)]; omega
  have hdn : d < n := by omega
  have d0 : (0 : Int) ≤ d := Int.natCast_nonneg _
  have HYL : Hid (((outs k n (marks 0 n)).drop d).length = n - d) := Lib.hid (by rw [List.length_drop, outs_length])
  have HND : Hid (((outs k n (marks 0 n)).drop d).Nodup) := Lib.hid ((outs_nodup k n).sublist (List.drop_sublist _ _))
  have HOL : Hid ((outs k n (marks 0 n)).length = n) := Lib.hid (outs_length _ _ _)
  rw [hd]
  clear hd
  go_enter Try.func4, Try.ntmps4
  go_wp2_with (first | ((with_reducible refine (ciAsked_yes _ _ _ h).mono ?_); rintro e w' ⟨rfl, rfl⟩) | ((with_reducible refine (l1In_yes (u : Int) _ _ _ q0 q1).mono ?_); rintro e w' ⟨rfl, rfl⟩))
  refine (ciPeople_any n _ (by omega)).mono ?_
  rintro e w1 ⟨v, rfl, hs, hk⟩
  have HS := Lib.hid hs
  have HK := Lib.hid hk
  clear hs hk
  go_wp2_with fail
  refine (ciOrder_any v k (marks 0 n) _ w1 HS.out (by rw [marks_length]; omega) h.k1 h.k2).mono ?_
  rintro e w2 ⟨v2, rfl, hs2, hk2⟩
  rw [marks_length] at hs2
  obtain ⟨g, cap, rfl, hat, hc, _, _, _⟩ := hs2.at_ (by rw [HOL.out]; omega)
  rw [HOL.out] at hat hc ⊢
  have HAT := Lib.hid hat
  have HK2 := Lib.hid (HK.out.nw hk2)
  obtain ⟨Ad, had, r2⟩ := cut_from g n cap d (by omega) hc
  have RD := Lib.hid (hat.drop d (by omega) Ad (cap - d) had)
  clear hs2 hk2 hat had
  go_wp2_with fail
  refine (saSorted_any _ _ _ RD.out (by rw [HYL.out]; omega) HND.out).mono ?_
  rintro e w3 ⟨v3, rfl, hs3, hk3⟩
  have HS3 := Lib.hid (hs3.from HK2.out.size)
  have HK3 := Lib.hid (HK2.out.nw hk3)
  clear hs3 hk3
  go_wp2
  go_ret2
  exact ⟨v3, rfl, HS3.out, HK3.out⟩
theorem iLastOnes_no (p k u : Int) (W : World) (h : ¬ (Asked p k ∧ 1 ≤ u ∧ u ≤ p)) :
    Calls Try.prog 5 #[.int .i64 p, .int .i64 k, .int .i64 u] W (ListB W [] false) := by
  by_cases ha : Asked p k
  · have hu : u < 1 ∨ p < u := by
      by_cases e : u < 1
      · exact .inl e
      · exact .inr (by
          by_cases e2 : p < u
          · exact e2
          · exact (h ⟨ha, by omega, by omega⟩).elim)
    go_enter Try.func5, Try.ntmps5
    go_wp2_with (first | ((with_reducible refine (isCount_yes _ _ _ ha).mono ?_); rintro e w' ⟨rfl, rfl⟩) | ((with_reducible refine (within_no u _ _ _ hu).mono ?_); rintro e w' ⟨rfl, rfl⟩))
    go_ret2
    exact ⟨_, rfl, Sl.nil _ _, Kp.refl _ _⟩
  · go_enter Try.func5, Try.ntmps5
    go_wp2_with (first | ((with_reducible refine (isCount_no _ _ _ ha).mono ?_); rintro e w' ⟨rfl, rfl⟩))
    go_ret2
    exact ⟨_, rfl, Sl.nil _ _, Kp.refl _ _⟩
theorem sLastOnes_no (p k u : Int) (W : World) (h : ¬ (Asked p k ∧ 1 ≤ u ∧ u ≤ p)) :
    Calls Try.prog 4 #[.int .i64 p, .int .i64 k, .int .i64 u] W (ListB W [] false) := by
  by_cases ha : Asked p k
  · have hu : u < 1 ∨ p < u := by
      by_cases e : u < 1
      · exact .inl e
      · exact .inr (by
          by_cases e2 : p < u
          · exact e2
          · exact (h ⟨ha, by omega, by omega⟩).elim)
    go_enter Try.func4, Try.ntmps4
    go_wp2_with (first | ((with_reducible refine (ciAsked_yes _ _ _ ha).mono ?_); rintro e w' ⟨rfl, rfl⟩) | ((with_reducible refine (l1In_no u _ _ _ hu).mono ?_); rintro e w' ⟨rfl, rfl⟩))
    go_ret2
    exact ⟨_, rfl, Sl.nil _ _, Kp.refl _ _⟩
  · go_enter Try.func4, Try.ntmps4
    go_wp2_with (first | ((with_reducible refine (ciAsked_no _ _ _ ha).mono ?_); rintro e w' ⟨rfl, rfl⟩))
    go_ret2
    exact ⟨_, rfl, Sl.nil _ _, Kp.refl _ _⟩
theorem lawLastOnes (p k u : Int) (W : World) : Calls Try.prog 3 #[.int .i64 p, .int .i64 k, .int .i64 u] W fun e w' => e = .returned (.bool true) ∧ Kp Nw W w' := by
  by_cases h : Asked p k ∧ 1 ≤ u ∧ u ≤ p
  · obtain ⟨ha, h1, h2⟩ := h
    have hp := ha.p1
    have hp2 := ha.p2
    obtain ⟨n, rfl⟩ : ∃ n : Nat, p = n := ⟨p.toNat, by omega⟩
    obtain ⟨m, rfl⟩ : ∃ m : Nat, u = m := ⟨u.toNat, by omega⟩
    exact lawLastOnes_of n k m _ _ W (by rw [srt_length, List.length_drop, outs_length]; omega) (Lib.hid fun W => sLastOnes_yes n m k W ha (by omega) (by omega)) (Lib.hid fun W => iLastOnes_yes n m k W ha (by omega) (by omega))
  · exact lawLastOnes_of p k u _ _ W (Nat.zero_le _) (Lib.hid fun W => sLastOnes_no p k u W h) (Lib.hid fun W => iLastOnes_no p k u W h)
end Go.Proofs.Ytkailcbjjgndlaa
