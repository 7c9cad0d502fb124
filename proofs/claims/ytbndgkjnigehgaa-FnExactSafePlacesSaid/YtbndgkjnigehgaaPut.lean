/- A number put into an increasing list, a list sorted, in the model; no condition but that the numbers are different ones. -/
import Derived.Test.YtbndgkjnigehgaaTurn
import Derived.Test.YtbndgkjnigehgaaLaws
namespace Go.Proofs.Ytbndgkjnigehgaa
open Go.ChangeShapes Go.WideShapes Go.ChangeAt Go.RowKit

theorem put_sorted (xs : List Int) (x : Int) (j : Nat) (hs : xs.Pairwise (· < ·)) (h1 : ∀ i, i < j → xs.getD i 0 < x) (h2 : ∀ y ∈ xs.drop j, x < y) :
    (xs.take j ++ [x] ++ xs.drop j).Pairwise (· < ·) ∧ (xs.take j ++ [x] ++ xs.drop j).Perm (x :: xs) := by
  constructor
  · have hall : (xs.take j ++ xs.drop j).Pairwise (· < ·) := by rw [List.take_append_drop]; exact hs
    obtain ⟨a1, a2, a3⟩ := List.pairwise_append.1 hall
    have hx : ∀ y ∈ xs.take j, y < x := fun y hy => by
      obtain ⟨i, hi, e⟩ := List.getElem_of_mem hy
      rw [List.length_take] at hi
      have := h1 i (by omega)
      rw [List.getElem_take] at e
      rw [List.getD_eq_getElem?_getD, List.getElem?_eq_getElem (by omega)] at this
      have h9 : xs[i] < x := this
      rw [e] at h9
      exact h9
    rw [List.append_assoc, List.pairwise_append]
    refine ⟨a1, List.pairwise_cons.2 ⟨h2, a2⟩, fun a ha b hb => ?_⟩
    rcases List.mem_cons.1 hb with rfl | hb
    · exact hx a ha
    · exact a3 a ha b hb
  · rw [List.append_assoc, List.singleton_append]
    refine List.perm_middle.trans ?_
    rw [List.take_append_drop]
theorem above (xs : List Int) (x : Int) (j : Nat) (hs : xs.Pairwise (· < ·)) (hj : j < xs.length) (h : x < xs.getD j 0) : ∀ y ∈ xs.drop j, x < y := by
  intro y hy
  obtain ⟨i, hi, e⟩ := List.getElem_of_mem hy
  rw [List.length_drop] at hi
  rw [List.getElem_drop] at e
  rw [List.getD_eq_getElem?_getD, List.getElem?_eq_getElem hj] at h
  have h9 : x < xs[j] := h
  by_cases e0 : i = 0
  · subst e0
    have : xs[j] = y := by simpa using e
    omega
  · have := List.pairwise_iff_getElem.1 hs j (j + i) hj (by omega) (by omega)
    omega
/-- a list in rising order -/
def srt (ys : List Int) : List Int := ys.mergeSort (fun x y => decide (x ≤ y))
theorem srt_is (ys zs : List Int) (h : zs.Pairwise (· < ·)) (hp : zs.Perm ys) : zs = srt ys := by
  have h2 : (srt ys).Pairwise (fun a b => decide (a ≤ b) = true) := List.pairwise_mergeSort (fun a b c h1 h2 => by simp at *; omega) (fun a b => by simp; omega) ys
  refine List.Perm.eq_of_pairwise (le := fun a b : Int => a ≤ b) (fun a b _ _ h3 h4 => by omega) (h.imp (fun h => by omega)) (h2.imp (fun h => by simpa using h)) (hp.trans (List.mergeSort_perm ys _).symm)
/-- what a call returns that makes an increasing list with these numbers -/
def Puts (W : World) (ys : List Int) (e : Ending) (w' : World) : Prop := ∃ v zs, e = .returned v ∧ Sl w' W.heap.size v zs ∧ zs.Pairwise (· < ·) ∧ zs.Perm ys ∧ Kp Nw W w'

theorem cut_nil (w : World) : (Instr.slice 22 (.slice none 0 0) none (some (.int .i64 0)) none).run Try.prog w = .ok (.slice none 0 0) w := by
  kernel_rfl
theorem cut_nil2 (w : World) : (Instr.slice 22 (.slice none 0 0) (some (.int .i64 0)) none none).run Try.prog w = .ok (.slice none 0 0) w := by
  kernel_rfl
set_option maxRecDepth 100000 in
set_option maxHeartbeats 3200000 in
theorem l1Put_nil (x : Int) (W : World) : Calls Try.prog 18 #[.slice none 0 0, .int .i64 x] W (Puts W [x]) := by
  have PS : Hid (([] ++ [x] ++ [] : List Int).Pairwise (· < ·) ∧ ([] ++ [x] ++ [] : List Int).Perm [x]) := Lib.hid ⟨by simp, by simp⟩
  have q1 := cut_nil
  have q2 := cut_nil2
  go_enter Try.func18, Try.ntmps18
  go_wp2
  go_loop [5] (fun k => k = .int .i64 0) (fun _ => 0)
  case atStart => rfl
  case round =>
    obtain rfl := hrel
    go_wp2_with (first | (at_builtin; refine wpList_app _ rfl (.tmp 34) (.tmp 37) rfl W.heap.size _ (.slice none 0 0) [] ([] : List Int) rfl rfl (Sl.empty W W.heap.size (Nat.le_refl _)) ((Sl.nil W 0).rd.nw' ((Kp.refl Nw W).alloc _)) (Sl.nil W 0).vn (by first | (simp; done) | (simp; omega)) (by simp) ?_))
    intro va w1 hs1 hk1 _
    have hs1 : Sl w1 W.heap.size va (([] : List Int)) := hs1
    have HS1 := Lib.hid hs1
    have HK1 := Lib.hid (((Kp.refl Nw W).alloc _).own (Sl.empty W W.heap.size (Nat.le_refl _)) hk1)
    have hz1 : W.heap.size ≤ w1.heap.size := HK1.out.size
    clear hs1 hk1
    go_wp2_with (first | (at_builtin; refine wpList_app _ rfl (.tmp 39) (.tmp 41) rfl W.heap.size va _ (([] : List Int)) [x] rfl rfl (HS1.out.below ((Kp.refl Nw w1).alloc _).below') (Rd.one (g := w1.heap.size) (by simp)) nil_one (by first | (simp; done) | (simp; omega)) (by simp; omega) ?_))
    intro vb w2 hs2 hk2 _
    have HS2 := Lib.hid hs2
    have HK2 := Lib.hid ((HK1.out.nw (.al _ _)).own (HS1.out.below (Kp.al _ _).below') hk2)
    have hz2 : W.heap.size ≤ w2.heap.size := HK2.out.size
    clear hs2 hk2
    go_wp2_with (first | (at_builtin; refine wpList_app _ rfl (.tmp 43) (.tmp 46) rfl W.heap.size vb (.slice none 0 0) (([] : List Int) ++ [x]) ([] : List Int) rfl rfl HS2.out ((Sl.nil W 0).rd.nw' HK2.out) (Sl.nil W 0).vn (by first | (simp; done) | (simp; omega)) hz2 ?_))
    intro vc w3 hs3 hk3 _
    have HS3 := Lib.hid hs3
    have HK3 := Lib.hid (HK2.out.own HS2.out hk3)
    clear hs3 hk3
    go_wp2
    go_ret
    exact ⟨vc, _, rfl, HS3.out, by first | exact PS.out.1 | simpa using PS.out.1, by first | exact PS.out.2 | simpa using PS.out.2, HK3.out⟩

set_option maxRecDepth 100000 in
set_option maxHeartbeats 3200000 in
theorem l1Put_at (g cap n B : Nat) (xs : List Int) (x : Int) (W : World) (hs : SlAt W B g cap n xs) (hc : n ≤ cap) (hp : 1 ≤ n) (hl : n ≤ 1000) (hx : ¬ x ∈ xs) (ho : xs.Pairwise (· < ·)) :
    Calls Try.prog 18 #[.slice (some ⟨g, 0, none⟩) n cap, .int .i64 x] W (Puts W (x :: xs)) := by
  have hn : xs.length = n := hs.1
  have HN := Lib.hid hn
  have HS := Lib.hid hs
  have HX := Lib.hid hx
  have HO := Lib.hid ho
  clear hn hs hx ho
  go_enter Try.func18, Try.ntmps18
  go_wp2
  go_loop [5] (fun k => ∃ j : Nat, j ≤ n ∧ k = .int .i64 j ∧ ∀ i, i < j → xs.getD i 0 < x) (fun k => n - (intOf k).toNat)
  case atStart => exact ⟨0, Nat.zero_le _, rfl, fun i hi => by omega⟩
  case round =>
    obtain ⟨j, hj, rfl, hb⟩ := hrel
    have HB := Lib.hid hb
    have j0 : (0 : Int) ≤ j := Int.natCast_nonneg _
    have q1 := cut_to g n cap j (by omega)
    obtain ⟨Ad, had, q2⟩ := cut_from g n cap j hj hc
    have AD := Lib.hid had
    have hxl : xs.length ≤ 1000 := by rw [HN.out]; exact hl
    clear hb had
    by_cases hlt : j < n
    · have t1 : (j : Int) < n := by omega
      have cs := HS.out.cell j hlt
      obtain ⟨y, hy⟩ : ∃ y, xs.getD j 0 = y := ⟨_, rfl⟩
      have HY := Lib.hid hy
      have hne : y ≠ x := fun e => HX.out (by
        rw [← e, ← hy, List.getD_eq_getElem?_getD, List.getElem?_eq_getElem (by rw [HN.out]; exact hlt)]
        exact List.getElem_mem _)
      rw [hy] at cs
      clear hy
      by_cases hyx : y < x
      · have w2 : IntKind.i64.wrap ((j : Int) + 1) = (j : Int) + 1 := IntWalk.i64_in _ (by omega)
        go_wp2
        go_round
        case rel =>
          refine ⟨j + 1, by omega, by go_num, fun i hi => ?_⟩
          by_cases e : i = j
          · subst e; rw [HY.out]; exact hyx
          · exact HB.out i (by omega)
        case measure => simp [intOf]; omega
      · have PS : Hid ((xs.take j ++ [x] ++ xs.drop j).Pairwise (· < ·) ∧ (xs.take j ++ [x] ++ xs.drop j).Perm (x :: xs)) := Lib.hid (by
          exact put_sorted xs x j HO.out HB.out (above xs x j HO.out (by rw [HN.out]; exact hlt) (by rw [HY.out]; omega)))
        have hne2 : ¬ y = x := hne
        go_wp2_with (first | (at_builtin; refine wpList_app _ rfl (.tmp 34) (.tmp 37) rfl W.heap.size _ (.slice (some ⟨g, 0, none⟩) j cap) [] (xs.take j) rfl rfl (Sl.empty W W.heap.size (Nat.le_refl _)) ((HS.out.take j hj).nw' ((Kp.refl Nw W).alloc _)) (HS.out.take_vn j hj _) (by first | (simp; done) | (simp; omega)) (by simp) ?_))
        intro va w1 hs1 hk1 _
        have hs1 : Sl w1 W.heap.size va ((xs.take j)) := hs1
        have HS1 := Lib.hid hs1
        have HK1 := Lib.hid (((Kp.refl Nw W).alloc _).own (Sl.empty W W.heap.size (Nat.le_refl _)) hk1)
        have hz1 : W.heap.size ≤ w1.heap.size := HK1.out.size
        clear hs1 hk1
        go_wp2_with (first | (at_builtin; refine wpList_app _ rfl (.tmp 39) (.tmp 41) rfl W.heap.size va _ ((xs.take j)) [x] rfl rfl (HS1.out.below ((Kp.refl Nw w1).alloc _).below') (Rd.one (g := w1.heap.size) (by simp)) nil_one (by first | (simp; done) | (simp; omega)) (by simp; omega) ?_))
        intro vb w2 hs2 hk2 _
        have HS2 := Lib.hid hs2
        have HK2 := Lib.hid ((HK1.out.nw (.al _ _)).own (HS1.out.below (Kp.al _ _).below') hk2)
        have hz2 : W.heap.size ≤ w2.heap.size := HK2.out.size
        clear hs2 hk2
        go_wp2_with (first | (at_builtin; refine wpList_app _ rfl (.tmp 43) (.tmp 46) rfl W.heap.size vb (.slice (some Ad) (n - j) (cap - j)) ((xs.take j) ++ [x]) (xs.drop j) rfl rfl HS2.out ((HS.out.drop j hj Ad (cap - j) AD.out).nw' HK2.out) (HS.out.drop_vn j Ad (cap - j)) (by first | (simp; done) | (simp; omega)) hz2 ?_))
        intro vc w3 hs3 hk3 _
        have HS3 := Lib.hid hs3
        have HK3 := Lib.hid (HK2.out.own HS2.out hk3)
        clear hs3 hk3
        go_wp2
        go_ret
        exact ⟨vc, _, rfl, HS3.out, by first | exact PS.out.1 | simpa using PS.out.1, by first | exact PS.out.2 | simpa using PS.out.2, HK3.out⟩
    · have e : j = n := by omega
      have t1 : ¬ (j : Int) < n := by omega
      have PS : Hid ((xs.take j ++ [x] ++ xs.drop j).Pairwise (· < ·) ∧ (xs.take j ++ [x] ++ xs.drop j).Perm (x :: xs)) := Lib.hid (by
        exact put_sorted xs x j HO.out HB.out (fun y hy => by rw [List.drop_eq_nil_of_le (by rw [HN.out, e]; exact Nat.le_refl _)] at hy; cases hy))
      clear e
      go_wp2_with (first | (at_builtin; refine wpList_app _ rfl (.tmp 34) (.tmp 37) rfl W.heap.size _ (.slice (some ⟨g, 0, none⟩) j cap) [] (xs.take j) rfl rfl (Sl.empty W W.heap.size (Nat.le_refl _)) ((HS.out.take j hj).nw' ((Kp.refl Nw W).alloc _)) (HS.out.take_vn j hj _) (by first | (simp; done) | (simp; omega)) (by simp) ?_))
      intro va w1 hs1 hk1 _
      have hs1 : Sl w1 W.heap.size va ((xs.take j)) := hs1
      have HS1 := Lib.hid hs1
      have HK1 := Lib.hid (((Kp.refl Nw W).alloc _).own (Sl.empty W W.heap.size (Nat.le_refl _)) hk1)
      have hz1 : W.heap.size ≤ w1.heap.size := HK1.out.size
      clear hs1 hk1
      go_wp2_with (first | (at_builtin; refine wpList_app _ rfl (.tmp 39) (.tmp 41) rfl W.heap.size va _ ((xs.take j)) [x] rfl rfl (HS1.out.below ((Kp.refl Nw w1).alloc _).below') (Rd.one (g := w1.heap.size) (by simp)) nil_one (by first | (simp; done) | (simp; omega)) (by simp; omega) ?_))
      intro vb w2 hs2 hk2 _
      have HS2 := Lib.hid hs2
      have HK2 := Lib.hid ((HK1.out.nw (.al _ _)).own (HS1.out.below (Kp.al _ _).below') hk2)
      have hz2 : W.heap.size ≤ w2.heap.size := HK2.out.size
      clear hs2 hk2
      go_wp2_with (first | (at_builtin; refine wpList_app _ rfl (.tmp 43) (.tmp 46) rfl W.heap.size vb (.slice (some Ad) (n - j) (cap - j)) ((xs.take j) ++ [x]) (xs.drop j) rfl rfl HS2.out ((HS.out.drop j hj Ad (cap - j) AD.out).nw' HK2.out) (HS.out.drop_vn j Ad (cap - j)) (by first | (simp; done) | (simp; omega)) hz2 ?_))
      intro vc w3 hs3 hk3 _
      have HS3 := Lib.hid hs3
      have HK3 := Lib.hid (HK2.out.own HS2.out hk3)
      clear hs3 hk3
      go_wp2
      go_ret
      exact ⟨vc, _, rfl, HS3.out, by first | exact PS.out.1 | simpa using PS.out.1, by first | exact PS.out.2 | simpa using PS.out.2, HK3.out⟩

end Go.Proofs.Ytbndgkjnigehgaa
