/- The functions on rounds of two in the model, and their laws; no condition. -/
import Derived.Test.YtjlbillfbhkamaaTwoF
import Derived.Test.YtjlbillfbhkamaaTwoS
import Derived.Test.YtjlbillfbhkamaaGood
import Derived.Test.YtjlbillfbhkamaaLw6b
namespace Go.Proofs.Ytjlbillfbhkamaa
open Go.ChangeShapes Go.WideShapes Go.ChangeAt Go.RowKit

theorem boRounds_rs (n : Nat) (f b : Int) (W : World) (hf : Asked n f) (hb : Asked n b) : Calls Try.prog 28 #[.int .i64 n, .int .i64 f, .int .i64 b] W (MakesS W ((rsN n f b).map peo)) :=
  boRounds_any n f b W (by have := hf.p1; omega) (by have := hf.p2; omega) hf.k1 hf.k2 hb.k1 hb.k2

set_option maxRecDepth 100000 in
set_option maxHeartbeats 3200000 in
theorem sTwoCount_yes (n : Nat) (f b : Int) (W : World) (hf : Asked n f) (hb : Asked n b) : Calls Try.prog 9 #[.int .i64 n, .int .i64 f, .int .i64 b] W (ListSB W ((rsN n f b).map peo) true) := by
  have h1 := hf.p1; have h2 := hf.p2
  obtain ⟨RS, hRS⟩ : ∃ RS, rsN n f b = RS := ⟨_, rfl⟩
  have hlen := rsN_len n f b
  have hpos := rsN_pos n f b (by omega)
  rw [hRS] at hlen hpos
  obtain ⟨m, hm⟩ : ∃ m, RS.length = m := ⟨_, rfl⟩
  rw [hm] at hlen hpos
  have HRS := Lib.hid hRS
  have HM := Lib.hid hm
  rw [hRS]
  clear hRS hm
  go_enter Try.func9, Try.ntmps9
  go_wp2_with (first | ((with_reducible refine (boAsked_yes _ _ _ _ hf hb).mono ?_); rintro e w' ⟨rfl, rfl⟩))
  refine (boRounds_rs n f b W hf hb).mono ?_
  rw [HRS.out]
  rintro e w1 ⟨v, rfl, hs, hk⟩
  obtain ⟨A, c, rfl⟩ := hs.val (n := m) (by rw [List.length_map]; exact HM.out)
  have HS := Lib.hid hs
  have HK := Lib.hid hk
  clear hs hk
  go_wp2
  go_ret2
  exact ⟨_, rfl, HS.out, HK.out⟩

theorem sTwoCount_no (p f b : Int) (W : World) (h : ¬ (Asked p f ∧ Asked p b)) : Calls Try.prog 9 #[.int .i64 p, .int .i64 f, .int .i64 b] W (ListSB W [] false) := by
  go_enter Try.func9, Try.ntmps9
  go_wp2_with (first | ((with_reducible refine (boAsked_no _ _ _ _ h).mono ?_); rintro e w' ⟨rfl, rfl⟩))
  go_ret2
  exact ⟨.slice none 0 0, rfl, SS.nil _ _ _, Kp.refl _ _⟩

set_option maxRecDepth 100000 in
set_option maxHeartbeats 3200000 in
theorem sCountRoundsOfTwo_yes (n : Nat) (f b : Int) (W : World) (hf : Asked n f) (hb : Asked n b) : Calls Try.prog 19 #[.int .i64 n, .int .i64 f, .int .i64 b] W (IntB W ((rsN n f b).length : Nat) true) := by
  have h1 := hf.p1; have h2 := hf.p2
  obtain ⟨RS, hRS⟩ : ∃ RS, rsN n f b = RS := ⟨_, rfl⟩
  have hlen := rsN_len n f b
  have hpos := rsN_pos n f b (by omega)
  rw [hRS] at hlen hpos
  obtain ⟨m, hm⟩ : ∃ m, RS.length = m := ⟨_, rfl⟩
  rw [hm] at hlen hpos
  have HRS := Lib.hid hRS
  have HM := Lib.hid hm
  rw [hRS]
  clear hRS hm
  have HMM := Lib.hid HM.out
  rw [HMM.out]
  go_enter Try.func19, Try.ntmps19
  go_wp2_with (first | ((with_reducible refine (boAsked_yes _ _ _ _ hf hb).mono ?_); rintro e w' ⟨rfl, rfl⟩))
  refine (boRounds_rs n f b W hf hb).mono ?_
  rw [HRS.out]
  rintro e w1 ⟨v, rfl, hs, hk⟩
  obtain ⟨A, c, rfl⟩ := hs.val (n := m) (by rw [List.length_map]; exact HM.out)
  have HS := Lib.hid hs
  have HK := Lib.hid hk
  clear hs hk
  go_wp2
  go_ret2
  exact ⟨rfl, HK.out⟩

theorem sCountRoundsOfTwo_no (p f b : Int) (W : World) (h : ¬ (Asked p f ∧ Asked p b)) : Calls Try.prog 19 #[.int .i64 p, .int .i64 f, .int .i64 b] W (IntB W 0 false) := by
  go_enter Try.func19, Try.ntmps19
  go_wp2_with (first | ((with_reducible refine (boAsked_no _ _ _ _ h).mono ?_); rintro e w' ⟨rfl, rfl⟩))
  go_ret2
  exact ⟨rfl, Kp.refl _ _⟩

set_option maxRecDepth 100000 in
set_option maxHeartbeats 3200000 in
theorem sLastTogether_yes (n : Nat) (f b : Int) (W : World) (hf : Asked n f) (hb : Asked n b) : Calls Try.prog 21 #[.int .i64 n, .int .i64 f, .int .i64 b] W (ListB W (peo (rsA n f b ((rsN n f b).length - 1))) true) := by
  unfold rsA
  have h1 := hf.p1; have h2 := hf.p2
  obtain ⟨RS, hRS⟩ : ∃ RS, rsN n f b = RS := ⟨_, rfl⟩
  have hlen := rsN_len n f b
  have hpos := rsN_pos n f b (by omega)
  rw [hRS] at hlen hpos
  obtain ⟨m, hm⟩ : ∃ m, RS.length = m := ⟨_, rfl⟩
  rw [hm] at hlen hpos
  have HRS := Lib.hid hRS
  have HM := Lib.hid hm
  rw [hRS]
  clear hRS hm
  rw [HM.out]
  obtain ⟨d, hd⟩ : ∃ d, m - 1 = d := ⟨_, rfl⟩
  have e1 : IntKind.i64.wrap ((m : Int) - 1) = (d : Int) := by rw [IntWalk.i64_in _ (by omega)]; omega
  have hdn : d < m := by omega
  have d0 : (0 : Int) ≤ d := Int.natCast_nonneg _
  have d1 : (d : Int) < m := by omega
  rw [hd]
  have hx := peo_getD RS d (by rw [HM.out]; exact hdn)
  obtain ⟨x, hxx⟩ : ∃ x, peo (RS.getD d (0, 0)) = x := ⟨_, rfl⟩
  rw [hxx] at hx ⊢
  have HX := Lib.hid hx
  clear hd hx hxx
  go_enter Try.func21, Try.ntmps21
  go_wp2_with (first | ((with_reducible refine (boAsked_yes _ _ _ _ hf hb).mono ?_); rintro e w' ⟨rfl, rfl⟩))
  refine (boRounds_rs n f b W hf hb).mono ?_
  rw [HRS.out]
  rintro e w1 ⟨v, rfl, hs, hk⟩
  obtain ⟨A, c, rfl⟩ := hs.val (n := m) (by rw [List.length_map]; exact HM.out)
  have HS := Lib.hid hs
  have HK := Lib.hid hk
  clear hs hk
  obtain ⟨g, s, rfl, c0, hsl, _⟩ := HS.out.cell d (by rw [List.length_map, HM.out]; exact hdn)
  rw [HX.out] at hsl
  obtain ⟨As, cs, rfl⟩ := hsl.val rfl
  have HSL := Lib.hid hsl
  clear hsl
  go_wp2
  go_ret2
  exact ⟨_, rfl, HSL.out, HK.out⟩

theorem sLastTogether_no (p f b : Int) (W : World) (h : ¬ (Asked p f ∧ Asked p b)) : Calls Try.prog 21 #[.int .i64 p, .int .i64 f, .int .i64 b] W (ListB W [] false) := by
  go_enter Try.func21, Try.ntmps21
  go_wp2_with (first | ((with_reducible refine (boAsked_no _ _ _ _ h).mono ?_); rintro e w' ⟨rfl, rfl⟩))
  go_ret2
  exact ⟨.slice none 0 0, rfl, Sl.nil _ _, Kp.refl _ _⟩

set_option maxRecDepth 100000 in
set_option maxHeartbeats 3200000 in
theorem boMet_any (n : Nat) (f b : Int) (W : World) (n1 : 1 ≤ n) (n2 : n ≤ 200) (f1 : 1 ≤ f) (f2 : f ≤ 1000000) (b1 : 1 ≤ b) (b2 : b ≤ 1000000) : Calls Try.prog 32 #[.int .i64 n, .int .i64 f, .int .i64 b] W (Makes W (metL (rsN n f b))) := by
  obtain ⟨RS, hRS⟩ : ∃ RS, rsN n f b = RS := ⟨_, rfl⟩
  have hlen := rsN_len n f b
  rw [hRS] at hlen
  obtain ⟨m, hm⟩ : ∃ m, RS.length = m := ⟨_, rfl⟩
  rw [hm] at hlen
  have HRS : Hid (rnds f b n (marks 0 n) 0 0 = RS) := Lib.hid hRS
  have HM := Lib.hid hm
  rw [hRS]
  clear hRS hm
  go_enter Try.func32, Try.ntmps32
  go_wp2_with fail
  refine (boRounds_any n f b W n1 n2 f1 f2 b1 b2).mono ?_
  rw [HRS.out]
  rintro e w1 ⟨v, rfl, hs, hk⟩
  obtain ⟨A, c, rfl⟩ := hs.val (n := m) (by rw [List.length_map]; exact HM.out)
  have HS := Lib.hid hs
  have HK := Lib.hid hk
  clear hs hk
  go_wp2
  go_loopw [7, 15] (fun r0 i wq => ∃ (j : Nat) (r : Value) (wr : World), j ≤ m ∧ i = .int .i64 j ∧ r = r0 ∧ wr = wq ∧ Sl wr w1.heap.size r (metL (RS.take j)) ∧ Kp Nw w1 wr) (fun _ i _ => m - (intOf i).toNat)
  case atStart => exact ⟨0, _, _, Nat.zero_le _, rfl, rfl, rfl, Sl.nil _ _, Kp.refl _ _⟩
  case round =>
    obtain ⟨j, r, wr, hj, rfl, rfl, rfl, hr, hk1⟩ := hrel
    have HR := Lib.hid hr
    have HK1 := Lib.hid hk1
    have j0 : (0 : Int) ≤ j := Int.natCast_nonneg _
    have hz : w1.heap.size ≤ wr.heap.size := hk1.size
    clear hr hk1
    by_cases hlt : j < m
    · have j1 : (j : Int) < m := by omega
      obtain ⟨g, s, rfl, c0, hsl, _⟩ := (HS.out.nw HK1.out).cell j (by rw [List.length_map, HM.out]; exact hlt)
      rw [peo_getD RS j (by rw [HM.out]; exact hlt)] at hsl
      obtain ⟨⟨x, y⟩, hx⟩ : ∃ x, RS.getD j (0, 0) = x := ⟨_, rfl⟩
      have hst := metL_take RS j (by rw [HM.out]; exact hlt)
      rw [hx] at hst hsl
      have hrl : (metL (RS.take j)).length ≤ 1000 := by have := metL_le (RS.take j); rw [List.length_take] at this; omega
      clear hx
      by_cases hxy : x = y
      · have HST : Hid (metL (RS.take (j + 1)) = metL (RS.take j) ++ [x]) := Lib.hid (by rw [hst]; simp [hxy])
        have hpe : peo (x, y) = [x] := if_pos hxy
        rw [hpe] at hsl
        obtain ⟨gs, cs, rfl, hats, _⟩ := hsl.at_ (by simp)
        have cx := hats.cell 0 (by simp)
        simp only [List.getD_cons_zero, List.length_singleton] at cx c0
        clear hst hxy hpe hsl hats
        go_wp2_with (first | (at_builtin; refine wpList_app _ rfl (.tmp 22) (.tmp 26) rfl w1.heap.size r _ (metL (RS.take j)) [x] rfl rfl (HR.out.below (Kp.al _ _).below') (Rd.one (g := wr.heap.size) (by simp)) nil_one (by simp; omega) (by simp; omega) ?_))
        intro v5 w5 hs5 hk5 _
        have HS5 := Lib.hid hs5
        have HK5 := Lib.hid ((HK1.out.nw (.al _ _)).own (HR.out.below (Kp.al _ _).below') hk5)
        clear hs5 hk5
        go_wp2
        go_roundw
        case rel => exact ⟨j + 1, v5, _, by omega, by go_num, rfl, rfl, by rw [HST.out]; exact HS5.out, HK5.out⟩
        case measure => simp [intOf] <;> omega
      · have HST : Hid (metL (RS.take (j + 1)) = metL (RS.take j)) := Lib.hid (by rw [hst, if_neg hxy, List.append_nil])
        have hpe : peo (x, y) = [x, y] := if_neg hxy
        rw [hpe] at hsl
        obtain ⟨As, cs, rfl⟩ := hsl.val (n := 2) rfl
        clear hst hxy hpe hsl
        go_wp2
        go_roundw
        case rel => exact ⟨j + 1, r, _, by omega, by go_num, rfl, rfl, by rw [HST.out]; exact HR.out, HK1.out⟩
        case measure => simp [intOf] <;> omega
    · have ej : j = m := by omega
      subst ej
      have hw : W.heap.size ≤ w1.heap.size := HK.out.size
      have HF := Lib.hid (show Sl wr w1.heap.size r (metL RS) from by
        have := HR.out
        rw [List.take_of_length_le (by rw [HM.out]; exact Nat.le_refl _)] at this
        exact this)
      have hnn : ¬ (j : Int) < (j : Int) := Int.lt_irrefl _
      go_wp2
      go_ret
      exact ⟨r, rfl, HF.out.from hw, HK.out.nw HK1.out⟩

set_option maxRecDepth 100000 in
set_option maxHeartbeats 3200000 in
theorem sChosenByBoth_yes (n : Nat) (f b : Int) (W : World) (hf : Asked n f) (hb : Asked n b) : Calls Try.prog 14 #[.int .i64 n, .int .i64 f, .int .i64 b] W (ListB W (metL (rsN n f b)) true) := by
  go_enter Try.func14, Try.ntmps14
  go_wp2_with (first | ((with_reducible refine (boAsked_yes _ _ _ _ hf hb).mono ?_); rintro e w' ⟨rfl, rfl⟩))
  refine (boMet_any n f b W (by have := hf.p1; omega) (by have := hf.p2; omega) hf.k1 hf.k2 hb.k1 hb.k2).mono ?_
  rintro e w1 ⟨v, rfl, hs, hk⟩
  have HS := Lib.hid hs
  have HK := Lib.hid hk
  clear hs hk
  go_wp2
  go_ret2
  exact ⟨v, rfl, HS.out, HK.out⟩

theorem sChosenByBoth_no (p f b : Int) (W : World) (h : ¬ (Asked p f ∧ Asked p b)) : Calls Try.prog 14 #[.int .i64 p, .int .i64 f, .int .i64 b] W (ListB W [] false) := by
  go_enter Try.func14, Try.ntmps14
  go_wp2_with (first | ((with_reducible refine (boAsked_no _ _ _ _ h).mono ?_); rintro e w' ⟨rfl, rfl⟩))
  go_ret2
  exact ⟨.slice none 0 0, rfl, Sl.nil _ _, Kp.refl _ _⟩

set_option maxRecDepth 100000 in
set_option maxHeartbeats 3200000 in
theorem sRoundOfPerson_yes (n i : Nat) (f b u : Int) (W : World) (hf : Asked n f) (hb : Asked n b) (u0 : 0 ≤ u) (u1 : u ≤ (n : Int) - 1) (hi : FirstC u (rsN n f b) i) : Calls Try.prog 23 #[.int .i64 n, .int .i64 f, .int .i64 b, .int .i64 u] W (IntB W (i : Nat) true) := by
  have h1 := hf.p1; have h2 := hf.p2
  obtain ⟨RS, hRS⟩ : ∃ RS, rsN n f b = RS := ⟨_, rfl⟩
  have hlen := rsN_len n f b
  have hpos := rsN_pos n f b (by omega)
  rw [hRS] at hlen hpos
  obtain ⟨m, hm⟩ : ∃ m, RS.length = m := ⟨_, rfl⟩
  rw [hm] at hlen hpos
  have HRS := Lib.hid hRS
  have HM := Lib.hid hm
  rw [hRS] at hi
  have HI := Lib.hid hi
  clear hRS hm hi
  have wp : IntKind.i64.wrap ((n : Int) - 1) = (n : Int) - 1 := IntWalk.i64_in _ (by omega)
  have him : i < m := by rw [← HM.out]; exact HI.out.1
  go_enter Try.func23, Try.ntmps23
  go_wp2_with (first | ((with_reducible refine (boAsked_yes _ _ _ _ hf hb).mono ?_); rintro e w' ⟨rfl, rfl⟩) | ((with_reducible refine (l1In_yes u _ _ _ u0 u1).mono ?_); rintro e w' ⟨rfl, rfl⟩))
  refine (boRounds_rs n f b _ hf hb).mono ?_
  rw [HRS.out]
  rintro e w1 ⟨v, rfl, hs, hk⟩
  obtain ⟨A, c, rfl⟩ := hs.val (n := m) (by rw [List.length_map]; exact HM.out)
  have HS := Lib.hid hs
  have HK := Lib.hid hk
  clear hs hk
  go_wp2
  go_loopw [29] (fun z wq => ∃ (j : Nat), j ≤ i ∧ z = .int .i64 j ∧ w1 = wq) (fun z _ => i + 1 - (intOf z).toNat)
  case atStart => exact ⟨0, Nat.zero_le _, rfl, rfl⟩
  case round =>
    obtain ⟨j, hj, rfl, rfl⟩ := hrel
    have j0 : (0 : Int) ≤ j := Int.natCast_nonneg _
    have j1 : (j : Int) < m := by omega
    obtain ⟨g, s, rfl, c0, hsl, _⟩ := HS.out.cell j (by rw [List.length_map, HM.out]; omega)
    rw [peo_getD RS j (by rw [HM.out]; omega)] at hsl
    have HSL := Lib.hid hsl
    obtain ⟨As, cs, rfl⟩ := HSL.out.val rfl
    clear hsl
    by_cases e : j < i
    · have HB : Hid (decide (u ∈ peo (RS.getD j (0, 0))) = false) := Lib.hid (by rw [← HI.out.2.2 j e, ← hasC_peo, Bool.eq_iff_iff, List.contains_iff_mem, decide_eq_true_iff])
      go_wp2_with fail
      refine (l1Has_any _ (peo (RS.getD j (0, 0))) u _ HSL.out.rd (by have := peo_len (RS.getD j (0, 0)); omega)).mono ?_
      rw [HB.out]
      rintro e w' ⟨rfl, rfl⟩
      go_wp2
      go_roundw
      case rel => exact ⟨j + 1, by omega, by go_num, by simp⟩
      case measure => simp [intOf]; omega
    · have ej : j = i := by omega
      subst ej
      have HB : Hid (decide (u ∈ peo (RS.getD j (0, 0))) = true) := Lib.hid (by rw [← HI.out.2.1, ← hasC_peo, Bool.eq_iff_iff, List.contains_iff_mem, decide_eq_true_iff])
      go_wp2_with fail
      refine (l1Has_any _ (peo (RS.getD j (0, 0))) u _ HSL.out.rd (by have := peo_len (RS.getD j (0, 0)); omega)).mono ?_
      rw [HB.out]
      rintro e w' ⟨rfl, rfl⟩
      go_wp2
      go_ret2
      exact ⟨rfl, HK.out⟩
theorem sRoundOfPerson_no (p f b u : Int) (W : World) (h : ¬ ((Asked p f ∧ Asked p b) ∧ 0 ≤ u ∧ u ≤ p - 1)) : Calls Try.prog 23 #[.int .i64 p, .int .i64 f, .int .i64 b, .int .i64 u] W (IntB W 0 false) := by
  by_cases ha : Asked p f ∧ Asked p b
  · have h1 := ha.1.p1; have h2 := ha.1.p2
    have hu : u < 0 ∨ p - 1 < u := by
      by_cases e : u < 0
      · exact .inl e
      · by_cases e2 : p - 1 < u
        · exact .inr e2
        · exact (h ⟨ha, by omega, by omega⟩).elim
    have wp : IntKind.i64.wrap (p - 1) = p - 1 := IntWalk.i64_in _ (by omega)
    obtain ⟨hf, hb⟩ := ha
    clear h
    go_enter Try.func23, Try.ntmps23
    go_wp2_with (first | ((with_reducible refine (boAsked_yes p f b _ hf hb).mono ?_); rintro e w' ⟨rfl, rfl⟩) | ((with_reducible refine (l1In_no u _ _ _ hu).mono ?_); rintro e w' ⟨rfl, rfl⟩))
    go_ret2
    exact ⟨rfl, Kp.refl _ _⟩
  · clear h
    go_enter Try.func23, Try.ntmps23
    go_wp2_with (first | ((with_reducible refine (boAsked_no p f b _ ha).mono ?_); rintro e w' ⟨rfl, rfl⟩))
    go_ret2
    exact ⟨rfl, Kp.refl _ _⟩

set_option maxRecDepth 100000 in
set_option maxHeartbeats 3200000 in
theorem sStepsToMeet_yes (n : Nat) (u : Int) (W : World) (n1 : 1 ≤ n) (n2 : n ≤ 20) (u0 : 0 ≤ u) (u1 : u ≤ (n : Int) - 1) : Calls Try.prog 25 #[.int .i64 n, .int .i64 u] W (Int2B W (meetV n u).1 (meetV n u).2.1 (meetV n u).2.2) := by
  have p0 : 1 ≤ (n : Int) := by omega
  have p1 : (n : Int) ≤ 20 := by omega
  have wp : IntKind.i64.wrap ((n : Int) - 1) = (n : Int) - 1 := IntWalk.i64_in _ (by omega)
  obtain ⟨Q, hQ⟩ : ∃ Q : Nat → Option Nat, Q = fun f : Nat => scB (fun b : Nat => metB n u (f : Int) (b : Int)) n 1 := ⟨_, rfl⟩
  obtain ⟨V, hV⟩ : ∃ V, scF Q n 1 = V := ⟨_, rfl⟩
  have HV : Hid (meetV n u = meetO V) := Lib.hid (by unfold meetV; rw [← hV, hQ])
  have HQ := Lib.hid hQ
  have HVQ := Lib.hid hV
  obtain ⟨M, hM⟩ : ∃ M, meetV n u = M := ⟨_, rfl⟩
  rw [hM] at HV ⊢
  clear hQ hV hM
  go_enter Try.func25, Try.ntmps25
  go_wp2_with (first | ((with_reducible refine (l1In_yes (n : Int) _ _ _ p0 p1).mono ?_); rintro e w' ⟨rfl, rfl⟩) | ((with_reducible refine (l1In_yes u _ _ _ u0 u1).mono ?_); rintro e w' ⟨rfl, rfl⟩))
  go_loopw [7] (fun z wq => ∃ (fj : Nat) (wr : World), 1 ≤ fj ∧ fj ≤ n + 1 ∧ z = .int .i64 fj ∧ wr = wq ∧ scF Q (n + 1 - fj) fj = V ∧ Kp Nw W wr) (fun z _ => n + 1 - (intOf z).toNat)
  case atStart => exact ⟨1, _, Nat.le_refl _, by omega, rfl, rfl, by rw [show n + 1 - 1 = n by omega]; exact HVQ.out, Kp.refl _ _⟩
  case round =>
    obtain ⟨fj, wr, f1, f2, rfl, rfl, hsc, hk⟩ := hrel
    have HSC := Lib.hid hsc
    have HK := Lib.hid hk
    clear hsc hk
    have f0 : (0 : Int) ≤ fj := Int.natCast_nonneg _
    have wf : IntKind.i64.wrap ((fj : Int) + 1) = (fj : Int) + 1 := IntWalk.i64_in _ (by omega)
    by_cases hfn : fj ≤ n
    · have hfi : (fj : Int) ≤ n := by omega
      go_wp2
      go_loopw [8] (fun z wq => ∃ (bj : Nat) (wr' : World), 1 ≤ bj ∧ bj ≤ n + 1 ∧ z = .int .i64 bj ∧ wr' = wq ∧ scB (fun b : Nat => metB n u (fj : Int) (b : Int)) (n + 1 - bj) bj = Q fj ∧ Kp Nw W wr') (fun z _ => n + 1 - (intOf z).toNat)
      case atStart => exact ⟨1, _, Nat.le_refl _, by omega, rfl, rfl, by rw [show n + 1 - 1 = n by omega, HQ.out], HK.out⟩
      case round =>
        obtain ⟨bj, wr', b1, b2, rfl, rfl, hsb, hk2⟩ := hrel
        have HSB := Lib.hid hsb
        have HK2 := Lib.hid hk2
        clear hsb hk2
        have b0 : (0 : Int) ≤ bj := Int.natCast_nonneg _
        have wb : IntKind.i64.wrap ((bj : Int) + 1) = (bj : Int) + 1 := IntWalk.i64_in _ (by omega)
        by_cases hbn : bj ≤ n
        · have hbi : (bj : Int) ≤ n := by omega
          have hst := HSB.out
          rw [show n + 1 - bj = (n + 1 - (bj + 1)) + 1 by omega, scB] at hst
          cases hc : metB n u (fj : Int) (bj : Int)
          · rw [hc, if_neg (by simp)] at hst
            have HST := Lib.hid hst
            have HMT : Hid (decide (u ∈ metL (rsN n fj bj)) = false) := Lib.hid (by rw [← hc]; unfold metB; rw [decide_eq_decide]; exact metL_mem _ _)
            clear hst hc
            go_wp2_with fail
            refine (boMet_any n (fj : Int) (bj : Int) _ (by omega) (by omega) (by omega) (by omega) (by omega) (by omega)).mono ?_
            rintro e w3 ⟨v3, rfl, hs3, hk3⟩
            have HS3 := Lib.hid hs3
            have HK3 := Lib.hid (HK2.out.nw hk3)
            clear hs3 hk3
            go_wp2_with fail
            refine (l1Has_any v3 (metL (rsN n fj bj)) u w3 HS3.out.rd (by have := metL_le (rsN n fj bj); have := rsN_len n fj bj; omega)).mono ?_
            rw [HMT.out]
            rintro e w' ⟨rfl, rfl⟩
            go_wp2
            go_roundw
            case rel => exact ⟨bj + 1, _, by omega, by omega, by go_num, rfl, HST.out, HK3.out⟩
            case measure => simp [intOf] <;> omega
          · rw [hc, if_pos rfl] at hst
            have HMT : Hid (decide (u ∈ metL (rsN n fj bj)) = true) := Lib.hid (by rw [← hc]; unfold metB; rw [decide_eq_decide]; exact metL_mem _ _)
            have HVV : Hid (M = ((fj : Int), (bj : Int), true)) := Lib.hid (by
              have h1 := HSC.out
              rw [show n + 1 - fj = (n - fj) + 1 by omega, scF, ← hst] at h1
              rw [HV.out, ← h1]; rfl)
            clear hst hc
            go_wp2_with fail
            refine (boMet_any n (fj : Int) (bj : Int) _ (by omega) (by omega) (by omega) (by omega) (by omega) (by omega)).mono ?_
            rintro e w3 ⟨v3, rfl, hs3, hk3⟩
            have HS3 := Lib.hid hs3
            have HK3 := Lib.hid (HK2.out.nw hk3)
            clear hs3 hk3
            go_wp2_with fail
            refine (l1Has_any v3 (metL (rsN n fj bj)) u w3 HS3.out.rd (by have := metL_le (rsN n fj bj); have := rsN_len n fj bj; omega)).mono ?_
            rw [HMT.out]
            rintro e w' ⟨rfl, rfl⟩
            go_wp2
            refine bodyPost_ret (v := .tuple #[.int .i64 (fj : Int), .int .i64 (bj : Int), .bool true]) (by simp [results, Try.results25, go_sem]) rfl ⟨by rw [HVV.out], HK3.out⟩
        · have hbi : ¬ (bj : Int) ≤ n := by omega
          have HN : Hid (scF Q (n + 1 - (fj + 1)) (fj + 1) = V) := Lib.hid (by
            have h1 := HSC.out
            have h2 := HSB.out
            rw [show n + 1 - bj = 0 by omega, scB] at h2
            rw [show n + 1 - fj = (n + 1 - (fj + 1)) + 1 by omega, scF, ← h2] at h1
            exact h1)
          go_wp2
          go_roundw
          case rel => exact ⟨fj + 1, _, by omega, by omega, by go_num, rfl, HN.out, HK2.out⟩
          case measure => simp [intOf] <;> omega
    · have hfi : ¬ (fj : Int) ≤ n := by omega
      have HN : Hid (M = (0, 0, false)) := Lib.hid (by
        have h1 := HSC.out
        rw [show n + 1 - fj = 0 by omega, scF] at h1
        rw [HV.out, ← h1]; rfl)
      go_wp2
      refine bodyPost_ret (v := .tuple #[.int .i64 0, .int .i64 0, .bool false]) (by simp [results, Try.results25, go_sem]) rfl ⟨by rw [HN.out], HK.out⟩
theorem sStepsToMeet_no (p u : Int) (W : World) (h : ¬ (1 ≤ p ∧ p ≤ 20 ∧ 0 ≤ u ∧ u ≤ p - 1)) : Calls Try.prog 25 #[.int .i64 p, .int .i64 u] W (Int2B W 0 0 false) := by
  by_cases ha : 1 ≤ p ∧ p ≤ 20
  · obtain ⟨p0, p1⟩ := ha
    have hu : u < 0 ∨ p - 1 < u := by
      by_cases e : u < 0
      · exact .inl e
      · by_cases e2 : p - 1 < u
        · exact .inr e2
        · exact (h ⟨by omega, by omega, by omega, by omega⟩).elim
    have wp : IntKind.i64.wrap (p - 1) = p - 1 := IntWalk.i64_in _ (by omega)
    clear h
    go_enter Try.func25, Try.ntmps25
    go_wp2_with (first | ((with_reducible refine (l1In_yes p _ _ _ p0 p1).mono ?_); rintro e w' ⟨rfl, rfl⟩) | ((with_reducible refine (l1In_no u _ _ _ hu).mono ?_); rintro e w' ⟨rfl, rfl⟩))
    refine bodyPost_ret (v := .tuple #[.int .i64 0, .int .i64 0, .bool false]) (by simp [results, Try.results25, go_sem]) rfl ⟨rfl, Kp.refl _ _⟩
  · have hp : p < 1 ∨ 20 < p := by omega
    clear h ha
    go_enter Try.func25, Try.ntmps25
    go_wp2_with (first | ((with_reducible refine (l1In_no p _ _ _ hp).mono ?_); rintro e w' ⟨rfl, rfl⟩))
    refine bodyPost_ret (v := .tuple #[.int .i64 0, .int .i64 0, .bool false]) (by simp [results, Try.results25, go_sem]) rfl ⟨rfl, Kp.refl _ _⟩

theorem lawChosenByBoth (p f b : Int) (W : World) : Calls Try.prog 4 #[.int .i64 p, .int .i64 f, .int .i64 b] W fun e w' => e = .returned (.bool true) ∧ Kp Nw W w' := by
  by_cases h : Asked p f ∧ Asked p b
  · obtain ⟨n, rfl⟩ : ∃ n : Nat, p = n := ⟨p.toNat, by have := h.1.p1; omega⟩
    exact lawChosenByBoth_of (n : Int) f b _ _ W (by have h1 := metL_le (rsN n f b); have h2 := rsN_len n f b; have h3 := h.1.p2; omega) (Lib.hid fun W => sChosenByBoth_yes n f b W h.1 h.2) (Lib.hid fun W => iChosenByBoth_yes n f b W h.1 h.2)
  · exact lawChosenByBoth_of p f b _ _ W (Nat.zero_le _) (Lib.hid fun W => sChosenByBoth_no p f b W h) (Lib.hid fun W => iChosenByBoth_no p f b W h)

theorem lawCountRoundsOfTwo (p f b : Int) (W : World) : Calls Try.prog 5 #[.int .i64 p, .int .i64 f, .int .i64 b] W fun e w' => e = .returned (.bool true) ∧ Kp Nw W w' := by
  by_cases h : Asked p f ∧ Asked p b
  · obtain ⟨n, rfl⟩ : ∃ n : Nat, p = n := ⟨p.toNat, by have := h.1.p1; omega⟩
    exact lawCountRoundsOfTwo_of (n : Int) f b _ _ W (Lib.hid fun W => sCountRoundsOfTwo_yes n f b W h.1 h.2) (Lib.hid fun W => iCountRoundsOfTwo_yes n f b W h.1 h.2)
  · exact lawCountRoundsOfTwo_of p f b _ _ W (Lib.hid fun W => sCountRoundsOfTwo_no p f b W h) (Lib.hid fun W => iCountRoundsOfTwo_no p f b W h)

theorem lawLastTogether (p f b : Int) (W : World) : Calls Try.prog 6 #[.int .i64 p, .int .i64 f, .int .i64 b] W fun e w' => e = .returned (.bool true) ∧ Kp Nw W w' := by
  by_cases h : Asked p f ∧ Asked p b
  · obtain ⟨n, rfl⟩ : ∃ n : Nat, p = n := ⟨p.toNat, by have := h.1.p1; omega⟩
    exact lawLastTogether_of (n : Int) f b _ _ W (by have := peo_len (rsA n f b ((rsN n f b).length - 1)); omega) (Lib.hid fun W => sLastTogether_yes n f b W h.1 h.2) (Lib.hid fun W => iLastTogether_yes n f b W h.1 h.2)
  · exact lawLastTogether_of p f b _ _ W (Nat.zero_le _) (Lib.hid fun W => sLastTogether_no p f b W h) (Lib.hid fun W => iLastTogether_no p f b W h)

theorem lawRoundOfPerson (p f b u : Int) (W : World) : Calls Try.prog 7 #[.int .i64 p, .int .i64 f, .int .i64 b, .int .i64 u] W fun e w' => e = .returned (.bool true) ∧ Kp Nw W w' := by
  by_cases h : (Asked p f ∧ Asked p b) ∧ 0 ≤ u ∧ u ≤ p - 1
  · obtain ⟨n, rfl⟩ : ∃ n : Nat, p = n := ⟨p.toNat, by have := h.1.1.p1; omega⟩
    obtain ⟨i, hi⟩ := first_any n f b u h.2.1 (by omega)
    exact lawRoundOfPerson_of (n : Int) f b u _ _ W (Lib.hid fun W => sRoundOfPerson_yes n i f b u W h.1.1 h.1.2 h.2.1 h.2.2 hi) (Lib.hid fun W => iRoundOfPerson_yes n i f b u W h.1.1 h.1.2 h.2.1 h.2.2 hi)
  · exact lawRoundOfPerson_of p f b u _ _ W (Lib.hid fun W => sRoundOfPerson_no p f b u W h) (Lib.hid fun W => iRoundOfPerson_no p f b u W h)
theorem lawStepsToMeet (p u : Int) (W : World) : Calls Try.prog 8 #[.int .i64 p, .int .i64 u] W fun e w' => e = .returned (.bool true) ∧ Kp Nw W w' := by
  by_cases h : 1 ≤ p ∧ p ≤ 20 ∧ 0 ≤ u ∧ u ≤ p - 1
  · obtain ⟨n, rfl⟩ : ∃ n : Nat, p = n := ⟨p.toNat, by omega⟩
    exact lawStepsToMeet_of (n : Int) u _ _ _ W (Lib.hid fun W => sStepsToMeet_yes n u W (by omega) (by omega) h.2.2.1 h.2.2.2) (Lib.hid fun W => iStepsToMeet_yes n u W (by omega) (by omega) h.2.2.1 h.2.2.2)
  · exact lawStepsToMeet_of p u _ _ _ W (Lib.hid fun W => sStepsToMeet_no p u W h) (Lib.hid fun W => iStepsToMeet_no p u W h)
end Go.Proofs.Ytjlbillfbhkamaa
