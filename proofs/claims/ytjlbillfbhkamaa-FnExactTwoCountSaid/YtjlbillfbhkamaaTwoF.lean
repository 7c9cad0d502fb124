/- The functions on rounds of two in the program; no condition but what the chapter asks. -/
import Derived.Test.YtjlbillfbhkamaaTwoP
import Derived.Test.YtjlbillfbhkamaaSS
import Derived.Test.YtjlbillfbhkamaaTurnI
import Derived.Test.YtjlbillfbhkamaaLw6a
namespace Go.Proofs.Ytjlbillfbhkamaa
open Go.ChangeShapes Go.WideShapes Go.ChangeAt Go.RowKit

/-- what a call returns that makes lists, or fails -/
def ListSB (W : World) (xss : List (List Int)) (b : Bool) (e : Ending) (w' : World) : Prop := ∃ v, e = .returned (.tuple #[v, .bool b]) ∧ SS w' W.heap.size w'.heap.size v xss ∧ Kp Nw W w'
theorem rounds_rs (n : Nat) (f b : Int) (W : World) (hf : Asked n f) (hb : Asked n b) : Calls Try.prog 30 #[.int .i64 n, .int .i64 f, .int .i64 b] W (RndRes W (rsN n f b)) :=
  roundsOfTwo_any n f b W (by have := hf.p1; omega) (by have := hf.p2; omega) hf.k1 hf.k2 hb.k1 hb.k2

set_option maxRecDepth 100000 in
set_option maxHeartbeats 3200000 in
theorem iCountRoundsOfTwo_yes (n : Nat) (f b : Int) (W : World) (hf : Asked n f) (hb : Asked n b) : Calls Try.prog 20 #[.int .i64 n, .int .i64 f, .int .i64 b] W (IntB W ((rsN n f b).length : Nat) true) := by
  have h1 := hf.p1; have h2 := hf.p2
  obtain ⟨RS, hRS⟩ : ∃ RS, rsN n f b = RS := ⟨_, rfl⟩
  have hlen := rsN_len n f b
  have hpos := rsN_pos n f b (by omega)
  rw [hRS] at hlen hpos
  obtain ⟨m, hm⟩ : ∃ m, RS.length = m := ⟨_, rfl⟩
  rw [hm] at hlen hpos
  have HRS := Lib.hid hRS
  have HM := Lib.hid hm
  rw [hRS]
  clear hRS hm
  have HMM := Lib.hid HM.out
  rw [HMM.out]
  go_enter Try.func20, Try.ntmps20
  go_wp2_with (first | ((with_reducible refine (isForthAndBack_yes _ _ _ _ hf hb).mono ?_); rintro e w' ⟨rfl, rfl⟩))
  refine (rounds_rs n f b W hf hb).mono ?_
  rw [HRS.out]
  rintro e w1 ⟨v, rfl, hs, hk⟩
  obtain ⟨A, c, rfl⟩ := hs.val HM.out
  have HS := Lib.hid hs
  have HK := Lib.hid hk
  clear hs hk
  go_wp2
  go_ret2
  exact ⟨rfl, HK.out⟩

theorem iCountRoundsOfTwo_no (p f b : Int) (W : World) (h : ¬ (Asked p f ∧ Asked p b)) : Calls Try.prog 20 #[.int .i64 p, .int .i64 f, .int .i64 b] W (IntB W 0 false) := by
  go_enter Try.func20, Try.ntmps20
  go_wp2_with (first | ((with_reducible refine (isForthAndBack_no _ _ _ _ h).mono ?_); rintro e w' ⟨rfl, rfl⟩))
  go_ret2
  exact ⟨rfl, Kp.refl _ _⟩

set_option maxRecDepth 100000 in
set_option maxHeartbeats 3200000 in
theorem iLastTogether_yes (n : Nat) (f b : Int) (W : World) (hf : Asked n f) (hb : Asked n b) : Calls Try.prog 22 #[.int .i64 n, .int .i64 f, .int .i64 b] W (ListB W (peo (rsA n f b ((rsN n f b).length - 1))) true) := by
  unfold rsA
  have h1 := hf.p1; have h2 := hf.p2
  obtain ⟨RS, hRS⟩ : ∃ RS, rsN n f b = RS := ⟨_, rfl⟩
  have hlen := rsN_len n f b
  have hpos := rsN_pos n f b (by omega)
  rw [hRS] at hlen hpos
  obtain ⟨m, hm⟩ : ∃ m, RS.length = m := ⟨_, rfl⟩
  rw [hm] at hlen hpos
  have HRS := Lib.hid hRS
  have HM := Lib.hid hm
  rw [hRS]
  clear hRS hm
  rw [HM.out]
  obtain ⟨d, hd⟩ : ∃ d, m - 1 = d := ⟨_, rfl⟩
  have e1 : IntKind.i64.wrap ((m : Int) - 1) = (d : Int) := by rw [IntWalk.i64_in _ (by omega)]; omega
  have hdn : d < m := by omega
  have d0 : (0 : Int) ≤ d := Int.natCast_nonneg _
  have d1 : (d : Int) < m := by omega
  rw [hd]
  obtain ⟨⟨x, y⟩, hx⟩ : ∃ x, RS.getD d (0, 0) = x := ⟨_, rfl⟩
  rw [hx]
  have HX := Lib.hid hx
  clear hd hx
  go_enter Try.func22, Try.ntmps22
  go_wp2_with (first | ((with_reducible refine (isForthAndBack_yes _ _ _ _ hf hb).mono ?_); rintro e w' ⟨rfl, rfl⟩))
  refine (rounds_rs n f b W hf hb).mono ?_
  rw [HRS.out]
  rintro e w1 ⟨v, rfl, hs, hk⟩
  obtain ⟨A, c, rfl⟩ := hs.val HM.out
  have HS := Lib.hid hs
  have HK := Lib.hid hk
  clear hs hk
  obtain ⟨g, rfl, c0, c1⟩ := HS.out.cell d (by rw [HM.out]; exact hdn)
  rw [HX.out] at c0 c1
  go_wp2_with fail
  refine (people_any x y w1).mono ?_
  rintro e w2 ⟨v2, rfl, hs2, hk2⟩
  have HS2 := Lib.hid (hs2.from HK.out.size)
  have HK2 := Lib.hid (HK.out.nw hk2)
  clear hs2 hk2 c0 c1
  go_wp2
  go_ret2
  exact ⟨v2, rfl, HS2.out, HK2.out⟩

theorem iLastTogether_no (p f b : Int) (W : World) (h : ¬ (Asked p f ∧ Asked p b)) : Calls Try.prog 22 #[.int .i64 p, .int .i64 f, .int .i64 b] W (ListB W [] false) := by
  go_enter Try.func22, Try.ntmps22
  go_wp2_with (first | ((with_reducible refine (isForthAndBack_no _ _ _ _ h).mono ?_); rintro e w' ⟨rfl, rfl⟩))
  go_ret2
  exact ⟨.slice none 0 0, rfl, Sl.nil _ _, Kp.refl _ _⟩

set_option maxRecDepth 100000 in
set_option maxHeartbeats 3200000 in
theorem iTwoCount_yes (n : Nat) (f b : Int) (W : World) (hf : Asked n f) (hb : Asked n b) : Calls Try.prog 10 #[.int .i64 n, .int .i64 f, .int .i64 b] W (ListSB W ((rsN n f b).map peo) true) := by
  have h1 := hf.p1; have h2 := hf.p2
  obtain ⟨RS, hRS⟩ : ∃ RS, rsN n f b = RS := ⟨_, rfl⟩
  have hlen := rsN_len n f b
  have hpos := rsN_pos n f b (by omega)
  rw [hRS] at hlen hpos
  obtain ⟨m, hm⟩ : ∃ m, RS.length = m := ⟨_, rfl⟩
  rw [hm] at hlen hpos
  have HRS := Lib.hid hRS
  have HM := Lib.hid hm
  rw [hRS]
  clear hRS hm
  go_enter Try.func10, Try.ntmps10
  go_wp2_with (first | ((with_reducible refine (isForthAndBack_yes _ _ _ _ hf hb).mono ?_); rintro e w' ⟨rfl, rfl⟩))
  refine (rounds_rs n f b W hf hb).mono ?_
  rw [HRS.out]
  rintro e w1 ⟨v, rfl, hs, hk⟩
  obtain ⟨A, c, rfl⟩ := hs.val HM.out
  have HS := Lib.hid hs
  have HK := Lib.hid hk
  clear hs hk
  go_wp2
  go_loopw [8, 21] (fun r0 i wq => ∃ (j : Nat) (r : Value) (wr : World), j ≤ m ∧ i = .int .i64 j ∧ r = r0 ∧ wr = wq ∧ SS wr w1.heap.size wr.heap.size r ((RS.take j).map peo) ∧ Kp Nw w1 wr) (fun _ i _ => m - (intOf i).toNat)
  case atStart => exact ⟨0, _, _, Nat.zero_le _, rfl, rfl, rfl, SS.nil _ _ _, Kp.refl _ _⟩
  case round =>
    obtain ⟨j, r, wr, hj, rfl, rfl, rfl, hr, hk1⟩ := hrel
    have HR := Lib.hid hr
    have HK1 := Lib.hid hk1
    have j0 : (0 : Int) ≤ j := Int.natCast_nonneg _
    have hz : w1.heap.size ≤ wr.heap.size := hk1.size
    clear hr hk1
    by_cases hlt : j < m
    · have j1 : (j : Int) < m := by omega
      obtain ⟨g, rfl, c0, c1⟩ := (HS.out.nw HK1.out).cell j (by rw [HM.out]; exact hlt)
      obtain ⟨⟨x, y⟩, hx⟩ : ∃ x, RS.getD j (0, 0) = x := ⟨_, rfl⟩
      rw [hx] at c0 c1
      have hst := peo_take RS j (by rw [HM.out]; exact hlt)
      rw [hx] at hst
      have HST := Lib.hid hst
      clear hst hx
      go_wp2_with fail
      refine (people_any x y _).mono ?_
      rintro e w3 ⟨v3, rfl, hs3, hk3⟩
      have k3 : Kp Nw wr w3 := (Kp.al wr _).nw hk3
      have hs3' := hs3.from (show wr.heap.size ≤ (wr.alloc (.cells #[.int .i64 x, .int .i64 y] 44)).heap.size by simp)
      obtain ⟨A3, c3, rfl⟩ := hs3'.val rfl
      have HS3 := Lib.hid hs3'
      have K3 := Lib.hid k3
      have e1 : (w3.alloc (.cells #[.slice A3 (peo (x, y)).length c3] 28)).cell? ⟨w3.heap.size, 0, none⟩ = some (.slice A3 (peo (x, y)).length c3) := by simp [World.cell?_alloc_at]
      have E1 := Lib.hid e1
      have hrl : ((RS.take j).map peo).length ≤ 1000000 := by rw [List.length_map, List.length_take]; omega
      have HMT : Hid (List.take j (List.map peo RS) = (RS.take j).map peo) := Lib.hid (by rw [List.map_take])
      clear hs3 hk3 k3 hs3' c0 c1 e1
      go_wp2_with (first | (at_builtin; refine wpList_ss wr _ rfl (.tmp 25) (.tmp 28) rfl w1.heap.size wr.heap.size w3.heap.size r (.slice A3 (peo (x, y)).length c3) ((RS.take j).map peo) (peo (x, y)) rfl rfl HR.out (K3.out.alloc _) (Nat.le_refl _) (HS3.out.below (Kp.al _ _).below') E1.out hrl hz ?_))
      intro v5 w5 hs5 hk5
      have hown : ∀ b, r.ownBlock = some b → w1.heap.size ≤ b := fun b hb => (HR.out.own b hb).1
      have kk : Kp (fun b => r.ownBlock = some b) wr w5 := ((K3.out.alloc _).mono (fun _ _ h => h.elim)).trans hk5
      have HK5 := Lib.hid (HK1.out.after kk (fun g hg e => by have := hown g e; omega))
      have HS5 := Lib.hid hs5
      clear hs5 hk5 hown kk
      go_wp2
      go_roundw
      case rel => exact ⟨j + 1, v5, _, by omega, by go_num, rfl, rfl, by rw [HST.out]; (first | exact HS5.out | (have h5 := HS5.out; rw [HMT.out] at h5; exact h5)), HK5.out⟩
      case measure => simp [intOf] <;> omega
    · have ej : j = m := by omega
      subst ej
      have hw : W.heap.size ≤ w1.heap.size := HK.out.size
      have HF := Lib.hid (show SS wr w1.heap.size wr.heap.size r (RS.map peo) from by
        have := HR.out
        rw [List.take_of_length_le (by rw [HM.out]; exact Nat.le_refl _)] at this
        exact this)
      have hnn : ¬ (j : Int) < (j : Int) := Int.lt_irrefl _
      go_wp2
      go_ret2
      exact ⟨r, rfl, HF.out.from hw (Nat.le_refl _), HK.out.nw HK1.out⟩

theorem iTwoCount_no (p f b : Int) (W : World) (h : ¬ (Asked p f ∧ Asked p b)) : Calls Try.prog 10 #[.int .i64 p, .int .i64 f, .int .i64 b] W (ListSB W [] false) := by
  go_enter Try.func10, Try.ntmps10
  go_wp2_with (first | ((with_reducible refine (isForthAndBack_no _ _ _ _ h).mono ?_); rintro e w' ⟨rfl, rfl⟩))
  go_ret2
  exact ⟨.slice none 0 0, rfl, SS.nil _ _ _, Kp.refl _ _⟩

set_option maxRecDepth 100000 in
set_option maxHeartbeats 3200000 in
theorem iChosenByBoth_yes (n : Nat) (f b : Int) (W : World) (hf : Asked n f) (hb : Asked n b) : Calls Try.prog 15 #[.int .i64 n, .int .i64 f, .int .i64 b] W (ListB W (metL (rsN n f b)) true) := by
  have h1 := hf.p1; have h2 := hf.p2
  obtain ⟨RS, hRS⟩ : ∃ RS, rsN n f b = RS := ⟨_, rfl⟩
  have hlen := rsN_len n f b
  have hpos := rsN_pos n f b (by omega)
  rw [hRS] at hlen hpos
  obtain ⟨m, hm⟩ : ∃ m, RS.length = m := ⟨_, rfl⟩
  rw [hm] at hlen hpos
  have HRS := Lib.hid hRS
  have HM := Lib.hid hm
  rw [hRS]
  clear hRS hm
  go_enter Try.func15, Try.ntmps15
  go_wp2_with (first | ((with_reducible refine (isForthAndBack_yes _ _ _ _ hf hb).mono ?_); rintro e w' ⟨rfl, rfl⟩))
  refine (rounds_rs n f b W hf hb).mono ?_
  rw [HRS.out]
  rintro e w1 ⟨v, rfl, hs, hk⟩
  obtain ⟨A, c, rfl⟩ := hs.val HM.out
  have HS := Lib.hid hs
  have HK := Lib.hid hk
  clear hs hk
  go_wp2
  go_loopw [8, 21] (fun r0 i wq => ∃ (j : Nat) (r : Value) (wr : World), j ≤ m ∧ i = .int .i64 j ∧ r = r0 ∧ wr = wq ∧ Sl wr w1.heap.size r (metL (RS.take j)) ∧ Kp Nw w1 wr) (fun _ i _ => m - (intOf i).toNat)
  case atStart => exact ⟨0, _, _, Nat.zero_le _, rfl, rfl, rfl, Sl.nil _ _, Kp.refl _ _⟩
  case round =>
    obtain ⟨j, r, wr, hj, rfl, rfl, rfl, hr, hk1⟩ := hrel
    have HR := Lib.hid hr
    have HK1 := Lib.hid hk1
    have j0 : (0 : Int) ≤ j := Int.natCast_nonneg _
    have hz : w1.heap.size ≤ wr.heap.size := hk1.size
    clear hr hk1
    by_cases hlt : j < m
    · have j1 : (j : Int) < m := by omega
      obtain ⟨g, rfl, c0, c1⟩ := (HS.out.nw HK1.out).cell j (by rw [HM.out]; exact hlt)
      obtain ⟨⟨x, y⟩, hx⟩ : ∃ x, RS.getD j (0, 0) = x := ⟨_, rfl⟩
      rw [hx] at c0 c1
      have hst := metL_take RS j (by rw [HM.out]; exact hlt)
      rw [hx] at hst
      have hrl : (metL (RS.take j)).length ≤ 1000 := by have := metL_le (RS.take j); rw [List.length_take] at this; omega
      have e0 : (wr.alloc (.cells #[.int .i64 x, .int .i64 y] 44)).cell? ⟨wr.heap.size, 0, none⟩ = some (.int .i64 x) := by simp [World.cell?_alloc_at]
      have E0 := Lib.hid e0
      clear hx e0
      by_cases hxy : x = y
      · have HST : Hid (metL (RS.take (j + 1)) = metL (RS.take j) ++ [x]) := Lib.hid (by rw [hst]; simp [hxy])
        have HO : Hid (∀ w, Calls Try.prog 33 #[.agg #[.int .i64 x, .int .i64 y]] w fun e w' => e = .returned (.bool true) ∧ Kp Nw w w') := Lib.hid (fun w => by have := isOne_any x y w; rwa [decide_eq_true hxy] at this)
        clear hst hxy
        go_wp2_with fail
        refine (HO.out _).mono ?_
        rintro e w3 ⟨rfl, hk3⟩
        have d0 := keepc hk3 E0.out (fun h => h)
        have K3 := Lib.hid ((Kp.al wr _).nw hk3)
        have hz3 : wr.heap.size ≤ w3.heap.size := K3.out.size
        clear hk3 c0 c1
        go_wp2_with (first | (at_builtin; refine wpList_app _ rfl (.tmp 27) (.tmp 30) rfl w1.heap.size r _ (metL (RS.take j)) [x] rfl rfl ((HR.out.below K3.out.below').below (Kp.al _ _).below') (Rd.one (g := w3.heap.size) (by simp)) nil_one (by simp; omega) (by simp; omega) ?_))
        intro v5 w5 hs5 hk5 _
        have HS5 := Lib.hid hs5
        have HK5 := Lib.hid (((HK1.out.nw K3.out).nw (.al _ _)).own ((HR.out.below K3.out.below').below (Kp.al _ _).below') hk5)
        clear hs5 hk5 d0
        go_wp2
        go_roundw
        case rel => exact ⟨j + 1, v5, _, by omega, by go_num, rfl, rfl, by rw [HST.out]; exact HS5.out, HK5.out⟩
        case measure => simp [intOf] <;> omega
      · have HST : Hid (metL (RS.take (j + 1)) = metL (RS.take j)) := Lib.hid (by rw [hst, if_neg hxy, List.append_nil])
        have HO : Hid (∀ w, Calls Try.prog 33 #[.agg #[.int .i64 x, .int .i64 y]] w fun e w' => e = .returned (.bool false) ∧ Kp Nw w w') := Lib.hid (fun w => by have := isOne_any x y w; rwa [decide_eq_false hxy] at this)
        clear hst hxy
        go_wp2_with fail
        refine (HO.out _).mono ?_
        rintro e w3 ⟨rfl, hk3⟩
        have K3 := Lib.hid ((Kp.al wr _).nw hk3)
        clear hk3 c0 c1
        go_wp2
        go_roundw
        case rel => exact ⟨j + 1, r, _, by omega, by go_num, rfl, rfl, by rw [HST.out]; exact HR.out.below K3.out.below', HK1.out.nw K3.out⟩
        case measure => simp [intOf] <;> omega
    · have ej : j = m := by omega
      subst ej
      have hw : W.heap.size ≤ w1.heap.size := HK.out.size
      have HF := Lib.hid (show Sl wr w1.heap.size r (metL RS) from by
        have := HR.out
        rw [List.take_of_length_le (by rw [HM.out]; exact Nat.le_refl _)] at this
        exact this)
      have hnn : ¬ (j : Int) < (j : Int) := Int.lt_irrefl _
      go_wp2
      go_ret2
      exact ⟨r, rfl, HF.out.from hw, HK.out.nw HK1.out⟩

theorem iChosenByBoth_no (p f b : Int) (W : World) (h : ¬ (Asked p f ∧ Asked p b)) : Calls Try.prog 15 #[.int .i64 p, .int .i64 f, .int .i64 b] W (ListB W [] false) := by
  go_enter Try.func15, Try.ntmps15
  go_wp2_with (first | ((with_reducible refine (isForthAndBack_no _ _ _ _ h).mono ?_); rintro e w' ⟨rfl, rfl⟩))
  go_ret2
  exact ⟨.slice none 0 0, rfl, Sl.nil _ _, Kp.refl _ _⟩

set_option maxRecDepth 100000 in
set_option maxHeartbeats 3200000 in
theorem iRoundOfPerson_yes (n i : Nat) (f b u : Int) (W : World) (hf : Asked n f) (hb : Asked n b) (u0 : 0 ≤ u) (u1 : u ≤ (n : Int) - 1) (hi : FirstC u (rsN n f b) i) : Calls Try.prog 24 #[.int .i64 n, .int .i64 f, .int .i64 b, .int .i64 u] W (IntB W (i : Nat) true) := by
  have h1 := hf.p1; have h2 := hf.p2
  obtain ⟨RS, hRS⟩ : ∃ RS, rsN n f b = RS := ⟨_, rfl⟩
  have hlen := rsN_len n f b
  have hpos := rsN_pos n f b (by omega)
  rw [hRS] at hlen hpos
  obtain ⟨m, hm⟩ : ∃ m, RS.length = m := ⟨_, rfl⟩
  rw [hm] at hlen hpos
  have HRS := Lib.hid hRS
  have HM := Lib.hid hm
  rw [hRS] at hi
  have HI := Lib.hid hi
  clear hRS hm hi
  have wp : IntKind.i64.wrap ((n : Int) - 1) = (n : Int) - 1 := IntWalk.i64_in _ (by omega)
  have e0 : (W.alloc (.cells #[.int .i64 u] 3)).cell? ⟨W.heap.size, 0, none⟩ = some (.int .i64 u) := by simp [World.cell?_alloc_at]
  have E0 := Lib.hid e0
  go_enter Try.func24, Try.ntmps24
  go_wp2_with (first | ((with_reducible refine (isForthAndBack_yes _ _ _ _ hf hb).mono ?_); rintro e w' ⟨rfl, rfl⟩) | ((with_reducible refine (within_yes u _ _ _ u0 u1).mono ?_); rintro e w' ⟨rfl, rfl⟩))
  refine (rounds_rs n f b _ hf hb).mono ?_
  rw [HRS.out]
  rintro e w1 ⟨v, rfl, hs, hk⟩
  obtain ⟨A, c, rfl⟩ := hs.val HM.out
  have HS := Lib.hid hs
  have d0 := keepc hk E0.out (fun h => h)
  have D0 := Lib.hid d0
  have HK := Lib.hid ((Kp.al W _).nw hk)
  clear hs hk d0 e0
  go_wp2_with fail
  refine (indexC_any _ i W.heap.size m c A RS u w1 HS.out HM.out (by omega) D0.out HI.out).mono ?_
  rintro e w2 ⟨rfl, hk2⟩
  have HK2 := Lib.hid (HK.out.nw hk2)
  clear hk2
  go_wp2
  go_ret2
  exact ⟨rfl, HK2.out⟩
theorem iRoundOfPerson_no (p f b u : Int) (W : World) (h : ¬ ((Asked p f ∧ Asked p b) ∧ 0 ≤ u ∧ u ≤ p - 1)) : Calls Try.prog 24 #[.int .i64 p, .int .i64 f, .int .i64 b, .int .i64 u] W (IntB W 0 false) := by
  by_cases ha : Asked p f ∧ Asked p b
  · have h1 := ha.1.p1; have h2 := ha.1.p2
    have hu : u < 0 ∨ p - 1 < u := by
      by_cases e : u < 0
      · exact .inl e
      · by_cases e2 : p - 1 < u
        · exact .inr e2
        · exact (h ⟨ha, by omega, by omega⟩).elim
    have wp : IntKind.i64.wrap (p - 1) = p - 1 := IntWalk.i64_in _ (by omega)
    obtain ⟨hf, hb⟩ := ha
    clear h
    go_enter Try.func24, Try.ntmps24
    go_wp2_with (first | ((with_reducible refine (isForthAndBack_yes p f b _ hf hb).mono ?_); rintro e w' ⟨rfl, rfl⟩) | ((with_reducible refine (within_no u _ _ _ hu).mono ?_); rintro e w' ⟨rfl, rfl⟩))
    go_ret2
    exact ⟨rfl, by first | exact Kp.refl _ _ | exact Kp.al _ _⟩
  · clear h
    go_enter Try.func24, Try.ntmps24
    go_wp2_with (first | ((with_reducible refine (isForthAndBack_no p f b _ ha).mono ?_); rintro e w' ⟨rfl, rfl⟩))
    go_ret2
    exact ⟨rfl, by first | exact Kp.refl _ _ | exact Kp.al _ _⟩

set_option maxRecDepth 100000 in
set_option maxHeartbeats 3200000 in
theorem iStepsToMeet_yes (n : Nat) (u : Int) (W : World) (n1 : 1 ≤ n) (n2 : n ≤ 20) (u0 : 0 ≤ u) (u1 : u ≤ (n : Int) - 1) : Calls Try.prog 26 #[.int .i64 n, .int .i64 u] W (Int2B W (meetV n u).1 (meetV n u).2.1 (meetV n u).2.2) := by
  have p0 : 1 ≤ (n : Int) := by omega
  have p1 : (n : Int) ≤ 20 := by omega
  have wp : IntKind.i64.wrap ((n : Int) - 1) = (n : Int) - 1 := IntWalk.i64_in _ (by omega)
  obtain ⟨Q, hQ⟩ : ∃ Q : Nat → Option Nat, Q = fun f : Nat => scB (fun b : Nat => metB n u (f : Int) (b : Int)) n 1 := ⟨_, rfl⟩
  obtain ⟨V, hV⟩ : ∃ V, scF Q n 1 = V := ⟨_, rfl⟩
  have HV : Hid (meetV n u = meetO V) := Lib.hid (by unfold meetV; rw [← hV, hQ])
  have HQ := Lib.hid hQ
  have HVQ := Lib.hid hV
  obtain ⟨M, hM⟩ : ∃ M, meetV n u = M := ⟨_, rfl⟩
  rw [hM] at HV ⊢
  clear hQ hV hM
  go_enter Try.func26, Try.ntmps26
  go_wp2_with (first | ((with_reducible refine (within_yes (n : Int) _ _ _ p0 p1).mono ?_); rintro e w' ⟨rfl, rfl⟩) | ((with_reducible refine (within_yes u _ _ _ u0 u1).mono ?_); rintro e w' ⟨rfl, rfl⟩))
  go_loopw [7] (fun z wq => ∃ (fj : Nat) (wr : World), 1 ≤ fj ∧ fj ≤ n + 1 ∧ z = .int .i64 fj ∧ wr = wq ∧ scF Q (n + 1 - fj) fj = V ∧ Kp Nw W wr) (fun z _ => n + 1 - (intOf z).toNat)
  case atStart => exact ⟨1, _, Nat.le_refl _, by omega, rfl, rfl, by rw [show n + 1 - 1 = n by omega]; exact HVQ.out, Kp.refl _ _⟩
  case round =>
    obtain ⟨fj, wr, f1, f2, rfl, rfl, hsc, hk⟩ := hrel
    have HSC := Lib.hid hsc
    have HK := Lib.hid hk
    clear hsc hk
    have f0 : (0 : Int) ≤ fj := Int.natCast_nonneg _
    have wf : IntKind.i64.wrap ((fj : Int) + 1) = (fj : Int) + 1 := IntWalk.i64_in _ (by omega)
    by_cases hfn : fj ≤ n
    · have hfi : (fj : Int) ≤ n := by omega
      go_wp2
      go_loopw [8] (fun z wq => ∃ (bj : Nat) (wr' : World), 1 ≤ bj ∧ bj ≤ n + 1 ∧ z = .int .i64 bj ∧ wr' = wq ∧ scB (fun b : Nat => metB n u (fj : Int) (b : Int)) (n + 1 - bj) bj = Q fj ∧ Kp Nw W wr') (fun z _ => n + 1 - (intOf z).toNat)
      case atStart => exact ⟨1, _, Nat.le_refl _, by omega, rfl, rfl, by rw [show n + 1 - 1 = n by omega, HQ.out], HK.out⟩
      case round =>
        obtain ⟨bj, wr', b1, b2, rfl, rfl, hsb, hk2⟩ := hrel
        have HSB := Lib.hid hsb
        have HK2 := Lib.hid hk2
        clear hsb hk2
        have b0 : (0 : Int) ≤ bj := Int.natCast_nonneg _
        have wb : IntKind.i64.wrap ((bj : Int) + 1) = (bj : Int) + 1 := IntWalk.i64_in _ (by omega)
        by_cases hbn : bj ≤ n
        · have hbi : (bj : Int) ≤ n := by omega
          have hst := HSB.out
          rw [show n + 1 - bj = (n + 1 - (bj + 1)) + 1 by omega, scB] at hst
          cases hc : metB n u (fj : Int) (bj : Int)
          · rw [hc, if_neg (by simp)] at hst
            have HST := Lib.hid hst
            have HMT : Hid (decide ((u, u) ∈ rsN n fj bj) = false) := Lib.hid (by exact hc)
            clear hst hc
            go_wp2_with fail
            refine (roundsOfTwo_any n (fj : Int) (bj : Int) _ (by omega) (by omega) (by omega) (by omega) (by omega) (by omega)).mono ?_
            rintro e w3 ⟨v3, rfl, hs3, hk3⟩
            obtain ⟨A3, c3, rfl⟩ := hs3.val rfl
            have HS3 := Lib.hid hs3
            have HK3 := Lib.hid (HK2.out.nw hk3)
            clear hs3 hk3
            go_wp2_with fail
            refine (choiceOf_any u w3).mono ?_
            rintro e w4 ⟨rfl, hk4⟩
            have HK4 := Lib.hid hk4
            clear hk4
            go_wp2_with fail
            refine (containsC_any _ _ c3 A3 _ u u w4 (HS3.out.nw HK4.out) rfl (by have := rsN_len n fj bj; unfold rsN at this; omega)).mono ?_
            rw [show decide ((u, u) ∈ rnds (fj : Int) (bj : Int) n (marks 0 n) 0 0) = false from HMT.out]
            rintro e w5 ⟨rfl, hk5⟩
            have HK3 := Lib.hid ((HK3.out.nw HK4.out).nw hk5)
            clear hk5
            go_wp2
            go_roundw
            case rel => exact ⟨bj + 1, _, by omega, by omega, by go_num, rfl, HST.out, HK3.out⟩
            case measure => simp [intOf] <;> omega
          · rw [hc, if_pos rfl] at hst
            have HMT : Hid (decide ((u, u) ∈ rsN n fj bj) = true) := Lib.hid (by exact hc)
            have HVV : Hid (M = ((fj : Int), (bj : Int), true)) := Lib.hid (by
              have h1 := HSC.out
              rw [show n + 1 - fj = (n - fj) + 1 by omega, scF, ← hst] at h1
              rw [HV.out, ← h1]; rfl)
            clear hst hc
            go_wp2_with fail
            refine (roundsOfTwo_any n (fj : Int) (bj : Int) _ (by omega) (by omega) (by omega) (by omega) (by omega) (by omega)).mono ?_
            rintro e w3 ⟨v3, rfl, hs3, hk3⟩
            obtain ⟨A3, c3, rfl⟩ := hs3.val rfl
            have HS3 := Lib.hid hs3
            have HK3 := Lib.hid (HK2.out.nw hk3)
            clear hs3 hk3
            go_wp2_with fail
            refine (choiceOf_any u w3).mono ?_
            rintro e w4 ⟨rfl, hk4⟩
            have HK4 := Lib.hid hk4
            clear hk4
            go_wp2_with fail
            refine (containsC_any _ _ c3 A3 _ u u w4 (HS3.out.nw HK4.out) rfl (by have := rsN_len n fj bj; unfold rsN at this; omega)).mono ?_
            rw [show decide ((u, u) ∈ rnds (fj : Int) (bj : Int) n (marks 0 n) 0 0) = true from HMT.out]
            rintro e w5 ⟨rfl, hk5⟩
            have HK3 := Lib.hid ((HK3.out.nw HK4.out).nw hk5)
            clear hk5
            go_wp2
            refine bodyPost_ret (v := .tuple #[.int .i64 (fj : Int), .int .i64 (bj : Int), .bool true]) (by simp [results, Try.results26, go_sem]) rfl ⟨by rw [HVV.out], HK3.out⟩
        · have hbi : ¬ (bj : Int) ≤ n := by omega
          have HN : Hid (scF Q (n + 1 - (fj + 1)) (fj + 1) = V) := Lib.hid (by
            have h1 := HSC.out
            have h2 := HSB.out
            rw [show n + 1 - bj = 0 by omega, scB] at h2
            rw [show n + 1 - fj = (n + 1 - (fj + 1)) + 1 by omega, scF, ← h2] at h1
            exact h1)
          go_wp2
          go_roundw
          case rel => exact ⟨fj + 1, _, by omega, by omega, by go_num, rfl, HN.out, HK2.out⟩
          case measure => simp [intOf] <;> omega
    · have hfi : ¬ (fj : Int) ≤ n := by omega
      have HN : Hid (M = (0, 0, false)) := Lib.hid (by
        have h1 := HSC.out
        rw [show n + 1 - fj = 0 by omega, scF] at h1
        rw [HV.out, ← h1]; rfl)
      go_wp2
      refine bodyPost_ret (v := .tuple #[.int .i64 0, .int .i64 0, .bool false]) (by simp [results, Try.results26, go_sem]) rfl ⟨by rw [HN.out], HK.out⟩
theorem iStepsToMeet_no (p u : Int) (W : World) (h : ¬ (1 ≤ p ∧ p ≤ 20 ∧ 0 ≤ u ∧ u ≤ p - 1)) : Calls Try.prog 26 #[.int .i64 p, .int .i64 u] W (Int2B W 0 0 false) := by
  by_cases ha : 1 ≤ p ∧ p ≤ 20
  · obtain ⟨p0, p1⟩ := ha
    have hu : u < 0 ∨ p - 1 < u := by
      by_cases e : u < 0
      · exact .inl e
      · by_cases e2 : p - 1 < u
        · exact .inr e2
        · exact (h ⟨by omega, by omega, by omega, by omega⟩).elim
    have wp : IntKind.i64.wrap (p - 1) = p - 1 := IntWalk.i64_in _ (by omega)
    clear h
    go_enter Try.func26, Try.ntmps26
    go_wp2_with (first | ((with_reducible refine (within_yes p _ _ _ p0 p1).mono ?_); rintro e w' ⟨rfl, rfl⟩) | ((with_reducible refine (within_no u _ _ _ hu).mono ?_); rintro e w' ⟨rfl, rfl⟩))
    refine bodyPost_ret (v := .tuple #[.int .i64 0, .int .i64 0, .bool false]) (by simp [results, Try.results26, go_sem]) rfl ⟨rfl, Kp.refl _ _⟩
  · have hp : p < 1 ∨ 20 < p := by omega
    clear h ha
    go_enter Try.func26, Try.ntmps26
    go_wp2_with (first | ((with_reducible refine (within_no p _ _ _ hp).mono ?_); rintro e w' ⟨rfl, rfl⟩))
    refine bodyPost_ret (v := .tuple #[.int .i64 0, .int .i64 0, .bool false]) (by simp [results, Try.results26, go_sem]) rfl ⟨rfl, Kp.refl _ _⟩
end Go.Proofs.Ytjlbillfbhkamaa
