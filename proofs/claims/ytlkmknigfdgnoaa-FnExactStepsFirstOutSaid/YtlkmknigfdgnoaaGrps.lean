/- The texts Grp, GrpS, GrpI, as one. -/
import Derived.Test.YtlkmknigfdgnoaaSaveQ
import Derived.Test.YtlkmknigfdgnoaaSav
import Derived.Test.YtlkmknigfdgnoaaGood
import Derived.Test.YtlkmknigfdgnoaaSets
import Derived.Test.YtlkmknigfdgnoaaPerI
namespace Go.Proofs.Ytlkmknigfdgnoaa
open Go.ChangeShapes Go.WideShapes Go.ChangeAt Go.RowKit

/-- whether the number at a place is in 0 .. hi and greater than the one before -/
def okR (hi : Int) (xs : List Int) (j : Nat) : Bool := decide (0 ≤ xs.getD j 0 ∧ xs.getD j 0 ≤ hi ∧ (j = 0 ∨ xs.getD (j - 1) 0 < xs.getD j 0))
def risT (hi : Int) (xs : List Int) : Nat → Bool
  | 0 => true
  | j + 1 => risT hi xs j && okR hi xs j
/-- whether a list is increasing, in 0 .. hi -/
def risB (hi : Int) (xs : List Int) : Bool := risT hi xs xs.length
theorem risT_no (hi : Int) (xs : List Int) (j : Nat) (h : okR hi xs j = false) : ∀ m, j < m → risT hi xs m = false
  | 0, h2 => by omega
  | m + 1, h2 => by
    rw [risT]
    by_cases e : j = m
    · subst e; rw [h, Bool.and_false]
    · rw [risT_no hi xs j h m (by omega)]; rfl
theorem risT_at (hi : Int) (xs : List Int) : ∀ m, risT hi xs m = true → ∀ j, j < m → okR hi xs j = true
  | 0, _, j, h => by omega
  | m + 1, h, j, hj => by
    rw [risT, Bool.and_eq_true] at h
    by_cases e : j = m
    · subst e; exact h.2
    · exact risT_at hi xs m h.1 j (by omega)
theorem risT_lt (hi : Int) (xs : List Int) (m : Nat) (h : risT hi xs m = true) (a : Nat) : ∀ b, a < b → b < m → xs.getD a 0 < xs.getD b 0
  | 0, h1, _ => by omega
  | b + 1, h1, h2 => by
    have h3 := of_decide_eq_true (risT_at hi xs m h (b + 1) h2)
    have h4 : xs.getD b 0 < xs.getD (b + 1) 0 := by
      rcases h3.2.2 with h4 | h4
      · omega
      · exact h4
    by_cases e : a = b
    · subst e; exact h4
    · have := risT_lt hi xs m h a b (by omega) (by omega)
      omega
theorem risB_few (n : Nat) (xs : List Int) (h : risB ((n : Int) - 1) xs = true) : Few n xs := by
  have hm : ∀ x ∈ xs, x ∈ marks 0 n := fun x hx => by
    obtain ⟨j, hj, e⟩ := List.getElem_of_mem hx
    have h3 := of_decide_eq_true (risT_at _ xs _ h j hj)
    rw [List.getD_eq_getElem?_getD, List.getElem?_eq_getElem hj] at h3
    have h4 : 0 ≤ xs[j] ∧ xs[j] ≤ (n : Int) - 1 := ⟨h3.1, h3.2.1⟩
    rw [e] at h4
    exact (mem_marks n x).2 ⟨h4.1, by omega⟩
  have hd : xs.Nodup := by
    rw [List.Nodup, List.pairwise_iff_getElem]
    intro i j hi hj hij e
    have := risT_lt _ xs _ h i j hij hj
    rw [List.getD_eq_getElem?_getD, List.getElem?_eq_getElem hi, List.getD_eq_getElem?_getD, List.getElem?_eq_getElem hj] at this
    have h5 : xs[i] < xs[j] := this
    rw [e] at h5
    omega
  exact ⟨hd, by have := sub_len xs (marks 0 n) hd hm; rw [marks_length] at this; exact this, hm⟩

set_option maxHeartbeats 1600000 in
theorem l1Rising_any (v : Value) (xs : List Int) (hi : Int) (W : World) (hv : Rd W v xs) (hl : xs.length ≤ 2000000) :
    Calls Try.prog 69 #[v, .int .i64 0, .int .i64 hi] W fun e w' => e = .returned (.bool (risB hi xs)) ∧ W = w' := by
  obtain ⟨n, hn⟩ : ∃ n, xs.length = n := ⟨_, rfl⟩
  obtain ⟨A, c, rfl, hA⟩ := hv
  obtain ⟨R, hR⟩ : ∃ R, risB hi xs = R := ⟨_, rfl⟩
  have HR : Hid (risT hi xs n = R) := Lib.hid (by rw [← hR, ← hn]; rfl)
  rw [hR]
  rw [hn] at hl ⊢
  have HN := Lib.hid hn
  have HA := Lib.hid hA
  clear hn hA hR
  go_enter Try.func69, Try.ntmps69
  go_wp2
  go_loop [7, 8, 11] (fun _ _ i => ∃ j : Nat, j ≤ n ∧ i = .int .i64 j ∧ risT hi xs j = true) (fun _ _ i => n - (intOf i).toNat)
  case atStart => exact ⟨0, Nat.zero_le _, rfl, rfl⟩
  case round =>
    obtain ⟨j, hj, rfl, hf⟩ := hrel
    have HF := Lib.hid hf
    clear hf
    by_cases hlt : j < n
    · obtain ⟨g, o, rfl, hc⟩ := HA.out j (by rw [HN.out]; exact hlt)
      obtain ⟨y, hy⟩ : ∃ y, xs.getD j 0 = y := ⟨_, rfl⟩
      have HB : Hid (okR hi xs j = decide (0 ≤ y ∧ y ≤ hi ∧ (j = 0 ∨ xs.getD (j - 1) 0 < y))) := Lib.hid (by rw [← hy]; rfl)
      rw [hy] at hc
      have h2 : (0 : Int) ≤ j := Int.natCast_nonneg _
      have h3 : (j : Int) < n := by omega
      clear hy
      by_cases e : 0 ≤ y ∧ y ≤ hi
      · obtain ⟨e1, e2⟩ := e
        by_cases j0 : j = 0
        · subst j0
          rw [Nat.add_zero] at hc
          have HT : Hid (risT hi xs (0 + 1) = true) := Lib.hid (by rw [risT, HF.out, HB.out, decide_eq_true ⟨e1, e2, .inl rfl⟩]; rfl)
          have t0 : ¬ (0 : Int) < ((0 : Nat) : Int) := by omega
          go_wp2_with (first | ((with_reducible refine (l1In_yes _ _ _ _ e1 e2).mono ?_); rintro e w' ⟨rfl, rfl⟩))
          go_round
          case rel => exact ⟨0 + 1, by omega, by go_num, HT.out⟩
          case measure => simp [intOf]; omega
        · obtain ⟨i, rfl⟩ : ∃ i, j = i + 1 := ⟨j - 1, by omega⟩
          obtain ⟨g', o', e9, hc'⟩ := HA.out i (by rw [HN.out]; omega)
          have hgo : (⟨g', o', none⟩ : Addr) = ⟨g, o, none⟩ := (Option.some.inj e9).symm
          have t0 : (0 : Int) < ((i + 1 : Nat) : Int) := by omega
          have w1 : IntKind.i64.wrap (((i + 1 : Nat) : Int) - 1) = (i : Int) := by rw [IntWalk.i64_in _ (by omega)]; omega
          obtain ⟨z, hz⟩ : ∃ z, xs.getD i 0 = z := ⟨_, rfl⟩
          rw [hz] at hc'
          obtain ⟨rfl, rfl⟩ : g' = g ∧ o' = o := by
            injection hgo with a1 a2 a3
            exact ⟨a1, a2⟩
          have i0 : (0 : Int) ≤ i := Int.natCast_nonneg _
          have i1 : (i : Int) < n := by omega
          have HZ : Hid (xs.getD (i + 1 - 1) 0 = z) := Lib.hid (by rw [Nat.add_sub_cancel]; exact hz)
          clear hz hgo e9
          by_cases hzy : z < y
          · have HT : Hid (risT hi xs (i + 1 + 1) = true) := Lib.hid (by rw [risT, HF.out, HB.out, decide_eq_true ⟨e1, e2, .inr (by rw [HZ.out]; exact hzy)⟩]; rfl)
            have hzy2 : ¬ z ≥ y := by omega
            go_wp2_with (first | ((with_reducible refine (l1In_yes _ _ _ _ e1 e2).mono ?_); rintro e w' ⟨rfl, rfl⟩))
            go_round
            case rel => exact ⟨i + 1 + 1, by omega, by go_num, HT.out⟩
            case measure => simp [intOf]; omega
          · have hzy2 : z ≥ y := by omega
            have HT : Hid (R = false) := Lib.hid (by
              rw [← HR.out]
              refine risT_no hi xs (i + 1) ?_ n hlt
              rw [HB.out]
              refine decide_eq_false (fun h => ?_)
              rcases h.2.2 with h | h
              · omega
              · rw [HZ.out] at h; exact hzy h)
            go_wp2_with (first | ((with_reducible refine (l1In_yes _ _ _ _ e1 e2).mono ?_); rintro e w' ⟨rfl, rfl⟩))
            go_ret
            exact ⟨ret_bool HT.out.symm, rfl⟩
      · have e' : y < 0 ∨ hi < y := by omega
        have HT : Hid (R = false) := Lib.hid (by
          rw [← HR.out]
          refine risT_no hi xs j ?_ n hlt
          rw [HB.out]
          exact decide_eq_false (fun h => e ⟨h.1, h.2.1⟩))
        go_wp2_with (first | ((with_reducible refine (l1In_no _ _ _ _ e').mono ?_); rintro e w' ⟨rfl, rfl⟩))
        go_ret
        exact ⟨ret_bool HT.out.symm, rfl⟩
    · have e : j = n := by omega
      subst e
      have HT : Hid (R = true) := Lib.hid (by rw [← HR.out]; exact HF.out)
      go_wp2
      go_ret
      exact ⟨ret_bool HT.out.symm, rfl⟩

set_option maxRecDepth 100000 in
set_option maxHeartbeats 1600000 in
theorem saGroup_last (n k L : Nat) (v : Value) (xs : List Int) (W : World) (hv : Rd W v xs) (hf : Few n xs) (hl : xs.length = L) (n1 : 1 ≤ n) (n2 : n ≤ 200) (k1 : 1 ≤ k) (k2 : k ≤ 1000000) (L1 : 1 ≤ L) :
    Calls Try.prog 55 #[.int .i64 n, .int .i64 k, v, .bool true] W fun e w' => e = .returned (.bool (grpL n xs k)) ∧ Kp Nw W w' := by
  have hLn : L ≤ n := by have := hf.le; omega
  obtain ⟨ys, hys⟩ : ∃ ys, (outs (k : Int) n (marks 0 n)).drop (n - L) = ys := ⟨_, rfl⟩
  have hyl : ys.length = L := by rw [← hys]; simp [outs_length]; omega
  have HYL := Lib.hid hyl
  have HYS := Lib.hid hys
  obtain ⟨R, hR⟩ : ∃ R, grpL n xs k = R := ⟨_, rfl⟩
  have HR : Hid (ys.all (fun x => xs.contains x) = R) := Lib.hid (by rw [← hR, ← hys, ← hl]; rfl)
  rw [hR]
  obtain ⟨Av, cv, rfl, hAv⟩ := id hv
  rw [hl] at hv ⊢
  have HV := Lib.hid hv
  have hl2 : xs.length ≤ 1000000 := by omega
  have L0 : (0 : Int) ≤ L := Int.natCast_nonneg _
  clear hys hyl hR hf hAv hl hv
  go_enter Try.func55, Try.ntmps55
  go_wp2_with fail
  refine (ciPeople_any n W (by omega)).mono ?_
  rintro e w1 ⟨v1, rfl, hs, hk⟩
  have HS := Lib.hid hs
  have HK := Lib.hid hk
  clear hs hk
  go_wp2_with fail
  refine (ciOrder_any v1 k (marks 0 n) _ w1 HS.out (by rw [marks_length]; omega) (by omega) (by omega)).mono ?_
  rintro e w2 ⟨v2, rfl, hs2, hk2⟩
  rw [marks_length] at hs2
  obtain ⟨g, cap, rfl, hs3, hc1, hc2, _, _⟩ := hs2.at_ (by rw [outs_length]; omega)
  rw [outs_length] at hs3 hc1 ⊢
  have HK2 := Lib.hid (HK.out.nw hk2)
  unfold maxLen at hc2
  have HV2 := Lib.hid (HV.out.nw HK2.out)
  have wL : IntKind.i64.wrap ((n : Int) - (L : Int)) = ((n - L : Nat) : Int) := by rw [IntWalk.i64_in _ (by omega)]; omega
  obtain ⟨Ad, had, q7⟩ := cut_from g n cap (n - L) (by omega) (by omega)
  rw [show n - (n - L) = L by omega] at q7
  have HRD : Hid (Rd w2 (.slice (some Ad) L (cap - (n - L))) ys) := Lib.hid (by
    have h := hs3.drop (n - L) (by omega) Ad (cap - (n - L)) had
    rw [show n - (n - L) = L by omega, HYS.out] at h
    exact h)
  obtain ⟨Ay, cy, ey, hAy⟩ := HRD.out
  have HA := Lib.hid hAy
  have EY := Lib.hid ey
  clear hs2 hk2 hs3 hAy ey
  go_wp2
  go_loopw [11, 29] (fun _ i wr => wr = w2 ∧ ∃ j : Nat, j ≤ L ∧ i = .int .i64 j ∧ (ys.take j).all (fun x => xs.contains x) = true) (fun _ i _ => L - (intOf i).toNat)
  case atStart => exact ⟨by first | rfl | trivial, 0, Nat.zero_le _, rfl, by simp⟩
  case round =>
    obtain ⟨rfl, j, hj, rfl, hf⟩ := hrel
    have HF := Lib.hid hf
    clear hf
    by_cases hlt : j < L
    · obtain ⟨g9, o9, e9, hc⟩ := HA.out j (by rw [HYL.out]; exact hlt)
      subst e9
      have ey := EY.out
      have hl' : j < ys.length := by rw [HYL.out]; exact hlt
      obtain ⟨y, hy⟩ : ∃ y, ys.getD j 0 = y := ⟨_, rfl⟩
      have hx : ys[j] = y := by rw [← hy]; simp [hl']
      rw [hy] at hc
      have HT : Hid ((ys.take (j + 1)).all (fun x => xs.contains x) = ((ys.take j).all (fun x => xs.contains x) && xs.contains y)) := Lib.hid (by rw [List.take_succ_eq_append_getElem hl', List.all_append, hx]; simp)
      have HM : Hid (y ∈ ys) := Lib.hid (by rw [← hx]; exact List.getElem_mem _)
      have h2 : (0 : Int) ≤ j := Int.natCast_nonneg _
      have h3 : (j : Int) < L := by omega
      clear hy hx hl'
      injection ey with ea eb ec
      injection ea with ea
      subst ea
      by_cases e : y ∈ xs
      · have HD : Hid (decide (y ∈ xs) = true) := Lib.hid (decide_eq_true e)
        have HY : Hid (xs.contains y = true) := Lib.hid (by simpa using e)
        clear e eb ec
        go_wp2_with fail
        refine (l1Has_any _ xs y _ HV2.out (by omega)).mono ?_
        rw [HD.out]
        rintro e w' ⟨rfl, rfl⟩
        go_wp2
        go_roundw
        case rel => exact ⟨by first | rfl | trivial, j + 1, by omega, by go_num, by rw [HT.out, HF.out, HY.out]; rfl⟩
        case measure => simp [intOf] <;> omega
      · have HD : Hid (decide (y ∈ xs) = false) := Lib.hid (decide_eq_false e)
        have HY : Hid (R = false) := Lib.hid (by
          rw [← HR.out, List.all_eq_false]
          exact ⟨y, HM.out, by simpa using e⟩)
        clear e eb ec
        go_wp2_with fail
        refine (l1Has_any _ xs y _ HV2.out (by omega)).mono ?_
        rw [HD.out]
        rintro e w' ⟨rfl, rfl⟩
        go_wp2
        go_ret
        exact ⟨ret_bool HY.out.symm, HK2.out⟩
    · have e : j = L := by omega
      subst e
      have HY : Hid (R = true) := Lib.hid (by have := HF.out; rw [List.take_of_length_le (by rw [HYL.out]; exact Nat.le_refl _)] at this; rw [← HR.out]; exact this)
      go_wp2
      go_ret
      exact ⟨ret_bool HY.out.symm, HK2.out⟩

set_option maxRecDepth 100000 in
set_option maxHeartbeats 1600000 in
theorem saGroup_first (n k L : Nat) (v : Value) (xs : List Int) (W : World) (hv : Rd W v xs) (hf : Few n xs) (hl : xs.length = L) (n1 : 1 ≤ n) (n2 : n ≤ 200) (k1 : 1 ≤ k) (k2 : k ≤ 1000000) (L1 : 1 ≤ L) :
    Calls Try.prog 55 #[.int .i64 n, .int .i64 k, v, .bool false] W fun e w' => e = .returned (.bool (grpF n xs k)) ∧ Kp Nw W w' := by
  have hLn : L ≤ n := by have := hf.le; omega
  obtain ⟨ys, hys⟩ : ∃ ys, (outs (k : Int) n (marks 0 n)).take L = ys := ⟨_, rfl⟩
  have hyl : ys.length = L := by rw [← hys]; simp [outs_length]; omega
  have HYL := Lib.hid hyl
  have HYS := Lib.hid hys
  obtain ⟨R, hR⟩ : ∃ R, grpF n xs k = R := ⟨_, rfl⟩
  have HR : Hid (ys.all (fun x => xs.contains x) = R) := Lib.hid (by rw [← hR, ← hys, ← hl]; rfl)
  rw [hR]
  obtain ⟨Av, cv, rfl, hAv⟩ := id hv
  rw [hl] at hv ⊢
  have HV := Lib.hid hv
  have hl2 : xs.length ≤ 1000000 := by omega
  have L0 : (0 : Int) ≤ L := Int.natCast_nonneg _
  clear hys hyl hR hf hAv hl hv
  go_enter Try.func55, Try.ntmps55
  go_wp2_with fail
  refine (ciPeople_any n W (by omega)).mono ?_
  rintro e w1 ⟨v1, rfl, hs, hk⟩
  have HS := Lib.hid hs
  have HK := Lib.hid hk
  clear hs hk
  go_wp2_with fail
  refine (ciOrder_any v1 k (marks 0 n) _ w1 HS.out (by rw [marks_length]; omega) (by omega) (by omega)).mono ?_
  rintro e w2 ⟨v2, rfl, hs2, hk2⟩
  rw [marks_length] at hs2
  obtain ⟨g, cap, rfl, hs3, hc1, hc2, _, _⟩ := hs2.at_ (by rw [outs_length]; omega)
  rw [outs_length] at hs3 hc1 ⊢
  have HK2 := Lib.hid (HK.out.nw hk2)
  unfold maxLen at hc2
  have HV2 := Lib.hid (HV.out.nw HK2.out)
  have q7 := cut_to g n cap L (by omega)
  have HRD : Hid (Rd w2 (.slice (some ⟨g, 0, none⟩) L cap) ys) := Lib.hid (by
    have h := hs3.take L (by omega)
    rw [HYS.out] at h
    exact h)
  obtain ⟨Ay, cy, ey, hAy⟩ := HRD.out
  have HA := Lib.hid hAy
  have EY := Lib.hid ey
  clear hs2 hk2 hs3 hAy ey
  go_wp2
  go_loopw [11, 29] (fun _ i wr => wr = w2 ∧ ∃ j : Nat, j ≤ L ∧ i = .int .i64 j ∧ (ys.take j).all (fun x => xs.contains x) = true) (fun _ i _ => L - (intOf i).toNat)
  case atStart => exact ⟨by first | rfl | trivial, 0, Nat.zero_le _, rfl, by simp⟩
  case round =>
    obtain ⟨rfl, j, hj, rfl, hf⟩ := hrel
    have HF := Lib.hid hf
    clear hf
    by_cases hlt : j < L
    · obtain ⟨g9, o9, e9, hc⟩ := HA.out j (by rw [HYL.out]; exact hlt)
      subst e9
      have ey := EY.out
      have hl' : j < ys.length := by rw [HYL.out]; exact hlt
      obtain ⟨y, hy⟩ : ∃ y, ys.getD j 0 = y := ⟨_, rfl⟩
      have hx : ys[j] = y := by rw [← hy]; simp [hl']
      rw [hy] at hc
      have HT : Hid ((ys.take (j + 1)).all (fun x => xs.contains x) = ((ys.take j).all (fun x => xs.contains x) && xs.contains y)) := Lib.hid (by rw [List.take_succ_eq_append_getElem hl', List.all_append, hx]; simp)
      have HM : Hid (y ∈ ys) := Lib.hid (by rw [← hx]; exact List.getElem_mem _)
      have h2 : (0 : Int) ≤ j := Int.natCast_nonneg _
      have h3 : (j : Int) < L := by omega
      clear hy hx hl'
      injection ey with ea eb ec
      injection ea with ea
      injection ea with a1 a2; subst a1; subst a2; rw [Nat.zero_add] at hc
      by_cases e : y ∈ xs
      · have HD : Hid (decide (y ∈ xs) = true) := Lib.hid (decide_eq_true e)
        have HY : Hid (xs.contains y = true) := Lib.hid (by simpa using e)
        clear e eb ec
        go_wp2_with fail
        refine (l1Has_any _ xs y _ HV2.out (by omega)).mono ?_
        rw [HD.out]
        rintro e w' ⟨rfl, rfl⟩
        go_wp2
        go_roundw
        case rel => exact ⟨by first | rfl | trivial, j + 1, by omega, by go_num, by rw [HT.out, HF.out, HY.out]; rfl⟩
        case measure => simp [intOf] <;> omega
      · have HD : Hid (decide (y ∈ xs) = false) := Lib.hid (decide_eq_false e)
        have HY : Hid (R = false) := Lib.hid (by
          rw [← HR.out, List.all_eq_false]
          exact ⟨y, HM.out, by simpa using e⟩)
        clear e eb ec
        go_wp2_with fail
        refine (l1Has_any _ xs y _ HV2.out (by omega)).mono ?_
        rw [HD.out]
        rintro e w' ⟨rfl, rfl⟩
        go_wp2
        go_ret
        exact ⟨ret_bool HY.out.symm, HK2.out⟩
    · have e : j = L := by omega
      subst e
      have HY : Hid (R = true) := Lib.hid (by have := HF.out; rw [List.take_of_length_le (by rw [HYL.out]; exact Nat.le_refl _)] at this; rw [← HR.out]; exact this)
      go_wp2
      go_ret
      exact ⟨ret_bool HY.out.symm, HK2.out⟩

theorem saList_any (p : Int) (v : Value) (xs : List Int) (W : World) (hv : Rd W v xs) (hl : xs.length ≤ 2000000) :
    Calls Try.prog 54 #[.int .i64 p, v] W fun e w' => e = .returned (.bool (decide (1 ≤ p ∧ p ≤ 12 ∧ 0 < xs.length ∧ risB (p - 1) xs = true))) ∧ W = w' := by
  obtain ⟨n, hn⟩ : ∃ n, xs.length = n := ⟨_, rfl⟩
  have hv0 := hv
  obtain ⟨A, c, rfl, hA⟩ := hv0
  rw [hn] at hv hl ⊢
  have HV := Lib.hid hv
  have n0 : (0 : Int) ≤ n := Int.natCast_nonneg _
  by_cases hp : 1 ≤ p ∧ p ≤ 12
  · obtain ⟨p0, p1⟩ := hp
    have wp : IntKind.i64.wrap (p - 1) = p - 1 := IntWalk.i64_in _ (by omega)
    by_cases hz : 0 < n
    · have t0 : (0 : Int) < n := by omega
      have HE : Hid (decide (1 ≤ p ∧ p ≤ 12 ∧ 0 < n ∧ risB (p - 1) xs = true) = risB (p - 1) xs) := Lib.hid (by
        cases hb : risB (p - 1) xs
        · exact decide_eq_false (fun h => by cases h.2.2.2)
        · exact decide_eq_true ⟨p0, p1, hz, rfl⟩)
      have hl2 : xs.length ≤ 2000000 := by omega
      clear hn hA hv
      go_enter Try.func54, Try.ntmps54
      go_wp2_with (first | ((with_reducible refine (saFew_yes _ _ p0 p1).mono ?_); rintro e w' ⟨rfl, rfl⟩) | ((with_reducible refine (l1Rising_any _ xs _ _ HV.out hl2).mono ?_); rintro e w' ⟨rfl, rfl⟩))
      go_ret
      exact ⟨ret_bool HE.out.symm, rfl⟩
    · have e : n = 0 := by omega
      subst e
      have HE : Hid (decide (1 ≤ p ∧ p ≤ 12 ∧ 0 < 0 ∧ risB (p - 1) xs = true) = false) := Lib.hid (decide_eq_false (fun h => by have := h.2.2.1; omega))
      clear hn hA hv
      go_enter Try.func54, Try.ntmps54
      go_wp2_with (first | ((with_reducible refine (saFew_yes _ _ p0 p1).mono ?_); rintro e w' ⟨rfl, rfl⟩))
      go_ret
      exact ⟨ret_bool HE.out.symm, rfl⟩
  · have HE : Hid (decide (1 ≤ p ∧ p ≤ 12 ∧ 0 < n ∧ risB (p - 1) xs = true) = false) := Lib.hid (decide_eq_false (fun h => hp ⟨h.1, h.2.1⟩))
    have h : p < 1 ∨ 12 < p := by omega
    clear hn hA hv hp
    go_enter Try.func54, Try.ntmps54
    go_wp2_with (first | ((with_reducible refine (saFew_no p _ h).mono ?_); rintro e w' ⟨rfl, rfl⟩))
    go_ret
    exact ⟨ret_bool HE.out.symm, rfl⟩
end Go.Proofs.Ytlkmknigfdgnoaa
namespace Go.Proofs.Ytlkmknigfdgnoaa
open Go.ChangeShapes Go.WideShapes Go.ChangeAt Go.RowKit

def vStepSaving (p : Int) (xs : List Int) : Int × Bool := if 1 ≤ p ∧ p ≤ 12 ∧ 0 < xs.length ∧ risB (p - 1) xs = true then firstK (grpL p.toNat xs) (perT p.toNat) else (0, false)
set_option maxRecDepth 100000 in
set_option maxHeartbeats 1600000 in
theorem sStepSaving_yes (n L : Nat) (v : Value) (xs : List Int) (W : World) (hv : Rd W v xs) (hl : xs.length = L) (L1 : 1 ≤ L) (n1 : 1 ≤ n) (n2 : n ≤ 12) (hr : risB ((n : Int) - 1) xs = true) :
    Calls Try.prog 28 #[.int .i64 n, v] W (IntB W (firstK (grpL n xs) (perT n)).1 (firstK (grpL n xs) (perT n)).2) := by
  have hf := risB_few n xs hr
  have hLn : L ≤ n := by have := hf.le; omega
  obtain ⟨P, hP⟩ : ∃ P, perT n = P := ⟨_, rfl⟩
  have hP2 : P ≤ 27720 := by rw [← hP]; exact perT_le n n2
  rw [hP]
  have HP := Lib.hid hP
  obtain ⟨R, hR⟩ : ∃ R, firstK (grpL n xs) P = R := ⟨_, rfl⟩
  rw [hR]
  have HR := Lib.hid hR
  have HV := Lib.hid hv
  have HF := Lib.hid hf
  have HLI := Lib.hid (saList_any (n : Int) v xs W hv (by omega))
  have HD : Hid (decide (1 ≤ (n : Int) ∧ (n : Int) ≤ 12 ∧ 0 < xs.length ∧ risB ((n : Int) - 1) xs = true) = true) := Lib.hid (decide_eq_true ⟨by omega, by omega, by omega, hr⟩)
  rw [HD.out] at HLI
  have HGR := Lib.hid (fun k w h1 h2 hk => saGroup_last n k L v xs w (HV.out.nw hk) hf hl n1 (by omega) h1 h2 L1)
  clear hR hP hv hf hr hl HD
  go_enter Try.func28, Try.ntmps28
  go_wp2_with (first | ((with_reducible refine HLI.out.mono ?_); rintro e w' ⟨rfl, rfl⟩))
  go_loopw [6] (fun i wr => ∃ (j : Nat), j ≤ P ∧ i = .int .i64 ((j + 1 : Nat) : Int) ∧ (∀ i, i < j → grpL n xs (i + 1) = false) ∧ Kp Nw W wr) (fun i _ => P + 1 - (intOf i).toNat)
  case atStart => exact ⟨0, Nat.zero_le _, rfl, fun i hi => by omega, Kp.refl _ _⟩
  case round =>
    obtain ⟨j, hj, rfl, hb, hk⟩ := hrel
    have HB := Lib.hid hb
    have HK := Lib.hid hk
    clear hb hk
    by_cases hlt : j < P
    · have t1 : ((j + 1 : Nat) : Int) ≤ P := by omega
      have w2 : IntKind.i64.wrap (((j + 1 : Nat) : Int) + 1) = ((j + 1 + 1 : Nat) : Int) := by rw [IntWalk.i64_in _ (by omega)]; omega
      go_wp2_with fail
      refine (saPeriod_any n wr n1 n2).mono ?_
      rw [HP.out]
      rintro e w1 ⟨rfl, hk1⟩
      have HK1 := Lib.hid (HK.out.nw hk1)
      clear hk1
      cases hx : grpL n xs (j + 1)
      · have HX := Lib.hid hx
        clear hx
        go_wp2_with fail
        refine (HGR.out (j + 1) w1 (by omega) (by omega) HK1.out).mono ?_
        rw [HX.out]
        rintro e w2 ⟨rfl, hk2⟩
        have HK2 := Lib.hid (HK1.out.nw hk2)
        clear hk2
        go_wp2
        go_roundw
        case rel =>
          refine ⟨j + 1, by omega, by go_num, fun i hi => ?_, HK2.out⟩
          by_cases e : i = j
          · subst e
            exact HX.out
          · exact HB.out i (by omega)
        case measure => simp [intOf] <;> omega
      · have HX := Lib.hid hx
        have HE : Hid (R = (((j + 1 : Nat) : Int), true)) := Lib.hid (by rw [← HR.out, firstK_hit _ _ j hlt hx HB.out])
        clear hx
        go_wp2_with fail
        refine (HGR.out (j + 1) w1 (by omega) (by omega) HK1.out).mono ?_
        rw [HX.out]
        rintro e w2 ⟨rfl, hk2⟩
        have HK2 := Lib.hid (HK1.out.nw hk2)
        clear hk2
        go_wp2
        go_ret2
        rw [HE.out]
        exact ⟨rfl, HK2.out⟩
    · have e : j = P := by omega
      subst e
      have t1 : ¬ ((j + 1 : Nat) : Int) ≤ j := by omega
      have HE : Hid (R = (0, false)) := Lib.hid (by rw [← HR.out, firstK_none _ _ HB.out])
      go_wp2_with fail
      refine (saPeriod_any n wr n1 n2).mono ?_
      rw [HP.out]
      rintro e w1 ⟨rfl, hk1⟩
      have HK1 := Lib.hid (HK.out.nw hk1)
      clear hk1
      go_wp2
      go_ret2
      rw [HE.out]
      exact ⟨rfl, HK1.out⟩
theorem sStepSaving_all (p : Int) (v : Value) (xs : List Int) (W : World) (hv : Rd W v xs) (hl : xs.length ≤ 1048576) : Calls Try.prog 28 #[.int .i64 p, v] W (IntB W (vStepSaving p xs).1 (vStepSaving p xs).2) := by
  unfold vStepSaving
  by_cases h : 1 ≤ p ∧ p ≤ 12 ∧ 0 < xs.length ∧ risB (p - 1) xs = true
  · rw [if_pos h]
    obtain ⟨n, rfl⟩ : ∃ n : Nat, p = n := ⟨p.toNat, by omega⟩
    rw [Int.toNat_natCast]
    exact sStepSaving_yes n xs.length v xs W hv rfl (by omega) (by omega) (by omega) h.2.2.2
  · rw [if_neg h]
    have HLI := Lib.hid (saList_any p v xs W hv (by omega))
    rw [decide_eq_false h] at HLI
    clear h
    obtain ⟨A, c, rfl, _⟩ := hv
    go_enter Try.func28, Try.ntmps28
    go_wp2_with (first | ((with_reducible refine HLI.out.mono ?_); rintro e w' ⟨rfl, rfl⟩))
    go_ret2
    exact ⟨rfl, Kp.refl _ _⟩

def vStepsFirstOut (p : Int) (xs : List Int) : Int × Bool := if 1 ≤ p ∧ p ≤ 12 ∧ 0 < xs.length ∧ risB (p - 1) xs = true then firstK (grpF p.toNat xs) (perT p.toNat) else (0, false)
set_option maxRecDepth 100000 in
set_option maxHeartbeats 1600000 in
theorem sStepsFirstOut_yes (n L : Nat) (v : Value) (xs : List Int) (W : World) (hv : Rd W v xs) (hl : xs.length = L) (L1 : 1 ≤ L) (n1 : 1 ≤ n) (n2 : n ≤ 12) (hr : risB ((n : Int) - 1) xs = true) :
    Calls Try.prog 33 #[.int .i64 n, v] W (IntB W (firstK (grpF n xs) (perT n)).1 (firstK (grpF n xs) (perT n)).2) := by
  have hf := risB_few n xs hr
  have hLn : L ≤ n := by have := hf.le; omega
  obtain ⟨P, hP⟩ : ∃ P, perT n = P := ⟨_, rfl⟩
  have hP2 : P ≤ 27720 := by rw [← hP]; exact perT_le n n2
  rw [hP]
  have HP := Lib.hid hP
  obtain ⟨R, hR⟩ : ∃ R, firstK (grpF n xs) P = R := ⟨_, rfl⟩
  rw [hR]
  have HR := Lib.hid hR
  have HV := Lib.hid hv
  have HF := Lib.hid hf
  have HLI := Lib.hid (saList_any (n : Int) v xs W hv (by omega))
  have HD : Hid (decide (1 ≤ (n : Int) ∧ (n : Int) ≤ 12 ∧ 0 < xs.length ∧ risB ((n : Int) - 1) xs = true) = true) := Lib.hid (decide_eq_true ⟨by omega, by omega, by omega, hr⟩)
  rw [HD.out] at HLI
  have HGR := Lib.hid (fun k w h1 h2 hk => saGroup_first n k L v xs w (HV.out.nw hk) hf hl n1 (by omega) h1 h2 L1)
  clear hR hP hv hf hr hl HD
  go_enter Try.func33, Try.ntmps33
  go_wp2_with (first | ((with_reducible refine HLI.out.mono ?_); rintro e w' ⟨rfl, rfl⟩))
  go_loopw [6] (fun i wr => ∃ (j : Nat), j ≤ P ∧ i = .int .i64 ((j + 1 : Nat) : Int) ∧ (∀ i, i < j → grpF n xs (i + 1) = false) ∧ Kp Nw W wr) (fun i _ => P + 1 - (intOf i).toNat)
  case atStart => exact ⟨0, Nat.zero_le _, rfl, fun i hi => by omega, Kp.refl _ _⟩
  case round =>
    obtain ⟨j, hj, rfl, hb, hk⟩ := hrel
    have HB := Lib.hid hb
    have HK := Lib.hid hk
    clear hb hk
    by_cases hlt : j < P
    · have t1 : ((j + 1 : Nat) : Int) ≤ P := by omega
      have w2 : IntKind.i64.wrap (((j + 1 : Nat) : Int) + 1) = ((j + 1 + 1 : Nat) : Int) := by rw [IntWalk.i64_in _ (by omega)]; omega
      go_wp2_with fail
      refine (saPeriod_any n wr n1 n2).mono ?_
      rw [HP.out]
      rintro e w1 ⟨rfl, hk1⟩
      have HK1 := Lib.hid (HK.out.nw hk1)
      clear hk1
      cases hx : grpF n xs (j + 1)
      · have HX := Lib.hid hx
        clear hx
        go_wp2_with fail
        refine (HGR.out (j + 1) w1 (by omega) (by omega) HK1.out).mono ?_
        rw [HX.out]
        rintro e w2 ⟨rfl, hk2⟩
        have HK2 := Lib.hid (HK1.out.nw hk2)
        clear hk2
        go_wp2
        go_roundw
        case rel =>
          refine ⟨j + 1, by omega, by go_num, fun i hi => ?_, HK2.out⟩
          by_cases e : i = j
          · subst e
            exact HX.out
          · exact HB.out i (by omega)
        case measure => simp [intOf] <;> omega
      · have HX := Lib.hid hx
        have HE : Hid (R = (((j + 1 : Nat) : Int), true)) := Lib.hid (by rw [← HR.out, firstK_hit _ _ j hlt hx HB.out])
        clear hx
        go_wp2_with fail
        refine (HGR.out (j + 1) w1 (by omega) (by omega) HK1.out).mono ?_
        rw [HX.out]
        rintro e w2 ⟨rfl, hk2⟩
        have HK2 := Lib.hid (HK1.out.nw hk2)
        clear hk2
        go_wp2
        go_ret2
        rw [HE.out]
        exact ⟨rfl, HK2.out⟩
    · have e : j = P := by omega
      subst e
      have t1 : ¬ ((j + 1 : Nat) : Int) ≤ j := by omega
      have HE : Hid (R = (0, false)) := Lib.hid (by rw [← HR.out, firstK_none _ _ HB.out])
      go_wp2_with fail
      refine (saPeriod_any n wr n1 n2).mono ?_
      rw [HP.out]
      rintro e w1 ⟨rfl, hk1⟩
      have HK1 := Lib.hid (HK.out.nw hk1)
      clear hk1
      go_wp2
      go_ret2
      rw [HE.out]
      exact ⟨rfl, HK1.out⟩
theorem sStepsFirstOut_all (p : Int) (v : Value) (xs : List Int) (W : World) (hv : Rd W v xs) (hl : xs.length ≤ 1048576) : Calls Try.prog 33 #[.int .i64 p, v] W (IntB W (vStepsFirstOut p xs).1 (vStepsFirstOut p xs).2) := by
  unfold vStepsFirstOut
  by_cases h : 1 ≤ p ∧ p ≤ 12 ∧ 0 < xs.length ∧ risB (p - 1) xs = true
  · rw [if_pos h]
    obtain ⟨n, rfl⟩ : ∃ n : Nat, p = n := ⟨p.toNat, by omega⟩
    rw [Int.toNat_natCast]
    exact sStepsFirstOut_yes n xs.length v xs W hv rfl (by omega) (by omega) (by omega) h.2.2.2
  · rw [if_neg h]
    have HLI := Lib.hid (saList_any p v xs W hv (by omega))
    rw [decide_eq_false h] at HLI
    clear h
    obtain ⟨A, c, rfl, _⟩ := hv
    go_enter Try.func33, Try.ntmps33
    go_wp2_with (first | ((with_reducible refine HLI.out.mono ?_); rintro e w' ⟨rfl, rfl⟩))
    go_ret2
    exact ⟨rfl, Kp.refl _ _⟩

def vCountSaving (p : Int) (xs : List Int) : Int × Bool := if 1 ≤ p ∧ p ≤ 12 ∧ 0 < xs.length ∧ risB (p - 1) xs = true then ((countK (grpL p.toNat xs) (perT p.toNat) : Nat), true) else (0, false)
set_option maxRecDepth 100000 in
set_option maxHeartbeats 1600000 in
theorem sCountSaving_yes (n L : Nat) (v : Value) (xs : List Int) (W : World) (hv : Rd W v xs) (hl : xs.length = L) (L1 : 1 ≤ L) (n1 : 1 ≤ n) (n2 : n ≤ 12) (hr : risB ((n : Int) - 1) xs = true) :
    Calls Try.prog 31 #[.int .i64 n, v] W (IntB W ((countK (grpL n xs) (perT n) : Nat) : Int) true) := by
  have hf := risB_few n xs hr
  have hLn : L ≤ n := by have := hf.le; omega
  obtain ⟨P, hP⟩ : ∃ P, perT n = P := ⟨_, rfl⟩
  have hP2 : P ≤ 27720 := by rw [← hP]; exact perT_le n n2
  rw [hP]
  have HP := Lib.hid hP
  have HV := Lib.hid hv
  have HLI := Lib.hid (saList_any (n : Int) v xs W hv (by omega))
  have HD : Hid (decide (1 ≤ (n : Int) ∧ (n : Int) ≤ 12 ∧ 0 < xs.length ∧ risB ((n : Int) - 1) xs = true) = true) := Lib.hid (decide_eq_true ⟨by omega, by omega, by omega, hr⟩)
  rw [HD.out] at HLI
  have HGR := Lib.hid (fun k w h1 h2 hk => saGroup_last n k L v xs w (HV.out.nw hk) hf hl n1 (by omega) h1 h2 L1)
  clear hP hv hf hr hl HD
  go_enter Try.func31, Try.ntmps31
  go_wp2_with (first | ((with_reducible refine HLI.out.mono ?_); rintro e w' ⟨rfl, rfl⟩))
  go_loopw [6, 7] (fun c i wr => ∃ (j : Nat), j ≤ P ∧ i = .int .i64 ((j + 1 : Nat) : Int) ∧ c = .int .i64 (countK (grpL n xs) j : Nat) ∧ Kp Nw W wr) (fun _ i _ => P + 1 - (intOf i).toNat)
  case atStart => exact ⟨0, Nat.zero_le _, rfl, rfl, Kp.refl _ _⟩
  case round =>
    obtain ⟨j, hj, rfl, rfl, hk⟩ := hrel
    have HK := Lib.hid hk
    clear hk
    obtain ⟨c, hc⟩ : ∃ c, countK (grpL n xs) j = c := ⟨_, rfl⟩
    have hcl : c ≤ 27720 := by have := countK_le (grpL n xs) j; omega
    have HS : Hid (countK (grpL n xs) (j + 1) = c + (if grpL n xs (j + 1) = true then 1 else 0)) := Lib.hid (by rw [countK, hc])
    have HC := Lib.hid hc
    rw [hc]
    clear hc
    by_cases hlt : j < P
    · have t1 : ((j + 1 : Nat) : Int) ≤ P := by omega
      have w2 : IntKind.i64.wrap (((j + 1 : Nat) : Int) + 1) = ((j + 1 + 1 : Nat) : Int) := by rw [IntWalk.i64_in _ (by omega)]; omega
      have w3 : IntKind.i64.wrap ((c : Int) + 1) = ((c + 1 : Nat) : Int) := by rw [IntWalk.i64_in _ (by omega)]; omega
      go_wp2_with fail
      refine (saPeriod_any n wr n1 n2).mono ?_
      rw [HP.out]
      rintro e w1 ⟨rfl, hk1⟩
      have HK1 := Lib.hid (HK.out.nw hk1)
      clear hk1
      cases hx : grpL n xs (j + 1)
      · have HX := Lib.hid hx
        have HN : Hid (countK (grpL n xs) (j + 1) = c) := Lib.hid (by rw [HS.out, hx]; rfl)
        clear hx
        go_wp2_with fail
        refine (HGR.out (j + 1) w1 (by omega) (by omega) HK1.out).mono ?_
        rw [HX.out]
        rintro e w2 ⟨rfl, hk2⟩
        have HK2 := Lib.hid (HK1.out.nw hk2)
        clear hk2
        go_wp2
        go_roundw
        case rel => exact ⟨j + 1, by omega, by go_num, by rw [HN.out], HK2.out⟩
        case measure => simp [intOf] <;> omega
      · have HX := Lib.hid hx
        have HN : Hid (countK (grpL n xs) (j + 1) = c + 1) := Lib.hid (by rw [HS.out, hx]; rfl)
        clear hx
        go_wp2_with fail
        refine (HGR.out (j + 1) w1 (by omega) (by omega) HK1.out).mono ?_
        rw [HX.out]
        rintro e w2 ⟨rfl, hk2⟩
        have HK2 := Lib.hid (HK1.out.nw hk2)
        clear hk2
        go_wp2
        go_roundw
        case rel => exact ⟨j + 1, by omega, by go_num, by rw [HN.out]; rfl, HK2.out⟩
        case measure => simp [intOf] <;> omega
    · have e : j = P := by omega
      subst e
      have t1 : ¬ ((j + 1 : Nat) : Int) ≤ j := by omega
      go_wp2_with fail
      refine (saPeriod_any n wr n1 n2).mono ?_
      rw [HP.out]
      rintro e w1 ⟨rfl, hk1⟩
      have HK1 := Lib.hid (HK.out.nw hk1)
      clear hk1
      go_wp2
      go_ret2
      rw [HC.out]
      exact ⟨rfl, HK1.out⟩
theorem sCountSaving_all (p : Int) (v : Value) (xs : List Int) (W : World) (hv : Rd W v xs) (hl : xs.length ≤ 1048576) : Calls Try.prog 31 #[.int .i64 p, v] W (IntB W (vCountSaving p xs).1 (vCountSaving p xs).2) := by
  unfold vCountSaving
  by_cases h : 1 ≤ p ∧ p ≤ 12 ∧ 0 < xs.length ∧ risB (p - 1) xs = true
  · rw [if_pos h]
    obtain ⟨n, rfl⟩ : ∃ n : Nat, p = n := ⟨p.toNat, by omega⟩
    rw [Int.toNat_natCast]
    exact sCountSaving_yes n xs.length v xs W hv rfl (by omega) (by omega) (by omega) h.2.2.2
  · rw [if_neg h]
    have HLI := Lib.hid (saList_any p v xs W hv (by omega))
    rw [decide_eq_false h] at HLI
    clear h
    obtain ⟨A, c, rfl, _⟩ := hv
    go_enter Try.func31, Try.ntmps31
    go_wp2_with (first | ((with_reducible refine HLI.out.mono ?_); rintro e w' ⟨rfl, rfl⟩))
    go_ret2
    exact ⟨rfl, Kp.refl _ _⟩
end Go.Proofs.Ytlkmknigfdgnoaa
namespace Go.Proofs.Ytlkmknigfdgnoaa
open Go.ChangeShapes Go.WideShapes Go.ChangeAt Go.RowKit Go.Maps

set_option maxRecDepth 100000 in
set_option maxHeartbeats 1600000 in
theorem isGroup_good (p : Int) (v : Value) (xs : List Int) (W : World) (hv : Rd W v xs) (hl : xs.length ≤ 2000000) (p0 : 1 ≤ p) (p1 : p ≤ 12) :
    Calls Try.prog 56 #[.int .i64 p, v] W fun e w' => e = .returned (.bool (decide (0 < xs.length) && risB (p - 1) xs)) ∧ W = w' := by
  obtain ⟨n, hn⟩ : ∃ n, xs.length = n := ⟨_, rfl⟩
  obtain ⟨A, c, rfl, hA⟩ := hv
  obtain ⟨R, hR⟩ : ∃ R, risB (p - 1) xs = R := ⟨_, rfl⟩
  have HR : Hid (risT (p - 1) xs n = R) := Lib.hid (by rw [← hR, ← hn]; rfl)
  rw [hR]
  rw [hn] at hl ⊢
  have HN := Lib.hid hn
  have HA := Lib.hid hA
  have wp : IntKind.i64.wrap (p - 1) = p - 1 := IntWalk.i64_in _ (by omega)
  have n0 : (0 : Int) ≤ n := Int.natCast_nonneg _
  clear hn hA hR
  go_enter Try.func56, Try.ntmps56
  go_wp2
  go_loop [5, 7, 10] (fun l _ i => ∃ (j : Nat) (m : Int), j ≤ n ∧ i = .int .i64 j ∧ l = .int .i64 m ∧ risT (p - 1) xs j = true ∧ 0 ≤ m ∧ m ≤ 12 ∧ (j = 0 → m = 0) ∧ (0 < j → m = xs.getD (j - 1) 0 + 1)) (fun _ _ i => n - (intOf i).toNat)
  case atStart => exact ⟨0, 0, Nat.zero_le _, rfl, rfl, rfl, by omega, by omega, fun _ => rfl, fun h => by omega⟩
  case round =>
    obtain ⟨j, m, hj, rfl, rfl, hf, m0, m1, hz, hs⟩ := hrel
    have HF := Lib.hid hf
    have HZ := Lib.hid hz
    have HS := Lib.hid hs
    clear hf hz hs
    by_cases hlt : j < n
    · obtain ⟨g, o, rfl, hc⟩ := HA.out j (by rw [HN.out]; exact hlt)
      obtain ⟨y, hy⟩ : ∃ y, xs.getD j 0 = y := ⟨_, rfl⟩
      have HB : Hid (okR (p - 1) xs j = decide (m ≤ y ∧ y ≤ p - 1)) := Lib.hid (by
        unfold okR
        rw [hy]
        by_cases j0 : j = 0
        · have := HZ.out j0
          subst this
          congr 1
          exact propext ⟨fun h => ⟨h.1, h.2.1⟩, fun h => ⟨h.1, h.2, .inl j0⟩⟩
        · have := HS.out (by omega)
          congr 1
          refine propext ⟨fun h => ⟨?_, h.2.1⟩, fun h => ⟨by omega, h.2, .inr (by omega)⟩⟩
          rcases h.2.2 with h2 | h2
          · exact absurd h2 j0
          · omega)
      have HYY := Lib.hid hy
      rw [hy] at hc
      have h2 : (0 : Int) ≤ j := Int.natCast_nonneg _
      have h3 : (j : Int) < n := by omega
      clear hy
      by_cases e : m ≤ y ∧ y ≤ p - 1
      · obtain ⟨e1, e2⟩ := e
        have HT : Hid (risT (p - 1) xs (j + 1) = true) := Lib.hid (by rw [risT, HF.out, HB.out, decide_eq_true ⟨e1, e2⟩]; rfl)
        have w2 : IntKind.i64.wrap (y + 1) = y + 1 := IntWalk.i64_in _ (by omega)
        go_wp2_with (first | ((with_reducible refine (within_yes _ _ _ _ e1 e2).mono ?_); rintro e w' ⟨rfl, rfl⟩))
        go_round
        case rel => exact ⟨j + 1, y + 1, by omega, by go_num, rfl, HT.out, by omega, by omega, fun h => by omega, fun _ => by rw [Nat.add_sub_cancel, HYY.out]⟩
        case measure => simp [intOf]; omega
      · have e' : y < m ∨ p - 1 < y := by omega
        have HT : Hid (R = false) := Lib.hid (by
          rw [← HR.out]
          refine risT_no (p - 1) xs j ?_ n hlt
          rw [HB.out]
          exact decide_eq_false e)
        go_wp2_with (first | ((with_reducible refine (within_no _ _ _ _ e').mono ?_); rintro e w' ⟨rfl, rfl⟩))
        go_ret
        exact ⟨ret_bool (by rw [HT.out, Bool.and_false]), rfl⟩
    · have e : j = n := by omega
      subst e
      have HT : Hid (R = true) := Lib.hid (by rw [← HR.out]; exact HF.out)
      go_wp2_with (first | ((with_reducible refine (isFew_yes _ _ p0 p1).mono ?_); rintro e w' ⟨rfl, rfl⟩))
      go_ret
      exact ⟨ret_bool (by rw [HT.out, Bool.and_true] <;> (by_cases h : 0 < j <;> simp [h] <;> omega)), rfl⟩
set_option maxRecDepth 100000 in
set_option maxHeartbeats 1600000 in
theorem isGroup_bad (p : Int) (v : Value) (xs : List Int) (W : World) (hv : Rd W v xs) (hl : xs.length ≤ 2000000) (h : p < 1 ∨ 12 < p) :
    Calls Try.prog 56 #[.int .i64 p, v] W fun e w' => e = .returned (.bool false) ∧ W = w' := by
  obtain ⟨n, hn⟩ : ∃ n, xs.length = n := ⟨_, rfl⟩
  obtain ⟨A, c, rfl, hA⟩ := hv
  rw [hn] at hl ⊢
  have HN := Lib.hid hn
  have HA := Lib.hid hA
  have n0 : (0 : Int) ≤ n := Int.natCast_nonneg _
  obtain ⟨q, hq⟩ : ∃ q, IntKind.i64.wrap (p - 1) = q := ⟨_, rfl⟩
  clear hn hA
  go_enter Try.func56, Try.ntmps56
  go_wp2
  go_loop [5, 7, 10] (fun l _ i => ∃ (j : Nat) (m : Int), j ≤ n ∧ i = .int .i64 j ∧ l = .int .i64 m) (fun _ _ i => n - (intOf i).toNat)
  case atStart => exact ⟨0, 0, Nat.zero_le _, rfl, rfl⟩
  case round =>
    obtain ⟨j, m, hj, rfl, rfl⟩ := hrel
    by_cases hlt : j < n
    · obtain ⟨g, o, rfl, hc⟩ := HA.out j (by rw [HN.out]; exact hlt)
      obtain ⟨y, hy⟩ : ∃ y, xs.getD j 0 = y := ⟨_, rfl⟩
      rw [hy] at hc
      have h2 : (0 : Int) ≤ j := Int.natCast_nonneg _
      have h3 : (j : Int) < n := by omega
      clear hy
      obtain ⟨y1, hy1⟩ : ∃ y1, IntKind.i64.wrap (y + 1) = y1 := ⟨_, rfl⟩
      by_cases e : m ≤ y ∧ y ≤ q
      · obtain ⟨e1, e2⟩ := e
        go_wp2_with (first | ((with_reducible refine (within_yes _ _ _ _ e1 e2).mono ?_); rintro e w' ⟨rfl, rfl⟩) | ((with_reducible refine (within_yes _ _ _ _ e1 (hq ▸ e2)).mono ?_); rintro e w' ⟨rfl, rfl⟩))
        go_round
        case rel => exact ⟨j + 1, _, by omega, by go_num, rfl⟩
        case measure => simp [intOf]; omega
      · have e' : y < m ∨ q < y := by omega
        go_wp2_with (first | ((with_reducible refine (within_no _ _ _ _ e').mono ?_); rintro e w' ⟨rfl, rfl⟩))
        go_ret
        exact ⟨rfl, rfl⟩
    · have e : j = n := by omega
      subst e
      go_wp2_with (first | ((with_reducible refine (isFew_no _ _ h).mono ?_); rintro e w' ⟨rfl, rfl⟩))
      go_ret
      exact ⟨rfl, rfl⟩
theorem isGroup_any (p : Int) (v : Value) (xs : List Int) (W : World) (hv : Rd W v xs) (hl : xs.length ≤ 2000000) :
    Calls Try.prog 56 #[.int .i64 p, v] W fun e w' => e = .returned (.bool (decide (1 ≤ p ∧ p ≤ 12 ∧ 0 < xs.length ∧ risB (p - 1) xs = true))) ∧ W = w' := by
  by_cases hp : 1 ≤ p ∧ p ≤ 12
  · refine (isGroup_good p v xs W hv hl hp.1 hp.2).mono fun e w' ⟨he, hw⟩ => ⟨?_, hw⟩
    rw [he]
    congr 2
    by_cases h1 : 0 < xs.length <;> cases h2 : risB (p - 1) xs <;> simp [h1, hp] <;> omega
  · refine (isGroup_bad p v xs W hv hl (by omega)).mono fun e w' ⟨he, hw⟩ => ⟨?_, hw⟩
    rw [he, decide_eq_false (fun h => hp ⟨h.1, h.2.1⟩)]

/-- the least step behind s that saves a list, as the program finds it -/
theorem least0 (b n P : Nat) (D : DataW Unit) (S : Nat → Bool) (W : World) (hm : Mp W b n D) (hT : HasD D (KeyP S P)) (P1 : 1 ≤ P) (hS : ∀ k, S (k + P) = S k) (hP : P ≤ 1000000) :
    Calls Try.prog 58 #[.agg #[.map (some b), .int .i64 P], .int .i64 0] W fun e w' => ∃ r bb, e = .returned (.tuple #[.int .i64 r, .bool bb]) ∧ Nxt S 0 P r bb ∧ Kp Nw W w' :=
  leastAfter_any b n P 0 D S W hm hT P1 hS hP (Nat.zero_le _)
theorem stR_le (n T P : Nat) (hT : T ≤ n) (h : P ∣ pT n T) : P ∣ perT n ∧ P ≤ perT n := by
  have h1 := Nat.dvd_trans h (pT_perT n T hT)
  exact ⟨h1, Nat.le_of_dvd (perT_pos n) h1⟩

set_option maxRecDepth 100000 in
set_option maxHeartbeats 1600000 in
theorem iStepSaving_yes (n L : Nat) (v : Value) (xs : List Int) (W : World) (hv : Rd W v xs) (hl : xs.length = L) (L1 : 1 ≤ L) (n1 : 1 ≤ n) (n2 : n ≤ 12) (hr : risB ((n : Int) - 1) xs = true) :
    Calls Try.prog 30 #[.int .i64 n, v] W (IntB W (firstK (grpL n xs) (perT n)).1 (firstK (grpL n xs) (perT n)).2) := by
  have hf := risB_few n xs hr
  have hLn : L ≤ n := by have := hf.le; omega
  have HF := Lib.hid hf
  have HL := Lib.hid hl
  have HG := Lib.hid (isGroup_any (n : Int) v xs W hv (by omega))
  rw [decide_eq_true ⟨by omega, by omega, by omega, hr⟩] at HG
  have HV := Lib.hid hv
  obtain ⟨R, hR⟩ : ∃ R, firstK (grpL n xs) (perT n) = R := ⟨_, rfl⟩
  have HR := Lib.hid hR
  rw [hR]
  clear hf hr hR
  obtain ⟨A, c, rfl, _⟩ := hv
  have HST := Lib.hid (stepsSaving_any n (n - L) _ xs L W HV.out hl (by omega) n1 (by omega))
  rw [hl] at HST HG ⊢
  clear hl
  go_enter Try.func30, Try.ntmps30
  go_wp2_with (first | ((with_reducible refine HG.out.mono ?_); rintro e w' ⟨rfl, rfl⟩))
  refine HST.out.mono ?_
  rintro e w1 ⟨b, k, P, D, rfl, m1, hD, P1, P2, hdv, hper, hk1⟩
  have HDV := Lib.hid hdv
  have HK1 := Lib.hid hk1
  have HLE := Lib.hid (least0 b k P D _ w1 m1 hD P1 hper (by omega))
  clear m1 hD hdv hper hk1
  go_wp2_with fail
  refine HLE.out.mono ?_
  rintro e w2 ⟨r, bb, rfl, hn, hk2⟩
  have HE : Hid (R = (r, bb)) := Lib.hid (by
    rw [← HR.out]
    refine nxt_first _ _ P (perT n) r bb hn (stR_le n (n - L) P (by omega) HDV.out).2 (fun k _ => ?_)
    have := Few.ok n xs HF.out k
    rw [HL.out] at this
    exact this.symm)
  have HK2 := Lib.hid (HK1.out.nw hk2)
  clear hn hk2
  go_wp2
  go_ret2
  rw [HE.out]
  exact ⟨rfl, HK2.out⟩
theorem iStepSaving_all (p : Int) (v : Value) (xs : List Int) (W : World) (hv : Rd W v xs) (hl : xs.length ≤ 1048576) : Calls Try.prog 30 #[.int .i64 p, v] W (IntB W (vStepSaving p xs).1 (vStepSaving p xs).2) := by
  unfold vStepSaving
  by_cases h : 1 ≤ p ∧ p ≤ 12 ∧ 0 < xs.length ∧ risB (p - 1) xs = true
  · rw [if_pos h]
    obtain ⟨n, rfl⟩ : ∃ n : Nat, p = n := ⟨p.toNat, by omega⟩
    rw [Int.toNat_natCast]
    exact iStepSaving_yes n xs.length v xs W hv rfl (by omega) (by omega) (by omega) h.2.2.2
  · rw [if_neg h]
    have HG := Lib.hid (isGroup_any p v xs W hv (by omega))
    rw [decide_eq_false h] at HG
    clear h
    obtain ⟨A, c, rfl, _⟩ := hv
    go_enter Try.func30, Try.ntmps30
    go_wp2_with (first | ((with_reducible refine HG.out.mono ?_); rintro e w' ⟨rfl, rfl⟩))
    go_ret2
    exact ⟨rfl, Kp.refl _ _⟩

set_option maxRecDepth 100000 in
set_option maxHeartbeats 1600000 in
theorem iCountSaving_yes (n L : Nat) (v : Value) (xs : List Int) (W : World) (hv : Rd W v xs) (hl : xs.length = L) (L1 : 1 ≤ L) (n1 : 1 ≤ n) (n2 : n ≤ 12) (hr : risB ((n : Int) - 1) xs = true) :
    Calls Try.prog 32 #[.int .i64 n, v] W (IntB W ((countK (grpL n xs) (perT n) : Nat) : Int) true) := by
  have hf := risB_few n xs hr
  have hLn : L ≤ n := by have := hf.le; omega
  have HF := Lib.hid hf
  have HL := Lib.hid hl
  have HG := Lib.hid (isGroup_any (n : Int) v xs W hv (by omega))
  rw [decide_eq_true ⟨by omega, by omega, by omega, hr⟩] at HG
  have HV := Lib.hid hv
  obtain ⟨R, hR⟩ : ∃ R, countK (grpL n xs) (perT n) = R := ⟨_, rfl⟩
  have HR := Lib.hid hR
  rw [hR]
  clear hf hr hR
  obtain ⟨A, c, rfl, _⟩ := hv
  have HST := Lib.hid (stepsSaving_any n (n - L) _ xs L W HV.out hl (by omega) n1 (by omega))
  rw [hl] at HST HG ⊢
  obtain ⟨Q, hQ⟩ : ∃ Q, perT n = Q := ⟨_, rfl⟩
  have HQ := Lib.hid hQ
  have Q2 : Q ≤ 27720 := by rw [← hQ]; exact perT_le n n2
  clear hl hQ
  go_enter Try.func32, Try.ntmps32
  go_wp2_with (first | ((with_reducible refine HG.out.mono ?_); rintro e w' ⟨rfl, rfl⟩))
  refine HST.out.mono ?_
  rintro e w1 ⟨b, k, P, D, rfl, m1, hD, P1, P2, hdv, hper, hk1⟩
  have HDV := Lib.hid hdv
  have HK1 := Lib.hid hk1
  have M1 := Lib.hid m1
  have HD := Lib.hid hD
  have HP := Lib.hid hper
  clear m1 hD hdv hper hk1
  go_wp2_with fail
  refine (periodOf_any n w1 n1 n2).mono ?_
  rw [HQ.out]
  rintro e w2 ⟨rfl, hk2⟩
  have HC : Hid (Calls Try.prog 59 #[.agg #[.map (some b), .int .i64 P], .int .i64 Q] w2 (IntO w2 (countK (okT n xs (n - L)) Q : Nat))) := Lib.hid (by
    obtain ⟨q, hq⟩ := (stR_le n (n - L) P (by omega) HDV.out).1
    rw [HQ.out, Nat.mul_comm] at hq
    exact countUpTo_any b k P Q q D _ w2 (Mp.kp M1.out hk2 (fun h => h)) HD.out P1 HP.out (by omega) (by omega) hq)
  have HE : Hid (countK (okT n xs (n - L)) Q = R) := Lib.hid (by
    rw [← HR.out, HQ.out]
    refine countK_congr _ _ Q (fun k _ _ => ?_)
    have := Few.ok n xs HF.out k
    rw [HL.out] at this
    exact this)
  rw [HE.out] at HC
  have HK2 := Lib.hid (HK1.out.nw hk2)
  clear hk2
  go_wp2_with fail
  refine HC.out.mono ?_
  rintro e w3 ⟨rfl, hk3⟩
  have HK3 := Lib.hid (HK2.out.nw hk3)
  clear hk3
  go_wp2
  go_ret2
  exact ⟨rfl, HK3.out⟩
theorem iCountSaving_all (p : Int) (v : Value) (xs : List Int) (W : World) (hv : Rd W v xs) (hl : xs.length ≤ 1048576) : Calls Try.prog 32 #[.int .i64 p, v] W (IntB W (vCountSaving p xs).1 (vCountSaving p xs).2) := by
  unfold vCountSaving
  by_cases h : 1 ≤ p ∧ p ≤ 12 ∧ 0 < xs.length ∧ risB (p - 1) xs = true
  · rw [if_pos h]
    obtain ⟨n, rfl⟩ : ∃ n : Nat, p = n := ⟨p.toNat, by omega⟩
    rw [Int.toNat_natCast]
    exact iCountSaving_yes n xs.length v xs W hv rfl (by omega) (by omega) (by omega) h.2.2.2
  · rw [if_neg h]
    have HG := Lib.hid (isGroup_any p v xs W hv (by omega))
    rw [decide_eq_false h] at HG
    clear h
    obtain ⟨A, c, rfl, _⟩ := hv
    go_enter Try.func32, Try.ntmps32
    go_wp2_with (first | ((with_reducible refine HG.out.mono ?_); rintro e w' ⟨rfl, rfl⟩))
    go_ret2
    exact ⟨rfl, Kp.refl _ _⟩

theorem firstK_congr (f g : Nat → Bool) (n : Nat) (h : ∀ k, 1 ≤ k → f k = g k) : firstK f n = firstK g n := by
  unfold firstK
  rw [show (fun j => f (j + 1)) = (fun j => g (j + 1)) from funext (fun j => h _ (by omega))]
theorem risB_one (hi u : Int) : risB hi [u] = decide (0 ≤ u ∧ u ≤ hi) := by
  show (true && okR hi [u] 0) = _
  rw [Bool.true_and]
  unfold okR
  simp
theorem save_one (p u : Int) : vStepSaving p [u] = vStepForLast p u := by
  unfold vStepSaving vStepForLast
  rw [risB_one]
  by_cases h : 1 ≤ p ∧ p ≤ 12 ∧ 0 ≤ u ∧ u ≤ p - 1
  · rw [if_pos h, if_pos ⟨h.1, h.2.1, by simp, decide_eq_true h.2.2⟩]
    exact firstK_congr _ _ _ (fun k _ => grpL_one p.toNat u k (by omega))
  · rw [if_neg h, if_neg (fun h2 => h ⟨h2.1, h2.2.1, (of_decide_eq_true h2.2.2.2).1, (of_decide_eq_true h2.2.2.2).2⟩)]
theorem count_one (p u : Int) : vCountSaving p [u] = vCountForLast p u := by
  unfold vCountSaving vCountForLast
  rw [risB_one]
  by_cases h : 1 ≤ p ∧ p ≤ 12 ∧ 0 ≤ u ∧ u ≤ p - 1
  · rw [if_pos h, if_pos ⟨h.1, h.2.1, by simp, decide_eq_true h.2.2⟩, countK_congr _ _ _ (fun k _ _ => grpL_one p.toNat u k (by omega))]
  · rw [if_neg h, if_neg (fun h2 => h ⟨h2.1, h2.2.1, (of_decide_eq_true h2.2.2.2).1, (of_decide_eq_true h2.2.2.2).2⟩)]
set_option maxHeartbeats 800000 in
theorem iStepForLast_all (p u : Int) (W : World) : Calls Try.prog 23 #[.int .i64 p, .int .i64 u] W (IntB W (vStepForLast p u).1 (vStepForLast p u).2) := by
  have HE := Lib.hid (fun w' h => iStepSaving_all p (.slice (some ⟨W.heap.size, 0, none⟩) 1 1) [u] w' h (by simp))
  rw [save_one] at HE
  obtain ⟨R, hR⟩ : ∃ R, vStepForLast p u = R := ⟨_, rfl⟩
  rw [hR] at HE ⊢
  clear hR
  go_enter Try.func23, Try.ntmps23
  go_wp2_with fail
  refine (HE.out _ (Rd.one (g := W.heap.size) (by simp))).mono ?_
  rintro e w1 ⟨rfl, hk1⟩
  have HK := Lib.hid (((Kp.refl Nw W).alloc _).nw hk1)
  clear hk1
  go_wp2
  go_ret2
  exact ⟨rfl, HK.out⟩
set_option maxHeartbeats 800000 in
theorem iCountForLast_all (p u : Int) (W : World) : Calls Try.prog 25 #[.int .i64 p, .int .i64 u] W (IntB W (vCountForLast p u).1 (vCountForLast p u).2) := by
  have HE := Lib.hid (fun w' h => iCountSaving_all p (.slice (some ⟨W.heap.size, 0, none⟩) 1 1) [u] w' h (by simp))
  rw [count_one] at HE
  obtain ⟨R, hR⟩ : ∃ R, vCountForLast p u = R := ⟨_, rfl⟩
  rw [hR] at HE ⊢
  clear hR
  go_enter Try.func25, Try.ntmps25
  go_wp2_with fail
  refine (HE.out _ (Rd.one (g := W.heap.size) (by simp))).mono ?_
  rintro e w1 ⟨rfl, hk1⟩
  have HK := Lib.hid (((Kp.refl Nw W).alloc _).nw hk1)
  clear hk1
  go_wp2
  go_ret2
  exact ⟨rfl, HK.out⟩

set_option maxRecDepth 100000 in
set_option maxHeartbeats 1600000 in
theorem iNextStepFor_yes (n s : Nat) (u : Int) (W : World) (n1 : 1 ≤ n) (n2 : n ≤ 12) (u0 : 0 ≤ u) (u1 : u ≤ (n : Int) - 1) (s1 : 1 ≤ s) (s2 : s ≤ 1000000) :
    Calls Try.prog 42 #[.int .i64 n, .int .i64 u, .int .i64 s] W (IntB W (nextK n u s (perT n)).1 (nextK n u s (perT n)).2) := by
  have q0 : 1 ≤ (s : Int) := by omega
  have q1 : (s : Int) ≤ 1000000 := by omega
  have hr : risB ((n : Int) - 1) [u] = true := by rw [risB_one]; exact decide_eq_true ⟨u0, u1⟩
  obtain ⟨w1, hw1⟩ : ∃ w1, w1 = W.alloc (.cells #[.int .i64 u] 3) := ⟨_, rfl⟩
  have hv : Rd w1 (.slice (some ⟨W.heap.size, 0, none⟩) 1 1) [u] := by rw [hw1]; exact Rd.one (g := W.heap.size) (by simp)
  have k1 : Kp Nw W w1 := by rw [hw1]; exact Kp.al _ _
  have HW := Lib.hid hw1
  have K1 := Lib.hid k1
  have HF := Lib.hid (risB_few n [u] hr)
  have HG := Lib.hid (isGroup_any (n : Int) _ [u] w1 hv (by simp))
  rw [decide_eq_true ⟨by omega, by omega, by simp, hr⟩] at HG
  have HST := Lib.hid (stepsSaving_any n (n - 1) _ [u] 1 w1 hv rfl (by omega) n1 (by omega))
  obtain ⟨R, hR⟩ : ∃ R, nextK n u s (perT n) = R := ⟨_, rfl⟩
  have HR := Lib.hid hR
  rw [hR]
  clear hr hR hv k1 hw1
  go_enter Try.func42, Try.ntmps42
  go_wp2_with (first | (rw [← HW.out]; (with_reducible refine HG.out.mono ?_); rintro e w' ⟨rfl, rfl⟩) | ((with_reducible refine (within_yes _ _ _ _ q0 q1).mono ?_); rintro e w' ⟨rfl, rfl⟩))
  refine HST.out.mono ?_
  rintro e w2 ⟨b, k, P, D, rfl, m2, hD, P1, P2, hdv, hper, hk2⟩
  have HDV := Lib.hid hdv
  have HK2 := Lib.hid (K1.out.nw hk2)
  have HLE := Lib.hid (leastAfter_any b k P s D _ w2 m2 hD P1 hper (by omega) s2)
  clear m2 hD hdv hper hk2
  go_wp2_with fail
  refine HLE.out.mono ?_
  rintro e w3 ⟨r, bb, rfl, hn, hk3⟩
  have HE : Hid (R = (r, bb)) := Lib.hid (by
    rw [← HR.out]
    refine nxt_next _ _ s P (perT n) r bb hn (stR_le n (n - 1) P (by omega) HDV.out).2 (fun i _ => ?_)
    have h1 := Few.ok n [u] HF.out (s + i)
    have h2 := grpL_one n u (s + i) n1
    rw [show n - [u].length = n - 1 from rfl] at h1
    rw [h1, h2]
    unfold isLast
    rw [Int.natCast_add])
  have HK3 := Lib.hid (HK2.out.nw hk3)
  clear hn hk3
  go_wp2
  go_ret2
  rw [HE.out]
  exact ⟨rfl, HK3.out⟩
set_option maxHeartbeats 800000 in
theorem iNextStepFor_all (p u s : Int) (W : World) : Calls Try.prog 42 #[.int .i64 p, .int .i64 u, .int .i64 s] W (IntB W (vNextStepFor p u s).1 (vNextStepFor p u s).2) := by
  unfold vNextStepFor
  by_cases hp : 1 ≤ p ∧ p ≤ 12 ∧ 0 ≤ u ∧ u ≤ p - 1
  · obtain ⟨n, rfl⟩ : ∃ n : Nat, p = n := ⟨p.toNat, by omega⟩
    by_cases hs : 1 ≤ s ∧ s ≤ 1000000
    · rw [if_pos ⟨hp.1, hp.2.1, hp.2.2.1, hp.2.2.2, hs.1, hs.2⟩, Int.toNat_natCast]
      obtain ⟨t, rfl⟩ : ∃ t : Nat, s = t := ⟨s.toNat, by omega⟩
      exact iNextStepFor_yes n t u W (by omega) (by omega) hp.2.2.1 hp.2.2.2 (by omega) (by omega)
    · rw [if_neg (fun h => hs ⟨h.2.2.2.2.1, h.2.2.2.2.2⟩)]
      have h : s < 1 ∨ 1000000 < s := by omega
      have HG := Lib.hid (fun w' (hv : Rd w' (.slice (some ⟨W.heap.size, 0, none⟩) 1 1) [u]) => isGroup_any (n : Int) _ [u] w' hv (by simp))
      rw [decide_eq_true ⟨hp.1, hp.2.1, by simp, by rw [risB_one]; exact decide_eq_true hp.2.2⟩] at HG
      clear hs hp
      go_enter Try.func42, Try.ntmps42
      go_wp2_with (first | ((with_reducible refine (HG.out _ (Rd.one (g := W.heap.size) (by simp))).mono ?_); rintro e w' ⟨rfl, rfl⟩) | ((with_reducible refine (within_no _ _ _ _ h).mono ?_); rintro e w' ⟨rfl, rfl⟩))
      go_ret2
      exact ⟨rfl, Kp.al _ _⟩
  · rw [if_neg (fun h => hp ⟨h.1, h.2.1, h.2.2.1, h.2.2.2.1⟩)]
    have HG := Lib.hid (fun w' (hv : Rd w' (.slice (some ⟨W.heap.size, 0, none⟩) 1 1) [u]) => isGroup_any p _ [u] w' hv (by simp))
    rw [decide_eq_false (fun h => hp ⟨h.1, h.2.1, by have h2 := h.2.2.2; rw [risB_one] at h2; exact of_decide_eq_true h2⟩)] at HG
    clear hp
    go_enter Try.func42, Try.ntmps42
    go_wp2_with (first | ((with_reducible refine (HG.out _ (Rd.one (g := W.heap.size) (by simp))).mono ?_); rintro e w' ⟨rfl, rfl⟩))
    go_ret2
    exact ⟨rfl, Kp.al _ _⟩

theorem marks_few (f n : Nat) (h : f ≤ n) : Few n (marks 0 f) := ⟨marks_nodup 0 f, by rw [marks_length]; exact h, fun x hx => by
  rw [mem_marks] at hx ⊢
  omega⟩
theorem friends_ok (f : Nat) (f1 : 1 ≤ f) (f2 : f ≤ 8) (k : Nat) (h1 : 1 ≤ k) (h2 : k ≤ wit f) : friendsB f k = okT (f + f) (marks 0 f) f k := by
  have key : ∀ i : Fin 9, (List.range (wit i.val)).all (fun k => friendsB i.val (k + 1) == okT (i.val + i.val) (marks 0 i.val) i.val (k + 1)) = true := by decide +kernel
  have h := key ⟨f, by omega⟩
  rw [List.all_eq_true] at h
  have := h (k - 1) (List.mem_range.2 (by show k - 1 < wit f; omega))
  rw [show k - 1 + 1 = k by omega] at this
  exact eq_of_beq this
theorem friends_same (f P : Nat) (f1 : 1 ≤ f) (f2 : f ≤ 8) (r : Int) (bb : Bool) (h : Nxt (okT (f + f) (marks 0 f) f) 0 P r bb) : firstK (friendsB f) (wit f) = (r, bb) := by
  obtain ⟨d1, d2, d3⟩ := wit_does f f1 f2
  have d4 := friends_ok f f1 f2 (wit f) d2 (Nat.le_refl _)
  rw [d1] at d4
  rcases h with ⟨rfl, m, rfl, m1, m2, m3, m4⟩ | ⟨rfl, rfl, h⟩
  · have hle : m ≤ wit f := by
      apply Classical.byContradiction
      intro hc
      have := m4 (wit f) d2 (by omega)
      rw [← d4] at this
      cases this
    obtain ⟨j, rfl⟩ : ∃ j, m = j + 1 := ⟨m - 1, by omega⟩
    exact firstK_hit _ _ j (by omega) (by rw [friends_ok f f1 f2 _ (by omega) hle]; exact m3) (fun i hi => by rw [friends_ok f f1 f2 _ (by omega) (by omega)]; exact m4 _ (by omega) (by omega))
  · rw [h _ d2] at d4
    cases d4

set_option maxRecDepth 100000 in
set_option maxHeartbeats 1600000 in
theorem iStepForFriends_yes (f : Nat) (W : World) (f1 : 1 ≤ f) (f2 : f ≤ 8) : Calls Try.prog 36 #[.int .i64 f] W (IntB W (firstK (friendsB f) (wit f)).1 (firstK (friendsB f) (wit f)).2) := by
  have p0 : 1 ≤ (f : Int) := by omega
  have p1 : (f : Int) ≤ 8 := by omega
  have w2f : IntKind.i64.wrap (2 * (f : Int)) = ((f + f : Nat) : Int) := by rw [IntWalk.i64_in _ (by omega)]; omega
  obtain ⟨R, hR⟩ : ∃ R, firstK (friendsB f) (wit f) = R := ⟨_, rfl⟩
  have HR := Lib.hid hR
  rw [hR]
  clear hR
  go_enter Try.func36, Try.ntmps36
  go_wp2_with (first | ((with_reducible refine (within_yes _ _ _ _ p0 p1).mono ?_); rintro e w' ⟨rfl, rfl⟩))
  refine (firstNumbers_any f _ (by omega)).mono ?_
  rintro e w1 ⟨v, rfl, hs, hk⟩
  obtain ⟨A, c, rfl⟩ := hs.val (marks_length 0 f)
  have HST := Lib.hid (stepsSaving_any (f + f) f _ (marks 0 f) f w1 hs.rd (marks_length 0 f) rfl (by omega) (by omega))
  have HK := Lib.hid hk
  clear hs hk
  go_wp2_with fail
  refine HST.out.mono ?_
  rintro e w2 ⟨b, k, P, D, rfl, m2, hD, P1, P2, hdv, hper, hk2⟩
  have HK2 := Lib.hid (HK.out.nw hk2)
  have HLE := Lib.hid (least0 b k P D _ w2 m2 hD P1 hper (by omega))
  clear m2 hD hdv hper hk2
  go_wp2_with fail
  refine HLE.out.mono ?_
  rintro e w3 ⟨r, bb, rfl, hn, hk3⟩
  have HE : Hid (R = (r, bb)) := Lib.hid (by rw [← HR.out]; exact friends_same f P f1 f2 r bb hn)
  have HK3 := Lib.hid (HK2.out.nw hk3)
  clear hn hk3
  go_wp2
  go_ret2
  rw [HE.out]
  exact ⟨rfl, HK3.out⟩
theorem iStepForFriends_all (f : Int) (W : World) : Calls Try.prog 36 #[.int .i64 f] W (IntB W (vStepForFriends f).1 (vStepForFriends f).2) := by
  unfold vStepForFriends
  by_cases hp : 1 ≤ f ∧ f ≤ 8
  · rw [if_pos hp]
    obtain ⟨n, rfl⟩ : ∃ n : Nat, f = n := ⟨f.toNat, by omega⟩
    rw [Int.toNat_natCast]
    exact iStepForFriends_yes n W (by omega) (by omega)
  · rw [if_neg hp]
    have h : f < 1 ∨ 8 < f := by omega
    clear hp
    go_enter Try.func36, Try.ntmps36
    go_wp2_with (first | ((with_reducible refine (within_no _ _ _ _ h).mono ?_); rintro e w' ⟨rfl, rfl⟩))
    go_ret2
    exact ⟨rfl, Kp.refl _ _⟩
end Go.Proofs.Ytlkmknigfdgnoaa
