/- Those of some people who are not in a list (slices.DeleteFunc), and the least step by which a list goes first, in the program; no condition but what the chapter asks. -/
import Derived.Test.YtlkmknigfdgnoaaGrps
namespace Go.Proofs.Ytlkmknigfdgnoaa
open Go.ChangeShapes Go.WideShapes Go.ChangeAt Go.RowKit

theorem intSlice : Try.prog.underlying 25 = some (.slice 3) := Try.underlying25
theorem zero_ints (m : Nat) : (Builtin.zeroCells (Value.int .i64 0).cells m).toList = List.replicate m (.int .i64 0) := by
  apply List.ext_getElem
  · simp [Builtin.zeroCells, Value.cells]
  · intro i h1 h2
    simp [Builtin.zeroCells, Value.cells, Nat.mod_one]
/-- clear(s[i:]) -/
theorem run_clr_ints (w : World) (B L cap n i c : Nat) (xs : List Int) (h : SlAt w B L cap n xs) (hi : i < n) :
    ∃ w', (∀ ty : TypeId, (Builtin.clear_ #[25] ty #[.slice (some ⟨L, i, none⟩) (n - i) c]).run Try.prog w = .ok (.tuple #[]) w') ∧ SlAt w' B L cap n (xs.take i ++ List.replicate (n - i) 0) ∧ Kp (fun b => b = L) w w' := by
  obtain ⟨hn, hlen, hrow⟩ := h
  rcases hrow with ⟨h, _⟩ | ⟨g', cap', cur, e, hb, hg, h1, h2, h3, ht⟩
  · simp at h
  · simp only [Value.slice.injEq, Option.some.injEq, Addr.mk.injEq, and_true, true_and] at e
    obtain ⟨rfl, rfl⟩ := e
    rw [Nat.mul_one] at h3 ht hlen
    have hst := run_storeCells_at Try.prog L i 3 (List.replicate (n - i) (.int .i64 0)) 0 cur w hg (by simp; omega) (by simp [Value.oneCell'])
    simp only [Nat.add_zero, List.length_replicate] at hst
    refine ⟨w.setRow L (cur.toList.take i ++ List.replicate (n - i) (Value.int .i64 0) ++ cur.toList.drop (i + (n - i))).toArray, ?_, ⟨?_, ?_⟩, ⟨rfl, rfl, rfl, ?_, fun k _ hk => setRow_other w L k _ (fun e => hk (by simp [e]))⟩⟩
    rotate_left
    · simp; omega
    · refine ⟨by simp; omega, .inr ⟨L, cap, _, rfl, hb, setRow_heap w L cur _ _ _ hg, h1, h2, ?_, ?_⟩⟩
      · simp; omega
      · rw [List.toList_toArray, Nat.mul_one, List.map_append, List.map_replicate]
        have e1 : cur.toList.take i = (xs.take i).map (Value.int .i64) := by rw [List.map_take, ← ht, List.take_take, Nat.min_eq_left (by omega)]
        rw [e1, List.take_append_of_le_length (by simp; omega), List.take_of_length_le (by simp; omega)]
    · simp
    · intro ty
      obtain ⟨k, hk⟩ : ∃ k, n - i = k + 1 := ⟨n - i - 1, by omega⟩
      have hz := zero_ints (k + 1)
      rw [hk] at hst ⊢
      simp [Builtin.clear_, run_underlying intSlice, hz, hst]

/-- the first place whose number is in a list, or -1 -/
def fndC (l : List Int) : List Int → Nat → Int
  | [], _ => -1
  | y :: r, j => if l.contains y then (j : Int) else fndC l r (j + 1)
theorem fndC_drop (l xs : List Int) (j : Nat) (h : j < xs.length) : fndC l (xs.drop j) j = if l.contains (xs.getD j 0) then (j : Int) else fndC l (xs.drop (j + 1)) (j + 1) := by
  rw [List.drop_eq_getElem_cons h, fndC]
  simp [h]
theorem fndC_no (l : List Int) : ∀ (xs : List Int) (j : Nat), fndC l xs j = -1 → ∀ x ∈ xs, l.contains x = false
  | [], j, _, x, hx => by simp at hx
  | y :: r, j, h, x, hx => by
    unfold fndC at h
    by_cases e : l.contains y = true
    · rw [if_pos e] at h; omega
    · rw [if_neg e] at h
      rcases List.mem_cons.1 hx with rfl | hx
      · simpa using e
      · exact fndC_no l r (j + 1) h x hx
theorem fndC_yes (l : List Int) : ∀ (xs : List Int) (j : Nat), fndC l xs j ≠ -1 → ∃ i, i < xs.length ∧ fndC l xs j = ((j + i : Nat) : Int) ∧ (xs.take (i + 1)).filter (fun x => !l.contains x) = xs.take i
  | [], j, h => by simp [fndC] at h
  | y :: r, j, h => by
    unfold fndC at h ⊢
    by_cases e : l.contains y = true
    · rw [if_pos e]
      refine ⟨0, by simp, by simp, ?_⟩
      have e2 : (!l.contains y) = false := by rw [e]; rfl
      simp only [List.take_succ_cons, List.take_zero]
      rw [List.filter_cons_of_neg (by rw [e2]; simp)]
      rfl
    · rw [if_neg e] at h ⊢
      obtain ⟨i, h1, h2, h3⟩ := fndC_yes l r (j + 1) h
      refine ⟨i + 1, by simp; omega, by rw [h2]; congr 1; omega, ?_⟩
      have e2 : (!l.contains y) = true := by simpa using e
      simp only [List.take_succ_cons, List.filter_cons, e2, if_true, h3]

set_option maxHeartbeats 800000 in
theorem oth_any (bl : Nat) (v : Value) (l : List Int) (x : Int) (w : World) (hc : w.cell? ⟨bl, 0, none⟩ = some v) (hv : Rd w v l) (hl : l.length ≤ 1000000) :
    Calls Try.prog 77 #[.int .i64 x, .pointer (some ⟨bl, 0, none⟩)] w fun e w' => e = .returned (.bool (l.contains x)) ∧ w = w' := by
  have HC := Lib.hid (contains_any v l x w hv hl)
  obtain ⟨A, c, rfl, _⟩ := hv
  go_enter Try.func77, Try.ntmps77
  go_wp2_with fail
  refine HC.out.mono ?_
  rintro e w' ⟨rfl, rfl⟩
  go_wp2
  go_ret
  exact ⟨ret_bool (by simp), rfl⟩

set_option maxRecDepth 100000 in
set_option maxHeartbeats 1600000 in
theorem othIndex_any (B g cap n bl : Nat) (xs l : List Int) (v : Value) (W : World) (hs : SlAt W B g cap n xs) (hn2 : n ≤ 1000) (hc : W.cell? ⟨bl, 0, none⟩ = some v) (hv : Rd W v l) (hl : l.length ≤ 1000000) :
    Calls Try.prog 81 #[.slice (some ⟨g, 0, none⟩) n cap, .func (.func 77) #[] #[.pointer (some ⟨bl, 0, none⟩)]] W fun e w' => e = .returned (.int .i64 (fndC l xs 0)) ∧ W = w' := by
  have hn : xs.length = n := hs.1
  obtain ⟨R, hR⟩ : ∃ R, fndC l xs 0 = R := ⟨_, rfl⟩
  rw [hR]
  have HR := Lib.hid hR
  have HN := Lib.hid hn
  have HS := Lib.hid hs
  have HC := Lib.hid hc
  have HV := Lib.hid hv
  clear hn hs hc hv hR
  go_enter Try.func81, Try.ntmps81
  go_wp2
  go_loopw [5, 8] (fun _ i wr => wr = W ∧ ∃ j : Nat, j ≤ n ∧ i = .int .i64 j ∧ fndC l (xs.drop j) j = R) (fun _ i _ => n - (intOf i).toNat)
  case atStart => exact ⟨by first | rfl | trivial, 0, Nat.zero_le _, rfl, HR.out⟩
  case round =>
    obtain ⟨rfl, j, hj, rfl, hf⟩ := hrel
    have HF := Lib.hid hf
    clear hf
    have j0 : (0 : Int) ≤ j := Int.natCast_nonneg _
    by_cases hlt : j < n
    · have j1 : (j : Int) < n := by omega
      have cs := HS.out.cell j hlt
      have hd := fndC_drop l xs j (by rw [HN.out]; exact hlt)
      rw [HF.out] at hd
      obtain ⟨x, hx⟩ : ∃ x, xs.getD j 0 = x := ⟨_, rfl⟩
      rw [hx] at cs hd
      have HD := Lib.hid hd
      have HB := Lib.hid (oth_any bl v l x wr HC.out HV.out hl)
      clear hd hx
      cases hb : l.contains x
      · rw [hb] at HB HD
        have HD2 : Hid (R = fndC l (xs.drop (j + 1)) (j + 1)) := Lib.hid (by have := HD.out; simpa using this)
        clear hb
        go_wp2_with fail
        refine HB.out.mono ?_
        rintro e w' ⟨rfl, rfl⟩
        go_wp2
        go_roundw
        case rel => exact ⟨by first | rfl | trivial, j + 1, by omega, by go_num, HD2.out.symm⟩
        case measure => simp [intOf]; omega
      · rw [hb] at HB HD
        have HD2 : Hid (R = (j : Int)) := Lib.hid (by have := HD.out; simpa using this)
        clear hb
        go_wp2_with fail
        refine HB.out.mono ?_
        rintro e w' ⟨rfl, rfl⟩
        go_wp2
        go_ret
        exact ⟨ret_int HD2.out.symm, rfl⟩
    · have e : j = n := by omega
      have HE : Hid (R = -1) := Lib.hid (by rw [← HF.out, List.drop_eq_nil_of_le (by rw [HN.out, e]; exact Nat.le_refl _), fndC])
      have t1 : ¬ (j : Int) < n := by omega
      clear e
      go_wp2
      go_ret
      exact ⟨ret_int HE.out.symm, rfl⟩

/-- those who are not in the list -/
def flt (l xs : List Int) : List Int := xs.filter (fun x => !l.contains x)
theorem flt_snoc (l xs : List Int) (j : Nat) (h : j < xs.length) : flt l (xs.take (j + 1)) = if l.contains (xs.getD j 0) = true then flt l (xs.take j) else flt l (xs.take j) ++ [xs.getD j 0] := by
  have e : xs.getD j 0 = xs[j] := by rw [List.getD_eq_getElem?_getD, List.getElem?_eq_getElem h]; rfl
  unfold flt
  rw [List.take_succ_eq_append_getElem h, List.filter_append, e]
  by_cases hb : l.contains xs[j] = true
  · rw [if_pos hb, List.filter_cons_of_neg (by rw [hb]; simp)]; simp
  · rw [if_neg hb, List.filter_cons_of_pos (by simpa using hb)]; rfl

set_option maxRecDepth 100000 in
set_option maxHeartbeats 3200000 in
theorem delFunc_any (B g cap n bl : Nat) (xs l : List Int) (v : Value) (W : World) (hs : SlAt W B g cap n xs) (hcap : n ≤ cap) (hn2 : n ≤ 1000) (hl : l.length ≤ 1000000)
    (hb : Hid (∀ w', Kp (fun b => b = g) W w' → w'.cell? ⟨bl, 0, none⟩ = some v ∧ Rd w' v l)) :
    Calls Try.prog 76 #[.slice (some ⟨g, 0, none⟩) n cap, .func (.func 77) #[] #[.pointer (some ⟨bl, 0, none⟩)]] W fun e w' => ∃ m, e = .returned (.slice (some ⟨g, 0, none⟩) m cap) ∧ (flt l xs).length = m ∧ Rd w' (.slice (some ⟨g, 0, none⟩) m cap) (flt l xs) ∧ Kp (fun b => b = g) W w' := by
  have hn : xs.length = n := hs.1
  obtain ⟨c0, v0⟩ := hb.out W (Kp.refl _ _)
  have HI := Lib.hid (othIndex_any B g cap n bl xs l v W hs hn2 c0 v0 hl)
  have HN := Lib.hid hn
  have HS := Lib.hid hs
  obtain ⟨R, hR⟩ : ∃ R, fndC l xs 0 = R := ⟨_, rfl⟩
  rw [hR] at HI
  have HR := Lib.hid hR
  clear hn hs c0 v0 hR
  by_cases hr : R = -1
  · subst hr
    have hall := fndC_no l xs 0 HR.out
    have HE : Hid (flt l xs = xs) := Lib.hid (List.filter_eq_self.2 (fun x hx => by rw [hall x hx]; rfl))
    clear hall
    go_enter Try.func76, Try.ntmps76
    go_wp2_with fail
    refine HI.out.mono ?_
    rintro e w' ⟨rfl, rfl⟩
    go_wp2
    go_ret
    exact ⟨n, rfl, by rw [HE.out, HN.out], by rw [HE.out]; exact HS.out.sl.rd, Kp.refl _ _⟩
  · obtain ⟨i0, hi0, hi1, hi2⟩ := fndC_yes l xs 0 (by rw [HR.out]; exact hr)
    rw [HR.out, Nat.zero_add] at hi1
    subst hi1
    rw [HN.out] at hi0
    have HI0 : Hid (flt l (xs.take (i0 + 1)) = xs.take i0) := Lib.hid hi2
    have r0 : ¬ (i0 : Int) = -1 := by omega
    have w1 : IntKind.i64.wrap ((i0 : Int) + 1) = ((i0 + 1 : Nat) : Int) := by rw [IntWalk.i64_in _ (by omega)]; omega
    clear hi2 hr
    go_enter Try.func76, Try.ntmps76
    go_wp2_with fail
    refine HI.out.mono ?_
    rintro e w' ⟨rfl, rfl⟩
    go_wp2
    rw [show ((i0 : Int) == -1) = false by simp]
    go_loopw [5, 6, 7] (fun iv jv _ wr => ∃ (i j : Nat) (ys : List Int), i < j ∧ j ≤ n ∧ iv = .int .i64 i ∧ jv = .int .i64 j ∧ SlAt wr B g cap n ys ∧ ys.take i = flt l (xs.take j) ∧ (∀ k, j ≤ k → k < n → ys.getD k 0 = xs.getD k 0) ∧ Kp (fun b => b = g) W wr) (fun _ jv _ _ => n - (intOf jv).toNat)
    case atStart => exact ⟨i0, i0 + 1, xs, by omega, by omega, rfl, rfl, HS.out, HI0.out.symm, fun k _ _ => rfl, Kp.refl _ _⟩
    case round =>
      obtain ⟨i, j, ys, hij, hj, rfl, rfl, hs, ht, hrest, hk⟩ := hrel
      have HY := Lib.hid hs
      have HT := Lib.hid ht
      have HRS := Lib.hid hrest
      have HK := Lib.hid hk
      have i0' : (0 : Int) ≤ i := Int.natCast_nonneg _
      have j0' : (0 : Int) ≤ j := Int.natCast_nonneg _
      have i1' : (i : Int) < n := by omega
      clear ht hrest
      by_cases hlt : j < n
      · have j1' : (j : Int) < n := by omega
        have w2 : IntKind.i64.wrap ((j : Int) + 1) = ((j + 1 : Nat) : Int) := by rw [IntWalk.i64_in _ (by omega)]; omega
        have w3 : IntKind.i64.wrap ((i : Int) + 1) = ((i + 1 : Nat) : Int) := by rw [IntWalk.i64_in _ (by omega)]; omega
        have cs := hs.cell j hlt
        have ci := hs.cell i (by omega)
        have fi := hs.frozen i
        rw [HRS.out j (Nat.le_refl _) hlt] at cs
        have hsn := flt_snoc l xs j (by rw [HN.out]; exact hlt)
        obtain ⟨x, hx⟩ : ∃ x, xs.getD j 0 = x := ⟨_, rfl⟩
        rw [hx] at cs hsn
        have HSN := Lib.hid hsn
        obtain ⟨cb, vb⟩ := hb.out wr hk
        have HB := Lib.hid (oth_any bl v l x wr cb vb hl)
        clear hsn hx cb vb hs hk
        cases hc : l.contains x
        · rw [hc] at HB HSN
          have HS2 : Hid (flt l (xs.take (j + 1)) = flt l (xs.take j) ++ [x]) := Lib.hid (by have := HSN.out; simpa using this)
          clear hc
          go_wp2_with fail
          refine HB.out.mono ?_
          rintro e w' ⟨rfl, rfl⟩
          go_wp2
          go_roundw
          case rel =>
            refine ⟨i + 1, j + 1, ys.set i x, by omega, by omega, by go_num, by go_num, HY.out.store i x, ?_, fun k h1 h2 => ?_, HK.out.setCell (.inl rfl) _⟩
            · rw [HS2.out, ← HT.out, List.take_succ_eq_append_getElem (by rw [List.length_set, HY.out.1]; omega), List.take_set_of_le (Nat.le_refl _), List.getElem_set_self]
            · rw [List.getD_eq_getElem?_getD, List.getElem?_set_ne (by omega), ← List.getD_eq_getElem?_getD]
              exact HRS.out k (by omega) h2
          case measure => simp [intOf] <;> omega
        · rw [hc] at HB HSN
          have HS2 : Hid (flt l (xs.take (j + 1)) = flt l (xs.take j)) := Lib.hid (by have := HSN.out; simpa using this)
          clear hc
          go_wp2_with fail
          refine HB.out.mono ?_
          rintro e w' ⟨rfl, rfl⟩
          go_wp2
          go_roundw
          case rel => exact ⟨i, j + 1, ys, by omega, by omega, rfl, by go_num, HY.out, by rw [HS2.out]; exact HT.out, fun k h1 h2 => HRS.out k (by omega) h2, HK.out⟩
          case measure => simp [intOf] <;> omega
      · have e : j = n := by omega
        subst e
        have t1 : ¬ (j : Int) < j := by omega
        obtain ⟨Ad, had, q1⟩ := cut_from g j cap i (by omega) (by omega)
        obtain rfl : Ad = ⟨g, i, none⟩ := by
          rcases had with h | h
          · exact h
          · omega
        have q2 := cut_to g j cap i (by omega)
        obtain ⟨w5, hclr, hs5, hk5⟩ := run_clr_ints wr B g cap j i (cap - i) ys hs (by omega)
        have hclr0 := hclr 0
        have HE : Hid (flt l xs = ys.take i) := Lib.hid (by rw [HT.out, List.take_of_length_le (by rw [HN.out]; exact Nat.le_refl _)])
        have HL : Hid ((ys.take i).length = i) := Lib.hid (by rw [List.length_take, HY.out.1]; omega)
        have HRD : Hid (Rd w5 (.slice (some ⟨g, 0, none⟩) i cap) (ys.take i)) := Lib.hid (by
          have h := hs5.take i (by omega)
          rw [List.take_append_of_le_length (by rw [HL.out]; exact Nat.le_refl _), List.take_of_length_le (by rw [HL.out]; exact Nat.le_refl _)] at h
          exact h)
        have HKF := Lib.hid (HK.out.trans hk5)
        clear hs hk had hs5 hk5 hclr
        go_wp2
        go_ret
        exact ⟨i, rfl, by rw [HE.out]; exact HL.out, by rw [HE.out]; exact HRD.out, HKF.out⟩

set_option maxRecDepth 100000 in
set_option maxHeartbeats 1600000 in
theorem othersThan_any (n : Nat) (v : Value) (l : List Int) (W : World) (hv : Rd W v l) (hl : l.length ≤ 1000000) (n1 : 1 ≤ n) (n2 : n ≤ 1000) :
    Calls Try.prog 60 #[.int .i64 n, v] W fun e w' => ∃ A m cap, e = .returned (.slice A m cap) ∧ Rd w' (.slice A m cap) (others n l) ∧ Kp Nw W w' := by
  obtain ⟨w1, hw1⟩ : ∃ w1, w1 = W.alloc (.cells #[v] 25) := ⟨_, rfl⟩
  have k1 : Kp Nw W w1 := by rw [hw1]; exact Kp.al _ _
  have c1 : w1.cell? ⟨W.heap.size, 0, none⟩ = some v := by rw [hw1, cell_of_row _ _ 0 _ _ _ (heap_alloc_new W _)]; rfl
  have l1 : W.heap.size < w1.heap.size := by rw [hw1]; simp
  have HW := Lib.hid hw1
  have K1 := Lib.hid k1
  have C1 := Lib.hid c1
  have HV := Lib.hid hv
  obtain ⟨Av, cv, rfl, _⟩ := hv
  clear hw1 k1 c1
  go_enter Try.func60, Try.ntmps60
  go_wp2_with fail
  rw [← HW.out]
  refine (firstNumbers_any n w1 (by omega)).mono ?_
  rintro e w2 ⟨v2, rfl, hs, hk⟩
  obtain ⟨g, cap, rfl, hsa, hc1, hc2, hgB, _⟩ := hs.at_ (by rw [marks_length]; omega)
  rw [marks_length] at hsa hc1 ⊢
  have HDF := Lib.hid (delFunc_any w1.heap.size g cap n W.heap.size (marks 0 n) l (.slice Av l.length cv) w2 hsa hc1 n2 hl (Lib.hid (fun w' hk' => by
    have hk2 : Kp (fun b => b = g) w1 w' := (hk.mono (fun _ _ h => h.elim)).trans hk'
    refine ⟨(hk2.cell l1 (by show ¬ W.heap.size = g; omega)).trans C1.out, HV.out.nw (K1.out.after hk2 (fun i hi h => by have h9 : i = g := h; omega))⟩)))
  have HK := Lib.hid hk
  have GB : Hid (w1.heap.size ≤ g) := Lib.hid hgB
  clear hs hk hsa hc2
  go_wp2_with fail
  refine HDF.out.mono ?_
  rintro e w3 ⟨m, rfl, hm, hrd, hk3⟩
  have HRD := Lib.hid hrd
  have HK3 := Lib.hid ((K1.out.nw HK.out).after hk3 (fun i hi h => by have h9 : i = g := h; have := GB.out; omega))
  clear hm hrd hk3
  go_wp2
  go_ret
  exact ⟨some ⟨g, 0, none⟩, m, cap, rfl, HRD.out, HK3.out⟩

set_option maxRecDepth 100000 in
set_option maxHeartbeats 1600000 in
theorem iStepsFirstOut_yes (n L : Nat) (v : Value) (xs : List Int) (W : World) (hv : Rd W v xs) (hl : xs.length = L) (L1 : 1 ≤ L) (n1 : 1 ≤ n) (n2 : n ≤ 12) (hr : risB ((n : Int) - 1) xs = true) :
    Calls Try.prog 34 #[.int .i64 n, v] W (IntB W (firstK (grpF n xs) (perT n)).1 (firstK (grpF n xs) (perT n)).2) := by
  have hf := risB_few n xs hr
  have hLn : L ≤ n := by have := hf.le; omega
  have HF := Lib.hid hf
  have HL := Lib.hid hl
  have HOL : Hid ((others n xs).length = n - L) := Lib.hid (by rw [others_len n xs hf, hl])
  have HG := Lib.hid (isGroup_any (n : Int) v xs W hv (by omega))
  rw [decide_eq_true ⟨by omega, by omega, by omega, hr⟩] at HG
  have HOT := Lib.hid (othersThan_any n v xs W hv (by omega) n1 (by omega))
  obtain ⟨R, hR⟩ : ∃ R, firstK (grpF n xs) (perT n) = R := ⟨_, rfl⟩
  have HR := Lib.hid hR
  rw [hR]
  clear hf hr hR
  obtain ⟨A, c, rfl, _⟩ := hv
  rw [hl] at HG HOT ⊢
  clear hl
  go_enter Try.func34, Try.ntmps34
  go_wp2_with (first | ((with_reducible refine HG.out.mono ?_); rintro e w' ⟨rfl, rfl⟩))
  refine HOT.out.mono ?_
  rintro e w0 ⟨Ao, mo, co, rfl, hrd, hk0⟩
  have HST := Lib.hid (stepsSaving_any n L _ (others n xs) (n - L) w0 hrd HOL.out (by omega) n1 (by omega))
  obtain ⟨Ao', co', eo, _⟩ := hrd
  have HMO : mo = n - L := by
    injection eo with e1 e2 e3
    rw [e2, HOL.out]
  subst HMO
  have HK0 := Lib.hid hk0
  clear hk0 eo
  go_wp2_with fail
  refine HST.out.mono ?_
  rintro e w1 ⟨b, k, P, D, rfl, m1, hD, P1, P2, hdv, hper, hk1⟩
  have HDV := Lib.hid hdv
  have HK1 := Lib.hid (HK0.out.nw hk1)
  have HLE := Lib.hid (least0 b k P D _ w1 m1 hD P1 hper (by omega))
  clear m1 hD hdv hper hk1
  go_wp2_with fail
  refine HLE.out.mono ?_
  rintro e w2 ⟨r, bb, rfl, hn, hk2⟩
  have HE : Hid (R = (r, bb)) := Lib.hid (by
    rw [← HR.out]
    refine nxt_first _ _ P (perT n) r bb hn (stR_le n L P (by omega) HDV.out).2 (fun k _ => ?_)
    have := okT_others n xs HF.out k
    rw [HL.out] at this
    exact this.symm)
  have HK2 := Lib.hid (HK1.out.nw hk2)
  clear hn hk2
  go_wp2
  go_ret2
  rw [HE.out]
  exact ⟨rfl, HK2.out⟩
theorem iStepsFirstOut_all (p : Int) (v : Value) (xs : List Int) (W : World) (hv : Rd W v xs) (hl : xs.length ≤ 1048576) : Calls Try.prog 34 #[.int .i64 p, v] W (IntB W (vStepsFirstOut p xs).1 (vStepsFirstOut p xs).2) := by
  unfold vStepsFirstOut
  by_cases h : 1 ≤ p ∧ p ≤ 12 ∧ 0 < xs.length ∧ risB (p - 1) xs = true
  · rw [if_pos h]
    obtain ⟨n, rfl⟩ : ∃ n : Nat, p = n := ⟨p.toNat, by omega⟩
    rw [Int.toNat_natCast]
    exact iStepsFirstOut_yes n xs.length v xs W hv rfl (by omega) (by omega) (by omega) h.2.2.2
  · rw [if_neg h]
    have HG := Lib.hid (isGroup_any p v xs W hv (by omega))
    rw [decide_eq_false h] at HG
    clear h
    obtain ⟨A, c, rfl, _⟩ := hv
    go_enter Try.func34, Try.ntmps34
    go_wp2_with (first | ((with_reducible refine HG.out.mono ?_); rintro e w' ⟨rfl, rfl⟩))
    go_ret2
    exact ⟨rfl, Kp.refl _ _⟩
end Go.Proofs.Ytlkmknigfdgnoaa
