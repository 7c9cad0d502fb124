/- slices.Compare, slices.SortFunc on a row of lists, and all orders, in the program; no condition. -/
import Derived.Test.YtpdnliljpjoejaaShelf
import Derived.Test.YtpdnliljpjoejaaIAllM
import Derived.Test.YtpdnliljpjoejaaPerI
import Derived.Test.YtpdnliljpjoejaaOrder
namespace Go.Proofs.Ytpdnliljpjoejaa
open Go.ChangeShapes Go.WideShapes Go.ChangeAt Go.RowKit

theorem cmpInt_any (x y : Int) (w : World) : Calls Try.prog 31 #[.int .i64 x, .int .i64 y] w fun e w' => e = .returned (.int .i64 (if x < y then -1 else if y < x then 1 else 0)) ∧ w = w' := by
  by_cases h1 : x < y
  · rw [if_pos h1]
    go_enter Try.func31, Try.ntmps31
    go_wp2
    go_ret
    exact ⟨rfl, rfl⟩
  · rw [if_neg h1]
    by_cases h2 : y < x
    · rw [if_pos h2]
      go_enter Try.func31, Try.ntmps31
      go_wp2
      go_ret
      exact ⟨rfl, rfl⟩
    · rw [if_neg h2]
      go_enter Try.func31, Try.ntmps31
      go_wp2
      go_ret
      exact ⟨rfl, rfl⟩
set_option maxRecDepth 100000 in
set_option maxHeartbeats 1600000 in
theorem compare_any (A1 A2 : Option Addr) (n c1 c2 : Nat) (xs ys : List Int) (W : World) (hx : Rd W (.slice A1 n c1) xs) (hxl : xs.length = n) (hy : Rd W (.slice A2 n c2) ys) (hyl : ys.length = n) (hl : n ≤ 1000) :
    Calls Try.prog 19 #[.slice A1 n c1, .slice A2 n c2] W fun e w' => e = .returned (.int .i64 (cmN xs ys n 0)) ∧ W = w' := by
  obtain ⟨A', c', hA', hc1⟩ := hx
  rw [hxl] at hA' hc1
  injection hA' with e1 _ e3
  subst e1
  subst e3
  obtain ⟨A', c', hA', hc2⟩ := hy
  rw [hyl] at hA' hc2
  injection hA' with e1 _ e3
  subst e1
  subst e3
  have HC1 := Lib.hid hc1
  have HC2 := Lib.hid hc2
  obtain ⟨R, hR⟩ : ∃ R, cmN xs ys n 0 = R := ⟨_, rfl⟩
  rw [hR]
  have HR := Lib.hid hR
  have n0 : (0 : Int) ≤ n := Int.natCast_nonneg _
  clear hc1 hc2 hR hxl hyl
  go_enter Try.func19, Try.ntmps19
  go_wp2
  go_loop [5, 6, 7, 8, 11] (fun _ _ _ _ i => ∃ (j k : Nat), j + k = n ∧ i = .int .i64 j ∧ cmN xs ys k j = R) (fun _ _ _ _ i => n - (intOf i).toNat)
  case atStart => exact ⟨0, n, by omega, rfl, HR.out⟩
  case round =>
    obtain ⟨j, k, hjk, rfl, hcm⟩ := hrel
    have j0 : (0 : Int) ≤ j := Int.natCast_nonneg _
    by_cases hlt : j < n
    · have j1 : (j : Int) < n := by omega
      have j2 : ¬ (n : Int) ≤ (j : Int) := by omega
      obtain ⟨q, rfl⟩ : ∃ q, k = q + 1 := ⟨k - 1, by omega⟩
      obtain ⟨g1, o1, rfl, d1⟩ := HC1.out j hlt
      obtain ⟨g2, o2, rfl, d2⟩ := HC2.out j hlt
      rw [cmN] at hcm
      obtain ⟨x, hxv⟩ : ∃ x, xs.getD j 0 = x := ⟨_, rfl⟩
      obtain ⟨y, hyv⟩ : ∃ y, ys.getD j 0 = y := ⟨_, rfl⟩
      rw [hxv] at d1 hcm
      rw [hyv] at d2 hcm
      have HCM := Lib.hid hcm
      clear hcm hxv hyv
      by_cases h1 : x < y
      · have HV : Hid ((if x < y then (-1 : Int) else if y < x then 1 else 0) = -1) := Lib.hid (if_pos h1)
        have HF : Hid (R = -1) := Lib.hid (by rw [← HCM.out, if_pos h1])
        clear h1
        go_wp2_with fail
        refine (cmpInt_any x y W).mono ?_
        rw [HV.out]
        rintro e w' ⟨rfl, rfl⟩
        go_wp2
        go_ret
        exact ⟨by rw [HF.out]; rfl, rfl⟩
      · by_cases h2 : y < x
        · have HV : Hid ((if x < y then (-1 : Int) else if y < x then 1 else 0) = 1) := Lib.hid (by rw [if_neg h1, if_pos h2])
          have HF : Hid (R = 1) := Lib.hid (by rw [← HCM.out, if_neg h1, if_pos h2])
          clear h1 h2
          go_wp2_with fail
          refine (cmpInt_any x y W).mono ?_
          rw [HV.out]
          rintro e w' ⟨rfl, rfl⟩
          go_wp2
          go_ret
          exact ⟨by rw [HF.out]; rfl, rfl⟩
        · have HV : Hid ((if x < y then (-1 : Int) else if y < x then 1 else 0) = 0) := Lib.hid (by rw [if_neg h1, if_neg h2])
          have HF : Hid (cmN xs ys q (j + 1) = R) := Lib.hid (by rw [← HCM.out, if_neg h1, if_neg h2])
          clear h1 h2
          go_wp2_with fail
          refine (cmpInt_any x y W).mono ?_
          rw [HV.out]
          rintro e w' ⟨rfl, rfl⟩
          go_wp2
          go_round
          case rel => exact ⟨j + 1, q, by omega, by go_num, HF.out⟩
          case measure => simp [intOf] <;> omega
    · have ej : j = n := by omega
      have ek : k = 0 := by omega
      subst ej
      subst ek
      have HF : Hid (R = 0) := Lib.hid (by rw [← hcm, cmN])
      have t1 : ¬ (j : Int) < j := by omega
      clear hcm
      go_wp2
      go_ret
      exact ⟨by rw [HF.out]; rfl, rfl⟩

/-- a row of lists of so many -/
def Rw (w : World) (B g P : Nat) (vs : List Value) : Prop := vs.length = P ∧ w.ownsRow B 30 1 (.slice (some ⟨g, 0, none⟩) P P) P vs
theorem Rw.cell {w : World} {B g P : Nat} {vs : List Value} (h : Rw w B g P vs) (j : Nat) (hj : j < P) : w.cell? ⟨g, j, none⟩ = some (vs.getD j nilS) := by
  have hl : j < vs.length := by rw [h.1]; exact hj
  rw [World.ownsRow.cellAt h.2 j (by omega)]
  simp [hl]
theorem Rw.frozen {w : World} {B g P : Nat} {vs : List Value} (h : Rw w B g P vs) (j : Nat) : w.frozen? ⟨g, j, none⟩ = false := World.ownsRow.frozenAt h.2 j
theorem Rw.store {w : World} {B g P : Nat} {vs : List Value} (h : Rw w B g P vs) (j : Nat) (u : Value) : Rw (w.setCell ⟨g, j, none⟩ u) B g P (vs.set j u) :=
  ⟨by rw [List.length_set]; exact h.1, (World.ownsRow.stored h.2 j u).1⟩
theorem Rw.block {w : World} {B g P : Nat} {vs : List Value} (h : Rw w B g P vs) : B ≤ g ∧ P ≤ maxLen ∧ ∃ cur, w.heap[g]? = some (.cells cur 30 (0, 0)) ∧ cur.size = P ∧ cur.toList = vs := by
  rcases h.2.2 with ⟨h0, _⟩ | ⟨g', cap, cur, he, hB, hb, h1, h2, h3, h4⟩
  · cases h0
  injection he with e1 _ e3
  injection e1 with e1
  injection e1 with e1 _ _
  subst e1
  subst e3
  rw [Nat.mul_one] at h3 h4
  refine ⟨hB, h2, cur, hb, h3, ?_⟩
  rw [← h4, List.take_of_length_le (by rw [Array.length_toList]; omega)]
theorem Rw.kq {w w' : World} {B g P : Nat} {vs : List Value} {S : Nat → Prop} (h : Rw w B g P vs) (hk : Kp S w w') (hs : ¬ S g) : Rw w' B g P vs := by
  refine ⟨h.1, h.2.1, ?_⟩
  rcases h.2.2 with hn | ⟨g', cap', cur, he, hb, hgg, rest⟩
  · exact .inl hn
  · have e : g' = g := by
      injection he with h1 _ _
      injection h1 with h1
      injection h1 with h1 _ _
      exact h1.symm
    exact .inr ⟨g', cap', cur, he, hb, (hk.block g' (Array.getElem?_eq_some_iff.1 hgg).1 (by rw [e]; exact hs)).trans hgg, rest⟩
/-- the lists of a row: each has a row of its own -/
structure Each (w : World) (B E g n : Nat) (ps : List (Value × List Int)) : Prop where
  own : ∀ p ∈ ps, Sl w B p.1 p.2 ∧ p.2.length = n ∧ ∀ b, p.1.ownBlock = some b → b < E ∧ b ≠ g
  dis : ps.Pairwise (fun p q => ∀ b, p.1.ownBlock = some b → q.1.ownBlock ≠ some b)
theorem Each.kq {w w' : World} {B E g n : Nat} {ps : List (Value × List Int)} {S : Nat → Prop} (h : Each w B E g n ps) (hk : Kp S w w') (hs : ∀ b, B ≤ b → b ≠ g → ¬ S b) : Each w' B E g n ps :=
  ⟨fun p hp => ⟨(h.own p hp).1.kp hk (fun b hb => hs b (((h.own p hp).1.own_ge b hb).1) ((h.own p hp).2.2 b hb).2), (h.own p hp).2⟩, h.dis⟩
theorem each_perm {w : World} {B E g n : Nat} {ps qs : List (Value × List Int)} (h : Each w B E g n ps) (hp : qs.Perm ps) : Each w B E g n qs :=
  ⟨fun p hm => h.own p (hp.mem_iff.1 hm), (hp.pairwise_iff (fun hab c hc he => hab c he hc)).2 h.dis⟩
theorem each_ss {w : World} {B E g n P : Nat} {ps : List (Value × List Int)} (h : Each w B E g n ps) (hr : Rw w B g P (ps.map (·.1))) (hg : g < E) : SS w B E (.slice (some ⟨g, 0, none⟩) P P) (ps.map (·.2)) := by
  have hl : ps.length = P := by have := hr.1; rwa [List.length_map] at this
  have hget : ∀ j, (hj : j < ps.length) → (ps.map (·.1)).getD j nilS = (ps[j]).1 ∧ (ps.map (·.2)).getD j [] = (ps[j]).2 := fun j hj => by simp [List.getD, hj]
  refine ⟨ps.map (·.1), by simp, by rw [hr.1]; exact hr.2, fun b hb => ?_, fun j hj => ?_, fun i j hij hj b hb => ?_⟩
  · have e : b = g := by simp [Value.ownBlock] at hb; omega
    omega
  · have hj' : j < ps.length := by simpa using hj
    obtain ⟨e1, e2⟩ := hget j hj'
    rw [e1, e2]
    obtain ⟨o1, _, o3⟩ := h.own _ (List.getElem_mem hj')
    refine ⟨o1, fun b hb => ⟨(o3 b hb).1, fun e => ?_⟩⟩
    have e9 : b = g := by simp [Value.ownBlock] at e; omega
    exact (o3 b hb).2 e9
  · have hj' : j < ps.length := by simpa using hj
    obtain ⟨e1, _⟩ := hget i (by omega)
    obtain ⟨e2, _⟩ := hget j hj'
    rw [e1] at hb
    rw [e2]
    exact List.pairwise_iff_getElem.1 h.dis i j (by omega) hj' hij b hb

theorem kp_sortW {α : Type} [Inhabited α] (enc : α → Value) (w : World) (g off m : Nat) (dk : Array α) (os : Array Obj) : Kp (fun b => b = g) w (sortWorld enc w g off m dk os) := by
  refine ⟨rfl, rfl, rfl, by simp [sortWorld, Go.Sort.putRow, Go.Sort.mapBlock, Go.Sort.ahead], fun k hk hne => ?_⟩
  unfold sortWorld
  rw [Go.Sort.heap_grow_old _ _ (by simpa [Go.Sort.putRow, Go.Sort.mapBlock, Go.Sort.ahead] using hk)]
  have h9 : g ≠ k := fun e => hne e.symm
  simp [Go.Sort.putRow, Go.Sort.mapBlock, Go.Sort.ahead, Array.getElem?_modify, h9]
theorem heap_sortW {α : Type} [Inhabited α] (enc : α → Value) (w : World) (g m : Nat) (d : Array α) (os : Array Obj) (cur : Array Value) (t : TypeId) (fr : Nat × Nat) (hb : w.heap[g]? = some (.cells cur t fr)) :
    (sortWorld enc w g 0 m d os).heap[g]? = some (.cells (Go.Sort.putCells enc 0 d cur) t fr) := by
  have hg : g < w.heap.size := (Array.getElem?_eq_some_iff.1 hb).1
  unfold sortWorld
  rw [Go.Sort.heap_grow_old _ _ (by simpa [Go.Sort.putRow, Go.Sort.mapBlock, Go.Sort.ahead] using hg)]
  simp [Go.Sort.putRow, Go.Sort.mapBlock, Go.Sort.ahead, Array.getElem?_modify, hb, Go.Sort.onCells]
theorem put_all {α : Type} [Inhabited α] (enc : α → Value) (d : Array α) (cur : Array Value) (h : cur.size = d.size) : (Go.Sort.putCells enc 0 d cur).toList = d.toList.map enc := by
  apply List.ext_getElem?
  intro j
  rw [Array.getElem?_toList]
  by_cases hj : j < d.size
  · simp [Go.Sort.putCells, hj, show j < cur.size by omega]
  · simp [Go.Sort.putCells, hj, show ¬ j < cur.size by omega]

/-- a list with the value that reads as it -/
abbrev Pr (w : World) (B g n : Nat) : Type := {p : Value × List Int // Sl w B p.1 p.2 ∧ p.2.length = n ∧ ∀ b, p.1.ownBlock = some b → b ≠ g}

set_option maxRecDepth 100000 in
set_option maxHeartbeats 3200000 in
theorem sortRow_any (W : World) (B E g n P : Nat) (ps : List (Value × List Int)) (hn : n ≤ 1000) (hP : 1 ≤ P) (hP2 : P ≤ 1000) (hpl : ps.length = P) (he : Each W B E g n ps) (hr : Rw W B g P (ps.map (·.1))) :
    Calls Try.prog 18 #[.slice (some ⟨g, 0, none⟩) P P, .func (.func 19) #[] #[]] W fun e w' => e = .returned (.tuple #[]) ∧
      ∃ qs : List (Value × List Int), qs.Perm ps ∧ (qs.map (·.2)).Pairwise (fun a b => bef b a = false) ∧ Each w' B E g n qs ∧ Rw w' B g P (qs.map (·.1)) ∧ Kp (fun b => b = g) W w' := by
  have hmem : ∀ p ∈ ps, Sl W B p.1 p.2 ∧ p.2.length = n ∧ ∀ b, p.1.ownBlock = some b → b ≠ g := fun p hp => ⟨(he.own p hp).1, (he.own p hp).2.1, fun b hb => ((he.own p hp).2.2 b hb).2⟩
  obtain ⟨p0, hp0⟩ : ∃ p0, p0 ∈ ps := by
    cases ps with
    | nil => simp at hpl; omega
    | cons p _ => exact ⟨p, by simp⟩
  letI : Inhabited (Pr W B g n) := ⟨⟨p0, hmem p0 hp0⟩⟩
  obtain ⟨ds, hds⟩ : ∃ ds : List (Pr W B g n), ds.map (·.1) = ps := ⟨ps.attach.map (fun p => ⟨p.1, hmem p.1 p.2⟩), by rw [List.map_map]; exact List.attach_map_subtype_val ps⟩
  have hdl : ds.length = P := by rw [← hpl, ← hds, List.length_map]
  obtain ⟨hB, hPm, cur, hb, hcs, hcl⟩ := hr.block
  have hgl : g < W.heap.size := (Array.getElem?_eq_some_iff.1 hb).1
  let enc : Pr W B g n → Value := fun p => p.1.1
  let cf : Pr W B g n → Pr W B g n → Int := fun p q => cmN p.1.2 q.1.2 n 0
  have hlt : ∀ p q : Pr W B g n, ltOf cf p q = decide (cmN p.1.2 q.1.2 n 0 < 0) := fun _ _ => rfl
  have hO : Go.Sort.SWO (ltOf cf) := ⟨fun x => by rw [hlt, cmN_self]; rfl,
    fun x y z h1 h2 => by
      rw [hlt, decide_eq_true_eq] at *
      exact cmN_trans _ _ _ _ _ h1 h2,
    fun x y z h1 h2 => by
      rw [hlt, decide_eq_false_iff_not] at *
      exact cmN_ntrans _ _ _ _ _ h1 h2⟩
  have h1 : OneCell enc := fun p => by
    rcases p.2.1.form with ⟨h, _⟩ | ⟨b, cap, h, _⟩ <;> (show (p.1.1).oneCell' = true; rw [h]; rfl)
  have hcmp : CmpLays1 Try.prog 19 #[] enc cf g 0 ds.toArray.size W := fun m os dk _ x y => by
    have hk := kp_sortW enc W g 0 m dk os
    have hx := (x.2.1.kp hk (fun b hb => x.2.2.2 b hb)).rd
    have hy := (y.2.1.kp hk (fun b hb => y.2.2.2 b hb)).rd
    obtain ⟨A1, c1, e1⟩ := x.2.1.val x.2.2.1
    obtain ⟨A2, c2, e2⟩ := y.2.1.val y.2.2.1
    rw [e1] at hx
    rw [e2] at hy
    have h := compare_any A1 A2 n c1 c2 _ _ _ hx x.2.2.1 hy y.2.2.1 hn
    show Calls Try.prog 19 (#[x.1.1, y.1.1] ++ #[]) _ _
    rw [e1, e2]
    exact h.mono fun e w' ⟨he, hw⟩ => ⟨he, 0, #[], by rw [← hw]; exact (Go.Sort.grow_empty _).symm⟩
  have hH : Go.Sort.Holds enc W g 0 ds.toArray := by
    intro j hj
    have hj' : j < ds.length := by simpa using hj
    refine ⟨?_, by rw [Nat.zero_add]; exact hr.frozen j⟩
    rw [Nat.zero_add, hr.cell j (by omega), ← hds]
    have e : (ds.toArray)[j]! = ds[j] := by simp [hj']
    rw [e]
    simp [List.getD, hj', enc]
  have hc := Try.slices_SortFunc enc h1 cf hO 19 #[] g 0 P ds.toArray W (enters_of Try.func19 (by kernel_rfl) rfl) hcmp hH hgl (by simp; omega)
  have hsz : ds.toArray.size = P := by simpa using hdl
  rw [hsz] at hc
  refine hc.mono ?_
  rintro e w' ⟨rfl, d', m, os, hp, hs, rfl⟩
  have hk := kp_sortW enc W g 0 m d' os
  have hd's : d'.size = P := by rw [hp.1, hsz]
  have hpm : d'.toList.Perm ds := by
    have h9 := hp.2.2
    rw [Array.extract_eq_self_of_le (by omega), Array.extract_eq_self_of_le (by omega)] at h9
    simpa using h9
  refine ⟨rfl, d'.toList.map (·.1), ?_, ?_, ?_, ?_, hk⟩
  · rw [← hds]
    exact hpm.map _
  · rw [List.pairwise_iff_getElem]
    intro i j hi hj hij
    have hi' : i < d'.size := by simpa using hi
    have hj' : j < d'.size := by simpa using hj
    have h9 := hs i j (Nat.zero_le _) hij (by omega)
    rw [hlt, cmN_bef] at h9
    have ei : d'[i]! = d'[i] := by simp [hi']
    have ej : d'[j]! = d'[j] := by simp [hj']
    rw [ei, ej] at h9
    have hlj : (d'[j]).1.2.length = n := (d'[j]).2.2.1
    show bef ((d'.toList.map (·.1)).map (·.2))[j] ((d'.toList.map (·.1)).map (·.2))[i] = false
    simp only [List.getElem_map, Array.getElem_toList]
    unfold bef
    rw [hlj]
    exact h9
  · have hE := each_perm he (show (d'.toList.map (·.1)).Perm ps by rw [← hds]; exact hpm.map _)
    exact hE.kq hk (fun b _ hne e => hne e)
  · have hcell := put_all enc d' cur (by rw [hcs, hd's])
    refine ⟨by simp [hd's], by simp [hd's], .inr ⟨g, P, _, rfl, hB, heap_sortW enc W g m d' os cur _ _ hb, Nat.le_refl _, hPm, by simp [Go.Sort.putCells, hcs], ?_⟩⟩
    rw [Nat.mul_one, hcell, List.take_of_length_le (by simp [hd's])]
    simp [enc]

set_option maxRecDepth 1000000 in
set_option maxHeartbeats 6400000 in
theorem iAllOrders_yes (n : Nat) (W : World) (n1 : 1 ≤ n) (n2 : n ≤ 5) :
    Calls Try.prog 5 #[.int .i64 n] W (ListSB W (allK n (perT n)) true) := by
  obtain ⟨i0, hi0, hz0, hz1, hz2⟩ := info_parts listsInfo
  obtain ⟨R, hR⟩ : ∃ R, allK n (perT n) = R := ⟨_, rfl⟩
  have HALL : Hid (∀ L : List (List Int), L.Perm (outsK n (perT n)) → L.Pairwise (fun a b => bef b a = false) → L = R) := Lib.hid (fun L h1 h2 => by rw [← hR]; exact all_is n n2 L h1 h2)
  rw [hR]
  obtain ⟨P, hP⟩ : ∃ P, perT n = P := ⟨_, rfl⟩
  have hP1 : 1 ≤ P := by rw [← hP]; exact perT_pos n
  have hP2 : P ≤ 60 := by rw [← hP]; exact perT5 n (by omega)
  have HPP := Lib.hid hP
  rw [hP] at HALL
  have n0 : (0 : Int) ≤ n := Int.natCast_nonneg _
  have n1' : (1 : Int) ≤ n := by omega
  have n2' : (n : Int) ≤ 5 := by omega
  clear hR hP
  go_enter Try.func5, Try.ntmps5
  go_wp2_with (first | ((with_reducible refine (within_yes (n : Int) 1 5 _ n1' n2').mono ?_); rintro e w' ⟨rfl, rfl⟩))
  refine (periodOf_any n W (by omega) (by omega)).mono ?_
  rw [HPP.out]
  rintro e w1 ⟨rfl, hk1⟩
  have HK1 := Lib.hid hk1
  clear hk1
  go_wp2_with (first | (at_make; refine wpList_make_full _ rfl _ _ 22 rfl w1.heap.size 30 i0 nilS 1 Try.underlying22 hi0 hz0 hz1 _ _ _ _ P rfl rfl rfl rfl (by rw [hz2]; omega) (by unfold maxLen; omega) (Nat.le_refl _) ?_))
  intro w2 hown hgrow
  have HK2 := Lib.hid (HK1.out.nw ((Kp.refl Nw w1).grown hgrow (fun g hg => by cases hg)))
  obtain ⟨g, hg⟩ : ∃ g, g = w1.heap.size := ⟨_, rfl⟩
  have HGW : Hid (W.heap.size ≤ g) := Lib.hid (by rw [hg]; exact HK1.out.size)
  have hrow : Rw w2 g g P (List.replicate P nilS) := ⟨by simp, by
    have h9 : w2.ownsRow w1.heap.size 30 1 (.slice (some ⟨w1.heap.size, 0, none⟩) P P) P (madeCells #[nilS] P).toList := hown
    rw [toList_madeCells_one] at h9
    rw [hg]
    exact h9⟩
  have HROW := Lib.hid hrow
  have HG2 : Hid (g < w2.heap.size) := Lib.hid (World.block_lt_of_cell? _ _ (hrow.cell 0 (by omega)))
  rw [← hg]
  clear hown hgrow hg hrow
  go_wp2
  go_loopw [14] (fun x wq => ∃ (j : Nat) (ps : List (Value × List Int)) (wr : World), j ≤ P ∧ ps.length = j ∧ x = .int .i64 j ∧ wr = wq ∧ ps.map (·.2) = outsK n j ∧ Each wr w2.heap.size wr.heap.size g n ps ∧ Rw wr g g P (ps.map (·.1) ++ List.replicate (P - j) nilS) ∧ Kp (fun b => b = g) w2 wr) (fun x _ => P - (intOf x).toNat)
  case atStart => exact ⟨0, [], _, Nat.zero_le _, rfl, rfl, rfl, rfl, ⟨fun p hp => (by cases hp), List.Pairwise.nil⟩, HROW.out, Kp.refl _ _⟩
  case round =>
    obtain ⟨j, ps, wr, hj, hpl, rfl, rfl, hps, hea, hrw, hk⟩ := hrel
    have HPS := Lib.hid hps
    have HEA := Lib.hid hea
    have HRW := Lib.hid hrw
    have HK := Lib.hid hk
    have HPL := Lib.hid hpl
    have j0 : (0 : Int) ≤ j := Int.natCast_nonneg _
    clear hpl hps hea
    by_cases hlt : j < P
    · have j1 : (j : Int) < P := by omega
      have wj : IntKind.i64.wrap ((j : Int) + 1) = (j : Int) + 1 := IntWalk.i64_in _ (by omega)
      have cs := hrw.cell j hlt
      obtain ⟨u, hu⟩ : ∃ u, (ps.map (·.1) ++ List.replicate (P - j) nilS).getD j nilS = u := ⟨_, rfl⟩
      rw [hu] at cs
      have CS := Lib.hid cs
      have HFZ := Lib.hid (hrw.frozen j)
      have HOL : Hid ((outs ((j : Int) + 1) n (marks 0 n)).length = n) := Lib.hid (outs_length _ _ _)
      have HOS : Hid ((ordP ((j : Int) + 1) (marks 0 n)).map (·.2) = outs ((j : Int) + 1) n (marks 0 n)) := Lib.hid (by rw [ordP_snd, marks_length])
      have HPN : Hid ((ordP ((j : Int) + 1) (marks 0 n)).length = n) := Lib.hid (by rw [ordP_length, marks_length])
      have hgr := World.block_lt_of_cell? _ _ cs
      have HGR : Hid (g < wr.heap.size) := Lib.hid hgr
      clear hrw hk cs hu hgr
      go_wp2_with fail
      refine (orderOfAll_any n ((j : Int) + 1) wr ⟨by omega, by omega, by omega, by omega⟩).mono ?_
      rintro e w3 ⟨G, rfl, hPs, hk3, hG⟩
      have HPS3 := Lib.hid hPs
      have HK3 := Lib.hid hk3
      clear hPs hk3 hG
      go_wp2_with fail
      refine (numbersOf_any ⟨G, 0, none⟩ n n _ w3 HPS3.out.rdp HPN.out (by omega)).mono ?_
      rw [HOS.out]
      rintro e w4 ⟨v4, rfl, hs4, hk4⟩
      obtain ⟨A4, c4, rfl⟩ := hs4.val HOL.out
      have HS4 := Lib.hid hs4
      have HK4 := Lib.hid (HK3.out.nw hk4)
      have cs := keepc HK4.out CS.out (fun h => h)
      have fs := keepf HK4.out HGR.out HFZ.out (fun h => h)
      clear hs4 hk4
      go_wp2
      obtain ⟨w5, hw5⟩ : ∃ w5, w5 = w4.setCell ⟨g, j, none⟩ (Value.slice A4 n c4) := ⟨_, rfl⟩
      have k5 : Kp (fun b => b = g) w4 w5 := by rw [hw5]; exact (Kp.refl (fun b => b = g) w4).setCell (p := ⟨g, j, none⟩) (.inl rfl) (Value.slice A4 n c4)
      have hz34 : wr.heap.size ≤ w3.heap.size := HK3.out.size
      have HB5 : Hid (∀ b, (Value.slice A4 n c4).ownBlock = some b → w3.heap.size ≤ b ∧ b < w4.heap.size) := Lib.hid (fun b hb => HS4.out.own_ge b hb)
      have hsz5 : w5.heap.size = w4.heap.size := by rw [hw5]; simp [World.setCell]
      have HE5 : Hid (Each w5 w2.heap.size w5.heap.size g n (ps ++ [((Value.slice A4 n c4), outs ((j : Int) + 1) n (marks 0 n))])) := Lib.hid (by
        have hE := (HEA.out.kq HK4.out (fun _ _ _ h => h)).kq k5 (fun b _ hne e => hne e)
        refine ⟨fun p hp => ?_, List.pairwise_append.2 ⟨hE.dis, List.pairwise_singleton _ _, fun p hp q hq b hb => ?_⟩⟩
        · rcases List.mem_append.1 hp with hp | hp
          · obtain ⟨a1, a2, a3⟩ := hE.own p hp
            exact ⟨a1, a2, fun b hb => ⟨by have := (a3 b hb).1; have := HK4.out.size; omega, (a3 b hb).2⟩⟩
          · rw [List.mem_singleton] at hp
            subst hp
            refine ⟨(HS4.out.kp k5 (fun b hb e => ?_)).from ?_, HOL.out, fun b hb => ⟨?_, ?_⟩⟩
            · have := (HB5.out b hb).1; have := HGR.out; omega
            · have := HK.out.size; omega
            · have := (HB5.out b hb).2; omega
            · have := (HB5.out b hb).1; have := HGR.out; omega
        · rw [List.mem_singleton] at hq
          subst hq
          intro hb2
          have := ((hE.own p hp).1.own_ge b hb)
          have h8 := ((HEA.out.own p hp).2.2 b hb).1
          have h9 := (HB5.out b hb2).1
          omega)
      have HR5 : Hid (Rw w5 g g P ((ps ++ [((Value.slice A4 n c4), outs ((j : Int) + 1) n (marks 0 n))]).map (·.1) ++ List.replicate (P - (j + 1)) nilS)) := Lib.hid (by
        have h9 := (HRW.out.kq HK4.out (fun h => h)).store j (Value.slice A4 n c4)
        rw [← hw5] at h9
        have e : (ps.map (·.1) ++ List.replicate (P - j) nilS).set j (Value.slice A4 n c4) = (ps ++ [((Value.slice A4 n c4), outs ((j : Int) + 1) n (marks 0 n))]).map (·.1) ++ List.replicate (P - (j + 1)) nilS := by
          rw [List.set_append_right _ _ (by rw [List.length_map, HPL.out]; exact Nat.le_refl _), List.length_map, HPL.out, Nat.sub_self, show P - j = (P - (j + 1)) + 1 by omega, List.replicate_succ, List.set_cons_zero, List.map_append, List.append_assoc]
          rfl
        rw [e] at h9
        exact h9)
      have HK5 := Lib.hid ((HK.out.nw HK4.out).trans k5)
      have HP5 : Hid ((ps ++ [((Value.slice A4 n c4), outs ((j : Int) + 1) n (marks 0 n))]).map (·.2) = outsK n (j + 1)) := Lib.hid (by rw [List.map_append, HPS.out, outsK_succ]; rfl)
      have HL5 : Hid ((ps ++ [((Value.slice A4 n c4), outs ((j : Int) + 1) n (marks 0 n))]).length = j + 1) := Lib.hid (by rw [List.length_append, HPL.out]; rfl)
      rw [← hw5]
      clear hw5 k5 cs fs hsz5
      go_roundw
      case rel => exact ⟨j + 1, _, _, by omega, HL5.out, by go_num, rfl, HP5.out, HE5.out, HR5.out, HK5.out⟩
      case measure => simp [intOf] <;> omega
    · have ej : j = P := by omega
      subst ej
      have t1 : ¬ (j : Int) < j := by omega
      have HRW2 : Hid (Rw wr w2.heap.size g j (ps.map (·.1)) ∨ Rw wr g g j (ps.map (·.1))) := Lib.hid (.inr (by rw [Nat.sub_self, List.replicate_zero, List.append_nil] at hrw; exact hrw))
      have HEA2 : Hid (Each wr g wr.heap.size g n ps) := Lib.hid ⟨fun p hp => ⟨(HEA.out.own p hp).1.from (by have := HG2.out; omega), (HEA.out.own p hp).2⟩, HEA.out.dis⟩
      have HGR : Hid (g < wr.heap.size) := Lib.hid (Nat.lt_of_lt_of_le HG2.out hk.size)
      have HRW3 : Hid (Rw wr g g j (ps.map (·.1))) := Lib.hid (by rw [Nat.sub_self, List.replicate_zero, List.append_nil] at hrw; exact hrw)
      clear hrw hk
      go_wp2_with fail
      refine (sortRow_any wr g wr.heap.size g n j ps (by omega) hP1 (by omega) HPL.out HEA2.out HRW3.out).mono ?_
      rintro e w3 ⟨rfl, qs, hperm, hsrt, hea, hrw, hk3⟩
      have hL := HALL.out (qs.map (·.2)) (by
        have h9 := hperm.map (·.2)
        rw [HPS.out] at h9
        exact h9) hsrt
      have hss := each_ss hea hrw HGR.out
      rw [hL] at hss
      have HSS := Lib.hid (hss.from HGW.out hk3.size)
      have HKF := Lib.hid ((HK2.out.after HK.out (S := Nw) (fun b hb e => by have h9 : b = g := e; have := HGW.out; omega)).after hk3 (fun b hb e => by have h9 : b = g := e; have := HGW.out; omega))
      clear hperm hsrt hea hrw hk3 hL hss
      go_wp2
      go_ret2
      exact ⟨_, rfl, HSS.out, HKF.out⟩
theorem iAllOrders_any (p : Int) (W : World) : Calls Try.prog 5 #[.int .i64 p] W (ListSB W (vAll p).1 (vAll p).2) := by
  unfold vAll
  by_cases h : 1 ≤ p ∧ p ≤ 5
  · rw [if_pos h]
    obtain ⟨n, rfl⟩ : ∃ n : Nat, p = n := ⟨p.toNat, by omega⟩
    exact iAllOrders_yes n W (by omega) (by omega)
  · rw [if_neg h]
    have h' : p < 1 ∨ 5 < p := by omega
    clear h
    go_enter Try.func5, Try.ntmps5
    go_wp2_with (first | ((with_reducible refine (within_no p _ _ _ h').mono ?_); rintro e w' ⟨rfl, rfl⟩))
    go_ret2
    exact ⟨_, rfl, SS.nil _ _ _, Kp.refl _ _⟩
end Go.Proofs.Ytpdnliljpjoejaa
