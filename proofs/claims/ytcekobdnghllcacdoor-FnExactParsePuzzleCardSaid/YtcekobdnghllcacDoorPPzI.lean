/- The program's reading of a text of a puzzle (ParsePuzzle): exactly the texts of puzzles are read, all others fail; in a world that holds the library's tables. -/
import Derived.Test.YtcekobdnghllcacDoorPPzP
import Derived.Test.YtcekobdnghllcacDoorNums
import Derived.Test.YtcekobdnghllcacDoorMIn
import Derived.Test.YtcekobdnghllcacDoorMCl
import Derived.Test.YtcekobdnghllcacDoorPuzB
import Derived.Defers
import Derived.Recover
import Derived.Deep.RegionLaw
namespace Go.Proofs.YtcekobdnghllcacDoor
open Go.ChangeShapes Go.WideShapes Go.ChangeAt Go.RowKit

/-- a numeral up to ten -/
def ok9 (p : List UInt8) : Bool := canon p && decide (val p ≤ 10)
theorem ok9_iff (p : List UInt8) : ok9 p = true ↔ canon p = true ∧ val p ≤ 10 := by
  unfold ok9
  rw [Bool.and_eq_true, decide_eq_true_eq]
def lst9 (ps : List (List UInt8)) : Bool := decide (ps.length ≤ 3) && ps.all ok9
/-- SplitN at a comma: the pieces, as texts, in a row of their own -/
theorem splitN9_any (l : List UInt8) (n : Nat) (W : World) (hM : Mx W) (hl : l.length < 2000000) (hn : 1 ≤ n) (hn2 : n ≤ 1000) :
    Calls Tryd.prog 10 #[.string ⟨l.toArray⟩, .string ⟨#[46]⟩, .int .i64 n] W fun e w' =>
      ∃ c, (Lib.splitK [46] 0 (min n (l.length + 1) - 1) l).length ≤ c ∧ c ≤ 1000 ∧ e = .returned (.slice (some ⟨W.heap.size, 0, none⟩) (Lib.splitK [46] 0 (min n (l.length + 1) - 1) l).length c) ∧ Kp Nw W w' ∧
        ∀ j : Nat, j < (Lib.splitK [46] 0 (min n (l.length + 1) - 1) l).length → w'.cell? ⟨W.heap.size, j, none⟩ = some (strV ((Lib.splitK [46] 0 (min n (l.length + 1) - 1) l).getD j [])) := by
  obtain ⟨m, hm⟩ := hM
  have es : (ByteArray.mk l.toArray).size = l.length := rfl
  obtain ⟨k, hk⟩ : ∃ k, min n (l.length + 1) - 1 = k := ⟨_, rfl⟩
  have hd := Lib.splitB_data ⟨#[46]⟩ 0 k ⟨l.toArray⟩
  have hlen := Lib.splitB_length_le ⟨#[46]⟩ 0 k ⟨l.toArray⟩
  refine (Tryd.strings_SplitN ⟨l.toArray⟩ ⟨#[46]⟩ n m W (by rw [es]; omega) hm (by decide) hn (by omega)).mono ?_
  rintro e w' ⟨rfl, rfl⟩
  rw [es, hk]
  obtain ⟨ps, hps⟩ : ∃ ps, Lib.splitB ⟨#[46]⟩ 0 k ⟨l.toArray⟩ = ps := ⟨_, rfl⟩
  rw [hps] at hd hlen ⊢
  have e1 : Lib.splitK [46] 0 k l = ps.map (·.data.toList) := hd.symm
  rw [e1, List.length_map]
  refine ⟨_, ?_, by omega, rfl, Kp.al _ _, fun j hj => ?_⟩
  · omega
  · rw [World.cell?_alloc_new]
    simp only [Lib.cellsOf]
    rw [← Array.getElem?_toList, List.toList_toArray, List.getElem?_append_left (by simpa using hj)]
    simp [strV, hj]

/-- what parseNumbers returns -/
def NumsRes9 (W : World) (ps : List (List UInt8)) (e : Ending) (w' : World) : Prop := ListRes W (if ps.all ok9 then nums ps else []) (ps.all ok9) e w'

set_option maxRecDepth 100000 in
set_option maxHeartbeats 1600000 in
theorem parseNums9_any (l : List UInt8) (W : World) (ps : List (List UInt8)) (hps : ps = Lib.splitK [46] 0 (min 4 (l.length + 1) - 1) l) (hT : Tabs W) (hM : Mx W) (hl : l.length < 2000000) (hlen : ∀ p ∈ ps, p.length ≤ 2000000) (n1 : ps.length ≤ 3) :
    Calls Tryd.prog 22 #[.string ⟨l.toArray⟩, .string ⟨#[46]⟩, .int .i64 3, .int .i64 10] W (NumsRes9 W ps) := by
  obtain ⟨i0, hi0, hz0, hz1, hz2⟩ := info_parts intInfo
  have HT := Lib.hid hT
  have HLEN := Lib.hid hlen
  obtain ⟨n, hn⟩ : ∃ n, ps.length = n := ⟨_, rfl⟩
  have HN := Lib.hid hn
  have hc := splitN9_any l 4 W hM hl (by omega) (by omega)
  rw [← hps, hn] at hc
  rw [hn] at n1
  have HC := Lib.hid hc
  have n2 : (n : Int) ≤ 3 := by omega
  clear hT hlen hn hc hps
  go_enter Tryd.func22, Tryd.ntmps22
  go_wp2_with fail
  refine HC.out.mono ?_
  rintro e w1 ⟨c, hc1, hc2, rfl, hk1, hcell⟩
  have HK1 := Lib.hid hk1
  have HP := Lib.hid hcell
  clear hk1 hcell
  go_wp2_with (first | (at_make; refine wpList_make_full _ rfl _ _ 47 rfl w1.heap.size 3 i0 (.int .i64 0) 1 Tryd.underlying47 hi0 hz0 hz1 _ _ _ _ n rfl rfl rfl rfl (by rw [hz2]; omega) (by unfold maxLen; omega) (Nat.le_refl _) ?_))
  intro w2 hown hgrow
  have hk2 : Kp Nw w1 w2 := (Kp.refl _ _).grown hgrow (fun g hg => by cases hg)
  have HS := Lib.hid (Sl.zeros hown)
  have HK := Lib.hid hk2
  clear hown hgrow hk2
  go_wp2
  go_loopw [12, 13, 14, 15, 30] (fun _ _ _ _ i wr => ∃ j : Nat, j ≤ n ∧ i = .int .i64 j ∧ SlAt wr w1.heap.size w1.heap.size n n (fill (nums ps) (List.replicate n 0) j) ∧ (ps.take j).all ok9 = true ∧ Kp Nw w1 wr) (fun _ _ _ _ i _ => n - (intOf i).toNat)
  case atStart => exact ⟨0, Nat.zero_le _, rfl, by rw [fill_zero]; exact HS.out, rfl, HK.out⟩
  case round =>
    rename_i wr
    obtain ⟨j, hj, rfl, hs, ha, hk⟩ := hrel
    have j0 : (0 : Int) ≤ j := Int.natCast_nonneg _
    by_cases hlt : j < n
    · have hl' : j < ps.length := by rw [HN.out]; exact hlt
      obtain ⟨p, hp⟩ : ∃ p, ps.getD j [] = p := ⟨_, rfl⟩
      have c0 := keepc hk (HP.out j hlt) (fun h => h)
      rw [hp] at c0
      have hx : ps[j] = p := by rw [← hp]; simp [hl']
      have hpl := HLEN.out p (by rw [← hx]; exact List.getElem_mem _)
      have j1 : (j : Int) < n := by omega
      have f0 := hs.frozen j
      have s0 := hs.cell j hlt
      have H := Lib.hid hs
      have HK2 := Lib.hid hk
      unfold strV at c0
      by_cases ok : ok9 p = true
      · have HA : Hid ((ps.take (j + 1)).all ok9 = true) := Lib.hid (by rw [List.take_succ_eq_append_getElem hl', List.all_append, ha, hx]; simp [ok])
        have HX := Lib.hid hp
        unfold ok9 at ok
        rw [Bool.and_eq_true] at ok
        have ok1 := Lib.hid ok.1
        have ok2 := Lib.hid (of_decide_eq_true ok.2)
        clear hs hk ha ok hp hx hl' s0 f0
        go_wp2_with fail
        refine (parseNumber_yes p 10 _ ((HT.out.nw HK1.out).nw HK2.out) (by omega) (by omega) ok1.out ok2.out).mono ?_
        rintro e w5 ⟨rfl, hk5⟩
        have H5 := Lib.hid (H.out.nw hk5)
        have HK5 := Lib.hid (HK2.out.nw hk5)
        have f0 := H5.out.frozen j
        have s0 := H5.out.cell j hlt
        clear hk5
        go_wp2
        go_roundw
        case rel =>
          refine ⟨j + 1, by omega, by go_num, ?_, HA.out, HK5.out.setCell (.inr (Nat.le_refl _)) _⟩
          have h2 := H5.out.store j (val p : Int)
          rw [fill_set (nums ps) _ j (val p : Int) (by simp [nums, HN.out]) (by simp [nums, HN.out]; exact hlt) (by rw [nums_get ps j (by rw [HN.out]; exact hlt), HX.out])] at h2
          exact h2
        case measure => simp [intOf]; omega
      · have HA : Hid (ps.all ok9 = false) := Lib.hid (by rw [List.all_eq_false]; exact ⟨ps[j], List.getElem_mem _, by rw [hx]; exact ok⟩)
        have no : ¬ (canon p = true ∧ val p ≤ 10) := by
          rintro ⟨a, b⟩
          apply ok
          unfold ok9
          rw [a]
          simp [b]
        have NO := Lib.hid no
        clear hs hk ha ok hp hx hl' s0 f0 no
        go_wp2_with fail
        refine (parseNumber_no p 10 _ ((HT.out.nw HK1.out).nw HK2.out) (by omega) (by omega) NO.out).mono ?_
        rintro e w5 ⟨rfl, hk5⟩
        have HK5 := Lib.hid (HK1.out.nw (HK2.out.nw hk5))
        clear hk5
        go_wp2
        go_ret2
        unfold NumsRes9
        rw [HA.out]
        exact ⟨_, rfl, Sl.nil _ _, HK5.out⟩
    · have e : j = n := by omega
      subst e
      have hn1 := HN.out
      have HA : Hid (ps.all ok9 = true) := Lib.hid (by rw [List.take_of_length_le (by omega)] at ha; exact ha)
      rw [show fill (nums ps) (List.replicate j 0) j = nums ps by
        have := fill_all (nums ps) (List.replicate j 0) (by simp [nums, hn1])
        rwa [show (nums ps).length = j by simp [nums, hn1]] at this] at hs
      have H := Lib.hid hs
      have HK2 := Lib.hid (HK1.out.nw hk)
      clear hs hk ha
      go_wp2
      go_ret2
      unfold NumsRes9
      rw [HA.out]
      exact ⟨_, rfl, H.out.sl.from HK1.out.size, HK2.out⟩

/-- more than 200 pieces are refused -/
theorem parseNums9_many (l : List UInt8) (W : World) (ps : List (List UInt8)) (hps : ps = Lib.splitK [46] 0 (min 4 (l.length + 1) - 1) l) (hM : Mx W) (hl : l.length < 2000000) (n1 : 3 < ps.length) :
    Calls Tryd.prog 22 #[.string ⟨l.toArray⟩, .string ⟨#[46]⟩, .int .i64 3, .int .i64 10] W (ListRes W [] false) := by
  obtain ⟨n, hn⟩ : ∃ n, ps.length = n := ⟨_, rfl⟩
  have hc := splitN9_any l 4 W hM hl (by omega) (by omega)
  rw [← hps, hn] at hc
  rw [hn] at n1
  have HC := Lib.hid hc
  have n2 : 3 < (n : Int) := by omega
  clear hn hc hps
  go_enter Tryd.func22, Tryd.ntmps22
  go_wp2_with fail
  refine HC.out.mono ?_
  rintro e w1 ⟨c, hc1, hc2, rfl, hk1, hcell⟩
  have HK1 := Lib.hid hk1
  clear hk1 hcell
  go_wp2
  go_ret2
  exact ⟨_, rfl, Sl.nil _ _, HK1.out⟩

/-- parseNumbers at any text -/
theorem parseNums9_all (l : List UInt8) (W : World) (hT : Tabs W) (hM : Mx W) (hl : l.length < 2000000) :
    Calls Tryd.prog 22 #[.string ⟨l.toArray⟩, .string ⟨#[46]⟩, .int .i64 3, .int .i64 10] W (ListRes W (if lst9 (sp 46 [] l) then nums (sp 46 [] l) else []) (lst9 (sp 46 [] l))) := by
  obtain ⟨k, hk⟩ : ∃ k, min 4 (l.length + 1) - 1 = k := ⟨_, rfl⟩
  have hc := sp_count 46 l []
  have no : 3 < (sp 46 [] l).length → lst9 (sp 46 [] l) = false := fun h => by
    unfold lst9
    rw [decide_eq_false (by omega), Bool.false_and]
  rcases splitK_sp 46 k l with ⟨e1, e2⟩ | ⟨e1, e2⟩
  · by_cases h2 : (sp 46 [] l).length ≤ 3
    · have e : lst9 (sp 46 [] l) = (sp 46 [] l).all ok9 := by
        unfold lst9
        rw [decide_eq_true h2, Bool.true_and]
      rw [e]
      exact parseNums9_any l W _ (by rw [hk, e1]) hT hM hl (fun p hp => by have := sp_piece 46 l [] p hp; simp at this; omega) h2
    · rw [no (by omega)]
      exact parseNums9_many l W _ (by rw [hk, e1]) hM (by omega) (by omega)
  · rw [no (by omega)]
    exact parseNums9_many l W _ rfl hM (by omega) (by rw [hk, e1]; omega)


theorem Sl.form9 {w : World} {B : Nat} {v : Value} {xs : List Int} (h : Sl w B v xs) (hn : 0 < xs.length) : ∃ g cap, v = .slice (some ⟨g, 0, none⟩) xs.length cap := by
  obtain ⟨g, cap, e⟩ := Joins.ownsRow_form h hn
  exact ⟨g, cap, e⟩

/-- the numbers that parseNumbers gives of a clue's text -/
def nm9 (p : List UInt8) : List Int := if lst9 (sp 46 [] p) then nums (sp 46 [] p) else []
theorem cluOK_nums {p : List UInt8} (h : cluOK p = true) : nm9 p = [(rdC p).1, (rdC p).2.1, (rdC p).2.2] := by
  obtain ⟨x, y, z, hq, hr, _, x1, y1, z1, x2, y2, z2, x3, y3, z3, _⟩ := cluOK_parts h
  have e : lst9 (sp 46 [] p) = true := by
    unfold lst9
    rw [hq]
    simp [(ok9_iff x).2 ⟨x1, x3⟩, (ok9_iff y).2 ⟨y1, y3⟩, (ok9_iff z).2 ⟨z1, z3⟩]
  unfold nm9
  rw [e, if_pos rfl, hq, hr]
  simp [nums, x2, y2, z2]
theorem nums_cluOK {p : List UInt8} {a b c : Int} (h : nm9 p = [a, b, c]) : rdC p = (a, b, c) ∧ cluOK p = cluB (a, b, c) := by
  unfold nm9 at h
  split at h
  · rename_i hl
    have hlen := congrArg List.length h
    unfold nums at hlen
    rw [List.length_map] at hlen
    obtain ⟨x, y, z, hq⟩ := list3 _ hlen
    unfold lst9 at hl
    rw [hq] at h hl
    rw [Bool.and_eq_true] at hl
    have h2 := hl.2
    simp only [List.all_cons, List.all_nil, Bool.and_true, Bool.and_eq_true] at h2
    obtain ⟨hx, hy, hz⟩ := h2
    have ex := rd6_of x ((ok9_iff x).1 hx).1 ((ok9_iff x).1 hx).2
    have ey := rd6_of y ((ok9_iff y).1 hy).1 ((ok9_iff y).1 hy).2
    have ez := rd6_of z ((ok9_iff z).1 hz).1 ((ok9_iff z).1 hz).2
    simp only [nums, List.map_cons, List.map_nil, List.cons.injEq, and_true] at h
    have hr : rdC p = (a, b, c) := by
      unfold rdC
      rw [hq]
      simp [ex, ey, ez, h.1, h.2.1, h.2.2]
    refine ⟨hr, ?_⟩
    unfold cluOK
    rw [hr, hq]
    simp
  · cases h
theorem nums_other {p : List UInt8} (h : (nm9 p).length ≠ 3) : cluOK p = false := by
  by_cases hc : cluOK p = true
  · rw [cluOK_nums hc] at h
    exact absurd rfl h
  · simpa using hc
theorem nm9_len (p : List UInt8) : (nm9 p).length ≤ p.length + 1 := by
  unfold nm9
  split
  · have := sp_count 46 p []
    simpa [nums] using this
  · simp
/-- a panic inside a region that draws, in a frame without defers -/
theorem as_anyP {P : Program} {fn : Func} {R : Ending → World → Prop} {ch : List PanicEntry} {a : Act} {w : World} (h : wpAny P .any #[] (fun _ a w => bodyPost P fn R (.panic ch) a w) 0 #[] a w) : bodyPost P fn R (.panic ch) a w := h.2
theorem xs3 (xs : List Int) (h : xs.length = 3) : ∃ a b c, xs = [a, b, c] := list3 xs h

set_option maxRecDepth 100000 in
set_option maxHeartbeats 3200000 in
theorem clueOfText_any (p : List UInt8) (W : World) (hT : Tabs W) (hM : Mx W) (hl : p.length < 2000000) (q : Bool) (hq : cluOK p = q) :
    Calls Tryd.prog 12 #[.string ⟨p.toArray⟩] W fun e w' => (e = if q = true then .returned (.agg #[.int .i64 (rdC p).1, .int .i64 (rdC p).2.1, .int .i64 (rdC p).2.2]) else .panicked thrown) ∧ Kp Nw W w' := by
  have HP := Lib.hid (parseNums9_all p (W.alloc (.cells #[.int .i64 0, .int .i64 0, .int .i64 0] 40)) (hT.nw (.al _ _)) (hM.nw (.al _ _)) hl)
  have hln := nm9_len p
  obtain ⟨xs, hxs⟩ : ∃ xs, nm9 p = xs := ⟨_, rfl⟩
  have hxs' : (if lst9 (sp 46 [] p) then nums (sp 46 [] p) else []) = xs := hxs
  rw [hxs'] at HP
  obtain ⟨ok, hok⟩ : ∃ ok, lst9 (sp 46 [] p) = ok := ⟨_, rfl⟩
  rw [hok] at HP
  rw [hxs] at hln
  obtain ⟨n, hn⟩ : ∃ n, xs.length = n := ⟨_, rfl⟩
  have HN := Lib.hid hn
  have O0 := Lib.hid (Own3.new W (0, 0, 0) 40)
  by_cases h3 : n = 3
  · subst h3
    obtain ⟨a, b, c, rfl⟩ := xs3 xs hn
    obtain ⟨hr, hc⟩ := nums_cluOK hxs
    rw [hr]
    rw [hq] at hc
    have HCH := Lib.hid hc.symm
    clear hT hM hxs hxs' hok hln hn hr hc hq
    cases q
    · simp only [Bool.false_eq_true, if_false]
      go_enter Tryd.func12, Tryd.ntmps12
      go_wp2_with fail
      refine HP.out.mono ?_
      rintro e w1 ⟨v1, rfl, hs1, hk1⟩
      obtain ⟨A1, c1, rfl⟩ := hs1.val HN.out
      obtain ⟨g, cp, e1, hcap, hcap2, hge, hgl⟩ : ∃ g cp, (Value.slice A1 3 c1) = .slice (some ⟨g, 0, none⟩) 3 cp ∧ True ∧ True ∧ True ∧ True := by
        obtain ⟨g, cp, h⟩ := hs1.form9 (by simp)
        exact ⟨g, cp, h, trivial, trivial, trivial, trivial⟩
      injection e1 with e1 e2 e3
      subst e1 e3
      have HS : Hid (SlAt w1 (W.heap.size + 1) g c1 3 [a, b, c]) := Lib.hid ⟨rfl, by have h9 := hs1; rw [World.size_alloc] at h9; exact h9⟩
      have HK1 := Lib.hid ((Kp.al W _).nw hk1)
      have s0 := HS.out.cell 0 (by omega)
      have s1 := HS.out.cell 1 (by omega)
      have s2 := HS.out.cell 2 (by omega)
      simp only [List.getD_cons_zero, List.getD_cons_succ] at s0 s1 s2
      clear hs1 hk1 hcap hcap2 hge hgl e2
      go_wp2_with fail
      first
      | (go_region_law (first
          | (go_simp
             go_at_call 23
             refine (checked_no (a, b, c) _ HCH.out).mono ?_
             rintro e w2 ⟨rfl, hk2⟩
             have kW : Kp Nw w1 w2 := Kp.nw (by first | exact (Kp.refl Nw _).drew | exact (Kp.refl Nw _)) hk2
             change bodyPost Tryd.prog Tryd.f12 _ (.panic thrown) _ _
             refine as_anyP ?_)
          | fail))
      | trivial
      all_goals exact ⟨rfl, rfl, HK1.out.nw kW⟩
    · simp only [if_true]
      go_enter Tryd.func12, Tryd.ntmps12
      go_wp2_with fail
      refine HP.out.mono ?_
      rintro e w1 ⟨v1, rfl, hs1, hk1⟩
      obtain ⟨A1, c1, rfl⟩ := hs1.val HN.out
      obtain ⟨g, cp, e1⟩ := hs1.form9 (by simp)
      injection e1 with e1 e2 e3
      subst e1 e3
      have HS : Hid (SlAt w1 (W.heap.size + 1) g c1 3 [a, b, c]) := Lib.hid ⟨rfl, by have h9 := hs1; rw [World.size_alloc] at h9; exact h9⟩
      have HK1 := Lib.hid ((Kp.al W _).nw hk1)
      have O1 := Lib.hid (O0.out.kp hk1 (fun h => h))
      have s0 := HS.out.cell 0 (by omega)
      have s1 := HS.out.cell 1 (by omega)
      have s2 := HS.out.cell 2 (by omega)
      simp only [List.getD_cons_zero, List.getD_cons_succ] at s0 s1 s2
      clear hs1 hk1 e2
      go_wp2_with fail
      first
      | (go_region_law (first
          | (go_simp
             go_at_call 23
             refine (checked_ok (a, b, c) _ HCH.out).mono ?_
             rintro e w2 ⟨rfl, hk2⟩
             have kW : Kp Nw w1 w2 := Kp.nw (by first | exact (Kp.refl Nw _).drew | exact (Kp.refl Nw _)) hk2
             have O2 := O1.out.kp kW (fun h => h)
             obtain ⟨⟨z0, z1, z2⟩, _⟩ := O2.put (a, b, c)
             obtain ⟨⟨r0, r1, r2⟩, f0, f1, f2⟩ := O2
             simp only at z0 z1 z2 r0 r1 r2)
          | fail))
      | trivial
      all_goals
        have HKE := Lib.hid ((((HK1.out.nw kW).setCell (p := ⟨W.heap.size, 0, none⟩) (.inr (Nat.le_refl _)) (.int .i64 a)).setCell (p := ⟨W.heap.size, 1, none⟩) (.inr (Nat.le_refl _)) (.int .i64 b)).setCell (p := ⟨W.heap.size, 2, none⟩) (.inr (Nat.le_refl _)) (.int .i64 c))
        clear kW hk2
        go_wp2
        exact bodyPost_ret (v := .agg #[.int .i64 a, .int .i64 b, .int .i64 c]) (by simp [results, Tryd.results12, go_sem, z0, z1, z2]) rfl ⟨rfl, HKE.out⟩
  · have hf : cluOK p = false := nums_other (by rw [hxs, hn]; exact h3)
    obtain rfl : q = false := by rw [← hq]; exact hf
    simp only [Bool.false_eq_true, if_false]
    have h4 : ¬ (n : Int) = 3 := by omega
    have h5 : (n : Int) ≤ 2000000 := by omega
    clear hT hM hxs hxs' hok hln hn hq hf
    go_enter Tryd.func12, Tryd.ntmps12
    go_wp2_with fail
    refine HP.out.mono ?_
    rintro e w1 ⟨v1, rfl, hs1, hk1⟩
    obtain ⟨A1, c1, rfl⟩ := hs1.val HN.out
    have HK1 := Lib.hid ((Kp.al W _).nw hk1)
    clear hs1 hk1
    go_wp2
    exact ⟨rfl, rfl, HK1.out⟩
set_option maxRecDepth 100000 in
set_option maxHeartbeats 1600000 in
/-- the deferred closure in a frame that panics of no clue -/
theorem rc_caught9 (pc po : Nat) (u0 b0 : Value) (w : World) (hc : Own1 w pc u0) (ho : Own1 w po b0) (hne : pc ≠ po) :
    CallsD Tryd.prog 21 #[.pointer (some ⟨pc, 0, none⟩), .pointer (some ⟨po, 0, none⟩)] (.panicking thrown) w fun e u' w' =>
      e = .returned (.tuple #[]) ∧ u' = .panicking [{ v := .iface 45 (.agg #[]), recovered := true }] ∧ w' = ((w.alloc (.cells #[] 45)).setCell ⟨pc, 0, none⟩ (.slice none 0 0)).setCell ⟨po, 0, none⟩ (.bool false) := by
  obtain ⟨hc1, hc2⟩ := hc.kp (Kp.al w (.cells #[] 45)) (fun h => h)
  obtain ⟨ho1, ho2⟩ := ho.kp (Kp.al w (.cells #[] 45)) (fun h => h)
  refine callsD_of_wpS Tryd.func21 rfl fun c₀ cs hu => ?_
  simp only [Tryd.ntmps21, List.size_toArray, List.length_cons, List.length_nil, Nat.reduceAdd, Nat.reduceSub, Array.replicate_succ, Array.replicate_zero, List.push_toArray, List.append_toArray, List.nil_append, List.cons_append]
  apply wpS_seq
  apply wpS_region
  simp [wpOpsS, go_sem, recoverD, hu, ta_yes, Exit.thenS]
  apply wpS_seq
  apply wpS_region
  simp [wpOpsS, go_sem, Exit.thenS]
  refine wpS_cond (t := true) (by simp [Act.eval]) ?_
  simp only [if_true]
  apply wpS_region
  have hs := keepo _ ⟨po, 0, none⟩ ⟨pc, 0, none⟩ (.slice none 0 0) b0 ho1 hne
  simp [wpOpsS, go_sem, hc1, hc2, hs, ho2, World.frozen?_setCell, bodyPostS, results, Tryd.results21]

set_option maxRecDepth 100000 in
set_option maxHeartbeats 1600000 in
theorem rc_idle9 (pc po : Nat) (w : World) :
    CallsD Tryd.prog 21 #[.pointer (some ⟨pc, 0, none⟩), .pointer (some ⟨po, 0, none⟩)] .returning w fun e u' w' =>
      e = .returned (.tuple #[]) ∧ u' = .returning ∧ w' = w.alloc (.cells #[] 45) := by
  refine callsD_of_wpS Tryd.func21 rfl fun c₀ cs hu => ?_
  simp only [Tryd.ntmps21, List.size_toArray, List.length_cons, List.length_nil, Nat.reduceAdd, Nat.reduceSub, Array.replicate_succ, Array.replicate_zero, List.push_toArray, List.append_toArray, List.nil_append, List.cons_append]
  apply wpS_seq
  apply wpS_region
  simp [wpOpsS, go_sem, recoverD, hu, ta_no, Exit.thenS]
  apply wpS_seq
  apply wpS_region
  simp [wpOpsS, go_sem, Exit.thenS]
  refine wpS_cond (t := false) (by simp [Act.eval]) ?_
  simp only [Bool.false_eq_true, if_false]
  refine wpS_of_wp (wp_skip ?_)
  cases c₀
  simp_all [bodyPostS, results, Tryd.results21]

theorem rc_ret9 (R : Ending → World → Prop) (tmps : Array Value) (w : World) (pc po : Nat) (v b : Value) (h4 : tmps[4]? = some (.pointer (some ⟨pc, 0, none⟩))) (h5 : tmps[5]? = some (.pointer (some ⟨po, 0, none⟩)))
    (hc : w.cell? ⟨pc, 0, none⟩ = some v) (hb : w.cell? ⟨po, 0, none⟩ = some b) (hR : R (.returned (.tuple #[v, b])) (w.alloc (.cells #[] 45))) :
    Leaves Tryd.prog Tryd.f11 tmps R [{ target := .fn (.func 21) #[.pointer (some ⟨pc, 0, none⟩), .pointer (some ⟨po, 0, none⟩)], args := #[] }] .returning w := by
  have hk : Kp Nw w (w.alloc (.cells #[] 45)) := .al _ _
  have c1 := keepc hk hc (fun h => h)
  have c2 := keepc hk hb (fun h => h)
  refine leaves_cons (f := 21) (args := #[.pointer (some ⟨pc, 0, none⟩), .pointer (some ⟨po, 0, none⟩)]) (by simp) (by simp [go_sem]) ?_
  refine (rc_idle9 pc po _).mono ?_
  rintro e u' w'' ⟨rfl, rfl, rfl⟩
  exact ⟨.tuple #[v, b], by simp [results, Tryd.results11, go_sem, h4, h5, c1, c2], hR⟩

theorem rc_thrown9 (R : Ending → World → Prop) (tmps : Array Value) (w : World) (pc po : Nat) (u0 b0 : Value) (h4 : tmps[4]? = some (.pointer (some ⟨pc, 0, none⟩))) (h5 : tmps[5]? = some (.pointer (some ⟨po, 0, none⟩)))
    (hc : Own1 w pc u0) (ho : Own1 w po b0) (hne : pc ≠ po) (hR : R (.returned (.tuple #[.slice none 0 0, .bool false])) (((w.alloc (.cells #[] 45)).setCell ⟨pc, 0, none⟩ (.slice none 0 0)).setCell ⟨po, 0, none⟩ (.bool false))) :
    Leaves Tryd.prog Tryd.f11 tmps R [{ target := .fn (.func 21) #[.pointer (some ⟨pc, 0, none⟩), .pointer (some ⟨po, 0, none⟩)], args := #[] }] (.panicking thrown) w := by
  have hk : Kp Nw w (w.alloc (.cells #[] 45)) := .al _ _
  have c1 := keepo _ ⟨pc, 0, none⟩ ⟨po, 0, none⟩ (.bool false) _ (one_set _ pc (.slice none 0 0) _ (hc.kp hk (fun h => h)).1) hne.symm
  have c2 := one_set _ po (.bool false) _ (keepo _ ⟨po, 0, none⟩ ⟨pc, 0, none⟩ (.slice none 0 0) _ (ho.kp hk (fun h => h)).1 hne)
  refine leaves_cons (f := 21) (args := #[.pointer (some ⟨pc, 0, none⟩), .pointer (some ⟨po, 0, none⟩)]) (by simp) (by simp [go_sem]) ?_
  refine (rc_caught9 pc po u0 b0 _ hc ho hne).mono ?_
  rintro e u' w'' ⟨rfl, rfl, rfl⟩
  exact ⟨.tuple #[.slice none 0 0, .bool false], by simp [results, Tryd.results11, go_sem, h4, h5, c1, c2], hR⟩

set_option maxRecDepth 100000 in
set_option maxHeartbeats 6400000 in
theorem readClues_long9 (A : Option Addr) (n c : Nat) (fv : Value) (W : World) (h : 6 < n) (hm : n ≤ maxLen) : Calls Tryd.prog 11 #[.slice A n c, fv] W (NoCluesB W) := by
  have hm2 : (n : Int) ≤ 9223372036854775807 := by unfold maxLen at hm; omega
  have hmf : ∀ (fn : Fn) (first cap : Array Value) (w : World), (Instr.makeFunc fn first cap).run Tryd.prog w = .ok (.func fn first cap) w := fun _ _ _ _ => rfl
  have h1 : (6 : Int) < n := by omega
  clear hm
  have O1 := Lib.hid ((Own1.new W (.slice none 0 0) 22).kp (Kp.al _ (.cells #[.bool false] 4)) (fun h => h))
  have O2 := Lib.hid (Own1.new (W.alloc (.cells #[.slice none 0 0] 22)) (.bool false) 4)
  simp only [World.size_alloc] at O2
  go_enter_defers Tryd.func11, Tryd.ntmps11
  go_wp2
  refine rc_ret9 _ _ _ W.heap.size (W.heap.size + 1) _ _ rfl rfl O1.out.1 O2.out.1 ⟨rfl, ((Kp.al W _).nw (.al _ _)).nw (.al _ _)⟩

set_option maxRecDepth 100000 in
set_option maxHeartbeats 12800000 in
theorem readClues9_any (A : Option Addr) (n c : Nat) (ls : List (List UInt8)) (W : World) (hu : ∀ j, j < n → ∃ g, A = some ⟨g, 0, none⟩ ∧ W.cell? ⟨g, j, none⟩ = some (strV (ls.getD j []))) (hn : ls.length = n) (h6 : n ≤ 6) (hT : Tabs W) (hM : Mx W) (hl : ∀ p ∈ ls, p.length < 2000000) (ok : Bool) (hok : ls.all cluOK = ok) :
    Calls Tryd.prog 11 #[.slice A n c, .func (.func 12) #[] #[]] W (if ok = true then CluesB W (ls.map rdC) else NoCluesB W) := by
  have hmf : ∀ (fn : Fn) (first cap : Array Value) (w : World), (Instr.makeFunc fn first cap).run Tryd.prog w = .ok (.func fn first cap) w := fun _ _ _ _ => rfl
  have HA := Lib.hid hu
  have HN := Lib.hid hn
  have HOK := Lib.hid hok
  have HT := Lib.hid hT
  have HM := Lib.hid hM
  have HPL := Lib.hid hl
  have n0 : (0 : Int) ≤ n := Int.natCast_nonneg _
  have h1 : ¬ (6 : Int) < n := by omega
  obtain ⟨RR, hRR⟩ : ∃ RR, (if ok = true then CluesB W (ls.map rdC) else NoCluesB W) = RR := ⟨_, rfl⟩
  rw [hRR]
  have HRR := Lib.hid hRR
  have O1 := Lib.hid ((Own1.new W (.slice none 0 0) 22).kp (Kp.al _ (.cells #[.bool false] 4)) (fun h => h))
  have O2 := Lib.hid (Own1.new (W.alloc (.cells #[.slice none 0 0] 22)) (.bool false) 4)
  simp only [World.size_alloc] at O2
  clear hu hn hok hT hM hl hRR
  go_enter_defers Tryd.func11, Tryd.ntmps11
  go_wp2
  go_loopw [14] (fun i wy => ∃ (j : Nat) (v : Value) (wr : World), j ≤ n ∧ i = .int .i64 j ∧ wr = wy ∧ (ls.take j).all cluOK = true ∧ Hid (Own1 wr W.heap.size v) ∧ Hid (Own1 wr (W.heap.size + 1) (.bool false)) ∧ Hid (Co wr (W.heap.size + 2) v ((ls.take j).map rdC)) ∧ Hid (Kp Nw W wr) ∧ W.heap.size + 2 ≤ wr.heap.size) (fun i _ => n - (intOf i).toNat)
  case atStart => exact ⟨0, _, _, Nat.zero_le _, rfl, rfl, rfl, O1, O2, Lib.hid (World.ownsRow_nil _ _ _ _), Lib.hid ((Kp.al W _).nw (.al _ _)), by simp⟩
  case round =>
    obtain ⟨j, v, wr, hj, rfl, rfl, ha, HC, HO, HV, HK, hsz⟩ := hrel
    have j0 : (0 : Int) ≤ j := Int.natCast_nonneg _
    by_cases hlt : j < n
    · have hl' : j < ls.length := by rw [HN.out]; exact hlt
      obtain ⟨g, rfl, hc⟩ := HA.out j hlt
      obtain ⟨p, hp⟩ : ∃ p, ls.getD j [] = p := ⟨_, rfl⟩
      rw [hp] at hc
      have hx : ls[j] = p := by rw [← hp]; simp [hl']
      have cp := keepc HK.out hc (fun h => h)
      unfold strV at cp
      have j1 : (j : Int) < n := by omega
      obtain ⟨q0, q1⟩ := HC.out
      have hpl := HPL.out p (by rw [← hx]; exact List.getElem_mem _)
      obtain ⟨okp, hokp⟩ : ∃ okp, cluOK p = okp := ⟨_, rfl⟩
      have HCT := Lib.hid (fun (w : World) (hk : Kp Nw wr w) => clueOfText_any p w (HT.out.nw (HK.out.nw hk)) (HM.out.nw (HK.out.nw hk)) hpl okp hokp)
      cases okp
      · have HF : Hid (ok = false) := Lib.hid (by
          rw [← HOK.out, List.all_eq_false]
          exact ⟨ls[j], List.getElem_mem _, by rw [hx, hokp]; simp⟩)
        have hR : RR = NoCluesB W := by rw [← HRR.out, HF.out]; rfl
        subst hR
        simp only [Bool.false_eq_true, if_false] at HCT
        clear hp hx ha hc hokp hl' hpl
        go_wp2_with fail
        first
        | (go_region_law (first
          | (go_simp
             go_at_call 12
             refine (HCT.out _ (by first | exact (Kp.refl Nw _).drew | exact (Kp.refl Nw _))).mono ?_
             rintro e w1 ⟨rfl, hk1⟩
             have kW : Kp Nw wr w1 := Kp.nw (by first | exact (Kp.refl Nw _).drew | exact (Kp.refl Nw _)) hk1
             change bodyPostD Tryd.prog Tryd.f11 (NoCluesB W) (.panic thrown) _ _
             refine as_any ?_)
          | fail))
        | trivial
        all_goals exact rc_thrown9 _ _ _ W.heap.size (W.heap.size + 1) v (.bool false) rfl rfl (HC.out.kp kW (fun h => h)) (HO.out.kp kW (fun h => h)) (by omega) ⟨rfl, (((HK.out.nw kW).nw (.al _ _)).setCell (.inr (Nat.le_refl _)) _).setCell (.inr (Nat.le_succ _)) _⟩
      · have HA1 : Hid ((ls.take (j + 1)).all cluOK = true) := Lib.hid (by rw [List.take_succ_eq_append_getElem hl', List.all_append, ha, hx]; simp [hokp])
        have HT1 : Hid ((ls.take (j + 1)).map rdC = (ls.take j).map rdC ++ [rdC p]) := Lib.hid (by rw [List.take_succ_eq_append_getElem hl', hx]; simp)
        obtain ⟨u, hu⟩ : ∃ u, rdC p = u := ⟨_, rfl⟩
        rw [hu] at HT1 HCT
        simp only [if_true] at HCT
        have HLT : Hid (((ls.take j).map rdC).length + [u].length ≤ 1000000) := Lib.hid (by simp; omega)
        have HLJ : Hid (((ls.take j).map rdC).length = j) := Lib.hid (by rw [List.length_map, List.length_take]; omega)
        clear hp hx ha hc hokp hl' hpl hu
        go_wp2_with fail
        first
        | (go_region_law (first
          | (go_simp
             go_at_call 12
             refine (HCT.out _ (by first | exact (Kp.refl Nw _).drew | exact (Kp.refl Nw _))).mono ?_
             rintro e w1 ⟨rfl, hk1⟩
             have kW : Kp Nw wr w1 := Kp.nw (by first | exact (Kp.refl Nw _).drew | exact (Kp.refl Nw _)) hk1
             obtain ⟨q2, q3⟩ := HC.out.kp kW (fun h => h)
             have q6 := keepc (Kp.al w1 (.cells #[.int .i64 u.1, .int .i64 u.2.1, .int .i64 u.2.2] 40)) q2 (fun h => h))
          | (refine step_clus _ (by rfl) (.tmp 18) (.tmp 22) (by rfl) (W.heap.size + 2) v (.slice (some ⟨w1.heap.size, 0, none⟩) 1 1) ((ls.take j).map rdC) [u] (by rfl) (by rfl) ((HV.out.nw kW).nw (by first | exact .al _ _ | exact (Kp.al _ _).drew | exact (Kp.refl Nw _).drew.nw (.al _ _))) (RdC.one (Own3.new w1 u 40).1) (VnC.some_ _ _ 1 _ rfl) HLT.out (by have := kW.size; simp [World.size_alloc] at this ⊢; omega) ?_
             intro v5 w5 hs5 hk5
             obtain ⟨A5, c5, rfl⟩ := hs5.val (n := j + 1) (by rw [List.length_append, HLJ.out]; rfl)
             have k5 : Kp (fun b => v.ownBlock = some b) w1 w5 := ((Kp.al w1 (.cells #[.int .i64 u.1, .int .i64 u.2.1, .int .i64 u.2.2] 40)).mono (fun _ _ h => h.elim)).trans hk5
             have hvb : ∀ b, v.ownBlock = some b → W.heap.size + 2 ≤ b := fun b hb => (World.ownsRow.lt HV.out b hb).1
             obtain ⟨q4, q5⟩ := (HC.out.kp kW (fun h => h)).kp k5 (fun e => by have := hvb _ e; omega))
          | fail))
        | trivial
        all_goals
          have kS : Kp (fun b => b = W.heap.size) w5 (w5.setCell ⟨W.heap.size, 0, none⟩ (.slice A5 (j + 1) c5)) := (Kp.refl (fun b => b = W.heap.size) w5).setCell (p := ⟨W.heap.size, 0, none⟩) (.inl rfl) _
          have HC6 := Lib.hid (own1_put (show Own1 w5 W.heap.size _ from ⟨q4, q5⟩) (.slice A5 (j + 1) c5))
          have HO6 := Lib.hid (((HO.out.kp kW (fun h => h)).kp k5 (fun e => by have := hvb _ e; omega)).kp kS (by omega))
          have HV6 := Lib.hid (hs5.kp kS (fun g hg e => by have := (World.ownsRow.lt hs5 g hg).1; omega))
          have HK6 := Lib.hid (((HK.out.nw kW).after k5 (fun g hg e => by have := hvb _ e; omega)).setCell (p := ⟨W.heap.size, 0, none⟩) (.inr (Nat.le_refl _)) (.slice A5 (j + 1) c5))
          have hz6 : W.heap.size + 2 ≤ (w5.setCell ⟨W.heap.size, 0, none⟩ (.slice A5 (j + 1) c5)).heap.size := by
            have h2 := kW.size
            have h3 := k5.size
            have h4 := kS.size
            omega
          rw [← HT1.out] at HV6
          clear hs5 hk5 k5 kS kW hk1 q2 q3 q4 q5 q6 hvb
          go_wp2
          go_roundw
          case rel => exact ⟨j + 1, _, _, by omega, by go_num, rfl, HA1.out, HC6, HO6, HV6, HK6, hz6⟩
          case measure => simp [intOf]; omega
    · have e : j = n := by omega
      subst e
      obtain ⟨Av, cv9, rfl⟩ := HV.out.val (n := j) (by rw [List.length_map, List.length_take, HN.out]; exact Nat.min_self j)
      obtain ⟨q0, q1⟩ := HC.out
      obtain ⟨o0, o1⟩ := HO.out
      have HF : Hid (ok = true) := Lib.hid (by
        rw [← HOK.out, ← ha, List.take_of_length_le (by rw [HN.out]; exact Nat.le_refl _)])
      have hR : RR = CluesB W (ls.map rdC) := by rw [← HRR.out, HF.out]; rfl
      subst hR
      clear ha
      have z1 := one_set wr W.heap.size (.slice Av j cv9) _ q0
      have z2 := keepo _ ⟨W.heap.size + 1, 0, none⟩ ⟨W.heap.size, 0, none⟩ (.slice Av j cv9) _ o0 (by simp)
      have HV1 := Lib.hid HV.out
      rw [List.take_of_length_le (by rw [HN.out]; exact Nat.le_refl _)] at HV1
      have hvb : ∀ b, (Value.slice Av j cv9).ownBlock = some b → W.heap.size + 2 ≤ b := fun b hb => (World.ownsRow.lt HV.out b hb).1
      have HVB := Lib.hid hvb
      clear hvb
      have kS : Kp (fun b => b = W.heap.size) wr (wr.setCell ⟨W.heap.size, 0, none⟩ (.slice Av j cv9)) := (Kp.refl (fun b => b = W.heap.size) wr).setCell (p := ⟨W.heap.size, 0, none⟩) (.inl rfl) _
      have kT : Kp (fun b => b = W.heap.size + 1) (wr.setCell ⟨W.heap.size, 0, none⟩ (.slice Av j cv9)) ((wr.setCell ⟨W.heap.size, 0, none⟩ (.slice Av j cv9)).setCell ⟨W.heap.size + 1, 0, none⟩ (.bool true)) := (Kp.refl (fun b => b = W.heap.size + 1) _).setCell (p := ⟨W.heap.size + 1, 0, none⟩) (.inl rfl) _
      have HV2 := Lib.hid ((((HV1.out.kp kS (fun g hg e => by have := HVB.out g hg; omega)).kp kT (fun g hg e => by have := HVB.out g hg; omega)).nw (.al _ (.cells #[] 45))).from (B' := W.heap.size) (by omega))
      have HK2 := Lib.hid (((HK.out.setCell (p := ⟨W.heap.size, 0, none⟩) (.inr (Nat.le_refl _)) (.slice Av j cv9)).setCell (p := ⟨W.heap.size + 1, 0, none⟩) (.inr (Nat.le_succ _)) (.bool true)).nw (.al _ (.cells #[] 45)))
      have Z3 := Lib.hid (keepo _ ⟨W.heap.size, 0, none⟩ ⟨W.heap.size + 1, 0, none⟩ (.bool true) _ z1 (by simp))
      have Z4 := Lib.hid (one_set _ (W.heap.size + 1) (.bool true) _ z2)
      clear kS kT
      go_wp2
      exact rc_ret9 _ _ _ W.heap.size (W.heap.size + 1) _ _ rfl rfl Z3.out Z4.out ⟨_, rfl, HV2.out, HK2.out⟩
end Go.Proofs.YtcekobdnghllcacDoor
