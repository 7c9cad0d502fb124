/- The sizes of rounds (RoundSizes, CountRounds), in the program and in its model: both are the same; no condition. -/
import Derived.Test.YteodhoekkeelcaaIter
import Derived.Test.YteodhoekkeelcaaMany
import Derived.Maps.AppendAt
import Derived.Maps.OwnIn
namespace Go.Proofs.Yteodhoekkeelcaa
open Go.ChangeShapes Go.WideShapes Go.ChangeAt Go.RowKit Go.Shelf
attribute [local go_sem] Oper.semAt_some

/-- what a loop body keeps whose own rows are no rounds: the box of the number of people, and every block of rounds -/
def KR (Bn : Nat) (A C : World) : Prop := C.heap[Bn]? = A.heap[Bn]? ∧ ∀ k, k < A.heap.size → (∃ cur fr, A.heap[k]? = some (.cells cur 40 fr)) → C.heap[k]? = A.heap[k]?
theorem KR.refl (Bn : Nat) (A : World) : KR Bn A A := ⟨rfl, fun _ _ _ => rfl⟩
theorem KR.trans {Bn : Nat} {A B C : World} (h : KR Bn A B) (k : KR Bn B C) : KR Bn A C :=
  ⟨k.1.trans h.1, fun i hi hr => by
    have e := h.2 i hi hr
    obtain ⟨cur, fr, hc⟩ := hr
    have hi' : i < B.heap.size := (Array.getElem?_eq_some_iff.1 (e.trans hc)).1
    exact (k.2 i hi' ⟨cur, fr, e.trans hc⟩).trans e⟩
theorem KR.put {Bn B : Nat} (hB : Bn < B) (W : World) (l : Nat) (o o' : Obj) (hl : B ≤ l) (h : W.heap[l]? = some o) (ho : o.isCells = false) : KR Bn W (W.putObj l o') :=
  ⟨World.putObj_heap_other (by omega), fun i _ hr => World.putObj_heap_other (fun e => by
    obtain ⟨cur, fr, hc⟩ := hr
    rw [e, h] at hc
    cases hc
    cases ho)⟩
theorem KR.alloc {Bn : Nat} {A C : World} (h : KR Bn A C) (hB : Bn < C.heap.size) (o : Obj) (hs : A.heap.size ≤ C.heap.size) : KR Bn A (C.alloc o) :=
  ⟨(Below.heap_alloc C o Bn hB).trans h.1, fun i hi hr => (Below.heap_alloc C o i (by omega)).trans (h.2 i hi hr)⟩
theorem KR.new {Bn : Nat} {W W' : World} {c : Array Value} (h : KR Bn (W.alloc (.cells c 40)) W') (j : Nat) : W'.cell? ⟨W.heap.size, j, none⟩ = c[j]? := by
  have e := h.2 W.heap.size (by simp) ⟨c, (0, 0), heap_alloc_new W _⟩
  rw [heap_alloc_new W _] at e
  simp [World.cell?, e]

/-- behind an append of integers and the store of the slice into its box -/
theorem KR.app {Bn n₀ B k : Nat} {W w1 : World} {v v' : Value} {xs : List Value} {tmp : Obj} (hv : Boxed W B 27 v) (hrow : W.ownsRow n₀ 3 1 v k xs) (hgrow : (W.alloc tmp).grownBy w1 v.ownBlock)
    (hBn : Bn < W.heap.size) (hne : Bn ≠ B) (hG : v.ownBlock ≠ some Bn) : KR Bn W (w1.setCell ⟨B, 0, none⟩ v') :=
  ⟨(Below.heap_setCell w1 ⟨B, 0, none⟩ v' Bn hne).trans ((hgrow.block Bn (by simp; omega) (fun e => hG e.symm)).trans (Below.heap_alloc W tmp Bn hBn)), fun i hi hr => by
    obtain ⟨cur, fr, hc⟩ := hr
    have h1 : i ≠ B := by
      rintro rfl
      have := (show W.heap[i]? = _ from hv).symm.trans hc
      simp at this
    have h2 : some i ≠ v.ownBlock := by
      rcases hrow.2 with ⟨rfl, _⟩ | ⟨g, cap, cur', rfl, _, hgb, _⟩
      · simp [Value.ownBlock]
      · intro e
        obtain rfl : i = g := by simpa [Value.ownBlock] using e
        rw [hgb] at hc
        simp at hc
    exact (Below.heap_setCell w1 ⟨B, 0, none⟩ v' i h1).trans ((hgrow.block i (by simp; omega) h2).trans (Below.heap_alloc W tmp i hi))⟩

set_option maxHeartbeats 1000000 in
theorem roundsOf_in (n p : Nat) (w : World) :
    CallsIn Fence.wide n Try.prog 44 #[.int .i64 p] w fun e w' => e = .returned (.func (.func 48) #[] #[.pointer (some ⟨w.heap.size, 0, none⟩)]) ∧ w' = w.alloc (.cells #[.int .i64 p] 3) := by
  refine callsIn_of_wp Try.func44 rfl trivial ?_ rfl
  simp only [Try.ntmps44, List.size_toArray, List.length_cons, List.length_nil, Nat.reduceAdd, Nat.reduceSub, Array.replicate_succ, Array.replicate_zero, List.push_toArray, List.append_toArray, List.nil_append, List.cons_append]
  gi_wp2
  go_ret
  exact ⟨rfl, rfl⟩

/-- the iterator's contract, for a body whose own rows are no rounds -/
theorem rounds_stops (n : Nat) (hn : 1 ≤ n) (Bn p : Nat) (hp1 : 1 ≤ p) (hp2 : p ≤ 1000000000000) (w : World) (hB : Bn < w.heap.size) (hc : w.cell? ⟨Bn, 0, none⟩ = some (.int .i64 p)) :
    SeqStopsK Fence.wide n Try.prog 48 #[.pointer (some ⟨Bn, 0, none⟩)] (fun x : Rnd => #[rndV x]) (KR Bn) (fun ys => ys = rounds p) (fun pre => pre <+: rounds p) 41 w := fun l J Jx W hW hJ _ hY h0 =>
  rounds1_in n hn l Bn p hp1 hp2 (KR Bn) (fun _ _ _ h j _ => h.new j) (fun _ _ h => World.cell?_of_block h.1) J Jx W hJ (fun pre x W _ => hY pre x W) ((hW.cell (p := ⟨Bn, 0, none⟩) hB).trans hc) h0

/-- the sizes of rounds -/
def szs (xs : List Rnd) : List Int := xs.map fun x => (x.s : Int)
theorem szs_snoc (xs : List Rnd) (x : Rnd) : szs (xs ++ [x]) = szs xs ++ [(x.s : Int)] := by simp [szs]
theorem intInfo2 : (Try.prog.info? 3).map (fun i => (i.zero, i.size, i.bytes)) = some (some (.int .i64 0), 1, 8) := by kernel_rfl

set_option maxRecDepth 100000 in
set_option maxHeartbeats 4000000 in
theorem iSizes_in (n : Nat) (hn : 3 ≤ n) (p : Nat) (w : World) (h : In p 1 1000000000000) :
    CallsIn Fence.wide n Try.prog 19 #[.int .i64 p] w (ListB w (szs (rounds p)) true) := by
  have h1 := h.lo; have h2 := h.hi
  have hn1 : 1 ≤ n := by omega
  obtain ⟨i0, hi, hz0, hz1, hz2⟩ := info_parts intInfo2
  refine callsIn_of_wp_marks Try.func19 rfl trivial ?_ rfl
  simp only [Try.ntmps19, List.size_toArray, List.length_cons, List.length_nil, Nat.reduceAdd, Nat.reduceSub, Array.replicate_succ, Array.replicate_zero, List.push_toArray, List.append_toArray, List.nil_append, List.cons_append]
  gi_wp2_with (first | (refine ⟨trivial, ?_⟩; gi_at_call 34; refine (callsIn_wide.2 (isMany_yes _ _ h)).mono ?_; rintro e w' ⟨rfl, rfl⟩) | (refine ⟨trivial, ?_⟩; gi_at_call 44; refine (roundsOf_in (n - 1) p _).mono ?_; rintro e w' ⟨rfl, rfl⟩))
  have bS := (Boxed.new w 27 (.slice none 0 0)).alloc (.cells #[.int .i64 (p : Int)] 3)
  have bP := Boxed.new (w.alloc (.cells #[.slice none 0 0] 27)) 3 (.int .i64 (p : Int))
  rw [World.size_alloc] at bP
  have hB0 : Below w.heap.size w ((w.alloc (.cells #[.slice none 0 0] 27)).alloc (.cells #[.int .i64 (p : Int)] 3)) := ((Below.refl _ w).alloc (Nat.le_refl _) _).alloc (by simp) _
  have hsz : ((w.alloc (.cells #[.slice none 0 0] 27)).alloc (.cells #[.int .i64 (p : Int)] 3)).heap.size = w.heap.size + 2 := by simp
  obtain ⟨W0, hW0⟩ : ∃ W0, (w.alloc (.cells #[.slice none 0 0] 27)).alloc (.cells #[.int .i64 (p : Int)] 3) = W0 := ⟨_, rfl⟩
  rw [hW0] at bS bP hB0 hsz ⊢
  clear hW0
  refine wpIn_rangeFunc_ownH rfl hn1 (gf := 48) (lb := #[.pointer (some ⟨w.heap.size + 1, 0, none⟩)]) rfl trivial (enters_of Try.func48 (by kernel_rfl) rfl)
    (rounds_stops (n - 1) (by omega) (w.heap.size + 1) p (by omega) (by omega) W0 (by omega) bP.cell) (fun h k => h.trans k) (fun W l o o' hl h ho _ => KR.put (by omega) W l o o' hl h ho) (Below.refl _ _) (fun _ => rfl)
    (fun pre W => ((∃ v, Boxed W w.heap.size 27 v ∧ W.ownsRow w.heap.size 3 1 v (szs pre).length ((szs pre).map (Value.int .i64)) ∧ v.ownBlock ≠ some (w.heap.size + 1)) ∧ Boxed W (w.heap.size + 1) 3 (.int .i64 (p : Int))) ∧ Below w.heap.size w W)
    (fun _ _ _ => False)
    (OwnFrom.and (OwnFrom.and (Own.from (holdsRow_own w.heap.size w.heap.size 27 3 1 (fun pre => (szs pre).length) (fun pre => (szs pre).map (Value.int .i64)) (fun _ v => v.ownBlock ≠ some (w.heap.size + 1))) _) (Own.from (boxed_own _ _ _) _)) (ownFrom_below (Nat.le_refl _) (by omega)))
    (fun _ _ _ _ _ hs _ _ => hs)
    ⟨⟨⟨_, bS, World.ownsRow_nil _ _ _ _, by simp [Value.ownBlock]⟩, bP⟩, hB0⟩
    (fun x a' W => ∃ Bx, w.heap.size + 1 < Bx ∧ W.heap[Bx]? = some (.cells (rndC x) 40 (0, 0)) ∧ a' = { tmps := #[.int .i64 (p : Int), undef, .slice none 0 0, .bool false, .pointer (some ⟨w.heap.size, 0, none⟩), .pointer (some ⟨Bx, 0, none⟩), .int .i64 (p : Int), .bool true, .bool false, .int .i64 (p : Int), .func (.func 48) #[] #[.pointer (some ⟨w.heap.size + 1, 0, none⟩)], rndV x, undef, undef, undef, undef, undef, undef], defers := [] })
    (fun x a' _ X Y row hs hg hr => by
      obtain ⟨Bx, h1, h2, h3⟩ := hs
      refine ⟨Bx, h1, (hg.block Bx (Array.getElem?_eq_some_iff.1 h2).1 (fun e => ?_)).trans h2, h3⟩
      obtain ⟨o, ho, hc⟩ := (hr Bx e.symm).2
      rw [h2] at ho
      cases ho
      cases hc)
    ?assign ?body ?done ?stop
  case assign =>
    rintro l pre x W K ⟨⟨⟨v, hv, hrow, hG⟩, hP⟩, hB⟩ hK
    unfold rndV rndC
    gi_wp2
    have hlt := hP.lt
    exact hK _ _ ((KeepsOthers.alloc _ _).from _) ((KR.refl _ W).alloc hlt _ (Nat.le_refl _)) ⟨⟨⟨v, hv.alloc _, hrow.alloc _, hG⟩, hP.alloc _⟩, hB.alloc hB.size _⟩ ⟨W.heap.size, hlt, heap_alloc_new W _, rfl⟩
  case body =>
    rintro l pre x a' W hl ⟨r, hr⟩ ⟨⟨⟨v, hv, hrow, hG⟩, hP⟩, hB⟩ ⟨Bx, hBx, bX, rfl⟩ hlt
    have hc := hv.cell
    have hPl := hP.lt
    have hpl : (szs pre).length ≤ 41 := by simp [szs]; omega
    have x2 : W.cell? ⟨Bx, 2, none⟩ = some (.int .i64 (x.s : Int)) := by simp [World.cell?, bX, rndC]
    gi_wp2_with (gi_at_builtin; refine wpListIn_append_own_at _ rfl _ _ 27 rfl w.heap.size 3 i0 (.int .i64 0) 1 8 Try.underlying27 hi hz0 hz1 hz2 rfl (by decide) _ _ _ rfl (hrow.alloc _) ⟨W.heap.size, 0, none⟩ 1 1 [.int .i64 (x.s : Int)] rfl rfl (cell_one_new _ _ _) (by simp [Value.oneCell']) (by unfold maxLen; omega) (by omega) (by have := hB.size; simp; omega) ?_; intro v' w1 hown' hgrow _ hat; obtain ⟨g', cap', rfl⟩ := ownsRow_succ hown'; obtain ⟨hv1, hv2, hr2, hk2, hb2⟩ := hv.appended (by decide) hrow hB.size (Nat.le_refl _) hown' hgrow; have hc1 := hv1.cell; have hf1 := hv1.frozen)
    refine ⟨hk2.from _, KR.app hv hrow hgrow hPl (by omega) hG, ⟨⟨_, hv2, by rw [szs_snoc, List.map_append, List.length_append]; exact hr2, ?_⟩, ?_⟩, hB.trans hb2⟩
    · rcases hat with e | e
      · rw [e]; exact hG
      · rw [e]; simp; omega
    · exact ((hP.alloc _).kept hgrow (fun e => hG e.symm)).other (by omega) _
  case done =>
    rintro D ys W hD rfl ⟨⟨⟨v, hv, hrow, hG⟩, hP⟩, hB⟩ hK
    have hc := hv.cell
    gi_wp2
    refine ⟨by simp, .inl ⟨_, _, rfl, run_takeDeferred hK, ?_⟩⟩
    exact ⟨_, results_tmp2 rfl _ _ _, v, rfl, ownsRow_putObj hrow _ hK rfl, Kp.of_below (hB.trans (belowK_b (w := w) (Nat.le_refl _) W D _ _ (by omega) hK rfl rfl))⟩
  case stop =>
    rintro D c pre W _ _ h _
    exact h.elim
theorem iRoundSizes_yes (p : Nat) (w : World) (h : In p 1 1000000000000) : Calls Try.prog 19 #[.int .i64 p] w (ListB w (szs (rounds p)) true) :=
  callsIn_wide.1 (iSizes_in 3 (Nat.le_refl _) p w h)

theorem iRoundSizes_no (p : Int) (W : World) (h : ¬ In p 1 1000000000000) : Calls Try.prog 19 #[.int .i64 p] W (ListB W [] false) := by
  go_enter Try.func19, Try.ntmps19
  go_wp2_with (first | ((with_reducible refine (isMany_no _ _ h).mono ?_); rintro e w' ⟨rfl, rfl⟩))
  go_ret2
  exact listB_nil _ _
set_option maxRecDepth 100000 in
set_option maxHeartbeats 1600000 in
theorem twSizes_any (p : Nat) (W : World) (h : In p 1 1000000000000) : Calls Try.prog 43 #[.int .i64 p] W (Makes W (szs (rounds p))) := by
  have h1 := h.lo; have h2 := h.hi
  have HLEN := Lib.hid (rounds_len p (by omega))
  go_enter Try.func43, Try.ntmps43
  go_wp2
  go_loopw [0, 3, 4, 5] (fun x s k _ wr => ∃ (pre : List Rnd) (f g m : Nat) (b : Bool) (v : Value), x = .int .i64 m ∧ k = .bool b ∧ v = s ∧ Hid (rounds p = pre ++ rnds p f g m b.toNat) ∧ Hid (Fit p f g m b.toNat) ∧ Sl wr W.heap.size v (szs pre) ∧ Kp Nw W wr) (fun x _ _ _ _ => (intOf x).toNat)
  case atStart => exact ⟨[], 0, 1, p, true, _, rfl, rfl, rfl, Lib.hid rfl, Lib.hid (Fit.start p (by omega)), by simpa [szs] using Sl.nil _ _, .refl _ _⟩
  case round =>
    rename_i wr
    obtain ⟨pre, f, g, m, b, v, rfl, rfl, rfl, hx, hfit, hs, hk⟩ := hrel
    have HS := Lib.hid hs
    have HK := Lib.hid hk
    clear hs hk
    have hmp := hfit.out.l2
    have hm0 := hfit.out.l1
    have hpl : (szs pre).length ≤ 40 := by
      have := HLEN.out
      rw [hx.out] at this
      have c : 1 ≤ (rnds p f g m b.toNat).length := by rw [rnds]; split <;> simp
      simp only [List.length_append] at this
      simp [szs]; omega
    by_cases hm : 2 ≤ m
    · have hq := hfit.out.q1
      have HX := Lib.hid (show rounds p = (pre ++ [⟨f + b.toNat * g, 2 * g, rsz m b.toNat, p - m⟩]) ++ rnds p (f + (1 - b.toNat) * g) (2 * g) (m - rsz m b.toNat) ((m + b.toNat) % 2) by rw [hx.out, rnds_go p f g m b.toNat hm hq]; simp)
      have HF := Lib.hid (hfit.out.next hm)
      have hb := rsz_bd m b.toNat hm hq
      clear hx hfit
      cases b
      · have hsz : Hid (((rsz m 0 : Nat) : Int) = ((m : Int) + 1) / 2) := Lib.hid (by unfold rsz; omega)
        have hsl : Hid (((m - rsz m 0 : Nat) : Int) = (m : Int) - ((m : Int) + 1) / 2) := Lib.hid (by unfold rsz; omega)
        simp only [Bool.toNat_false] at hb HX HF
        go_wp2_with (first | (at_builtin; refine wpList_app _ rfl (.tmp 15) (.tmp 17) rfl W.heap.size v _ (szs pre) [((m : Int) + 1) / 2] rfl rfl (HS.out.below (Kp.al _ _).below') (Rd.one (g := wr.heap.size) (by simp)) nil_one (by simp; omega) (by have := HK.out.size; simp; omega) ?_))
        intro v' w4 hs4 hk4 _
        have HS4 := Lib.hid hs4
        have HK4 := Lib.hid ((HK.out.nw (.al _ _)).own (HS.out.below (Kp.al _ _).below') hk4)
        clear hs4 hk4
        by_cases hodd : m % 2 = 0
        · have ho : (m : Int) % 2 = 0 := by omega
          have e2 : Hid ((m + 0) % 2 = 0) := Lib.hid (by omega)
          rw [e2.out] at HX HF
          clear hodd
          go_wp2
          go_roundw
          case rel => exact ⟨_, _, _, m - rsz m 0, false, v', by rw [hsl.out], rfl, rfl, HX, HF, by rw [szs_snoc, hsz.out]; exact HS4.out, HK4.out⟩
          case measure => simp [intOf]; omega
        · have ho : (m : Int) % 2 = 1 := by omega
          have e2 : Hid ((m + 0) % 2 = 1) := Lib.hid (by omega)
          rw [e2.out] at HX HF
          clear hodd
          go_wp2
          go_roundw
          case rel => exact ⟨_, _, _, m - rsz m 0, true, v', by rw [hsl.out], rfl, rfl, HX, HF, by rw [szs_snoc, hsz.out]; exact HS4.out, HK4.out⟩
          case measure => simp [intOf]; omega
      · have hsz : Hid (((rsz m 1 : Nat) : Int) = (m : Int) / 2) := Lib.hid (by unfold rsz; omega)
        have hsl : Hid (((m - rsz m 1 : Nat) : Int) = (m : Int) - (m : Int) / 2) := Lib.hid (by unfold rsz; omega)
        simp only [Bool.toNat_true] at hb HX HF
        go_wp2_with (first | (at_builtin; refine wpList_app _ rfl (.tmp 15) (.tmp 17) rfl W.heap.size v _ (szs pre) [(m : Int) / 2] rfl rfl (HS.out.below (Kp.al _ _).below') (Rd.one (g := wr.heap.size) (by simp)) nil_one (by simp; omega) (by have := HK.out.size; simp; omega) ?_))
        intro v' w4 hs4 hk4 _
        have HS4 := Lib.hid hs4
        have HK4 := Lib.hid ((HK.out.nw (.al _ _)).own (HS.out.below (Kp.al _ _).below') hk4)
        clear hs4 hk4
        by_cases hodd : m % 2 = 0
        · have ho : (m : Int) % 2 = 0 := by omega
          have e2 : Hid ((m + 1) % 2 = 1) := Lib.hid (by omega)
          rw [e2.out] at HX HF
          clear hodd
          go_wp2
          go_roundw
          case rel => exact ⟨_, _, _, m - rsz m 1, true, v', by rw [hsl.out], rfl, rfl, HX, HF, by rw [szs_snoc, hsz.out]; exact HS4.out, HK4.out⟩
          case measure => simp [intOf]; omega
        · have ho : (m : Int) % 2 = 1 := by omega
          have e2 : Hid ((m + 1) % 2 = 0) := Lib.hid (by omega)
          rw [e2.out] at HX HF
          clear hodd
          go_wp2
          go_roundw
          case rel => exact ⟨_, _, _, m - rsz m 1, false, v', by rw [hsl.out], rfl, rfl, HX, HF, by rw [szs_snoc, hsz.out]; exact HS4.out, HK4.out⟩
          case measure => simp [intOf]; omega
    · have hm1 : m = 1 := by omega
      subst hm1
      have HX := Lib.hid (show rounds p = pre ++ [⟨f, g, 1, p - 1⟩] by rw [hx.out, rnds_end p f g 1 _ hm])
      clear hx hfit hm
      go_wp2_with (first | (at_builtin; refine wpList_app _ rfl (.tmp 27) (.tmp 28) rfl W.heap.size v _ (szs pre) [1] rfl rfl (HS.out.below (Kp.al _ _).below') (Rd.one (g := wr.heap.size) (by simp)) nil_one (by simp; omega) (by have := HK.out.size; simp; omega) ?_))
      intro v' w4 hs4 hk4 _
      have HS4 := Lib.hid hs4
      have HK4 := Lib.hid ((HK.out.nw (.al _ _)).own (HS.out.below (Kp.al _ _).below') hk4)
      clear hs4 hk4
      go_wp2
      go_ret
      exact ⟨v', rfl, by rw [HX.out, szs_snoc]; exact HS4.out, HK4.out⟩

set_option maxHeartbeats 800000 in
theorem sRoundSizes_yes (p : Nat) (W : World) (h : In p 1 1000000000000) : Calls Try.prog 18 #[.int .i64 p] W (ListB W (szs (rounds p)) true) := by
  go_enter Try.func18, Try.ntmps18
  go_wp2_with (first | ((with_reducible refine (twGood_yes _ _ h).mono ?_); rintro e w' ⟨rfl, rfl⟩))
  refine (twSizes_any p _ h).mono ?_
  rintro e w1 ⟨v1, rfl, hs1, hk1⟩
  have HS1 := Lib.hid hs1; have HK1 := Lib.hid hk1; clear hs1 hk1
  go_wp2
  go_ret2
  exact ⟨v1, rfl, HS1.out, HK1.out⟩

theorem sRoundSizes_no (p : Int) (W : World) (h : ¬ In p 1 1000000000000) : Calls Try.prog 18 #[.int .i64 p] W (ListB W [] false) := by
  go_enter Try.func18, Try.ntmps18
  go_wp2_with (first | ((with_reducible refine (twGood_no _ _ h).mono ?_); rintro e w' ⟨rfl, rfl⟩))
  go_ret2
  exact listB_nil _ _

set_option maxHeartbeats 800000 in
theorem sCountRounds_yes (p : Nat) (W : World) (h : In p 1 1000000000000) : Calls Try.prog 23 #[.int .i64 p] W (IntB W (rounds p).length true) := by
  obtain ⟨n, hn⟩ : ∃ n, (rounds p).length = n := ⟨_, rfl⟩
  have HN : Hid ((szs (rounds p)).length = n) := Lib.hid (by simp [szs, hn])
  have h2 := h.hi
  have hb : n ≤ 41 := by have := rounds_len p (by omega); omega
  rw [hn]
  clear hn
  go_enter Try.func23, Try.ntmps23
  go_wp2_with (first | ((with_reducible refine (twGood_yes _ _ h).mono ?_); rintro e w' ⟨rfl, rfl⟩))
  refine (twSizes_any p _ h).mono ?_
  rintro e w1 ⟨v1, rfl, hs1, hk1⟩
  obtain ⟨A1, c1, rfl⟩ := hs1.val HN.out
  have HK1 := Lib.hid hk1; clear hs1 hk1
  go_wp2
  go_ret2
  exact ⟨rfl, HK1.out⟩

theorem sCountRounds_no (p : Int) (W : World) (h : ¬ In p 1 1000000000000) : Calls Try.prog 23 #[.int .i64 p] W (IntB W 0 false) := by
  go_enter Try.func23, Try.ntmps23
  go_wp2_with (first | ((with_reducible refine (twGood_no _ _ h).mono ?_); rintro e w' ⟨rfl, rfl⟩))
  go_ret2
  exact ⟨rfl, .refl _ _⟩

set_option maxHeartbeats 800000 in
theorem iCountRounds_yes (p : Nat) (W : World) (h : In p 1 1000000000000) : Calls Try.prog 24 #[.int .i64 p] W (IntB W (rounds p).length true) := by
  obtain ⟨n, hn⟩ : ∃ n, (rounds p).length = n := ⟨_, rfl⟩
  have HN : Hid ((szs (rounds p)).length = n) := Lib.hid (by simp [szs, hn])
  have h2 := h.hi
  have hb : n ≤ 41 := by have := rounds_len p (by omega); omega
  rw [hn]
  clear hn
  go_enter Try.func24, Try.ntmps24
  go_wp2_with fail
  refine (iRoundSizes_yes p _ h).mono ?_
  rintro e w1 ⟨v1, rfl, hs1, hk1⟩
  obtain ⟨A1, c1, rfl⟩ := hs1.val HN.out
  have HK1 := Lib.hid hk1; clear hs1 hk1
  go_wp2
  go_ret2
  exact ⟨rfl, HK1.out⟩

set_option maxHeartbeats 800000 in
theorem iCountRounds_no (p : Int) (W : World) (h : ¬ In p 1 1000000000000) : Calls Try.prog 24 #[.int .i64 p] W (IntB W 0 false) := by
  go_enter Try.func24, Try.ntmps24
  go_wp2_with fail
  refine (iRoundSizes_no p _ h).mono ?_
  rintro e w1 ⟨v1, rfl, hs1, hk1⟩
  obtain ⟨A1, c1, rfl⟩ := hs1.val (n := 0) rfl
  have HK1 := Lib.hid hk1; clear hs1 hk1
  go_wp2
  go_ret2
  exact ⟨rfl, HK1.out⟩

set_option maxHeartbeats 1600000 in
theorem lawRoundSizes_of (p : Int) (xs : List Int) (b : Bool) (W : World) (hlen : xs.length ≤ 1000000)
    (hS : Hid (∀ w, Kp Nw W w → Calls Try.prog 18 #[.int .i64 p] w (ListB w xs b))) (hI : Hid (∀ w, Kp Nw W w → Calls Try.prog 19 #[.int .i64 p] w (ListB w xs b))) :
    Calls Try.prog 7 #[.int .i64 p] W fun e w' => e = .returned (.bool true) ∧ Kp Nw W w' := by
  obtain ⟨n, hn⟩ : ∃ n, xs.length = n := ⟨_, rfl⟩
  have HL : Hid (xs.length ≤ maxLen) := Lib.hid (by unfold maxLen; omega)
  have hlen : n ≤ 1000000 := by omega
  have hn0 : (0 : Int) ≤ n := Int.natCast_nonneg _
  have HN := Lib.hid hn
  clear hn
  go_enter Try.func7, Try.ntmps7
  go_wp2_with fail
  refine (hS.out _ (.refl _ _)).mono ?_
  rintro e w1 ⟨v1, rfl, hs1, hk1⟩
  obtain ⟨A1, c1, rfl⟩ := hs1.val HN.out
  have HS1 := Lib.hid hs1; have HK1 := Lib.hid hk1; clear hs1 hk1
  go_wp2_with fail
  refine (hI.out _ HK1.out).mono ?_
  rintro e w2 ⟨v2, rfl, hs2, hk2⟩
  obtain ⟨A2, c2, rfl⟩ := hs2.val HN.out
  have O1 := Lib.hid HS1.out.own_ge
  have O2 := Lib.hid hs2.own_ge
  have HS1 := Lib.hid (HS1.out.below hk2.below')
  have HS2 := Lib.hid hs2; have HK2 := Lib.hid (HK1.out.nw hk2); have z2 := hk2.size; clear hs2 hk2
  go_wp2_with fail
  refine (eqIntS_same _ _ xs _ HS2.out.rd HS1.out.rd HL.out).mono ?_
  rintro e w3 ⟨rfl, d1, rfl⟩
  go_wp2_with fail
  refine (markIntS_any _ xs 1 _ _ (HS2.out.drewN d1) (by omega) (by omega) (by rw [HN.out]; omega)).mono ?_
  rintro e w4 ⟨rfl, hs4, hk4⟩
  rw [HN.out] at hs4 ⊢
  have HS1 := Lib.hid ((HS1.out.drewN d1).kp hk4 (fun g a b => by have := (O1.out g a).2; have := (O2.out g b).1; omega))
  have HS4 := Lib.hid hs4
  have HK4 := Lib.hid ((HK2.out.drewN d1).after hk4 (fun g hg b => by have := (O2.out g b).1; have := HK1.out.size; omega))
  clear hs4 hk4
  go_wp2_with fail
  refine (heldIntS_any _ 1 n _ HS4.out.rd (by omega) (by omega) (by omega)).mono ?_
  rintro e w5 ⟨rfl, rfl⟩
  go_wp2_with fail
  refine (hI.out _ HK4.out).mono ?_
  rintro e w6 ⟨v6, rfl, hs6, hk6⟩
  obtain ⟨A6, c6, rfl⟩ := hs6.val HN.out
  have HS4 := Lib.hid (HS4.out.below hk6.below')
  have HS1 := Lib.hid (HS1.out.below hk6.below')
  have HK6 := Lib.hid (HK4.out.nw hk6)
  have HS6 := Lib.hid hs6
  clear hs6 hk6
  go_wp2_with fail
  refine (eqIntS_same _ _ xs _ HS6.out.rd HS1.out.rd HL.out).mono ?_
  rintro e w7 ⟨rfl, d2, rfl⟩
  go_wp2_with fail
  refine (heldIntS_any _ 1 n _ (HS4.out.drewN d2).rd (by omega) (by omega) (by omega)).mono ?_
  rintro e w8 ⟨rfl, rfl⟩
  go_wp2
  go_ret
  exact ⟨rfl, HK6.out.drewN d2⟩

set_option maxHeartbeats 800000 in
theorem lawCountRounds_of (p : Int) (x : Int) (b : Bool) (W : World)
    (hS : Hid (∀ w, Kp Nw W w → Calls Try.prog 23 #[.int .i64 p] w (IntB w x b))) (hI : Hid (∀ w, Kp Nw W w → Calls Try.prog 24 #[.int .i64 p] w (IntB w x b))) :
    Calls Try.prog 8 #[.int .i64 p] W fun e w' => e = .returned (.bool true) ∧ Kp Nw W w' := by
  go_enter Try.func8, Try.ntmps8
  go_wp2_with fail
  refine (hS.out _ (.refl _ _)).mono ?_
  rintro e w1 ⟨rfl, hk1⟩
  have HK1 := Lib.hid hk1
  clear hk1
  go_wp2_with fail
  refine (hI.out _ HK1.out).mono ?_
  rintro e w2 ⟨rfl, hk2⟩
  have HK2 := Lib.hid (HK1.out.nw hk2)
  clear hk2
  go_wp2
  go_ret
  exact ⟨rfl, HK2.out⟩

theorem lawRoundSizes (p : Int) (W : World) :
    Calls Try.prog 7 #[.int .i64 p] W fun e w' => e = .returned (.bool true) ∧ Kp Nw W w' := by
  by_cases h : In p 1 1000000000000
  · have h1 := h.lo; have h2 := h.hi
    obtain ⟨n, rfl⟩ : ∃ n : Nat, p = n := ⟨p.toNat, by omega⟩
    exact lawRoundSizes_of n (szs (rounds n)) true W (by have := rounds_len n (by omega); simp [szs]; omega) (Lib.hid fun w _ => sRoundSizes_yes n w h) (Lib.hid fun w _ => iRoundSizes_yes n w h)
  · exact lawRoundSizes_of p [] false W (by simp) (Lib.hid fun w _ => sRoundSizes_no p w h) (Lib.hid fun w _ => iRoundSizes_no p w h)

theorem lawCountRounds (p : Int) (W : World) :
    Calls Try.prog 8 #[.int .i64 p] W fun e w' => e = .returned (.bool true) ∧ Kp Nw W w' := by
  by_cases h : In p 1 1000000000000
  · have h1 := h.lo; have h2 := h.hi
    obtain ⟨n, rfl⟩ : ∃ n : Nat, p = n := ⟨p.toNat, by omega⟩
    exact lawCountRounds_of n _ true W (Lib.hid fun w _ => sCountRounds_yes n w h) (Lib.hid fun w _ => iCountRounds_yes n w h)
  · exact lawCountRounds_of p _ false W (Lib.hid fun w _ => sCountRounds_no p w h) (Lib.hid fun w _ => iCountRounds_no p w h)
end Go.Proofs.Yteodhoekkeelcaa
