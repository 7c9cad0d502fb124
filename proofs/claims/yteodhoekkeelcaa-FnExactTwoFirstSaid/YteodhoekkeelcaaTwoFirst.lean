/- The first people of the order out by twos (TwoFirst), in the program; no condition but that the numbers are in the chapter's range. -/
import Derived.Test.YteodhoekkeelcaaTurns
import Derived.Test.YteodhoekkeelcaaTurnM
import Derived.BigRegionIn
import Derived.Maps.AppendAt
namespace Go.Proofs.Yteodhoekkeelcaa
open Go.ChangeShapes Go.WideShapes Go.ChangeAt Go.RowKit Go.Shelf Go.IntWalk
attribute [local go_sem] Oper.semAt_some

/-- who goes at a turn of a round, as the program reckons it -/
def atv (x : Rnd) (t : Nat) : Int := wrap64 ((x.f : Int) + wrap64 (((t : Int) - x.b) * x.g))
set_option maxRecDepth 100000 in
set_option maxHeartbeats 1600000 in
theorem at_gen (x : Rnd) (t : Nat) (w : World) (hx : Ok x) (ht : t ≤ 1000) :
    Calls Try.prog 41 #[rndV x, .int .i64 t] w fun e w' => e = .returned (.int .i64 (atv x t)) ∧ w' = w.alloc (.cells (rndC x) 40) := by
  obtain ⟨f, g, s, b⟩ := x
  obtain ⟨h1, h2, h3, h4⟩ := hx
  simp only at h1 h2 h3 h4
  unfold rndV rndC atv
  simp only
  obtain ⟨V, hV⟩ : ∃ V, wrap64 ((f : Int) + wrap64 (((t : Int) - b) * g)) = V := ⟨_, rfl⟩
  rw [hV]
  have HV := Lib.hid hV
  clear hV
  go_enter Try.func41, Try.ntmps41
  go_wp2
  go_ret
  exact ⟨ret_int HV.out, rfl⟩

theorem oper_app {F : Fence} {n : Nat} {o : Oper} {a : Act} {w : World} {K : Act → World → Prop} {Q : Exit → Act → World → Prop} (s x : Operand) (t : TypeId) (ho : o.op = .call { callee := .builtin .append, args := #[s, x], argTypes := #[t, t] })
    (v u v' : Value) (w' : World) (hs : a.eval s = v) (hx : a.eval x = u) (hr : (Builtin.append_ #[t, t] o.type #[v, u]).run Try.prog w = .ok v' w') (h : K (a.put o.dst v') w') : Oper.wpIn F n Try.prog o a w K Q := by
  unfold Oper.wpIn
  refine ⟨by simp [Oper.about, ho, resolve, Target.leads, Sem.run_pure], ?_⟩
  rw [Oper.semAt_plain F _ _ (by rw [ho]; intro c hc'; cases hc')]
  simp [execOp, ho, resolve, invoke, builtin, hs, hx, hr, Result.andThen]
  exact h

/-- rounds with small numbers -/
abbrev Rok := { x : Rnd // Ok x }
theorem rounds_stops2 (n : Nat) (hn : 1 ≤ n) (Bn p : Nat) (hp1 : 1 ≤ p) (hp2 : p ≤ 1000000000000) (w : World) (hB : Bn < w.heap.size) (hc : w.cell? ⟨Bn, 0, none⟩ = some (.int .i64 p)) :
    SeqStopsK Fence.wide n Try.prog 48 #[.pointer (some ⟨Bn, 0, none⟩)] (fun x : Rok => #[rndV x.1]) (KR Bn) (fun ys => ys.map (·.1) = rounds p) (fun _ => True) 41 w := fun l J Jx W hW hJ _ hY h0 =>
  (rounds1_in n hn l Bn p hp1 hp2 (KR Bn) (fun _ _ _ h j _ => h.new j) (fun _ _ h => World.cell?_of_block h.1)
    (fun pre W => ∃ pre' : List Rok, pre'.map (·.1) = pre ∧ J pre' W) (fun _ W => ∃ pre' : List Rok, Jx pre' W) W
    (fun s A B row ⟨pre', e, hj⟩ hg hr => ⟨pre', e, hJ pre' A B row hj hg hr⟩)
    (fun pre x W hok ⟨pre', e, hj⟩ hl => (hY pre' ⟨x, hok⟩ W hj (by rw [← e] at hl; simpa using hl)).mono fun e' W' h => by
      rcases h with ⟨h1, h2, h3⟩ | ⟨h1, h2⟩
      · exact .inl ⟨h1, ⟨pre' ++ [⟨x, hok⟩], by simp [e], h2⟩, h3⟩
      · exact .inr ⟨h1, _, h2⟩)
    ((hW.cell (p := ⟨Bn, 0, none⟩) hB).trans hc) ⟨[], rfl, h0⟩).mono fun e W' h => by
      obtain ⟨h1, h2⟩ := h
      refine ⟨h1, ?_⟩
      rcases h2 with ⟨ys, e1, pre', e2, h3⟩ | ⟨pre, _, pre', h3⟩
      · exact .inl ⟨pre', e2.trans e1, h3⟩
      · exact .inr ⟨pre', trivial, h3⟩

/-- a list goes on by a round, up to c people -/
def extTo (xs : List Int) (x : Rnd) (k : Nat) : List Int := xs ++ (List.range k).map fun i : Nat => atv x (xs.length + i)
def ext (c : Nat) (xs : List Int) (x : Rnd) : List Int := extTo xs x (min c (x.b + x.s) - xs.length)
def acc (c : Nat) (xs : List Rok) : List Int := xs.foldl (fun l x => ext c l x.1) []
theorem acc_snoc (c : Nat) (xs : List Rok) (x : Rok) : acc c (xs ++ [x]) = ext c (acc c xs) x.1 := by simp [acc]
theorem extTo_len (xs : List Int) (x : Rnd) (k : Nat) : (extTo xs x k).length = xs.length + k := by simp [extTo]
theorem extTo_succ (xs : List Int) (x : Rnd) (k : Nat) : extTo xs x (k + 1) = extTo xs x k ++ [atv x (xs.length + k)] := by simp [extTo, List.range_succ]
theorem extTo_zero (xs : List Int) (x : Rnd) : extTo xs x 0 = xs := by simp [extTo]
theorem acc_le (c : Nat) (xs : List Rok) : (acc c xs).length ≤ c := by
  rcases List.eq_nil_or_concat xs with rfl | ⟨r, x, rfl⟩
  · simp [acc]
  · rw [List.concat_eq_append, acc_snoc, ext, extTo_len]
    have : (acc c r).length ≤ c := acc_le c r
    omega
termination_by xs.length
decreasing_by
  subst_vars
  simp

/-- what a round's inner loop keeps, and the list so far -/
structure St (w : World) (S B0 Bx p c : Nat) (x : Rnd) (W : World) (ys : List Int) (v : Value) (wr : World) : Prop where
  box : Boxed wr S 27 v
  row : wr.ownsRow (w.heap.size + 1) 3 1 v ys.length (ys.map (Value.int .i64))
  no : v.ownBlock ≠ some (S + 1)
  pp : Boxed wr (S + 1) 3 (.int .i64 (p : Int))
  cc : Boxed wr w.heap.size 3 (.int .i64 (c : Int))
  bl : Below w.heap.size w wr
  rr : wr.heap[Bx]? = some (.cells (rndC x) 40 (0, 0))
  kf : KeepsFrom B0 W wr
  kr : KR (S + 1) W wr
  sz : W.heap.size ≤ wr.heap.size
theorem St.nw {w : World} {S B0 Bx p c : Nat} {x : Rnd} {W : World} {ys : List Int} {v : Value} {wr wa : World} (h : St w S B0 Bx p c x W ys v wr) (hk : Kp Nw wr wa) : St w S B0 Bx p c x W ys v wa where
  box := (hk.block S h.box.lt (fun h => h)).trans h.box
  row := Sl.kp (xs := ys) h.row hk (fun _ _ h => h)
  no := h.no
  pp := (hk.block _ h.pp.lt (fun h => h)).trans h.pp
  cc := (hk.block _ h.cc.lt (fun h => h)).trans h.cc
  bl := h.bl.trans (hk.below'.mono h.bl.size)
  rr := (hk.block Bx (Array.getElem?_eq_some_iff.1 h.rr).1 (fun h => h)).trans h.rr
  kf := h.kf.trans ⟨hk.size, fun k _ _ ho _ => (hk.block k (Array.getElem?_eq_some_iff.1 ho).1 (fun h => h)).trans ho⟩
  kr := h.kr.trans ⟨hk.block _ h.pp.lt (fun h => h), fun k hk' _ => hk.block k hk' (fun h => h)⟩
  sz := Nat.le_trans h.sz hk.size
theorem St.app {w : World} {S B0 Bx p c : Nat} {x : Rnd} {W : World} {ys : List Int} {v v' : Value} {wr w1 : World} {tmp : Obj} {V : Int} (h : St w S B0 Bx p c x W ys v wr) (hS : w.heap.size + 2 ≤ S)
    (hown : w1.ownsRow (w.heap.size + 1) 3 1 v' (ys.length + 1) (ys.map (Value.int .i64) ++ [.int .i64 V])) (hg : (wr.alloc tmp).grownBy w1 v.ownBlock) (hat : v'.ownBlock = v.ownBlock ∨ v'.ownBlock = some (wr.alloc tmp).heap.size) :
    Boxed w1 S 27 v ∧ St w S B0 Bx p c x W (ys ++ [V]) v' (w1.setCell ⟨S, 0, none⟩ v') := by
  have hbs := h.bl.size
  have hcl := h.cc.lt
  obtain ⟨hv1, hv2, hr2, hk2, hb2⟩ := h.box.appended (by decide) h.row (by omega) (by omega) hown hg
  have hpl := h.pp.lt
  have hS1 : (w1.setCell ⟨S, 0, none⟩ v').heap.size = w1.heap.size := by simp [World.setCell]
  have hgs := hg.size
  rw [World.size_alloc] at hgs
  have hBx : some Bx ≠ v.ownBlock := by
    rcases h.row.2 with ⟨rfl, _⟩ | ⟨g, cap, cur, rfl, _, hgb, _⟩
    · simp [Value.ownBlock]
    · intro e
      obtain rfl : Bx = g := by simpa [Value.ownBlock] using e
      have := h.rr.symm.trans hgb
      simp at this
  have hBS : Bx ≠ S := by
    rintro rfl
    have := h.rr.symm.trans (show wr.heap[Bx]? = _ from h.box)
    simp at this
  have hcb : some w.heap.size ≠ v.ownBlock := by
    rcases h.row.2 with ⟨rfl, _⟩ | ⟨g, cap, cur, rfl, hgg, hgb, _⟩
    · simp [Value.ownBlock]
    · intro e
      obtain e : w.heap.size = g := by simpa [Value.ownBlock] using e
      omega
  refine ⟨hv1, hv2, ?_, ?_, ?_, ?_, ?_, ?_, ?_, ?_, ?_⟩
  · rw [List.length_append, List.map_append]; exact hr2
  · rcases hat with e | e
    · rw [e]; exact h.no
    · rw [e]; simp; omega
  · exact ((h.pp.alloc _).kept hg (fun e => h.no e.symm)).other (by omega) _
  · exact ((h.cc.alloc _).kept hg hcb).other (by omega) _
  · exact h.bl.trans (hb2.mono (by omega))
  · exact (Below.heap_setCell w1 ⟨S, 0, none⟩ v' Bx hBS).trans ((hg.block Bx (by have := (Array.getElem?_eq_some_iff.1 h.rr).1; simp; omega) hBx).trans ((Below.heap_alloc wr tmp Bx (Array.getElem?_eq_some_iff.1 h.rr).1).trans h.rr))
  · exact h.kf.trans (hk2.from _)
  · exact h.kr.trans (KR.app h.box h.row hg hpl (by omega) h.no)
  · have := h.sz; omega

set_option maxRecDepth 100000 in
set_option maxHeartbeats 6400000 in
theorem first_in (n : Nat) (hn : 3 ≤ n) (p c : Nat) (w : World) (h : In p 1 1000000000000) (hc1 : c ≤ p) (hc2 : c ≤ 200) (M : Int) (hM : (if (200 : Int) < p then 200 else (p : Int)) = M) :
    CallsIn Fence.wide n Try.prog 26 #[.int .i64 p, .int .i64 c] w fun e W' => ∃ ys : List Rok, ys.map (·.1) = rounds p ∧ ListB w (acc c ys) true e W' := by
  have h1 := h.lo; have h2 := h.hi
  have hn1 : 1 ≤ n := by omega
  have c0 : (0 : Int) ≤ c := Int.natCast_nonneg _
  have c1 : (c : Int) ≤ p := by omega
  have c2 : (c : Int) ≤ 200 := by omega
  obtain ⟨i0, hi, hz0, hz1, hz2⟩ := info_parts intInfo2
  refine callsIn_of_wp_marks Try.func26 rfl trivial ?_ rfl
  simp only [Try.ntmps26, List.size_toArray, List.length_cons, List.length_nil, Nat.reduceAdd, Nat.reduceSub, Array.replicate_succ, Array.replicate_zero, List.push_toArray, List.append_toArray, List.nil_append, List.cons_append]
  by_cases hp2 : (200 : Int) < p
  · obtain rfl : 200 = M := by rw [← hM]; rw [if_pos hp2]
    clear hM
    gi_wp2_with (first | (refine ⟨trivial, ?_⟩; gi_at_call 34; refine (callsIn_wide.2 (isMany_yes _ _ h)).mono ?_; rintro e w' ⟨rfl, rfl⟩) | (refine ⟨trivial, ?_⟩; gi_at_call 30; refine (callsIn_wide.2 (within_yes _ _ _ _ (by omega) (by omega))).mono ?_; rintro e w' ⟨rfl, rfl⟩) | (refine ⟨trivial, ?_⟩; gi_at_call 44; refine (roundsOf_in (n - 1) p _).mono ?_; rintro e w' ⟨rfl, rfl⟩) | (gi_at_make; refine wpListIn_make_own _ rfl _ _ 27 rfl (w.heap.size + 1) 3 i0 (.int .i64 0) 1 Try.underlying27 hi hz0 hz1 _ _ _ c rfl rfl rfl (by rw [hz2]; omega) (by unfold maxLen; omega) (by simp) ?_; intro w1 hrow hgrow))
    rw [World.size_alloc] at hrow
    have hS : w.heap.size + 2 ≤ w1.heap.size := by have := (World.ownsRow.lt hrow (w.heap.size + 1) rfl).2; omega
    have K1 : Kp Nw w w1 := (Kp.al w (.cells #[.int .i64 (c : Int)] 3)).trans ((Kp.refl Nw _).grown hgrow (fun g hg => by cases hg))
    have bC : Boxed w1 w.heap.size 3 (.int .i64 (c : Int)) := (Boxed.new w 3 (.int .i64 (c : Int))).kept hgrow (by simp)
    obtain ⟨S, hSe⟩ : ∃ S, w1.heap.size = S := ⟨_, rfl⟩
    have bS := (Boxed.new w1 27 (.slice (some ⟨w.heap.size + 1, 0, none⟩) 0 c)).alloc (.cells #[.int .i64 (p : Int)] 3)
    have bP := Boxed.new (w1.alloc (.cells #[.slice (some ⟨w.heap.size + 1, 0, none⟩) 0 c] 27)) 3 (.int .i64 (p : Int))
    have bC2 := (bC.alloc (.cells #[.slice (some ⟨w.heap.size + 1, 0, none⟩) 0 c] 27)).alloc (.cells #[.int .i64 (p : Int)] 3)
    have hrow2 := (hrow.alloc (.cells #[.slice (some ⟨w.heap.size + 1, 0, none⟩) 0 c] 27)).alloc (.cells #[.int .i64 (p : Int)] 3)
    have hB0 : Below w.heap.size w ((w1.alloc (.cells #[.slice (some ⟨w.heap.size + 1, 0, none⟩) 0 c] 27)).alloc (.cells #[.int .i64 (p : Int)] 3)) := (K1.below'.alloc (by omega) _).alloc (by simp; omega) _
    have hsz : ((w1.alloc (.cells #[.slice (some ⟨w.heap.size + 1, 0, none⟩) 0 c] 27)).alloc (.cells #[.int .i64 (p : Int)] 3)).heap.size = S + 2 := by simp [hSe]
    rw [World.size_alloc] at bP
    rw [hSe] at bS bP hS ⊢
    obtain ⟨W0, hW0⟩ : ∃ W0, (w1.alloc (.cells #[.slice (some ⟨w.heap.size + 1, 0, none⟩) 0 c] 27)).alloc (.cells #[.int .i64 (p : Int)] 3) = W0 := ⟨_, rfl⟩
    rw [hW0] at bS bP bC2 hrow2 hB0 hsz ⊢
    clear hW0 hrow hgrow K1 bC
    refine wpIn_rangeFunc_ownH rfl hn1 (gf := 48) (lb := #[.pointer (some ⟨S + 1, 0, none⟩)]) rfl trivial (enters_of Try.func48 (by kernel_rfl) rfl)
      (rounds_stops2 (n - 1) (by omega) (S + 1) p (by omega) (by omega) W0 (by omega) bP.cell) (fun h k => h.trans k) (fun W l o o' hl h ho _ => KR.put (by omega) W l o o' hl h ho) (Below.refl _ _) (fun _ => rfl)
      (fun pre W => ((∃ v, Boxed W S 27 v ∧ W.ownsRow (w.heap.size + 1) 3 1 v (acc c pre).length ((acc c pre).map (Value.int .i64)) ∧ v.ownBlock ≠ some (S + 1)) ∧ (Boxed W (S + 1) 3 (.int .i64 (p : Int)) ∧ Boxed W w.heap.size 3 (.int .i64 (c : Int)))) ∧ Below w.heap.size w W)
      (fun _ _ _ => False)
      (OwnFrom.and (OwnFrom.and (Own.from (holdsRow_own (w.heap.size + 1) S 27 3 1 (fun pre => (acc c pre).length) (fun pre => (acc c pre).map (Value.int .i64)) (fun _ v => v.ownBlock ≠ some (S + 1))) _) (OwnFrom.and (Own.from (boxed_own _ _ _) _) (Own.from (boxed_own _ _ _) _))) (ownFrom_below (Nat.le_refl _) (by omega)))
      (fun _ _ _ _ _ hs _ _ => hs)
      ⟨⟨⟨_, bS, by simpa [acc] using hrow2, by simp [Value.ownBlock]; omega⟩, bP, bC2⟩, hB0⟩
      (fun x a' W => ∃ Bx, S + 1 < Bx ∧ W.heap[Bx]? = some (.cells (rndC x.1) 40 (0, 0)) ∧ a' = { tmps := #[.int .i64 (p : Int), .int .i64 (c : Int), undef, .pointer (some ⟨w.heap.size, 0, none⟩), .slice none 0 0, .bool false, .pointer (some ⟨S, 0, none⟩), .pointer (some ⟨Bx, 0, none⟩), undef, .int .i64 (p : Int), .bool true, .bool false, .bool false, .int .i64 (c : Int), .int .i64 (p : Int), .int .i64 200, .bool true, .bool false, .bool false, .int .i64 (c : Int), .slice (some ⟨w.heap.size + 1, 0, none⟩) 0 c, .int .i64 (p : Int), .func (.func 48) #[] #[.pointer (some ⟨S + 1, 0, none⟩)], rndV x.1, undef, undef, undef, undef, undef, undef, undef, undef, undef, undef, undef, undef, undef, undef, undef, undef, undef, undef, undef, undef], defers := [] })
      (fun x a' _ X Y row hs hg hr => by
        obtain ⟨Bx, h1, h2, h3⟩ := hs
        refine ⟨Bx, h1, (hg.block Bx (Array.getElem?_eq_some_iff.1 h2).1 (fun e => ?_)).trans h2, h3⟩
        obtain ⟨o, ho, hc⟩ := (hr Bx e.symm).2
        rw [h2] at ho
        cases ho
        cases hc)
      ?assign ?body ?done ?stop
    case assign =>
      rintro l pre x W K ⟨⟨⟨v, hv, hrow, hG⟩, hP, hC⟩, hB⟩ hK
      unfold rndV rndC
      gi_wp2
      have hlt := hP.lt
      exact hK _ _ ((KeepsOthers.alloc _ _).from _) ((KR.refl _ W).alloc hlt _ (Nat.le_refl _)) ⟨⟨⟨v, hv.alloc _, hrow.alloc _, hG⟩, hP.alloc _, hC.alloc _⟩, hB.alloc hB.size _⟩ ⟨W.heap.size, hlt, heap_alloc_new W _, rfl⟩
    case body =>
      rintro l pre x a' W hl ⟨r, hr⟩ ⟨⟨⟨v, hv, hrow, hG⟩, hP, hC⟩, hB⟩ ⟨Bx, hBx, bX, rfl⟩ hlt
      have hc := hv.cell
      have hal := acc_le c pre
      obtain ⟨xs, hxs⟩ : ∃ xs, acc c pre = xs := ⟨_, rfl⟩
      rw [hxs] at hrow hal
      have HXS := Lib.hid hxs
      obtain ⟨L, hL⟩ : ∃ L, xs.length = L := ⟨_, rfl⟩
      have hrowL := hrow
      rw [hL] at hal
      have hvs : ∃ A cap, v = .slice A L cap := by
        rcases hrow.2 with ⟨rfl, h0⟩ | ⟨g, cap, cur, rfl, _⟩
        · exact ⟨none, 0, by rw [← hL, h0]⟩
        · exact ⟨_, cap, by rw [hL]⟩
      obtain ⟨A0, cap0, rfl⟩ := hvs
      have HL := Lib.hid hL
      have HC := Lib.hid hC
      clear hxs hL
      gi_wp2
      have st0 : St w S W0.heap.size Bx p c x.1 W xs (.slice A0 L cap0) W := ⟨hv, by rw [HL.out]; simpa [HL.out] using hrow, hG, hP, HC.out, hB, bX, KeepsFrom.refl _ _, KR.refl _ _, Nat.le_refl _⟩
      have HST := Lib.hid st0
      obtain ⟨⟨f, g, s, b⟩, hok⟩ := x
      have o1 := hok.s
      have o2 := hok.b
      simp only at o1 o2
      obtain ⟨mX, hMx⟩ : ∃ mX, min c (b + s) = mX := ⟨_, rfl⟩
      have hMc : mX ≤ c := by omega
      have HMX := Lib.hid hMx
      clear hMx st0
      gi_loopw [8] (fun vt wr => ∃ (k : Nat) (v : Value), vt = .int .i64 ((L + k : Nat) : Int) ∧ k ≤ mX - L ∧ Hid (St w S W0.heap.size Bx p c ⟨f, g, s, b⟩ W (extTo xs ⟨f, g, s, b⟩ k) v wr)) (fun vt _ => 200 - (intOf vt).toNat)
      case atStart => exact ⟨0, _, rfl, Nat.zero_le _, by rw [extTo_zero]; exact HST⟩
      case round =>
        obtain ⟨k, v, rfl, hk, hst⟩ := hrel
        have hs := hst.out
        have hlen : (extTo xs ⟨f, g, s, b⟩ k).length = L + k := by rw [extTo_len, HL.out]
        have vc := hs.box.cell
        have ccl := hs.cc.cell
        have hrr := hs.rr
        unfold rndC at hrr
        have q0 : wr.cell? ⟨Bx, 0, none⟩ = some (.int .i64 (f : Int)) := by simp [World.cell?, hrr]
        have q1 : wr.cell? ⟨Bx, 1, none⟩ = some (.int .i64 (g : Int)) := by simp [World.cell?, hrr]
        have q2 : wr.cell? ⟨Bx, 2, none⟩ = some (.int .i64 (s : Int)) := by simp [World.cell?, hrr]
        have q3 : wr.cell? ⟨Bx, 3, none⟩ = some (.int .i64 (b : Int)) := by simp [World.cell?, hrr]
        have hvs : ∃ A cap, v = .slice A (L + k) cap := by
          have hrow' := hs.row
          rw [hlen] at hrow'
          rcases hrow'.2 with ⟨rfl, h0⟩ | ⟨g, cap, cur, rfl, _⟩
          · exact ⟨none, 0, by rw [← h0]⟩
          · exact ⟨_, cap, rfl⟩
        obtain ⟨A1, cap1, rfl⟩ := hvs
        have HS := Lib.hid hs
        have HRR := Lib.hid hrr
        have HLEN := Lib.hid hlen
        have hxok : Ok ⟨f, g, s, b⟩ := hok
        have hkk : (k : Int) ≤ 200 := by omega
        have hLL : (L : Int) ≤ 200 := by omega
        clear hs hrr hlen hst
        have hxt : L + k ≤ 1000 := by omega
        obtain ⟨V, hV⟩ : ∃ V, atv ⟨f, g, s, b⟩ (L + k) = V := ⟨_, rfl⟩
        have AT : ∀ w m, CallsIn (Fence.wide.inRound l) m Try.prog 41 #[rndV ⟨f, g, s, b⟩, .int .i64 ((L : Int) + k)] w fun e w' => e = .returned (.int .i64 V) ∧ w' = w.alloc (.cells (rndC ⟨f, g, s, b⟩) 40) := by
          intro w m
          have h := CallsIn.inRound (n := m) l (callsIn_wide.2 (at_gen ⟨f, g, s, b⟩ (L + k) w hxok hxt))
          rw [hV] at h
          exact_mod_cast h
        have HAT := Lib.hid AT
        have hst1 := (HS.out.nw ((Kp.refl Nw wr).drew)).nw (Kp.al wr.drew (.cells (rndC ⟨f, g, s, b⟩) 40))
        obtain ⟨v', w1', hr, hown', hgrow, _, hat⟩ := run_append_own_at (P := Try.prog) ((wr.drew.alloc (.cells (rndC ⟨f, g, s, b⟩) 40)).alloc (.cells #[.int .i64 V] 3)) (w.heap.size + 1) 27 27 3 i0 (.int .i64 0) 1 8 Try.underlying27 hi hz0 hz1 hz2 rfl (by decide) _ _ _ (hst1.row.alloc _) ⟨wr.heap.size + 1, 0, none⟩ 1 1 [.int .i64 V] rfl (by intro j u hj; cases j <;> simp at hj; subst hj; exact Boxed.cell (by have := Boxed.new (wr.drew.alloc (.cells (rndC ⟨f, g, s, b⟩) 40)) 3 (.int .i64 V); simpa using this)) (by simp [Value.oneCell']) (by have := HLEN.out; unfold maxLen; omega) (by have := HLEN.out; omega) (by have := hst1.bl.size; have := hst1.cc.lt; simp at this ⊢; omega)
        obtain ⟨hvS, hst2⟩ := St.app hst1 hS hown' hgrow hat
        obtain ⟨g', cap', rfl⟩ := ownsRow_succ hown'
        have hSl : S < wr.heap.size := HS.out.box.lt
        have z1 : ∀ o : Obj, (wr.alloc o).drew.cell? ⟨S, 0, none⟩ = some (.slice A1 (L + k) cap1) := fun o => (HS.out.box.alloc o).cell
        have z2 : ∀ o o' : Obj, ((wr.alloc o).alloc o').drew.cell? ⟨S, 0, none⟩ = some (.slice A1 (L + k) cap1) := fun o o' => ((HS.out.box.alloc o).alloc o').cell
        have HV := Lib.hid hV
        have HST2 := Lib.hid hst2
        clear hst1 hst2 hown' hgrow hat AT hV
        have HEND := Lib.hid (show L + k < mX → ((∃ (k' : Nat) (v : Value), Value.int .i64 ((L : Int) + k + 1) = .int .i64 ((L + k' : Nat) : Int) ∧ k' ≤ mX - L ∧ Hid (St w S W0.heap.size Bx p c ⟨f, g, s, b⟩ W (extTo xs ⟨f, g, s, b⟩ k') v (w1'.setCell ⟨S, 0, none⟩ (.slice (some ⟨g', 0, none⟩) ((extTo xs ⟨f, g, s, b⟩ k).length + 1) cap')))) ∧ 200 - (intOf (.int .i64 ((L : Int) + k + 1))).toNat < 200 - (intOf (.int .i64 ((L + k : Nat) : Int))).toNat) from by
          intro hx
          refine ⟨⟨k + 1, _, by simp; omega, by omega, Lib.hid (by rw [extTo_succ, HL.out, HV.out]; exact HST2.out)⟩, ?_⟩
          simp only [intOf]
          omega)
        have HEXIT := Lib.hid (show ¬ L + k < mX → KeepsFrom W0.heap.size W wr ∧ KR (S + 1) W wr ∧ ((∃ v, Boxed wr S 27 v ∧ wr.ownsRow (w.heap.size + 1) 3 1 v (acc c (pre ++ [⟨⟨f, g, s, b⟩, hok⟩])).length ((acc c (pre ++ [⟨⟨f, g, s, b⟩, hok⟩])).map (Value.int .i64)) ∧ v.ownBlock ≠ some (S + 1)) ∧ (Boxed wr (S + 1) 3 (.int .i64 (p : Int)) ∧ Boxed wr w.heap.size 3 (.int .i64 (c : Int)))) ∧ Below w.heap.size w wr from by
          intro hx
          have hkx : mX - L = k := by omega
          have e : acc c (pre ++ [⟨⟨f, g, s, b⟩, hok⟩]) = extTo xs ⟨f, g, s, b⟩ k := by
            rw [acc_snoc, HXS.out, ext, HL.out]
            show extTo xs ⟨f, g, s, b⟩ (min c (b + s) - L) = _
            rw [HMX.out, hkx]
          rw [e]
          exact ⟨HS.out.kf, HS.out.kr, ⟨⟨_, HS.out.box, HS.out.row, HS.out.no⟩, HS.out.pp, HS.out.cc⟩, HS.out.bl⟩)
        have c9 := hvS.cell
        have f9 := hvS.frozen
        by_cases hm : ((b : Int) + s) < c
        · have hmx : mX = b + s := by have := HMX.out; omega
          by_cases ht : ((L + k : Nat) : Int) < (b : Int) + s
          · have HE := Lib.hid (HEND.out (by omega))
            gi_wp2
            refine wpIn_region_any (by kernel_rfl) ?_
            change wpAnyIn _ _ _ _ _ _ _ _ _ (World.drew _)
            refine wpAnyIn_ready (rs := [0, 1, 2]) (by kernel_rfl) (by simp) (BigFrame.allReadyIn_want rfl rfl (fun K hK => ?_) (BigFrame.allReadyIn_want rfl rfl (fun K hK => ?_) (BigFrame.allReadyIn_want rfl rfl (fun K hK => ?_) (AllReadyIn.nil))))
            · go_simp
              refine hK _ _ ?_
              refine wpAnyIn_ready (rs := [1, 2]) (by kernel_rfl) (by simp) (BigFrame.allReadyIn_want rfl rfl (fun K hK => ?_) (BigFrame.allReadyIn_want rfl rfl (fun K hK => ?_) (AllReadyIn.nil)))
              · go_simp
                refine hK _ _ ?_
                refine wpAnyIn_ready (rs := [2]) (by kernel_rfl) (by simp) (BigFrame.allReadyIn_want rfl rfl (fun K hK => ?_) (AllReadyIn.nil))
                · go_simp
                  refine hK _ _ ?_
                  refine wpAnyIn_ready (rs := [3]) (by kernel_rfl) (by simp) (BigFrame.allReadyIn_want rfl rfl (fun K hK => ?_) (AllReadyIn.nil))
                  · go_simp
                    refine ⟨trivial, fun _ => by omega, ?_⟩
                    refine (HAT.out _ _).mono ?_
                    rintro e w' ⟨rfl, rfl⟩
                    refine hK _ _ ?_
                    refine wpAnyIn_ready (rs := [4]) (by kernel_rfl) (by simp) (BigFrame.allReadyIn_want rfl rfl (fun K hK => ?_) (AllReadyIn.nil))
                    · go_simp
                      refine hK _ _ ?_
                      refine wpAnyIn_ready (rs := [5]) (by kernel_rfl) (by simp) (BigFrame.allReadyIn_want rfl rfl (fun K hK => ?_) (AllReadyIn.nil))
                      · refine oper_app _ _ _ rfl _ _ _ _ rfl rfl hr ?_
                        refine hK _ _ ?_
                        refine wpAnyIn_ready (rs := [6]) (by kernel_rfl) (by simp) (BigFrame.allReadyIn_want rfl rfl (fun K hK => ?_) (AllReadyIn.nil))
                        · go_simp
                          refine hK _ _ ?_
                          refine wpAnyIn_done (by kernel_rfl) ?_ _
                          gi_wp2
                          exact HE.out
              · go_simp
                refine hK _ _ ?_
                refine wpAnyIn_ready (rs := [1]) (by kernel_rfl) (by simp) (BigFrame.allReadyIn_want rfl rfl (fun K hK => ?_) (AllReadyIn.nil))
                · go_simp
                  refine hK _ _ ?_
                  refine wpAnyIn_ready (rs := [3]) (by kernel_rfl) (by simp) (BigFrame.allReadyIn_want rfl rfl (fun K hK => ?_) (AllReadyIn.nil))
                  · go_simp
                    refine ⟨trivial, fun _ => by omega, ?_⟩
                    refine (HAT.out _ _).mono ?_
                    rintro e w' ⟨rfl, rfl⟩
                    refine hK _ _ ?_
                    refine wpAnyIn_ready (rs := [4]) (by kernel_rfl) (by simp) (BigFrame.allReadyIn_want rfl rfl (fun K hK => ?_) (AllReadyIn.nil))
                    · go_simp
                      refine hK _ _ ?_
                      refine wpAnyIn_ready (rs := [5]) (by kernel_rfl) (by simp) (BigFrame.allReadyIn_want rfl rfl (fun K hK => ?_) (AllReadyIn.nil))
                      · refine oper_app _ _ _ rfl _ _ _ _ rfl rfl hr ?_
                        refine hK _ _ ?_
                        refine wpAnyIn_ready (rs := [6]) (by kernel_rfl) (by simp) (BigFrame.allReadyIn_want rfl rfl (fun K hK => ?_) (AllReadyIn.nil))
                        · go_simp
                          refine hK _ _ ?_
                          refine wpAnyIn_done (by kernel_rfl) ?_ _
                          gi_wp2
                          exact HE.out
            · go_simp
              refine hK _ _ ?_
              refine wpAnyIn_ready (rs := [0, 2]) (by kernel_rfl) (by simp) (BigFrame.allReadyIn_want rfl rfl (fun K hK => ?_) (BigFrame.allReadyIn_want rfl rfl (fun K hK => ?_) (AllReadyIn.nil)))
              · go_simp
                refine hK _ _ ?_
                refine wpAnyIn_ready (rs := [2]) (by kernel_rfl) (by simp) (BigFrame.allReadyIn_want rfl rfl (fun K hK => ?_) (AllReadyIn.nil))
                · go_simp
                  refine hK _ _ ?_
                  refine wpAnyIn_ready (rs := [3]) (by kernel_rfl) (by simp) (BigFrame.allReadyIn_want rfl rfl (fun K hK => ?_) (AllReadyIn.nil))
                  · go_simp
                    refine ⟨trivial, fun _ => by omega, ?_⟩
                    refine (HAT.out _ _).mono ?_
                    rintro e w' ⟨rfl, rfl⟩
                    refine hK _ _ ?_
                    refine wpAnyIn_ready (rs := [4]) (by kernel_rfl) (by simp) (BigFrame.allReadyIn_want rfl rfl (fun K hK => ?_) (AllReadyIn.nil))
                    · go_simp
                      refine hK _ _ ?_
                      refine wpAnyIn_ready (rs := [5]) (by kernel_rfl) (by simp) (BigFrame.allReadyIn_want rfl rfl (fun K hK => ?_) (AllReadyIn.nil))
                      · refine oper_app _ _ _ rfl _ _ _ _ rfl rfl hr ?_
                        refine hK _ _ ?_
                        refine wpAnyIn_ready (rs := [6]) (by kernel_rfl) (by simp) (BigFrame.allReadyIn_want rfl rfl (fun K hK => ?_) (AllReadyIn.nil))
                        · go_simp
                          refine hK _ _ ?_
                          refine wpAnyIn_done (by kernel_rfl) ?_ _
                          gi_wp2
                          exact HE.out
              · go_simp
                refine hK _ _ ?_
                refine wpAnyIn_ready (rs := [0, 3]) (by kernel_rfl) (by simp) (BigFrame.allReadyIn_want rfl rfl (fun K hK => ?_) (BigFrame.allReadyIn_want rfl rfl (fun K hK => ?_) (AllReadyIn.nil)))
                · go_simp
                  refine hK _ _ ?_
                  refine wpAnyIn_ready (rs := [3]) (by kernel_rfl) (by simp) (BigFrame.allReadyIn_want rfl rfl (fun K hK => ?_) (AllReadyIn.nil))
                  · go_simp
                    refine ⟨trivial, fun _ => by omega, ?_⟩
                    refine (HAT.out _ _).mono ?_
                    rintro e w' ⟨rfl, rfl⟩
                    refine hK _ _ ?_
                    refine wpAnyIn_ready (rs := [4]) (by kernel_rfl) (by simp) (BigFrame.allReadyIn_want rfl rfl (fun K hK => ?_) (AllReadyIn.nil))
                    · go_simp
                      refine hK _ _ ?_
                      refine wpAnyIn_ready (rs := [5]) (by kernel_rfl) (by simp) (BigFrame.allReadyIn_want rfl rfl (fun K hK => ?_) (AllReadyIn.nil))
                      · refine oper_app _ _ _ rfl _ _ _ _ rfl rfl hr ?_
                        refine hK _ _ ?_
                        refine wpAnyIn_ready (rs := [6]) (by kernel_rfl) (by simp) (BigFrame.allReadyIn_want rfl rfl (fun K hK => ?_) (AllReadyIn.nil))
                        · go_simp
                          refine hK _ _ ?_
                          refine wpAnyIn_done (by kernel_rfl) ?_ _
                          gi_wp2
                          exact HE.out
                · go_simp
                  refine ⟨trivial, fun _ => by omega, ?_⟩
                  refine (HAT.out _ _).mono ?_
                  rintro e w' ⟨rfl, rfl⟩
                  refine hK _ _ ?_
                  refine wpAnyIn_ready (rs := [0, 4]) (by kernel_rfl) (by simp) (BigFrame.allReadyIn_want rfl rfl (fun K hK => ?_) (BigFrame.allReadyIn_want rfl rfl (fun K hK => ?_) (AllReadyIn.nil)))
                  · go_simp
                    refine hK _ _ ?_
                    refine wpAnyIn_ready (rs := [4]) (by kernel_rfl) (by simp) (BigFrame.allReadyIn_want rfl rfl (fun K hK => ?_) (AllReadyIn.nil))
                    · go_simp
                      refine hK _ _ ?_
                      refine wpAnyIn_ready (rs := [5]) (by kernel_rfl) (by simp) (BigFrame.allReadyIn_want rfl rfl (fun K hK => ?_) (AllReadyIn.nil))
                      · refine oper_app _ _ _ rfl _ _ _ _ rfl rfl hr ?_
                        refine hK _ _ ?_
                        refine wpAnyIn_ready (rs := [6]) (by kernel_rfl) (by simp) (BigFrame.allReadyIn_want rfl rfl (fun K hK => ?_) (AllReadyIn.nil))
                        · go_simp
                          refine hK _ _ ?_
                          refine wpAnyIn_done (by kernel_rfl) ?_ _
                          gi_wp2
                          exact HE.out
                  · go_simp
                    refine hK _ _ ?_
                    refine wpAnyIn_ready (rs := [0]) (by kernel_rfl) (by simp) (BigFrame.allReadyIn_want rfl rfl (fun K hK => ?_) (AllReadyIn.nil))
                    · go_simp
                      refine hK _ _ ?_
                      refine wpAnyIn_ready (rs := [5]) (by kernel_rfl) (by simp) (BigFrame.allReadyIn_want rfl rfl (fun K hK => ?_) (AllReadyIn.nil))
                      · refine oper_app _ _ _ rfl _ _ _ _ rfl rfl hr ?_
                        refine hK _ _ ?_
                        refine wpAnyIn_ready (rs := [6]) (by kernel_rfl) (by simp) (BigFrame.allReadyIn_want rfl rfl (fun K hK => ?_) (AllReadyIn.nil))
                        · go_simp
                          refine hK _ _ ?_
                          refine wpAnyIn_done (by kernel_rfl) ?_ _
                          gi_wp2
                          exact HE.out
            · go_simp
              refine hK _ _ ?_
              refine wpAnyIn_ready (rs := [0, 1]) (by kernel_rfl) (by simp) (BigFrame.allReadyIn_want rfl rfl (fun K hK => ?_) (BigFrame.allReadyIn_want rfl rfl (fun K hK => ?_) (AllReadyIn.nil)))
              · go_simp
                refine hK _ _ ?_
                refine wpAnyIn_ready (rs := [1]) (by kernel_rfl) (by simp) (BigFrame.allReadyIn_want rfl rfl (fun K hK => ?_) (AllReadyIn.nil))
                · go_simp
                  refine hK _ _ ?_
                  refine wpAnyIn_ready (rs := [3]) (by kernel_rfl) (by simp) (BigFrame.allReadyIn_want rfl rfl (fun K hK => ?_) (AllReadyIn.nil))
                  · go_simp
                    refine ⟨trivial, fun _ => by omega, ?_⟩
                    refine (HAT.out _ _).mono ?_
                    rintro e w' ⟨rfl, rfl⟩
                    refine hK _ _ ?_
                    refine wpAnyIn_ready (rs := [4]) (by kernel_rfl) (by simp) (BigFrame.allReadyIn_want rfl rfl (fun K hK => ?_) (AllReadyIn.nil))
                    · go_simp
                      refine hK _ _ ?_
                      refine wpAnyIn_ready (rs := [5]) (by kernel_rfl) (by simp) (BigFrame.allReadyIn_want rfl rfl (fun K hK => ?_) (AllReadyIn.nil))
                      · refine oper_app _ _ _ rfl _ _ _ _ rfl rfl hr ?_
                        refine hK _ _ ?_
                        refine wpAnyIn_ready (rs := [6]) (by kernel_rfl) (by simp) (BigFrame.allReadyIn_want rfl rfl (fun K hK => ?_) (AllReadyIn.nil))
                        · go_simp
                          refine hK _ _ ?_
                          refine wpAnyIn_done (by kernel_rfl) ?_ _
                          gi_wp2
                          exact HE.out
              · go_simp
                refine hK _ _ ?_
                refine wpAnyIn_ready (rs := [0, 3]) (by kernel_rfl) (by simp) (BigFrame.allReadyIn_want rfl rfl (fun K hK => ?_) (BigFrame.allReadyIn_want rfl rfl (fun K hK => ?_) (AllReadyIn.nil)))
                · go_simp
                  refine hK _ _ ?_
                  refine wpAnyIn_ready (rs := [3]) (by kernel_rfl) (by simp) (BigFrame.allReadyIn_want rfl rfl (fun K hK => ?_) (AllReadyIn.nil))
                  · go_simp
                    refine ⟨trivial, fun _ => by omega, ?_⟩
                    refine (HAT.out _ _).mono ?_
                    rintro e w' ⟨rfl, rfl⟩
                    refine hK _ _ ?_
                    refine wpAnyIn_ready (rs := [4]) (by kernel_rfl) (by simp) (BigFrame.allReadyIn_want rfl rfl (fun K hK => ?_) (AllReadyIn.nil))
                    · go_simp
                      refine hK _ _ ?_
                      refine wpAnyIn_ready (rs := [5]) (by kernel_rfl) (by simp) (BigFrame.allReadyIn_want rfl rfl (fun K hK => ?_) (AllReadyIn.nil))
                      · refine oper_app _ _ _ rfl _ _ _ _ rfl rfl hr ?_
                        refine hK _ _ ?_
                        refine wpAnyIn_ready (rs := [6]) (by kernel_rfl) (by simp) (BigFrame.allReadyIn_want rfl rfl (fun K hK => ?_) (AllReadyIn.nil))
                        · go_simp
                          refine hK _ _ ?_
                          refine wpAnyIn_done (by kernel_rfl) ?_ _
                          gi_wp2
                          exact HE.out
                · go_simp
                  refine ⟨trivial, fun _ => by omega, ?_⟩
                  refine (HAT.out _ _).mono ?_
                  rintro e w' ⟨rfl, rfl⟩
                  refine hK _ _ ?_
                  refine wpAnyIn_ready (rs := [0, 4]) (by kernel_rfl) (by simp) (BigFrame.allReadyIn_want rfl rfl (fun K hK => ?_) (BigFrame.allReadyIn_want rfl rfl (fun K hK => ?_) (AllReadyIn.nil)))
                  · go_simp
                    refine hK _ _ ?_
                    refine wpAnyIn_ready (rs := [4]) (by kernel_rfl) (by simp) (BigFrame.allReadyIn_want rfl rfl (fun K hK => ?_) (AllReadyIn.nil))
                    · go_simp
                      refine hK _ _ ?_
                      refine wpAnyIn_ready (rs := [5]) (by kernel_rfl) (by simp) (BigFrame.allReadyIn_want rfl rfl (fun K hK => ?_) (AllReadyIn.nil))
                      · refine oper_app _ _ _ rfl _ _ _ _ rfl rfl hr ?_
                        refine hK _ _ ?_
                        refine wpAnyIn_ready (rs := [6]) (by kernel_rfl) (by simp) (BigFrame.allReadyIn_want rfl rfl (fun K hK => ?_) (AllReadyIn.nil))
                        · go_simp
                          refine hK _ _ ?_
                          refine wpAnyIn_done (by kernel_rfl) ?_ _
                          gi_wp2
                          exact HE.out
                  · go_simp
                    refine hK _ _ ?_
                    refine wpAnyIn_ready (rs := [0]) (by kernel_rfl) (by simp) (BigFrame.allReadyIn_want rfl rfl (fun K hK => ?_) (AllReadyIn.nil))
                    · go_simp
                      refine hK _ _ ?_
                      refine wpAnyIn_ready (rs := [5]) (by kernel_rfl) (by simp) (BigFrame.allReadyIn_want rfl rfl (fun K hK => ?_) (AllReadyIn.nil))
                      · refine oper_app _ _ _ rfl _ _ _ _ rfl rfl hr ?_
                        refine hK _ _ ?_
                        refine wpAnyIn_ready (rs := [6]) (by kernel_rfl) (by simp) (BigFrame.allReadyIn_want rfl rfl (fun K hK => ?_) (AllReadyIn.nil))
                        · go_simp
                          refine hK _ _ ?_
                          refine wpAnyIn_done (by kernel_rfl) ?_ _
                          gi_wp2
                          exact HE.out
          · have HE' := HEXIT.out (by omega)
            rw [hsz] at HE'
            have HE := Lib.hid HE'
            clear HE'
            gi_wp2
            exact HE.out
        · have hmx : mX = c := by have := HMX.out; omega
          by_cases ht : ((L + k : Nat) : Int) < (c : Int)
          · have HE := Lib.hid (HEND.out (by omega))
            gi_wp2
            refine wpIn_region_any (by kernel_rfl) ?_
            change wpAnyIn _ _ _ _ _ _ _ _ _ (World.drew _)
            refine wpAnyIn_ready (rs := [0, 1, 2]) (by kernel_rfl) (by simp) (BigFrame.allReadyIn_want rfl rfl (fun K hK => ?_) (BigFrame.allReadyIn_want rfl rfl (fun K hK => ?_) (BigFrame.allReadyIn_want rfl rfl (fun K hK => ?_) (AllReadyIn.nil))))
            · go_simp
              refine hK _ _ ?_
              refine wpAnyIn_ready (rs := [1, 2]) (by kernel_rfl) (by simp) (BigFrame.allReadyIn_want rfl rfl (fun K hK => ?_) (BigFrame.allReadyIn_want rfl rfl (fun K hK => ?_) (AllReadyIn.nil)))
              · go_simp
                refine hK _ _ ?_
                refine wpAnyIn_ready (rs := [2]) (by kernel_rfl) (by simp) (BigFrame.allReadyIn_want rfl rfl (fun K hK => ?_) (AllReadyIn.nil))
                · go_simp
                  refine hK _ _ ?_
                  refine wpAnyIn_ready (rs := [3]) (by kernel_rfl) (by simp) (BigFrame.allReadyIn_want rfl rfl (fun K hK => ?_) (AllReadyIn.nil))
                  · go_simp
                    refine ⟨trivial, fun _ => by omega, ?_⟩
                    refine (HAT.out _ _).mono ?_
                    rintro e w' ⟨rfl, rfl⟩
                    refine hK _ _ ?_
                    refine wpAnyIn_ready (rs := [4]) (by kernel_rfl) (by simp) (BigFrame.allReadyIn_want rfl rfl (fun K hK => ?_) (AllReadyIn.nil))
                    · go_simp
                      refine hK _ _ ?_
                      refine wpAnyIn_ready (rs := [5]) (by kernel_rfl) (by simp) (BigFrame.allReadyIn_want rfl rfl (fun K hK => ?_) (AllReadyIn.nil))
                      · refine oper_app _ _ _ rfl _ _ _ _ rfl rfl hr ?_
                        refine hK _ _ ?_
                        refine wpAnyIn_ready (rs := [6]) (by kernel_rfl) (by simp) (BigFrame.allReadyIn_want rfl rfl (fun K hK => ?_) (AllReadyIn.nil))
                        · go_simp
                          refine hK _ _ ?_
                          refine wpAnyIn_done (by kernel_rfl) ?_ _
                          gi_wp2
                          exact HE.out
              · go_simp
                refine hK _ _ ?_
                refine wpAnyIn_ready (rs := [1]) (by kernel_rfl) (by simp) (BigFrame.allReadyIn_want rfl rfl (fun K hK => ?_) (AllReadyIn.nil))
                · go_simp
                  refine hK _ _ ?_
                  refine wpAnyIn_ready (rs := [3]) (by kernel_rfl) (by simp) (BigFrame.allReadyIn_want rfl rfl (fun K hK => ?_) (AllReadyIn.nil))
                  · go_simp
                    refine ⟨trivial, fun _ => by omega, ?_⟩
                    refine (HAT.out _ _).mono ?_
                    rintro e w' ⟨rfl, rfl⟩
                    refine hK _ _ ?_
                    refine wpAnyIn_ready (rs := [4]) (by kernel_rfl) (by simp) (BigFrame.allReadyIn_want rfl rfl (fun K hK => ?_) (AllReadyIn.nil))
                    · go_simp
                      refine hK _ _ ?_
                      refine wpAnyIn_ready (rs := [5]) (by kernel_rfl) (by simp) (BigFrame.allReadyIn_want rfl rfl (fun K hK => ?_) (AllReadyIn.nil))
                      · refine oper_app _ _ _ rfl _ _ _ _ rfl rfl hr ?_
                        refine hK _ _ ?_
                        refine wpAnyIn_ready (rs := [6]) (by kernel_rfl) (by simp) (BigFrame.allReadyIn_want rfl rfl (fun K hK => ?_) (AllReadyIn.nil))
                        · go_simp
                          refine hK _ _ ?_
                          refine wpAnyIn_done (by kernel_rfl) ?_ _
                          gi_wp2
                          exact HE.out
            · go_simp
              refine hK _ _ ?_
              refine wpAnyIn_ready (rs := [0, 2]) (by kernel_rfl) (by simp) (BigFrame.allReadyIn_want rfl rfl (fun K hK => ?_) (BigFrame.allReadyIn_want rfl rfl (fun K hK => ?_) (AllReadyIn.nil)))
              · go_simp
                refine hK _ _ ?_
                refine wpAnyIn_ready (rs := [2]) (by kernel_rfl) (by simp) (BigFrame.allReadyIn_want rfl rfl (fun K hK => ?_) (AllReadyIn.nil))
                · go_simp
                  refine hK _ _ ?_
                  refine wpAnyIn_ready (rs := [3]) (by kernel_rfl) (by simp) (BigFrame.allReadyIn_want rfl rfl (fun K hK => ?_) (AllReadyIn.nil))
                  · go_simp
                    refine ⟨trivial, fun _ => by omega, ?_⟩
                    refine (HAT.out _ _).mono ?_
                    rintro e w' ⟨rfl, rfl⟩
                    refine hK _ _ ?_
                    refine wpAnyIn_ready (rs := [4]) (by kernel_rfl) (by simp) (BigFrame.allReadyIn_want rfl rfl (fun K hK => ?_) (AllReadyIn.nil))
                    · go_simp
                      refine hK _ _ ?_
                      refine wpAnyIn_ready (rs := [5]) (by kernel_rfl) (by simp) (BigFrame.allReadyIn_want rfl rfl (fun K hK => ?_) (AllReadyIn.nil))
                      · refine oper_app _ _ _ rfl _ _ _ _ rfl rfl hr ?_
                        refine hK _ _ ?_
                        refine wpAnyIn_ready (rs := [6]) (by kernel_rfl) (by simp) (BigFrame.allReadyIn_want rfl rfl (fun K hK => ?_) (AllReadyIn.nil))
                        · go_simp
                          refine hK _ _ ?_
                          refine wpAnyIn_done (by kernel_rfl) ?_ _
                          gi_wp2
                          exact HE.out
              · go_simp
                refine hK _ _ ?_
                refine wpAnyIn_ready (rs := [0, 3]) (by kernel_rfl) (by simp) (BigFrame.allReadyIn_want rfl rfl (fun K hK => ?_) (BigFrame.allReadyIn_want rfl rfl (fun K hK => ?_) (AllReadyIn.nil)))
                · go_simp
                  refine hK _ _ ?_
                  refine wpAnyIn_ready (rs := [3]) (by kernel_rfl) (by simp) (BigFrame.allReadyIn_want rfl rfl (fun K hK => ?_) (AllReadyIn.nil))
                  · go_simp
                    refine ⟨trivial, fun _ => by omega, ?_⟩
                    refine (HAT.out _ _).mono ?_
                    rintro e w' ⟨rfl, rfl⟩
                    refine hK _ _ ?_
                    refine wpAnyIn_ready (rs := [4]) (by kernel_rfl) (by simp) (BigFrame.allReadyIn_want rfl rfl (fun K hK => ?_) (AllReadyIn.nil))
                    · go_simp
                      refine hK _ _ ?_
                      refine wpAnyIn_ready (rs := [5]) (by kernel_rfl) (by simp) (BigFrame.allReadyIn_want rfl rfl (fun K hK => ?_) (AllReadyIn.nil))
                      · refine oper_app _ _ _ rfl _ _ _ _ rfl rfl hr ?_
                        refine hK _ _ ?_
                        refine wpAnyIn_ready (rs := [6]) (by kernel_rfl) (by simp) (BigFrame.allReadyIn_want rfl rfl (fun K hK => ?_) (AllReadyIn.nil))
                        · go_simp
                          refine hK _ _ ?_
                          refine wpAnyIn_done (by kernel_rfl) ?_ _
                          gi_wp2
                          exact HE.out
                · go_simp
                  refine ⟨trivial, fun _ => by omega, ?_⟩
                  refine (HAT.out _ _).mono ?_
                  rintro e w' ⟨rfl, rfl⟩
                  refine hK _ _ ?_
                  refine wpAnyIn_ready (rs := [0, 4]) (by kernel_rfl) (by simp) (BigFrame.allReadyIn_want rfl rfl (fun K hK => ?_) (BigFrame.allReadyIn_want rfl rfl (fun K hK => ?_) (AllReadyIn.nil)))
                  · go_simp
                    refine hK _ _ ?_
                    refine wpAnyIn_ready (rs := [4]) (by kernel_rfl) (by simp) (BigFrame.allReadyIn_want rfl rfl (fun K hK => ?_) (AllReadyIn.nil))
                    · go_simp
                      refine hK _ _ ?_
                      refine wpAnyIn_ready (rs := [5]) (by kernel_rfl) (by simp) (BigFrame.allReadyIn_want rfl rfl (fun K hK => ?_) (AllReadyIn.nil))
                      · refine oper_app _ _ _ rfl _ _ _ _ rfl rfl hr ?_
                        refine hK _ _ ?_
                        refine wpAnyIn_ready (rs := [6]) (by kernel_rfl) (by simp) (BigFrame.allReadyIn_want rfl rfl (fun K hK => ?_) (AllReadyIn.nil))
                        · go_simp
                          refine hK _ _ ?_
                          refine wpAnyIn_done (by kernel_rfl) ?_ _
                          gi_wp2
                          exact HE.out
                  · go_simp
                    refine hK _ _ ?_
                    refine wpAnyIn_ready (rs := [0]) (by kernel_rfl) (by simp) (BigFrame.allReadyIn_want rfl rfl (fun K hK => ?_) (AllReadyIn.nil))
                    · go_simp
                      refine hK _ _ ?_
                      refine wpAnyIn_ready (rs := [5]) (by kernel_rfl) (by simp) (BigFrame.allReadyIn_want rfl rfl (fun K hK => ?_) (AllReadyIn.nil))
                      · refine oper_app _ _ _ rfl _ _ _ _ rfl rfl hr ?_
                        refine hK _ _ ?_
                        refine wpAnyIn_ready (rs := [6]) (by kernel_rfl) (by simp) (BigFrame.allReadyIn_want rfl rfl (fun K hK => ?_) (AllReadyIn.nil))
                        · go_simp
                          refine hK _ _ ?_
                          refine wpAnyIn_done (by kernel_rfl) ?_ _
                          gi_wp2
                          exact HE.out
            · go_simp
              refine hK _ _ ?_
              refine wpAnyIn_ready (rs := [0, 1]) (by kernel_rfl) (by simp) (BigFrame.allReadyIn_want rfl rfl (fun K hK => ?_) (BigFrame.allReadyIn_want rfl rfl (fun K hK => ?_) (AllReadyIn.nil)))
              · go_simp
                refine hK _ _ ?_
                refine wpAnyIn_ready (rs := [1]) (by kernel_rfl) (by simp) (BigFrame.allReadyIn_want rfl rfl (fun K hK => ?_) (AllReadyIn.nil))
                · go_simp
                  refine hK _ _ ?_
                  refine wpAnyIn_ready (rs := [3]) (by kernel_rfl) (by simp) (BigFrame.allReadyIn_want rfl rfl (fun K hK => ?_) (AllReadyIn.nil))
                  · go_simp
                    refine ⟨trivial, fun _ => by omega, ?_⟩
                    refine (HAT.out _ _).mono ?_
                    rintro e w' ⟨rfl, rfl⟩
                    refine hK _ _ ?_
                    refine wpAnyIn_ready (rs := [4]) (by kernel_rfl) (by simp) (BigFrame.allReadyIn_want rfl rfl (fun K hK => ?_) (AllReadyIn.nil))
                    · go_simp
                      refine hK _ _ ?_
                      refine wpAnyIn_ready (rs := [5]) (by kernel_rfl) (by simp) (BigFrame.allReadyIn_want rfl rfl (fun K hK => ?_) (AllReadyIn.nil))
                      · refine oper_app _ _ _ rfl _ _ _ _ rfl rfl hr ?_
                        refine hK _ _ ?_
                        refine wpAnyIn_ready (rs := [6]) (by kernel_rfl) (by simp) (BigFrame.allReadyIn_want rfl rfl (fun K hK => ?_) (AllReadyIn.nil))
                        · go_simp
                          refine hK _ _ ?_
                          refine wpAnyIn_done (by kernel_rfl) ?_ _
                          gi_wp2
                          exact HE.out
              · go_simp
                refine hK _ _ ?_
                refine wpAnyIn_ready (rs := [0, 3]) (by kernel_rfl) (by simp) (BigFrame.allReadyIn_want rfl rfl (fun K hK => ?_) (BigFrame.allReadyIn_want rfl rfl (fun K hK => ?_) (AllReadyIn.nil)))
                · go_simp
                  refine hK _ _ ?_
                  refine wpAnyIn_ready (rs := [3]) (by kernel_rfl) (by simp) (BigFrame.allReadyIn_want rfl rfl (fun K hK => ?_) (AllReadyIn.nil))
                  · go_simp
                    refine ⟨trivial, fun _ => by omega, ?_⟩
                    refine (HAT.out _ _).mono ?_
                    rintro e w' ⟨rfl, rfl⟩
                    refine hK _ _ ?_
                    refine wpAnyIn_ready (rs := [4]) (by kernel_rfl) (by simp) (BigFrame.allReadyIn_want rfl rfl (fun K hK => ?_) (AllReadyIn.nil))
                    · go_simp
                      refine hK _ _ ?_
                      refine wpAnyIn_ready (rs := [5]) (by kernel_rfl) (by simp) (BigFrame.allReadyIn_want rfl rfl (fun K hK => ?_) (AllReadyIn.nil))
                      · refine oper_app _ _ _ rfl _ _ _ _ rfl rfl hr ?_
                        refine hK _ _ ?_
                        refine wpAnyIn_ready (rs := [6]) (by kernel_rfl) (by simp) (BigFrame.allReadyIn_want rfl rfl (fun K hK => ?_) (AllReadyIn.nil))
                        · go_simp
                          refine hK _ _ ?_
                          refine wpAnyIn_done (by kernel_rfl) ?_ _
                          gi_wp2
                          exact HE.out
                · go_simp
                  refine ⟨trivial, fun _ => by omega, ?_⟩
                  refine (HAT.out _ _).mono ?_
                  rintro e w' ⟨rfl, rfl⟩
                  refine hK _ _ ?_
                  refine wpAnyIn_ready (rs := [0, 4]) (by kernel_rfl) (by simp) (BigFrame.allReadyIn_want rfl rfl (fun K hK => ?_) (BigFrame.allReadyIn_want rfl rfl (fun K hK => ?_) (AllReadyIn.nil)))
                  · go_simp
                    refine hK _ _ ?_
                    refine wpAnyIn_ready (rs := [4]) (by kernel_rfl) (by simp) (BigFrame.allReadyIn_want rfl rfl (fun K hK => ?_) (AllReadyIn.nil))
                    · go_simp
                      refine hK _ _ ?_
                      refine wpAnyIn_ready (rs := [5]) (by kernel_rfl) (by simp) (BigFrame.allReadyIn_want rfl rfl (fun K hK => ?_) (AllReadyIn.nil))
                      · refine oper_app _ _ _ rfl _ _ _ _ rfl rfl hr ?_
                        refine hK _ _ ?_
                        refine wpAnyIn_ready (rs := [6]) (by kernel_rfl) (by simp) (BigFrame.allReadyIn_want rfl rfl (fun K hK => ?_) (AllReadyIn.nil))
                        · go_simp
                          refine hK _ _ ?_
                          refine wpAnyIn_done (by kernel_rfl) ?_ _
                          gi_wp2
                          exact HE.out
                  · go_simp
                    refine hK _ _ ?_
                    refine wpAnyIn_ready (rs := [0]) (by kernel_rfl) (by simp) (BigFrame.allReadyIn_want rfl rfl (fun K hK => ?_) (AllReadyIn.nil))
                    · go_simp
                      refine hK _ _ ?_
                      refine wpAnyIn_ready (rs := [5]) (by kernel_rfl) (by simp) (BigFrame.allReadyIn_want rfl rfl (fun K hK => ?_) (AllReadyIn.nil))
                      · refine oper_app _ _ _ rfl _ _ _ _ rfl rfl hr ?_
                        refine hK _ _ ?_
                        refine wpAnyIn_ready (rs := [6]) (by kernel_rfl) (by simp) (BigFrame.allReadyIn_want rfl rfl (fun K hK => ?_) (AllReadyIn.nil))
                        · go_simp
                          refine hK _ _ ?_
                          refine wpAnyIn_done (by kernel_rfl) ?_ _
                          gi_wp2
                          exact HE.out
          · have HE' := HEXIT.out (by omega)
            rw [hsz] at HE'
            have HE := Lib.hid HE'
            clear HE'
            gi_wp2
            exact HE.out
    case done =>
      rintro D ys W hD hys ⟨⟨⟨v, hv, hrow, hG⟩, hP, hC⟩, hB⟩ hK
      have hc := hv.cell
      gi_wp2
      refine ⟨by simp, .inl ⟨_, _, rfl, run_takeDeferred hK, ?_⟩⟩
      exact ⟨_, results_tmp2 rfl _ _ _, ys, hys, v, rfl, Sl.from (ownsRow_putObj hrow _ hK rfl) (Nat.le_succ _), Kp.of_below (hB.trans (belowK_b (w := w) (Nat.le_refl _) W D _ _ (by omega) hK rfl rfl))⟩
    case stop =>
      rintro D c pre W _ _ h _
      exact h.elim
  · obtain rfl : (p : Int) = M := by rw [← hM]; rw [if_neg hp2]
    clear hM
    gi_wp2_with (first | (refine ⟨trivial, ?_⟩; gi_at_call 34; refine (callsIn_wide.2 (isMany_yes _ _ h)).mono ?_; rintro e w' ⟨rfl, rfl⟩) | (refine ⟨trivial, ?_⟩; gi_at_call 30; refine (callsIn_wide.2 (within_yes _ _ _ _ (by omega) (by omega))).mono ?_; rintro e w' ⟨rfl, rfl⟩) | (refine ⟨trivial, ?_⟩; gi_at_call 44; refine (roundsOf_in (n - 1) p _).mono ?_; rintro e w' ⟨rfl, rfl⟩) | (gi_at_make; refine wpListIn_make_own _ rfl _ _ 27 rfl (w.heap.size + 1) 3 i0 (.int .i64 0) 1 Try.underlying27 hi hz0 hz1 _ _ _ c rfl rfl rfl (by rw [hz2]; omega) (by unfold maxLen; omega) (by simp) ?_; intro w1 hrow hgrow))
    rw [World.size_alloc] at hrow
    have hS : w.heap.size + 2 ≤ w1.heap.size := by have := (World.ownsRow.lt hrow (w.heap.size + 1) rfl).2; omega
    have K1 : Kp Nw w w1 := (Kp.al w (.cells #[.int .i64 (c : Int)] 3)).trans ((Kp.refl Nw _).grown hgrow (fun g hg => by cases hg))
    have bC : Boxed w1 w.heap.size 3 (.int .i64 (c : Int)) := (Boxed.new w 3 (.int .i64 (c : Int))).kept hgrow (by simp)
    obtain ⟨S, hSe⟩ : ∃ S, w1.heap.size = S := ⟨_, rfl⟩
    have bS := (Boxed.new w1 27 (.slice (some ⟨w.heap.size + 1, 0, none⟩) 0 c)).alloc (.cells #[.int .i64 (p : Int)] 3)
    have bP := Boxed.new (w1.alloc (.cells #[.slice (some ⟨w.heap.size + 1, 0, none⟩) 0 c] 27)) 3 (.int .i64 (p : Int))
    have bC2 := (bC.alloc (.cells #[.slice (some ⟨w.heap.size + 1, 0, none⟩) 0 c] 27)).alloc (.cells #[.int .i64 (p : Int)] 3)
    have hrow2 := (hrow.alloc (.cells #[.slice (some ⟨w.heap.size + 1, 0, none⟩) 0 c] 27)).alloc (.cells #[.int .i64 (p : Int)] 3)
    have hB0 : Below w.heap.size w ((w1.alloc (.cells #[.slice (some ⟨w.heap.size + 1, 0, none⟩) 0 c] 27)).alloc (.cells #[.int .i64 (p : Int)] 3)) := (K1.below'.alloc (by omega) _).alloc (by simp; omega) _
    have hsz : ((w1.alloc (.cells #[.slice (some ⟨w.heap.size + 1, 0, none⟩) 0 c] 27)).alloc (.cells #[.int .i64 (p : Int)] 3)).heap.size = S + 2 := by simp [hSe]
    rw [World.size_alloc] at bP
    rw [hSe] at bS bP hS ⊢
    obtain ⟨W0, hW0⟩ : ∃ W0, (w1.alloc (.cells #[.slice (some ⟨w.heap.size + 1, 0, none⟩) 0 c] 27)).alloc (.cells #[.int .i64 (p : Int)] 3) = W0 := ⟨_, rfl⟩
    rw [hW0] at bS bP bC2 hrow2 hB0 hsz ⊢
    clear hW0 hrow hgrow K1 bC
    refine wpIn_rangeFunc_ownH rfl hn1 (gf := 48) (lb := #[.pointer (some ⟨S + 1, 0, none⟩)]) rfl trivial (enters_of Try.func48 (by kernel_rfl) rfl)
      (rounds_stops2 (n - 1) (by omega) (S + 1) p (by omega) (by omega) W0 (by omega) bP.cell) (fun h k => h.trans k) (fun W l o o' hl h ho _ => KR.put (by omega) W l o o' hl h ho) (Below.refl _ _) (fun _ => rfl)
      (fun pre W => ((∃ v, Boxed W S 27 v ∧ W.ownsRow (w.heap.size + 1) 3 1 v (acc c pre).length ((acc c pre).map (Value.int .i64)) ∧ v.ownBlock ≠ some (S + 1)) ∧ (Boxed W (S + 1) 3 (.int .i64 (p : Int)) ∧ Boxed W w.heap.size 3 (.int .i64 (c : Int)))) ∧ Below w.heap.size w W)
      (fun _ _ _ => False)
      (OwnFrom.and (OwnFrom.and (Own.from (holdsRow_own (w.heap.size + 1) S 27 3 1 (fun pre => (acc c pre).length) (fun pre => (acc c pre).map (Value.int .i64)) (fun _ v => v.ownBlock ≠ some (S + 1))) _) (OwnFrom.and (Own.from (boxed_own _ _ _) _) (Own.from (boxed_own _ _ _) _))) (ownFrom_below (Nat.le_refl _) (by omega)))
      (fun _ _ _ _ _ hs _ _ => hs)
      ⟨⟨⟨_, bS, by simpa [acc] using hrow2, by simp [Value.ownBlock]; omega⟩, bP, bC2⟩, hB0⟩
      (fun x a' W => ∃ Bx, S + 1 < Bx ∧ W.heap[Bx]? = some (.cells (rndC x.1) 40 (0, 0)) ∧ a' = { tmps := #[.int .i64 (p : Int), .int .i64 (c : Int), undef, .pointer (some ⟨w.heap.size, 0, none⟩), .slice none 0 0, .bool false, .pointer (some ⟨S, 0, none⟩), .pointer (some ⟨Bx, 0, none⟩), undef, .int .i64 (p : Int), .bool true, .bool false, .bool false, .int .i64 (c : Int), .int .i64 (p : Int), .int .i64 (p : Int), .bool true, .bool false, .bool false, .int .i64 (c : Int), .slice (some ⟨w.heap.size + 1, 0, none⟩) 0 c, .int .i64 (p : Int), .func (.func 48) #[] #[.pointer (some ⟨S + 1, 0, none⟩)], rndV x.1, undef, undef, undef, undef, undef, undef, undef, undef, undef, undef, undef, undef, undef, undef, undef, undef, undef, undef, undef, undef], defers := [] })
      (fun x a' _ X Y row hs hg hr => by
        obtain ⟨Bx, h1, h2, h3⟩ := hs
        refine ⟨Bx, h1, (hg.block Bx (Array.getElem?_eq_some_iff.1 h2).1 (fun e => ?_)).trans h2, h3⟩
        obtain ⟨o, ho, hc⟩ := (hr Bx e.symm).2
        rw [h2] at ho
        cases ho
        cases hc)
      ?assign ?body ?done ?stop
    case assign =>
      rintro l pre x W K ⟨⟨⟨v, hv, hrow, hG⟩, hP, hC⟩, hB⟩ hK
      unfold rndV rndC
      gi_wp2
      have hlt := hP.lt
      exact hK _ _ ((KeepsOthers.alloc _ _).from _) ((KR.refl _ W).alloc hlt _ (Nat.le_refl _)) ⟨⟨⟨v, hv.alloc _, hrow.alloc _, hG⟩, hP.alloc _, hC.alloc _⟩, hB.alloc hB.size _⟩ ⟨W.heap.size, hlt, heap_alloc_new W _, rfl⟩
    case body =>
      rintro l pre x a' W hl ⟨r, hr⟩ ⟨⟨⟨v, hv, hrow, hG⟩, hP, hC⟩, hB⟩ ⟨Bx, hBx, bX, rfl⟩ hlt
      have hc := hv.cell
      have hal := acc_le c pre
      obtain ⟨xs, hxs⟩ : ∃ xs, acc c pre = xs := ⟨_, rfl⟩
      rw [hxs] at hrow hal
      have HXS := Lib.hid hxs
      obtain ⟨L, hL⟩ : ∃ L, xs.length = L := ⟨_, rfl⟩
      have hrowL := hrow
      rw [hL] at hal
      have hvs : ∃ A cap, v = .slice A L cap := by
        rcases hrow.2 with ⟨rfl, h0⟩ | ⟨g, cap, cur, rfl, _⟩
        · exact ⟨none, 0, by rw [← hL, h0]⟩
        · exact ⟨_, cap, by rw [hL]⟩
      obtain ⟨A0, cap0, rfl⟩ := hvs
      have HL := Lib.hid hL
      have HC := Lib.hid hC
      clear hxs hL
      gi_wp2
      have st0 : St w S W0.heap.size Bx p c x.1 W xs (.slice A0 L cap0) W := ⟨hv, by rw [HL.out]; simpa [HL.out] using hrow, hG, hP, HC.out, hB, bX, KeepsFrom.refl _ _, KR.refl _ _, Nat.le_refl _⟩
      have HST := Lib.hid st0
      obtain ⟨⟨f, g, s, b⟩, hok⟩ := x
      have o1 := hok.s
      have o2 := hok.b
      simp only at o1 o2
      obtain ⟨mX, hMx⟩ : ∃ mX, min c (b + s) = mX := ⟨_, rfl⟩
      have hMc : mX ≤ c := by omega
      have HMX := Lib.hid hMx
      clear hMx st0
      gi_loopw [8] (fun vt wr => ∃ (k : Nat) (v : Value), vt = .int .i64 ((L + k : Nat) : Int) ∧ k ≤ mX - L ∧ Hid (St w S W0.heap.size Bx p c ⟨f, g, s, b⟩ W (extTo xs ⟨f, g, s, b⟩ k) v wr)) (fun vt _ => 200 - (intOf vt).toNat)
      case atStart => exact ⟨0, _, rfl, Nat.zero_le _, by rw [extTo_zero]; exact HST⟩
      case round =>
        obtain ⟨k, v, rfl, hk, hst⟩ := hrel
        have hs := hst.out
        have hlen : (extTo xs ⟨f, g, s, b⟩ k).length = L + k := by rw [extTo_len, HL.out]
        have vc := hs.box.cell
        have ccl := hs.cc.cell
        have hrr := hs.rr
        unfold rndC at hrr
        have q0 : wr.cell? ⟨Bx, 0, none⟩ = some (.int .i64 (f : Int)) := by simp [World.cell?, hrr]
        have q1 : wr.cell? ⟨Bx, 1, none⟩ = some (.int .i64 (g : Int)) := by simp [World.cell?, hrr]
        have q2 : wr.cell? ⟨Bx, 2, none⟩ = some (.int .i64 (s : Int)) := by simp [World.cell?, hrr]
        have q3 : wr.cell? ⟨Bx, 3, none⟩ = some (.int .i64 (b : Int)) := by simp [World.cell?, hrr]
        have hvs : ∃ A cap, v = .slice A (L + k) cap := by
          have hrow' := hs.row
          rw [hlen] at hrow'
          rcases hrow'.2 with ⟨rfl, h0⟩ | ⟨g, cap, cur, rfl, _⟩
          · exact ⟨none, 0, by rw [← h0]⟩
          · exact ⟨_, cap, rfl⟩
        obtain ⟨A1, cap1, rfl⟩ := hvs
        have HS := Lib.hid hs
        have HRR := Lib.hid hrr
        have HLEN := Lib.hid hlen
        have hxok : Ok ⟨f, g, s, b⟩ := hok
        have hkk : (k : Int) ≤ 200 := by omega
        have hLL : (L : Int) ≤ 200 := by omega
        clear hs hrr hlen hst
        have hxt : L + k ≤ 1000 := by omega
        obtain ⟨V, hV⟩ : ∃ V, atv ⟨f, g, s, b⟩ (L + k) = V := ⟨_, rfl⟩
        have AT : ∀ w m, CallsIn (Fence.wide.inRound l) m Try.prog 41 #[rndV ⟨f, g, s, b⟩, .int .i64 ((L : Int) + k)] w fun e w' => e = .returned (.int .i64 V) ∧ w' = w.alloc (.cells (rndC ⟨f, g, s, b⟩) 40) := by
          intro w m
          have h := CallsIn.inRound (n := m) l (callsIn_wide.2 (at_gen ⟨f, g, s, b⟩ (L + k) w hxok hxt))
          rw [hV] at h
          exact_mod_cast h
        have HAT := Lib.hid AT
        have hst1 := (HS.out.nw ((Kp.refl Nw wr).drew)).nw (Kp.al wr.drew (.cells (rndC ⟨f, g, s, b⟩) 40))
        obtain ⟨v', w1', hr, hown', hgrow, _, hat⟩ := run_append_own_at (P := Try.prog) ((wr.drew.alloc (.cells (rndC ⟨f, g, s, b⟩) 40)).alloc (.cells #[.int .i64 V] 3)) (w.heap.size + 1) 27 27 3 i0 (.int .i64 0) 1 8 Try.underlying27 hi hz0 hz1 hz2 rfl (by decide) _ _ _ (hst1.row.alloc _) ⟨wr.heap.size + 1, 0, none⟩ 1 1 [.int .i64 V] rfl (by intro j u hj; cases j <;> simp at hj; subst hj; exact Boxed.cell (by have := Boxed.new (wr.drew.alloc (.cells (rndC ⟨f, g, s, b⟩) 40)) 3 (.int .i64 V); simpa using this)) (by simp [Value.oneCell']) (by have := HLEN.out; unfold maxLen; omega) (by have := HLEN.out; omega) (by have := hst1.bl.size; have := hst1.cc.lt; simp at this ⊢; omega)
        obtain ⟨hvS, hst2⟩ := St.app hst1 hS hown' hgrow hat
        obtain ⟨g', cap', rfl⟩ := ownsRow_succ hown'
        have hSl : S < wr.heap.size := HS.out.box.lt
        have z1 : ∀ o : Obj, (wr.alloc o).drew.cell? ⟨S, 0, none⟩ = some (.slice A1 (L + k) cap1) := fun o => (HS.out.box.alloc o).cell
        have z2 : ∀ o o' : Obj, ((wr.alloc o).alloc o').drew.cell? ⟨S, 0, none⟩ = some (.slice A1 (L + k) cap1) := fun o o' => ((HS.out.box.alloc o).alloc o').cell
        have HV := Lib.hid hV
        have HST2 := Lib.hid hst2
        clear hst1 hst2 hown' hgrow hat AT hV
        have HEND := Lib.hid (show L + k < mX → ((∃ (k' : Nat) (v : Value), Value.int .i64 ((L : Int) + k + 1) = .int .i64 ((L + k' : Nat) : Int) ∧ k' ≤ mX - L ∧ Hid (St w S W0.heap.size Bx p c ⟨f, g, s, b⟩ W (extTo xs ⟨f, g, s, b⟩ k') v (w1'.setCell ⟨S, 0, none⟩ (.slice (some ⟨g', 0, none⟩) ((extTo xs ⟨f, g, s, b⟩ k).length + 1) cap')))) ∧ 200 - (intOf (.int .i64 ((L : Int) + k + 1))).toNat < 200 - (intOf (.int .i64 ((L + k : Nat) : Int))).toNat) from by
          intro hx
          refine ⟨⟨k + 1, _, by simp; omega, by omega, Lib.hid (by rw [extTo_succ, HL.out, HV.out]; exact HST2.out)⟩, ?_⟩
          simp only [intOf]
          omega)
        have HEXIT := Lib.hid (show ¬ L + k < mX → KeepsFrom W0.heap.size W wr ∧ KR (S + 1) W wr ∧ ((∃ v, Boxed wr S 27 v ∧ wr.ownsRow (w.heap.size + 1) 3 1 v (acc c (pre ++ [⟨⟨f, g, s, b⟩, hok⟩])).length ((acc c (pre ++ [⟨⟨f, g, s, b⟩, hok⟩])).map (Value.int .i64)) ∧ v.ownBlock ≠ some (S + 1)) ∧ (Boxed wr (S + 1) 3 (.int .i64 (p : Int)) ∧ Boxed wr w.heap.size 3 (.int .i64 (c : Int)))) ∧ Below w.heap.size w wr from by
          intro hx
          have hkx : mX - L = k := by omega
          have e : acc c (pre ++ [⟨⟨f, g, s, b⟩, hok⟩]) = extTo xs ⟨f, g, s, b⟩ k := by
            rw [acc_snoc, HXS.out, ext, HL.out]
            show extTo xs ⟨f, g, s, b⟩ (min c (b + s) - L) = _
            rw [HMX.out, hkx]
          rw [e]
          exact ⟨HS.out.kf, HS.out.kr, ⟨⟨_, HS.out.box, HS.out.row, HS.out.no⟩, HS.out.pp, HS.out.cc⟩, HS.out.bl⟩)
        have c9 := hvS.cell
        have f9 := hvS.frozen
        by_cases hm : ((b : Int) + s) < c
        · have hmx : mX = b + s := by have := HMX.out; omega
          by_cases ht : ((L + k : Nat) : Int) < (b : Int) + s
          · have HE := Lib.hid (HEND.out (by omega))
            gi_wp2
            refine wpIn_region_any (by kernel_rfl) ?_
            change wpAnyIn _ _ _ _ _ _ _ _ _ (World.drew _)
            refine wpAnyIn_ready (rs := [0, 1, 2]) (by kernel_rfl) (by simp) (BigFrame.allReadyIn_want rfl rfl (fun K hK => ?_) (BigFrame.allReadyIn_want rfl rfl (fun K hK => ?_) (BigFrame.allReadyIn_want rfl rfl (fun K hK => ?_) (AllReadyIn.nil))))
            · go_simp
              refine hK _ _ ?_
              refine wpAnyIn_ready (rs := [1, 2]) (by kernel_rfl) (by simp) (BigFrame.allReadyIn_want rfl rfl (fun K hK => ?_) (BigFrame.allReadyIn_want rfl rfl (fun K hK => ?_) (AllReadyIn.nil)))
              · go_simp
                refine hK _ _ ?_
                refine wpAnyIn_ready (rs := [2]) (by kernel_rfl) (by simp) (BigFrame.allReadyIn_want rfl rfl (fun K hK => ?_) (AllReadyIn.nil))
                · go_simp
                  refine hK _ _ ?_
                  refine wpAnyIn_ready (rs := [3]) (by kernel_rfl) (by simp) (BigFrame.allReadyIn_want rfl rfl (fun K hK => ?_) (AllReadyIn.nil))
                  · go_simp
                    refine ⟨trivial, fun _ => by omega, ?_⟩
                    refine (HAT.out _ _).mono ?_
                    rintro e w' ⟨rfl, rfl⟩
                    refine hK _ _ ?_
                    refine wpAnyIn_ready (rs := [4]) (by kernel_rfl) (by simp) (BigFrame.allReadyIn_want rfl rfl (fun K hK => ?_) (AllReadyIn.nil))
                    · go_simp
                      refine hK _ _ ?_
                      refine wpAnyIn_ready (rs := [5]) (by kernel_rfl) (by simp) (BigFrame.allReadyIn_want rfl rfl (fun K hK => ?_) (AllReadyIn.nil))
                      · refine oper_app _ _ _ rfl _ _ _ _ rfl rfl hr ?_
                        refine hK _ _ ?_
                        refine wpAnyIn_ready (rs := [6]) (by kernel_rfl) (by simp) (BigFrame.allReadyIn_want rfl rfl (fun K hK => ?_) (AllReadyIn.nil))
                        · go_simp
                          refine hK _ _ ?_
                          refine wpAnyIn_done (by kernel_rfl) ?_ _
                          gi_wp2
                          exact HE.out
              · go_simp
                refine hK _ _ ?_
                refine wpAnyIn_ready (rs := [1]) (by kernel_rfl) (by simp) (BigFrame.allReadyIn_want rfl rfl (fun K hK => ?_) (AllReadyIn.nil))
                · go_simp
                  refine hK _ _ ?_
                  refine wpAnyIn_ready (rs := [3]) (by kernel_rfl) (by simp) (BigFrame.allReadyIn_want rfl rfl (fun K hK => ?_) (AllReadyIn.nil))
                  · go_simp
                    refine ⟨trivial, fun _ => by omega, ?_⟩
                    refine (HAT.out _ _).mono ?_
                    rintro e w' ⟨rfl, rfl⟩
                    refine hK _ _ ?_
                    refine wpAnyIn_ready (rs := [4]) (by kernel_rfl) (by simp) (BigFrame.allReadyIn_want rfl rfl (fun K hK => ?_) (AllReadyIn.nil))
                    · go_simp
                      refine hK _ _ ?_
                      refine wpAnyIn_ready (rs := [5]) (by kernel_rfl) (by simp) (BigFrame.allReadyIn_want rfl rfl (fun K hK => ?_) (AllReadyIn.nil))
                      · refine oper_app _ _ _ rfl _ _ _ _ rfl rfl hr ?_
                        refine hK _ _ ?_
                        refine wpAnyIn_ready (rs := [6]) (by kernel_rfl) (by simp) (BigFrame.allReadyIn_want rfl rfl (fun K hK => ?_) (AllReadyIn.nil))
                        · go_simp
                          refine hK _ _ ?_
                          refine wpAnyIn_done (by kernel_rfl) ?_ _
                          gi_wp2
                          exact HE.out
            · go_simp
              refine hK _ _ ?_
              refine wpAnyIn_ready (rs := [0, 2]) (by kernel_rfl) (by simp) (BigFrame.allReadyIn_want rfl rfl (fun K hK => ?_) (BigFrame.allReadyIn_want rfl rfl (fun K hK => ?_) (AllReadyIn.nil)))
              · go_simp
                refine hK _ _ ?_
                refine wpAnyIn_ready (rs := [2]) (by kernel_rfl) (by simp) (BigFrame.allReadyIn_want rfl rfl (fun K hK => ?_) (AllReadyIn.nil))
                · go_simp
                  refine hK _ _ ?_
                  refine wpAnyIn_ready (rs := [3]) (by kernel_rfl) (by simp) (BigFrame.allReadyIn_want rfl rfl (fun K hK => ?_) (AllReadyIn.nil))
                  · go_simp
                    refine ⟨trivial, fun _ => by omega, ?_⟩
                    refine (HAT.out _ _).mono ?_
                    rintro e w' ⟨rfl, rfl⟩
                    refine hK _ _ ?_
                    refine wpAnyIn_ready (rs := [4]) (by kernel_rfl) (by simp) (BigFrame.allReadyIn_want rfl rfl (fun K hK => ?_) (AllReadyIn.nil))
                    · go_simp
                      refine hK _ _ ?_
                      refine wpAnyIn_ready (rs := [5]) (by kernel_rfl) (by simp) (BigFrame.allReadyIn_want rfl rfl (fun K hK => ?_) (AllReadyIn.nil))
                      · refine oper_app _ _ _ rfl _ _ _ _ rfl rfl hr ?_
                        refine hK _ _ ?_
                        refine wpAnyIn_ready (rs := [6]) (by kernel_rfl) (by simp) (BigFrame.allReadyIn_want rfl rfl (fun K hK => ?_) (AllReadyIn.nil))
                        · go_simp
                          refine hK _ _ ?_
                          refine wpAnyIn_done (by kernel_rfl) ?_ _
                          gi_wp2
                          exact HE.out
              · go_simp
                refine hK _ _ ?_
                refine wpAnyIn_ready (rs := [0, 3]) (by kernel_rfl) (by simp) (BigFrame.allReadyIn_want rfl rfl (fun K hK => ?_) (BigFrame.allReadyIn_want rfl rfl (fun K hK => ?_) (AllReadyIn.nil)))
                · go_simp
                  refine hK _ _ ?_
                  refine wpAnyIn_ready (rs := [3]) (by kernel_rfl) (by simp) (BigFrame.allReadyIn_want rfl rfl (fun K hK => ?_) (AllReadyIn.nil))
                  · go_simp
                    refine ⟨trivial, fun _ => by omega, ?_⟩
                    refine (HAT.out _ _).mono ?_
                    rintro e w' ⟨rfl, rfl⟩
                    refine hK _ _ ?_
                    refine wpAnyIn_ready (rs := [4]) (by kernel_rfl) (by simp) (BigFrame.allReadyIn_want rfl rfl (fun K hK => ?_) (AllReadyIn.nil))
                    · go_simp
                      refine hK _ _ ?_
                      refine wpAnyIn_ready (rs := [5]) (by kernel_rfl) (by simp) (BigFrame.allReadyIn_want rfl rfl (fun K hK => ?_) (AllReadyIn.nil))
                      · refine oper_app _ _ _ rfl _ _ _ _ rfl rfl hr ?_
                        refine hK _ _ ?_
                        refine wpAnyIn_ready (rs := [6]) (by kernel_rfl) (by simp) (BigFrame.allReadyIn_want rfl rfl (fun K hK => ?_) (AllReadyIn.nil))
                        · go_simp
                          refine hK _ _ ?_
                          refine wpAnyIn_done (by kernel_rfl) ?_ _
                          gi_wp2
                          exact HE.out
                · go_simp
                  refine ⟨trivial, fun _ => by omega, ?_⟩
                  refine (HAT.out _ _).mono ?_
                  rintro e w' ⟨rfl, rfl⟩
                  refine hK _ _ ?_
                  refine wpAnyIn_ready (rs := [0, 4]) (by kernel_rfl) (by simp) (BigFrame.allReadyIn_want rfl rfl (fun K hK => ?_) (BigFrame.allReadyIn_want rfl rfl (fun K hK => ?_) (AllReadyIn.nil)))
                  · go_simp
                    refine hK _ _ ?_
                    refine wpAnyIn_ready (rs := [4]) (by kernel_rfl) (by simp) (BigFrame.allReadyIn_want rfl rfl (fun K hK => ?_) (AllReadyIn.nil))
                    · go_simp
                      refine hK _ _ ?_
                      refine wpAnyIn_ready (rs := [5]) (by kernel_rfl) (by simp) (BigFrame.allReadyIn_want rfl rfl (fun K hK => ?_) (AllReadyIn.nil))
                      · refine oper_app _ _ _ rfl _ _ _ _ rfl rfl hr ?_
                        refine hK _ _ ?_
                        refine wpAnyIn_ready (rs := [6]) (by kernel_rfl) (by simp) (BigFrame.allReadyIn_want rfl rfl (fun K hK => ?_) (AllReadyIn.nil))
                        · go_simp
                          refine hK _ _ ?_
                          refine wpAnyIn_done (by kernel_rfl) ?_ _
                          gi_wp2
                          exact HE.out
                  · go_simp
                    refine hK _ _ ?_
                    refine wpAnyIn_ready (rs := [0]) (by kernel_rfl) (by simp) (BigFrame.allReadyIn_want rfl rfl (fun K hK => ?_) (AllReadyIn.nil))
                    · go_simp
                      refine hK _ _ ?_
                      refine wpAnyIn_ready (rs := [5]) (by kernel_rfl) (by simp) (BigFrame.allReadyIn_want rfl rfl (fun K hK => ?_) (AllReadyIn.nil))
                      · refine oper_app _ _ _ rfl _ _ _ _ rfl rfl hr ?_
                        refine hK _ _ ?_
                        refine wpAnyIn_ready (rs := [6]) (by kernel_rfl) (by simp) (BigFrame.allReadyIn_want rfl rfl (fun K hK => ?_) (AllReadyIn.nil))
                        · go_simp
                          refine hK _ _ ?_
                          refine wpAnyIn_done (by kernel_rfl) ?_ _
                          gi_wp2
                          exact HE.out
            · go_simp
              refine hK _ _ ?_
              refine wpAnyIn_ready (rs := [0, 1]) (by kernel_rfl) (by simp) (BigFrame.allReadyIn_want rfl rfl (fun K hK => ?_) (BigFrame.allReadyIn_want rfl rfl (fun K hK => ?_) (AllReadyIn.nil)))
              · go_simp
                refine hK _ _ ?_
                refine wpAnyIn_ready (rs := [1]) (by kernel_rfl) (by simp) (BigFrame.allReadyIn_want rfl rfl (fun K hK => ?_) (AllReadyIn.nil))
                · go_simp
                  refine hK _ _ ?_
                  refine wpAnyIn_ready (rs := [3]) (by kernel_rfl) (by simp) (BigFrame.allReadyIn_want rfl rfl (fun K hK => ?_) (AllReadyIn.nil))
                  · go_simp
                    refine ⟨trivial, fun _ => by omega, ?_⟩
                    refine (HAT.out _ _).mono ?_
                    rintro e w' ⟨rfl, rfl⟩
                    refine hK _ _ ?_
                    refine wpAnyIn_ready (rs := [4]) (by kernel_rfl) (by simp) (BigFrame.allReadyIn_want rfl rfl (fun K hK => ?_) (AllReadyIn.nil))
                    · go_simp
                      refine hK _ _ ?_
                      refine wpAnyIn_ready (rs := [5]) (by kernel_rfl) (by simp) (BigFrame.allReadyIn_want rfl rfl (fun K hK => ?_) (AllReadyIn.nil))
                      · refine oper_app _ _ _ rfl _ _ _ _ rfl rfl hr ?_
                        refine hK _ _ ?_
                        refine wpAnyIn_ready (rs := [6]) (by kernel_rfl) (by simp) (BigFrame.allReadyIn_want rfl rfl (fun K hK => ?_) (AllReadyIn.nil))
                        · go_simp
                          refine hK _ _ ?_
                          refine wpAnyIn_done (by kernel_rfl) ?_ _
                          gi_wp2
                          exact HE.out
              · go_simp
                refine hK _ _ ?_
                refine wpAnyIn_ready (rs := [0, 3]) (by kernel_rfl) (by simp) (BigFrame.allReadyIn_want rfl rfl (fun K hK => ?_) (BigFrame.allReadyIn_want rfl rfl (fun K hK => ?_) (AllReadyIn.nil)))
                · go_simp
                  refine hK _ _ ?_
                  refine wpAnyIn_ready (rs := [3]) (by kernel_rfl) (by simp) (BigFrame.allReadyIn_want rfl rfl (fun K hK => ?_) (AllReadyIn.nil))
                  · go_simp
                    refine ⟨trivial, fun _ => by omega, ?_⟩
                    refine (HAT.out _ _).mono ?_
                    rintro e w' ⟨rfl, rfl⟩
                    refine hK _ _ ?_
                    refine wpAnyIn_ready (rs := [4]) (by kernel_rfl) (by simp) (BigFrame.allReadyIn_want rfl rfl (fun K hK => ?_) (AllReadyIn.nil))
                    · go_simp
                      refine hK _ _ ?_
                      refine wpAnyIn_ready (rs := [5]) (by kernel_rfl) (by simp) (BigFrame.allReadyIn_want rfl rfl (fun K hK => ?_) (AllReadyIn.nil))
                      · refine oper_app _ _ _ rfl _ _ _ _ rfl rfl hr ?_
                        refine hK _ _ ?_
                        refine wpAnyIn_ready (rs := [6]) (by kernel_rfl) (by simp) (BigFrame.allReadyIn_want rfl rfl (fun K hK => ?_) (AllReadyIn.nil))
                        · go_simp
                          refine hK _ _ ?_
                          refine wpAnyIn_done (by kernel_rfl) ?_ _
                          gi_wp2
                          exact HE.out
                · go_simp
                  refine ⟨trivial, fun _ => by omega, ?_⟩
                  refine (HAT.out _ _).mono ?_
                  rintro e w' ⟨rfl, rfl⟩
                  refine hK _ _ ?_
                  refine wpAnyIn_ready (rs := [0, 4]) (by kernel_rfl) (by simp) (BigFrame.allReadyIn_want rfl rfl (fun K hK => ?_) (BigFrame.allReadyIn_want rfl rfl (fun K hK => ?_) (AllReadyIn.nil)))
                  · go_simp
                    refine hK _ _ ?_
                    refine wpAnyIn_ready (rs := [4]) (by kernel_rfl) (by simp) (BigFrame.allReadyIn_want rfl rfl (fun K hK => ?_) (AllReadyIn.nil))
                    · go_simp
                      refine hK _ _ ?_
                      refine wpAnyIn_ready (rs := [5]) (by kernel_rfl) (by simp) (BigFrame.allReadyIn_want rfl rfl (fun K hK => ?_) (AllReadyIn.nil))
                      · refine oper_app _ _ _ rfl _ _ _ _ rfl rfl hr ?_
                        refine hK _ _ ?_
                        refine wpAnyIn_ready (rs := [6]) (by kernel_rfl) (by simp) (BigFrame.allReadyIn_want rfl rfl (fun K hK => ?_) (AllReadyIn.nil))
                        · go_simp
                          refine hK _ _ ?_
                          refine wpAnyIn_done (by kernel_rfl) ?_ _
                          gi_wp2
                          exact HE.out
                  · go_simp
                    refine hK _ _ ?_
                    refine wpAnyIn_ready (rs := [0]) (by kernel_rfl) (by simp) (BigFrame.allReadyIn_want rfl rfl (fun K hK => ?_) (AllReadyIn.nil))
                    · go_simp
                      refine hK _ _ ?_
                      refine wpAnyIn_ready (rs := [5]) (by kernel_rfl) (by simp) (BigFrame.allReadyIn_want rfl rfl (fun K hK => ?_) (AllReadyIn.nil))
                      · refine oper_app _ _ _ rfl _ _ _ _ rfl rfl hr ?_
                        refine hK _ _ ?_
                        refine wpAnyIn_ready (rs := [6]) (by kernel_rfl) (by simp) (BigFrame.allReadyIn_want rfl rfl (fun K hK => ?_) (AllReadyIn.nil))
                        · go_simp
                          refine hK _ _ ?_
                          refine wpAnyIn_done (by kernel_rfl) ?_ _
                          gi_wp2
                          exact HE.out
          · have HE' := HEXIT.out (by omega)
            rw [hsz] at HE'
            have HE := Lib.hid HE'
            clear HE'
            gi_wp2
            exact HE.out
        · have hmx : mX = c := by have := HMX.out; omega
          by_cases ht : ((L + k : Nat) : Int) < (c : Int)
          · have HE := Lib.hid (HEND.out (by omega))
            gi_wp2
            refine wpIn_region_any (by kernel_rfl) ?_
            change wpAnyIn _ _ _ _ _ _ _ _ _ (World.drew _)
            refine wpAnyIn_ready (rs := [0, 1, 2]) (by kernel_rfl) (by simp) (BigFrame.allReadyIn_want rfl rfl (fun K hK => ?_) (BigFrame.allReadyIn_want rfl rfl (fun K hK => ?_) (BigFrame.allReadyIn_want rfl rfl (fun K hK => ?_) (AllReadyIn.nil))))
            · go_simp
              refine hK _ _ ?_
              refine wpAnyIn_ready (rs := [1, 2]) (by kernel_rfl) (by simp) (BigFrame.allReadyIn_want rfl rfl (fun K hK => ?_) (BigFrame.allReadyIn_want rfl rfl (fun K hK => ?_) (AllReadyIn.nil)))
              · go_simp
                refine hK _ _ ?_
                refine wpAnyIn_ready (rs := [2]) (by kernel_rfl) (by simp) (BigFrame.allReadyIn_want rfl rfl (fun K hK => ?_) (AllReadyIn.nil))
                · go_simp
                  refine hK _ _ ?_
                  refine wpAnyIn_ready (rs := [3]) (by kernel_rfl) (by simp) (BigFrame.allReadyIn_want rfl rfl (fun K hK => ?_) (AllReadyIn.nil))
                  · go_simp
                    refine ⟨trivial, fun _ => by omega, ?_⟩
                    refine (HAT.out _ _).mono ?_
                    rintro e w' ⟨rfl, rfl⟩
                    refine hK _ _ ?_
                    refine wpAnyIn_ready (rs := [4]) (by kernel_rfl) (by simp) (BigFrame.allReadyIn_want rfl rfl (fun K hK => ?_) (AllReadyIn.nil))
                    · go_simp
                      refine hK _ _ ?_
                      refine wpAnyIn_ready (rs := [5]) (by kernel_rfl) (by simp) (BigFrame.allReadyIn_want rfl rfl (fun K hK => ?_) (AllReadyIn.nil))
                      · refine oper_app _ _ _ rfl _ _ _ _ rfl rfl hr ?_
                        refine hK _ _ ?_
                        refine wpAnyIn_ready (rs := [6]) (by kernel_rfl) (by simp) (BigFrame.allReadyIn_want rfl rfl (fun K hK => ?_) (AllReadyIn.nil))
                        · go_simp
                          refine hK _ _ ?_
                          refine wpAnyIn_done (by kernel_rfl) ?_ _
                          gi_wp2
                          exact HE.out
              · go_simp
                refine hK _ _ ?_
                refine wpAnyIn_ready (rs := [1]) (by kernel_rfl) (by simp) (BigFrame.allReadyIn_want rfl rfl (fun K hK => ?_) (AllReadyIn.nil))
                · go_simp
                  refine hK _ _ ?_
                  refine wpAnyIn_ready (rs := [3]) (by kernel_rfl) (by simp) (BigFrame.allReadyIn_want rfl rfl (fun K hK => ?_) (AllReadyIn.nil))
                  · go_simp
                    refine ⟨trivial, fun _ => by omega, ?_⟩
                    refine (HAT.out _ _).mono ?_
                    rintro e w' ⟨rfl, rfl⟩
                    refine hK _ _ ?_
                    refine wpAnyIn_ready (rs := [4]) (by kernel_rfl) (by simp) (BigFrame.allReadyIn_want rfl rfl (fun K hK => ?_) (AllReadyIn.nil))
                    · go_simp
                      refine hK _ _ ?_
                      refine wpAnyIn_ready (rs := [5]) (by kernel_rfl) (by simp) (BigFrame.allReadyIn_want rfl rfl (fun K hK => ?_) (AllReadyIn.nil))
                      · refine oper_app _ _ _ rfl _ _ _ _ rfl rfl hr ?_
                        refine hK _ _ ?_
                        refine wpAnyIn_ready (rs := [6]) (by kernel_rfl) (by simp) (BigFrame.allReadyIn_want rfl rfl (fun K hK => ?_) (AllReadyIn.nil))
                        · go_simp
                          refine hK _ _ ?_
                          refine wpAnyIn_done (by kernel_rfl) ?_ _
                          gi_wp2
                          exact HE.out
            · go_simp
              refine hK _ _ ?_
              refine wpAnyIn_ready (rs := [0, 2]) (by kernel_rfl) (by simp) (BigFrame.allReadyIn_want rfl rfl (fun K hK => ?_) (BigFrame.allReadyIn_want rfl rfl (fun K hK => ?_) (AllReadyIn.nil)))
              · go_simp
                refine hK _ _ ?_
                refine wpAnyIn_ready (rs := [2]) (by kernel_rfl) (by simp) (BigFrame.allReadyIn_want rfl rfl (fun K hK => ?_) (AllReadyIn.nil))
                · go_simp
                  refine hK _ _ ?_
                  refine wpAnyIn_ready (rs := [3]) (by kernel_rfl) (by simp) (BigFrame.allReadyIn_want rfl rfl (fun K hK => ?_) (AllReadyIn.nil))
                  · go_simp
                    refine ⟨trivial, fun _ => by omega, ?_⟩
                    refine (HAT.out _ _).mono ?_
                    rintro e w' ⟨rfl, rfl⟩
                    refine hK _ _ ?_
                    refine wpAnyIn_ready (rs := [4]) (by kernel_rfl) (by simp) (BigFrame.allReadyIn_want rfl rfl (fun K hK => ?_) (AllReadyIn.nil))
                    · go_simp
                      refine hK _ _ ?_
                      refine wpAnyIn_ready (rs := [5]) (by kernel_rfl) (by simp) (BigFrame.allReadyIn_want rfl rfl (fun K hK => ?_) (AllReadyIn.nil))
                      · refine oper_app _ _ _ rfl _ _ _ _ rfl rfl hr ?_
                        refine hK _ _ ?_
                        refine wpAnyIn_ready (rs := [6]) (by kernel_rfl) (by simp) (BigFrame.allReadyIn_want rfl rfl (fun K hK => ?_) (AllReadyIn.nil))
                        · go_simp
                          refine hK _ _ ?_
                          refine wpAnyIn_done (by kernel_rfl) ?_ _
                          gi_wp2
                          exact HE.out
              · go_simp
                refine hK _ _ ?_
                refine wpAnyIn_ready (rs := [0, 3]) (by kernel_rfl) (by simp) (BigFrame.allReadyIn_want rfl rfl (fun K hK => ?_) (BigFrame.allReadyIn_want rfl rfl (fun K hK => ?_) (AllReadyIn.nil)))
                · go_simp
                  refine hK _ _ ?_
                  refine wpAnyIn_ready (rs := [3]) (by kernel_rfl) (by simp) (BigFrame.allReadyIn_want rfl rfl (fun K hK => ?_) (AllReadyIn.nil))
                  · go_simp
                    refine ⟨trivial, fun _ => by omega, ?_⟩
                    refine (HAT.out _ _).mono ?_
                    rintro e w' ⟨rfl, rfl⟩
                    refine hK _ _ ?_
                    refine wpAnyIn_ready (rs := [4]) (by kernel_rfl) (by simp) (BigFrame.allReadyIn_want rfl rfl (fun K hK => ?_) (AllReadyIn.nil))
                    · go_simp
                      refine hK _ _ ?_
                      refine wpAnyIn_ready (rs := [5]) (by kernel_rfl) (by simp) (BigFrame.allReadyIn_want rfl rfl (fun K hK => ?_) (AllReadyIn.nil))
                      · refine oper_app _ _ _ rfl _ _ _ _ rfl rfl hr ?_
                        refine hK _ _ ?_
                        refine wpAnyIn_ready (rs := [6]) (by kernel_rfl) (by simp) (BigFrame.allReadyIn_want rfl rfl (fun K hK => ?_) (AllReadyIn.nil))
                        · go_simp
                          refine hK _ _ ?_
                          refine wpAnyIn_done (by kernel_rfl) ?_ _
                          gi_wp2
                          exact HE.out
                · go_simp
                  refine ⟨trivial, fun _ => by omega, ?_⟩
                  refine (HAT.out _ _).mono ?_
                  rintro e w' ⟨rfl, rfl⟩
                  refine hK _ _ ?_
                  refine wpAnyIn_ready (rs := [0, 4]) (by kernel_rfl) (by simp) (BigFrame.allReadyIn_want rfl rfl (fun K hK => ?_) (BigFrame.allReadyIn_want rfl rfl (fun K hK => ?_) (AllReadyIn.nil)))
                  · go_simp
                    refine hK _ _ ?_
                    refine wpAnyIn_ready (rs := [4]) (by kernel_rfl) (by simp) (BigFrame.allReadyIn_want rfl rfl (fun K hK => ?_) (AllReadyIn.nil))
                    · go_simp
                      refine hK _ _ ?_
                      refine wpAnyIn_ready (rs := [5]) (by kernel_rfl) (by simp) (BigFrame.allReadyIn_want rfl rfl (fun K hK => ?_) (AllReadyIn.nil))
                      · refine oper_app _ _ _ rfl _ _ _ _ rfl rfl hr ?_
                        refine hK _ _ ?_
                        refine wpAnyIn_ready (rs := [6]) (by kernel_rfl) (by simp) (BigFrame.allReadyIn_want rfl rfl (fun K hK => ?_) (AllReadyIn.nil))
                        · go_simp
                          refine hK _ _ ?_
                          refine wpAnyIn_done (by kernel_rfl) ?_ _
                          gi_wp2
                          exact HE.out
                  · go_simp
                    refine hK _ _ ?_
                    refine wpAnyIn_ready (rs := [0]) (by kernel_rfl) (by simp) (BigFrame.allReadyIn_want rfl rfl (fun K hK => ?_) (AllReadyIn.nil))
                    · go_simp
                      refine hK _ _ ?_
                      refine wpAnyIn_ready (rs := [5]) (by kernel_rfl) (by simp) (BigFrame.allReadyIn_want rfl rfl (fun K hK => ?_) (AllReadyIn.nil))
                      · refine oper_app _ _ _ rfl _ _ _ _ rfl rfl hr ?_
                        refine hK _ _ ?_
                        refine wpAnyIn_ready (rs := [6]) (by kernel_rfl) (by simp) (BigFrame.allReadyIn_want rfl rfl (fun K hK => ?_) (AllReadyIn.nil))
                        · go_simp
                          refine hK _ _ ?_
                          refine wpAnyIn_done (by kernel_rfl) ?_ _
                          gi_wp2
                          exact HE.out
            · go_simp
              refine hK _ _ ?_
              refine wpAnyIn_ready (rs := [0, 1]) (by kernel_rfl) (by simp) (BigFrame.allReadyIn_want rfl rfl (fun K hK => ?_) (BigFrame.allReadyIn_want rfl rfl (fun K hK => ?_) (AllReadyIn.nil)))
              · go_simp
                refine hK _ _ ?_
                refine wpAnyIn_ready (rs := [1]) (by kernel_rfl) (by simp) (BigFrame.allReadyIn_want rfl rfl (fun K hK => ?_) (AllReadyIn.nil))
                · go_simp
                  refine hK _ _ ?_
                  refine wpAnyIn_ready (rs := [3]) (by kernel_rfl) (by simp) (BigFrame.allReadyIn_want rfl rfl (fun K hK => ?_) (AllReadyIn.nil))
                  · go_simp
                    refine ⟨trivial, fun _ => by omega, ?_⟩
                    refine (HAT.out _ _).mono ?_
                    rintro e w' ⟨rfl, rfl⟩
                    refine hK _ _ ?_
                    refine wpAnyIn_ready (rs := [4]) (by kernel_rfl) (by simp) (BigFrame.allReadyIn_want rfl rfl (fun K hK => ?_) (AllReadyIn.nil))
                    · go_simp
                      refine hK _ _ ?_
                      refine wpAnyIn_ready (rs := [5]) (by kernel_rfl) (by simp) (BigFrame.allReadyIn_want rfl rfl (fun K hK => ?_) (AllReadyIn.nil))
                      · refine oper_app _ _ _ rfl _ _ _ _ rfl rfl hr ?_
                        refine hK _ _ ?_
                        refine wpAnyIn_ready (rs := [6]) (by kernel_rfl) (by simp) (BigFrame.allReadyIn_want rfl rfl (fun K hK => ?_) (AllReadyIn.nil))
                        · go_simp
                          refine hK _ _ ?_
                          refine wpAnyIn_done (by kernel_rfl) ?_ _
                          gi_wp2
                          exact HE.out
              · go_simp
                refine hK _ _ ?_
                refine wpAnyIn_ready (rs := [0, 3]) (by kernel_rfl) (by simp) (BigFrame.allReadyIn_want rfl rfl (fun K hK => ?_) (BigFrame.allReadyIn_want rfl rfl (fun K hK => ?_) (AllReadyIn.nil)))
                · go_simp
                  refine hK _ _ ?_
                  refine wpAnyIn_ready (rs := [3]) (by kernel_rfl) (by simp) (BigFrame.allReadyIn_want rfl rfl (fun K hK => ?_) (AllReadyIn.nil))
                  · go_simp
                    refine ⟨trivial, fun _ => by omega, ?_⟩
                    refine (HAT.out _ _).mono ?_
                    rintro e w' ⟨rfl, rfl⟩
                    refine hK _ _ ?_
                    refine wpAnyIn_ready (rs := [4]) (by kernel_rfl) (by simp) (BigFrame.allReadyIn_want rfl rfl (fun K hK => ?_) (AllReadyIn.nil))
                    · go_simp
                      refine hK _ _ ?_
                      refine wpAnyIn_ready (rs := [5]) (by kernel_rfl) (by simp) (BigFrame.allReadyIn_want rfl rfl (fun K hK => ?_) (AllReadyIn.nil))
                      · refine oper_app _ _ _ rfl _ _ _ _ rfl rfl hr ?_
                        refine hK _ _ ?_
                        refine wpAnyIn_ready (rs := [6]) (by kernel_rfl) (by simp) (BigFrame.allReadyIn_want rfl rfl (fun K hK => ?_) (AllReadyIn.nil))
                        · go_simp
                          refine hK _ _ ?_
                          refine wpAnyIn_done (by kernel_rfl) ?_ _
                          gi_wp2
                          exact HE.out
                · go_simp
                  refine ⟨trivial, fun _ => by omega, ?_⟩
                  refine (HAT.out _ _).mono ?_
                  rintro e w' ⟨rfl, rfl⟩
                  refine hK _ _ ?_
                  refine wpAnyIn_ready (rs := [0, 4]) (by kernel_rfl) (by simp) (BigFrame.allReadyIn_want rfl rfl (fun K hK => ?_) (BigFrame.allReadyIn_want rfl rfl (fun K hK => ?_) (AllReadyIn.nil)))
                  · go_simp
                    refine hK _ _ ?_
                    refine wpAnyIn_ready (rs := [4]) (by kernel_rfl) (by simp) (BigFrame.allReadyIn_want rfl rfl (fun K hK => ?_) (AllReadyIn.nil))
                    · go_simp
                      refine hK _ _ ?_
                      refine wpAnyIn_ready (rs := [5]) (by kernel_rfl) (by simp) (BigFrame.allReadyIn_want rfl rfl (fun K hK => ?_) (AllReadyIn.nil))
                      · refine oper_app _ _ _ rfl _ _ _ _ rfl rfl hr ?_
                        refine hK _ _ ?_
                        refine wpAnyIn_ready (rs := [6]) (by kernel_rfl) (by simp) (BigFrame.allReadyIn_want rfl rfl (fun K hK => ?_) (AllReadyIn.nil))
                        · go_simp
                          refine hK _ _ ?_
                          refine wpAnyIn_done (by kernel_rfl) ?_ _
                          gi_wp2
                          exact HE.out
                  · go_simp
                    refine hK _ _ ?_
                    refine wpAnyIn_ready (rs := [0]) (by kernel_rfl) (by simp) (BigFrame.allReadyIn_want rfl rfl (fun K hK => ?_) (AllReadyIn.nil))
                    · go_simp
                      refine hK _ _ ?_
                      refine wpAnyIn_ready (rs := [5]) (by kernel_rfl) (by simp) (BigFrame.allReadyIn_want rfl rfl (fun K hK => ?_) (AllReadyIn.nil))
                      · refine oper_app _ _ _ rfl _ _ _ _ rfl rfl hr ?_
                        refine hK _ _ ?_
                        refine wpAnyIn_ready (rs := [6]) (by kernel_rfl) (by simp) (BigFrame.allReadyIn_want rfl rfl (fun K hK => ?_) (AllReadyIn.nil))
                        · go_simp
                          refine hK _ _ ?_
                          refine wpAnyIn_done (by kernel_rfl) ?_ _
                          gi_wp2
                          exact HE.out
          · have HE' := HEXIT.out (by omega)
            rw [hsz] at HE'
            have HE := Lib.hid HE'
            clear HE'
            gi_wp2
            exact HE.out
    case done =>
      rintro D ys W hD hys ⟨⟨⟨v, hv, hrow, hG⟩, hP, hC⟩, hB⟩ hK
      have hc := hv.cell
      gi_wp2
      refine ⟨by simp, .inl ⟨_, _, rfl, run_takeDeferred hK, ?_⟩⟩
      exact ⟨_, results_tmp2 rfl _ _ _, ys, hys, v, rfl, Sl.from (ownsRow_putObj hrow _ hK rfl) (Nat.le_succ _), Kp.of_below (hB.trans (belowK_b (w := w) (Nat.le_refl _) W D _ _ (by omega) hK rfl rfl))⟩
    case stop =>
      rintro D c pre W _ _ h _
      exact h.elim
end Go.Proofs.Yteodhoekkeelcaa
