/- Songs in the program: the counts come over a channel with room for all of them; who goes, who is left; no condition but that there are a song and people. -/
import Derived.Test.YtbndgkjnigehgaaChan
import Derived.Test.YtbndgkjnigehgaaSoM
namespace Go.Proofs.Ytbndgkjnigehgaa
open Go.ChangeShapes Go.WideShapes Go.ChangeAt Go.RowKit Go.Conc

def soLP {α : Type} (xs : List Int) (l : List α) : Nat → List α
  | 0 => l
  | j + 1 => rest (cnt xs j) (soLP xs l j)
def soTP (xs : List Int) (l : List (Int × Int)) : Nat → List (Int × Int)
  | 0 => []
  | j + 1 => soTP xs l j ++ [whoP (cnt xs j) (soLP xs l j)]
theorem soL_map (xs : List Int) (l : List (Int × Int)) : ∀ j, soL xs (l.map (·.2)) j = (soLP xs l j).map (·.2)
  | 0 => rfl
  | j + 1 => by rw [soL, soLP, soL_map xs l j, rest_map]
theorem soT_map (xs : List Int) (l : List (Int × Int)) : ∀ j, soT xs (l.map (·.2)) j = (soTP xs l j).map (·.2)
  | 0 => rfl
  | j + 1 => by rw [soT, soTP, soT_map xs l j, soL_map, who_map, List.map_append]; rfl
theorem soTP_length (xs : List Int) (l : List (Int × Int)) : ∀ j, (soTP xs l j).length = j
  | 0 => rfl
  | j + 1 => by rw [soTP, List.length_append, soTP_length xs l j]; rfl
theorem soTP_getD (xs : List Int) (l : List (Int × Int)) : ∀ (t r : Nat), r < t → (soTP xs l t).getD r (0, 0) = whoP (cnt xs r) (soLP xs l r)
  | 0, r, h => by omega
  | t + 1, r, h => by
    rw [soTP]
    by_cases hr : r < t
    · rw [← soTP_getD xs l t r hr]
      simp [soTP_length, List.getElem?_append_left, hr]
    · have e : r = t := by omega
      subst e
      simp [soTP_length]
theorem soLP_length {α : Type} (xs : List Int) (l : List α) : ∀ j, j ≤ l.length → (soLP xs l j).length = l.length - j
  | 0, _ => rfl
  | j + 1, h => by
    have h1 := soLP_length xs l j (by omega)
    have := rest_length (cnt xs j) (soLP xs l j) (by omega)
    rw [soLP]
    omega

/-- the counts of the first turns -/
def cntL (xs : List Int) (t : Nat) : List Int := (List.range t).map (cnt xs)
theorem cntL_snoc (xs : List Int) (t : Nat) : cntL xs (t + 1) = cntL xs t ++ [cnt xs t] := by simp [cntL, List.range_succ]
theorem cntL_length (xs : List Int) (t : Nat) : (cntL xs t).length = t := by simp [cntL]
theorem cntL_drop (xs : List Int) (t r : Nat) (h : r < t) : (cntL xs t).drop r = cnt xs r :: (cntL xs t).drop (r + 1) := by
  rw [List.drop_eq_getElem_cons (by rw [cntL_length]; exact h)]
  simp [cntL]

theorem chanElem : (Try.prog.info? 3).map (fun i => i.bytes) = some 8 := by kernel_rfl
theorem mk_chan (k : IntKind) (n : Nat) (h : n ≤ 1000000) (w : World) : (Instr.makeChan 89 (.int k n)).run Try.prog w = .ok (.chan (some w.heap.size)) (w.alloc (.chan n #[] false 0 0 false)) := by
  obtain ⟨i, hi, hb⟩ := Option.map_eq_some_iff.1 chanElem
  exact run_makeChan (P := Try.prog) (w := w) Try.underlying89 hi k n (by omega) (by rw [hb]; omega)

/-- what a call returns that makes the counts -/
def CntRes (W : World) (xs : List Int) (t : Nat) (e : Ending) (w' : World) : Prop := ∃ c, e = .returned (.chan (some c)) ∧ Chn w' c t (cntL xs t) ∧ Kp Nw W w' ∧ W.heap.size ≤ c

set_option maxRecDepth 100000 in
set_option maxHeartbeats 3200000 in
theorem countsIn_any (A : Option Addr) (n c : Nat) (xs : List Int) (t : Nat) (W : World) (hu : Rd W (.slice A n c) xs) (hn : xs.length = n) (hg : sgB xs = true) (ht : t ≤ 1000) :
    Calls Try.prog 52 #[.agg #[.slice A n c], .int .i64 t] W (CntRes W xs t) := by
  have n1 : 1 ≤ n := by have := sgB_len hg; omega
  have n2 : n ≤ 20 := by have := sgB_len hg; omega
  have HN := Lib.hid hn
  obtain ⟨A', c', e', hA⟩ := hu
  rw [hn] at e'
  injection e' with e1 e2 e3
  subst e1 e3
  obtain ⟨g, o, rfl, -⟩ := hA 0 (by omega)
  have HA : Hid (∀ i, i < n → W.cell? ⟨g, o + i, none⟩ = some (.int .i64 (xs.getD i 0))) := Lib.hid (fun i hi => by
    obtain ⟨g', o', e, hc⟩ := hA i (by omega)
    injection e with e
    injection e with e1 e2
    rw [e1, e2]; exact hc)
  have hmk := mk_chan .i64 t (by omega)
  have HB := Lib.hid (Own1.new W (.slice (some ⟨g, o, none⟩) n c) 28)
  clear hA hn hg
  go_enter Try.func52, Try.ntmps52
  go_wp2
  go_loopw [10] (fun i wr => ∃ j : Nat, j ≤ t ∧ i = .int .i64 j ∧ Hid (Chn wr (W.heap.size + 1) t (cntL xs j)) ∧ Hid (wr.cell? ⟨W.heap.size, 0, none⟩ = some (.slice (some ⟨g, o, none⟩) n c)) ∧ Hid (Kp Nw W wr)) (fun i _ => t - (intOf i).toNat)
  case atStart =>
    refine ⟨0, Nat.zero_le _, rfl, Lib.hid ⟨0, 0, ?_⟩, Lib.hid ?_, Lib.hid (((Kp.al W _).nw (.al _ _)))⟩
    · have := heap_alloc_new (W.alloc (.cells #[.slice (some ⟨g, o, none⟩) n c] 28)) (.chan t #[] false 0 0 false)
      simpa [cntL] using this
    · exact keepc (.al _ _) HB.out.1 (fun h => h)
  case round =>
    rename_i wr
    obtain ⟨j, hj, rfl, HC, HX, HK⟩ := hrel
    by_cases hp : j < t
    · obtain ⟨q, hq⟩ : ∃ q, j % n = q := ⟨_, rfl⟩
      have hqn : q < n := by rw [← hq]; exact Nat.mod_lt _ (by omega)
      have hqi : (j : Int) % (n : Int) = (q : Int) := by rw [← hq]; exact (Int.natCast_emod j n).symm
      obtain ⟨k, hk⟩ : ∃ k, cnt xs j = k := ⟨_, rfl⟩
      have hkx : xs.getD q 0 = k := by rw [← hk, cnt, HN.out, hq]
      have hc := keepc HK.out (HA.out q hqn) (fun h => h)
      rw [hkx] at hc
      have hcell := HX.out
      have HKK := Lib.hid hk
      have j0 : (0 : Int) ≤ j := Int.natCast_nonneg _
      have j1 : (j : Int) < t := by omega
      have m1 : (n : Int) ≠ 0 := by omega
      have m2 : ¬ (n : Int) = 0 := by omega
      have m3 : ((n : Int) == 0) = false := by simp; omega
      have m4 : (0 : Int) ≤ q := Int.natCast_nonneg _
      have m5 : (q : Int) < n := by omega
      have m6 : (j : Int).tmod (n : Int) = (q : Int) := by rw [Int.tmod_eq_emod_of_nonneg (by omega)]; exact hqi
      have m8 : ¬ n = 0 := by omega
      have m7 : IntKind.i64.wrap (q : Int) = (q : Int) := IntWalk.i64_in _ (by omega)
      clear hq hk hkx
      go_wp2
      refine wp_region_last 10 [9, 8, 7, 6, 5, 4, 3, 2, 1, 0] _ (by kernel_rfl) rfl (by kernel_rfl) (by kernel_rfl) (by kernel_rfl) (by kernel_rfl) (by kernel_rfl) ?_
      simp only [nopAt, nop]
      repeat (quiet_step (fail))
      refine wpQuiet_nil ?_
      rintro _ ⟨nq, rfl⟩
      obtain ⟨s, r, hch⟩ := HC.out
      have hch' : (wr.drewN nq).heap[W.heap.size + 1]? = some (.chan t ((cntL xs j).map (Value.int .i64)).toArray false s r false) := hch
      refine OpsW.send (c := W.heap.size + 1) (v := .int .i64 k) (z' := .tuple #[]) (w' := wr.drewN nq) rfl rfl (by simp [execOp, scase, Act.eval]) hch' (by simp [cntL_length]; exact hp) (OpsW.nil ?_)
      have HC2 := Lib.hid (Chn.push hch' k)
      have HX2 := Lib.hid (keepc (kp_setChan (S := fun b => b = W.heap.size + 1) ((Kp.refl _ wr).drewN nq) (.inl rfl) t (((cntL xs j).map (Value.int .i64)).toArray.push (.int .i64 k)) false (s + 1) r false) HX.out (by show ¬ W.heap.size = W.heap.size + 1; omega))
      have HK2 := Lib.hid (kp_setChan (HK.out.drewN nq) (.inr (by omega : W.heap.size ≤ W.heap.size + 1)) t (((cntL xs j).map (Value.int .i64)).toArray.push (.int .i64 k)) false (s + 1) r false)
      generalize (wr.drewN nq).setChan (W.heap.size + 1) t (((cntL xs j).map (Value.int .i64)).toArray.push (.int .i64 k)) false (s + 1) r false = w2 at HC2 HX2 HK2 ⊢
      clear hch hch' hc hcell HX HK HC
      go_wp2
      go_roundw
      case rel => exact ⟨j + 1, by omega, by go_num, by rw [cntL_snoc, HKK.out]; exact HC2, HX2, HK2⟩
      case measure => simp [intOf]; omega
    · have e : j = t := by omega
      subst e
      go_wp2
      go_ret
      exact ⟨_, rfl, HC.out, HK.out, by omega⟩

/-- the circle behind r turns of a song, and the counts that are still to come -/
def Sg (xs : List Int) (l0 : List (Int × Int)) (C L cap c b t : Nat) (w : World) (r : Nat) : Prop :=
  (∃ k, Fwd (soLP xs l0 r) C L cap k w 0) ∧ Chn w c t ((cntL xs t).drop r) ∧ w.cell? ⟨b, 0, none⟩ = some (.chan (some c)) ∧ c ≠ C ∧ c ≠ L ∧ b ≠ C ∧ b ≠ L ∧ b ≠ c
theorem Sg.kp {xs : List Int} {l0 : List (Int × Int)} {C L cap c b t : Nat} (r : Nat) (w w' : World) (S : Nat → Prop) (h : Sg xs l0 C L cap c b t w r) (hk : Kp S w w') (h1 : ¬ S C) (h2 : ¬ S L) (h3 : ¬ S b) (h4 : ¬ S c) : Sg xs l0 C L cap c b t w' r := by
  obtain ⟨⟨k, hf⟩, hc, hb, hr⟩ := h
  exact ⟨⟨k, hf.kp 0 w w' S hk h1 h2⟩, hc.kp hk h4, keepc hk hb h3, hr⟩
theorem Ci.step_set {w : World} {C L cap : Nat} {ps : List (Int × Int)} {q : Int × Int} {k : Int} (h : Ci w C L cap ps q k) (k' : Int) : Ci (w.setCell ⟨C, 3, none⟩ (.int .i64 k')) C L cap ps q k' := by
  refine ⟨?_, h.2.kp ((Kp.refl (fun b => b = C) w).setCell (.inl rfl) _) (fun e => h.ne e.symm)⟩
  have := heap_setCell_same w C 3 _ _ (.int .i64 k') h.1
  simpa using this

theorem opsW_from {P : Program} {l : List Oper} {Q : Exit → Act → World → Prop} {a : Act} {w : World} (k : Nat) (h : wpList P l.toArray Q (l.drop k) a w) : OpsW P l.toArray Q (List.range' k (l.length - k)) a w := by
  refine OpsW.of_wp ?_
  have e := wpOps_eq_wpList (P := P) (ops := l.toArray) (Q := Q) (l.drop k) k (fun j => by simp)
  rw [List.length_drop] at e
  rw [e]
  exact h

set_option maxHeartbeats 3200000 in
theorem singOne (xs : List Int) (hg : sgB xs = true) (l0 : List (Int × Int)) (C L cap c b t : Nat) (ht : t ≤ l0.length) (r : Nat) (W : World) (hr : r < t) (h : Sg xs l0 C L cap c b t W r) :
    Calls Try.prog 55 #[.pointer (some ⟨C, 0, none⟩), .pointer (some ⟨b, 0, none⟩)] W fun e w' =>
      e = .returned (.agg #[.int .i64 ((soTP xs l0 t).getD r (0, 0)).1, .int .i64 ((soTP xs l0 t).getD r (0, 0)).2]) ∧ Sg xs l0 C L cap c b t w' (r + 1) ∧ Kp (fun g => g = C ∨ g = L ∨ g = c) W w' := by
  obtain ⟨⟨k0, ps, i, q, hC, hfw⟩, ⟨s, r', hch⟩, hb, d1, d2, d3, d4, d5⟩ := h
  rw [soTP_getD xs l0 t r hr]
  rw [cntL_drop xs t r hr] at hch
  obtain ⟨k1, k2⟩ := cnt_rng hg r
  have hlen : 1 ≤ (soLP xs l0 r).length := by rw [soLP_length xs l0 r (by omega)]; omega
  obtain ⟨x, hx⟩ : ∃ x, whoP (cnt xs r) (soLP xs l0 r) = x := ⟨_, rfl⟩
  have HX := Lib.hid hx
  have HL := Lib.hid hlen
  have HF := Lib.hid hfw
  obtain ⟨k, hk⟩ : ∃ k, cnt xs r = k := ⟨_, rfl⟩
  have HKK := Lib.hid hk
  rw [hk] at hch k1 k2
  obtain ⟨rest', hrest⟩ : ∃ y, (cntL xs t).drop (r + 1) = y := ⟨_, rfl⟩
  have HRE := Lib.hid hrest
  rw [hrest] at hch
  have hcC := hC.lt
  have hcL := hC.2.lt
  have hcc : c < W.heap.size := (Array.getElem?_eq_some_iff.1 hch).1
  have hbb : b < W.heap.size := World.block_lt_of_cell? _ _ hb
  have HCH : Hid ((W.alloc (.cells #[.int .i64 0, .int .i64 0] 77)).heap[c]? = some (.chan t ((k :: rest').map (Value.int .i64)).toArray false s r' false)) := Lib.hid ((Below.heap_alloc _ _ c hcc).trans hch)
  have HB2 : Hid ((W.alloc (.cells #[.int .i64 0, .int .i64 0] 77)).cell? ⟨b, 0, none⟩ = some (.chan (some c))) := Lib.hid (keepc (.al W _) hb (fun h => h))
  have HC := Lib.hid (hC.nw (.al W (.cells #[.int .i64 0, .int .i64 0] 77)))
  have D : Hid (c ≠ C ∧ c ≠ L ∧ b ≠ C ∧ b ≠ L ∧ b ≠ c) := Lib.hid ⟨d1, d2, d3, d4, d5⟩
  obtain ⟨x1, x2⟩ := x
  rw [hx]
  clear hC hfw hch hb d1 d2 d3 d4 d5 hx hlen hk hrest
  go_enter Try.func55, Try.ntmps55
  refine wp_seq (wp_mono (Q := fun e a w => e = .normal ∧ a = { tmps := #[.pointer (some ⟨C, 0, none⟩), .pointer (some ⟨b, 0, none⟩), undef, .pointer (some ⟨W.heap.size, 0, none⟩), undef, undef, undef, undef, undef, undef, undef], defers := [] } ∧ w = W.alloc (.cells #[.int .i64 0, .int .i64 0] 77)) ?_ ?_)
  · go_wp2
  rintro e a w ⟨rfl, rfl, rfl⟩
  show Code.wp _ _ _ _ _
  refine wp_seq (OpsW.region ?_)
  show OpsW _ _ _ [0, 1, 2, 3, 4, 5] _ _
  have hb1 := HB2.out
  refine OpsW.value (v := .pointer (some ⟨C, 0, none⟩)) (w' := W.alloc (.cells #[.int .i64 0, .int .i64 0] 77)) rfl rfl (by go_simp) ?_
  refine OpsW.value (v := .chan (some c)) (w' := W.alloc (.cells #[.int .i64 0, .int .i64 0] 77)) rfl rfl (by go_simp) ?_
  refine OpsW.recv (c := c) (z := .int .i64 0) (w' := W.alloc (.cells #[.int .i64 0, .int .i64 0] 77)) rfl rfl (by simp [go_sem, execOp, rcase, Act.eval, Act.put]) HCH.out (by simp) ?_
  have W1 : Hid (Kp (fun g => g = C ∨ g = L ∨ g = c) (W.alloc (.cells #[.int .i64 0, .int .i64 0] 77)) (World.setChan (W.alloc (.cells #[.int .i64 0, .int .i64 0] 77)) c t (((k :: rest').map (Value.int .i64)).toArray.extract 1 ((k :: rest').map (Value.int .i64)).toArray.size) false s (r' + 1) false)) := Lib.hid (kp_setChan (Kp.refl _ _) (.inl (.inr (.inr rfl))) _ _ _ _ _ _)
  have W2 := Lib.hid (Chn.pop HCH.out)
  have W3 := Lib.hid (HC.out.kp (kp_setChan (S := fun g => g = c) (Kp.refl _ _) (.inl rfl) t (((k :: rest').map (Value.int .i64)).toArray.extract 1 ((k :: rest').map (Value.int .i64)).toArray.size) false s (r' + 1) false) (fun e => D.out.1 e.symm) (fun e => D.out.2.1 e.symm))
  have W4 := Lib.hid (keepc (kp_setChan (S := fun g => g = c) (Kp.refl _ _) (.inl rfl) t (((k :: rest').map (Value.int .i64)).toArray.extract 1 ((k :: rest').map (Value.int .i64)).toArray.size) false s (r' + 1) false) HB2.out (fun e => D.out.2.2.2.2 e))
  generalize World.setChan (W.alloc (.cells #[.int .i64 0, .int .i64 0] 77)) c t (((k :: rest').map (Value.int .i64)).toArray.extract 1 ((k :: rest').map (Value.int .i64)).toArray.size) false s (r' + 1) false = w2 at W1 W2 W3 W4 ⊢
  have hv : ((k :: rest').map (Value.int .i64)).toArray.getD 0 undef = .int .i64 k := by simp
  rw [hv]
  have f3 := W3.out.frozen 3
  have c3 := W3.out.cells.2.2.2
  have W5 := Lib.hid (W3.out.step_set k)
  have W6 : Hid (Kp (fun g => g = C) w2 (w2.setCell ⟨C, 3, none⟩ (.int .i64 k))) := Lib.hid ((Kp.refl (fun g => g = C) w2).setCell (p := ⟨C, 3, none⟩) (.inl rfl) _)
  clear hb1 hv
  refine opsW_from 3 ?_
  simp only [List.drop]
  go_wp2_with fail
  refine (fwd_step (soLP xs l0 r) C L cap k k1 k2 1 HL.out 0 _ (by omega) ⟨ps, i, q, W5.out, HF.out⟩).mono ?_
  rintro e w3 ⟨rfl, ⟨ps', i', q', hC', hl', hd', hi', hr'⟩, hk3⟩
  have e1 : (outsP k 1 (soLP xs l0 r)).getD 0 (0, 0) = (x1, x2) := by rw [← HX.out, HKK.out]; rfl
  rw [e1]
  have HK3 : Hid (Kp (fun g => g = C ∨ g = L ∨ g = c) (W.alloc (.cells #[.int .i64 0, .int .i64 0] 77)) w3) := Lib.hid ((W1.out.trans (W6.out.mono (fun _ _ h => .inl h))).trans (hk3.mono (fun _ _ h => h.elim .inl (fun h => .inr (.inl h)))))
  obtain ⟨r0, r1, r2, r3⟩ := (Own2.new W (.int .i64 0) (.int .i64 0) 77).kp HK3.out (by omega)
  obtain ⟨z0, z1⟩ := two_set _ W.heap.size (.int .i64 x1) (.int .i64 x2) _ _ r0 r1
  have HS : Hid (Sg xs l0 C L cap c b t w3 (r + 1)) := Lib.hid (by
    have hrl := rest_length (cnt xs r) (soLP xs l0 r) (by have := HL.out; omega)
    refine ⟨⟨k, ps', i', q', hC', ?_, hd', hi', ?_⟩, ?_, ?_, D.out⟩
    · show ps'.length + 0 = (rest (cnt xs r) (soLP xs l0 r)).length; omega
    · show rot ps' i' = rest (cnt xs r) (soLP xs l0 r); rw [HKK.out]; exact hr'
    · rw [HRE.out]
      exact (W2.out.kp W6.out (fun e => D.out.1 e)).kp hk3 (fun e => e.elim (fun e => D.out.1 e) (fun e => D.out.2.1 e))
    · exact keepc hk3 (keepc W6.out W4.out (fun e => D.out.2.2.1 e)) (fun e => e.elim (fun e => D.out.2.2.1 e) (fun e => D.out.2.2.2.1 e)))
  clear hC' hl' hd' hi' hr' hk3 e1 f3 c3
  go_wp2
  refine bodyPost_ret (v := .agg #[.int .i64 x1, .int .i64 x2]) (by simp [results, Try.results55, go_sem, z0, z1]) rfl ⟨rfl, ?_, ?_⟩
  · have k1 : Kp (fun b => b = W.heap.size) w3 w3 := Kp.refl _ _
    exact HS.out.kp _ _ _ _ ((k1.setCell (.inl rfl) _).setCell (.inl rfl) _) (by omega) (by omega) (by omega) (by omega)
  · have k1 : Kp (fun g => g = C ∨ g = L ∨ g = c) W w3 := ((Kp.refl _ W).alloc _).trans HK3.out
    exact (k1.setCell (.inr (Nat.le_refl _)) _).setCell (.inr (Nat.le_refl _)) _

set_option maxHeartbeats 1600000 in
theorem countSing (C L b c turns : Nat) (os : List (Int × Int)) (St : World → Nat → Prop) (W : World) (hos : os.length = turns) (hC : C < W.heap.size) (hL : L < W.heap.size) (hb : b < W.heap.size) (hc : c < W.heap.size)
    (hst : Hid (∀ (r : Nat) (w w' : World) (S : Nat → Prop), St w r → Kp S w w' → ¬ S C → ¬ S L → ¬ S b → ¬ S c → St w' r))
    (hstep : Hid (∀ (r : Nat) (w : World), r < turns → St w r → Calls Try.prog 55 #[.pointer (some ⟨C, 0, none⟩), .pointer (some ⟨b, 0, none⟩)] w fun e w' =>
      e = .returned (.agg #[.int .i64 (os.getD r (0, 0)).1, .int .i64 (os.getD r (0, 0)).2]) ∧ St w' (r + 1) ∧ Kp (fun g => g = C ∨ g = L ∨ g = c) w w'))
    (h0 : St W 0) (ht : turns ≤ 1000000) :
    Calls Try.prog 54 #[.pointer (some ⟨C, 0, none⟩), .int .i64 turns, .func (.func 55) #[] #[.pointer (some ⟨b, 0, none⟩)]] W (CountRes W turns os St (fun g => g = C ∨ g = L ∨ g = c)) := by
  obtain ⟨i0, hi0, hz0, hz1, hz2⟩ := info_parts personInfo
  have H0 := Lib.hid h0
  have HOS := Lib.hid hos
  clear h0 hos
  go_enter Try.func54, Try.ntmps54
  go_wp2_with (first | (at_make; refine wpList_make_full _ rfl _ _ 57 rfl W.heap.size 77 i0 (.agg #[.int .i64 0, .int .i64 0]) 2 Try.underlying57 hi0 hz0 hz1 _ _ _ _ turns rfl rfl rfl rfl (by rw [hz2]; omega) (by unfold maxLen; omega) (Nat.le_refl _) ?_))
  intro w1 hown hgrow
  have hk1 : Kp Nw W w1 := (Kp.refl _ _).grown hgrow (fun g hg => by cases hg)
  have HS := Lib.hid (Ps.made hown ht)
  have HST := Lib.hid (hst.out 0 W w1 Nw H0.out hk1 (fun h => h) (fun h => h) (fun h => h) (fun h => h))
  have HK := Lib.hid (hk1.mono (T := fun g => g = C ∨ g = L ∨ g = c) (fun _ _ h => h.elim))
  clear hown hgrow hk1
  go_wp2
  go_loopw [8, 13] (fun _ i wr => ∃ j : Nat, j ≤ turns ∧ i = .int .i64 j ∧ Ps wr W.heap.size turns (fill os (List.replicate turns (0, 0)) j) ∧ St wr j ∧ Kp (fun g => g = C ∨ g = L ∨ g = c) W wr) (fun _ i _ => turns - (intOf i).toNat)
  case atStart => exact ⟨0, Nat.zero_le _, rfl, by rw [fill_zero]; exact HS.out, HST.out, HK.out⟩
  case round =>
    rename_i wr
    obtain ⟨j, hj, rfl, hs, hst1, hk⟩ := hrel
    by_cases hlt : j < turns
    · have H := Lib.hid hs
      have HT := Lib.hid hst1
      have HK2 := Lib.hid hk
      have j0 : (0 : Int) ≤ j := Int.natCast_nonneg _
      have j1 : (j : Int) < turns := by omega
      clear hs HS hk HK hst1 HST
      go_wp2_with fail
      refine (hstep.out j wr hlt HT.out).mono ?_
      rintro e w2 ⟨rfl, hst2, hk2⟩
      have hs2 := H.out.kp hk2 (by omega)
      have fl : (fill os (List.replicate turns (0, 0)) j).length = turns := by rw [fill_length _ _ _ (by rw [List.length_replicate, HOS.out]) (by rw [HOS.out]; exact hj), HOS.out]
      obtain ⟨c0, c1⟩ := hs2.cell j (by rw [fl]; exact hlt)
      have f0 := hs2.frozen (j * 2)
      have f1 := hs2.frozen (j * 2 + 1)
      obtain ⟨⟨x, y⟩, hx⟩ : ∃ x, os.getD j (0, 0) = x := ⟨_, rfl⟩
      rw [hx]
      have HX := Lib.hid hx
      have H2 := Lib.hid hs2
      have HT2 := Lib.hid hst2
      have HK3 := Lib.hid (HK2.out.trans hk2)
      clear hs2 hst2 hk2 hx fl
      go_wp2
      go_roundw
      case rel =>
        refine ⟨j + 1, by omega, by go_num, ?_, ?_, (HK3.out.setCell (.inr (Nat.le_refl _)) _).setCell (.inr (Nat.le_refl _)) _⟩
        · have := H2.out.store j x y
          rw [fill_set os _ j (x, y) (by rw [List.length_replicate, HOS.out]) (by rw [HOS.out]; exact hlt) (by have h3 := HX.out; have h4 := HOS.out; rw [← h3]; simp [List.getElem?_eq_getElem (show j < os.length by omega)])] at this
          exact this
        · have k1 : Kp (fun b => b = W.heap.size) w2 w2 := Kp.refl _ _
          exact hst.out _ _ _ _ HT2.out ((k1.setCell (.inl rfl) _).setCell (.inl rfl) _) (by omega) (by omega) (by omega) (by omega)
      case measure => simp [intOf]; omega
    · have e : j = turns := by omega
      subst e
      have ho := HOS.out
      rw [show fill os (List.replicate j (0, 0)) j = os by
        have := fill_all os (List.replicate j (0, 0)) (by rw [List.length_replicate, ho])
        rwa [ho] at this] at hs
      have H := Lib.hid hs
      have HT := Lib.hid hst1
      have HK2 := Lib.hid hk
      clear hs HS hk HK ho hst1 HST
      go_wp2
      go_ret
      exact ⟨_, rfl, H.out, HT.out, HK2.out, Nat.le_refl _⟩

end Go.Proofs.Ytbndgkjnigehgaa
