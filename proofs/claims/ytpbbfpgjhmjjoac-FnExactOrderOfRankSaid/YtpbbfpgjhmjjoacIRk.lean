/- The order with a rank, in the program; no condition but that the rank is a number of 64 bits. -/
import Derived.Test.YtpbbfpgjhmjjoacShelf
import Derived.Test.YtpbbfpgjhmjjoacLaws7
import Derived.Test.YtpbbfpgjhmjjoacIm7
import Derived.Test.YtpbbfpgjhmjjoacExO
import Derived.Test.YtpbbfpgjhmjjoacOvr
import Derived.Sort.OwnSortedInts
namespace Go.Proofs.Ytpbbfpgjhmjjoac
open Go.ChangeShapes Go.WideShapes Go.ChangeAt Go.RowKit

theorem take_putI (cur : Array Value) (ts : List Int) (k : Nat) (h : ts.length ≤ cur.size) (hk : k ≤ ts.length) : (Go.Sort.putCells (Value.int .i64) 0 ts.toArray cur).toList.take k = (ts.take k).map (Value.int .i64) := by
  have h1 := take_putCellsI cur ts h
  have h2 : ((Go.Sort.putCells (Value.int .i64) 0 ts.toArray cur).toList.take ts.length).take k = (ts.map (Value.int .i64)).take k := by rw [h1]
  rw [List.take_take, Nat.min_eq_left hk, ← List.map_take] at h2
  exact h2
theorem delInts_any (g cap m a B : Nat) (zs : List Int) (W : World) (hs : SlAt W B g cap m zs) (hc : m ≤ cap) (ha : a < m) :
    Calls Try.prog 25 #[.slice (some ⟨g, 0, none⟩) m cap, .int .i64 a, .int .i64 ((a : Int) + 1)] W fun e w' => e = .returned (.slice (some ⟨g, 0, none⟩) (m - 1) cap) ∧ SlAt w' B g cap (m - 1) (dropAt zs a) ∧ Kp (fun b => b = g) W w' := by
  have hz := hs.1
  have hH : Go.Sort.Holds (Value.int .i64) W g 0 zs.toArray := by
    intro j hj
    have hj' : j < zs.length := by simpa using hj
    refine ⟨?_, ?_⟩
    · rw [Nat.zero_add, hs.cell j (by omega)]
      simp [List.getD, hj']
    · rw [Nat.zero_add]; exact hs.frozen j
  rcases hs.2.2 with ⟨h0, _⟩ | ⟨g', cap', cur, he, hB, hb, h1, h2, h3, h4⟩
  · cases h0
  injection he with e1 _ e3
  injection e1 with e1
  injection e1 with e1 _ _
  subst e1
  subst e3
  have h := Try.slices_Delete_int g 0 cap a (a + 1) zs W hH (by omega) (by unfold maxLen at h2; exact h2) (by omega) (by omega)
  rw [hz] at h
  refine h.mono ?_
  rintro e w' ⟨rfl, q, rfl⟩
  have hd : (zs.take a ++ zs.drop (a + 1) ++ List.replicate (a + 1 - a) (0 : Int)).length = m := by simp; omega
  have hblk : (Go.Sort.putRow (Value.int .i64) (Go.Sort.ahead W q) g 0 (zs.take a ++ zs.drop (a + 1) ++ List.replicate (a + 1 - a) (0 : Int)).toArray).heap[g]? = some (.cells (Go.Sort.putCells (Value.int .i64) 0 (zs.take a ++ zs.drop (a + 1) ++ List.replicate (a + 1 - a) (0 : Int)).toArray cur) 3 (0, 0)) := by
    simp [Go.Sort.putRow, Go.Sort.mapBlock, Go.Sort.ahead, Array.getElem?_modify, hb, Go.Sort.onCells]
  have hdl : (dropAt zs a).length = m - 1 := by rw [dropAt_len _ _ (by omega), hz]
  refine ⟨by rw [show a + 1 - a = 1 by omega], ⟨hdl, ?_⟩, ?_⟩
  · refine ⟨by simp [hdl], .inr ⟨g, cap, _, rfl, hB, hblk, by omega, h2, by simp [Go.Sort.putCells, h3], ?_⟩⟩
    rw [Nat.mul_one, take_putI _ _ (m - 1) (by rw [hd, h3]; omega) (by rw [hd]; omega)]
    congr 1
    unfold dropAt
    rw [List.take_append_of_le_length (by simp; omega), List.take_of_length_le (by simp; omega)]
  · exact ⟨rfl, rfl, rfl, by simp [Go.Sort.putRow, Go.Sort.mapBlock, Go.Sort.ahead], fun k hk hne => by
      have h9 : g ≠ k := fun e => hne e.symm
      simp [Go.Sort.putRow, Go.Sort.mapBlock, Go.Sort.ahead, Array.getElem?_modify, h9]⟩

/-- the digits of a rank from so many people's on -/
def dgL (r : Nat) : Nat → List Int
  | 0 => []
  | m + 1 => (dgT r (m + 1) : Int) :: dgL r m
theorem dgL_len (r : Nat) : ∀ m, (dgL r m).length = m
  | 0 => rfl
  | m + 1 => by rw [dgL, List.length_cons, dgL_len r m]
theorem dgL_get (r : Nat) : ∀ (n j : Nat), j < n → (dgL r n).getD j 0 = (dgT r (n - j) : Int)
  | n + 1, 0, _ => rfl
  | n + 1, j + 1, h => by
    rw [dgL, List.getD_cons_succ, dgL_get r n j (by omega), show n + 1 - (j + 1) = n - j by omega]
def dgS (r n q : Nat) : List Int := List.replicate (n - q) 0 ++ dgL r q
theorem dgS_len (r n q : Nat) (h : q ≤ n) : (dgS r n q).length = n := by unfold dgS; rw [List.length_append, List.length_replicate, dgL_len]; omega
theorem dgS_set (r n q : Nat) (h : q < n) : (dgS r n q).set (n - (q + 1)) (dgT r (q + 1) : Int) = dgS r n (q + 1) := by
  unfold dgS
  obtain ⟨k, hk⟩ : ∃ k, n - (q + 1) = k := ⟨_, rfl⟩
  rw [hk, show n - q = k + 1 by omega, List.replicate_succ', List.append_assoc, List.set_append_right _ _ (by simp)]
  simp [dgL]
theorem dgS_all (r n : Nat) : dgS r n n = dgL r n := by unfold dgS; simp
theorem step_make {P : Program} (w : World) {ops : Array Oper} {o : Oper} {a : Act} {K : Act → World → Prop} {Q : Exit → Act → World → Prop} {E : Prop}
    (hg : o.guard = none) (l c : Operand) (t : TypeId) (hop : o.op = Op.makeSlice t l c)
    (base : Nat) (e : TypeId) (i : TypeInfo) (z : Value) (size : Nat) (h1 : P.underlying t = some (.slice e)) (h2 : P.info? e = some i) (h3 : i.zero = some z) (h4 : i.size = size)
    (kl kc : IntKind) (n : Nat) (hl : a.eval l = .int kl n) (hc : a.eval c = .int kc n) (b2 : i.bytes * n ≤ 281474976710656) (b3 : n ≤ maxLen) (b4 : base ≤ w.heap.size)
    (hK : ∀ w', w'.ownsRow base e size (.slice (some ⟨w.heap.size, 0, none⟩) n n) n (madeCells z.cells (n * size)).toList → w.grownBy w' none → K (a.put o.dst (.slice (some ⟨w.heap.size, 0, none⟩) n n)) w') :
    if Region.wanted o (yielded ops a.tmps) = true then Oper.wp P o a w K Q else E := by
  have hw : Region.wanted o (yielded ops a.tmps) = true := by simp [Region.wanted, hg]
  rw [if_pos hw]
  obtain ⟨w', hrun, r1, r2⟩ := run_make_full (P := P) w base t e i z size h1 h2 h3 h4 kl kc n b2 b3 b4
  unfold Oper.wp
  simp [execOp, hop, hl, hc, hrun, Result.andThen]
  exact hK w' r1 r2

theorem facN_le : ∀ n, n < 13 → 1 ≤ facN n ∧ facN n ≤ 479001600 := by decide
set_option maxRecDepth 1000000 in
set_option maxHeartbeats 6400000 in
theorem iOrderOfRank_at (n r : Nat) (W : World) (n1 : 1 ≤ n) (n2 : n ≤ 12) (hr : r ≤ 9223372036854775807) :
    Calls Try.prog 13 #[.int .i64 n, .int .i64 r] W (ListB W (if r < facN n then rkT n r n else []) (decide (r < facN n))) := by
  obtain ⟨i0, hi0, hz0, hz1, hz2⟩ := info_parts intInfo
  have n0 : (0 : Int) ≤ n := Int.natCast_nonneg _
  have r0 : (0 : Int) ≤ r := Int.natCast_nonneg _
  have n1' : (1 : Int) ≤ n := by omega
  have n2' : (n : Int) ≤ 12 := by omega
  obtain ⟨VL, hVL⟩ : ∃ VL, (if r < facN n then rkT n r n else []) = VL := ⟨_, rfl⟩
  obtain ⟨VB, hVB⟩ : ∃ VB, decide (r < facN n) = VB := ⟨_, rfl⟩
  rw [hVL, hVB]
  have HVL := Lib.hid hVL
  have HVB := Lib.hid hVB
  clear hVL hVB
  have HQB : Hid (∀ q, qT r q ≤ r) := Lib.hid (fun q => Nat.div_le_self _ _)
  go_enter Try.func13, Try.ntmps13
  go_wp2_with (first | ((with_reducible refine (isOrdered_yes (n : Int) _ n1' n2').mono ?_); rintro e w' ⟨rfl, rfl⟩) | (at_make; refine wpList_make_full _ rfl _ _ 22 rfl W.heap.size 3 i0 (.int .i64 0) 1 Try.underlying22 hi0 hz0 hz1 _ _ _ _ n rfl rfl rfl rfl (by rw [hz2]; omega) (by unfold maxLen; omega) (Nat.le_refl _) ?_))
  intro w2 hown hgrow
  have HK2 := Lib.hid ((Kp.refl Nw W).grown hgrow (fun g hg => by cases hg))
  have HS0 := Lib.hid (Sl.zeros hown)
  obtain ⟨gl, hgl⟩ : ∃ gl, gl = W.heap.size := ⟨_, rfl⟩
  rw [← hgl] at HS0 ⊢
  have HGLW : Hid (W.heap.size ≤ gl) := Lib.hid (by omega)
  have HGL2 : Hid (gl < w2.heap.size) := Lib.hid (by have h9 := HS0.out; exact (World.block_lt_of_cell? _ _ (SlAt.cell (n := n) (j := 0) ⟨by simp, h9.2⟩ (by omega))))
  clear hown hgrow hgl
  go_wp2
  go_loopw [1, 7] (fun x y wq => ∃ (q : Nat) (wr : World), q ≤ n ∧ x = .int .i64 (qT r q : Nat) ∧ y = .int .i64 ((q + 1 : Nat) : Int) ∧ wr = wq ∧ SlAt wr gl gl n n (dgS r n q) ∧ Kp (fun b => b = gl) w2 wr) (fun _ y _ => n + 2 - (intOf y).toNat)
  case atStart => exact ⟨0, _, Nat.zero_le _, by unfold qT facN; simp, rfl, rfl, by unfold dgS dgL; rw [List.append_nil]; exact HS0.out, Kp.refl _ _⟩
  case round =>
    obtain ⟨q, wr, hq, rfl, rfl, rfl, hsu, hk⟩ := hrel
    have HSU := Lib.hid hsu
    have HK := Lib.hid hk
    have hqb := HQB.out q
    obtain ⟨X, hX⟩ : ∃ X, qT r q = X := ⟨_, rfl⟩
    rw [hX] at hqb ⊢
    have X0 : (0 : Int) ≤ X := Int.natCast_nonneg _
    have q0 : (0 : Int) ≤ q := Int.natCast_nonneg _
    by_cases hlt : q < n
    · have y1 : ((q + 1 : Nat) : Int) ≤ n := by omega
      have yz : (0 : Int) < (q : Int) + 1 := by omega
      have yz1 : ((q : Int) + 1) ≠ 0 := by omega
      have yz2 : ¬ ((q : Int) + 1) = 0 := by omega
      have yz3 : (((q : Int) + 1) == 0) = false := by simp; omega
      have hdg : dgT r (q + 1) = X % (q + 1) := by rw [← hX]; rfl
      have hqs : X / (q + 1) = qT r (q + 1) := by rw [← hX]; exact qT_succ r q
      obtain ⟨d, hd⟩ : ∃ d, dgT r (q + 1) = d := ⟨_, rfl⟩
      have hset := dgS_set r n q hlt
      rw [hd] at hdg hset
      obtain ⟨Y, hY⟩ : ∃ Y, qT r (q + 1) = Y := ⟨_, rfl⟩
      rw [hY] at hqs
      have hYX : Y ≤ X := by rw [← hqs]; exact Nat.div_le_self _ _
      have hdq : d < q + 1 := by rw [hdg]; exact Nat.mod_lt _ (by omega)
      have t1 : (X : Int).tmod ((q : Int) + 1) = (d : Int) := by
        rw [Int.tmod_eq_emod_of_nonneg X0, hdg]
        simp
      have t2 : IntKind.i64.wrap (d : Int) = (d : Int) := IntWalk.i64_in _ (by omega)
      have t3 : (X : Int) / ((q : Int) + 1) = (Y : Int) := by
        rw [← hqs]
        simp
      have t4 : (X : Int).tdiv ((q : Int) + 1) = (Y : Int) := by rw [Int.tdiv_eq_ediv_of_nonneg X0, t3]
      have t5 : IntKind.i64.wrap (Y : Int) = (Y : Int) := IntWalk.i64_in _ (by omega)
      obtain ⟨p, hp⟩ : ∃ p, n - (q + 1) = p := ⟨_, rfl⟩
      have t6 : IntKind.i64.wrap ((n : Int) - ((q : Int) + 1)) = (p : Int) := by rw [IntWalk.i64_in _ (by omega)]; omega
      have hpn : p < n := by omega
      have p0 : (0 : Int) ≤ p := Int.natCast_nonneg _
      have p1 : (p : Int) < n := by omega
      rw [hp] at hset
      have cs := hsu.cell p hpn
      have fs := hsu.frozen p
      have HSET := Lib.hid hset
      have HY := Lib.hid hY
      clear hsu hk hX hdg hqs hd hset hY hp
      go_wp2
      go_roundw
      case rel => exact ⟨q + 1, _, by omega, by rw [HY.out], by go_num, rfl, by rw [← HSET.out]; exact HSU.out.store p _, HK.out.setCell (.inl rfl) _⟩
      case measure => simp [intOf] <;> omega
    · have eq : n = q := by omega
      subst eq
      have y1 : ¬ ((n + 1 : Nat) : Int) ≤ n := by omega
      have HSF : Hid (SlAt wr gl gl n n (dgL r n)) := Lib.hid (by rw [← dgS_all]; exact hsu)
      have HKF := Lib.hid (HK2.out.after hk (S := Nw) (fun g hg e => by have h9 : g = gl := e; have := HGLW.out; omega))
      have HGLT : Hid (gl < wr.heap.size) := Lib.hid (Nat.lt_of_lt_of_le HGL2.out hk.size)
      by_cases hX0 : 0 < X
      · have HNL : Hid (¬ r < facN n) := Lib.hid (by
          intro h9
          rw [← hX] at hX0
          unfold qT at hX0
          rw [Nat.div_eq_of_lt h9] at hX0
          omega)
        have xx : (0 : Int) < X := by omega
        clear hsu hk hX hX0
        go_wp2
        go_ret2
        have hVL := HVL.out
        have hVB := HVB.out
        rw [if_neg HNL.out] at hVL
        rw [decide_eq_false HNL.out] at hVB
        exact ⟨.slice none 0 0, by rw [← hVB]; rfl, by rw [← hVL]; exact Sl.nil _ _, HKF.out⟩
      · have hXz : X = 0 := by omega
        have HRF : Hid (r < facN n) := Lib.hid (by
          rw [hXz] at hX
          unfold qT at hX
          have hp := facN_pos n
          rcases Nat.div_eq_zero_iff.1 hX with h9 | h9
          · omega
          · exact h9)
        have xx : ¬ (0 : Int) < X := by omega
        have hVL := HVL.out
        have hVB := HVB.out
        rw [if_pos HRF.out] at hVL
        rw [decide_eq_true HRF.out] at hVB
        have HVL2 := Lib.hid hVL
        have HVB2 := Lib.hid hVB
        clear hVL hVB
        clear hsu hk hX hX0 hXz
        obtain ⟨wb, hrunb, hob, hgb⟩ := run_make_full (P := Try.prog) wr.drew wr.heap.size 22 3 i0 (.int .i64 0) 1 Try.underlying22 hi0 hz0 hz1 .i64 .i64 n (by rw [hz2]; omega) (by unfold maxLen; omega) (Nat.le_refl _)
        go_wp2_with fail
        go_region_law (first
          | (go_simp
             go_at_call 21
             refine (firstNumbers_any n _ (by omega)).mono ?_
             rintro e wa ⟨va, rfl, hsa, hka⟩
             obtain ⟨wc, hrunc, hoc, hgc⟩ := run_make_full (P := Try.prog) wa wa.heap.size 22 3 i0 (.int .i64 0) 1 Try.underlying22 hi0 hz0 hz1 .i64 .i64 n (by rw [hz2]; omega) (by unfold maxLen; omega) (Nat.le_refl _))
          | fail)
        · have kA : Kp Nw wr wa := (Kp.refl Nw wr).drew.nw hka
          have kB : Kp Nw wa wc := (Kp.refl Nw wa).grown hgc (fun g hg => by cases hg)
          obtain ⟨w6, hw6⟩ : ∃ w6, w6 = wc := ⟨_, rfl⟩
          obtain ⟨go, hgo⟩ : ∃ go, go = wa.heap.size := ⟨_, rfl⟩
          rw [← hw6, ← hgo]
          have HK6 : Hid (Kp Nw W w6) := Lib.hid (by rw [hw6]; exact (HKF.out.nw kA).nw kB)
          have HV6 : Hid (Sl w6 W.heap.size va (rkL n r 0)) := Lib.hid (by rw [hw6]; exact (hsa.below kB.below').from HKF.out.size)
          have HL6 : Hid (SlAt w6 gl gl n n (dgL r n)) := Lib.hid (by rw [hw6]; exact (HSF.out.kq kA (fun h => h)).kq kB (fun h => h))
          rw [Nat.mul_one] at hoc
          have hz := Sl.zeros (show wc.ownsRow wa.heap.size 3 1 (.slice (some ⟨wa.heap.size, 0, none⟩) n n) n (madeCells #[Value.int .i64 0] n).toList from hoc)
          rw [← hw6, ← hgo] at hz
          have HO6 : Hid (SlAt w6 go go n n (List.replicate n 0)) := Lib.hid ⟨by simp, hz.2⟩
          have HD6 : Hid (∀ b, va.ownBlock = some b → b ≠ gl ∧ b ≠ go) := Lib.hid (fun b hb => by
            have h9 : wr.heap.size ≤ b ∧ b < wa.heap.size := hsa.own_ge b hb
            have := HGLT.out
            omega)
          have HGG : Hid (gl ≠ go ∧ W.heap.size ≤ gl ∧ W.heap.size ≤ go) := Lib.hid (by have := HGLT.out; have := kA.size; have := HGLW.out; omega)
          clear hrunb hob hgb hrunc hoc hgc hsa hka kA kB hz hw6 hgo
          go_wp2
          go_loopw [8, 45] (fun v0 x wq => ∃ (j : Nat) (v : Value) (wr : World), j ≤ n ∧ x = .int .i64 j ∧ v = v0 ∧ wr = wq ∧ Sl wr W.heap.size v (rkL n r j) ∧ (∀ b, v.ownBlock = some b → b ≠ gl ∧ b ≠ go) ∧ SlAt wr gl gl n n (dgL r n) ∧ SlAt wr go go n n (ovr n (rkT n r j)) ∧ Kp Nw W wr) (fun _ x _ => n - (intOf x).toNat)
          case atStart => exact ⟨0, _, _, Nat.zero_le _, rfl, rfl, rfl, HV6.out, HD6.out, HL6.out, by rw [rkT, ovr_nil]; exact HO6.out, HK6.out⟩
          case round =>
            obtain ⟨j, v, wr, hj, rfl, rfl, rfl, hv, hvd, hls, hos, hk⟩ := hrel
            have HV := Lib.hid hv
            have HVD := Lib.hid hvd
            have HLS := Lib.hid hls
            have HOS := Lib.hid hos
            have HK := Lib.hid hk
            have j0 : (0 : Int) ≤ j := Int.natCast_nonneg _
            by_cases hlt : j < n
            · have j1 : (j : Int) < n := by omega
              have hll := rkL_len n r HRF.out j (by omega)
              have hat := rkA_lt n r HRF.out j hlt
              have hdg := rk_dig n r HRF.out j hlt
              obtain ⟨a, ha⟩ : ∃ a, rkR n r j / facN (n - j - 1) = a := ⟨_, rfl⟩
              have hstL : rkL n r (j + 1) = dropAt (rkL n r j) a := by rw [rkL, ha]
              have hstT : rkT n r (j + 1) = rkT n r j ++ [(rkL n r j).getD a 0] := by rw [rkT, ha]
              rw [ha] at hat hdg
              obtain ⟨l, hl'⟩ : ∃ l, rkL n r j = l := ⟨_, rfl⟩
              rw [hl'] at hll hstL hstT hv
              obtain ⟨m, hm⟩ : ∃ m, n - j = m := ⟨_, rfl⟩
              rw [hm] at hll hat hdg
              obtain ⟨y, hy⟩ : ∃ y, l.getD a 0 = y := ⟨_, rfl⟩
              rw [hy] at hstT
              have hrl : (rkT n r j).length = j := rkT_len _ _ _
              have hset : ovr n (rkT n r (j + 1)) = (ovr n (rkT n r j)).set j y := by
                have := ovr_snoc n (rkT n r j) y (by rw [hrl]; exact hlt)
                rw [hrl] at this
                rw [hstT, this]
              obtain ⟨gu, cu, rfl, hua, hcu, _, _, _⟩ := hv.at_ (by omega)
              rw [hll] at hua hcu ⊢
              have cd := hls.cell j hlt
              rw [dgL_get r n j hlt, hm, ← hdg] at cd
              have cl := hua.cell a hat
              rw [hy] at cl
              have cs := hos.cell j hlt
              have fs := hos.frozen j
              obtain ⟨hg1, hg2⟩ := hvd gu rfl
              have a0 : (0 : Int) ≤ a := Int.natCast_nonneg _
              have a1 : (a : Int) < m := by omega
              have wa : IntKind.i64.wrap ((a : Int) + 1) = (a : Int) + 1 := IntWalk.i64_in _ (by omega)
              have kO : Kp (fun b => b = go) wr (wr.setCell ⟨go, j, none⟩ (.int .i64 y)) := (Kp.refl (fun b => b = go) wr).setCell (p := ⟨go, j, none⟩) (.inl rfl) _
              have HUA := Lib.hid (hua.kq kO hg2)
              have HLS2 := Lib.hid (hls.kq kO (fun e => HGG.out.1 e))
              have HOS2 : Hid (SlAt (wr.setCell ⟨go, j, none⟩ (.int .i64 y)) go go n n (ovr n (rkT n r (j + 1)))) := Lib.hid (by rw [hset]; exact hos.store j y)
              have HK2 := Lib.hid (hk.setCell (p := ⟨go, j, none⟩) (.inr HGG.out.2.2) (.int .i64 y))
              have HSTL := Lib.hid hstL
              have HLL := Lib.hid hll
              have hB := (hv.own_ge gu rfl).1
              clear hv hvd hls hos hk hset hstT hstL hl' hy ha hdg hua kO hrl
              go_wp2_with fail
              refine (delInts_any gu cu m a _ l _ HUA.out hcu hat).mono ?_
              rintro e w5 ⟨rfl, hd5, hk5⟩
              have HV5 : Hid (Sl w5 W.heap.size (.slice (some ⟨gu, 0, none⟩) (m - 1) cu) (rkL n r (j + 1))) := Lib.hid (by rw [HSTL.out]; exact hd5.sl)
              have HLS5 := Lib.hid (HLS2.out.kq hk5 (fun e => hg1 e.symm))
              have HOS5 := Lib.hid (HOS2.out.kq hk5 (fun e => hg2 e.symm))
              have HK5 := Lib.hid (HK2.out.after hk5 (fun g hg e => by omega))
              have HVD5 : Hid (∀ b, (Value.slice (some ⟨gu, 0, none⟩) (m - 1) cu).ownBlock = some b → b ≠ gl ∧ b ≠ go) := Lib.hid (fun b hb => by
                have e9 : b = gu := by simp [Value.ownBlock] at hb; omega
                rw [e9]
                exact ⟨hg1, hg2⟩)
              clear hd5 hk5 cs fs cd cl
              go_wp2
              go_roundw
              case rel => exact ⟨j + 1, _, _, by omega, by go_num, rfl, rfl, HV5.out, HVD5.out, HLS5.out, HOS5.out, HK5.out⟩
              case measure => simp [intOf] <;> omega
            · have ej : j = n := by omega
              subst ej
              have t1 : ¬ (j : Int) < j := by omega
              have HSF : Hid (Sl wr W.heap.size (.slice (some ⟨go, 0, none⟩) j j) (rkT j r j)) := Lib.hid (by
                have h9 := hos.sl
                rw [ovr_all j _ (rkT_len _ _ _)] at h9
                exact h9.from HGG.out.2.2)
              clear hv hvd hls hos hk
              go_wp2
              go_ret2
              exact ⟨_, by rw [← HVB2.out]; rfl, by rw [← HVL2.out]; exact HSF.out, HK.out⟩
        · have kB : Kp Nw wr wb := (Kp.refl Nw wr).drew.grown hgb (fun g hg => by cases hg)
          have kA : Kp Nw wb wa := hka
          obtain ⟨w6, hw6⟩ : ∃ w6, w6 = wa := ⟨_, rfl⟩
          obtain ⟨go, hgo⟩ : ∃ go, go = wr.heap.size := ⟨_, rfl⟩
          have hgo' : wr.drew.heap.size = go := hgo.symm
          simp only [hgo'] at hob
          rw [← hw6, ← hgo]
          have HK6 : Hid (Kp Nw W w6) := Lib.hid (by rw [hw6]; exact (HKF.out.nw kB).nw kA)
          have HV6 : Hid (Sl w6 W.heap.size va (rkL n r 0)) := Lib.hid (by rw [hw6]; exact hsa.from (HKF.out.nw kB).size)
          have HL6 : Hid (SlAt w6 gl gl n n (dgL r n)) := Lib.hid (by rw [hw6]; exact (HSF.out.kq kB (fun h => h)).kq kA (fun h => h))
          rw [Nat.mul_one] at hob
          have hz := Sl.zeros (show wb.ownsRow wr.heap.size 3 1 (.slice (some ⟨go, 0, none⟩) n n) n (madeCells #[Value.int .i64 0] n).toList from hob)
          rw [← hgo] at hz
          have HO5 : SlAt wb go go n n (List.replicate n 0) := ⟨by simp, hz.2⟩
          have HO6 : Hid (SlAt w6 go go n n (List.replicate n 0)) := Lib.hid (by rw [hw6]; exact HO5.kq kA (fun h => h))
          have HD6 : Hid (∀ b, va.ownBlock = some b → b ≠ gl ∧ b ≠ go) := Lib.hid (fun b hb => by
            have h9 : wb.heap.size ≤ b ∧ b < wa.heap.size := hsa.own_ge b hb
            have := HGLT.out
            have h10 := World.block_lt_of_cell? _ _ (HO5.cell 0 (by omega))
            have h11 : go < wb.heap.size := h10
            omega)
          have HGG : Hid (gl ≠ go ∧ W.heap.size ≤ gl ∧ W.heap.size ≤ go) := Lib.hid (by have := HGLT.out; have := HKF.out.size; have := HGLW.out; omega)
          clear hrunb hob hgb hrunc hoc hgc hsa hka kA kB hz hw6 hgo hgo' HO5
          go_wp2
          go_loopw [8, 45] (fun v0 x wq => ∃ (j : Nat) (v : Value) (wr : World), j ≤ n ∧ x = .int .i64 j ∧ v = v0 ∧ wr = wq ∧ Sl wr W.heap.size v (rkL n r j) ∧ (∀ b, v.ownBlock = some b → b ≠ gl ∧ b ≠ go) ∧ SlAt wr gl gl n n (dgL r n) ∧ SlAt wr go go n n (ovr n (rkT n r j)) ∧ Kp Nw W wr) (fun _ x _ => n - (intOf x).toNat)
          case atStart => exact ⟨0, _, _, Nat.zero_le _, rfl, rfl, rfl, HV6.out, HD6.out, HL6.out, by rw [rkT, ovr_nil]; exact HO6.out, HK6.out⟩
          case round =>
            obtain ⟨j, v, wr, hj, rfl, rfl, rfl, hv, hvd, hls, hos, hk⟩ := hrel
            have HV := Lib.hid hv
            have HVD := Lib.hid hvd
            have HLS := Lib.hid hls
            have HOS := Lib.hid hos
            have HK := Lib.hid hk
            have j0 : (0 : Int) ≤ j := Int.natCast_nonneg _
            by_cases hlt : j < n
            · have j1 : (j : Int) < n := by omega
              have hll := rkL_len n r HRF.out j (by omega)
              have hat := rkA_lt n r HRF.out j hlt
              have hdg := rk_dig n r HRF.out j hlt
              obtain ⟨a, ha⟩ : ∃ a, rkR n r j / facN (n - j - 1) = a := ⟨_, rfl⟩
              have hstL : rkL n r (j + 1) = dropAt (rkL n r j) a := by rw [rkL, ha]
              have hstT : rkT n r (j + 1) = rkT n r j ++ [(rkL n r j).getD a 0] := by rw [rkT, ha]
              rw [ha] at hat hdg
              obtain ⟨l, hl'⟩ : ∃ l, rkL n r j = l := ⟨_, rfl⟩
              rw [hl'] at hll hstL hstT hv
              obtain ⟨m, hm⟩ : ∃ m, n - j = m := ⟨_, rfl⟩
              rw [hm] at hll hat hdg
              obtain ⟨y, hy⟩ : ∃ y, l.getD a 0 = y := ⟨_, rfl⟩
              rw [hy] at hstT
              have hrl : (rkT n r j).length = j := rkT_len _ _ _
              have hset : ovr n (rkT n r (j + 1)) = (ovr n (rkT n r j)).set j y := by
                have := ovr_snoc n (rkT n r j) y (by rw [hrl]; exact hlt)
                rw [hrl] at this
                rw [hstT, this]
              obtain ⟨gu, cu, rfl, hua, hcu, _, _, _⟩ := hv.at_ (by omega)
              rw [hll] at hua hcu ⊢
              have cd := hls.cell j hlt
              rw [dgL_get r n j hlt, hm, ← hdg] at cd
              have cl := hua.cell a hat
              rw [hy] at cl
              have cs := hos.cell j hlt
              have fs := hos.frozen j
              obtain ⟨hg1, hg2⟩ := hvd gu rfl
              have a0 : (0 : Int) ≤ a := Int.natCast_nonneg _
              have a1 : (a : Int) < m := by omega
              have wa : IntKind.i64.wrap ((a : Int) + 1) = (a : Int) + 1 := IntWalk.i64_in _ (by omega)
              have kO : Kp (fun b => b = go) wr (wr.setCell ⟨go, j, none⟩ (.int .i64 y)) := (Kp.refl (fun b => b = go) wr).setCell (p := ⟨go, j, none⟩) (.inl rfl) _
              have HUA := Lib.hid (hua.kq kO hg2)
              have HLS2 := Lib.hid (hls.kq kO (fun e => HGG.out.1 e))
              have HOS2 : Hid (SlAt (wr.setCell ⟨go, j, none⟩ (.int .i64 y)) go go n n (ovr n (rkT n r (j + 1)))) := Lib.hid (by rw [hset]; exact hos.store j y)
              have HK2 := Lib.hid (hk.setCell (p := ⟨go, j, none⟩) (.inr HGG.out.2.2) (.int .i64 y))
              have HSTL := Lib.hid hstL
              have HLL := Lib.hid hll
              have hB := (hv.own_ge gu rfl).1
              clear hv hvd hls hos hk hset hstT hstL hl' hy ha hdg hua kO hrl
              go_wp2_with fail
              refine (delInts_any gu cu m a _ l _ HUA.out hcu hat).mono ?_
              rintro e w5 ⟨rfl, hd5, hk5⟩
              have HV5 : Hid (Sl w5 W.heap.size (.slice (some ⟨gu, 0, none⟩) (m - 1) cu) (rkL n r (j + 1))) := Lib.hid (by rw [HSTL.out]; exact hd5.sl)
              have HLS5 := Lib.hid (HLS2.out.kq hk5 (fun e => hg1 e.symm))
              have HOS5 := Lib.hid (HOS2.out.kq hk5 (fun e => hg2 e.symm))
              have HK5 := Lib.hid (HK2.out.after hk5 (fun g hg e => by omega))
              have HVD5 : Hid (∀ b, (Value.slice (some ⟨gu, 0, none⟩) (m - 1) cu).ownBlock = some b → b ≠ gl ∧ b ≠ go) := Lib.hid (fun b hb => by
                have e9 : b = gu := by simp [Value.ownBlock] at hb; omega
                rw [e9]
                exact ⟨hg1, hg2⟩)
              clear hd5 hk5 cs fs cd cl
              go_wp2
              go_roundw
              case rel => exact ⟨j + 1, _, _, by omega, by go_num, rfl, rfl, HV5.out, HVD5.out, HLS5.out, HOS5.out, HK5.out⟩
              case measure => simp [intOf] <;> omega
            · have ej : j = n := by omega
              subst ej
              have t1 : ¬ (j : Int) < j := by omega
              have HSF : Hid (Sl wr W.heap.size (.slice (some ⟨go, 0, none⟩) j j) (rkT j r j)) := Lib.hid (by
                have h9 := hos.sl
                rw [ovr_all j _ (rkT_len _ _ _)] at h9
                exact h9.from HGG.out.2.2)
              clear hv hvd hls hos hk
              go_wp2
              go_ret2
              exact ⟨_, by rw [← HVB2.out]; rfl, by rw [← HVL2.out]; exact HSF.out, HK.out⟩

theorem iOrderOfRank_any (p k : Int) (W : World) (hk : k ≤ 9223372036854775807) : Calls Try.prog 13 #[.int .i64 p, .int .i64 k] W (ListB W (vOfRank p k).1 (vOfRank p k).2) := by
  by_cases hp : 1 ≤ p ∧ p ≤ 12
  · obtain ⟨n, rfl⟩ : ∃ n : Nat, p = n := ⟨p.toNat, by omega⟩
    by_cases hk0 : 0 ≤ k
    · obtain ⟨r, rfl⟩ : ∃ r : Nat, k = r := ⟨k.toNat, by omega⟩
      have h := iOrderOfRank_at n r W (by omega) (by omega) (by omega)
      have fb := facN_pos n
      unfold vOfRank
      rw [Int.toNat_natCast, Int.toNat_natCast]
      by_cases hr : r < facN n
      · rw [if_pos ⟨hp, by omega, by omega⟩]
        rw [if_pos hr, decide_eq_true hr] at h
        exact h
      · rw [if_neg (fun e => hr (by omega))]
        rw [if_neg hr, decide_eq_false hr] at h
        exact h
    · unfold vOfRank
      rw [if_neg (fun e => hk0 e.2.1)]
      have k1 : k < 0 := by omega
      go_enter Try.func13, Try.ntmps13
      go_wp2_with (first | ((with_reducible refine (isOrdered_yes (n : Int) _ hp.1 hp.2).mono ?_); rintro e w' ⟨rfl, rfl⟩))
      go_ret2
      exact ⟨.slice none 0 0, rfl, Sl.nil _ _, Kp.refl _ _⟩
  · have hp' : p < 1 ∨ 12 < p := by omega
    unfold vOfRank
    rw [if_neg (fun e => hp e.1)]
    clear hp
    go_enter Try.func13, Try.ntmps13
    go_wp2_with (first | ((with_reducible refine (isOrdered_no p _ hp').mono ?_); rintro e w' ⟨rfl, rfl⟩))
    go_ret2
    exact ⟨.slice none 0 0, rfl, Sl.nil _ _, Kp.refl _ _⟩
end Go.Proofs.Ytpbbfpgjhmjjoac
