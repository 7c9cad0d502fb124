/- The rounds when two count, in the program; no condition but that there are at most two hundred people and the steps are those of the chapter. -/
import Derived.Test.YtjlbillfbhkamaaLose
import Derived.Test.YtjlbillfbhkamaaCho
namespace Go.Proofs.Ytjlbillfbhkamaa
open Go.ChangeShapes Go.WideShapes Go.ChangeAt Go.RowKit

/-- where the next count goes on: one who goes, and then another one -/
theorem idx2_eq (n j p : Nat) (hj : j < n) (hp : p < n) (hne : p ≠ j) : (if (if p < j then p else p - 1) < j % (n - 1) then j % (n - 1) - 1 else j % (n - 1)) % (n - 1 - 1) = idx2 n j p := by
  unfold idx2
  rw [if_neg hne, show n - 1 - 1 = n - 2 by omega]
  by_cases e : j = n - 1
  · subst e
    rw [Nat.mod_self, if_neg (by omega), if_pos (by omega : p < n - 1), show n - 1 - 1 = n - 2 by omega, Nat.mod_self, Nat.zero_mod]
  · rw [Nat.mod_eq_of_lt (by omega : j < n - 1)]
    by_cases c : p < j
    · rw [if_pos c, if_pos c, if_pos c]
    · rw [if_neg c, if_neg c, if_neg (by omega), Nat.sub_zero]
/-- the one whom the other has chosen goes behind the one who went -/
theorem cir_lose (C L cap j p : Nat) (xs : List Int) (k : Int) (W : World) (h : Cir W C L cap (xs.eraseIdx j) (j % (xs.length - 1)) k) (hj : j < xs.length) (hp : p < xs.length) (hd : Ds xs) :
    Calls Try.prog 49 #[.pointer (some ⟨C, 0, none⟩), .int .i64 (xs.getD p 0)] W fun e w' => e = .returned (.tuple #[]) ∧ Cir w' C L cap (cutR xs (xs.getD j 0) (xs.getD p 0)) (idx2 xs.length j p) k ∧ Kp (fun b => b = C ∨ b = L) W w' := by
  have hl := erase_len xs j hj
  by_cases e : p = j
  · subst e
    rw [cut_one xs hd p hp]
    unfold idx2
    rw [if_pos rfl]
    refine lose_none C L cap _ _ k _ W h (fun hm => ?_)
    obtain ⟨t, ht, he⟩ := List.getElem_of_mem hm
    have h1 : (xs.eraseIdx p).getD t 0 = xs.getD p 0 := by rw [← he]; simp [List.getD, ht]
    rw [getD_erase] at h1
    rw [hl] at ht
    by_cases c : t < p
    · rw [if_pos c] at h1
      exact hd t p c hp h1
    · rw [if_neg c] at h1
      exact hd p (t + 1) (by omega) (by omega) h1.symm
  · rw [cut_two xs hd j p hj hp e, ← idx2_eq xs.length j p hj hp e]
    have := lose_some C L cap (j % (xs.length - 1)) (if p < j then p else p - 1) (xs.eraseIdx j) k (xs.getD p 0) W h (by rw [hl]; split <;> omega) (erase_other xs j p e) (hd.erase j hj)
    rw [hl] at this
    exact this

/-- what holds ahead of a round: both circles and the rounds so far -/
def RnJ (n : Nat) (f b : Int) (C L D M B : Nat) (W : World) (r : Value) (wr : World) : Prop :=
  ∃ (t : Nat) (l : List Int) (i i' : Nat) (acc : List (Int × Int)) (v : Value), v = r ∧ l.length ≤ t ∧ acc.length + t = n ∧ Inc l ∧ (0 < l.length → i < l.length ∧ i' < l.length) ∧ Cir wr C L n l i f ∧ Cir wr D M n l.reverse i' b ∧
    acc ++ rnds f b t l i i' = rnds f b n (marks 0 n) 0 0 ∧ Cs wr B v acc ∧ B ≤ wr.heap.size ∧ Kp Nw W wr
theorem person_num (a b : Int) : ∀ w : World, (Instr.field 59 (.agg #[.int .i64 a, .int .i64 b]) 1).run Try.prog w = .ok (.int .i64 b) w := fun _ => by kernel_rfl
theorem marks_inc (n : Nat) : Inc (marks 0 n) := by
  intro i j h1 h2
  rw [marks_length] at h2
  rw [marks_getD 0 n i (by omega), marks_getD 0 n j h2]
  omega
/-- what a call returns that makes the rounds -/
def RndRes (W : World) (rs : List (Int × Int)) (e : Ending) (w' : World) : Prop := ∃ v, e = .returned v ∧ Cs w' W.heap.size v rs ∧ Kp Nw W w'

set_option maxRecDepth 1000000 in
set_option maxHeartbeats 6400000 in
theorem roundsOfTwo_any (n : Nat) (f b : Int) (W : World) (n1 : 1 ≤ n) (n2 : n ≤ 200) (f1 : 1 ≤ f) (f2 : f ≤ 1000000) (b1 : 1 ≤ b) (b2 : b ≤ 1000000) :
    Calls Try.prog 30 #[.int .i64 n, .int .i64 f, .int .i64 b] W (RndRes W (rnds f b n (marks 0 n) 0 0)) := by
  obtain ⟨RS, hRS⟩ : ∃ RS, rnds f b n (marks 0 n) 0 0 = RS := ⟨_, rfl⟩
  have HRS := Lib.hid hRS
  rw [hRS]
  clear hRS
  go_enter Try.func30, Try.ntmps30
  go_wp2_with fail
  refine (firstNumbers_any n W (by omega)).mono ?_
  rintro e w1 ⟨v, rfl, hs, hk⟩
  obtain ⟨A, c, rfl⟩ := hs.val (marks_length 0 n)
  have HS := Lib.hid hs
  have HK := Lib.hid hk
  clear hs hk
  go_wp2_with fail
  refine (circleOf_any _ (marks 0 n) f _ HS.out.rd (by rw [marks_length]; omega) (by rw [marks_length]; omega)).mono ?_
  rintro e w2 ⟨C, L, rfl, hC, hk, hC1, hL1⟩
  have HC := Lib.hid (Cir.start hC)
  have HK2 := Lib.hid (HK.out.nw hk)
  have z1 : W.heap.size ≤ w1.heap.size := HK.out.size
  clear hk hC
  go_wp2_with fail
  refine (firstNumbers_any n w2 (by omega)).mono ?_
  rintro e w3 ⟨v3, rfl, hs3, hk3⟩
  obtain ⟨g3, cap3, rfl, hat, hc3, hg3, hl3, _⟩ := hs3.at_ (by rw [marks_length]; omega)
  rw [marks_length] at hat hc3 ⊢
  have HC3 := Lib.hid (HC.out.kp hk3 (fun h => h) (fun h => h))
  have HK3 := Lib.hid (HK2.out.nw hk3)
  have HA3 := Lib.hid hat
  have z2 : W.heap.size ≤ w2.heap.size := HK2.out.size
  have zc := HC.out.lt
  clear hs3 hk3 hat
  go_wp2_with fail
  refine (reverse_any w2.heap.size g3 cap3 n (marks 0 n) w3 HA3.out (by omega)).mono ?_
  rintro e w4 ⟨rfl, hs4, hk4⟩
  have HC4 := Lib.hid (HC3.out.kp hk4 (by omega) (by omega))
  have HK4 := Lib.hid (HK3.out.after hk4 (fun g hg e => by have e' : g = g3 := e; omega))
  have HA4 := Lib.hid hs4
  clear hs4 hk4
  go_wp2_with fail
  refine (circleOf_any _ (marks 0 n).reverse b _ HA4.out.sl.rd (by rw [List.length_reverse, marks_length]; omega) (by rw [List.length_reverse, marks_length]; omega)).mono ?_
  rintro e w5 ⟨D, M, rfl, hD, hk5, hD1, hM1⟩
  have HD := Lib.hid (Cir.start hD)
  have HC5 := Lib.hid (HC4.out.kp hk5 (fun h => h) (fun h => h))
  have HK5 := Lib.hid (HK4.out.nw hk5)
  have zc4 := HC4.out.lt
  have zd := HD.out.lt
  have HNE := Lib.hid (show (C ≠ D ∧ C ≠ M ∧ L ≠ D ∧ L ≠ M) ∧ (C < w5.heap.size ∧ L < w5.heap.size ∧ D < w5.heap.size ∧ M < w5.heap.size) ∧ (W.heap.size ≤ C ∧ W.heap.size ≤ L ∧ W.heap.size ≤ D ∧ W.heap.size ≤ M) from ⟨by omega, by have := HC5.out.lt; omega, by have := HK4.out.size; omega⟩)
  clear hk5 hD
  go_wp2
  go_loopw [10, 11] (fun r _ wr => RnJ n f b C L D M w5.heap.size W r wr) (fun r _ _ => n - lenOf r)
  case atStart => exact ⟨n, marks 0 n, 0, 0, [], _, rfl, by rw [marks_length]; exact Nat.le_refl _, by simp, marks_inc n, fun h => ⟨h, h⟩, by have := HC5.out; rwa [marks_length] at this, by have := HD.out; rwa [List.length_reverse, marks_length] at this, rfl, Cs.nil _ _, Nat.le_refl _, HK5.out⟩
  case round =>
    rename_i wr
    obtain ⟨t, l, i, i', acc, v, rfl, hlt, hat, hinc, hi, hc, hd, hacc, hcs, hB, hk⟩ := hrel
    have hlen := hc.len
    obtain ⟨m, hm⟩ : ∃ m, l.length = m := ⟨_, rfl⟩
    rw [hm] at hlen hi hlt
    have HM := Lib.hid hm
    have HI := Lib.hid hinc
    have HC := Lib.hid hc
    have HD := Lib.hid hd
    have HAC := Lib.hid hacc
    have HCS := Lib.hid hcs
    have HK := Lib.hid hk
    clear hinc hc hd hacc hcs hk hm
    by_cases h0 : m = 0
    · subst h0
      have HE : Hid (acc = RS) := Lib.hid (by rw [← HRS.out, ← HAC.out, rnds_none f b t l i i' HM.out, List.append_nil])
      have HR : Hid (Cs wr W.heap.size v RS) := Lib.hid (by rw [← HE.out]; exact HCS.out.from (by have := HNE.out; omega))
      go_wp2
      go_ret
      exact ⟨_, rfl, HR.out, HK.out⟩
    · obtain ⟨T, rfl⟩ : ∃ T, t = T + 1 := ⟨t - 1, by omega⟩
      obtain ⟨j, hj⟩ : ∃ j, rj f i m = j := ⟨_, rfl⟩
      obtain ⟨jr, hjr⟩ : ∃ jr, rj b i' m = jr := ⟨_, rfl⟩
      have hjm : j < m := by rw [← hj]; exact rj_lt _ _ _ (by omega)
      have hjrm : jr < m := by rw [← hjr]; exact rj_lt _ _ _ (by omega)
      obtain ⟨p, hp⟩ : ∃ p, m - 1 - jr = p := ⟨_, rfl⟩
      have hpm : p < m := by omega
      obtain ⟨x, hx⟩ : ∃ x, l.getD j 0 = x := ⟨_, rfl⟩
      obtain ⟨y, hy⟩ : ∃ y, l.getD p 0 = y := ⟨_, rfl⟩
      have HX := Lib.hid hx
      have HY := Lib.hid hy
      have HP := Lib.hid hp
      have HJR := Lib.hid hjr
      have hrev1 : l.reverse.getD jr 0 = y := by rw [getD_reverse l jr (by rw [HM.out]; exact hjrm), HM.out, hp, hy]
      have hrev2 : l.reverse.getD (m - 1 - j) 0 = x := by rw [getD_reverse l _ (by rw [HM.out]; omega), HM.out, show m - 1 - (m - 1 - j) = j by omega, hx]
      have HV1 := Lib.hid hrev1
      have HV2 := Lib.hid hrev2
      have HACN : Hid (acc ++ [(x, y)] ++ rnds f b T (cutR l x y) (idx2 m j p) (idx2 m jr (m - 1 - j)) = rnds f b n (marks 0 n) 0 0) := Lib.hid (by
        rw [← HAC.out, rnds, if_neg (by rw [HM.out]; exact h0), HM.out, hj, hjr, hp, hx, hy, List.append_assoc]
        rfl)
      have HLEN : Hid ((cutR l x y).length = if p = j then m - 1 else m - 2) := Lib.hid (by
        have := cut_len l HI.out j p (by rw [HM.out]; exact hjm) (by rw [HM.out]; exact hpm)
        rw [hx, hy, HM.out] at this
        exact this)
      have g1 := cir_go C L n i l f wr HC.out (by rw [HM.out]; omega) f1 f2
      rw [HM.out, hj, hx] at g1
      have G1 := Lib.hid g1
      have hmz : (m : Int) > 0 := by omega
      have zz := HNE.out
      have zwr : w5.heap.size ≤ wr.heap.size := hB
      clear hx hy hj hjr hp hrev1 hrev2 g1
      go_wp2_with fail
      refine G1.out.mono ?_
      rintro e u1 ⟨a1, rfl, hc1, hk1⟩
      have hfd := person_num a1 x
      have HC1 := Lib.hid hc1
      have HD1 := Lib.hid (HD.out.kp hk1 (by omega) (by omega))
      have HCS1 := Lib.hid (HCS.out.kp hk1 (fun g hg h => by have := (HCS.out.own_ge g hg).1; omega))
      have HK1 := Lib.hid (HK.out.after hk1 (fun g hg h => by omega))
      have s1 : wr.heap.size ≤ u1.heap.size := hk1.size
      have g2 := cir_go D M n i' l.reverse b u1 HD1.out (by rw [List.length_reverse, HM.out]; omega) b1 b2
      rw [List.length_reverse, HM.out] at g2
      rw [HJR.out, HV1.out] at g2
      have G2 := Lib.hid g2
      clear hc1 hk1 g2
      go_wp2_with fail
      refine G2.out.mono ?_
      rintro e u2 ⟨a2, rfl, hd2, hk2⟩
      have hfd2 := person_num a2 y
      have HC2 := Lib.hid (HC1.out.kp hk2 (by omega) (by omega))
      have HCS2 := Lib.hid (HCS1.out.kp hk2 (fun g hg h => by have := (HCS1.out.own_ge g hg).1; omega))
      have HK2 := Lib.hid (HK1.out.after hk2 (fun g hg h => by omega))
      have HD2 := Lib.hid hd2
      have s2 : u1.heap.size ≤ u2.heap.size := hk2.size
      have n2 := Own2.new u2 (.int .i64 x) (.int .i64 y) 44
      obtain ⟨e0, e1, e2, e3⟩ := n2
      have HC2' := Lib.hid (HC2.out.kp (Kp.al u2 (.cells #[.int .i64 x, .int .i64 y] 44)) (fun h => h) (fun h => h))
      have g3 := cir_lose C L n j p l f _ (by rw [HM.out]; exact HC2'.out) (by rw [HM.out]; exact hjm) (by rw [HM.out]; exact hpm) HI.out.ds
      rw [HX.out, HY.out, HM.out] at g3
      have G3 := Lib.hid g3
      have E0 := Lib.hid e0
      have E1 := Lib.hid e1
      clear hd2 hk2 g3 hfd
      go_wp2_with fail
      refine G3.out.mono ?_
      rintro e u3 ⟨rfl, hc3, hk3⟩
      have s3 : u2.heap.size + 1 ≤ u3.heap.size := by have := hk3.size; simp at this; omega
      have d0 := keepc hk3 E0.out (by show ¬ (u2.heap.size = C ∨ u2.heap.size = L); omega)
      have d1 := keepc hk3 E1.out (by show ¬ (u2.heap.size = C ∨ u2.heap.size = L); omega)
      have HD3 := Lib.hid ((HD2.out.kp (Kp.al u2 (.cells #[.int .i64 x, .int .i64 y] 44)) (fun h => h) (fun h => h)).kp hk3 (by omega) (by omega))
      have HCS3 := Lib.hid ((HCS2.out.nw (Kp.al u2 (.cells #[.int .i64 x, .int .i64 y] 44))).kp hk3 (fun g hg h => by have := (HCS2.out.own_ge g hg).1; omega))
      have HK3 := Lib.hid ((HK2.out.nw (.al _ _)).after hk3 (fun g hg h => by omega))
      have HC3 := Lib.hid hc3
      have D0 := Lib.hid d0
      have D1 := Lib.hid d1
      have g4 := cir_lose D M n jr (m - 1 - j) l.reverse b u3 (by rw [List.length_reverse, HM.out]; exact HD3.out) (by rw [List.length_reverse, HM.out]; exact hjrm) (by rw [List.length_reverse, HM.out]; omega) HI.out.ds.reverse
      rw [HV1.out, HV2.out, List.length_reverse, HM.out, cutR_comm, cutR_reverse] at g4
      have G4 := Lib.hid g4
      clear hc3 hk3 g4 d1 e0 e1 e2 e3
      go_wp2_with fail
      refine G4.out.mono ?_
      rintro e u4 ⟨rfl, hd4, hk4⟩
      have s4 : u3.heap.size ≤ u4.heap.size := hk4.size
      have q0 := keepc hk4 D0.out (by show ¬ (u2.heap.size = D ∨ u2.heap.size = M); omega)
      have q1 := keepc hk4 D1.out (by show ¬ (u2.heap.size = D ∨ u2.heap.size = M); omega)
      have HC4 := Lib.hid (HC3.out.kp hk4 (by omega) (by omega))
      have HCS4 := Lib.hid (HCS3.out.kp hk4 (fun g hg h => by have := (HCS3.out.own_ge g hg).1; omega))
      have HK4 := Lib.hid (HK3.out.after hk4 (fun g hg h => by omega))
      have HD4 := Lib.hid hd4
      obtain ⟨r0, r1, _, _⟩ := Own2.new u4 (.int .i64 x) (.int .i64 y) 44
      clear hd4 hk4 d0
      have hal : acc.length ≤ 1000000 := by omega
      go_wp2_with (first | (at_builtin; refine wpList_cho _ rfl (.tmp 44) (.tmp 46) rfl w5.heap.size u4.heap.size v acc x y rfl rfl (HCS4.out.nw (.al _ _)) r0 r1 hal (by simp; omega) ?_))
      intro v5 u5 hs5 hk5 _
      have hown : ∀ g, v.ownBlock = some g → w5.heap.size ≤ g := fun g hg => (HCS4.out.own_ge g hg).1
      have kk : Kp (fun b => v.ownBlock = some b) u4 u5 := ((Kp.refl _ u4).alloc _).after hk5 (fun g _ e => e)
      have HC5 := Lib.hid (HC4.out.kp kk (fun h => by have := hown _ h; omega) (fun h => by have := hown _ h; omega))
      have HD5 := Lib.hid (HD4.out.kp kk (fun h => by have := hown _ h; omega) (fun h => by have := hown _ h; omega))
      have HK5 := Lib.hid (HK4.out.after kk (fun g hg h => by have := hown _ h; omega))
      have s5 : u4.heap.size ≤ u5.heap.size := kk.size
      obtain ⟨A5, c5, rfl⟩ := hs5.val (n := acc.length + 1) (by simp)
      have HS5 := Lib.hid hs5
      obtain ⟨A0, c0, rfl⟩ := HCS.out.val rfl
      clear hs5 hk5 hown kk r0 r1 q0 q1
      go_wp2
      go_roundw
      case rel => exact ⟨T, cutR l x y, idx2 m j p, idx2 m jr (m - 1 - j), _, _, rfl, by rw [HLEN.out]; split <;> omega, by simp; omega, HI.out.cut x y, fun h0' => by
        have hP := HP.out
        rw [HLEN.out] at h0' ⊢
        have h1 := idx2_lt m j p (fun e => by rw [if_pos e] at h0'; exact h0') (fun e => by rw [if_neg e] at h0'; exact h0')
        have h2 := idx2_lt m jr (m - 1 - j) (fun e => by rw [if_pos (by omega)] at h0'; exact h0') (fun e => by rw [if_neg (by omega)] at h0'; exact h0')
        refine ⟨h1, ?_⟩
        by_cases e : p = j
        · rw [if_pos e]; rw [if_pos (by omega)] at h2; exact h2
        · rw [if_neg e]; rw [if_neg (by omega)] at h2; exact h2, HC5.out, HD5.out, HACN.out, HS5.out, by omega, HK5.out⟩
      case measure => simp [lenOf]; omega
end Go.Proofs.Ytjlbillfbhkamaa
