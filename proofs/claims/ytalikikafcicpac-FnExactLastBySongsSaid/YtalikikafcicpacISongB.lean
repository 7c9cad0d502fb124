/- Songs in the program: the count from which one is the last, the last ones of 1, 2, .. people; no condition. -/
import Derived.Test.YtalikikafcicpacJoinS
import Derived.Test.YtalikikafcicpacEach
import Derived.Test.YtalikikafcicpacSoM
namespace Go.Proofs.Ytalikikafcicpac
open Go.ChangeShapes Go.WideShapes Go.ChangeAt Go.RowKit

set_option maxHeartbeats 3200000 in
theorem iBestTurn_any (g n B : Nat) (xs : List Int) (p q : Int) (W : World) (hs : SlAt W B g n n xs) (hl : n ≤ 1048576) :
    Calls Try.prog 15 #[.agg #[.slice (some ⟨g, 0, none⟩) n n], .int .i64 p, .int .i64 q] W (IntB W (vBest xs p q).1 (vBest xs p q).2) := by
  have HS := Lib.hid hs
  have HN : Hid (xs.length = n) := Lib.hid hs.1
  clear hs
  unfold vBest
  cases hb : asB xs p
  · rw [if_neg (by simp)]
    have HB : Hid ((sgB xs && decide (1 ≤ p ∧ p ≤ 200)) = false) := Lib.hid hb
    clear hb
    go_enter Try.func15, Try.ntmps15
    go_wp2_with (first | (refine (canSing_any _ n n xs p _ (HS.out.sl.rd.nw (.al W _)) HN.out (by omega) _ HB.out.symm).mono ?_; rintro e w1 ⟨rfl, hk1⟩; have HK1 := Lib.hid ((Kp.al W _).nw hk1); have HC1 := Lib.hid (keepc hk1 (Own1.new W (.slice (some ⟨g, 0, none⟩) n n) 28).1 (fun h => h)); have hc1 := HC1.out; have hz1 : W.heap.size + 1 ≤ w1.heap.size := (by have := hk1.size; simp only [World.size_alloc] at this; exact this); clear hk1))
    go_ret2
    exact ⟨rfl, HK1.out⟩
  · have HB : Hid ((sgB xs && decide (1 ≤ p ∧ p ≤ 200)) = true) := Lib.hid hb
    obtain ⟨hg, p1, p2⟩ := asB_parts hb
    have HG := Lib.hid hg
    obtain ⟨n1, n2⟩ := sgB_len hg
    rw [HN.out] at n1 n2
    by_cases hq : 0 ≤ q ∧ q ≤ p - 1
    · rw [if_pos ⟨rfl, hq⟩]
      obtain ⟨q0, q1⟩ := hq
      obtain ⟨m, hm⟩ : ∃ m, p.toNat = m + 1 := ⟨p.toNat - 1, by omega⟩
      have hpm : p = (m : Int) + 1 := by omega
      subst hpm
      rw [hm, HN.out]
      have hm2 : m ≤ 199 := by omega
      have q2 : q ≤ (m : Int) := by omega
      have m0 : (0 : Int) ≤ m := Int.natCast_nonneg _
      obtain ⟨V, hV⟩ : ∃ V, btN xs (m + 1) q 0 n = V := ⟨_, rfl⟩
      rw [hV]
      have HV := Lib.hid hV
      clear hV
      clear hb hg hm
      go_enter Try.func15, Try.ntmps15
      go_wp2_with (first | (refine (canSing_any _ n n xs ((m : Int) + 1) _ (HS.out.sl.rd.nw (.al W _)) HN.out (by omega) _ HB.out.symm).mono ?_; rintro e w1 ⟨rfl, hk1⟩; have HK1 := Lib.hid ((Kp.al W _).nw hk1); have HC1 := Lib.hid (keepc hk1 (Own1.new W (.slice (some ⟨g, 0, none⟩) n n) 28).1 (fun h => h)); have hc1 := HC1.out; have hz1 : W.heap.size + 1 ≤ w1.heap.size := (by have := hk1.size; simp only [World.size_alloc] at this; exact this); clear hk1) | ((with_reducible refine (within_yes q _ _ _ q0 q2).mono ?_); rintro e w' ⟨rfl, rfl⟩))
      go_loopw [23] (fun i9 wr => ∃ k : Nat, k ≤ n ∧ i9 = .int .i64 k ∧ Hid (V = btN xs (m + 1) q k (n - k)) ∧ Hid (wr.cell? ⟨W.heap.size, 0, none⟩ = some (.slice (some ⟨g, 0, none⟩) n n)) ∧ Hid (Kp Nw W wr)) (fun i9 _ => n - (intOf i9).toNat)
      case atStart => exact ⟨0, Nat.zero_le _, rfl, Lib.hid (by rw [← HV.out]; rfl), HC1, HK1⟩
      case round =>
        rename_i wr
        obtain ⟨k, hk, rfl, HR, HC, HK⟩ := hrel
        have hc := HC.out
        have k0 : (0 : Int) ≤ k := Int.natCast_nonneg _
        by_cases hp : k < n
        · obtain ⟨t, ht⟩ : ∃ t, n - k = t + 1 := ⟨n - k - 1, by omega⟩
          obtain ⟨x, hx⟩ : ∃ x, lastS (rotS xs k) (m + 1) = x := ⟨_, rfl⟩
          have HX := Lib.hid hx
          have HT : Hid (n - (k + 1) = t) := Lib.hid (by omega)
          have HR2 : Hid (V = if x = q then ((k : Int), true) else btN xs (m + 1) q (k + 1) t) := Lib.hid (by rw [HR.out, ht, btN, hx])
          have kn : (k : Int) < n := by omega
          have w1m : IntKind.i64.wrap ((m : Int) + 1 - 1) = (m : Int) := by rw [IntWalk.i64_in _ (by omega)]; omega
          clear ht hx
          go_wp2_with fail
          refine (turnSong_any g n B xs k _ (HS.out.kq8 HK.out (fun h => h)) hk n2).mono ?_
          rintro e w2 ⟨v2, rfl, hs2, hk2⟩
          obtain ⟨A2, c2, rfl⟩ := hs2.val (n := n) (by rw [rotS_length]; exact HN.out)
          have HS2 := Lib.hid hs2
          have HK2 := Lib.hid hk2
          clear hs2 hk2
          go_wp2_with fail
          refine (lastSung_any A2 n c2 (rotS xs k) (m + 1) _ HS2.out.rd (by rw [rotS_length]; exact HN.out) (rotS_sgB k HG.out) (by omega) (by omega)).mono ?_
          rintro e w3 ⟨rfl, hk3⟩
          have hx2 : (soO (rotS xs k) (m + 1)).getD (m + 1 - 1) 0 = x := HX.out
          rw [hx2]
          have HK3 := Lib.hid ((HK.out.nw HK2.out).nw hk3)
          have HC3 := Lib.hid (keepc hk3 (keepc HK2.out HC.out (fun h => h)) (fun h => h))
          clear hk3 hx2
          by_cases hxq : x = q
          · have HE : Hid (V = ((k : Int), true)) := Lib.hid (by rw [HR2.out, if_pos hxq])
            subst hxq
            go_wp2
            go_ret2
            exact ⟨by rw [HE.out]; rfl, HK3.out⟩
          · have HE : Hid (V = btN xs (m + 1) q (k + 1) (n - (k + 1))) := Lib.hid (by rw [HR2.out, if_neg hxq, HT.out])
            have hne : (x == q) = false := by simp [hxq]
            go_wp2
            go_roundw
            case rel => exact ⟨k + 1, by omega, by go_num, HE, HC3, HK3⟩
            case measure => simp [intOf] <;> omega
        · have e : k = n := by omega
          subst e
          have HE : Hid (V = (0, false)) := Lib.hid (by rw [HR.out, Nat.sub_self, btN])
          have hE := HE.out
          subst hE
          go_wp2
          go_ret2
          exact ⟨rfl, HK.out⟩
    · rw [if_neg (fun h => hq h.2)]
      have hq' : q < 0 ∨ p - 1 < q := by omega
      clear hb hg hq
      go_enter Try.func15, Try.ntmps15
      go_wp2_with (first | (refine (canSing_any _ n n xs p _ (HS.out.sl.rd.nw (.al W _)) HN.out (by omega) _ HB.out.symm).mono ?_; rintro e w1 ⟨rfl, hk1⟩; have HK1 := Lib.hid ((Kp.al W _).nw hk1); have HC1 := Lib.hid (keepc hk1 (Own1.new W (.slice (some ⟨g, 0, none⟩) n n) 28).1 (fun h => h)); have hc1 := HC1.out; have hz1 : W.heap.size + 1 ≤ w1.heap.size := (by have := hk1.size; simp only [World.size_alloc] at this; exact this); clear hk1) | ((with_reducible refine (within_no q _ _ _ hq').mono ?_); rintro e w' ⟨rfl, rfl⟩))
      go_ret2
      exact ⟨rfl, HK1.out⟩

set_option maxHeartbeats 3200000 in
theorem iLastBySongs_any (A : Option Addr) (n c : Nat) (xs : List Int) (p : Int) (W : World) (hu : Rd W (.slice A n c) xs) (hn : xs.length = n) (hl : n ≤ 2000000) :
    Calls Try.prog 8 #[.agg #[.slice A n c], .int .i64 p] W (ListB W (vBySongs xs p).1 (vBySongs xs p).2) := by
  have HU := Lib.hid hu
  have HN := Lib.hid hn
  clear hu hn
  unfold vBySongs
  cases hb : asB xs p
  · rw [if_neg Bool.false_ne_true]
    have HB : Hid ((sgB xs && decide (1 ≤ p ∧ p ≤ 200)) = false) := Lib.hid hb
    clear hb
    go_enter Try.func8, Try.ntmps8
    go_wp2_with (first | (refine (canSing_any A n c xs p _ (HU.out.nw (.al _ _)) HN.out hl _ HB.out.symm).mono ?_; rintro e w1 ⟨rfl, hk1⟩; have HK1 := Lib.hid ((Kp.al W _).nw hk1); have hz1 : W.heap.size + 1 ≤ w1.heap.size := (by have := hk1.size; simp only [World.size_alloc] at this; exact this); have HC1 := Lib.hid (keepc hk1 (Own1.new W (.slice A n c) 28).1 (fun h => h)); have hc1 := HC1.out; clear hk1))
    go_ret2
    exact ⟨_, rfl, Sl.nil _ _, HK1.out⟩
  · rw [if_pos rfl]
    obtain ⟨hg, p1, p2⟩ := asB_parts hb
    have HB : Hid ((sgB xs && decide (1 ≤ p ∧ p ≤ 200)) = true) := Lib.hid hb
    have HG := Lib.hid hg
    obtain ⟨m, hm⟩ : ∃ m, p.toNat = m := ⟨_, rfl⟩
    have hpm : p = (m : Int) := by omega
    subst hpm
    rw [Int.toNat_natCast]
    clear hb hg hm
    go_enter Try.func8, Try.ntmps8
    go_wp2_with (first | (refine (canSing_any A n c xs ((m : Nat) : Int) _ (HU.out.nw (.al _ _)) HN.out hl _ HB.out.symm).mono ?_; rintro e w1 ⟨rfl, hk1⟩; have HK1 := Lib.hid ((Kp.al W _).nw hk1); have hz1 : W.heap.size + 1 ≤ w1.heap.size := (by have := hk1.size; simp only [World.size_alloc] at this; exact this); have HC1 := Lib.hid (keepc hk1 (Own1.new W (.slice A n c) 28).1 (fun h => h)); have hc1 := HC1.out; clear hk1))
    have hmf : ∀ (fn : Fn) (first cap : Array Value) (w : World), (Instr.makeFunc fn first cap).run Try.prog w = .ok (.func fn first cap) w := fun _ _ _ _ => rfl
    have m200 : m ≤ 200 := by omega
    refine (firstNumbers_any m _ (by omega)).mono ?_
    rintro e w2 ⟨v2, rfl, hs2, hk2⟩
    have HS2 := Lib.hid hs2
    have HK2 := Lib.hid hk2
    have HC2 := Lib.hid (keepc hk2 HC1.out (fun h => h))
    clear hs2 hk2
    go_wp2_with fail
    refine (each_last v2 (.pointer (some ⟨W.heap.size, 0, none⟩)) (marks 0 m) (bySongs xs m) _ HS2.out.rd m (marks_length 0 m) (bySongs_len xs m) (by omega) (Lib.hid fun j w hj hk => ?_)).mono ?_
    · have hcw := keepc hk HC2.out (fun h => h)
      have hrd := HU.out.nw ((HK1.out.nw HK2.out).nw hk)
      have e1 : (marks 0 m).getD j 0 = (j : Int) := by simp [marks, hj]
      have e2 : (bySongs xs m).getD j 0 = (soO xs (j + 1)).getD (j + 1 - 1) 0 := by simp [bySongs, hj, lastS]
      rw [e1, e2]
      have E2 := Lib.hid e2
      have HRD := Lib.hid hrd
      have j0 : (0 : Int) ≤ j := Int.natCast_nonneg _
      have ej : ((j : Int) + 1) = ((j + 1 : Nat) : Int) := by omega
      have wj : IntKind.i64.wrap ((j : Int) + 1) = ((j + 1 : Nat) : Int) := by rw [IntWalk.i64_in _ (by omega)]; omega
      clear e1 e2 hrd hk ej
      go_enter Try.func23, Try.ntmps23
      go_wp2_with fail
      refine (lastSung_any A n c xs (j + 1) _ HRD.out HN.out HG.out (by omega) (by omega)).mono ?_
      rintro e w' ⟨rfl, hk'⟩
      go_wp2
      go_ret
      exact ⟨rfl, hk'⟩
    rintro e w3 ⟨v3, rfl, hs3, hk3⟩
    have HS3 := Lib.hid (hs3.from (B' := W.heap.size) (by have := HK2.out.size; omega))
    have HK3 := Lib.hid ((HK1.out.nw HK2.out).nw hk3)
    clear hs3 hk3
    go_wp2
    go_ret2
    exact ⟨v3, rfl, HS3.out, HK3.out⟩
end Go.Proofs.Ytalikikafcicpac
