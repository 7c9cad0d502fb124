/- Songs in the program: the safe places, sorted; no condition. -/
import Derived.Test.YtbndgkjnigehgaaEach
import Derived.Test.YtbndgkjnigehgaaSoM
import Derived.Test.YtbndgkjnigehgaaOnes
namespace Go.Proofs.Ytbndgkjnigehgaa
open Go.ChangeShapes Go.WideShapes Go.ChangeAt Go.RowKit

/-- a song and a number boxed -/
theorem box2_open (x y : Value) (W w1 : World) (hk : Kp Nw ((W.alloc (.cells #[x] 28)).alloc (.cells #[y] 3)) w1) :
    Kp Nw W w1 ∧ W.heap.size + 2 ≤ w1.heap.size ∧ w1.cell? ⟨W.heap.size, 0, none⟩ = some x ∧ w1.cell? ⟨W.heap.size + 1, 0, none⟩ = some y := by
  refine ⟨((Kp.al W _).nw (.al _ _)).nw hk, by have := hk.size; simp only [World.size_alloc] at this; exact this, (((Own1.new W x 28).kp (.al _ _) (fun h => h)).kp hk (fun h => h)).1, ?_⟩
  have h := ((Own1.new (W.alloc (.cells #[x] 28)) y 3).kp hk (fun h => h)).1
  simpa only [World.size_alloc] using h

set_option maxRecDepth 100000 in
set_option maxHeartbeats 3200000 in
theorem iSafePlaces_any (g n B : Nat) (xs : List Int) (p k : Int) (W : World) (hs : SlAt W B g n n xs) (hl : n ≤ 1048576) :
    Calls Try.prog 7 #[.agg #[.slice (some ⟨g, 0, none⟩) n n], .int .i64 p, .int .i64 k] W (ListB W (vSafe xs p k).1 (vSafe xs p k).2) := by
  have HS := Lib.hid hs
  have HN : Hid (xs.length = n) := Lib.hid hs.1
  clear hs
  unfold vSafe
  cases hb : asB xs p
  · rw [if_neg (by simp)]
    have HB := Lib.hid hb
    clear hb
    go_enter Try.func7, Try.ntmps7
    go_wp2_with (first | (refine (canSing_any _ n n xs p _ (HS.out.sl.rd.nw ((Kp.al W _).nw (.al _ _))) HN.out (by omega) _ HB.out.symm).mono ?_; rintro e w1 ⟨rfl, hk1⟩; obtain ⟨kk1, hz1, cc1, dd1⟩ := box2_open _ _ W w1 hk1; have HK1 := Lib.hid kk1; have HC1 := Lib.hid cc1; have HD1 := Lib.hid dd1; have hc1 := cc1; have hd1 := dd1; clear hk1 kk1 cc1 dd1))
    go_ret2
    exact ⟨_, rfl, Sl.nil _ _, HK1.out⟩
  · have HB := Lib.hid hb
    obtain ⟨hg, p1, p2⟩ := asB_parts hb
    have HG := Lib.hid hg
    by_cases hk : 1 ≤ k ∧ k ≤ p
    · rw [if_pos ⟨rfl, hk⟩]
      obtain ⟨k1, k2⟩ := hk
      obtain ⟨m, hm⟩ : ∃ m, p.toNat = m := ⟨_, rfl⟩
      have hpm : p = (m : Int) := by omega
      subst hpm
      obtain ⟨t, ht⟩ : ∃ t, k.toNat = t := ⟨_, rfl⟩
      have hkt : k = (t : Int) := by omega
      subst hkt
      rw [Int.toNat_natCast, Int.toNat_natCast]
      obtain ⟨z, hz⟩ : ∃ z, lastS xs m = z := ⟨_, rfl⟩
      obtain ⟨z0, z1⟩ := lastS_rng xs m (by omega)
      rw [hz] at z0 z1 ⊢
      have HZ := Lib.hid hz
      have hmf : ∀ (fn : Fn) (first cap : Array Value) (w : World), (Instr.makeFunc fn first cap).run Try.prog w = .ok (.func fn first cap) w := fun _ _ _ _ => rfl
      clear hb hg hm hz ht
      go_enter Try.func7, Try.ntmps7
      go_wp2_with (first | (refine (canSing_any _ n n xs ((m : Nat) : Int) _ (HS.out.sl.rd.nw ((Kp.al W _).nw (.al _ _))) HN.out (by omega) _ HB.out.symm).mono ?_; rintro e w1 ⟨rfl, hk1⟩; obtain ⟨kk1, hz1, cc1, dd1⟩ := box2_open _ _ W w1 hk1; have HK1 := Lib.hid kk1; have HC1 := Lib.hid cc1; have HD1 := Lib.hid dd1; have hc1 := cc1; have hd1 := dd1; clear hk1 kk1 cc1 dd1) | ((with_reducible refine (within_yes _ _ _ _ k1 k2).mono ?_); rintro e w' ⟨rfl, rfl⟩))
      refine (lastSung_any _ n n xs m _ (HS.out.sl.rd.nw HK1.out) HN.out HG.out (by omega) (by omega)).mono ?_
      rintro e w2 ⟨rfl, hk2⟩
      have hx2 : (soO xs m).getD (m - 1) 0 = z := HZ.out
      rw [hx2]
      have HK2 := Lib.hid ((HK1.out.nw hk2).nw (.al w2 (.cells #[.int .i64 z] 3)))
      have HD2 : Hid ((w2.alloc (.cells #[.int .i64 z] 3)).cell? ⟨W.heap.size + 1, 0, none⟩ = some (.int .i64 m)) := Lib.hid (keepc (.al _ _) (keepc hk2 HD1.out (fun h => h)) (fun h => h))
      have HE2 : Hid ((w2.alloc (.cells #[.int .i64 z] 3)).cell? ⟨w2.heap.size, 0, none⟩ = some (.int .i64 z)) := Lib.hid (Own1.new w2 _ _).1
      clear hk2 hx2 hc1 hd1
      go_wp2_with fail
      refine (firstNumbers_any t _ (by omega)).mono ?_
      rintro e w3 ⟨v3, rfl, hs3, hk3⟩
      have HS3 := Lib.hid hs3
      have HK3 := Lib.hid (HK2.out.nw hk3)
      have HD3 := Lib.hid (keepc hk3 HD2.out (fun h => h))
      have HE3 := Lib.hid (keepc hk3 HE2.out (fun h => h))
      clear hs3 hk3
      go_wp2_with fail
      refine (each_safe v3 (.pointer (some ⟨w2.heap.size, 0, none⟩)) (.pointer (some ⟨W.heap.size + 1, 0, none⟩)) (marks 0 t) (safeL z m t) _ HS3.out.rd t (marks_length 0 t) (safeL_len z m t) (by omega) (Lib.hid fun j w hj hk => ?_)).mono ?_
      · have hcd := keepc hk HD3.out (fun h => h)
        have hce := keepc hk HE3.out (fun h => h)
        have e1 : (marks 0 t).getD j 0 = (j : Int) := by simp [marks, hj]
        obtain ⟨y, hy⟩ : ∃ y, ((j : Int) + z) % (m : Int) = y := ⟨_, rfl⟩
        have e2 : (safeL z m t).getD j 0 = y := by rw [← hy, Int.add_comm]; simp [safeL, hj]
        rw [e1, e2]
        have HY := Lib.hid hy
        have j0 : (0 : Int) ≤ j := Int.natCast_nonneg _
        have wj : IntKind.i64.wrap ((j : Int) + z) = (j : Int) + z := IntWalk.i64_in _ (by omega)
        clear e1 e2 hy hk
        go_enter Try.func25, Try.ntmps25
        go_wp2_with fail
        refine (around_any ((j : Int) + z) (m : Int) _ (by omega) (by omega) (by omega) (by omega)).mono ?_
        rintro e w' ⟨rfl, rfl⟩
        rw [HY.out]
        go_wp2
        go_ret
        exact ⟨rfl, Kp.refl _ _⟩
      rintro e w4 ⟨v4, rfl, hs4, hk4⟩
      have HS4 := Lib.hid (hs4.from (B' := W.heap.size) HK3.out.size)
      have HK4 := Lib.hid (HK3.out.nw hk4)
      have HLN : Hid ((safeL z m t).length = t) := Lib.hid (safeL_len z m t)
      clear hs4 hk4
      go_wp2_with fail
      refine (sort_any v4 _ _ _ HS4.out (by rw [HLN.out]; omega) (by rw [HLN.out]; omega)).mono ?_
      rintro e w5 ⟨rfl, hs5, hk5⟩
      have HS5 := Lib.hid hs5
      have HK5 := Lib.hid (HK4.out.own HS4.out hk5)
      clear hs5 hk5
      go_wp2
      go_ret2
      exact ⟨v4, rfl, HS5.out, HK5.out⟩
    · rw [if_neg (fun h => hk h.2)]
      have hk' : k < 1 ∨ p < k := by omega
      clear hb hg hk
      go_enter Try.func7, Try.ntmps7
      go_wp2_with (first | (refine (canSing_any _ n n xs p _ (HS.out.sl.rd.nw ((Kp.al W _).nw (.al _ _))) HN.out (by omega) _ HB.out.symm).mono ?_; rintro e w1 ⟨rfl, hk1⟩; obtain ⟨kk1, hz1, cc1, dd1⟩ := box2_open _ _ W w1 hk1; have HK1 := Lib.hid kk1; have HC1 := Lib.hid cc1; have HD1 := Lib.hid dd1; have hc1 := cc1; have hd1 := dd1; clear hk1 kk1 cc1 dd1) | ((with_reducible refine (within_no _ _ _ _ hk').mono ?_); rintro e w' ⟨rfl, rfl⟩))
      go_ret2
      exact ⟨_, rfl, Sl.nil _ _, HK1.out⟩
end Go.Proofs.Ytbndgkjnigehgaa
