/- How often cards that change their places are back in the program (timesToReturn): the least common multiple of the cycles' lengths; no condition but that the places are 0 .. n - 1, each once. -/
import Derived.Test.YtdehkehjbmnllabPil
import Derived.Test.YtdehkehjbmnllabGcd
import Derived.WalkMore
import Derived.Test.YtdehkehjbmnllabLaws4
namespace Go.Proofs.Ytdehkehjbmnllab
open Go.ChangeShapes Go.WideShapes Go.ChangeAt Go.RowKit

set_option maxRecDepth 100000 in
set_option maxHeartbeats 3200000 in
theorem timesToReturn_any (v : Value) (n : Nat) (ps : List Int) (W : World) (hv : PileV v ps) (hn : ps.length = n) (hp : 1 ≤ n) (hb : ∀ x ∈ ps, 0 ≤ x ∧ x < (n : Int)) (hd : ps.Nodup) :
    Calls Try.prog 30 #[v] W (IntB W (ret (exOf ps) n).1 (ret (exOf ps) n).2) := by
  obtain ⟨c, hg, rfl⟩ := hv
  have hn4 : n ≤ 104 := by have := hg.2.1; omega
  rw [hn]
  obtain ⟨p, hpp⟩ : ∃ p, p = exOf ps := ⟨_, rfl⟩
  have HX := Lib.hid (hpp ▸ exch_of ps n hn hb hd)
  have hl2 : (plc c n).length = 105 := by rw [plc_length, hg.1]
  obtain ⟨w1, hw1⟩ : ∃ w1, w1 = W.alloc (.cells (plc c n).toArray 38) := ⟨_, rfl⟩
  have hk1 : Kp Nw W w1 := by rw [hw1]; exact Kp.al _ _
  have hb1 : Pb w1 W.heap.size c n := by rw [hw1]; exact Pb.new W c n
  have HA : Hid (∀ k, k < n → w1.cell? ⟨W.heap.size, k, none⟩ = some (.int .i64 (p k : Nat))) := Lib.hid (fun k hk => by
    have h : k < ps.length := by omega
    have eg : ps.getD k 0 = ps[k] := by rw [List.getD_eq_getElem?_getD, List.getElem?_eq_getElem h]; rfl
    rw [hb1.cell k (by rw [hg.1]; omega), hg.get k h, hpp]
    have := hb _ (List.getElem_mem h)
    unfold exOf
    rw [eg]
    congr 2
    omega)
  rw [← hpp]
  have n0 : (0 : Int) ≤ n := Int.natCast_nonneg _
  have S0 := Lib.hid (hb1.size hg.1)
  have s0 := S0.out
  rw [hw1] at s0
  have HK1 := Lib.hid hk1
  have HW := Lib.hid hw1
  clear hn hpp hb hd hg hb1 hk1 hw1
  obtain ⟨R, hR⟩ : ∃ R, ret p n = R := ⟨_, rfl⟩
  rw [hR]
  have HRR := Lib.hid hR
  clear hR
  go_enter Try.func30, Try.ntmps30
  go_wp2
  go_step3
  go_wp2
  go_step3
  go_wp2
  rw [← HW.out]
  clear s0
  go_loopw [4, 10] (fun a i wr => ∃ (t : Nat), t ≤ n ∧ i = .int .i64 t ∧ a = .int .i64 (lcmT p n t : Nat) ∧ lcmT p n t ≤ 1000000000 ∧ Kp Nw w1 wr) (fun _ i _ => n - (intOf i).toNat)
  case atStart => exact ⟨0, Nat.zero_le _, rfl, rfl, by simp [lcmT], Kp.refl _ _⟩
  case round =>
    obtain ⟨t, ht, rfl, rfl, hL, hk⟩ := hrel
    have HK := Lib.hid hk
    obtain ⟨L, hLe⟩ : ∃ L, lcmT p n t = L := ⟨_, rfl⟩
    rw [hLe] at hL ⊢
    have HL := Lib.hid hLe
    have hL1 : 1 ≤ L := by rw [← hLe]; exact lcmT_pos p n t
    have t0 : (0 : Int) ≤ t := Int.natCast_nonneg _
    clear hk hLe
    by_cases hlt : t < n
    · have t1 : (t : Int) < n := by omega
      have t2 : (t : Int) < 104 := by omega
      have c0 := keepc HK.out (HA.out t hlt) (fun h => h)
      have w2 : IntKind.i64.wrap ((t : Int) + 1) = ((t + 1 : Nat) : Int) := by rw [IntWalk.i64_in _ (by omega)]; omega
      go_wp2
      go_loopw [6, 7] (fun l a wx => ∃ (k : Nat), 1 ≤ k ∧ k ≤ n ∧ l = .int .i64 k ∧ a = .int .i64 (itp p k t : Nat) ∧ (∀ m, 1 ≤ m → m < k → t < itp p m t) ∧ Kp Nw w1 wx) (fun l _ _ => n - (intOf l).toNat)
      case atStart => exact ⟨1, Nat.le_refl _, hp, rfl, rfl, fun m m1 m2 => by omega, HK.out⟩
      case round =>
        obtain ⟨k, k1, kn, rfl, rfl, hm, hk⟩ := hrel
        have HK2 := Lib.hid hk
        have HM := Lib.hid hm
        obtain ⟨x, hx⟩ : ∃ x, itp p k t = x := ⟨_, rfl⟩
        rw [hx]
        have HXX := Lib.hid hx
        have hxn : x < n := by rw [← hx]; exact itp_lt HX.out k t hlt
        have x0 : (0 : Int) ≤ x := Int.natCast_nonneg _
        have x1 : (x : Int) < n := by omega
        have x2 : (x : Int) < 104 := by omega
        have k0 : (0 : Int) ≤ k := Int.natCast_nonneg _
        clear hk hm hx
        by_cases hgt : t < x
        · have g1 : ¬ (x : Int) = t := by omega
          have g2 : ¬ (x : Int) < t := by omega
          have hkn : k < n := by
            obtain ⟨c1, c2, c3⟩ := cyc_spec HX.out t hlt
            apply Classical.byContradiction
            intro hge
            have ek : cyc p n t ≤ k := by omega
            have hc1 := cyc_pos p n t
            by_cases e : cyc p n t = k
            · rw [e, HXX.out] at c2
              omega
            · have := HM.out _ hc1 (by omega)
              rw [c2] at this
              omega
          have c1 := keepc HK2.out (HA.out x hxn) (fun h => h)
          have wk : IntKind.i64.wrap ((k : Int) + 1) = ((k + 1 : Nat) : Int) := by rw [IntWalk.i64_in _ (by omega)]; omega
          go_wp2
          go_roundw
          case rel =>
            refine ⟨k + 1, by omega, by omega, rfl, by rw [itp, HXX.out], ?_, HK2.out⟩
            intro m m1 m2
            by_cases e : m = k
            · subst e
              rw [HXX.out]
              exact hgt
            · exact HM.out m m1 (by omega)
          case measure => simp [intOf] <;> omega
        · by_cases hlo : x < t
          · have g1 : ¬ (x : Int) = t := by omega
            have g2 : (x : Int) < t := by omega
            have HS := Lib.hid (lcmT_skip HX.out t k hlt (by rw [HXX.out]; exact hlo))
            go_wp2
            go_roundw
            case rel => exact ⟨t + 1, by omega, rfl, by rw [HS.out, HL.out], by rw [HS.out, HL.out]; exact hL, HK2.out⟩
            case measure => simp [intOf] <;> omega
          · have e : x = t := by omega
            subst e
            have hc : cyc p n x = k := cyc_is k1 kn HXX.out (fun m m1 m2 e => by have := HM.out m m1 m2; omega)
            have hs := lcmT_step p n x k hc
            rw [HL.out] at hs
            obtain ⟨M, hM⟩ : ∃ M, lcmT p n (x + 1) = M := ⟨_, rfl⟩
            rw [hM] at hs
            have HS := Lib.hid hs
            have HM2 := Lib.hid hM
            have hk2 : k ≤ 1000 := by omega
            have M0 : (0 : Int) ≤ M := Int.natCast_nonneg _
            clear hs hM
            go_wp2_with fail
            refine (commonMultiple_any L k M _ hL1 hL hk2 HS.out).mono ?_
            rintro e w5 ⟨rfl, hk5⟩
            have HK5 := Lib.hid (HK2.out.nw hk5)
            clear hk5
            by_cases hbig : 1000000000 < M
            · have b1 : (1000000000 : Int) < M := by omega
              have hr : ¬ lcmT p n n ≤ 1000000000 := by
                have := lcmT_le p n (x + 1) n (by omega)
                rw [HM2.out] at this
                omega
              have HE : Hid (R = (0, false)) := Lib.hid (by rw [← HRR.out]; unfold ret; rw [if_neg hr])
              go_wp2
              go_ret2
              rw [HE.out]
              exact ⟨rfl, HK1.out.nw HK5.out⟩
            · have b1 : ¬ (1000000000 : Int) < M := by omega
              go_wp2
              go_roundw
              case rel => exact ⟨x + 1, by omega, rfl, by rw [HM2.out], by rw [HM2.out]; omega, HK5.out⟩
              case measure => simp [intOf] <;> omega
    · have e : t = n := by omega
      subst e
      have HE : Hid (R = ((L : Int), true)) := Lib.hid (by rw [← HRR.out]; unfold ret; rw [HL.out, if_pos hL])
      go_wp2
      go_ret2
      rw [HE.out]
      exact ⟨rfl, HK1.out.nw HK.out⟩
end Go.Proofs.Ytdehkehjbmnllab
