/- The rounds when two count, in the model; no condition but that there are at most two hundred people and the steps are those of the chapter. -/
import Derived.Test.YtjlbillfbhkamaaTwoI
import Derived.Test.YtjlbillfbhkamaaSS
import Derived.Test.YtjlbillfbhkamaaTurn
namespace Go.Proofs.Ytjlbillfbhkamaa
open Go.ChangeShapes Go.WideShapes Go.ChangeAt Go.RowKit

/-- where the backward count chooses, as the model reckons it -/
theorem back_idx (m i' : Nat) (b : Int) (hi : i' < m) : (((m : Int) - 1 - i' - b + 1).tmod (m : Int) + m).tmod (m : Int) = ((m - 1 - rj b i' m : Nat) : Int) := by
  obtain ⟨D, hD⟩ : ∃ D, (m : Int) - 1 - i' - b + 1 = D := ⟨_, rfl⟩
  rw [hD]
  have hm : (0 : Int) < m := by omega
  have q1 := Int.tmod_lt_of_pos D hm
  have q2 := Int.lt_tmod_of_pos D hm
  have q3 : D.tmod (m : Int) = D - (m : Int) * D.tdiv m := Int.tmod_def D m
  rw [Int.tmod_eq_emod_of_nonneg (by omega), Int.add_emod_right, q3, Int.sub_mul_emod_self_left]
  have hj := rj_lt b i' m (by omega)
  unfold rj at hj ⊢
  have p1 := place_int b m (by omega)
  obtain ⟨P, hP⟩ : ∃ P, place b m = P := ⟨_, rfl⟩
  rw [hP] at hj p1 ⊢
  obtain ⟨jr, hjr⟩ : ∃ jr, (i' + P) % m = jr := ⟨_, rfl⟩
  rw [hjr] at hj ⊢
  have d1 := Nat.div_add_mod (i' + P) m
  have d2 := Int.mul_ediv_add_emod (b - 1) (m : Int)
  rw [hjr] at d1
  rw [← p1] at d2
  have d3 : ((m * ((i' + P) / m) + jr : Nat) : Int) = (i' : Int) + P := by rw [d1]; simp
  have e : D = (m : Int) - 1 - jr - (m : Int) * (((i' + P) / m : Nat) + (b - 1) / (m : Int)) := by
    rw [Int.mul_add]
    simp only [Int.natCast_add, Int.natCast_mul] at d3
    omega
  rw [e, Int.sub_mul_emod_self_left, Int.emod_eq_of_lt (by omega) (by omega)]
  omega
theorem fwd_idx (m i : Nat) (f : Int) (hi : i < m) (f1 : 1 ≤ f) : ((i : Int) + f - 1).tmod (m : Int) = ((rj f i m : Nat) : Int) := by
  rw [Int.tmod_eq_emod_of_nonneg (by omega)]
  exact (emod_add_place i m f (by omega)).symm
/-- where both go on -/
theorem idx_on (m j p jr : Nat) (hj : j < m) (hp : p < m) (hjr : jr < m) (e : m - 1 - jr = p) :
    idx2 m j p = (j - (if p < j then 1 else 0)) % (if p = j then m - 1 else m - 2) ∧ idx2 m jr (m - 1 - j) = ((if p = j then m - 1 else m - 2) - (p - (if j < p then 1 else 0))) % (if p = j then m - 1 else m - 2) ∧
    j - (if p < j then 1 else 0) ≤ (if p = j then m - 1 else m - 2) ∧ p - (if j < p then 1 else 0) ≤ (if p = j then m - 1 else m - 2) := by
  unfold idx2
  by_cases c : p = j
  · have c2 : m - 1 - j = jr := by omega
    have c3 : ¬ p < j := by omega
    have c4 : ¬ j < p := by omega
    simp only [if_pos c, if_pos c2, if_neg c3, if_neg c4]
    refine ⟨rfl, ?_, by omega, by omega⟩
    congr 1
    omega
  · have c2 : ¬ m - 1 - j = jr := by omega
    by_cases d : p < j
    · have c3 : m - 1 - j < jr := by omega
      have c4 : ¬ j < p := by omega
      simp only [if_neg c, if_neg c2, if_pos d, if_pos c3, if_neg c4]
      refine ⟨trivial, ?_, by omega, by omega⟩
      congr 1
      omega
    · have c3 : ¬ m - 1 - j < jr := by omega
      have c4 : j < p := by omega
      simp only [if_neg c, if_neg c2, if_neg d, if_neg c3, if_pos c4]
      refine ⟨trivial, ?_, by omega, by omega⟩
      congr 1
      omega
theorem cutR_take (l : List Int) (k : Nat) (x y : Int) (h : k < l.length) : cutR (l.take (k + 1)) x y = cutR (l.take k) x y ++ (if l.getD k 0 = x ∨ l.getD k 0 = y then [] else [l.getD k 0]) := by
  unfold cutR
  rw [List.take_add_one, List.filter_append]
  have e : l[k]? = some (l.getD k 0) := by simp [h]
  obtain ⟨q, hq⟩ : ∃ q, l.getD k 0 = q := ⟨_, rfl⟩
  rw [hq] at e ⊢
  rw [e]
  congr 1
  by_cases c : q = x ∨ q = y
  · rw [if_pos c]
    rcases c with c | c <;> simp [c]
  · rw [if_neg c]
    have c1 : q ≠ x := fun e => c (.inl e)
    have c2 : q ≠ y := fun e => c (.inr e)
    simp [c1, c2]
theorem cutR_len_le (l : List Int) (x y : Int) : (cutR l x y).length ≤ l.length := List.length_filter_le _ _

/-- what holds ahead of a round of the model -/
def MnJ (n : Nat) (f b : Int) (W : World) (u v z1 z2 : Value) (wr : World) : Prop :=
  ∃ (t : Nat) (l : List Int) (i i' : Nat) (acc : List (Int × Int)) (zf zt : Int) (u' v' : Value), u' = u ∧ v' = v ∧ z1 = .int .i64 zf ∧ z2 = .int .i64 zt ∧ l.length ≤ t ∧ acc.length + t = n ∧ Inc l ∧
    (0 < l.length → i < l.length ∧ i' < l.length ∧ zf = (i : Int) ∧ zt = (l.length : Int) - 1 - i') ∧ acc ++ rnds f b t l i i' = rnds f b n (marks 0 n) 0 0 ∧ Sl wr W.heap.size u' l ∧ SS wr W.heap.size wr.heap.size v' (acc.map peo) ∧
    (∀ g, u'.ownBlock = some g → v'.ownBlock ≠ some g) ∧ Kp Nw W wr
/-- what a call returns that makes lists -/
def MakesS (W : World) (xss : List (List Int)) (e : Ending) (w' : World) : Prop := ∃ v, e = .returned v ∧ SS w' W.heap.size w'.heap.size v xss ∧ Kp Nw W w'

set_option maxRecDepth 1000000 in
set_option maxHeartbeats 12800000 in
theorem boRounds_any (n : Nat) (f b : Int) (W : World) (n1 : 1 ≤ n) (n2 : n ≤ 200) (f1 : 1 ≤ f) (f2 : f ≤ 1000000) (b1 : 1 ≤ b) (b2 : b ≤ 1000000) :
    Calls Try.prog 28 #[.int .i64 n, .int .i64 f, .int .i64 b] W (MakesS W ((rnds f b n (marks 0 n) 0 0).map peo)) := by
  obtain ⟨RS, hRS⟩ : ∃ RS, (rnds f b n (marks 0 n) 0 0).map peo = RS := ⟨_, rfl⟩
  have HRS := Lib.hid hRS
  rw [hRS]
  clear hRS
  have wn : IntKind.i64.wrap ((n : Int) - 1) = (n : Int) - 1 := IntWalk.i64_in _ (by omega)
  go_enter Try.func28, Try.ntmps28
  go_wp2_with fail
  refine (ciPeople_any n W (by omega)).mono ?_
  rintro e w1 ⟨v0, rfl, hs, hk⟩
  have HS := Lib.hid hs
  have HK := Lib.hid hk
  clear hs hk
  go_wp2
  go_loopw [7, 8, 9, 10] (fun u v z1 z2 wr => MnJ n f b W u v z1 z2 wr) (fun u _ _ _ _ => lenOf u)
  case atStart => exact ⟨n, marks 0 n, 0, 0, [], 0, (n : Int) - 1, _, _, rfl, rfl, rfl, rfl, by rw [marks_length]; exact Nat.le_refl _, by simp, marks_inc n, fun h => ⟨h, h, rfl, by rw [marks_length]; simp⟩, rfl, HS.out, SS.nil _ _ _, fun g _ e => by simp [Value.ownBlock] at e, HK.out⟩
  case round =>
    rename_i wr
    obtain ⟨t, l, i, i', acc, zf, zt, u, v, rfl, rfl, rfl, rfl, hlt, hat, hinc, hi, hacc, hu, hss, hdi, hk⟩ := hrel
    obtain ⟨m, hm⟩ : ∃ m, l.length = m := ⟨_, rfl⟩
    rw [hm] at hi hlt
    obtain ⟨Au, cu, rfl⟩ := hu.val hm
    have HM := Lib.hid hm
    have HI := Lib.hid hinc
    have HU := Lib.hid hu
    have HAC := Lib.hid hacc
    have HSS := Lib.hid hss
    have HDI := Lib.hid hdi
    have HK := Lib.hid hk
    clear hinc hu hacc hss hdi hk hm HS
    by_cases h0 : m = 0
    · subst h0
      have HE : Hid (acc.map peo = RS) := Lib.hid (by rw [← HRS.out, ← HAC.out, rnds_none f b t l i i' HM.out, List.append_nil])
      have HR : Hid (SS wr W.heap.size wr.heap.size v RS) := Lib.hid (by rw [← HE.out]; exact HSS.out)
      go_wp2
      go_ret
      exact ⟨_, rfl, HR.out, HK.out⟩
    · obtain ⟨hi1, hi2, rfl, rfl⟩ := hi (by omega)
      obtain ⟨T, rfl⟩ : ∃ T, t = T + 1 := ⟨t - 1, by omega⟩
      obtain ⟨j, hj⟩ : ∃ j, rj f i m = j := ⟨_, rfl⟩
      obtain ⟨jr, hjr⟩ : ∃ jr, rj b i' m = jr := ⟨_, rfl⟩
      have hjm : j < m := by rw [← hj]; exact rj_lt _ _ _ (by omega)
      have hjrm : jr < m := by rw [← hjr]; exact rj_lt _ _ _ (by omega)
      obtain ⟨p, hp⟩ : ∃ p, m - 1 - jr = p := ⟨_, rfl⟩
      have hpm : p < m := by omega
      obtain ⟨x, hx⟩ : ∃ x, l.getD j 0 = x := ⟨_, rfl⟩
      obtain ⟨y, hy⟩ : ∃ y, l.getD p 0 = y := ⟨_, rfl⟩
      have t1 := fwd_idx m i f hi1 f1
      rw [hj] at t1
      have t2 := back_idx m i' b hi2
      rw [hjr, hp] at t2
      have q1 := Int.tmod_lt_of_pos ((m : Int) - 1 - i' - b + 1) (show (0 : Int) < m by omega)
      have q2 := Int.lt_tmod_of_pos ((m : Int) - 1 - i' - b + 1) (show (0 : Int) < m by omega)
      obtain ⟨D, hD⟩ : ∃ D, ((m : Int) - 1 - i' - b + 1).tmod (m : Int) = D := ⟨_, rfl⟩
      rw [hD] at t2 q1 q2
      have a1 : IntKind.i64.wrap ((i : Int) + f) = (i : Int) + f := IntWalk.i64_in _ (by omega)
      have a2 : IntKind.i64.wrap ((i : Int) + f - 1) = (i : Int) + f - 1 := IntWalk.i64_in _ (by omega)
      have a3 : IntKind.i64.wrap (j : Int) = (j : Int) := IntWalk.i64_in _ (by omega)
      have a4 : IntKind.i64.wrap ((m : Int) - 1 - i' - b) = (m : Int) - 1 - i' - b := IntWalk.i64_in _ (by omega)
      have a5 : IntKind.i64.wrap ((m : Int) - 1 - i' - b + 1) = (m : Int) - 1 - i' - b + 1 := IntWalk.i64_in _ (by omega)
      have a6 : IntKind.i64.wrap D = D := IntWalk.i64_in _ (by omega)
      have a7 : IntKind.i64.wrap (D + (m : Int)) = D + (m : Int) := IntWalk.i64_in _ (by omega)
      have a8 : IntKind.i64.wrap (p : Int) = (p : Int) := IntWalk.i64_in _ (by omega)
      have m1 : (m : Int) ≠ 0 := by omega
      have m2 : ¬ (m : Int) = 0 := by omega
      have m3 : ((m : Int) == 0) = false := by simp; omega
      have mp : (m : Int) > 0 := by omega
      have hj0 : (0 : Int) ≤ j := Int.natCast_nonneg _
      have hj1 : (j : Int) < m := by omega
      have hp0' : (0 : Int) ≤ p := Int.natCast_nonneg _
      have hp1 : (p : Int) < m := by omega
      obtain ⟨g, cap, hv, hua, _⟩ := HU.out.at_ (by rw [HM.out]; omega)
      rw [HM.out] at hv hua
      injection hv with hva hvb hvc
      subst hva
      subst hvc
      have cj := hua.cell j hjm
      have cp := hua.cell p hpm
      rw [hx] at cj
      rw [hy] at cp
      have HACN : Hid (acc ++ [(x, y)] ++ rnds f b T (cutR l x y) (idx2 m j p) (idx2 m jr (m - 1 - j)) = rnds f b n (marks 0 n) 0 0) := Lib.hid (by
        rw [← HAC.out, rnds, if_neg (by rw [HM.out]; exact h0), HM.out, hj, hjr, hp, hx, hy, List.append_assoc]
        rfl)
      obtain ⟨R, hR0⟩ : ∃ R, (if p = j then m - 1 else m - 2) = R := ⟨_, rfl⟩
      obtain ⟨j0, hjj⟩ : ∃ j0, j - (if p < j then 1 else 0) = j0 := ⟨_, rfl⟩
      obtain ⟨p0, hpp⟩ : ∃ p0, p - (if j < p then 1 else 0) = p0 := ⟨_, rfl⟩
      have HLEN : Hid ((cutR l x y).length = R) := Lib.hid (by
        have := cut_len l HI.out j p (by rw [HM.out]; exact hjm) (by rw [HM.out]; exact hpm)
        rw [hx, hy, HM.out, hR0] at this
        exact this)
      have hix := idx_on m j p jr hjm hpm hjrm hp
      rw [hR0, hjj, hpp] at hix
      have hjR0 := hix.2.2.1
      have hpR0 := hix.2.2.2
      have HIX := Lib.hid hix
      have HFW := cut_fwd l HI.out j p (by rw [HM.out]; exact hjm) (by rw [HM.out]; exact hpm)
      rw [hx, hy, hjj] at HFW
      replace HFW := Lib.hid HFW
      have HBW := cut_bwd l HI.out j p (by rw [HM.out]; exact hjm) (by rw [HM.out]; exact hpm)
      rw [hx, hy, hpp] at HBW
      replace HBW := Lib.hid HBW
      have hRm : R < m := by rw [← hR0]; split <;> omega
      obtain ⟨M, hMM⟩ : ∃ M, M = m := ⟨_, rfl⟩
      rw [← hMM] at HIX HACN
      have HDD := Lib.hid hD
      clear hix hua hx hy hj hjr hp hR0 hjj hpp hMM hvb hi
      have hDD := HDD.out
      by_cases hxy : x = y
      · subst hxy
        have HRO := Lib.hid (Sl.lit1 wr x)
        have RV : Hid (peo (x, x) = [x]) := Lib.hid (if_pos rfl)
        have k1 : Kp Nw wr (wr.alloc (.cells #[.int .i64 x] 3)) := .al _ _
        have c1 : ((wr.alloc (.cells #[.int .i64 x] 3)).alloc (.cells #[.slice (some ⟨wr.heap.size, 0, none⟩) 1 1] 28)).cell? ⟨wr.heap.size + 1, 0, none⟩ = some (.slice (some ⟨wr.heap.size, 0, none⟩) 1 1) := by simp [World.cell?_alloc_at]
        have HC1 := Lib.hid c1
        clear c1
        go_wp2_with (first | (at_builtin; refine wpList_ss wr _ rfl (.tmp 58) (.tmp 60) rfl W.heap.size wr.heap.size (wr.heap.size + 1) v (.slice (some ⟨wr.heap.size, 0, none⟩) 1 1) (acc.map peo) [x] rfl rfl HSS.out (k1.alloc _) (Nat.le_refl _) ((HRO.out.below (Kp.al _ _).below')) HC1.out (by simp; omega) HK.out.size ?_))
        intro v5 w5 hs5 hk5
        have kk : Kp (fun b => v.ownBlock = some b) wr w5 := ((k1.alloc _).mono (fun _ _ h => h.elim)).trans hk5
        have hown : ∀ g, v.ownBlock = some g → W.heap.size ≤ g := fun g hg => (HSS.out.own g hg).1
        have hz : W.heap.size ≤ wr.heap.size := HK.out.size
        have hz5' : wr.heap.size ≤ w5.heap.size := kk.size
        have HK5 := Lib.hid (HK.out.after kk (fun g hg e => by have := hown g e; omega))
        have HU5 := Lib.hid (HU.out.kp kk (fun g hg e => HDI.out g hg e))
        have HSS5 : Hid (SS w5 W.heap.size w5.heap.size v5 ((acc.map peo) ++ [peo (x, x)])) := Lib.hid (by rw [RV.out]; exact hs5)
        have hz5 : W.heap.size ≤ w5.heap.size := by omega
        obtain ⟨g5, c5, hv5, hat5, _⟩ := HU5.out.at_ (by rw [HM.out]; omega)
        rw [HM.out] at hv5 hat5
        simp only [Value.slice.injEq, Option.some.injEq, Addr.mk.injEq, and_true, true_and] at hv5
        obtain ⟨rfl, rfl⟩ := hv5
        have HUA := Lib.hid hat5
        clear hs5 hk5 kk hown hat5 k1
        go_wp2
        go_loopw [15, 64] (fun r z wq => ∃ (k : Nat) (r' : Value) (w6 : World), k ≤ m ∧ z = .int .i64 k ∧ r' = r ∧ w6 = wq ∧ Sl w6 w5.heap.size r' (cutR (l.take k) x x) ∧ Kp Nw w5 w6) (fun _ z _ => m - (intOf z).toNat)
        case atStart => exact ⟨0, _, _, Nat.zero_le _, rfl, rfl, rfl, Sl.nil _ _, Kp.refl _ _⟩
        case round =>
          obtain ⟨k, r, w6, hk, rfl, rfl, rfl, hr, hk6⟩ := hrel
          have HR := Lib.hid hr
          have HKK := Lib.hid hk6
          have k0 : (0 : Int) ≤ k := Int.natCast_nonneg _
          clear hr hk6
          by_cases hlk : k < m
          · have hk1 : (k : Int) < (m : Int) := by omega
            have ck := (HUA.out.kq HKK.out (fun h => h)).cell k hlk
            have HT := cutR_take l k x x (by rw [HM.out]; exact hlk)
            obtain ⟨q, hq⟩ : ∃ q, l.getD k 0 = q := ⟨_, rfl⟩
            rw [hq] at ck HT
            have hrl : (cutR (l.take k) x x).length ≤ 1000 := by have := cutR_len_le (l.take k) x x; rw [List.length_take] at this; omega
            clear hq
            have hz6 : w5.heap.size ≤ w6.heap.size := HKK.out.size
            by_cases hqx : q = x
            · have HTT : Hid (cutR (l.take (k + 1)) x x = cutR (l.take k) x x) := Lib.hid (by rw [HT, if_pos (.inl hqx), List.append_nil])
              clear HT
              subst hqx
              go_wp2
              go_roundw
              case rel => exact ⟨k + 1, r, _, by omega, by go_num, rfl, rfl, by rw [HTT.out]; exact HR.out, HKK.out⟩
              case measure => simp [intOf] <;> omega
            · have HTT : Hid (cutR (l.take (k + 1)) x x = cutR (l.take k) x x ++ [q]) := Lib.hid (by rw [HT, if_neg (fun h => h.elim hqx hqx)])
              clear HT
              go_wp2_with (first | (at_builtin; refine wpList_app _ rfl (.tmp 76) (.tmp 78) rfl w5.heap.size r _ (cutR (l.take k) x x) [q] rfl rfl (HR.out.below ((Kp.refl Nw w6).alloc _).below') (Rd.one (g := w6.heap.size) (by simp)) nil_one (by simp; omega) (by simp; omega) ?_))
              intro r' w7 hs7 hk7 _
              have HS7 := Lib.hid hs7
              have HK7 := Lib.hid ((HKK.out.nw (.al _ _)).own (HR.out.below (Kp.al _ _).below') hk7)
              clear hs7 hk7
              go_wp2
              go_roundw
              case rel => exact ⟨k + 1, r', _, by omega, by go_num, rfl, rfl, by rw [HTT.out]; exact HS7.out, HK7.out⟩
              case measure => simp [intOf] <;> omega
          · skip
            have hkm : k = m := by omega
            subst hkm
            have HR6 : Hid (Sl w6 w5.heap.size r (cutR l x x)) := Lib.hid (by have := HR.out; rw [List.take_of_length_le (by rw [HM.out]; exact Nat.le_refl _)] at this; exact this)
            have HK6 := Lib.hid (HK5.out.nw HKK.out)
            have HSS6 : Hid (SS w6 W.heap.size w6.heap.size v5 ((acc.map peo) ++ [peo (x, x)])) := Lib.hid ((HSS5.out.nw HKK.out).from (Nat.le_refl _) HKK.out.size)
            obtain ⟨A6, c6, rfl⟩ := HR6.out.val HLEN.out
            have HNO : Hid (∀ g, (Value.slice A6 R c6).ownBlock = some g → v5.ownBlock ≠ some g) := Lib.hid (fun g hg e => by have h1 := (HR6.out.own_ge g hg).1; have h2 := (HSS5.out.own g e).2; omega)
            have wR : IntKind.i64.wrap ((R : Int) - 1) = (R : Int) - 1 := IntWalk.i64_in _ (by omega)
            by_cases hR : R = 0
            · subst hR
              obtain rfl : j0 = 0 := by omega
              obtain rfl : p0 = 0 := by omega
              go_wp2
              go_loop [9] (fun z => ∃ k : Nat, k ≤ 0 ∧ z = .int .i64 k) (fun z => 0 + 1 - (intOf z).toNat)
              case atStart => exact ⟨0, Nat.zero_le _, rfl⟩
              case round =>
                obtain ⟨k, hk, rfl⟩ := hrel
                by_cases hkj : k < 0
                · exact absurd hkj (by omega)
                · have hkj0 : k = 0 := by omega
                  subst hkj0
                  go_wp2
                  go_loop [10] (fun z => ∃ y' : Int, z = .int .i64 y' ∧ (0 : Int) - 1 ≤ y' ∧ y' ≤ (0 : Int) - 1) (fun z => (intOf z + 1).toNat)
                  case atStart => exact ⟨_, rfl, by omega, by omega⟩
                  case round =>
                    obtain ⟨y', rfl, hy1, hy2⟩ := hrel
                    by_cases hyp : (0 : Int) ≤ y'
                    · obtain ⟨k, rfl⟩ : ∃ k : Nat, y' = k := ⟨y'.toNat, by omega⟩
                      exact absurd hyp (by omega)
                    · obtain rfl : y' = -1 := by omega
                      go_wp2
                      go_roundw
                      case rel =>
                        refine ⟨T, cutR l x x, idx2 M j p, idx2 M jr (M - 1 - j), acc ++ [(x, x)], _, _, _, _, rfl, rfl, rfl, rfl, by rw [HLEN.out]; omega, by simp; omega, HI.out.cut x x, fun h0' => ?_, HACN.out, HR6.out.from hz5, ?_, HNO.out, HK6.out⟩
                        · rw [HLEN.out] at h0' ⊢
                          rw [HIX.out.1, HIX.out.2.1]
                          exact absurd h0' (by omega)
                        · rw [List.map_append]
                          exact HSS6.out
                      case measure => simp [lenOf]; omega
            · obtain ⟨g6, c6', hv6, hat6, _⟩ := HR6.out.at_ (by rw [HLEN.out]; omega)
              rw [HLEN.out] at hv6 hat6
              injection hv6 with h6a h6b h6c
              subst h6a
              subst h6c
              have HAT := Lib.hid hat6
              clear hat6 h6b
              by_cases hjR : j0 < R
              · by_cases hpR : 0 < p0
                · go_wp2
                  go_loop [9] (fun z => ∃ k : Nat, k ≤ j0 ∧ z = .int .i64 k) (fun z => j0 + 1 - (intOf z).toNat)
                  case atStart => exact ⟨0, Nat.zero_le _, rfl⟩
                  case round =>
                    obtain ⟨k, hk, rfl⟩ := hrel
                    by_cases hkj : k < j0
                    · have hk1 : (k : Int) < (R : Int) := by omega
                      have hk2 : (0 : Int) ≤ k := by omega
                      have ck := HAT.out.cell k (by omega)
                      obtain ⟨q, hq⟩ : ∃ q, (cutR l x x).getD k 0 = q := ⟨_, rfl⟩
                      rw [hq] at ck
                      have hqx : q < x := by have := HFW.out.1 k hkj; omega
                      clear hq
                      go_wp2
                      go_round
                      case rel => exact ⟨k + 1, by omega, by go_num⟩
                      case measure => simp [intOf] <;> omega
                    · have hkj0 : k = j0 := by omega
                      subst hkj0
                      have hk2 : (0 : Int) ≤ k := by omega
                      have hk1 : (k : Int) < (R : Int) := by omega
                      have ck := HAT.out.cell k (by omega)
                      obtain ⟨q, hq⟩ : ∃ q, (cutR l x x).getD k 0 = q := ⟨_, rfl⟩
                      rw [hq] at ck
                      have hqx : ¬ q < x := by have := HFW.out.2 k (Nat.le_refl _) (by rw [HLEN.out]; omega); omega
                      have hne : ¬ (k : Int) = (R : Int) := by omega
                      clear hq
                      go_wp2
                      go_loop [10] (fun z => ∃ y' : Int, z = .int .i64 y' ∧ (p0 : Int) - 1 ≤ y' ∧ y' ≤ (R : Int) - 1) (fun z => (intOf z + 1).toNat)
                      case atStart => exact ⟨(R : Int) - 1, rfl, by omega, Int.le_refl _⟩
                      case round =>
                        obtain ⟨y', rfl, hy1, hy2⟩ := hrel
                        by_cases hyp : (p0 : Int) ≤ y'
                        · obtain ⟨k, rfl⟩ : ∃ k : Nat, y' = k := ⟨y'.toNat, by omega⟩
                          have ck := HAT.out.cell k (by omega)
                          obtain ⟨q, hq⟩ : ∃ q, (cutR l x x).getD k 0 = q := ⟨_, rfl⟩
                          rw [hq] at ck
                          have hqy : q > x := by have := HBW.out.2 k (by omega) (by rw [HLEN.out]; omega); omega
                          have hk0 : (k : Int) ≥ 0 := by omega
                          have hk1 : (k : Int) < (R : Int) := by omega
                          have hk2 : (0 : Int) ≤ k := by omega
                          have wk : IntKind.i64.wrap ((k : Int) - 1) = (k : Int) - 1 := IntWalk.i64_in _ (by omega)
                          clear hq
                          go_wp2
                          go_round
                          case rel => exact ⟨(k : Int) - 1, by go_num, by omega, by omega⟩
                          case measure => simp [intOf] <;> omega
                        · obtain rfl : y' = (p0 : Int) - 1 := by omega
                          have hpd : (p0 : Int) - 1 = ((p0 - 1 : Nat) : Int) := by omega
                          have cd := HAT.out.cell (p0 - 1) (by omega)
                          obtain ⟨q, hq⟩ : ∃ q, (cutR l x x).getD (p0 - 1) 0 = q := ⟨_, rfl⟩
                          rw [hq] at cd
                          have hqy : ¬ q > x := by have := HBW.out.1 (p0 - 1) (by omega); omega
                          have g0 : ((p0 - 1 : Nat) : Int) ≥ 0 := by omega
                          have g1 : ((p0 - 1 : Nat) : Int) < (R : Int) := by omega
                          have g2 : ¬ ((p0 - 1 : Nat) : Int) < 0 := by omega
                          have g3 : (0 : Int) ≤ ((p0 - 1 : Nat) : Int) := by omega
                          rw [hpd]
                          clear hq hpd
                          go_wp2
                          go_roundw
                          case rel =>
                            refine ⟨T, cutR l x x, idx2 M j p, idx2 M jr (M - 1 - j), acc ++ [(x, x)], _, _, _, _, rfl, rfl, rfl, rfl, by rw [HLEN.out]; omega, by simp; omega, HI.out.cut x x, fun h0' => ?_, HACN.out, HR6.out.from hz5, ?_, HNO.out, HK6.out⟩
                            · rw [HLEN.out] at h0' ⊢
                              rw [HIX.out.1, HIX.out.2.1]
                              rw [Nat.mod_eq_of_lt hjR, Nat.mod_eq_of_lt (by omega : R - p0 < R)]
                              refine ⟨by omega, by omega, by omega, by omega⟩
                            · rw [List.map_append]
                              exact HSS6.out
                          case measure => simp [lenOf]; omega
                · have hpR : p0 = 0 := by omega
                  go_wp2
                  go_loop [9] (fun z => ∃ k : Nat, k ≤ j0 ∧ z = .int .i64 k) (fun z => j0 + 1 - (intOf z).toNat)
                  case atStart => exact ⟨0, Nat.zero_le _, rfl⟩
                  case round =>
                    obtain ⟨k, hk, rfl⟩ := hrel
                    by_cases hkj : k < j0
                    · have hk1 : (k : Int) < (R : Int) := by omega
                      have hk2 : (0 : Int) ≤ k := by omega
                      have ck := HAT.out.cell k (by omega)
                      obtain ⟨q, hq⟩ : ∃ q, (cutR l x x).getD k 0 = q := ⟨_, rfl⟩
                      rw [hq] at ck
                      have hqx : q < x := by have := HFW.out.1 k hkj; omega
                      clear hq
                      go_wp2
                      go_round
                      case rel => exact ⟨k + 1, by omega, by go_num⟩
                      case measure => simp [intOf] <;> omega
                    · have hkj0 : k = j0 := by omega
                      subst hkj0
                      have hk2 : (0 : Int) ≤ k := by omega
                      have hk1 : (k : Int) < (R : Int) := by omega
                      have ck := HAT.out.cell k (by omega)
                      obtain ⟨q, hq⟩ : ∃ q, (cutR l x x).getD k 0 = q := ⟨_, rfl⟩
                      rw [hq] at ck
                      have hqx : ¬ q < x := by have := HFW.out.2 k (Nat.le_refl _) (by rw [HLEN.out]; omega); omega
                      have hne : ¬ (k : Int) = (R : Int) := by omega
                      clear hq
                      go_wp2
                      go_loop [10] (fun z => ∃ y' : Int, z = .int .i64 y' ∧ (p0 : Int) - 1 ≤ y' ∧ y' ≤ (R : Int) - 1) (fun z => (intOf z + 1).toNat)
                      case atStart => exact ⟨(R : Int) - 1, rfl, by omega, Int.le_refl _⟩
                      case round =>
                        obtain ⟨y', rfl, hy1, hy2⟩ := hrel
                        by_cases hyp : (p0 : Int) ≤ y'
                        · obtain ⟨k, rfl⟩ : ∃ k : Nat, y' = k := ⟨y'.toNat, by omega⟩
                          have ck := HAT.out.cell k (by omega)
                          obtain ⟨q, hq⟩ : ∃ q, (cutR l x x).getD k 0 = q := ⟨_, rfl⟩
                          rw [hq] at ck
                          have hqy : q > x := by have := HBW.out.2 k (by omega) (by rw [HLEN.out]; omega); omega
                          have hk0 : (k : Int) ≥ 0 := by omega
                          have hk1 : (k : Int) < (R : Int) := by omega
                          have hk2 : (0 : Int) ≤ k := by omega
                          have wk : IntKind.i64.wrap ((k : Int) - 1) = (k : Int) - 1 := IntWalk.i64_in _ (by omega)
                          clear hq
                          go_wp2
                          go_round
                          case rel => exact ⟨(k : Int) - 1, by go_num, by omega, by omega⟩
                          case measure => simp [intOf] <;> omega
                        · obtain rfl : y' = (p0 : Int) - 1 := by omega
                          have hneg : ¬ ((p0 : Int) - 1) ≥ 0 := by omega
                          have hneg2 : ((p0 : Int) - 1) < 0 := by omega
                          go_wp2
                          go_roundw
                          case rel =>
                            refine ⟨T, cutR l x x, idx2 M j p, idx2 M jr (M - 1 - j), acc ++ [(x, x)], _, _, _, _, rfl, rfl, rfl, rfl, by rw [HLEN.out]; omega, by simp; omega, HI.out.cut x x, fun h0' => ?_, HACN.out, HR6.out.from hz5, ?_, HNO.out, HK6.out⟩
                            · rw [HLEN.out] at h0' ⊢
                              rw [HIX.out.1, HIX.out.2.1]
                              rw [Nat.mod_eq_of_lt hjR, hpR, Nat.sub_zero, Nat.mod_self]
                              refine ⟨by omega, by omega, by omega, by omega⟩
                            · rw [List.map_append]
                              exact HSS6.out
                          case measure => simp [lenOf]; omega
              · have hjR : j0 = R := by omega
                by_cases hpR : 0 < p0
                · go_wp2
                  go_loop [9] (fun z => ∃ k : Nat, k ≤ j0 ∧ z = .int .i64 k) (fun z => j0 + 1 - (intOf z).toNat)
                  case atStart => exact ⟨0, Nat.zero_le _, rfl⟩
                  case round =>
                    obtain ⟨k, hk, rfl⟩ := hrel
                    by_cases hkj : k < j0
                    · have hk1 : (k : Int) < (R : Int) := by omega
                      have hk2 : (0 : Int) ≤ k := by omega
                      have ck := HAT.out.cell k (by omega)
                      obtain ⟨q, hq⟩ : ∃ q, (cutR l x x).getD k 0 = q := ⟨_, rfl⟩
                      rw [hq] at ck
                      have hqx : q < x := by have := HFW.out.1 k hkj; omega
                      clear hq
                      go_wp2
                      go_round
                      case rel => exact ⟨k + 1, by omega, by go_num⟩
                      case measure => simp [intOf] <;> omega
                    · have hkj0 : k = j0 := by omega
                      subst hkj0
                      have hk2 : (0 : Int) ≤ k := by omega
                      have hk1 : ¬ (k : Int) < (R : Int) := by omega
                      have hkR : (k : Int) = (R : Int) := by omega
                      go_wp2
                      go_loop [10] (fun z => ∃ y' : Int, z = .int .i64 y' ∧ (p0 : Int) - 1 ≤ y' ∧ y' ≤ (R : Int) - 1) (fun z => (intOf z + 1).toNat)
                      case atStart => exact ⟨(R : Int) - 1, rfl, by omega, Int.le_refl _⟩
                      case round =>
                        obtain ⟨y', rfl, hy1, hy2⟩ := hrel
                        by_cases hyp : (p0 : Int) ≤ y'
                        · obtain ⟨k, rfl⟩ : ∃ k : Nat, y' = k := ⟨y'.toNat, by omega⟩
                          have ck := HAT.out.cell k (by omega)
                          obtain ⟨q, hq⟩ : ∃ q, (cutR l x x).getD k 0 = q := ⟨_, rfl⟩
                          rw [hq] at ck
                          have hqy : q > x := by have := HBW.out.2 k (by omega) (by rw [HLEN.out]; omega); omega
                          have hk0 : (k : Int) ≥ 0 := by omega
                          have hk1 : (k : Int) < (R : Int) := by omega
                          have hk2 : (0 : Int) ≤ k := by omega
                          have wk : IntKind.i64.wrap ((k : Int) - 1) = (k : Int) - 1 := IntWalk.i64_in _ (by omega)
                          clear hq
                          go_wp2
                          go_round
                          case rel => exact ⟨(k : Int) - 1, by go_num, by omega, by omega⟩
                          case measure => simp [intOf] <;> omega
                        · obtain rfl : y' = (p0 : Int) - 1 := by omega
                          have hpd : (p0 : Int) - 1 = ((p0 - 1 : Nat) : Int) := by omega
                          have cd := HAT.out.cell (p0 - 1) (by omega)
                          obtain ⟨q, hq⟩ : ∃ q, (cutR l x x).getD (p0 - 1) 0 = q := ⟨_, rfl⟩
                          rw [hq] at cd
                          have hqy : ¬ q > x := by have := HBW.out.1 (p0 - 1) (by omega); omega
                          have g0 : ((p0 - 1 : Nat) : Int) ≥ 0 := by omega
                          have g1 : ((p0 - 1 : Nat) : Int) < (R : Int) := by omega
                          have g2 : ¬ ((p0 - 1 : Nat) : Int) < 0 := by omega
                          have g3 : (0 : Int) ≤ ((p0 - 1 : Nat) : Int) := by omega
                          rw [hpd]
                          clear hq hpd
                          go_wp2
                          go_roundw
                          case rel =>
                            refine ⟨T, cutR l x x, idx2 M j p, idx2 M jr (M - 1 - j), acc ++ [(x, x)], _, _, _, _, rfl, rfl, rfl, rfl, by rw [HLEN.out]; omega, by simp; omega, HI.out.cut x x, fun h0' => ?_, HACN.out, HR6.out.from hz5, ?_, HNO.out, HK6.out⟩
                            · rw [HLEN.out] at h0' ⊢
                              rw [HIX.out.1, HIX.out.2.1]
                              rw [hjR, Nat.mod_self, Nat.mod_eq_of_lt (by omega : R - p0 < R)]
                              refine ⟨by omega, by omega, by omega, by omega⟩
                            · rw [List.map_append]
                              exact HSS6.out
                          case measure => simp [lenOf]; omega
                · have hpR : p0 = 0 := by omega
                  go_wp2
                  go_loop [9] (fun z => ∃ k : Nat, k ≤ j0 ∧ z = .int .i64 k) (fun z => j0 + 1 - (intOf z).toNat)
                  case atStart => exact ⟨0, Nat.zero_le _, rfl⟩
                  case round =>
                    obtain ⟨k, hk, rfl⟩ := hrel
                    by_cases hkj : k < j0
                    · have hk1 : (k : Int) < (R : Int) := by omega
                      have hk2 : (0 : Int) ≤ k := by omega
                      have ck := HAT.out.cell k (by omega)
                      obtain ⟨q, hq⟩ : ∃ q, (cutR l x x).getD k 0 = q := ⟨_, rfl⟩
                      rw [hq] at ck
                      have hqx : q < x := by have := HFW.out.1 k hkj; omega
                      clear hq
                      go_wp2
                      go_round
                      case rel => exact ⟨k + 1, by omega, by go_num⟩
                      case measure => simp [intOf] <;> omega
                    · have hkj0 : k = j0 := by omega
                      subst hkj0
                      have hk2 : (0 : Int) ≤ k := by omega
                      have hk1 : ¬ (k : Int) < (R : Int) := by omega
                      have hkR : (k : Int) = (R : Int) := by omega
                      go_wp2
                      go_loop [10] (fun z => ∃ y' : Int, z = .int .i64 y' ∧ (p0 : Int) - 1 ≤ y' ∧ y' ≤ (R : Int) - 1) (fun z => (intOf z + 1).toNat)
                      case atStart => exact ⟨(R : Int) - 1, rfl, by omega, Int.le_refl _⟩
                      case round =>
                        obtain ⟨y', rfl, hy1, hy2⟩ := hrel
                        by_cases hyp : (p0 : Int) ≤ y'
                        · obtain ⟨k, rfl⟩ : ∃ k : Nat, y' = k := ⟨y'.toNat, by omega⟩
                          have ck := HAT.out.cell k (by omega)
                          obtain ⟨q, hq⟩ : ∃ q, (cutR l x x).getD k 0 = q := ⟨_, rfl⟩
                          rw [hq] at ck
                          have hqy : q > x := by have := HBW.out.2 k (by omega) (by rw [HLEN.out]; omega); omega
                          have hk0 : (k : Int) ≥ 0 := by omega
                          have hk1 : (k : Int) < (R : Int) := by omega
                          have hk2 : (0 : Int) ≤ k := by omega
                          have wk : IntKind.i64.wrap ((k : Int) - 1) = (k : Int) - 1 := IntWalk.i64_in _ (by omega)
                          clear hq
                          go_wp2
                          go_round
                          case rel => exact ⟨(k : Int) - 1, by go_num, by omega, by omega⟩
                          case measure => simp [intOf] <;> omega
                        · obtain rfl : y' = (p0 : Int) - 1 := by omega
                          have hneg : ¬ ((p0 : Int) - 1) ≥ 0 := by omega
                          have hneg2 : ((p0 : Int) - 1) < 0 := by omega
                          go_wp2
                          go_roundw
                          case rel =>
                            refine ⟨T, cutR l x x, idx2 M j p, idx2 M jr (M - 1 - j), acc ++ [(x, x)], _, _, _, _, rfl, rfl, rfl, rfl, by rw [HLEN.out]; omega, by simp; omega, HI.out.cut x x, fun h0' => ?_, HACN.out, HR6.out.from hz5, ?_, HNO.out, HK6.out⟩
                            · rw [HLEN.out] at h0' ⊢
                              rw [HIX.out.1, HIX.out.2.1]
                              rw [hjR, Nat.mod_self, hpR, Nat.sub_zero, Nat.mod_self]
                              refine ⟨by omega, by omega, by omega, by omega⟩
                            · rw [List.map_append]
                              exact HSS6.out
                          case measure => simp [lenOf]; omega
      · skip
        go_wp2_with (first | (at_builtin; refine wpList_app _ rfl (.tmp 54) (.tmp 56) rfl wr.heap.size (.slice (some ⟨wr.heap.size, 0, none⟩) 1 1) _ [x] [y] rfl rfl ((Sl.lit1 wr x).below (Kp.al _ _).below') (Rd.one (g := wr.heap.size + 1) (by simp)) nil_one (by simp) (by simp; omega) ?_))
        intro rv w2 hs2 hk2 _
        have HS2 := Lib.hid hs2
        have k2 : Kp Nw wr w2 := ((Kp.al wr _).alloc _).own ((Sl.lit1 wr x).below (Kp.al _ _).below') hk2
        have K2 := Lib.hid k2
        obtain ⟨A2, c2, rfl⟩ := hs2.val (n := 2) rfl
        have c1 : (w2.alloc (.cells #[.slice A2 2 c2] 28)).cell? ⟨w2.heap.size, 0, none⟩ = some (.slice A2 2 c2) := by simp [World.cell?_alloc_at]
        have HC1 := Lib.hid c1
        have RV : Hid (peo (x, y) = [x, y]) := Lib.hid (if_neg hxy)
        clear hs2 hk2 k2 c1
        go_wp2_with (first | (at_builtin; refine wpList_ss wr _ rfl (.tmp 58) (.tmp 60) rfl W.heap.size wr.heap.size w2.heap.size v (.slice A2 2 c2) (acc.map peo) [x, y] rfl rfl HSS.out (K2.out.alloc _) (Nat.le_refl _) ((HS2.out.below (Kp.al _ _).below')) HC1.out (by simp; omega) HK.out.size ?_))
        intro v5 w5 hs5 hk5
        have kk : Kp (fun b => v.ownBlock = some b) wr w5 := ((K2.out.alloc _).mono (fun _ _ h => h.elim)).trans hk5
        have hown : ∀ g, v.ownBlock = some g → W.heap.size ≤ g := fun g hg => (HSS.out.own g hg).1
        have hz : W.heap.size ≤ wr.heap.size := HK.out.size
        have hz5' : wr.heap.size ≤ w5.heap.size := kk.size
        have HK5 := Lib.hid (HK.out.after kk (fun g hg e => by have := hown g e; omega))
        have HU5 := Lib.hid (HU.out.kp kk (fun g hg e => HDI.out g hg e))
        have HSS5 : Hid (SS w5 W.heap.size w5.heap.size v5 ((acc.map peo) ++ [peo (x, y)])) := Lib.hid (by rw [RV.out]; exact hs5)
        have hz5 : W.heap.size ≤ w5.heap.size := by omega
        obtain ⟨g5, c5, hv5, hat5, _⟩ := HU5.out.at_ (by rw [HM.out]; omega)
        rw [HM.out] at hv5 hat5
        simp only [Value.slice.injEq, Option.some.injEq, Addr.mk.injEq, and_true, true_and] at hv5
        obtain ⟨rfl, rfl⟩ := hv5
        have HUA := Lib.hid hat5
        clear hs5 hk5 kk hown hat5
        go_wp2
        go_loopw [15, 64] (fun r z wq => ∃ (k : Nat) (r' : Value) (w6 : World), k ≤ m ∧ z = .int .i64 k ∧ r' = r ∧ w6 = wq ∧ Sl w6 w5.heap.size r' (cutR (l.take k) x y) ∧ Kp Nw w5 w6) (fun _ z _ => m - (intOf z).toNat)
        case atStart => exact ⟨0, _, _, Nat.zero_le _, rfl, rfl, rfl, Sl.nil _ _, Kp.refl _ _⟩
        case round =>
          obtain ⟨k, r, w6, hk, rfl, rfl, rfl, hr, hk6⟩ := hrel
          have HR := Lib.hid hr
          have HKK := Lib.hid hk6
          have k0 : (0 : Int) ≤ k := Int.natCast_nonneg _
          clear hr hk6
          by_cases hlk : k < m
          · have hk1 : (k : Int) < (m : Int) := by omega
            have ck := (HUA.out.kq HKK.out (fun h => h)).cell k hlk
            have HT := cutR_take l k x y (by rw [HM.out]; exact hlk)
            obtain ⟨q, hq⟩ : ∃ q, l.getD k 0 = q := ⟨_, rfl⟩
            rw [hq] at ck HT
            have hrl : (cutR (l.take k) x y).length ≤ 1000 := by have := cutR_len_le (l.take k) x y; rw [List.length_take] at this; omega
            clear hq
            have hz6 : w5.heap.size ≤ w6.heap.size := HKK.out.size
            by_cases hqx : q = x
            · have HTT : Hid (cutR (l.take (k + 1)) x y = cutR (l.take k) x y) := Lib.hid (by rw [HT, if_pos (.inl hqx), List.append_nil])
              clear HT
              subst hqx
              go_wp2
              go_roundw
              case rel => exact ⟨k + 1, r, _, by omega, by go_num, rfl, rfl, by rw [HTT.out]; exact HR.out, HKK.out⟩
              case measure => simp [intOf] <;> omega
            · by_cases hqy : q = y
              · have HTT : Hid (cutR (l.take (k + 1)) x y = cutR (l.take k) x y) := Lib.hid (by rw [HT, if_pos (.inr hqy), List.append_nil])
                clear HT
                subst hqy
                go_wp2
                go_roundw
                case rel => exact ⟨k + 1, r, _, by omega, by go_num, rfl, rfl, by rw [HTT.out]; exact HR.out, HKK.out⟩
                case measure => simp [intOf] <;> omega
              · have HTT : Hid (cutR (l.take (k + 1)) x y = cutR (l.take k) x y ++ [q]) := Lib.hid (by rw [HT, if_neg (fun h => h.elim hqx hqy)])
                have fq1 : (q != x) = true := by simpa using hqx
                have fq2 : (q != y) = true := by simpa using hqy
                clear HT
                go_wp2_with (first | (at_builtin; refine wpList_app _ rfl (.tmp 76) (.tmp 78) rfl w5.heap.size r _ (cutR (l.take k) x y) [q] rfl rfl (HR.out.below ((Kp.refl Nw w6).alloc _).below') (Rd.one (g := w6.heap.size) (by simp)) nil_one (by simp; omega) (by simp; omega) ?_))
                intro r' w7 hs7 hk7 _
                have HS7 := Lib.hid hs7
                have HK7 := Lib.hid ((HKK.out.nw (.al _ _)).own (HR.out.below (Kp.al _ _).below') hk7)
                clear hs7 hk7
                go_wp2
                go_roundw
                case rel => exact ⟨k + 1, r', _, by omega, by go_num, rfl, rfl, by rw [HTT.out]; exact HS7.out, HK7.out⟩
                case measure => simp [intOf] <;> omega
          · skip
            have hkm : k = m := by omega
            subst hkm
            have HR6 : Hid (Sl w6 w5.heap.size r (cutR l x y)) := Lib.hid (by have := HR.out; rw [List.take_of_length_le (by rw [HM.out]; exact Nat.le_refl _)] at this; exact this)
            have HK6 := Lib.hid (HK5.out.nw HKK.out)
            have HSS6 : Hid (SS w6 W.heap.size w6.heap.size v5 ((acc.map peo) ++ [peo (x, y)])) := Lib.hid ((HSS5.out.nw HKK.out).from (Nat.le_refl _) HKK.out.size)
            obtain ⟨A6, c6, rfl⟩ := HR6.out.val HLEN.out
            have HNO : Hid (∀ g, (Value.slice A6 R c6).ownBlock = some g → v5.ownBlock ≠ some g) := Lib.hid (fun g hg e => by have h1 := (HR6.out.own_ge g hg).1; have h2 := (HSS5.out.own g e).2; omega)
            have wR : IntKind.i64.wrap ((R : Int) - 1) = (R : Int) - 1 := IntWalk.i64_in _ (by omega)
            by_cases hR : R = 0
            · subst hR
              obtain rfl : j0 = 0 := by omega
              obtain rfl : p0 = 0 := by omega
              go_wp2
              go_loop [9] (fun z => ∃ k : Nat, k ≤ 0 ∧ z = .int .i64 k) (fun z => 0 + 1 - (intOf z).toNat)
              case atStart => exact ⟨0, Nat.zero_le _, rfl⟩
              case round =>
                obtain ⟨k, hk, rfl⟩ := hrel
                by_cases hkj : k < 0
                · exact absurd hkj (by omega)
                · have hkj0 : k = 0 := by omega
                  subst hkj0
                  go_wp2
                  go_loop [10] (fun z => ∃ y' : Int, z = .int .i64 y' ∧ (0 : Int) - 1 ≤ y' ∧ y' ≤ (0 : Int) - 1) (fun z => (intOf z + 1).toNat)
                  case atStart => exact ⟨_, rfl, by omega, by omega⟩
                  case round =>
                    obtain ⟨y', rfl, hy1, hy2⟩ := hrel
                    by_cases hyp : (0 : Int) ≤ y'
                    · obtain ⟨k, rfl⟩ : ∃ k : Nat, y' = k := ⟨y'.toNat, by omega⟩
                      exact absurd hyp (by omega)
                    · obtain rfl : y' = -1 := by omega
                      go_wp2
                      go_roundw
                      case rel =>
                        refine ⟨T, cutR l x y, idx2 M j p, idx2 M jr (M - 1 - j), acc ++ [(x, y)], _, _, _, _, rfl, rfl, rfl, rfl, by rw [HLEN.out]; omega, by simp; omega, HI.out.cut x y, fun h0' => ?_, HACN.out, HR6.out.from hz5, ?_, HNO.out, HK6.out⟩
                        · rw [HLEN.out] at h0' ⊢
                          rw [HIX.out.1, HIX.out.2.1]
                          exact absurd h0' (by omega)
                        · rw [List.map_append]
                          exact HSS6.out
                      case measure => simp [lenOf]; omega
            · obtain ⟨g6, c6', hv6, hat6, _⟩ := HR6.out.at_ (by rw [HLEN.out]; omega)
              rw [HLEN.out] at hv6 hat6
              injection hv6 with h6a h6b h6c
              subst h6a
              subst h6c
              have HAT := Lib.hid hat6
              clear hat6 h6b
              by_cases hjR : j0 < R
              · by_cases hpR : 0 < p0
                · go_wp2
                  go_loop [9] (fun z => ∃ k : Nat, k ≤ j0 ∧ z = .int .i64 k) (fun z => j0 + 1 - (intOf z).toNat)
                  case atStart => exact ⟨0, Nat.zero_le _, rfl⟩
                  case round =>
                    obtain ⟨k, hk, rfl⟩ := hrel
                    by_cases hkj : k < j0
                    · have hk1 : (k : Int) < (R : Int) := by omega
                      have hk2 : (0 : Int) ≤ k := by omega
                      have ck := HAT.out.cell k (by omega)
                      obtain ⟨q, hq⟩ : ∃ q, (cutR l x y).getD k 0 = q := ⟨_, rfl⟩
                      rw [hq] at ck
                      have hqx : q < x := by have := HFW.out.1 k hkj; omega
                      clear hq
                      go_wp2
                      go_round
                      case rel => exact ⟨k + 1, by omega, by go_num⟩
                      case measure => simp [intOf] <;> omega
                    · have hkj0 : k = j0 := by omega
                      subst hkj0
                      have hk2 : (0 : Int) ≤ k := by omega
                      have hk1 : (k : Int) < (R : Int) := by omega
                      have ck := HAT.out.cell k (by omega)
                      obtain ⟨q, hq⟩ : ∃ q, (cutR l x y).getD k 0 = q := ⟨_, rfl⟩
                      rw [hq] at ck
                      have hqx : ¬ q < x := by have := HFW.out.2 k (Nat.le_refl _) (by rw [HLEN.out]; omega); omega
                      have hne : ¬ (k : Int) = (R : Int) := by omega
                      clear hq
                      go_wp2
                      go_loop [10] (fun z => ∃ y' : Int, z = .int .i64 y' ∧ (p0 : Int) - 1 ≤ y' ∧ y' ≤ (R : Int) - 1) (fun z => (intOf z + 1).toNat)
                      case atStart => exact ⟨(R : Int) - 1, rfl, by omega, Int.le_refl _⟩
                      case round =>
                        obtain ⟨y', rfl, hy1, hy2⟩ := hrel
                        by_cases hyp : (p0 : Int) ≤ y'
                        · obtain ⟨k, rfl⟩ : ∃ k : Nat, y' = k := ⟨y'.toNat, by omega⟩
                          have ck := HAT.out.cell k (by omega)
                          obtain ⟨q, hq⟩ : ∃ q, (cutR l x y).getD k 0 = q := ⟨_, rfl⟩
                          rw [hq] at ck
                          have hqy : q > y := by have := HBW.out.2 k (by omega) (by rw [HLEN.out]; omega); omega
                          have hk0 : (k : Int) ≥ 0 := by omega
                          have hk1 : (k : Int) < (R : Int) := by omega
                          have hk2 : (0 : Int) ≤ k := by omega
                          have wk : IntKind.i64.wrap ((k : Int) - 1) = (k : Int) - 1 := IntWalk.i64_in _ (by omega)
                          clear hq
                          go_wp2
                          go_round
                          case rel => exact ⟨(k : Int) - 1, by go_num, by omega, by omega⟩
                          case measure => simp [intOf] <;> omega
                        · obtain rfl : y' = (p0 : Int) - 1 := by omega
                          have hpd : (p0 : Int) - 1 = ((p0 - 1 : Nat) : Int) := by omega
                          have cd := HAT.out.cell (p0 - 1) (by omega)
                          obtain ⟨q, hq⟩ : ∃ q, (cutR l x y).getD (p0 - 1) 0 = q := ⟨_, rfl⟩
                          rw [hq] at cd
                          have hqy : ¬ q > y := by have := HBW.out.1 (p0 - 1) (by omega); omega
                          have g0 : ((p0 - 1 : Nat) : Int) ≥ 0 := by omega
                          have g1 : ((p0 - 1 : Nat) : Int) < (R : Int) := by omega
                          have g2 : ¬ ((p0 - 1 : Nat) : Int) < 0 := by omega
                          have g3 : (0 : Int) ≤ ((p0 - 1 : Nat) : Int) := by omega
                          rw [hpd]
                          clear hq hpd
                          go_wp2
                          go_roundw
                          case rel =>
                            refine ⟨T, cutR l x y, idx2 M j p, idx2 M jr (M - 1 - j), acc ++ [(x, y)], _, _, _, _, rfl, rfl, rfl, rfl, by rw [HLEN.out]; omega, by simp; omega, HI.out.cut x y, fun h0' => ?_, HACN.out, HR6.out.from hz5, ?_, HNO.out, HK6.out⟩
                            · rw [HLEN.out] at h0' ⊢
                              rw [HIX.out.1, HIX.out.2.1]
                              rw [Nat.mod_eq_of_lt hjR, Nat.mod_eq_of_lt (by omega : R - p0 < R)]
                              refine ⟨by omega, by omega, by omega, by omega⟩
                            · rw [List.map_append]
                              exact HSS6.out
                          case measure => simp [lenOf]; omega
                · have hpR : p0 = 0 := by omega
                  go_wp2
                  go_loop [9] (fun z => ∃ k : Nat, k ≤ j0 ∧ z = .int .i64 k) (fun z => j0 + 1 - (intOf z).toNat)
                  case atStart => exact ⟨0, Nat.zero_le _, rfl⟩
                  case round =>
                    obtain ⟨k, hk, rfl⟩ := hrel
                    by_cases hkj : k < j0
                    · have hk1 : (k : Int) < (R : Int) := by omega
                      have hk2 : (0 : Int) ≤ k := by omega
                      have ck := HAT.out.cell k (by omega)
                      obtain ⟨q, hq⟩ : ∃ q, (cutR l x y).getD k 0 = q := ⟨_, rfl⟩
                      rw [hq] at ck
                      have hqx : q < x := by have := HFW.out.1 k hkj; omega
                      clear hq
                      go_wp2
                      go_round
                      case rel => exact ⟨k + 1, by omega, by go_num⟩
                      case measure => simp [intOf] <;> omega
                    · have hkj0 : k = j0 := by omega
                      subst hkj0
                      have hk2 : (0 : Int) ≤ k := by omega
                      have hk1 : (k : Int) < (R : Int) := by omega
                      have ck := HAT.out.cell k (by omega)
                      obtain ⟨q, hq⟩ : ∃ q, (cutR l x y).getD k 0 = q := ⟨_, rfl⟩
                      rw [hq] at ck
                      have hqx : ¬ q < x := by have := HFW.out.2 k (Nat.le_refl _) (by rw [HLEN.out]; omega); omega
                      have hne : ¬ (k : Int) = (R : Int) := by omega
                      clear hq
                      go_wp2
                      go_loop [10] (fun z => ∃ y' : Int, z = .int .i64 y' ∧ (p0 : Int) - 1 ≤ y' ∧ y' ≤ (R : Int) - 1) (fun z => (intOf z + 1).toNat)
                      case atStart => exact ⟨(R : Int) - 1, rfl, by omega, Int.le_refl _⟩
                      case round =>
                        obtain ⟨y', rfl, hy1, hy2⟩ := hrel
                        by_cases hyp : (p0 : Int) ≤ y'
                        · obtain ⟨k, rfl⟩ : ∃ k : Nat, y' = k := ⟨y'.toNat, by omega⟩
                          have ck := HAT.out.cell k (by omega)
                          obtain ⟨q, hq⟩ : ∃ q, (cutR l x y).getD k 0 = q := ⟨_, rfl⟩
                          rw [hq] at ck
                          have hqy : q > y := by have := HBW.out.2 k (by omega) (by rw [HLEN.out]; omega); omega
                          have hk0 : (k : Int) ≥ 0 := by omega
                          have hk1 : (k : Int) < (R : Int) := by omega
                          have hk2 : (0 : Int) ≤ k := by omega
                          have wk : IntKind.i64.wrap ((k : Int) - 1) = (k : Int) - 1 := IntWalk.i64_in _ (by omega)
                          clear hq
                          go_wp2
                          go_round
                          case rel => exact ⟨(k : Int) - 1, by go_num, by omega, by omega⟩
                          case measure => simp [intOf] <;> omega
                        · obtain rfl : y' = (p0 : Int) - 1 := by omega
                          have hneg : ¬ ((p0 : Int) - 1) ≥ 0 := by omega
                          have hneg2 : ((p0 : Int) - 1) < 0 := by omega
                          go_wp2
                          go_roundw
                          case rel =>
                            refine ⟨T, cutR l x y, idx2 M j p, idx2 M jr (M - 1 - j), acc ++ [(x, y)], _, _, _, _, rfl, rfl, rfl, rfl, by rw [HLEN.out]; omega, by simp; omega, HI.out.cut x y, fun h0' => ?_, HACN.out, HR6.out.from hz5, ?_, HNO.out, HK6.out⟩
                            · rw [HLEN.out] at h0' ⊢
                              rw [HIX.out.1, HIX.out.2.1]
                              rw [Nat.mod_eq_of_lt hjR, hpR, Nat.sub_zero, Nat.mod_self]
                              refine ⟨by omega, by omega, by omega, by omega⟩
                            · rw [List.map_append]
                              exact HSS6.out
                          case measure => simp [lenOf]; omega
              · have hjR : j0 = R := by omega
                by_cases hpR : 0 < p0
                · go_wp2
                  go_loop [9] (fun z => ∃ k : Nat, k ≤ j0 ∧ z = .int .i64 k) (fun z => j0 + 1 - (intOf z).toNat)
                  case atStart => exact ⟨0, Nat.zero_le _, rfl⟩
                  case round =>
                    obtain ⟨k, hk, rfl⟩ := hrel
                    by_cases hkj : k < j0
                    · have hk1 : (k : Int) < (R : Int) := by omega
                      have hk2 : (0 : Int) ≤ k := by omega
                      have ck := HAT.out.cell k (by omega)
                      obtain ⟨q, hq⟩ : ∃ q, (cutR l x y).getD k 0 = q := ⟨_, rfl⟩
                      rw [hq] at ck
                      have hqx : q < x := by have := HFW.out.1 k hkj; omega
                      clear hq
                      go_wp2
                      go_round
                      case rel => exact ⟨k + 1, by omega, by go_num⟩
                      case measure => simp [intOf] <;> omega
                    · have hkj0 : k = j0 := by omega
                      subst hkj0
                      have hk2 : (0 : Int) ≤ k := by omega
                      have hk1 : ¬ (k : Int) < (R : Int) := by omega
                      have hkR : (k : Int) = (R : Int) := by omega
                      go_wp2
                      go_loop [10] (fun z => ∃ y' : Int, z = .int .i64 y' ∧ (p0 : Int) - 1 ≤ y' ∧ y' ≤ (R : Int) - 1) (fun z => (intOf z + 1).toNat)
                      case atStart => exact ⟨(R : Int) - 1, rfl, by omega, Int.le_refl _⟩
                      case round =>
                        obtain ⟨y', rfl, hy1, hy2⟩ := hrel
                        by_cases hyp : (p0 : Int) ≤ y'
                        · obtain ⟨k, rfl⟩ : ∃ k : Nat, y' = k := ⟨y'.toNat, by omega⟩
                          have ck := HAT.out.cell k (by omega)
                          obtain ⟨q, hq⟩ : ∃ q, (cutR l x y).getD k 0 = q := ⟨_, rfl⟩
                          rw [hq] at ck
                          have hqy : q > y := by have := HBW.out.2 k (by omega) (by rw [HLEN.out]; omega); omega
                          have hk0 : (k : Int) ≥ 0 := by omega
                          have hk1 : (k : Int) < (R : Int) := by omega
                          have hk2 : (0 : Int) ≤ k := by omega
                          have wk : IntKind.i64.wrap ((k : Int) - 1) = (k : Int) - 1 := IntWalk.i64_in _ (by omega)
                          clear hq
                          go_wp2
                          go_round
                          case rel => exact ⟨(k : Int) - 1, by go_num, by omega, by omega⟩
                          case measure => simp [intOf] <;> omega
                        · obtain rfl : y' = (p0 : Int) - 1 := by omega
                          have hpd : (p0 : Int) - 1 = ((p0 - 1 : Nat) : Int) := by omega
                          have cd := HAT.out.cell (p0 - 1) (by omega)
                          obtain ⟨q, hq⟩ : ∃ q, (cutR l x y).getD (p0 - 1) 0 = q := ⟨_, rfl⟩
                          rw [hq] at cd
                          have hqy : ¬ q > y := by have := HBW.out.1 (p0 - 1) (by omega); omega
                          have g0 : ((p0 - 1 : Nat) : Int) ≥ 0 := by omega
                          have g1 : ((p0 - 1 : Nat) : Int) < (R : Int) := by omega
                          have g2 : ¬ ((p0 - 1 : Nat) : Int) < 0 := by omega
                          have g3 : (0 : Int) ≤ ((p0 - 1 : Nat) : Int) := by omega
                          rw [hpd]
                          clear hq hpd
                          go_wp2
                          go_roundw
                          case rel =>
                            refine ⟨T, cutR l x y, idx2 M j p, idx2 M jr (M - 1 - j), acc ++ [(x, y)], _, _, _, _, rfl, rfl, rfl, rfl, by rw [HLEN.out]; omega, by simp; omega, HI.out.cut x y, fun h0' => ?_, HACN.out, HR6.out.from hz5, ?_, HNO.out, HK6.out⟩
                            · rw [HLEN.out] at h0' ⊢
                              rw [HIX.out.1, HIX.out.2.1]
                              rw [hjR, Nat.mod_self, Nat.mod_eq_of_lt (by omega : R - p0 < R)]
                              refine ⟨by omega, by omega, by omega, by omega⟩
                            · rw [List.map_append]
                              exact HSS6.out
                          case measure => simp [lenOf]; omega
                · have hpR : p0 = 0 := by omega
                  go_wp2
                  go_loop [9] (fun z => ∃ k : Nat, k ≤ j0 ∧ z = .int .i64 k) (fun z => j0 + 1 - (intOf z).toNat)
                  case atStart => exact ⟨0, Nat.zero_le _, rfl⟩
                  case round =>
                    obtain ⟨k, hk, rfl⟩ := hrel
                    by_cases hkj : k < j0
                    · have hk1 : (k : Int) < (R : Int) := by omega
                      have hk2 : (0 : Int) ≤ k := by omega
                      have ck := HAT.out.cell k (by omega)
                      obtain ⟨q, hq⟩ : ∃ q, (cutR l x y).getD k 0 = q := ⟨_, rfl⟩
                      rw [hq] at ck
                      have hqx : q < x := by have := HFW.out.1 k hkj; omega
                      clear hq
                      go_wp2
                      go_round
                      case rel => exact ⟨k + 1, by omega, by go_num⟩
                      case measure => simp [intOf] <;> omega
                    · have hkj0 : k = j0 := by omega
                      subst hkj0
                      have hk2 : (0 : Int) ≤ k := by omega
                      have hk1 : ¬ (k : Int) < (R : Int) := by omega
                      have hkR : (k : Int) = (R : Int) := by omega
                      go_wp2
                      go_loop [10] (fun z => ∃ y' : Int, z = .int .i64 y' ∧ (p0 : Int) - 1 ≤ y' ∧ y' ≤ (R : Int) - 1) (fun z => (intOf z + 1).toNat)
                      case atStart => exact ⟨(R : Int) - 1, rfl, by omega, Int.le_refl _⟩
                      case round =>
                        obtain ⟨y', rfl, hy1, hy2⟩ := hrel
                        by_cases hyp : (p0 : Int) ≤ y'
                        · obtain ⟨k, rfl⟩ : ∃ k : Nat, y' = k := ⟨y'.toNat, by omega⟩
                          have ck := HAT.out.cell k (by omega)
                          obtain ⟨q, hq⟩ : ∃ q, (cutR l x y).getD k 0 = q := ⟨_, rfl⟩
                          rw [hq] at ck
                          have hqy : q > y := by have := HBW.out.2 k (by omega) (by rw [HLEN.out]; omega); omega
                          have hk0 : (k : Int) ≥ 0 := by omega
                          have hk1 : (k : Int) < (R : Int) := by omega
                          have hk2 : (0 : Int) ≤ k := by omega
                          have wk : IntKind.i64.wrap ((k : Int) - 1) = (k : Int) - 1 := IntWalk.i64_in _ (by omega)
                          clear hq
                          go_wp2
                          go_round
                          case rel => exact ⟨(k : Int) - 1, by go_num, by omega, by omega⟩
                          case measure => simp [intOf] <;> omega
                        · obtain rfl : y' = (p0 : Int) - 1 := by omega
                          have hneg : ¬ ((p0 : Int) - 1) ≥ 0 := by omega
                          have hneg2 : ((p0 : Int) - 1) < 0 := by omega
                          go_wp2
                          go_roundw
                          case rel =>
                            refine ⟨T, cutR l x y, idx2 M j p, idx2 M jr (M - 1 - j), acc ++ [(x, y)], _, _, _, _, rfl, rfl, rfl, rfl, by rw [HLEN.out]; omega, by simp; omega, HI.out.cut x y, fun h0' => ?_, HACN.out, HR6.out.from hz5, ?_, HNO.out, HK6.out⟩
                            · rw [HLEN.out] at h0' ⊢
                              rw [HIX.out.1, HIX.out.2.1]
                              rw [hjR, Nat.mod_self, hpR, Nat.sub_zero, Nat.mod_self]
                              refine ⟨by omega, by omega, by omega, by omega⟩
                            · rw [List.map_append]
                              exact HSS6.out
                          case measure => simp [lenOf]; omega
end Go.Proofs.Ytjlbillfbhkamaa
