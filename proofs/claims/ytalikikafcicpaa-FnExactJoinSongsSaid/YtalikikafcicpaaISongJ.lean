/- Songs in the program: turned, joined, the least one, the period; no condition. -/
import Derived.Test.YtalikikafcicpaaJoinS
import Derived.Test.YtalikikafcicpaaSoJ
namespace Go.Proofs.Ytalikikafcicpaa
open Go.ChangeShapes Go.WideShapes Go.ChangeAt Go.RowKit

set_option maxHeartbeats 1600000 in
theorem iTurnSong_any (g n B : Nat) (xs : List Int) (k : Int) (W : World) (hs : SlAt W B g n n xs) (hl : n ≤ 1048576) :
    Calls Try.prog 18 #[.agg #[.slice (some ⟨g, 0, none⟩) n n], .int .i64 k] W (SongB W (vTurnSong xs k).1 (vTurnSong xs k).2) := by
  have HS := Lib.hid hs
  have HN : Hid (xs.length = n) := Lib.hid hs.1
  rw [vTurnSong, hs.1]
  clear hs
  cases hb : sgB xs
  · rw [if_neg (by simp)]
    have HB := Lib.hid hb
    clear hb
    go_enter Try.func18, Try.ntmps18
    go_wp2_with (first | (refine (iIsSong_b _ n n xs _ (HS.out.sl.rd.nw ((Kp.al W _).nw (.al _ _))) HN.out (by omega) _ HB.out.symm).mono ?_; rintro e w1 ⟨rfl, hk1⟩; obtain ⟨kk1, hz1, cc1, rr1⟩ := song_open _ W w1 hk1; have HK1 := Lib.hid kk1; have HC1 := Lib.hid cc1; have HR1 := Lib.hid rr1; have hc1 := cc1.1; have hr1 := rr1.1; have hr2 := rr1.2; clear hk1 kk1 cc1 rr1))
    have z0 := one_set w1 (W.heap.size + 1) (.slice none 0 0) _ HR1.out.1; have HZ := Lib.hid (song_none 1 hz1 HK1.out); refine bodyPost_ret (v := .tuple #[.agg #[.slice none 0 0], .bool false]) (by simp [results, Try.results18, go_sem, z0]) rfl ⟨_, rfl, HZ.out.1, HZ.out.2⟩
  · have HB := Lib.hid hb
    obtain ⟨n1, n2⟩ := sgB_len hb
    rw [HN.out] at n1 n2
    clear hb
    by_cases hk : 0 ≤ k ∧ k ≤ (n : Int) - 1
    · rw [if_pos ⟨rfl, hk⟩]
      obtain ⟨k0, k1⟩ := hk
      obtain ⟨t, ht⟩ : ∃ t, k.toNat = t := ⟨_, rfl⟩
      obtain rfl : k = (t : Int) := by omega
      rw [Int.toNat_natCast]
      clear ht
      go_enter Try.func18, Try.ntmps18
      go_wp2_with (first | (refine (iIsSong_b _ n n xs _ (HS.out.sl.rd.nw ((Kp.al W _).nw (.al _ _))) HN.out (by omega) _ HB.out.symm).mono ?_; rintro e w1 ⟨rfl, hk1⟩; obtain ⟨kk1, hz1, cc1, rr1⟩ := song_open _ W w1 hk1; have HK1 := Lib.hid kk1; have HC1 := Lib.hid cc1; have HR1 := Lib.hid rr1; have hc1 := cc1.1; have hr1 := rr1.1; have hr2 := rr1.2; clear hk1 kk1 cc1 rr1) | ((with_reducible refine (within_yes _ _ _ _ k0 k1).mono ?_); rintro e w' ⟨rfl, rfl⟩))
      refine (turnSong_any g n B xs t _ (HS.out.kq8 HK1.out (fun h => h)) (by omega) n2).mono ?_
      rintro e w2 ⟨v2, rfl, hs2, hk2⟩
      obtain ⟨A2, c2, rfl⟩ := hs2.val (n := n) (by rw [rotS_length]; exact HN.out)
      obtain ⟨r0, r1⟩ := HR1.out.kp hk2 (fun h => h)
      have z0 := one_set w2 (W.heap.size + 1) (.slice A2 n c2) _ r0
      have HZ := Lib.hid (song_close 1 (hs2.from (by omega)) (HK1.out.nw hk2))
      clear hs2 hk2
      go_wp2
      refine bodyPost_ret (v := .tuple #[.agg #[.slice A2 n c2], .bool true]) (by simp [results, Try.results18, go_sem, z0]) rfl ⟨_, rfl, HZ.out.1, HZ.out.2⟩
    · rw [if_neg (fun h => hk h.2)]
      have hk' : k < 0 ∨ (n : Int) - 1 < k := by omega
      clear hk
      go_enter Try.func18, Try.ntmps18
      go_wp2_with (first | (refine (iIsSong_b _ n n xs _ (HS.out.sl.rd.nw ((Kp.al W _).nw (.al _ _))) HN.out (by omega) _ HB.out.symm).mono ?_; rintro e w1 ⟨rfl, hk1⟩; obtain ⟨kk1, hz1, cc1, rr1⟩ := song_open _ W w1 hk1; have HK1 := Lib.hid kk1; have HC1 := Lib.hid cc1; have HR1 := Lib.hid rr1; have hc1 := cc1.1; have hr1 := rr1.1; have hr2 := rr1.2; clear hk1 kk1 cc1 rr1) | ((with_reducible refine (within_no _ _ _ _ hk').mono ?_); rintro e w' ⟨rfl, rfl⟩))
      have z0 := one_set w1 (W.heap.size + 1) (.slice none 0 0) _ HR1.out.1; have HZ := Lib.hid (song_none 1 hz1 HK1.out); refine bodyPost_ret (v := .tuple #[.agg #[.slice none 0 0], .bool false]) (by simp [results, Try.results18, go_sem, z0]) rfl ⟨_, rfl, HZ.out.1, HZ.out.2⟩

set_option maxHeartbeats 1600000 in
theorem iSongPeriod_any (g n B : Nat) (xs : List Int) (W : World) (hs : SlAt W B g n n xs) (hl : n ≤ 1048576) :
    Calls Try.prog 22 #[.agg #[.slice (some ⟨g, 0, none⟩) n n]] W (IntB W (vPeriodS xs).1 (vPeriodS xs).2) := by
  have HS := Lib.hid hs
  have HN : Hid (xs.length = n) := Lib.hid hs.1
  rw [vPeriodS]
  clear hs
  cases hb : sgB xs
  · rw [if_neg (by simp)]
    have HB := Lib.hid hb
    clear hb
    go_enter Try.func22, Try.ntmps22
    go_wp2_with (first | (refine (iIsSong_b _ n n xs _ (HS.out.sl.rd.nw (.al W _)) HN.out (by omega) _ HB.out.symm).mono ?_; rintro e w1 ⟨rfl, hk1⟩; have HK1 := Lib.hid ((Kp.al W _).nw hk1); have HC1 := Lib.hid (keepc hk1 (Own1.new W _ 27).1 (fun h => h)); have hc1 := HC1.out; clear hk1))
    go_ret2
    exact ⟨rfl, HK1.out⟩
  · have HB := Lib.hid hb
    obtain ⟨n1, n2⟩ := sgB_len hb
    rw [HN.out] at n1 n2
    rw [if_pos rfl]
    clear hb
    go_enter Try.func22, Try.ntmps22
    go_wp2_with (first | (refine (iIsSong_b _ n n xs _ (HS.out.sl.rd.nw (.al W _)) HN.out (by omega) _ HB.out.symm).mono ?_; rintro e w1 ⟨rfl, hk1⟩; have HK1 := Lib.hid ((Kp.al W _).nw hk1); have HC1 := Lib.hid (keepc hk1 (Own1.new W _ 27).1 (fun h => h)); have hc1 := HC1.out; clear hk1))
    refine (periodOfSong_any g n B xs _ (HS.out.kq8 HK1.out (fun h => h)) n1 n2).mono ?_
    rintro e w2 ⟨rfl, hk2⟩
    have HK2 := Lib.hid (HK1.out.nw hk2)
    clear hk2
    go_wp2
    go_ret2
    exact ⟨rfl, HK2.out⟩


set_option maxHeartbeats 1600000 in
theorem iLeastSong_any (g n B : Nat) (xs : List Int) (W : World) (hs : SlAt W B g n n xs) (hl : n ≤ 1048576) :
    Calls Try.prog 20 #[.agg #[.slice (some ⟨g, 0, none⟩) n n]] W (SongB W (vLeast xs).1 (vLeast xs).2) := by
  have HS := Lib.hid hs
  have HN : Hid (xs.length = n) := Lib.hid hs.1
  rw [vLeast]
  clear hs
  cases hb : sgB xs
  · rw [if_neg (by simp)]
    have HB := Lib.hid hb
    clear hb
    go_enter Try.func20, Try.ntmps20
    go_wp2_with (first | (refine (iIsSong_b _ n n xs _ (HS.out.sl.rd.nw ((Kp.al W _).nw (.al _ _))) HN.out (by omega) _ HB.out.symm).mono ?_; rintro e w1 ⟨rfl, hk1⟩; obtain ⟨kk1, hz1, cc1, rr1⟩ := song_open _ W w1 hk1; have HK1 := Lib.hid kk1; have HC1 := Lib.hid cc1; have HR1 := Lib.hid rr1; have hc1 := cc1.1; have hr1 := rr1.1; have hr2 := rr1.2; clear hk1 kk1 cc1 rr1))
    have z0 := one_set w1 (W.heap.size + 1) (.slice none 0 0) _ HR1.out.1; have HZ := Lib.hid (song_none 1 hz1 HK1.out); refine bodyPost_ret (v := .tuple #[.agg #[.slice none 0 0], .bool false]) (by simp [results, Try.results20, go_sem, z0]) rfl ⟨_, rfl, HZ.out.1, HZ.out.2⟩
  · have HB := Lib.hid hb
    obtain ⟨n1, n2⟩ := sgB_len hb
    rw [HN.out] at n1 n2
    rw [if_pos rfl]
    obtain ⟨k, hk⟩ : ∃ k, leastS xs = k := ⟨_, rfl⟩
    have hr := leastS_rng (xs := xs) (by rw [HN.out]; exact n1)
    rw [hk, HN.out] at hr
    obtain ⟨r1, r2⟩ := hr
    have HV := Lib.hid hk
    have q6 := cut_to g n n k r2
    have k0 : (0 : Int) ≤ k := Int.natCast_nonneg _
    have k1 : (k : Int) ≤ n := by omega
    have k2 : ((k : Int)).toNat = k := by omega
    rw [hk]
    clear hb hk
    go_enter Try.func20, Try.ntmps20
    go_wp2_with (first | (refine (iIsSong_b _ n n xs _ (HS.out.sl.rd.nw ((Kp.al W _).nw (.al _ _))) HN.out (by omega) _ HB.out.symm).mono ?_; rintro e w1 ⟨rfl, hk1⟩; obtain ⟨kk1, hz1, cc1, rr1⟩ := song_open _ W w1 hk1; have HK1 := Lib.hid kk1; have HC1 := Lib.hid cc1; have HR1 := Lib.hid rr1; have hc1 := cc1.1; have hr1 := rr1.1; have hr2 := rr1.2; clear hk1 kk1 cc1 rr1))
    go_region_held3 (fun w' => Kp Nw W w' ∧ w'.cell? ⟨W.heap.size, 0, none⟩ = some (.slice (some ⟨g, 0, none⟩) n n))
      (first
        | exact ⟨HK1.out.drew, HC1.out.1⟩
        | exact ⟨hkW3.setCell (.inr (by show W.heap.size ≤ W.heap.size + 1; omega)) _, keepo _ _ _ _ _ hcW3 (by simp)⟩
        | exact ⟨hkW3, hcW3⟩
        | exact ⟨hkW2, hcW2⟩
        | fail)
      (first
        | (go_at_call 38
           refine (periodOfSong_any g n B xs _ (HS.out.kq8 (‹Kp Nw W _ ∧ _›.1) (fun h => h)) n1 n2).mono ?_
           rintro e w2 ⟨rfl, hk2⟩
           rw [HV.out]
           have hkW2 := (‹Kp Nw W _ ∧ _›.1).nw hk2
           have hcW2 := keepc hk2 (‹Kp Nw W _ ∧ _›.2) (fun h => h)
           have hrW2 := (HR1.out.kp (S := Nw) ((Kp.refl Nw _).drew) (fun h => h)).kp hk2 (fun h => h)
           have hzW2 : W.heap.size + 2 ≤ w2.heap.size := Nat.le_trans hz1 hk2.size)
        | (go_at_call 37
           refine (clone_any _ k _ (xs.take k) _ (Rd.nw' (HS.out.take k r2) hkW2) (by rw [List.length_take, HN.out]; omega) (by omega) (by omega)).mono ?_
           rintro e w3 ⟨v3, rfl, hs3, hk3⟩
           obtain ⟨A3, c3, rfl⟩ := hs3.val (n := k) (by rw [List.length_take]; have := HN.out; omega)
           have hkW3 := hkW2.nw hk3
           have hcW3 := keepc hk3 hcW2 (fun h => h)
           obtain ⟨hq1, hq2⟩ := hrW2.kp hk3 (fun h => h))
        | fail)
    have z0 := one_set w3 (W.heap.size + 1) (.slice A3 k c3) _ hq1
    have HZ := Lib.hid (song_close 1 (hs3.from (by omega)) hkW3)
    clear hs3 hk3 hkW3 hcW3 hkW2 hcW2 hrW2 hk2
    go_wp2
    refine bodyPost_ret (v := .tuple #[.agg #[.slice A3 k c3], .bool true]) (by simp [results, Try.results20, go_sem, z0]) rfl ⟨_, rfl, HZ.out.1, HZ.out.2⟩

/-- what it gives if there is a song -/
def ifS (A : Option Addr) (n c : Nat) : Bool → Value
  | true => .slice A n c
  | false => .slice none 0 0

set_option maxHeartbeats 800000 in
theorem ifSong_any (A : Option Addr) (n c : Nat) (xs : List Int) (W : World) (hu : Rd W (.slice A n c) xs) (hn : xs.length = n) (hl : n ≤ 2000000) (b : Bool) (hb : b = sgB xs) :
    Calls Try.prog 29 #[.agg #[.slice A n c]] W fun e w' => e = .returned (.tuple #[.agg #[ifS A n c b], .bool b]) ∧ Kp Nw W w' := by
  have HU := Lib.hid hu
  have HN := Lib.hid hn
  have HB := Lib.hid hb
  clear hu hn hb
  cases b
  · go_enter Try.func29, Try.ntmps29
    go_wp2_with (first | (refine (iIsSong_b _ n c xs _ (HU.out.nw ((Kp.al W _).nw (.al _ _))) HN.out hl _ HB.out).mono ?_; rintro e w1 ⟨rfl, hk1⟩; obtain ⟨kk1, hz1, cc1, rr1⟩ := song_open _ W w1 hk1; have HK1 := Lib.hid kk1; have HC1 := Lib.hid cc1; have HR1 := Lib.hid rr1; have hc1 := cc1.1; have hr1 := rr1.1; have hr2 := rr1.2; clear hk1 kk1 cc1 rr1))
    have z0 := one_set w1 (W.heap.size + 1) (.slice none 0 0) _ HR1.out.1
    refine bodyPost_ret (v := .tuple #[.agg #[.slice none 0 0], .bool false]) (by simp [results, Try.results29, go_sem, z0]) rfl ⟨rfl, HK1.out.setCell (.inr (by show W.heap.size ≤ W.heap.size + 1; omega)) _⟩
  · go_enter Try.func29, Try.ntmps29
    go_wp2_with (first | (refine (iIsSong_b _ n c xs _ (HU.out.nw ((Kp.al W _).nw (.al _ _))) HN.out hl _ HB.out).mono ?_; rintro e w1 ⟨rfl, hk1⟩; obtain ⟨kk1, hz1, cc1, rr1⟩ := song_open _ W w1 hk1; have HK1 := Lib.hid kk1; have HC1 := Lib.hid cc1; have HR1 := Lib.hid rr1; have hc1 := cc1.1; have hr1 := rr1.1; have hr2 := rr1.2; clear hk1 kk1 cc1 rr1))
    have z0 := one_set w1 (W.heap.size + 1) (.slice A n c) _ HR1.out.1
    refine bodyPost_ret (v := .tuple #[.agg #[.slice A n c], .bool true]) (by simp [results, Try.results29, go_sem, z0]) rfl ⟨rfl, HK1.out.setCell (.inr (by show W.heap.size ≤ W.heap.size + 1; omega)) _⟩

theorem sgB_append {xs ys : List Int} (hx : sgB xs = true) (hy : sgB ys = true) : sgB (xs ++ ys) = decide (xs.length + ys.length ≤ 20) := by
  have h1 := sgB_len hx
  have h2 := sgB_len hy
  have a1 : xs.all (okR 1 1000000) = true := by unfold sgB at hx; rw [Bool.and_eq_true] at hx; exact hx.2
  have a2 : ys.all (okR 1 1000000) = true := by unfold sgB at hy; rw [Bool.and_eq_true] at hy; exact hy.2
  unfold sgB
  rw [List.all_append, a1, a2, List.length_append]
  simp
  omega

set_option maxHeartbeats 3200000 in
theorem iJoinSongs_any (g n B : Nat) (xs : List Int) (h m C : Nat) (ys : List Int) (W : World) (hs : SlAt W B g n n xs) (ht : SlAt W C h m m ys) (hl : n ≤ 1048576) (hl2 : m ≤ 1048576) :
    Calls Try.prog 14 #[.agg #[.slice (some ⟨g, 0, none⟩) n n], .agg #[.slice (some ⟨h, 0, none⟩) m m]] W (SongB W (vJoinSongs xs ys).1 (vJoinSongs xs ys).2) := by
  have HS := Lib.hid hs
  have HN : Hid (xs.length = n) := Lib.hid hs.1
  have HT := Lib.hid ht
  have HM : Hid (ys.length = m) := Lib.hid ht.1
  rw [vJoinSongs, hs.1, ht.1]
  clear hs ht
  have n0 : (0 : Int) ≤ n := Int.natCast_nonneg _
  have m0 : (0 : Int) ≤ m := Int.natCast_nonneg _
  obtain ⟨q, hq⟩ : ∃ q, sgB xs = q := ⟨_, rfl⟩
  obtain ⟨r, hr⟩ : ∃ r, sgB ys = r := ⟨_, rfl⟩
  have HB := Lib.hid hq
  have HG2 := Lib.hid hr
  rw [hq, hr]
  cases q
  · rw [if_neg (by simp)]
    clear hq hr
    go_enter Try.func14, Try.ntmps14
    go_wp2_with (first | ((with_reducible refine (iIsSong_b _ n n xs _ (HS.out.sl.rd.nw (((Kp.al W _).nw (.al _ _)).nw (.al _ _))) HN.out (by omega) _ HB.out.symm).mono ?_); rintro e w1 ⟨rfl, hk1⟩; obtain ⟨kk1, hz1, cc1, dd1, rr1⟩ := songs_open3 _ _ W w1 hk1; have HK1 := Lib.hid kk1; have HC1 := Lib.hid cc1; have HD1 := Lib.hid dd1; have HR1 := Lib.hid rr1; have hc1 := cc1.1; have hd1 := dd1.1; obtain ⟨hr1, hr2⟩ := rr1; clear hk1 kk1 cc1 dd1))
    have z0 := one_set w1 (W.heap.size + 2) (.slice none 0 0) _ HR1.out.1; have HZ := Lib.hid (song_none 2 hz1 HK1.out); refine bodyPost_ret (v := .tuple #[.agg #[.slice none 0 0], .bool false]) (by simp [results, Try.results14, go_sem, z0]) rfl ⟨_, rfl, HZ.out.1, HZ.out.2⟩
  · cases r
    · rw [if_neg (by simp)]
      clear hq hr
      go_enter Try.func14, Try.ntmps14
      go_wp2_with (first | ((with_reducible refine (iIsSong_b _ n n xs _ (HS.out.sl.rd.nw (((Kp.al W _).nw (.al _ _)).nw (.al _ _))) HN.out (by omega) _ HB.out.symm).mono ?_); rintro e w1 ⟨rfl, hk1⟩; obtain ⟨kk1, hz1, cc1, dd1, rr1⟩ := songs_open3 _ _ W w1 hk1; have HK1 := Lib.hid kk1; have HC1 := Lib.hid cc1; have HD1 := Lib.hid dd1; have HR1 := Lib.hid rr1; have hc1 := cc1.1; have hd1 := dd1.1; obtain ⟨hr1, hr2⟩ := rr1; clear hk1 kk1 cc1 dd1) | ((with_reducible refine (iIsSong_b _ m m ys _ (HT.out.sl.rd.nw HK1.out) HM.out (by omega) _ HG2.out.symm).mono ?_); rintro e w2 ⟨rfl, hk2⟩; have HK2 := Lib.hid (HK1.out.nw hk2); have HC2 := Lib.hid (HC1.out.kp hk2 (fun h => h)); have HD2 := Lib.hid (HD1.out.kp hk2 (fun h => h)); have HR2 := Lib.hid (HR1.out.kp hk2 (fun h => h)); have hz2 : W.heap.size + 3 ≤ w2.heap.size := Nat.le_trans hz1 hk2.size; have hc2 := HC2.out.1; have hd2 := HD2.out.1; obtain ⟨hs1, hs2⟩ := HR2.out; clear hk2))
      have z0 := one_set w2 (W.heap.size + 2) (.slice none 0 0) _ HR2.out.1; have HZ := Lib.hid (song_none 2 hz2 HK2.out); refine bodyPost_ret (v := .tuple #[.agg #[.slice none 0 0], .bool false]) (by simp [results, Try.results14, go_sem, z0]) rfl ⟨_, rfl, HZ.out.1, HZ.out.2⟩
    · obtain ⟨n1, n2⟩ := sgB_len hq
      obtain ⟨m1, m2⟩ := sgB_len hr
      rw [HN.out] at n1 n2
      rw [HM.out] at m1 m2
      clear hq hr
      obtain ⟨b, hb⟩ : ∃ b, decide (n + m ≤ 20) = b := ⟨_, rfl⟩
      have HBB : Hid (b = sgB (xs ++ ys)) := Lib.hid (by rw [sgB_append HB.out HG2.out, HN.out, HM.out, hb])
      have HV : Hid ((if true = true ∧ true = true ∧ n + m ≤ 20 then (xs ++ ys, true) else ([], false)) = (if b = true then (xs ++ ys, true) else (([] : List Int), false))) := Lib.hid (by
        by_cases h : n + m ≤ 20
        · rw [if_pos ⟨rfl, rfl, h⟩, ← hb, decide_eq_true h, if_pos rfl]
        · rw [if_neg (fun e => h e.2.2), ← hb, decide_eq_false h, if_neg (by simp)])
      rw [HV.out]
      obtain ⟨z, hz⟩ : ∃ z : List Int × Bool, (if b = true then (xs ++ ys, true) else (([] : List Int), false)) = z := ⟨_, rfl⟩
      have HZZ := Lib.hid hz
      rw [hz]
      clear hb hz HV
      go_enter Try.func14, Try.ntmps14
      go_wp2_with (first | ((with_reducible refine (iIsSong_b _ n n xs _ (HS.out.sl.rd.nw (((Kp.al W _).nw (.al _ _)).nw (.al _ _))) HN.out (by omega) _ HB.out.symm).mono ?_); rintro e w1 ⟨rfl, hk1⟩; obtain ⟨kk1, hz1, cc1, dd1, rr1⟩ := songs_open3 _ _ W w1 hk1; have HK1 := Lib.hid kk1; have HC1 := Lib.hid cc1; have HD1 := Lib.hid dd1; have HR1 := Lib.hid rr1; have hc1 := cc1.1; have hd1 := dd1.1; obtain ⟨hr1, hr2⟩ := rr1; clear hk1 kk1 cc1 dd1) | ((with_reducible refine (iIsSong_b _ m m ys _ (HT.out.sl.rd.nw HK1.out) HM.out (by omega) _ HG2.out.symm).mono ?_); rintro e w2 ⟨rfl, hk2⟩; have HK2 := Lib.hid (HK1.out.nw hk2); have HC2 := Lib.hid (HC1.out.kp hk2 (fun h => h)); have HD2 := Lib.hid (HD1.out.kp hk2 (fun h => h)); have HR2 := Lib.hid (HR1.out.kp hk2 (fun h => h)); have hz2 : W.heap.size + 3 ≤ w2.heap.size := Nat.le_trans hz1 hk2.size; have hc2 := HC2.out.1; have hd2 := HD2.out.1; obtain ⟨hs1, hs2⟩ := HR2.out; clear hk2))
      refine (joinSongs_any _ (fun j => if j = 0 then .slice (some ⟨g, 0, none⟩) n n else .slice (some ⟨h, 0, none⟩) m m) (fun j => if j = 0 then xs else ys) _
        (fun j hj => by
          rcases (show j = 0 ∨ j = 1 by omega) with rfl | rfl
          · exact (two_new _ _ _ _ _ (by simp) 0).trans rfl
          · exact (two_new _ _ _ _ _ (by simp) 1).trans rfl)
        (fun j hj => by
          have hn := HN.out
          have hm := HM.out
          rcases (show j = 0 ∨ j = 1 by omega) with rfl | rfl
          · exact ⟨HS.out.sl.rd.nw (HK2.out.nw (.al _ _)), HS.out.sl.vn, by show xs.length ≤ 1000; omega⟩
          · exact ⟨HT.out.sl.rd.nw (HK2.out.nw (.al _ _)), HT.out.sl.vn, by show ys.length ≤ 1000; omega⟩)).mono ?_
      rintro e w3 ⟨v3, rfl, hs3, hk3⟩
      have hs3' : Sl w3 (W.heap.size + 3) v3 (xs ++ ys) := by
        have := hs3.from (B' := W.heap.size + 3) (by simp only [World.size_alloc]; omega)
        exact this
      obtain ⟨A3, c3, rfl⟩ := hs3'.val (n := n + m) (by rw [List.length_append, HN.out, HM.out])
      have HS3 := Lib.hid hs3'
      have HK3 := Lib.hid ((HK2.out.nw (.al _ _)).nw hk3)
      have HR3 := Lib.hid ((HR2.out.kp (.al w2 (.cells #[.slice (some ⟨g, 0, none⟩) n n, .slice (some ⟨h, 0, none⟩) m m] 27)) (fun h => h)).kp hk3 (fun h => h))
      clear hs3 hk3 hs3' hc2 hd2 hs1 hs2
      go_wp2_with fail
      refine (ifSong_any A3 (n + m) c3 (xs ++ ys) _ HS3.out.rd (by rw [List.length_append, HN.out, HM.out]) (by omega) b HBB.out).mono ?_
      rintro e w4 ⟨rfl, hk4⟩
      have HK4 := Lib.hid (HK3.out.nw hk4)
      have HS4 := Lib.hid (HS3.out.below hk4.below')
      obtain ⟨q1, q2⟩ := HR3.out.kp hk4 (fun h => h)
      have hz4 : W.heap.size + 3 ≤ w4.heap.size := World.block_lt_of_cell? _ ⟨W.heap.size + 2, 0, none⟩ q1
      clear hk4
      cases b
      · have ez : z = ([], false) := HZZ.out.symm
        subst ez
        simp only [ifS]
        have z0 := one_set w4 (W.heap.size + 2) (.slice none 0 0) _ q1
        have HZ := Lib.hid (song_none 2 hz4 HK4.out)
        go_wp2
        refine bodyPost_ret (v := .tuple #[.agg #[.slice none 0 0], .bool false]) (by simp [results, Try.results14, go_sem, z0]) rfl ⟨_, rfl, HZ.out.1, HZ.out.2⟩
      · have ez : z = (xs ++ ys, true) := HZZ.out.symm
        subst ez
        simp only [ifS]
        have z0 := one_set w4 (W.heap.size + 2) (.slice A3 (n + m) c3) _ q1
        have HZ := Lib.hid (song_close 2 HS4.out HK4.out)
        go_wp2
        refine bodyPost_ret (v := .tuple #[.agg #[.slice A3 (n + m) c3], .bool true]) (by simp [results, Try.results14, go_sem, z0]) rfl ⟨_, rfl, HZ.out.1, HZ.out.2⟩
end Go.Proofs.Ytalikikafcicpaa
