/- Songs in the model: two songs, one behind the other. -/
import Derived.Test.YtalikikafcicpaaSoM
namespace Go.Proofs.Ytalikikafcicpaa
open Go.ChangeShapes Go.WideShapes Go.ChangeAt Go.RowKit

/-- two songs boxed, a cell for the result -/
theorem songs_open3 (x y : Value) (W w1 : World) (hk : Kp Nw (((W.alloc (.cells #[x] 27)).alloc (.cells #[y] 27)).alloc (.cells #[.slice none 0 0] 27)) w1) :
    Kp Nw W w1 ∧ W.heap.size + 3 ≤ w1.heap.size ∧ Own1 w1 W.heap.size x ∧ Own1 w1 (W.heap.size + 1) y ∧ Own1 w1 (W.heap.size + 2) (.slice none 0 0) := by
  refine ⟨(((Kp.al W _).nw (.al _ _)).nw (.al _ _)).nw hk, by have := hk.size; simp only [World.size_alloc] at this; exact this, (((Own1.new W x 27).kp (.al _ _) (fun h => h)).kp (.al _ _) (fun h => h)).kp hk (fun h => h), ?_, ?_⟩
  · have h := ((Own1.new (W.alloc (.cells #[x] 27)) y 27).kp (.al _ _) (fun h => h)).kp hk (fun h => h)
    simpa only [World.size_alloc] using h
  · have h := (Own1.new ((W.alloc (.cells #[x] 27)).alloc (.cells #[y] 27)) (.slice none 0 0) 27).kp hk (fun h => h)
    simpa only [World.size_alloc] using h
def vJoinSongs (xs ys : List Int) : List Int × Bool := if sgB xs = true ∧ sgB ys = true ∧ xs.length + ys.length ≤ 20 then (xs ++ ys, true) else ([], false)
theorem vJoinSongs_len (xs ys : List Int) : (vJoinSongs xs ys).1.length ≤ 1000000 := by
  unfold vJoinSongs
  split
  · rename_i h; simp only [List.length_append]; omega
  · exact Nat.zero_le _

set_option maxRecDepth 100000 in
set_option maxHeartbeats 3200000 in
theorem sJoinSongs_any (g n B : Nat) (xs : List Int) (h m C : Nat) (ys : List Int) (W : World) (hs : SlAt W B g n n xs) (ht : SlAt W C h m m ys) (hl : n ≤ 1048576) (hl2 : m ≤ 1048576) :
    Calls Try.prog 13 #[.agg #[.slice (some ⟨g, 0, none⟩) n n], .agg #[.slice (some ⟨h, 0, none⟩) m m]] W (SongB W (vJoinSongs xs ys).1 (vJoinSongs xs ys).2) := by
  have HS := Lib.hid hs
  have HN : Hid (xs.length = n) := Lib.hid hs.1
  have HT := Lib.hid ht
  have HM : Hid (ys.length = m) := Lib.hid ht.1
  rw [vJoinSongs, hs.1, ht.1]
  clear hs ht
  have n0 : (0 : Int) ≤ n := Int.natCast_nonneg _
  have m0 : (0 : Int) ≤ m := Int.natCast_nonneg _
  obtain ⟨q, hq⟩ : ∃ q, sgB xs = q := ⟨_, rfl⟩
  obtain ⟨r, hr⟩ : ∃ r, sgB ys = r := ⟨_, rfl⟩
  have HB := Lib.hid hq
  have HG2 := Lib.hid hr
  rw [hq, hr]
  cases q
  · rw [if_neg (by simp)]
    clear hq hr
    go_enter Try.func13, Try.ntmps13
    go_wp2_with (first | ((with_reducible refine (soGood_any _ n n xs _ (HS.out.sl.rd.nw (((Kp.al W _).nw (.al _ _)).nw (.al _ _))) HN.out (by omega) _ HB.out.symm).mono ?_); rintro e w1 ⟨rfl, hk1⟩; obtain ⟨kk1, hz1, cc1, dd1, rr1⟩ := songs_open3 _ _ W w1 hk1; have HK1 := Lib.hid kk1; have HC1 := Lib.hid cc1; have HD1 := Lib.hid dd1; have HR1 := Lib.hid rr1; have hc1 := cc1.1; have hd1 := dd1.1; obtain ⟨hr1, hr2⟩ := rr1; clear hk1 kk1 cc1 dd1))
    have z0 := one_set w1 (W.heap.size + 2) (.slice none 0 0) _ HR1.out.1; have HZ := Lib.hid (song_none 2 hz1 HK1.out); refine bodyPost_ret (v := .tuple #[.agg #[.slice none 0 0], .bool false]) (by simp [results, Try.results13, go_sem, z0]) rfl ⟨_, rfl, HZ.out.1, HZ.out.2⟩
  · cases r
    · rw [if_neg (by simp)]
      clear hq hr
      go_enter Try.func13, Try.ntmps13
      go_wp2_with (first | ((with_reducible refine (soGood_any _ n n xs _ (HS.out.sl.rd.nw (((Kp.al W _).nw (.al _ _)).nw (.al _ _))) HN.out (by omega) _ HB.out.symm).mono ?_); rintro e w1 ⟨rfl, hk1⟩; obtain ⟨kk1, hz1, cc1, dd1, rr1⟩ := songs_open3 _ _ W w1 hk1; have HK1 := Lib.hid kk1; have HC1 := Lib.hid cc1; have HD1 := Lib.hid dd1; have HR1 := Lib.hid rr1; have hc1 := cc1.1; have hd1 := dd1.1; obtain ⟨hr1, hr2⟩ := rr1; clear hk1 kk1 cc1 dd1) | ((with_reducible refine (soGood_any _ m m ys _ (HT.out.sl.rd.nw HK1.out) HM.out (by omega) _ HG2.out.symm).mono ?_); rintro e w2 ⟨rfl, hk2⟩; have HK2 := Lib.hid (HK1.out.nw hk2); have HC2 := Lib.hid (HC1.out.kp hk2 (fun h => h)); have HD2 := Lib.hid (HD1.out.kp hk2 (fun h => h)); have HR2 := Lib.hid (HR1.out.kp hk2 (fun h => h)); have hz2 : W.heap.size + 3 ≤ w2.heap.size := Nat.le_trans hz1 hk2.size; have hc2 := HC2.out.1; have hd2 := HD2.out.1; obtain ⟨hs1, hs2⟩ := HR2.out; clear hk2))
      have z0 := one_set w2 (W.heap.size + 2) (.slice none 0 0) _ HR2.out.1; have HZ := Lib.hid (song_none 2 hz2 HK2.out); refine bodyPost_ret (v := .tuple #[.agg #[.slice none 0 0], .bool false]) (by simp [results, Try.results13, go_sem, z0]) rfl ⟨_, rfl, HZ.out.1, HZ.out.2⟩
    · obtain ⟨n1, n2⟩ := sgB_len hq
      obtain ⟨m1, m2⟩ := sgB_len hr
      rw [HN.out] at n1 n2
      rw [HM.out] at m1 m2
      clear hq hr
      have w1 : IntKind.i64.wrap ((n : Int) + (m : Int)) = (n : Int) + (m : Int) := IntWalk.i64_in _ (by omega)
      by_cases hnm : n + m ≤ 20
      · rw [if_pos ⟨rfl, rfl, hnm⟩]
        have k1 : (n : Int) + (m : Int) ≤ 20 := by omega
        have k2 : ¬ 20 < (n : Int) + (m : Int) := by omega
        have T1 := Lib.hid (fun (w : World) (hk : Kp Nw W w) => l1Own_any (.slice (some ⟨g, 0, none⟩) n n) xs w (HS.out.sl.rd.nw hk) (fun e => by have h9 := HN.out; rw [e] at h9; simp at h9; omega) (by have := HN.out; omega))
        have HVM : Hid (Vn (.slice (some ⟨h, 0, none⟩) m m) ys) := Lib.hid (fun e => by have h9 := HM.out; rw [e] at h9; simp at h9; omega)
        have HLN : Hid ((xs ++ ys).length = n + m) := Lib.hid (by rw [List.length_append, HN.out, HM.out])
        have HLS : Hid (xs.length + ys.length ≤ 1000000) := Lib.hid (by have := HN.out; have := HM.out; omega)
        go_enter Try.func13, Try.ntmps13
        go_wp2_with (first | ((with_reducible refine (soGood_any _ n n xs _ (HS.out.sl.rd.nw (((Kp.al W _).nw (.al _ _)).nw (.al _ _))) HN.out (by omega) _ HB.out.symm).mono ?_); rintro e w1 ⟨rfl, hk1⟩; obtain ⟨kk1, hz1, cc1, dd1, rr1⟩ := songs_open3 _ _ W w1 hk1; have HK1 := Lib.hid kk1; have HC1 := Lib.hid cc1; have HD1 := Lib.hid dd1; have HR1 := Lib.hid rr1; have hc1 := cc1.1; have hd1 := dd1.1; obtain ⟨hr1, hr2⟩ := rr1; clear hk1 kk1 cc1 dd1) | ((with_reducible refine (soGood_any _ m m ys _ (HT.out.sl.rd.nw HK1.out) HM.out (by omega) _ HG2.out.symm).mono ?_); rintro e w2 ⟨rfl, hk2⟩; have HK2 := Lib.hid (HK1.out.nw hk2); have HC2 := Lib.hid (HC1.out.kp hk2 (fun h => h)); have HD2 := Lib.hid (HD1.out.kp hk2 (fun h => h)); have HR2 := Lib.hid (HR1.out.kp hk2 (fun h => h)); have hz2 : W.heap.size + 3 ≤ w2.heap.size := Nat.le_trans hz1 hk2.size; have hc2 := HC2.out.1; have hd2 := HD2.out.1; obtain ⟨hs1, hs2⟩ := HR2.out; clear hk2))
        go_region_held3 (fun w' => Kp Nw W w' ∧ w'.cell? ⟨W.heap.size, 0, none⟩ = some (.slice (some ⟨g, 0, none⟩) n n) ∧ w'.cell? ⟨W.heap.size + 1, 0, none⟩ = some (.slice (some ⟨h, 0, none⟩) m m))
          (first
            | exact ⟨HK2.out.drew, HC2.out.1, HD2.out.1⟩
            | exact ⟨hkW4.setCell (.inr (by show W.heap.size ≤ W.heap.size + 2; omega)) _, keepo _ _ _ _ _ hcW4 (by show W.heap.size + 2 ≠ W.heap.size; omega), keepo _ _ _ _ _ hdW4 (by show W.heap.size + 2 ≠ W.heap.size + 1; omega)⟩
            | exact ⟨hkW4, hcW4, hdW4⟩
            | exact ⟨hkW3, hcW3, hdW3⟩
            | fail)
          (first
            | (go_at_call 28
               refine (T1.out _ (‹Kp Nw W _ ∧ _›.1)).mono ?_
               rintro e w3 ⟨v3, rfl, hs3, hk3⟩
               have hkW3 := (‹Kp Nw W _ ∧ _›.1).nw hk3
               have hcW3 := keepc hk3 (‹Kp Nw W _ ∧ _ ∧ _›.2.1) (fun h => h)
               have hdW3 := keepc hk3 (‹Kp Nw W _ ∧ _ ∧ _›.2.2) (fun h => h)
               have hrW3 := (HR2.out.kp (S := Nw) ((Kp.refl Nw _).drew) (fun h => h)).kp hk3 (fun h => h)
               have hzW3 : W.heap.size + 3 ≤ w3.heap.size := Nat.le_trans hz2 hk3.size)
            | (refine step_app _ (by rfl) (.tmp 27) (.tmp 29) (by rfl) (W.heap.size + 3) v3 _ xs ys (by rfl) (by rfl) (hs3.from hz2) (HT.out.sl.rd.nw hkW3) HVM.out (by have := HLS.out; omega) hzW3 ?_
               intro v4 w4 hs4 hk4 _
               obtain ⟨A4, c4, rfl⟩ := hs4.val (n := n + m) HLN.out
               have hkW4 := hkW3.after hk4 (fun gg hlt e => by have := (hs3.own_ge gg e).1; simp at this; omega)
               have hcW4 := keepc hk4 hcW3 (fun e => by have := ((hs3.from hz2).own_ge _ e).1; simp only [] at this; omega)
               have hdW4 := keepc hk4 hdW3 (fun e => by have := ((hs3.from hz2).own_ge _ e).1; simp only [] at this; omega)
               obtain ⟨hr5, hr6⟩ := hrW3.kp hk4 (fun e => by have := ((hs3.from hz2).own_ge _ e).1; omega))
            | fail)
        have z0 := one_set w4 (W.heap.size + 2) (.slice A4 (n + m) c4) _ hr5
        have HZ := Lib.hid (song_close 2 hs4 hkW4)
        clear hs3 hk3 hkW3 hcW3 hdW3 hrW3 hs4 hk4 hkW4 hcW4 hdW4
        go_wp2
        refine bodyPost_ret (v := .tuple #[.agg #[.slice A4 (n + m) c4], .bool true]) (by simp [results, Try.results13, go_sem, z0]) rfl ⟨_, rfl, HZ.out.1, HZ.out.2⟩
      · rw [if_neg (fun e => hnm e.2.2)]
        have k1 : 20 < (n : Int) + (m : Int) := by omega
        go_enter Try.func13, Try.ntmps13
        go_wp2_with (first | ((with_reducible refine (soGood_any _ n n xs _ (HS.out.sl.rd.nw (((Kp.al W _).nw (.al _ _)).nw (.al _ _))) HN.out (by omega) _ HB.out.symm).mono ?_); rintro e w1 ⟨rfl, hk1⟩; obtain ⟨kk1, hz1, cc1, dd1, rr1⟩ := songs_open3 _ _ W w1 hk1; have HK1 := Lib.hid kk1; have HC1 := Lib.hid cc1; have HD1 := Lib.hid dd1; have HR1 := Lib.hid rr1; have hc1 := cc1.1; have hd1 := dd1.1; obtain ⟨hr1, hr2⟩ := rr1; clear hk1 kk1 cc1 dd1) | ((with_reducible refine (soGood_any _ m m ys _ (HT.out.sl.rd.nw HK1.out) HM.out (by omega) _ HG2.out.symm).mono ?_); rintro e w2 ⟨rfl, hk2⟩; have HK2 := Lib.hid (HK1.out.nw hk2); have HC2 := Lib.hid (HC1.out.kp hk2 (fun h => h)); have HD2 := Lib.hid (HD1.out.kp hk2 (fun h => h)); have HR2 := Lib.hid (HR1.out.kp hk2 (fun h => h)); have hz2 : W.heap.size + 3 ≤ w2.heap.size := Nat.le_trans hz1 hk2.size; have hc2 := HC2.out.1; have hd2 := HD2.out.1; obtain ⟨hs1, hs2⟩ := HR2.out; clear hk2))
        have z0 := one_set w2 (W.heap.size + 2) (.slice none 0 0) _ HR2.out.1; have HZ := Lib.hid (song_none 2 hz2 HK2.out); refine bodyPost_ret (v := .tuple #[.agg #[.slice none 0 0], .bool false]) (by simp [results, Try.results13, go_sem, z0]) rfl ⟨_, rfl, HZ.out.1, HZ.out.2⟩
end Go.Proofs.Ytalikikafcicpaa
