/- SongText: the text of a song, in the program and in its model, and the law: in a world that holds the table of the powers of ten it returns true at all songs, whatever their numbers; no other condition. -/
import Derived.Test.YtpajmgonceepoaaDoorItoa
import Derived.Test.YtpajmgonceepoaaDoorSingI
import Derived.Test.YtpajmgonceepoaaDoorSoM
namespace Go.Proofs.YtpajmgonceepoaaDoor
open Go.ChangeShapes Go.WideShapes Go.ChangeAt Go.RowKit

theorem sg_all {xs : List Int} (h : sgB xs = true) : ∀ x ∈ xs, 0 ≤ x ∧ x ≤ 1000000 := by
  intro x hx
  obtain ⟨i, hi, rfl⟩ := List.getElem_of_mem hx
  have := sgB_get h i hi
  simp [List.getD, hi] at this
  omega
/-- the counts' digits with a sign between them -/
def songTx (xs : List Int) : List UInt8 := Lib.join (xs.map dgs) [45]

theorem songTx_nil : songTx [] = [] := rfl

theorem songTx_one (x : Int) : songTx [x] = dgs x := Lib.join_one _ _

theorem songTx_snoc (xs : List Int) (x : Int) (h : xs ≠ []) : songTx (xs ++ [x]) = songTx xs ++ [45] ++ dgs x := by
  cases xs with
  | nil => exact absurd rfl h
  | cons y r =>
    unfold songTx
    simp only [List.map_append, List.map_cons, List.map_nil, List.cons_append]
    rw [Lib.join_cons, Lib.join_cons]
    simp [Lib.joinTail]

theorem songTx_length : ∀ (xs : List Int), (∀ x ∈ xs, x ≤ 1000000) → (songTx xs).length ≤ xs.length * 21 := by
  intro xs h
  unfold songTx
  cases xs with
  | nil => simp [Lib.join_nil]
  | cons y r =>
    rw [List.map_cons, Lib.join_cons, List.length_append]
    have hy := dgs_length y (by have := h y (by simp); omega)
    have key : ∀ (r : List Int), (∀ x ∈ r, x ≤ 1000000) → (Lib.joinTail [45] (r.map dgs)).length ≤ r.length * 21 := by
      intro r
      induction r with
      | nil => intro _; simp [Lib.joinTail]
      | cons z s ih =>
        intro hz
        have h1 := ih (fun x hx => hz x (by simp [hx]))
        have h2 := dgs_length z (by have := hz z (by simp); omega)
        simp only [Lib.joinTail, List.map_cons, List.flatten_cons, List.length_append, List.length_cons, List.length_nil] at h1 ⊢
        omega
    have := key r (fun x hx => h x (by simp [hx]))
    simp only [List.length_cons]
    omega

theorem join8_any (L n : Nat) (ls : List (List UInt8)) (w : World) (h : Ss w L n ls) (hn : n ≤ 1000) (hl : (Lib.join ls [45]).length ≤ 100000) :
    Calls Tryd.prog 31 #[.slice (some ⟨L, 0, none⟩) n n, .string ⟨#[45]⟩] w fun e w' => e = .returned (.string ⟨(Lib.join ls [45]).toArray⟩) ∧ Kp Nw w w' := by
  obtain ⟨ys, hys⟩ : ∃ ys : List ByteArray, ys = ls.map fun l => ByteArray.mk l.toArray := ⟨_, rfl⟩
  have hm : ys.map (·.data.toList) = ls := by rw [hys, List.map_map]; simp [Function.comp_def]
  have hlen : ys.length = n := by rw [hys, List.length_map]; exact h.1
  have hc : ∀ (j : Nat) x, ys[j]? = some x → w.cell? ⟨L, 0 + j, none⟩ = some (.string x) := by
    intro j x hx
    have hj : j < n := by
      rcases Nat.lt_or_ge j ys.length with a | a
      · omega
      · rw [List.getElem?_eq_none a] at hx; cases hx
    have hj' : j < ls.length := by rw [h.1]; exact hj
    rw [Nat.zero_add, h.cell j hj]
    rw [hys, List.getElem?_map, List.getElem?_eq_getElem hj', Option.map_some, Option.some.injEq] at hx
    subst hx
    simp [strV, hj']
  have es : (ByteArray.mk #[45]).data.toList = [45] := rfl
  have J := Tryd.strings_Join L 0 n ys ⟨#[45]⟩ w hc h.lt (by omega) (by omega) (by rw [hm, es]; omega)
  rw [hm, es, hlen] at J
  exact J.mono fun e w' he => ⟨he.1, Kp.of_below he.2⟩

set_option maxRecDepth 100000 in
set_option maxHeartbeats 1600000 in
theorem joinNums8_any (g n B : Nat) (xs : List Int) (W : World) (hs : SlAt W B g n n xs) (hT : Tab W) (n1 : 1 ≤ n) (n2 : n ≤ 20) (hall : ∀ x ∈ xs, 0 ≤ x ∧ x ≤ 1000000) :
    Calls Tryd.prog 19 #[.slice (some ⟨g, 0, none⟩) n n, .string ⟨#[45]⟩] W fun e w' => e = .returned (.string ⟨(songTx xs).toArray⟩) ∧ Kp Nw W w' := by
  obtain ⟨i0, hi0, hz0, hz1, hz2⟩ := info_parts strInfo
  have HS0 := Lib.hid hs
  have HT := Lib.hid hT
  have hn := hs.1
  have HN := Lib.hid hn
  have HALL := Lib.hid hall
  clear hs hT hn hall
  go_enter Tryd.func19, Tryd.ntmps19
  go_wp2_with (first | (at_make; refine wpList_make_full _ rfl _ _ 48 rfl W.heap.size 9 i0 (.string ⟨#[]⟩) 1 Tryd.underlying48 hi0 hz0 hz1 _ _ _ _ n rfl rfl rfl rfl (by rw [hz2]; omega) (by unfold maxLen; omega) (Nat.le_refl _) ?_))
  intro w1 hown hgrow
  have hk1 : Kp Nw W w1 := (Kp.refl _ _).grown hgrow (fun g hg => by cases hg)
  have HS := Lib.hid (Ss.made hown)
  have HK := Lib.hid hk1
  clear hown hgrow hk1
  go_wp2
  go_loopw [6, 7, 13] (fun _ _ i wr => ∃ j : Nat, j ≤ n ∧ i = .int .i64 j ∧ Ss wr W.heap.size n (fill (xs.map dgs) (List.replicate n []) j) ∧ Kp Nw W wr) (fun _ _ i _ => n - (intOf i).toNat)
  case atStart => exact ⟨0, Nat.zero_le _, rfl, by rw [fill_zero]; exact HS.out, HK.out⟩
  case round =>
    rename_i wr
    obtain ⟨j, hj, rfl, hs, hk⟩ := hrel
    by_cases hlt : j < n
    · have c := keepc hk (HS0.out.cell j hlt) (fun h => h)
      obtain ⟨y, hy⟩ : ∃ y, xs.getD j 0 = y := ⟨_, rfl⟩
      have hl' : j < xs.length := by rw [HN.out]; exact hlt
      have hx : xs[j] = y := by rw [← hy]; simp [hl']
      rw [hy] at c
      have hb := HALL.out y (by rw [← hx]; exact List.getElem_mem _)
      obtain ⟨m, rfl⟩ : ∃ m : Nat, y = m := ⟨y.toNat, by omega⟩
      have HX := Lib.hid hy
      have H := Lib.hid hs
      have HK2 := Lib.hid hk
      have j0 : (0 : Int) ≤ j := Int.natCast_nonneg _
      have j1 : (j : Int) < n := by omega
      have m9 : m ≤ 1000000 := by omega
      have hz := hs.lt
      clear hs HS hk HK hy hx hb hl'
      go_wp2_with fail
      refine (itoa_any m _ (HT.out.nw HK2.out) (by omega)).mono ?_
      rintro e w2 ⟨rfl, hk2⟩
      have H2 := Lib.hid (H.out.kp hk2 (fun h => h))
      have HK3 := Lib.hid (HK2.out.nw hk2)
      have s0 := H2.out.cell j hlt
      have f0 := H2.out.frozen j
      clear hk2
      go_wp2
      go_roundw
      case rel =>
        refine ⟨j + 1, by omega, by go_num, ?_, HK3.out.setCell (.inr (Nat.le_refl _)) _⟩
        have h2 := H2.out.store j (Lib.decDigits m)
        rw [fill_set (xs.map dgs) _ j (Lib.decDigits m) (by simp [HN.out]) (by simp [HN.out]; exact hlt) (by rw [strs_get xs j (by rw [HN.out]; exact hlt), HX.out]; simp [dgs])] at h2
        exact h2
      case measure => simp [intOf]; omega
    · have e : j = n := by omega
      subst e
      have hn1 := HN.out
      rw [show fill (xs.map dgs) (List.replicate j []) j = xs.map dgs by
        have := fill_all (xs.map dgs) (List.replicate j []) (by simp [hn1])
        rwa [List.length_map, hn1] at this] at hs
      have H := Lib.hid hs
      have HK2 := Lib.hid hk
      have hz := hs.lt
      have hl := songTx_length xs (fun x hx => by have := (HALL.out x hx).2; omega)
      rw [hn1] at hl
      clear hs HS hk HK
      go_wp2_with fail
      refine (join8_any W.heap.size j (xs.map dgs) _ H.out (by omega) ?_).mono ?_
      · have := hl; unfold songTx at this; omega
      rintro e w2 ⟨rfl, hk2⟩
      have HK3 := Lib.hid (HK2.out.nw hk2)
      clear hk2
      go_wp2
      go_ret
      exact ⟨rfl, HK3.out⟩

set_option maxRecDepth 100000 in
set_option maxHeartbeats 1600000 in
theorem soText_any (g n : Nat) (xs : List Int) (B : Nat) (W : World) (hs : SlAt W B g n n xs) (hb : sgB xs = true) :
    Calls Tryd.prog 16 #[.agg #[.slice (some ⟨g, 0, none⟩) n n]] W fun e w' => e = .returned (.string ⟨(songTx xs).toArray⟩) ∧ Kp Nw W w' := by
  obtain ⟨n1, n2⟩ := sgB_len hb
  have hall := sg_all hb
  have hn := hs.1
  have HS := Lib.hid hs
  have HALL := Lib.hid hall
  have HN := Lib.hid hn
  rw [hn] at n1 n2
  have T0 := Lib.hid (Own1.new W (.slice (some ⟨g, 0, none⟩) n n) 28).1
  have t0 := T0.out
  clear hs hb hn hall
  go_enter Tryd.func16, Tryd.ntmps16
  go_wp2
  go_loopw [3, 4, 5, 9] (fun s _ _ i wr => ∃ (j : Nat) (l : List UInt8), j ≤ n ∧ i = .int .i64 j ∧ s = .string ⟨l.toArray⟩ ∧ l = songTx (xs.take j) ∧ Kp Nw (W.alloc (.cells #[.slice (some ⟨g, 0, none⟩) n n] 28)) wr) (fun _ _ _ i _ => n - (intOf i).toNat)
  case atStart => exact ⟨0, [], Nat.zero_le _, rfl, rfl, by simp [songTx_nil], Kp.refl _ _⟩
  case round =>
    rename_i wr
    obtain ⟨j, l, hj, rfl, rfl, hl, hk⟩ := hrel
    have HL := Lib.hid hl
    have HK := Lib.hid hk
    by_cases hlt : j < n
    · have hl' : j < xs.length := by rw [HN.out]; exact hlt
      have c := keepc hk (keepc (.al W (.cells #[.slice (some ⟨g, 0, none⟩) n n] 28)) (HS.out.cell j hlt) (fun h => h)) (fun h => h)
      obtain ⟨y, hy⟩ : ∃ y, xs.getD j 0 = y := ⟨_, rfl⟩
      have hx : xs[j] = y := by rw [← hy]; simp [hl']
      rw [hy] at c
      have hb := HALL.out y (by rw [← hx]; exact List.getElem_mem _)
      obtain ⟨m, rfl⟩ : ∃ m : Nat, y = m := ⟨y.toNat, by omega⟩
      have HT : Hid (xs.take (j + 1) = xs.take j ++ [(m : Int)]) := Lib.hid (by rw [List.take_succ_eq_append_getElem hl', hx])
      have hlm := digits_length m (by omega)
      have hnl := songTx_length (xs.take j) (fun x hx => by have := (HALL.out x (List.mem_of_mem_take hx)).2; omega)
      have htl : (xs.take j).length ≤ 20 := by rw [List.length_take]; omega
      have hll : l.length ≤ 5000 := by rw [hl]; omega
      obtain ⟨dm, hdm⟩ : ∃ dm, Lib.decDigits m = dm := ⟨_, rfl⟩
      rw [hdm] at hlm
      have HDM := Lib.hid hdm
      have HDG : Hid (dgs (m : Int) = dm) := Lib.hid (by rw [← hdm]; simp [dgs])
      have j0 : (0 : Int) ≤ j := Int.natCast_nonneg _
      have j1 : (j : Int) < n := by omega
      have m9 : (m : Int) ≤ 1000000 := hb.2
      have m10 : m ≤ 1000000 := by omega
      have s2 : ¬ (9223372036854775807 : Nat) < l.length + 1 := by omega
      have s3 : ¬ (9223372036854775807 : Nat) < l.length + dm.length := by omega
      have s4 : ¬ (9223372036854775807 : Nat) < l.length + 1 + dm.length := by omega
      clear hl hk hx hb hy hnl htl hl' hdm
      by_cases e : j = 0
      · subst e
        have HE : Hid (songTx (xs.take (0 + 1)) = l ++ dm) := Lib.hid (by rw [HT.out, HL.out]; simp [songTx_one, songTx_nil, HDG.out])
        go_wp2_with fail
        refine (l1Num_any (m + 1) m _ (by omega) (by omega)).mono ?_
        rintro e w2 ⟨rfl, hk2⟩
        rw [HDM.out]
        have HK2 := Lib.hid (HK.out.nw hk2)
        clear hk2
        go_wp2
        go_roundw
        case rel => exact ⟨1, l ++ dm, by omega, by go_num, by first | rfl | exact str_app l dm, HE.out.symm, HK2.out⟩
        case measure => simp [intOf]; omega
      · have e1 : (0 : Int) < j := by omega
        have hne : xs.take j ≠ [] := by
          intro h
          have := congrArg List.length h
          rw [List.length_take, HN.out] at this
          simp at this
          omega
        have HE : Hid (songTx (xs.take (j + 1)) = l ++ [45] ++ dm) := Lib.hid (by rw [HT.out, songTx_snoc _ _ hne, HL.out, HDG.out])
        clear hne e
        go_wp2_with fail
        refine (l1Num_any (m + 1) m _ (by omega) (by omega)).mono ?_
        rintro e w2 ⟨rfl, hk2⟩
        rw [HDM.out]
        have HK2 := Lib.hid (HK.out.nw hk2)
        clear hk2
        go_wp2
        go_roundw
        case rel => exact ⟨j + 1, l ++ [45] ++ dm, by omega, by go_num, by first | rfl | (rw [← str_app (l ++ [45]) dm, ← ByteArray.mk_append_mk l [45]]), HE.out.symm, HK2.out⟩
        case measure => simp [intOf]; omega
    · have e : j = n := by omega
      subst e
      have HF : Hid (l = songTx xs) := Lib.hid (by rw [HL.out, List.take_of_length_le (by rw [HN.out]; exact Nat.le_refl _)])
      clear hl hk
      go_wp2
      go_ret
      exact ⟨ret_string (by rw [HF.out]), (Kp.al W _).nw HK.out⟩

theorem iIsSong_b8 (A : Option Addr) (n c : Nat) (xs : List Int) (W : World) (hu : Rd W (.slice A n c) xs) (hn : xs.length = n) (hl : n ≤ 2000000) (b : Bool) (hb : b = sgB xs) :
    Calls Tryd.prog 18 #[.agg #[.slice A n c]] W fun e w' => e = .returned (.bool b) ∧ Kp Nw W w' := by
  subst hb
  exact iIsSong_is A n c xs W hu hn hl

set_option maxRecDepth 100000 in
set_option maxHeartbeats 1600000 in
theorem sSongText_any (g n : Nat) (xs : List Int) (B : Nat) (W : World) (hs : SlAt W B g n n xs) (hl : n ≤ 1048576) (b : Bool) (hb : sgB xs = b) (l : List UInt8) (hlt : l = if b = true then songTx xs else []) :
    Calls Tryd.prog 6 #[.agg #[.slice (some ⟨g, 0, none⟩) n n]] W (TextRes W l b) := by
  have HS := Lib.hid hs
  have HN := Lib.hid hs.1
  cases b
  · have HB := Lib.hid hb
    have e : l = [] := by rw [hlt, if_neg (by simp)]
    subst e
    clear hs hb hlt
    go_enter Tryd.func6, Tryd.ntmps6
    go_wp2_with (first | (refine (soGood_any _ n n xs _ (HS.out.sl.rd.nw (.al W _)) HN.out (by omega) _ HB.out.symm).mono ?_; rintro e w1 ⟨rfl, hk1⟩; have HK1 := Lib.hid ((Kp.al W _).nw hk1); have hc1 := keepc hk1 (Own1.new W (.slice (some ⟨g, 0, none⟩) n n) 28).1 (fun h => h); clear hk1))
    go_ret2
    exact ⟨rfl, HK1.out⟩
  · have HB := Lib.hid hb
    obtain ⟨n1, n2⟩ := sgB_len hb
    rw [HN.out] at n1 n2
    have HALL := Lib.hid (sg_all hb)
    have e : l = songTx xs := by rw [hlt, if_pos rfl]
    subst e
    clear hs hb hlt
    go_enter Tryd.func6, Tryd.ntmps6
    go_wp2_with (first | (refine (soGood_any _ n n xs _ (HS.out.sl.rd.nw (.al W _)) HN.out (by omega) _ HB.out.symm).mono ?_; rintro e w1 ⟨rfl, hk1⟩; have HK1 := Lib.hid ((Kp.al W _).nw hk1); have hc1 := keepc hk1 (Own1.new W (.slice (some ⟨g, 0, none⟩) n n) 28).1 (fun h => h); clear hk1))
    refine (soText_any g n xs B _ (HS.out.kq8 HK1.out (fun h => h)) HB.out).mono ?_
    rintro e w2 ⟨rfl, hk2⟩
    have HK2 := Lib.hid (HK1.out.nw hk2)
    clear hk2
    go_wp2
    go_ret2
    exact ⟨rfl, HK2.out⟩

set_option maxRecDepth 100000 in
set_option maxHeartbeats 1600000 in
theorem iSongText_any (g n : Nat) (xs : List Int) (B : Nat) (W : World) (hs : SlAt W B g n n xs) (hl : n ≤ 1048576) (hT : Tab W) (b : Bool) (hb : sgB xs = b) (l : List UInt8) (hlt : l = if b = true then songTx xs else []) :
    Calls Tryd.prog 8 #[.agg #[.slice (some ⟨g, 0, none⟩) n n]] W (TextRes W l b) := by
  have HS := Lib.hid hs
  have HN := Lib.hid hs.1
  have HT := Lib.hid hT
  cases b
  · have HB := Lib.hid hb
    have e : l = [] := by rw [hlt, if_neg (by simp)]
    subst e
    clear hs hb hlt hT
    go_enter Tryd.func8, Tryd.ntmps8
    go_wp2_with (first | (refine (iIsSong_b8 _ n n xs _ (HS.out.sl.rd.nw (.al W _)) HN.out (by omega) _ HB.out.symm).mono ?_; rintro e w1 ⟨rfl, hk1⟩; have HK1 := Lib.hid ((Kp.al W _).nw hk1); have hc1 := keepc hk1 (Own1.new W (.slice (some ⟨g, 0, none⟩) n n) 28).1 (fun h => h); clear hk1))
    go_ret2
    exact ⟨rfl, HK1.out⟩
  · have HB := Lib.hid hb
    obtain ⟨n1, n2⟩ := sgB_len hb
    rw [HN.out] at n1 n2
    have HALL := Lib.hid (sg_all hb)
    have e : l = songTx xs := by rw [hlt, if_pos rfl]
    subst e
    clear hs hb hlt hT
    go_enter Tryd.func8, Tryd.ntmps8
    go_wp2_with (first | (refine (iIsSong_b8 _ n n xs _ (HS.out.sl.rd.nw (.al W _)) HN.out (by omega) _ HB.out.symm).mono ?_; rintro e w1 ⟨rfl, hk1⟩; have HK1 := Lib.hid ((Kp.al W _).nw hk1); have hc1 := keepc hk1 (Own1.new W (.slice (some ⟨g, 0, none⟩) n n) 28).1 (fun h => h); clear hk1))
    refine (joinNums8_any g n B xs _ (HS.out.kq8 HK1.out (fun h => h)) (HT.out.nw HK1.out) (by omega) (by omega) HALL.out).mono ?_
    rintro e w2 ⟨rfl, hk2⟩
    have HK2 := Lib.hid (HK1.out.nw hk2)
    clear hk2
    go_wp2
    go_ret2
    exact ⟨rfl, HK2.out⟩

set_option maxHeartbeats 800000 in
theorem lawSongText_large (A : Option Addr) (n c : Nat) (W : World) (hn : n ≤ maxLen) (h : 1048576 < n) :
    Calls Tryd.prog 3 #[.agg #[.slice A n c]] W fun e w' => e = .returned (.bool true) ∧ Kp Nw W w' := by
  go_enter Tryd.func3, Tryd.ntmps3
  go_wp2_with fail
  refine (szSong_large A n c 1048576 _ hn (by omega) (by omega) (by omega)).mono ?_
  rintro e w1 ⟨rfl, hk1⟩
  have HK1 := Lib.hid ((Kp.al _ _).nw hk1)
  clear hk1
  go_wp2
  go_ret
  exact ⟨rfl, HK1.out⟩

set_option maxRecDepth 100000 in
set_option maxHeartbeats 3200000 in
theorem lawSongText_small (A : Option Addr) (n c : Nat) (xs : List Int) (W : World) (hT : Tab W) (hu : Rd W (.slice A n c) xs) (hn : xs.length = n) (h : n ≤ 1048576) :
    Calls Tryd.prog 3 #[.agg #[.slice A n c]] W fun e w' => e = .returned (.bool true) ∧ Kp Nw W w' := by
  obtain ⟨b, hb⟩ : ∃ b, sgB xs = b := ⟨_, rfl⟩
  obtain ⟨l, hl⟩ : ∃ l, l = if b = true then songTx xs else [] := ⟨_, rfl⟩
  have HLT := Lib.hid hl
  have HB := Lib.hid hb
  have HU := Lib.hid hu
  have HN := Lib.hid hn
  have HT := Lib.hid hT
  have HL : Hid (xs.length ≤ maxLen) := Lib.hid (by unfold maxLen; omega)
  have q0 : (0 : Int) ≤ 1048576 - (n : Int) := by omega
  have q9 : ¬ ((1048576 : Int) - (n : Int) < 0) := by omega
  clear hb hu hn hl hT
  go_enter Tryd.func3, Tryd.ntmps3
  go_wp2_with fail
  refine (szSong_small A n c 1048576 _ (by omega) (by omega)).mono ?_
  rintro e w1 ⟨rfl, hk1⟩
  have T0 := Lib.hid ((Own1.new W (.slice A n c) 24).kp hk1 (fun h => h))
  have HK1 := Lib.hid ((Kp.al _ _).nw hk1)
  clear hk1
  have t0 := T0.out.1
  go_wp2_with fail
  refine (toSong_any A n c xs _ (HU.out.nw HK1.out) HN.out h).mono ?_
  rintro e w2 ⟨g2, rfl, hs2, hk2, hg2, hg2'⟩
  have HS2 := Lib.hid hs2
  have T0 := Lib.hid (T0.out.kp hk2 (fun h => h))
  have HK2 := Lib.hid (HK1.out.nw hk2)
  clear hs2 hk2 t0
  go_wp2_with fail
  refine (sSongText_any g2 n xs _ _ HS2.out h b HB.out l HLT.out).mono ?_
  rintro e w3 ⟨rfl, hk3⟩
  have T0 := Lib.hid (T0.out.kp hk3 (fun h => h))
  have HK3 := Lib.hid (HK2.out.nw hk3)
  clear hk3
  have t0 := T0.out.1
  go_wp2_with fail
  refine (toSong_any A n c xs _ (HU.out.nw HK3.out) HN.out h).mono ?_
  rintro e w4 ⟨g4, rfl, hs4, hk4, hg4, hg4'⟩
  have HS4 := Lib.hid hs4
  have T0 := Lib.hid (T0.out.kp hk4 (fun h => h))
  have HK4 := Lib.hid (HK3.out.nw hk4)
  clear hs4 hk4 t0
  go_wp2_with fail
  refine (iSongText_any g4 n xs _ _ (HS4.out.kq8 (.al w4 (.cells #[.slice (some ⟨g4, 0, none⟩) n n] 28)) (fun h => h)) h (HT.out.nw (HK4.out.nw (.al _ _))) b HB.out l HLT.out).mono ?_
  rintro e w5 ⟨rfl, hk5⟩
  have T4 := Lib.hid ((Own1.new w4 (.slice (some ⟨g4, 0, none⟩) n n) 28).kp hk5 (fun h => h))
  have T0 := Lib.hid ((T0.out.kp (.al w4 (.cells #[.slice (some ⟨g4, 0, none⟩) n n] 28)) (fun h => h)).kp hk5 (fun h => h))
  have HS4 := Lib.hid (((HS4.out.sl.below (Kp.al _ _).below').below hk5.below').rd)
  have HK5 := Lib.hid ((HK4.out.nw (.al _ _)).nw hk5)
  clear hk5
  have t0 := T0.out.1
  have u0 := T4.out.1
  go_wp2_with fail
  go_region_held3 (fun w' => Kp Nw w5 w' ∧ w'.cell? ⟨W.heap.size, 0, none⟩ = some (.slice A n c) ∧ w'.cell? ⟨w4.heap.size, 0, none⟩ = some (.slice (some ⟨g4, 0, none⟩) n n))
    (first
      | exact ⟨(Kp.refl _ _).drew, T0.out.1, T4.out.1⟩
      | exact ⟨hkW7, keepc hkW7 T0.out.1 (fun h => h), keepc hkW7 T4.out.1 (fun h => h)⟩
      | exact ⟨hkW6, keepc hkW6 T0.out.1 (fun h => h), keepc hkW6 T4.out.1 (fun h => h)⟩)
    (first
      | (go_at_call 7
         refine (toSong_any A n c xs _ (HU.out.nw (HK5.out.nw (‹Kp Nw w5 _ ∧ _›.1))) HN.out h).mono ?_
         rintro e w6 ⟨g6, rfl, hs6, hk6, hg6, hg6'⟩
         have hkW6 := (‹Kp Nw w5 _ ∧ _›.1).nw hk6)
      | (go_at_call 9
         refine (eqSong_same _ _ n _ _ xs _ (HS4.out.nw (‹Kp Nw w5 _ ∧ _›.1)) hs6.sl.rd HL.out).mono ?_
         rintro e w7 ⟨rfl, hk7⟩
         have hkW7 := (‹Kp Nw w5 _ ∧ _›.1).nw hk7)
      | fail)
  have HK7 := Lib.hid (HK5.out.nw hkW7)
  clear hkW7 hkW6 hk6 hk7 hs6
  go_wp2
  go_ret
  exact ⟨rfl, HK7.out⟩

theorem lawSongText (A : Option Addr) (n c : Nat) (xs : List Int) (W : World) (hT : Tab W) (hu : Rd W (.slice A n c) xs) (hn : xs.length = n) (hm : n ≤ maxLen) :
    Calls Tryd.prog 3 #[.agg #[.slice A n c]] W fun e w' => e = .returned (.bool true) ∧ Kp Nw W w' := by
  by_cases h : n ≤ 1048576
  · exact lawSongText_small A n c xs W hT hu hn h
  · exact lawSongText_large A n c W hm (by omega)
end Go.Proofs.YtpajmgonceepoaaDoor
