/- Songs in the program: the song for an order, whose counts are the remainders told as counts; no condition. -/
import Derived.Test.YtbndgkjnigehgabRem8
import Derived.Test.YtbndgkjnigehgabVals
import Derived.Test.YtbndgkjnigehgabISong
import Derived.Test.YtbndgkjnigehgabSoM
namespace Go.Proofs.Ytbndgkjnigehgab
open Go.ChangeShapes Go.WideShapes Go.ChangeAt Go.RowKit

theorem marks_lt8 (n : Nat) : (marks 0 n).Pairwise (· < ·) := by
  unfold marks
  rw [List.pairwise_map]
  exact List.pairwise_lt_range.imp (fun h => by omega)
theorem ordC_perm {xs : List Int} (h : ordC xs = true) : xs.Perm (marks 0 xs.length) := by
  have hp := rem_perm8 h xs.length (Nat.le_refl _)
  have h0 : remL xs (marks 0 xs.length) xs.length = [] := List.eq_nil_of_length_eq_zero (by rw [rem_len8 h _ (Nat.le_refl _)]; omega)
  rwa [h0, List.append_nil, List.take_length] at hp
theorem ordC_of {xs : List Int} (h1 : 1 ≤ xs.length) (h2 : xs.length ≤ 20) (hp : xs.Perm (marks 0 xs.length)) : ordC xs = true := by
  unfold ordC
  rw [Bool.and_eq_true]
  refine ⟨decide_eq_true ⟨h1, h2⟩, decide_eq_true ⟨List.all_eq_true.2 fun x hx => ?_, hp.symm.nodup (marks_nodup 0 _)⟩⟩
  have := marks_mem xs.length x (hp.mem_iff.1 hx)
  simp [okR]
  omega
theorem ordC_srt {xs : List Int} (h1 : 1 ≤ xs.length) (h2 : xs.length ≤ 20) : decide (srt xs = marks 0 xs.length) = ordC xs := by
  cases hb : ordC xs with
  | true => exact decide_eq_true (srt_is xs _ (marks_lt8 _) (ordC_perm hb).symm).symm
  | false =>
    refine decide_eq_false (fun e => ?_)
    have hp : xs.Perm (marks 0 xs.length) := by rw [← e]; exact (List.mergeSort_perm xs _).symm
    rw [ordC_of h1 h2 hp] at hb
    cases hb
theorem ordC_off {xs : List Int} (h : ¬ (1 ≤ xs.length ∧ xs.length ≤ 20)) : ordC xs = false := by
  unfold ordC; rw [decide_eq_false h]; rfl

theorem fndD_mem (x : Int) : ∀ (l : List Int) (j : Nat), 0 ≤ fndD x l j → x ∈ l
  | [], j, h => by simp [fndD] at h
  | y :: r, j, h => by
    unfold fndD at h
    by_cases e : y = x
    · subst e; simp
    · rw [if_neg e] at h
      exact List.mem_cons_of_mem _ (fndD_mem x r (j + 1) h)
theorem sfO_perm : ∀ (r l : List Int), (sfO l r).2 = true → r.length = l.length → r.Perm l
  | [], l, _, h => by
    have : l = [] := List.eq_nil_of_length_eq_zero h.symm
    rw [this]
  | x :: r, l, h, hl => by
    unfold sfO at h
    by_cases h0 : fndD x l 0 < 0
    · rw [if_pos h0] at h; cases h
    · rw [if_neg h0] at h
      obtain ⟨a1, a2, a3⟩ := atL_is x l (fndD_mem x l 0 (by omega))
      by_cases h1 : (sfO (goneAt l (fndD x l 0).toNat) r).2 = true
      · have e : (fndD x l 0).toNat = atL x l := rfl
        rw [e] at h1
        have hg := goneAt_length a2
        have ih := sfO_perm r (goneAt l (atL x l)) h1 (by rw [hg]; simp at hl; omega)
        have hp : (l.getD (atL x l) 0 :: goneAt l (atL x l)).Perm l := cutAt_perm l (atL x l) a2
        rw [a3] at hp
        exact (List.Perm.cons x ih).trans hp
      · rw [if_neg h1] at h; cases h

/-- the counts of the song for an order -/
def cU (xs : List Int) (t : Nat) : Int := (atL (xs.getD t 0) (remL xs (marks 0 xs.length) t) : Int) + 1
def cUL (xs : List Int) : List Int := (List.range xs.length).map (cU xs)
theorem cUL_length (xs : List Int) : (cUL xs).length = xs.length := by simp [cUL]
theorem sfO_yes {xs : List Int} (h : ordC xs = true) : ∀ (m j : Nat), j + m = xs.length → sfO (remL xs (marks 0 xs.length) j) (xs.drop j) = ((cUL xs).drop j, true)
  | 0, j, hj => by
    rw [List.drop_of_length_le (by omega), List.drop_of_length_le (by rw [cUL_length]; omega), sfO]
  | m + 1, j, hj => by
    have hjx : j < xs.length := by omega
    have ih := sfO_yes h m (j + 1) (by omega)
    have hm := rem_mem8 h j hjx
    obtain ⟨a1, a2, a3⟩ := atL_is _ _ hm
    have e1 : xs.drop j = xs.getD j 0 :: xs.drop (j + 1) := by rw [List.drop_eq_getElem_cons hjx]; simp [List.getD, hjx]
    have e2 : (cUL xs).drop j = cU xs j :: (cUL xs).drop (j + 1) := by rw [List.drop_eq_getElem_cons (by rw [cUL_length]; exact hjx)]; simp [cUL]
    rw [e1, e2, sfO, if_neg (by omega)]
    have e3 : goneAt (remL xs (marks 0 xs.length) j) (fndD (xs.getD j 0) (remL xs (marks 0 xs.length) j) 0).toNat = remL xs (marks 0 xs.length) (j + 1) := rfl
    rw [e3, ih, if_pos rfl, a1]
    rfl
theorem vSongFor_yes {xs : List Int} (h : ordC xs = true) : vSongFor xs = (cUL xs, true) := by
  have hp := ordC_parts h
  have := sfO_yes h xs.length 0 (by omega)
  unfold vSongFor
  rw [if_pos ⟨hp.1, hp.2.1⟩]
  simpa [remL] using this
theorem vSongFor_no {xs : List Int} (h : ordC xs = false) : vSongFor xs = ([], false) := by
  unfold vSongFor
  by_cases hn : 1 ≤ xs.length ∧ xs.length ≤ 20
  · rw [if_pos hn]
    have hf : (sfO (marks 0 xs.length) xs).2 = false := by
      cases hb : (sfO (marks 0 xs.length) xs).2 with
      | false => rfl
      | true =>
        have := ordC_of hn.1 hn.2 (sfO_perm xs _ hb (by rw [marks_length]))
        rw [this] at h
        cases h
    exact Prod.ext (sfO_no _ _ hf) hf
  · rw [if_neg hn]
theorem remT_getD (xs l0 : List Int) : ∀ (j t : Nat), t < j → (remT xs l0 j).getD t 0 = (((atL (xs.getD t 0) (remL xs l0 t) + 1) % (remL xs l0 t).length : Nat) : Int)
  | 0, t, h => by omega
  | j + 1, t, h => by
    rw [remT]
    by_cases ht : t < j
    · rw [← remT_getD xs l0 j t ht]
      simp [remT_len, List.getElem?_append_left, ht]
    · have e : t = j := by omega
      subst e
      simp [remT_len]
/-- a remainder told as a count -/
theorem rem_count {xs : List Int} (h : ordC xs = true) (t : Nat) (ht : t < xs.length) :
    (cUL xs).getD t 0 = (if (remsOf xs).getD t 0 = 0 then ((xs.length : Int) - t) else (remsOf xs).getD t 0) := by
  have hm := rem_mem8 h t ht
  obtain ⟨a1, a2, a3⟩ := atL_is _ _ hm
  have hl := rem_len8 h t (by omega)
  have e : (cUL xs).getD t 0 = cU xs t := by simp [cUL, ht]
  rw [e, remsOf, remT_getD _ _ _ _ ht, hl]
  rw [hl] at a2
  unfold cU
  by_cases h1 : atL (xs.getD t 0) (remL xs (marks 0 xs.length) t) + 1 = xs.length - t
  · rw [h1, Nat.mod_self, if_pos (show ((0 : Nat) : Int) = 0 from rfl)]; omega
  · rw [Nat.mod_eq_of_lt (by omega), if_neg (by omega)]; omega

set_option maxHeartbeats 1600000 in
theorem isOrderOfAll_any (A : Option Addr) (n c : Nat) (xs : List Int) (W : World) (hu : Rd W (.slice A n c) xs) (hn : xs.length = n) (b : Bool) (hb : b = ordC xs) (hl : n ≤ 2000000) :
    Calls Try.prog 16 #[.slice A n c] W fun e w' => e = .returned (.bool b) ∧ Kp Nw W w' := by
  have HB := Lib.hid hb
  have HN := Lib.hid hn
  by_cases hlen : (n : Int) < 1 ∨ 20 < (n : Int)
  · have HF : Hid (b = false) := Lib.hid (by rw [hb]; exact ordC_off (by omega))
    clear hu hn hb
    go_enter Try.func16, Try.ntmps16
    go_wp2_with (first | ((with_reducible refine (within_no (n : Int) _ _ _ hlen).mono ?_); rintro e w' ⟨rfl, rfl⟩))
    go_ret
    exact ⟨ret_bool HF.out.symm, Kp.refl _ _⟩
  · have n1 : 1 ≤ (n : Int) := by omega
    have n2 : (n : Int) ≤ 20 := by omega
    clear hlen
    have HF : Hid (decide (srt xs = marks 0 n) = b) := Lib.hid (by rw [hb, ← hn]; exact ordC_srt (by omega) (by omega))
    obtain ⟨A', c', e', hA⟩ := hu
    rw [hn] at e'
    injection e' with e1 e2 e3
    subst e1 e3
    obtain ⟨g, o, rfl, -⟩ := hA 0 (by omega)
    have HA : Hid (∀ i, i < n → W.cell? ⟨g, o + i, none⟩ = some (.int .i64 (xs.getD i 0))) := Lib.hid (fun i hi => by
      obtain ⟨g', o', e, hc⟩ := hA i (by omega)
      injection e with e
      injection e with e1 e2
      rw [e1, e2]; exact hc)
    clear hA hn hb
    go_enter Try.func16, Try.ntmps16
    go_wp2_with (first | ((with_reducible refine (within_yes (n : Int) _ _ _ n1 n2).mono ?_); rintro e w' ⟨rfl, rfl⟩))
    refine (valuesOf_any _ n c _).mono ?_
    rintro e w1 ⟨rfl, rfl⟩
    have HBX := Lib.hid (Own1.new W (.slice (some ⟨g, o, none⟩) n c) 22).1
    have HCX : Hid (∀ i, i < n → (W.alloc (.cells #[.slice (some ⟨g, o, none⟩) n c] 22)).cell? ⟨g, o + i, none⟩ = some (.int .i64 (xs.getD i 0))) := Lib.hid (fun i hi => keepc (.al W _) (HA.out i hi) (fun h => h))
    go_wp2_with fail
    refine (sortedVals_any W.heap.size g o n c xs _ HN.out (by omega) HBX.out HCX.out (by omega)).mono ?_
    rintro e w2 ⟨v2, rfl, hs2, hk2⟩
    have HS2 := Lib.hid hs2
    have HK2 := Lib.hid ((Kp.al W _).nw hk2)
    clear hs2 hk2
    go_wp2_with fail
    refine (firstNumbers_any n _ (by omega)).mono ?_
    rintro e w3 ⟨v3, rfl, hs3, hk3⟩
    have HS3 := Lib.hid hs3
    have HK3 := Lib.hid hk3
    have HSL : Hid ((srt xs).length ≤ 1000) := Lib.hid (by rw [srt_length, HN.out]; omega)
    clear hs3 hk3
    go_wp2_with fail
    refine (equal_any v2 v3 (srt xs) (marks 0 n) _ (HS2.out.rd.nw HK3.out) HS3.out.rd HSL.out (by rw [marks_length]; omega)).mono ?_
    rw [HF.out]
    rintro e w4 ⟨rfl, hk4⟩
    have HK4 := Lib.hid ((HK2.out.nw HK3.out).nw hk4)
    clear hk4
    go_wp2
    go_ret
    exact ⟨rfl, HK4.out⟩

set_option maxRecDepth 100000 in
set_option maxHeartbeats 3200000 in
theorem iSongForOrder_any (g n B : Nat) (xs : List Int) (W : World) (hs : SlAt W B g n n xs) (hl : n ≤ 1048576) :
    Calls Try.prog 6 #[.slice (some ⟨g, 0, none⟩) n n] W (SongB W (vSongFor xs).1 (vSongFor xs).2) := by
  have HS := Lib.hid hs
  have HN : Hid (xs.length = n) := Lib.hid hs.1
  have HRES := Lib.hid (Own1.new W (.slice none 0 0) 24)
  obtain ⟨hr1, hr2⟩ := HRES.out
  clear hs
  cases hb : ordC xs
  · rw [vSongFor_no hb]
    have HB := Lib.hid hb
    clear hb
    go_enter Try.func6, Try.ntmps6
    go_wp2_with (first | (refine (isOrderOfAll_any _ n n xs _ (HS.out.sl.rd.nw (.al W _)) HN.out _ HB.out.symm (by omega)).mono ?_; rintro e w1 ⟨rfl, hk1⟩; have HK1 := Lib.hid ((Kp.al W _).nw hk1); have HR1 := Lib.hid (HRES.out.kp hk1 (fun h => h)); have q1 := HR1.out.1; have q2 := HR1.out.2; have hz1 : W.heap.size + 1 ≤ w1.heap.size := (by have := hk1.size; simp only [World.size_alloc] at this; exact this); clear hk1))
    have z0 := one_set w1 W.heap.size (.slice none 0 0) _ HR1.out.1
    have HZ := Lib.hid (song_none 0 hz1 HK1.out)
    refine bodyPost_ret (v := .tuple #[.agg #[.slice none 0 0], .bool false]) (by simp [results, Try.results6, go_sem, z0]) rfl ⟨_, rfl, HZ.out.1, HZ.out.2⟩
  · rw [vSongFor_yes hb]
    have HB := Lib.hid hb
    have hp := ordC_parts hb
    have n1 : 1 ≤ n := by have := HN.out; omega
    have n2 : n ≤ 20 := by have := HN.out; omega
    have HU : Hid (∀ t, t < n → (cUL xs).getD t 0 = (if (remsOf xs).getD t 0 = 0 then ((n : Int) - t) else (remsOf xs).getD t 0)) := Lib.hid (fun t ht => by have := rem_count hb t (by rw [HN.out]; exact ht); rwa [HN.out] at this)
    have HUL : Hid ((cUL xs).length = n) := Lib.hid (by rw [cUL_length]; exact HN.out)
    have HRL : Hid ((remsOf xs).length = n) := Lib.hid (by rw [remsOf_len]; exact HN.out)
    clear hb hp
    go_enter Try.func6, Try.ntmps6
    go_wp2_with (first | (refine (isOrderOfAll_any _ n n xs _ (HS.out.sl.rd.nw (.al W _)) HN.out _ HB.out.symm (by omega)).mono ?_; rintro e w1 ⟨rfl, hk1⟩; have HK1 := Lib.hid ((Kp.al W _).nw hk1); have HR1 := Lib.hid (HRES.out.kp hk1 (fun h => h)); have q1 := HR1.out.1; have q2 := HR1.out.2; have hz1 : W.heap.size + 1 ≤ w1.heap.size := (by have := hk1.size; simp only [World.size_alloc] at this; exact this); clear hk1))
    refine (remaindersOf_any8 _ n n xs _ (HS.out.sl.rd.nw HK1.out) HN.out HB.out).mono ?_
    rintro e w2 ⟨v2, rfl, hs2, hk2⟩
    obtain ⟨gm, cap, rfl, hat, _, _, hg1, hg2⟩ := hs2.at_ (by rw [HRL.out]; omega)
    rw [HRL.out] at hat ⊢
    have HAT := Lib.hid hat
    have HK2 := Lib.hid (HK1.out.nw hk2)
    have HR2 := Lib.hid (HR1.out.kp hk2 (fun h => h))
    have HGM : Hid (W.heap.size + 1 ≤ gm) := Lib.hid (by omega)
    clear hs2 hk2 hat q1 q2 hr1 hr2 hg1 hg2
    go_wp2
    go_loopw [15] (fun i wr => ∃ j : Nat, j ≤ n ∧ i = .int .i64 j ∧ Hid (SlAt wr w1.heap.size gm cap n (fill (cUL xs) (remsOf xs) j)) ∧ Hid (Own1 wr W.heap.size (.slice none 0 0)) ∧ Hid (Kp Nw W wr)) (fun i _ => n - (intOf i).toNat)
    case atStart => exact ⟨0, Nat.zero_le _, rfl, Lib.hid (by rw [fill_zero]; exact HAT.out), HR2, HK2⟩
    case round =>
      rename_i wr
      obtain ⟨j, hj, rfl, H, HR, HK⟩ := hrel
      have j0 : (0 : Int) ≤ j := Int.natCast_nonneg _
      by_cases hlt : j < n
      · have jn : (j : Int) < n := by omega
        obtain ⟨x, hx⟩ : ∃ x, (remsOf xs).getD j 0 = x := ⟨_, rfl⟩
        have hf : (fill (cUL xs) (remsOf xs) j).getD j 0 = x := by
          rw [← hx]
          have h1 : ((cUL xs).take j).length = j := by rw [List.length_take, HUL.out]; omega
          unfold fill
          simp [List.getD, List.getElem?_append_right, h1]
        have hc := H.out.cell j hlt
        rw [hf] at hc
        have f0 := H.out.frozen j
        have hU := HU.out j hlt
        rw [hx] at hU
        have wj : IntKind.i64.wrap ((n : Int) - (j : Int)) = (n : Int) - (j : Int) := IntWalk.i64_in _ (by omega)
        have HFS : Hid (∀ y, (cUL xs).getD j 0 = y → (fill (cUL xs) (remsOf xs) j).set j y = fill (cUL xs) (remsOf xs) (j + 1)) := Lib.hid (fun y hy => fill_set (cUL xs) _ j y (by rw [HUL.out, HRL.out]) (by rw [HUL.out]; exact hlt) (by rw [← hy]; simp [HUL.out, hlt]))
        by_cases h0 : x = 0
        · have HY : Hid ((cUL xs).getD j 0 = (n : Int) - j) := Lib.hid (by rw [hU, if_pos h0])
          subst h0
          clear hx hf hU
          go_wp2
          go_roundw
          case rel =>
            refine ⟨j + 1, by omega, by go_num, Lib.hid ?_, Lib.hid (HR.out.kp ((Kp.refl (fun b => b = gm) wr).setCell (p := ⟨gm, j, none⟩) (.inl rfl) _) (by have := HGM.out; omega)), Lib.hid (HK.out.setCell (.inr (by show W.heap.size ≤ gm; have := HGM.out; omega)) _)⟩
            have h2 := H.out.store j ((n : Int) - j)
            rw [HFS.out _ HY.out] at h2
            exact h2
          case measure => simp [intOf]; omega
        · have HY : Hid ((cUL xs).getD j 0 = x) := Lib.hid (by rw [hU, if_neg h0])
          have HSAME : Hid (fill (cUL xs) (remsOf xs) (j + 1) = fill (cUL xs) (remsOf xs) j) := Lib.hid (by
            rw [← HFS.out x HY.out]
            apply List.ext_getElem (by simp)
            intro i h1 h2
            by_cases e : j = i
            · subst e
              rw [List.getElem_set_self, ← hf]
              simp only [List.length_set] at h1
              simp [List.getD, h1]
            · rw [List.getElem_set_ne e])
          have hne : (x == 0) = false := by simp [h0]
          clear hx hf hU
          go_wp2
          go_roundw
          case rel => exact ⟨j + 1, by omega, by go_num, Lib.hid (by rw [HSAME.out]; exact H.out), HR, HK⟩
          case measure => simp [intOf]; omega
      · have e : j = n := by omega
        subst e
        have HE : Hid (fill (cUL xs) (remsOf xs) j = cUL xs) := Lib.hid (by
          have := fill_all (cUL xs) (remsOf xs) (by rw [HUL.out, HRL.out])
          rwa [HUL.out] at this)
        have HSF : Hid (Sl wr (W.heap.size + 1) (.slice (some ⟨gm, 0, none⟩) j cap) (cUL xs)) := Lib.hid (by
          have h9 := H.out.sl
          rw [HE.out] at h9
          exact h9.from (by omega))
        obtain ⟨q1, q2⟩ := HR.out
        have z0 := one_set wr W.heap.size (.slice (some ⟨gm, 0, none⟩) j cap) _ q1
        have HZ := Lib.hid (song_close 0 HSF.out HK.out)
        go_wp2
        refine bodyPost_ret (v := .tuple #[.agg #[.slice (some ⟨gm, 0, none⟩) j cap], .bool true]) (by simp [results, Try.results6, go_sem, z0]) rfl ⟨_, rfl, HZ.out.1, HZ.out.2⟩
end Go.Proofs.Ytbndgkjnigehgab
