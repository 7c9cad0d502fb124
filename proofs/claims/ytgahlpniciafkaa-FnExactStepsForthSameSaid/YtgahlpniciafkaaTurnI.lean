/- Counts that turn: orders, last ones, turns, tables, in the program as in its model; no condition. -/
import Derived.Test.YtgahlpniciafkaaOrdB
import Derived.Test.YtgahlpniciafkaaBothS
import Derived.Test.YtgahlpniciafkaaLwTurningOrder
import Derived.Test.YtgahlpniciafkaaLwTurningLast
import Derived.Test.YtgahlpniciafkaaLwTurningTurn
import Derived.Test.YtgahlpniciafkaaLwTurningTable
import Derived.Test.YtgahlpniciafkaaLwForthAndBack
import Derived.Test.YtgahlpniciafkaaLwLastOfBoth
import Derived.Test.YtgahlpniciafkaaLwMirrorPerson
import Derived.Test.YtgahlpniciafkaaLwStepsForthSame
namespace Go.Proofs.Ytgahlpniciafkaa
open Go.ChangeShapes Go.WideShapes Go.ChangeAt Go.RowKit

theorem isForthAndBack_yes (p f b : Int) (w : World) (h1 : Asked p f) (h2 : Asked p b) : Calls Try.prog 52 #[.int .i64 p, .int .i64 f, .int .i64 b] w fun e w' => e = .returned (.bool true) ∧ w = w' := by
  go_enter Try.func52, Try.ntmps52
  go_wp2_with (first | ((with_reducible refine (isCount_yes p f _ h1).mono ?_); rintro e w' ⟨rfl, rfl⟩) | ((with_reducible refine (isCount_yes p b _ h2).mono ?_); rintro e w' ⟨rfl, rfl⟩))
  go_ret
  exact ⟨rfl, rfl⟩
theorem isForthAndBack_no (p f b : Int) (w : World) (h : ¬ (Asked p f ∧ Asked p b)) : Calls Try.prog 52 #[.int .i64 p, .int .i64 f, .int .i64 b] w fun e w' => e = .returned (.bool false) ∧ w = w' := by
  by_cases h1 : Asked p f
  · have h2 : ¬ Asked p b := fun h2 => h ⟨h1, h2⟩
    go_enter Try.func52, Try.ntmps52
    go_wp2_with (first | ((with_reducible refine (isCount_yes p f _ h1).mono ?_); rintro e w' ⟨rfl, rfl⟩) | ((with_reducible refine (isCount_no p b _ h2).mono ?_); rintro e w' ⟨rfl, rfl⟩))
    go_ret
    exact ⟨rfl, rfl⟩
  · go_enter Try.func52, Try.ntmps52
    go_wp2_with (first | ((with_reducible refine (isCount_no p f _ h1).mono ?_); rintro e w' ⟨rfl, rfl⟩))
    go_ret
    exact ⟨rfl, rfl⟩
theorem isTable_yes' (p s : Int) (w : World) (p0 : 1 ≤ p) (p1 : p ≤ 200) (s0 : 1 ≤ s) (s1 : s ≤ 200) : Calls Try.prog 49 #[.int .i64 p, .int .i64 s] w fun e w' => e = .returned (.bool true) ∧ w = w' := by
  go_enter Try.func49, Try.ntmps49
  go_wp2_with (first | ((with_reducible refine (within_yes p _ _ _ p0 p1).mono ?_); rintro e w' ⟨rfl, rfl⟩) | ((with_reducible refine (within_yes s _ _ _ s0 s1).mono ?_); rintro e w' ⟨rfl, rfl⟩))
  go_ret
  exact ⟨rfl, rfl⟩
theorem isTable_no' (p s : Int) (w : World) (h : ¬ (1 ≤ p ∧ p ≤ 200 ∧ 1 ≤ s ∧ s ≤ 200)) : Calls Try.prog 49 #[.int .i64 p, .int .i64 s] w fun e w' => e = .returned (.bool false) ∧ w = w' := by
  by_cases h1 : 1 ≤ p ∧ p ≤ 200
  · obtain ⟨p0, p1⟩ := h1
    have h2 : s < 1 ∨ 200 < s := by omega
    clear h
    go_enter Try.func49, Try.ntmps49
    go_wp2_with (first | ((with_reducible refine (within_yes p _ _ _ p0 p1).mono ?_); rintro e w' ⟨rfl, rfl⟩) | ((with_reducible refine (within_no s _ _ _ h2).mono ?_); rintro e w' ⟨rfl, rfl⟩))
    go_ret
    exact ⟨rfl, rfl⟩
  · have h2 : p < 1 ∨ 200 < p := by omega
    clear h h1
    go_enter Try.func49, Try.ntmps49
    go_wp2_with (first | ((with_reducible refine (within_no p _ _ _ h2).mono ?_); rintro e w' ⟨rfl, rfl⟩))
    go_ret
    exact ⟨rfl, rfl⟩

set_option maxRecDepth 100000 in
set_option maxHeartbeats 3200000 in
theorem lastForthAndBack_any (n : Nat) (f b : Int) (W : World) (n1 : 1 ≤ n) (n2 : n ≤ 200) (f1 : 1 ≤ f) (f2 : f ≤ 1000000) (b1 : 1 ≤ b) (b2 : b ≤ 1000000) :
    Calls Try.prog 50 #[.int .i64 n, .int .i64 f, .int .i64 b] W fun e w' => e = .returned (.int .i64 (lastB f b n)) ∧ Kp Nw W w' := by
  obtain ⟨d, hd⟩ : ∃ d, n - 1 = d := ⟨_, rfl⟩
  obtain ⟨x, hx⟩ : ∃ x, lastB f b n = x := ⟨_, rfl⟩
  have HX : Hid ((boT f b (marks 0 n) n).getD d 0 = x) := Lib.hid (by rw [← hx, lastB, hd])
  have e1 : IntKind.i64.wrap ((n : Int) - 1) = (d : Int) := by rw [IntWalk.i64_in _ (by omega)]; omega
  have hdn : d < n := by omega
  have d0 : (0 : Int) ≤ d := Int.natCast_nonneg _
  rw [hx]
  clear hx hd
  go_enter Try.func50, Try.ntmps50
  go_wp2_with fail
  refine (orderForthAndBack_any n f b _ n1 n2 f1 f2 b1 b2).mono ?_
  rintro e w1 ⟨v, rfl, hs, hk⟩
  obtain ⟨g, cap, rfl, hat, hc, _, _, _⟩ := hs.at_ (by rw [boT_length]; omega)
  rw [boT_length] at hat hc ⊢
  have cs := hat.cell d hdn
  rw [HX.out] at cs
  have HK := Lib.hid hk
  clear hs hk hat
  go_wp2
  go_ret
  exact ⟨rfl, HK.out⟩

set_option maxRecDepth 100000 in
set_option maxHeartbeats 3200000 in
theorem iForthAndBack_yes (n : Nat) (f b : Int) (W : World) (hf : Asked n f) (hb : Asked n b) : Calls Try.prog 26 #[.int .i64 n, .int .i64 f, .int .i64 b] W (ListB W (boT f b (marks 0 n) n) true) := by
  have f1 := hf.k1; have f2 := hf.k2; have b1 := hb.k1; have b2 := hb.k2; have h2 := hf.p2; have h1 := hf.p1
  go_enter Try.func26, Try.ntmps26
  go_wp2_with (first | ((with_reducible refine (isForthAndBack_yes _ _ _ _ hf hb).mono ?_); rintro e w' ⟨rfl, rfl⟩))
  refine (orderForthAndBack_any n f b _ (by omega) (by omega) f1 f2 b1 b2).mono ?_
  rintro e w1 ⟨v, rfl, hs, hk⟩
  have HS := Lib.hid hs
  have HK := Lib.hid hk
  clear hs hk
  go_wp2
  go_ret2
  exact ⟨v, rfl, HS.out, HK.out⟩
theorem iForthAndBack_no (p f b : Int) (W : World) (h : ¬ (Asked p f ∧ Asked p b)) : Calls Try.prog 26 #[.int .i64 p, .int .i64 f, .int .i64 b] W (ListB W [] false) := by
  go_enter Try.func26, Try.ntmps26
  go_wp2_with (first | ((with_reducible refine (isForthAndBack_no _ _ _ _ h).mono ?_); rintro e w' ⟨rfl, rfl⟩))
  go_ret2
  exact ⟨.slice none 0 0, rfl, Sl.nil _ _, Kp.refl _ _⟩

set_option maxRecDepth 100000 in
set_option maxHeartbeats 3200000 in
theorem iLastOfBoth_yes (n : Nat) (f b : Int) (W : World) (hf : Asked n f) (hb : Asked n b) : Calls Try.prog 28 #[.int .i64 n, .int .i64 f, .int .i64 b] W (IntB W (lastB f b n) true) := by
  have f1 := hf.k1; have f2 := hf.k2; have b1 := hb.k1; have b2 := hb.k2; have h2 := hf.p2; have h1 := hf.p1
  go_enter Try.func28, Try.ntmps28
  go_wp2_with (first | ((with_reducible refine (isForthAndBack_yes _ _ _ _ hf hb).mono ?_); rintro e w' ⟨rfl, rfl⟩))
  refine (lastForthAndBack_any n f b _ (by omega) (by omega) f1 f2 b1 b2).mono ?_
  rintro e w1 ⟨rfl, hk⟩
  have HK := Lib.hid hk
  clear hk
  go_wp2
  go_ret2
  exact ⟨rfl, HK.out⟩
theorem iLastOfBoth_no (p f b : Int) (W : World) (h : ¬ (Asked p f ∧ Asked p b)) : Calls Try.prog 28 #[.int .i64 p, .int .i64 f, .int .i64 b] W (IntB W 0 false) := by
  go_enter Try.func28, Try.ntmps28
  go_wp2_with (first | ((with_reducible refine (isForthAndBack_no _ _ _ _ h).mono ?_); rintro e w' ⟨rfl, rfl⟩))
  go_ret2
  exact ⟨rfl, Kp.refl _ _⟩

set_option maxRecDepth 100000 in
set_option maxHeartbeats 3200000 in
theorem iTurningOrder_of (p f : Int) (zs : List Int) (q : Bool) (W : World) (h : Hid (Calls Try.prog 26 #[.int .i64 p, .int .i64 f, .int .i64 f] W (ListB W zs q))) : Calls Try.prog 18 #[.int .i64 p, .int .i64 f] W (ListB W zs q) := by
  go_enter Try.func18, Try.ntmps18
  go_wp2_with fail
  refine h.out.mono ?_
  rintro e w1 ⟨v, rfl, hs, hk⟩
  have HS := Lib.hid hs
  have HK := Lib.hid hk
  clear hs hk
  go_wp2
  go_ret2
  exact ⟨v, rfl, HS.out, HK.out⟩

set_option maxRecDepth 100000 in
set_option maxHeartbeats 3200000 in
theorem iTurningLast_of (p f : Int) (z : Int) (q : Bool) (W : World) (h : Hid (Calls Try.prog 28 #[.int .i64 p, .int .i64 f, .int .i64 f] W (IntB W z q))) : Calls Try.prog 20 #[.int .i64 p, .int .i64 f] W (IntB W z q) := by
  go_enter Try.func20, Try.ntmps20
  go_wp2_with fail
  refine h.out.mono ?_
  rintro e w1 ⟨rfl, hk⟩
  have HK := Lib.hid hk
  clear hk
  go_wp2
  go_ret2
  exact ⟨rfl, HK.out⟩

set_option maxRecDepth 100000 in
set_option maxHeartbeats 3200000 in
theorem iTurningTurn_yes (n : Nat) (f u : Int) (W : World) (ho : One n f u) : Calls Try.prog 22 #[.int .i64 n, .int .i64 f, .int .i64 u] W (IntB W (fndD u (boT f f (marks 0 n) n) 0) true) := by
  have h := ho.a
  have f1 := h.k1; have f2 := h.k2; have h2 := h.p2; have h1 := h.p1; have u0 : 0 ≤ u := ho.b1
  have u1 : u ≤ (n : Int) - 1 := by have := ho.b2; omega
  have wp : IntKind.i64.wrap ((n : Int) - 1) = (n : Int) - 1 := IntWalk.i64_in _ (by omega)
  go_enter Try.func22, Try.ntmps22
  go_wp2_with (first | ((with_reducible refine (isCount_yes _ _ _ h).mono ?_); rintro e w' ⟨rfl, rfl⟩) | ((with_reducible refine (within_yes u _ _ _ u0 u1).mono ?_); rintro e w' ⟨rfl, rfl⟩))
  refine (orderForthAndBack_any n f f _ (by omega) (by omega) f1 f2 f1 f2).mono ?_
  rintro e w1 ⟨v, rfl, hs, hk⟩
  have HS := Lib.hid hs
  have HK := Lib.hid hk
  clear hs hk
  go_wp2_with fail
  refine (index_any v _ u w1 HS.out.rd (by rw [boT_length]; omega)).mono ?_
  rintro e w' ⟨rfl, rfl⟩
  go_wp2
  go_ret2
  exact ⟨rfl, HK.out⟩
theorem iTurningTurn_no (p f u : Int) (W : World) (h : ¬ One p f u) : Calls Try.prog 22 #[.int .i64 p, .int .i64 f, .int .i64 u] W (IntB W 0 false) := by
  by_cases ha : Asked p f
  · have h1 := ha.p1; have h2 := ha.p2
    have hu : u < 0 ∨ p - 1 < u := by
      by_cases e : u < 0
      · exact .inl e
      · by_cases e2 : p - 1 < u
        · exact .inr e2
        · exact (h ⟨ha, by omega, by omega⟩).elim
    have wp : IntKind.i64.wrap (p - 1) = p - 1 := IntWalk.i64_in _ (by omega)
    go_enter Try.func22, Try.ntmps22
    go_wp2_with (first | ((with_reducible refine (isCount_yes p f _ ha).mono ?_); rintro e w' ⟨rfl, rfl⟩) | ((with_reducible refine (within_no u _ _ _ hu).mono ?_); rintro e w' ⟨rfl, rfl⟩))
    go_ret2
    exact ⟨rfl, Kp.refl _ _⟩
  · go_enter Try.func22, Try.ntmps22
    go_wp2_with (first | ((with_reducible refine (isCount_no p f _ ha).mono ?_); rintro e w' ⟨rfl, rfl⟩))
    go_ret2
    exact ⟨rfl, Kp.refl _ _⟩

theorem iMirrorPerson_yes (p u : Int) (W : World) (ho : One p 1 u) : Calls Try.prog 30 #[.int .i64 p, .int .i64 u] W (IntB W (p - 1 - u) true) := by
  have h1 : 1 ≤ p := ho.a.p1
  have h2 : p ≤ 200 := ho.a.p2
  have h3 : 0 ≤ u := ho.b1
  have h4 : u ≤ p - 1 := by have := ho.b2; omega
  have e1 : IntKind.i64.wrap (p - 1) = p - 1 := IntWalk.i64_in _ (by omega)
  have e2 : IntKind.i64.wrap (p - 1 - u) = p - 1 - u := IntWalk.i64_in _ (by omega)
  go_enter Try.func30, Try.ntmps30
  go_wp2_with (first | ((with_reducible refine (within_yes p _ _ _ h1 h2).mono ?_); rintro e w' ⟨rfl, rfl⟩) | ((with_reducible refine (within_yes u _ _ _ h3 h4).mono ?_); rintro e w' ⟨rfl, rfl⟩))
  go_ret2
  exact ⟨rfl, Kp.refl _ _⟩
theorem iMirrorPerson_no (p u : Int) (W : World) (h : ¬ One p 1 u) : Calls Try.prog 30 #[.int .i64 p, .int .i64 u] W (IntB W 0 false) := by
  by_cases ha : 1 ≤ p ∧ p ≤ 200
  · obtain ⟨h1, h2⟩ := ha
    have hu : u < 0 ∨ p - 1 < u := by
      by_cases e : u < 0
      · exact .inl e
      · by_cases e2 : p - 1 < u
        · exact .inr e2
        · exact (h ⟨⟨h1, h2, by omega, by omega⟩, by omega, by omega⟩).elim
    have e1 : IntKind.i64.wrap (p - 1) = p - 1 := IntWalk.i64_in _ (by omega)
    go_enter Try.func30, Try.ntmps30
    go_wp2_with (first | ((with_reducible refine (within_yes p _ _ _ h1 h2).mono ?_); rintro e w' ⟨rfl, rfl⟩) | ((with_reducible refine (within_no u _ _ _ hu).mono ?_); rintro e w' ⟨rfl, rfl⟩))
    go_ret2
    exact ⟨rfl, Kp.refl _ _⟩
  · have hp : p < 1 ∨ 200 < p := by omega
    go_enter Try.func30, Try.ntmps30
    go_wp2_with (first | ((with_reducible refine (within_no p _ _ _ hp).mono ?_); rintro e w' ⟨rfl, rfl⟩))
    go_ret2
    exact ⟨rfl, Kp.refl _ _⟩

theorem tabB_get (n s j : Nat) (h : j < s) : (tabB n s)[j]? = some (lastB ((j : Int) + 1) ((j : Int) + 1) n) := by unfold tabB; simp [h]
theorem iTurningTable_no (p s : Int) (W : World) (h : ¬ (1 ≤ p ∧ p ≤ 200 ∧ 1 ≤ s ∧ s ≤ 200)) : Calls Try.prog 24 #[.int .i64 p, .int .i64 s] W (ListB W [] false) := by
  go_enter Try.func24, Try.ntmps24
  go_wp2_with (first | ((with_reducible refine (isTable_no' p s _ h).mono ?_); rintro e w' ⟨rfl, rfl⟩))
  go_ret2
  exact ⟨.slice none 0 0, rfl, Sl.nil _ _, Kp.refl _ _⟩
set_option maxRecDepth 100000 in
set_option maxHeartbeats 3200000 in
theorem iTurningTable_yes (n s : Nat) (w0 : World) (n1 : 1 ≤ n) (n2 : n ≤ 200) (s1 : 1 ≤ s) (s2 : s ≤ 200) : Calls Try.prog 24 #[.int .i64 n, .int .i64 s] w0 (ListB w0 (tabB n s) true) := by
  obtain ⟨i0, hi0, hz0, hz1, hz2⟩ := info_parts intInfo
  have p0 : 1 ≤ (n : Int) := by omega
  have p1 : (n : Int) ≤ 200 := by omega
  have q0 : 1 ≤ (s : Int) := by omega
  have q1 : (s : Int) ≤ 200 := by omega
  obtain ⟨A, hA⟩ : ∃ A, tabB n s = A := ⟨_, rfl⟩
  have hAl : A.length = s := by rw [← hA, tabB_length]
  have HAG : Hid (∀ j, j < s → A[j]? = some (lastB ((j : Int) + 1) ((j : Int) + 1) n)) := Lib.hid (fun j hj => by rw [← hA]; exact tabB_get n s j hj)
  have HAL := Lib.hid hAl
  have HBL : Hid (A.length = (List.replicate s (0 : Int)).length) := Lib.hid (by rw [List.length_replicate, hAl])
  rw [hA]
  clear hA hAl
  go_enter Try.func24, Try.ntmps24
  go_wp2_with (first | ((with_reducible refine (isTable_yes' _ _ _ p0 p1 q0 q1).mono ?_); rintro e w' ⟨rfl, rfl⟩) | (at_make; refine wpList_make_full _ rfl _ _ 22 rfl w0.heap.size 3 i0 (.int .i64 0) 1 Try.underlying22 hi0 hz0 hz1 _ _ _ _ s rfl rfl rfl rfl (by rw [hz2]; omega) (by unfold maxLen; omega) (Nat.le_refl _) ?_))
  intro w3 hown hgrow
  have hk3 : Kp Nw w0 w3 := (Kp.refl Nw _).grown hgrow (fun g hg => by cases hg)
  have HS0 := Lib.hid (Sl.zeros hown)
  obtain ⟨gm, hgm⟩ : ∃ gm, gm = w0.heap.size := ⟨_, rfl⟩
  have HK3 := Lib.hid hk3
  have hl3 : gm < w3.heap.size := by rw [hgm]; exact (World.ownsRow.lt hown _ rfl).2
  rw [← hgm] at HS0 ⊢
  have HGM := Lib.hid hgm
  clear hown hgrow hk3 hgm
  go_wp2
  go_loopw [7, 16] (fun _ i wr => ∃ j : Nat, j ≤ s ∧ i = .int .i64 j ∧ SlAt wr gm gm s s (fill A (List.replicate s (0 : Int)) j) ∧ Kp (fun b => b = gm) w3 wr) (fun _ i _ => s - (intOf i).toNat)
  case atStart => exact ⟨0, Nat.zero_le _, rfl, by rw [fill_zero]; exact HS0.out, Kp.refl _ _⟩
  case round =>
    rename_i wr
    obtain ⟨j, hj, rfl, hs, hk⟩ := hrel
    have HS := Lib.hid hs
    have HK := Lib.hid hk
    by_cases hlt : j < s
    · have t1 : (j : Int) < s := by omega
      have w2 : IntKind.i64.wrap ((j : Int) + 1) = (j : Int) + 1 := IntWalk.i64_in _ (by omega)
      have HF := Lib.hid (fill_set A (List.replicate s (0 : Int)) j (lastB ((j : Int) + 1) ((j : Int) + 1) n) HBL.out (by rw [HAL.out]; exact hlt) (HAG.out j hlt))
      have hgr : gm < wr.heap.size := by have := hk.size; omega
      clear hs hk
      go_wp2_with fail
      refine (lastForthAndBack_any n ((j : Int) + 1) ((j : Int) + 1) wr n1 n2 (by omega) (by omega) (by omega) (by omega)).mono ?_
      rintro e w5 ⟨rfl, hk5⟩
      have hs5 := HS.out.kq hk5 (fun h => h)
      have cs := hs5.cell j hlt
      have fs := hs5.frozen j
      have HS5 := Lib.hid hs5
      have HK5 := Lib.hid (HK.out.nw hk5)
      clear hs5 hk5
      go_wp2
      go_roundw
      case rel => exact ⟨j + 1, by omega, by go_num, by rw [← HF.out]; exact HS5.out.store j _, HK5.out.setCell (.inl rfl) _⟩
      case measure => simp [intOf] <;> omega
    · have e : j = s := by omega
      subst e
      have t1 : ¬ (j : Int) < j := by omega
      have HSF := Lib.hid (Sl.from hs.sl (show w0.heap.size ≤ gm by have := HGM.out; omega))
      have HFA : Hid (fill A (List.replicate j (0 : Int)) j = A) := Lib.hid (by have := fill_all A (List.replicate j (0 : Int)) HBL.out; rw [HAL.out] at this; exact this)
      have HKF := Lib.hid (HK3.out.after hk (fun g hg h => by have h9 : g = gm := h; have := HGM.out; omega))
      clear hs hk
      go_wp2
      go_ret2
      exact ⟨.slice (some ⟨gm, 0, none⟩) j j, rfl, by rw [← HFA.out]; exact HSF.out, HKF.out⟩

set_option maxRecDepth 100000 in
set_option maxHeartbeats 3200000 in
theorem sStepsForthSame_yes (n s : Nat) (W : World) (h : Asked n 1) (s2 : s ≤ 200) : Calls Try.prog 31 #[.int .i64 n, .int .i64 s] W (ListB W (sameB n s) true) := by
  have p0 := h.p1; have p1 := h.p2
  have n1 : 1 ≤ n := by omega
  have n2 : n ≤ 200 := by omega
  have q0 : (0 : Int) ≤ s := by omega
  have q1 : (s : Int) ≤ 200 := by omega
  obtain ⟨d, hd⟩ : ∃ d, n - 1 = d := ⟨_, rfl⟩
  have e1 : IntKind.i64.wrap ((n : Int) - 1) = (d : Int) := by rw [IntWalk.i64_in _ (by omega)]; omega
  have hdn : d < n := by omega
  have d0 : (0 : Int) ≤ d := Int.natCast_nonneg _
  have HD := Lib.hid hd
  clear hd
  go_enter Try.func31, Try.ntmps31
  go_wp2_with (first | ((with_reducible refine (ciAsked_yes _ _ _ h).mono ?_); rintro e w' ⟨rfl, rfl⟩) | ((with_reducible refine (l1In_yes (s : Int) _ _ _ q0 q1).mono ?_); rintro e w' ⟨rfl, rfl⟩))
  go_loopw [6, 7] (fun o i wr => ∃ (j : Nat) (r : Value), j ≤ s ∧ i = .int .i64 ((j : Int) + 1) ∧ r = o ∧ Sl wr W.heap.size r (sameB n j) ∧ Kp Nw W wr) (fun _ i _ => s + 1 - (intOf i).toNat)
  case atStart => exact ⟨0, _, Nat.zero_le _, rfl, rfl, Sl.nil _ _, Kp.refl _ _⟩
  case round =>
    rename_i wr
    obtain ⟨j, r, hj, rfl, rfl, hr, hk⟩ := hrel
    have HR := Lib.hid hr
    have HK := Lib.hid hk
    have j0 : (0 : Int) ≤ j := Int.natCast_nonneg _
    have hzz : W.heap.size ≤ wr.heap.size := HK.out.size
    have hrl : (sameB n j).length ≤ 1000 := by have := sameB_le n j; omega
    clear hr hk
    by_cases hlt : j < s
    · have t1 : (j : Int) + 1 ≤ s := by omega
      have w2 : IntKind.i64.wrap ((j : Int) + 1 + 1) = (j : Int) + 1 + 1 := IntWalk.i64_in _ (by omega)
      obtain ⟨x, hx⟩ : ∃ x, lastB ((j : Int) + 1) ((j : Int) + 1) n = x := ⟨_, rfl⟩
      obtain ⟨y, hy⟩ : ∃ y, lastN ((j : Int) + 1) (n - 1) = y := ⟨_, rfl⟩
      have HX : Hid ((boT ((j : Int) + 1) ((j : Int) + 1) (marks 0 n) n).getD d 0 = x) := Lib.hid (by rw [← hx, lastB, HD.out])
      have HY := Lib.hid hy
      have hst : sameB n (j + 1) = if x = y then sameB n j ++ [(j : Int) + 1] else sameB n j := by rw [sameB, hx, hy]
      clear hx hy
      by_cases hxy : x = y
      · have HT : Hid (sameB n (j + 1) = sameB n j ++ [(j : Int) + 1]) := Lib.hid (by rw [hst, if_pos hxy])
        clear hst
        subst hxy
        go_wp2_with fail
        go_region_law (first
          | (go_simp
             go_at_call 42
             refine (boOrder_any n ((j : Int) + 1) ((j : Int) + 1) _ (by omega) (by omega) (by omega) (by omega) (by omega)).mono ?_
             rintro e w1 ⟨v, rfl, hs, hk⟩
             obtain ⟨g, cap, rfl, hat, hc, _, _, _⟩ := hs.at_ (by rw [boT_length]; omega)
             rw [boT_length] at hat hc ⊢
             have cs := hat.cell d hdn
             rw [HX.out] at cs
             have hkk := (HK.out.drew).nw hk
             have hbb := (HR.out.drewN 1).below hk.below'
             clear hs hk hat)
          | (go_simp
             go_at_call 53
             refine (ciLast_any n ((j : Int) + 1) _ (by omega) (by omega) (by omega) (by omega)).mono ?_
             rw [HY.out]
             rintro e w' ⟨rfl, rfl⟩)
          | fail)
        all_goals
          have HK1 := Lib.hid hkk
          have HR1 := Lib.hid hbb
          have hz1 : W.heap.size ≤ w1.heap.size := HK1.out.size
          clear hkk hbb
          go_wp2_with (first | (at_builtin; refine wpList_app _ rfl (.tmp 33) (.tmp 35) rfl W.heap.size r _ (sameB n j) [(j : Int) + 1] rfl rfl (HR1.out.below ((Kp.refl Nw w1).alloc _).below') (Rd.one (g := w1.heap.size) (by simp)) nil_one (by simp; omega) (by simp; omega) ?_))
          intro r' w3 hs3 hk3 hat
          have HS3 := Lib.hid hs3
          have HK3 := Lib.hid ((HK1.out.nw (.al _ _)).own (HR1.out.below (Kp.al _ _).below') hk3)
          clear hs3 hk3 hat
          go_wp2
          go_roundw
          case rel => exact ⟨j + 1, r', by omega, by go_num, rfl, by rw [HT.out]; exact HS3.out, HK3.out⟩
          case measure => simp [intOf] <;> omega
      · have HT : Hid (sameB n (j + 1) = sameB n j) := Lib.hid (by rw [hst, if_neg hxy])
        clear hst
        go_wp2_with fail
        go_region_law (first
          | (go_simp
             go_at_call 42
             refine (boOrder_any n ((j : Int) + 1) ((j : Int) + 1) _ (by omega) (by omega) (by omega) (by omega) (by omega)).mono ?_
             rintro e w1 ⟨v, rfl, hs, hk⟩
             obtain ⟨g, cap, rfl, hat, hc, _, _, _⟩ := hs.at_ (by rw [boT_length]; omega)
             rw [boT_length] at hat hc ⊢
             have cs := hat.cell d hdn
             rw [HX.out] at cs
             have hkk := (HK.out.drew).nw hk
             have hbb := (HR.out.drewN 1).below hk.below'
             clear hs hk hat)
          | (go_simp
             go_at_call 53
             refine (ciLast_any n ((j : Int) + 1) _ (by omega) (by omega) (by omega) (by omega)).mono ?_
             rw [HY.out]
             rintro e w' ⟨rfl, rfl⟩)
          | fail)
        all_goals
          have HK1 := Lib.hid hkk
          have HR1 := Lib.hid hbb
          have hz1 : W.heap.size ≤ w1.heap.size := HK1.out.size
          clear hkk hbb
          go_wp2
          go_roundw
          case rel => exact ⟨j + 1, r, by omega, by go_num, rfl, by rw [HT.out]; exact HR1.out, HK1.out⟩
          case measure => simp [intOf] <;> omega
    · have e : j = s := by omega
      subst e
      have t1 : ¬ (j : Int) + 1 ≤ j := by omega
      go_wp2
      go_ret2
      exact ⟨r, rfl, HR.out, HK.out⟩

set_option maxRecDepth 100000 in
set_option maxHeartbeats 3200000 in
theorem iStepsForthSame_yes (n s : Nat) (W : World) (h : Asked n 1) (s2 : s ≤ 200) : Calls Try.prog 32 #[.int .i64 n, .int .i64 s] W (ListB W (sameB n s) true) := by
  have p0 := h.p1; have p1 := h.p2
  have n1 : 1 ≤ n := by omega
  have n2 : n ≤ 200 := by omega
  have q0 : (0 : Int) ≤ s := by omega
  have q1 : (s : Int) ≤ 200 := by omega
  obtain ⟨d, hd⟩ : ∃ d, n - 1 = d := ⟨_, rfl⟩
  have e1 : IntKind.i64.wrap ((n : Int) - 1) = (d : Int) := by rw [IntWalk.i64_in _ (by omega)]; omega
  have hdn : d < n := by omega
  have d0 : (0 : Int) ≤ d := Int.natCast_nonneg _
  have HD := Lib.hid hd
  clear hd
  go_enter Try.func32, Try.ntmps32
  go_wp2_with (first | ((with_reducible refine (within_yes (n : Int) _ _ _ p0 p1).mono ?_); rintro e w' ⟨rfl, rfl⟩) | ((with_reducible refine (within_yes (s : Int) _ _ _ q0 q1).mono ?_); rintro e w' ⟨rfl, rfl⟩))
  go_loopw [6, 7] (fun o i wr => ∃ (j : Nat) (r : Value), j ≤ s ∧ i = .int .i64 ((j : Int) + 1) ∧ r = o ∧ Sl wr W.heap.size r (sameB n j) ∧ Kp Nw W wr) (fun _ i _ => s + 1 - (intOf i).toNat)
  case atStart => exact ⟨0, _, Nat.zero_le _, rfl, rfl, Sl.nil _ _, Kp.refl _ _⟩
  case round =>
    rename_i wr
    obtain ⟨j, r, hj, rfl, rfl, hr, hk⟩ := hrel
    have HR := Lib.hid hr
    have HK := Lib.hid hk
    have j0 : (0 : Int) ≤ j := Int.natCast_nonneg _
    have hzz : W.heap.size ≤ wr.heap.size := HK.out.size
    have hrl : (sameB n j).length ≤ 1000 := by have := sameB_le n j; omega
    clear hr hk
    by_cases hlt : j < s
    · have t1 : (j : Int) + 1 ≤ s := by omega
      have w2 : IntKind.i64.wrap ((j : Int) + 1 + 1) = (j : Int) + 1 + 1 := IntWalk.i64_in _ (by omega)
      obtain ⟨x, hx⟩ : ∃ x, lastB ((j : Int) + 1) ((j : Int) + 1) n = x := ⟨_, rfl⟩
      obtain ⟨y, hy⟩ : ∃ y, lastN ((j : Int) + 1) (n - 1) = y := ⟨_, rfl⟩
      have HX := Lib.hid hx
      have HY := Lib.hid hy
      have hst : sameB n (j + 1) = if x = y then sameB n j ++ [(j : Int) + 1] else sameB n j := by rw [sameB, hx, hy]
      clear hx hy
      by_cases hxy : x = y
      · have HT : Hid (sameB n (j + 1) = sameB n j ++ [(j : Int) + 1]) := Lib.hid (by rw [hst, if_pos hxy])
        clear hst
        subst hxy
        go_wp2_with fail
        refine (lastForthAndBack_any n ((j : Int) + 1) ((j : Int) + 1) wr n1 n2 (by omega) (by omega) (by omega) (by omega)).mono ?_
        rw [HX.out]
        rintro e w1 ⟨rfl, hk⟩
        have HK1 := Lib.hid (HK.out.nw hk)
        have HR1 := Lib.hid (HR.out.below hk.below')
        have hz1 : W.heap.size ≤ w1.heap.size := HK1.out.size
        clear hk
        go_wp2_with fail
        refine (lastByFormula_any n ((j : Int) + 1) w1 n1 (by omega) (by omega) (by omega)).mono ?_
        rw [HY.out]
        rintro e w' ⟨rfl, rfl⟩
        go_wp2_with (first | (at_builtin; refine wpList_app _ rfl (.tmp 29) (.tmp 31) rfl W.heap.size r _ (sameB n j) [(j : Int) + 1] rfl rfl (HR1.out.below ((Kp.refl Nw w1).alloc _).below') (Rd.one (g := w1.heap.size) (by simp)) nil_one (by simp; omega) (by simp; omega) ?_))
        intro r' w3 hs3 hk3 hat
        have HS3 := Lib.hid hs3
        have HK3 := Lib.hid ((HK1.out.nw (.al _ _)).own (HR1.out.below (Kp.al _ _).below') hk3)
        clear hs3 hk3 hat
        go_wp2
        go_roundw
        case rel => exact ⟨j + 1, r', by omega, by go_num, rfl, by rw [HT.out]; exact HS3.out, HK3.out⟩
        case measure => simp [intOf] <;> omega
      · have HT : Hid (sameB n (j + 1) = sameB n j) := Lib.hid (by rw [hst, if_neg hxy])
        clear hst
        go_wp2_with fail
        refine (lastForthAndBack_any n ((j : Int) + 1) ((j : Int) + 1) wr n1 n2 (by omega) (by omega) (by omega) (by omega)).mono ?_
        rw [HX.out]
        rintro e w1 ⟨rfl, hk⟩
        have HK1 := Lib.hid (HK.out.nw hk)
        have HR1 := Lib.hid (HR.out.below hk.below')
        have hz1 : W.heap.size ≤ w1.heap.size := HK1.out.size
        clear hk
        go_wp2_with fail
        refine (lastByFormula_any n ((j : Int) + 1) w1 n1 (by omega) (by omega) (by omega)).mono ?_
        rw [HY.out]
        rintro e w' ⟨rfl, rfl⟩
        go_wp2
        go_roundw
        case rel => exact ⟨j + 1, r, by omega, by go_num, rfl, by rw [HT.out]; exact HR1.out, HK1.out⟩
        case measure => simp [intOf] <;> omega
    · have e : j = s := by omega
      subst e
      have t1 : ¬ (j : Int) + 1 ≤ j := by omega
      go_wp2
      go_ret2
      exact ⟨r, rfl, HR.out, HK.out⟩

theorem sStepsForthSame_no (p s : Int) (W : World) (h : ¬ (Asked p 1 ∧ 0 ≤ s ∧ s ≤ 200)) : Calls Try.prog 31 #[.int .i64 p, .int .i64 s] W (ListB W [] false) := by
  by_cases ha : Asked p 1
  · have hs : s < 0 ∨ 200 < s := by
      by_cases e : s < 0
      · exact .inl e
      · by_cases e2 : 200 < s
        · exact .inr e2
        · exact (h ⟨ha, by omega, by omega⟩).elim
    go_enter Try.func31, Try.ntmps31
    go_wp2_with (first | ((with_reducible refine (ciAsked_yes _ _ _ ha).mono ?_); rintro e w' ⟨rfl, rfl⟩) | ((with_reducible refine (l1In_no s _ _ _ hs).mono ?_); rintro e w' ⟨rfl, rfl⟩))
    go_ret2
    exact ⟨.slice none 0 0, rfl, Sl.nil _ _, Kp.refl _ _⟩
  · go_enter Try.func31, Try.ntmps31
    go_wp2_with (first | ((with_reducible refine (ciAsked_no _ _ _ ha).mono ?_); rintro e w' ⟨rfl, rfl⟩))
    go_ret2
    exact ⟨.slice none 0 0, rfl, Sl.nil _ _, Kp.refl _ _⟩
theorem iStepsForthSame_no (p s : Int) (W : World) (h : ¬ (Asked p 1 ∧ 0 ≤ s ∧ s ≤ 200)) : Calls Try.prog 32 #[.int .i64 p, .int .i64 s] W (ListB W [] false) := by
  by_cases ha : 1 ≤ p ∧ p ≤ 200
  · obtain ⟨p0, p1⟩ := ha
    have hs : s < 0 ∨ 200 < s := by
      by_cases e : s < 0
      · exact .inl e
      · by_cases e2 : 200 < s
        · exact .inr e2
        · exact (h ⟨⟨p0, p1, by omega, by omega⟩, by omega, by omega⟩).elim
    go_enter Try.func32, Try.ntmps32
    go_wp2_with (first | ((with_reducible refine (within_yes p _ _ _ p0 p1).mono ?_); rintro e w' ⟨rfl, rfl⟩) | ((with_reducible refine (within_no s _ _ _ hs).mono ?_); rintro e w' ⟨rfl, rfl⟩))
    go_ret2
    exact ⟨.slice none 0 0, rfl, Sl.nil _ _, Kp.refl _ _⟩
  · have hp : p < 1 ∨ 200 < p := by omega
    go_enter Try.func32, Try.ntmps32
    go_wp2_with (first | ((with_reducible refine (within_no p _ _ _ hp).mono ?_); rintro e w' ⟨rfl, rfl⟩))
    go_ret2
    exact ⟨.slice none 0 0, rfl, Sl.nil _ _, Kp.refl _ _⟩

theorem lawTurningOrder (p f : Int) (W : World) : Calls Try.prog 4 #[.int .i64 p, .int .i64 f] W fun e w' => e = .returned (.bool true) ∧ Kp Nw W w' := by
  by_cases h : Asked p f
  · obtain ⟨n, rfl⟩ : ∃ n : Nat, p = n := ⟨p.toNat, by have := h.p1; omega⟩
    exact lawTurningOrder_of (n : Int) f _ _ W (by rw [boT_length]; have := h.p2; omega) (Lib.hid fun W => sTurningOrder_yes n f W h) (Lib.hid fun W => iTurningOrder_of n f _ _ W (Lib.hid (iForthAndBack_yes n f f W h h)))
  · exact lawTurningOrder_of p f _ _ W (Nat.zero_le _) (Lib.hid fun W => sTurningOrder_no p f W h) (Lib.hid fun W => iTurningOrder_of p f _ _ W (Lib.hid (iForthAndBack_no p f f W (fun x => h x.1))))

theorem lawTurningLast (p f : Int) (W : World) : Calls Try.prog 5 #[.int .i64 p, .int .i64 f] W fun e w' => e = .returned (.bool true) ∧ Kp Nw W w' := by
  by_cases h : Asked p f
  · obtain ⟨n, rfl⟩ : ∃ n : Nat, p = n := ⟨p.toNat, by have := h.p1; omega⟩
    exact lawTurningLast_of (n : Int) f _ _ W (Lib.hid fun W => sTurningLast_yes n f W h) (Lib.hid fun W => iTurningLast_of n f _ _ W (Lib.hid (iLastOfBoth_yes n f f W h h)))
  · exact lawTurningLast_of p f _ _ W (Lib.hid fun W => sTurningLast_no p f W h) (Lib.hid fun W => iTurningLast_of p f _ _ W (Lib.hid (iLastOfBoth_no p f f W (fun x => h x.1))))

theorem lawForthAndBack (p f b : Int) (W : World) : Calls Try.prog 8 #[.int .i64 p, .int .i64 f, .int .i64 b] W fun e w' => e = .returned (.bool true) ∧ Kp Nw W w' := by
  by_cases h : Asked p f ∧ Asked p b
  · obtain ⟨n, rfl⟩ : ∃ n : Nat, p = n := ⟨p.toNat, by have := h.1.p1; omega⟩
    exact lawForthAndBack_of (n : Int) f b _ _ W (by rw [boT_length]; have := h.1.p2; omega) (Lib.hid fun W => sForthAndBack_yes n f b W h.1 h.2) (Lib.hid fun W => iForthAndBack_yes n f b W h.1 h.2)
  · exact lawForthAndBack_of p f b _ _ W (Nat.zero_le _) (Lib.hid fun W => sForthAndBack_no p f b W h) (Lib.hid fun W => iForthAndBack_no p f b W h)

theorem lawLastOfBoth (p f b : Int) (W : World) : Calls Try.prog 9 #[.int .i64 p, .int .i64 f, .int .i64 b] W fun e w' => e = .returned (.bool true) ∧ Kp Nw W w' := by
  by_cases h : Asked p f ∧ Asked p b
  · obtain ⟨n, rfl⟩ : ∃ n : Nat, p = n := ⟨p.toNat, by have := h.1.p1; omega⟩
    exact lawLastOfBoth_of (n : Int) f b _ _ W (Lib.hid fun W => sLastOfBoth_yes n f b W h.1 h.2) (Lib.hid fun W => iLastOfBoth_yes n f b W h.1 h.2)
  · exact lawLastOfBoth_of p f b _ _ W (Lib.hid fun W => sLastOfBoth_no p f b W h) (Lib.hid fun W => iLastOfBoth_no p f b W h)

theorem lawTurningTurn (p f u : Int) (W : World) : Calls Try.prog 6 #[.int .i64 p, .int .i64 f, .int .i64 u] W fun e w' => e = .returned (.bool true) ∧ Kp Nw W w' := by
  by_cases h : One p f u
  · obtain ⟨n, rfl⟩ : ∃ n : Nat, p = n := ⟨p.toNat, by have := h.a.p1; omega⟩
    exact lawTurningTurn_of (n : Int) f u _ _ W (Lib.hid fun W => sTurningTurn_yes n f u W h) (Lib.hid fun W => iTurningTurn_yes n f u W h)
  · exact lawTurningTurn_of p f u _ _ W (Lib.hid fun W => sTurningTurn_no p f u W h) (Lib.hid fun W => iTurningTurn_no p f u W h)

theorem lawMirrorPerson (p u : Int) (W : World) : Calls Try.prog 10 #[.int .i64 p, .int .i64 u] W fun e w' => e = .returned (.bool true) ∧ Kp Nw W w' := by
  by_cases h : One p 1 u
  · skip
    exact lawMirrorPerson_of p u _ _ W (Lib.hid fun W => sMirrorPerson_yes p u W h) (Lib.hid fun W => iMirrorPerson_yes p u W h)
  · exact lawMirrorPerson_of p u _ _ W (Lib.hid fun W => sMirrorPerson_no p u W h) (Lib.hid fun W => iMirrorPerson_no p u W h)

theorem lawTurningTable (p s : Int) (W : World) : Calls Try.prog 7 #[.int .i64 p, .int .i64 s] W fun e w' => e = .returned (.bool true) ∧ Kp Nw W w' := by
  by_cases h : Asked p 1 ∧ 1 ≤ s ∧ s ≤ 200
  · obtain ⟨n, rfl⟩ : ∃ n : Nat, p = n := ⟨p.toNat, by have := h.1.p1; omega⟩
    obtain ⟨t, rfl⟩ : ∃ t : Nat, s = t := ⟨s.toNat, by have := h.2.1; omega⟩
    have h1 := h.1.p1; have h2 := h.1.p2; have h3 := h.2.1; have h4 := h.2.2
    exact lawTurningTable_of (n : Int) (t : Int) _ _ W (by rw [tabB_length]; omega) (Lib.hid fun W => sTurningTable_yes n t W h.1 (by omega) (by omega)) (Lib.hid fun W => iTurningTable_yes n t W (by omega) (by omega) (by omega) (by omega))
  · exact lawTurningTable_of p s _ _ W (Nat.zero_le _) (Lib.hid fun W => sTurningTable_no p s W h) (Lib.hid fun W => iTurningTable_no p s W (fun x => h ⟨⟨x.1, x.2.1, by omega, by omega⟩, x.2.2⟩))

theorem lawStepsForthSame (p s : Int) (W : World) : Calls Try.prog 11 #[.int .i64 p, .int .i64 s] W fun e w' => e = .returned (.bool true) ∧ Kp Nw W w' := by
  by_cases h : Asked p 1 ∧ 0 ≤ s ∧ s ≤ 200
  · obtain ⟨n, rfl⟩ : ∃ n : Nat, p = n := ⟨p.toNat, by have := h.1.p1; omega⟩
    obtain ⟨t, rfl⟩ : ∃ t : Nat, s = t := ⟨s.toNat, by have := h.2.1; omega⟩
    have h1 := h.1.p1; have h2 := h.1.p2; have h3 := h.2.1; have h4 := h.2.2
    exact lawStepsForthSame_of (n : Int) (t : Int) _ _ W (by have := sameB_le n t; omega) (Lib.hid fun W => sStepsForthSame_yes n t W h.1 (by omega)) (Lib.hid fun W => iStepsForthSame_yes n t W h.1 (by omega))
  · exact lawStepsForthSame_of p s _ _ W (Nat.zero_le _) (Lib.hid fun W => sStepsForthSame_no p s W h) (Lib.hid fun W => iStepsForthSame_no p s W h)
end Go.Proofs.Ytgahlpniciafkaa
