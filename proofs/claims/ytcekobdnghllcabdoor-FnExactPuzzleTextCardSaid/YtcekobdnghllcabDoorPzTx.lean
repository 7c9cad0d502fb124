/- PuzzleText, in the program; in a world that holds the table of the powers of ten; no other condition. -/
import Derived.Test.YtcekobdnghllcabDoorItoa
import Derived.Test.YtcekobdnghllcabDoorPzTxM
import Derived.Test.YtcekobdnghllcabDoorMIn
import Derived.Laws.OwnMore
namespace Go.Proofs.YtcekobdnghllcabDoor
open Go.ChangeShapes Go.WideShapes Go.ChangeAt Go.RowKit

theorem join9_any (L n : Nat) (ls : List (List UInt8)) (w : World) (h : Ss w L n ls) (hn : n ≤ 1000) (hl : (Lib.join ls [46]).length ≤ 100000) :
    Calls Tryd.prog 15 #[.slice (some ⟨L, 0, none⟩) n n, .string ⟨#[46]⟩] w fun e w' => e = .returned (.string ⟨(Lib.join ls [46]).toArray⟩) ∧ Kp Nw w w' := by
  obtain ⟨ys, hys⟩ : ∃ ys : List ByteArray, ys = ls.map fun l => ByteArray.mk l.toArray := ⟨_, rfl⟩
  have hm : ys.map (·.data.toList) = ls := by rw [hys, List.map_map]; simp [Function.comp_def]
  have hlen : ys.length = n := by rw [hys, List.length_map]; exact h.1
  have hc : ∀ (j : Nat) x, ys[j]? = some x → w.cell? ⟨L, 0 + j, none⟩ = some (.string x) := by
    intro j x hx
    have hj : j < n := by
      rcases Nat.lt_or_ge j ys.length with a | a
      · omega
      · rw [List.getElem?_eq_none a] at hx; cases hx
    have hj' : j < ls.length := by rw [h.1]; exact hj
    rw [Nat.zero_add, h.cell j hj]
    rw [hys, List.getElem?_map, List.getElem?_eq_getElem hj', Option.map_some, Option.some.injEq] at hx
    subst hx
    simp [strV, hj']
  have es : (ByteArray.mk #[46]).data.toList = [46] := rfl
  have J := Tryd.strings_Join L 0 n ys ⟨#[46]⟩ w hc h.lt (by omega) (by omega) (by rw [hm, es]; omega)
  rw [hm, es, hlen] at J
  exact J.mono fun e w' he => ⟨he.1, Kp.of_below he.2⟩

set_option maxRecDepth 100000 in
set_option maxHeartbeats 1600000 in
theorem joinNums9_any (g n B : Nat) (xs : List Int) (W : World) (hs : SlAt W B g n n xs) (hT : Tab W) (n1 : 1 ≤ n) (n2 : n ≤ 200) (hall : ∀ x ∈ xs, 0 ≤ x ∧ x ≤ 999) :
    Calls Tryd.prog 14 #[.slice (some ⟨g, 0, none⟩) n n, .string ⟨#[46]⟩] W fun e w' => e = .returned (.string ⟨(dotTx xs).toArray⟩) ∧ Kp Nw W w' := by
  obtain ⟨i0, hi0, hz0, hz1, hz2⟩ := info_parts strInfo
  have HS0 := Lib.hid hs
  have HT := Lib.hid hT
  have hn := hs.1
  have HN := Lib.hid hn
  have HALL := Lib.hid hall
  clear hs hT hn hall
  go_enter Tryd.func14, Tryd.ntmps14
  go_wp2_with (first | (at_make; refine wpList_make_full _ rfl _ _ 40 rfl W.heap.size 9 i0 (.string ⟨#[]⟩) 1 Tryd.underlying40 hi0 hz0 hz1 _ _ _ _ n rfl rfl rfl rfl (by rw [hz2]; omega) (by unfold maxLen; omega) (Nat.le_refl _) ?_))
  intro w1 hown hgrow
  have hk1 : Kp Nw W w1 := (Kp.refl _ _).grown hgrow (fun g hg => by cases hg)
  have HS := Lib.hid (Ss.made hown)
  have HK := Lib.hid hk1
  clear hown hgrow hk1
  go_wp2
  go_loopw [6, 7, 13] (fun _ _ i wr => ∃ j : Nat, j ≤ n ∧ i = .int .i64 j ∧ Ss wr W.heap.size n (fill (xs.map dgs) (List.replicate n []) j) ∧ Kp Nw W wr) (fun _ _ i _ => n - (intOf i).toNat)
  case atStart => exact ⟨0, Nat.zero_le _, rfl, by rw [fill_zero]; exact HS.out, HK.out⟩
  case round =>
    rename_i wr
    obtain ⟨j, hj, rfl, hs, hk⟩ := hrel
    by_cases hlt : j < n
    · have c := keepc hk (HS0.out.cell j hlt) (fun h => h)
      obtain ⟨y, hy⟩ : ∃ y, xs.getD j 0 = y := ⟨_, rfl⟩
      have hl' : j < xs.length := by rw [HN.out]; exact hlt
      have hx : xs[j] = y := by rw [← hy]; simp [hl']
      rw [hy] at c
      have hb := HALL.out y (by rw [← hx]; exact List.getElem_mem _)
      obtain ⟨m, rfl⟩ : ∃ m : Nat, y = m := ⟨y.toNat, by omega⟩
      have HX := Lib.hid hy
      have H := Lib.hid hs
      have HK2 := Lib.hid hk
      have j0 : (0 : Int) ≤ j := Int.natCast_nonneg _
      have j1 : (j : Int) < n := by omega
      have m9 : m ≤ 999 := by omega
      have hz := hs.lt
      clear hs HS hk HK hy hx hb hl'
      go_wp2_with fail
      refine (itoa_any m _ (HT.out.nw HK2.out) (by omega)).mono ?_
      rintro e w2 ⟨rfl, hk2⟩
      have H2 := Lib.hid (H.out.kp hk2 (fun h => h))
      have HK3 := Lib.hid (HK2.out.nw hk2)
      have s0 := H2.out.cell j hlt
      have f0 := H2.out.frozen j
      clear hk2
      go_wp2
      go_roundw
      case rel =>
        refine ⟨j + 1, by omega, by go_num, ?_, HK3.out.setCell (.inr (Nat.le_refl _)) _⟩
        have h2 := H2.out.store j (Lib.decDigits m)
        rw [fill_set (xs.map dgs) _ j (Lib.decDigits m) (by simp [HN.out]) (by simp [HN.out]; exact hlt) (by rw [strs_get xs j (by rw [HN.out]; exact hlt), HX.out]; simp [dgs])] at h2
        exact h2
      case measure => simp [intOf]; omega
    · have e : j = n := by omega
      subst e
      have hn1 := HN.out
      rw [show fill (xs.map dgs) (List.replicate j []) j = xs.map dgs by
        have := fill_all (xs.map dgs) (List.replicate j []) (by simp [hn1])
        rwa [List.length_map, hn1] at this] at hs
      have H := Lib.hid hs
      have HK2 := Lib.hid hk
      have hz := hs.lt
      have hl := dotTx_length xs (fun x hx => by have := (HALL.out x hx).2; omega)
      rw [hn1] at hl
      clear hs HS hk HK
      go_wp2_with fail
      refine (join9_any W.heap.size j (xs.map dgs) _ H.out (by omega) ?_).mono ?_
      · have := hl; unfold dotTx at this; omega
      rintro e w2 ⟨rfl, hk2⟩
      have HK3 := Lib.hid (HK2.out.nw hk2)
      clear hk2
      go_wp2
      go_ret
      exact ⟨rfl, HK3.out⟩


theorem tx3_strs (ps : List Cu) (j : Nat) (h : j < ps.length) : (ps.map tx3)[j]? = some (tx3 (ps.getD j (0, 0, 0))) := by simp [h]

set_option maxRecDepth 100000 in
set_option maxHeartbeats 3200000 in
theorem iPuzzleText_any (A : Option Addr) (n c : Nat) (ps : List Cu) (W : World) (hu : RdC W (.slice A n c) ps) (hn : ps.length = n) (hm : n ≤ maxLen) (hT : Tab W) (b : Bool) (hb : puzB ps = b) (l : List UInt8) (hl : l = if b = true then puzTx ps else []) :
    Calls Tryd.prog 7 #[.agg #[.slice A n c]] W (TextRes W l b) := by
  have HU := Lib.hid hu
  have HN := Lib.hid hn
  have HT := Lib.hid hT
  cases b
  · have HB := Lib.hid hb
    have e : l = [] := by rw [hl, if_neg (by simp)]
    subst e
    have HC := Lib.hid (cluesOf_any A n c ps (W.alloc (.cells #[.slice A n c] 30)) (hu.nw (.al _ _)) hn hm false hb)
    simp only [Bool.false_eq_true, if_false] at HC
    clear hu hn hb hl hT
    go_enter Tryd.func7, Tryd.ntmps7
    go_wp2_with fail
    refine HC.out.mono ?_
    rintro e w1 ⟨rfl, hk1⟩
    have HK1 := Lib.hid ((Kp.al W _).nw hk1)
    clear hk1
    go_wp2
    go_ret2
    exact ⟨rfl, HK1.out⟩
  · obtain ⟨n6, hall⟩ := puzB_parts hb
    have HALL := Lib.hid hall
    have e : l = puzTx ps := by rw [hl, if_pos rfl]
    subst e
    have HC := Lib.hid (cluesOf_any A n c ps (W.alloc (.cells #[.slice A n c] 30)) (hu.nw (.al _ _)) hn hm true hb)
    simp only [if_true] at HC
    rw [hn] at n6
    obtain ⟨i0, hi0, hz0, hz1, hz2⟩ := info_parts strInfo
    clear hu hn hb hl hT hall
    go_enter Tryd.func7, Tryd.ntmps7
    go_wp2_with fail
    refine HC.out.mono ?_
    rintro e w1 ⟨v, rfl, hs1, hk1⟩
    obtain ⟨A1, c1, rfl⟩ := hs1.val HN.out
    obtain ⟨A', c', hA', hA⟩ := hs1.rd
    rw [HN.out] at hA'
    injection hA' with e1 e2 e3
    subst e1
    have HA := Lib.hid hA
    have HK1 := Lib.hid ((Kp.al W _).nw hk1)
    clear hs1 hk1 hA e2 e3
    go_wp2_with (first | (at_make; refine wpList_make_full _ rfl _ _ 40 rfl w1.heap.size 9 i0 (.string ⟨#[]⟩) 1 Tryd.underlying40 hi0 hz0 hz1 _ _ _ _ n rfl rfl rfl rfl (by rw [hz2]; omega) (by unfold maxLen; omega) (Nat.le_refl _) ?_))
    intro w2 hown hgrow
    have hk2 : Kp Nw w1 w2 := (Kp.refl _ _).grown hgrow (fun g hg => by cases hg)
    have HS := Lib.hid (Ss.made hown)
    have HK2 := Lib.hid hk2
    clear hown hgrow hk2
    go_wp2
    go_loopw [21] (fun i wr => ∃ j : Nat, j ≤ n ∧ i = .int .i64 j ∧ Ss wr w1.heap.size n (fill (ps.map tx3) (List.replicate n []) j) ∧ Kp Nw w1 wr) (fun i _ => n - (intOf i).toNat)
    case atStart => exact ⟨0, Nat.zero_le _, rfl, by rw [fill_zero]; exact HS.out, HK2.out⟩
    case round =>
      rename_i wr
      obtain ⟨j, hj, rfl, hs, hk⟩ := hrel
      have j0 : (0 : Int) ≤ j := Int.natCast_nonneg _
      by_cases hlt : j < n
      · have hl' : j < ps.length := by rw [HN.out]; exact hlt
        obtain ⟨g, o, rfl, hc⟩ := HA.out j hl'
        obtain ⟨p, hp⟩ : ∃ p, ps.getD j (0, 0, 0) = p := ⟨_, rfl⟩
        have hcl := clu_get HALL.out j hl'
        have HX : Hid ((ps.map tx3)[j]? = some (tx3 p)) := Lib.hid (by rw [tx3_strs ps j hl', hp])
        rw [hp] at hc hcl
        obtain ⟨a0, a1, a2⟩ := hc.kp hk (fun h => h)
        obtain ⟨⟨k0, k9⟩, ⟨x0, x9⟩, ⟨y0, y9⟩⟩ := cluB_small hcl
        have HALL3 : Hid (∀ x ∈ [p.1, p.2.1, p.2.2], 0 ≤ x ∧ x ≤ 999) := Lib.hid (by
          intro x hx
          simp only [List.mem_cons, List.not_mem_nil, or_false] at hx
          rcases hx with rfl | rfl | rfl <;> omega)
        have H := Lib.hid hs
        have HKW := Lib.hid hk
        have HL3 : Hid (SlAt ((wr.alloc (.cells #[.int .i64 p.1, .int .i64 p.2.1, .int .i64 p.2.2] 42)).alloc (.cells #[.int .i64 p.1, .int .i64 p.2.1, .int .i64 p.2.2] 3)) wr.heap.size (wr.heap.size + 1) 3 3 [p.1, p.2.1, p.2.2]) := Lib.hid ⟨rfl, by
          have := World.ownsRow_lit (base := wr.heap.size) (e := 3) (size := 1) (wr.alloc (.cells #[.int .i64 p.1, .int .i64 p.2.1, .int .i64 p.2.2] 42)) #[.int .i64 p.1, .int .i64 p.2.1, .int .i64 p.2.2] 3 (by simp) (by unfold maxLen; omega) rfl
          rw [World.size_alloc] at this
          exact this⟩
        have j1 : (j : Int) < n := by omega
        have hz := hs.lt
        clear hs hk hp hcl hc hl' k0 k9 x0 x9 y0 y9 HS
        go_wp2_with fail
        refine (joinNums9_any _ 3 _ _ _ HL3.out (HT.out.nw ((HK1.out.nw HKW.out).nw ((Kp.al _ _).nw (.al _ _)))) (by omega) (by omega) HALL3.out).mono ?_
        rintro e w3 ⟨rfl, hk3⟩
        have hk3' := ((Kp.al wr _).nw (.al _ _)).nw hk3
        have H2 := Lib.hid (H.out.kp hk3' (fun h => h))
        have HK3 := Lib.hid (HKW.out.nw hk3')
        have s0 := H2.out.cell j hlt
        have f0 := H2.out.frozen j
        clear hk3 hk3' a0 a1 a2
        go_wp2
        go_roundw
        case rel =>
          refine ⟨j + 1, by omega, by go_num, ?_, HK3.out.setCell (.inr (Nat.le_refl _)) _⟩
          have h2 := H2.out.store j (tx3 p)
          rw [fill_set (ps.map tx3) _ j (tx3 p) (by simp [HN.out]) (by simp [HN.out]; exact hlt) HX.out] at h2
          exact h2
        case measure => simp [intOf]; omega
      · have e : j = n := by omega
        subst e
        have hn1 := HN.out
        rw [show fill (ps.map tx3) (List.replicate j []) j = ps.map tx3 by
          have := fill_all (ps.map tx3) (List.replicate j []) (by simp [hn1])
          rwa [List.length_map, hn1] at this] at hs
        have H := Lib.hid hs
        have HKW := Lib.hid hk
        have hz := hs.lt
        have hl := puzTx_length ps HALL.out
        rw [hn1] at hl
        clear hs HS hk
        go_wp2_with fail
        refine (join_any w1.heap.size j (ps.map tx3) _ H.out (by omega) ?_).mono ?_
        · have := hl; unfold puzTx at this; omega
        rintro e w4 ⟨rfl, hk4⟩
        have HK4 := Lib.hid ((HK1.out.nw HKW.out).nw hk4)
        clear hk4
        go_wp2
        go_ret2
        exact ⟨rfl, HK4.out⟩
end Go.Proofs.YtcekobdnghllcabDoor
