/- More of the model's functions of decks: deals that are repeated, the last card, cuts, turned decks and shuffles; no condition but what the chapter asks. -/
import Derived.Test.YtphjnhnochmniaaDeckS
import Derived.Test.YtphjnhnochmniaaRot
import Derived.Deep.RegionLaw
namespace Go.Proofs.Ytphjnhnochmniaa
open Go.ChangeShapes Go.WideShapes Go.ChangeAt Go.RowKit

theorem Sl.lit1 (w : World) (x : Int) : Sl (w.alloc (.cells #[.int .i64 x] 3)) w.heap.size (.slice (some ⟨w.heap.size, 0, none⟩) 1 1) [x] :=
  ⟨by simp, .inr ⟨w.heap.size, 1, #[.int .i64 x], rfl, Nat.le_refl _, heap_alloc_new w _, Nat.le_refl _, by unfold maxLen; omega, by simp, by simp⟩⟩
theorem Sl.lit2 (w : World) (x y : Int) : Sl (w.alloc (.cells #[.int .i64 x, .int .i64 y] 3)) w.heap.size (.slice (some ⟨w.heap.size, 0, none⟩) 2 2) [x, y] :=
  ⟨by simp, .inr ⟨w.heap.size, 2, #[.int .i64 x, .int .i64 y], rfl, Nat.le_refl _, heap_alloc_new w _, Nat.le_refl _, by unfold maxLen; omega, by simp, by simp⟩⟩

/-- deals that are repeated -/
def deals (u : Int) : Nat → List Int → List Int
  | 0, l => l
  | t + 1, l => deals u t (deal l (List.replicate l.length u))
theorem deals_length (u : Int) : ∀ (t : Nat) (l : List Int), (deals u t l).length = l.length
  | 0, l => rfl
  | t + 1, l => by rw [deals, deals_length u t, deal_length, List.length_replicate]

set_option maxRecDepth 100000 in
set_option maxHeartbeats 1600000 in
theorem sDealTimes_yes (g n B T : Nat) (xs : List Int) (u : Int) (W : World) (hs : SlAt W B g n n xs) (hl : n ≤ 1048576) (hb : deckB xs = true) (u0 : 0 ≤ u) (u1 : u ≤ 1000) (ht : T ≤ 100) :
    Calls Try.prog 31 #[.slice (some ⟨g, 0, none⟩) n n, .int .i64 u, .int .i64 T] W (ListB W (deals u T xs) true) := by
  have HS := Lib.hid hs
  have HB : Hid (true = deckB xs) := Lib.hid hb.symm
  have hln : n ≤ n := Nat.le_refl _
  have hl2 : n ≤ 2000000 := by omega
  obtain ⟨d1, d2, _, _⟩ := deckB_parts hb
  have hn := hs.1
  rw [hn] at d1 d2
  have HN := Lib.hid hn
  have t0 : (0 : Int) ≤ T := Int.natCast_nonneg _
  have t1 : (T : Int) ≤ 100 := by omega
  clear hs hb hn
  go_enter Try.func31, Try.ntmps31
  go_wp2_with (first | ((with_reducible refine (caGood_any g n n xs B _ HS.out hln hl2 true HB.out).mono ?_); rintro e w' ⟨rfl, rfl⟩) | ((with_reducible refine (caUnder_yes u _ u0 u1).mono ?_); rintro e w' ⟨rfl, rfl⟩) | ((with_reducible refine (l1In_yes (T : Int) _ _ _ t0 t1).mono ?_); rintro e w' ⟨rfl, rfl⟩))
  refine (l1Own_any _ xs _ HS.out.sl.rd (fun h => by have := HN.out; rw [h] at this; simp at this; omega) (by have := HN.out; omega)).mono ?_
  rintro e w1 ⟨v1, rfl, hs1, hk1⟩
  have HS1 := Lib.hid hs1
  have HK1 := Lib.hid hk1
  clear hs1 hk1
  go_wp2
  go_loopw [2, 8] (fun v o wr => ∃ (m : Nat) (r : Value) (ys : List Int), m ≤ T ∧ v = .int .i64 m ∧ r = o ∧ ys.length = n ∧ deals u m ys = deals u T xs ∧ Sl wr W.heap.size r ys ∧ Kp Nw W wr) (fun v _ _ => (intOf v).toNat)
  case atStart => exact ⟨T, _, xs, Nat.le_refl _, rfl, rfl, HN.out, rfl, HS1.out, HK1.out⟩
  case round =>
    obtain ⟨m, r, ys, hm, rfl, rfl, hy, hd, hr, hk⟩ := hrel
    have HY := Lib.hid hy
    have HDD := Lib.hid hd
    have HR := Lib.hid hr
    have HK := Lib.hid hk
    clear hy hd hr hk HS1 HK1
    by_cases hp : 0 < m
    · obtain ⟨q, rfl⟩ : ∃ q, m = q + 1 := ⟨m - 1, by omega⟩
      have q9 : (0 : Int) < (q : Int) + 1 := by omega
      have q0 : IntKind.i64.wrap (q : Int) = q := IntWalk.i64_in _ (by omega)
      have q1 : IntKind.i64.wrap ((q : Int) + 1 - 1) = q := by rw [show (q : Int) + 1 - 1 = q by omega]; exact q0
      obtain ⟨A1, c1, rfl⟩ := HR.out.val HY.out
      go_wp2_with fail
      refine (caSame_any n u _ (by omega)).mono ?_
      rintro e w2 ⟨v2, rfl, hs2, hk2⟩
      obtain ⟨A2, c2, rfl⟩ := hs2.val (List.length_replicate)
      have HS2 := Lib.hid hs2
      have HK2 := Lib.hid (HK.out.nw hk2)
      have HR2 := Lib.hid (HR.out.below hk2.below')
      clear hs2 hk2
      go_wp2_with fail
      refine (caDeal_any _ A2 n c2 ys (List.replicate n u) _ HR2.out.rd HR2.out.vn HS2.out.rd (by simp) (by have := HY.out; omega) (by have := HY.out; omega) (okR_rep u n u0 u1)).mono ?_
      rintro e w3 ⟨v3, rfl, hs3, hk3⟩
      have HS3 := Lib.hid (hs3.from HK2.out.size)
      have HK3 := Lib.hid (HK2.out.nw hk3)
      have E3 := Lib.hid (show deals u q (deal ys (List.replicate n u)) = deals u T xs by rw [← HDD.out, deals, HY.out])
      clear hs3 hk3
      go_wp2
      go_roundw
      case rel => exact ⟨q, v3, _, by omega, rfl, rfl, by rw [deal_length]; simp, E3.out, HS3.out, HK3.out⟩
      case measure => simp [intOf]
    · have e : m = 0 := by omega
      subst e
      have E := Lib.hid (show ys = deals u T xs by rw [← HDD.out]; rfl)
      go_wp2
      go_ret2
      exact ⟨_, rfl, by rw [← E.out]; exact HR.out, HK.out⟩

set_option maxRecDepth 100000 in
set_option maxHeartbeats 1600000 in
theorem sDealTimes_no1 (g n B : Nat) (xs : List Int) (u t : Int) (W : World) (hs : SlAt W B g n n xs) (hl : n ≤ 1048576) (hb : deckB xs = false) :
    Calls Try.prog 31 #[.slice (some ⟨g, 0, none⟩) n n, .int .i64 u, .int .i64 t] W (ListB W [] false) := by
  have HS := Lib.hid hs
  have HB : Hid (false = deckB xs) := Lib.hid hb.symm
  have hln : n ≤ n := Nat.le_refl _
  have hl2 : n ≤ 2000000 := by omega
  clear hs hb
  go_enter Try.func31, Try.ntmps31
  go_wp2_with (first | ((with_reducible refine (caGood_any g n n xs B _ HS.out hln hl2 false HB.out).mono ?_); rintro e w' ⟨rfl, rfl⟩))
  go_ret2
  exact ⟨_, rfl, Sl.nil _ _, Kp.refl _ _⟩

set_option maxRecDepth 100000 in
set_option maxHeartbeats 1600000 in
theorem sDealTimes_no2 (g n B : Nat) (xs : List Int) (u t : Int) (W : World) (hs : SlAt W B g n n xs) (hl : n ≤ 1048576) (hb : deckB xs = true) (hu : u < 0 ∨ 1000 < u) :
    Calls Try.prog 31 #[.slice (some ⟨g, 0, none⟩) n n, .int .i64 u, .int .i64 t] W (ListB W [] false) := by
  have HS := Lib.hid hs
  have HB : Hid (true = deckB xs) := Lib.hid hb.symm
  have hln : n ≤ n := Nat.le_refl _
  have hl2 : n ≤ 2000000 := by omega
  clear hs hb
  go_enter Try.func31, Try.ntmps31
  go_wp2_with (first | ((with_reducible refine (caGood_any g n n xs B _ HS.out hln hl2 true HB.out).mono ?_); rintro e w' ⟨rfl, rfl⟩) | ((with_reducible refine (caUnder_no u _ hu).mono ?_); rintro e w' ⟨rfl, rfl⟩))
  go_ret2
  exact ⟨_, rfl, Sl.nil _ _, Kp.refl _ _⟩

set_option maxRecDepth 100000 in
set_option maxHeartbeats 1600000 in
theorem sDealTimes_no3 (g n B : Nat) (xs : List Int) (u t : Int) (W : World) (hs : SlAt W B g n n xs) (hl : n ≤ 1048576) (hb : deckB xs = true) (u0 : 0 ≤ u) (u1 : u ≤ 1000) (ht : t < 0 ∨ 100 < t) :
    Calls Try.prog 31 #[.slice (some ⟨g, 0, none⟩) n n, .int .i64 u, .int .i64 t] W (ListB W [] false) := by
  have HS := Lib.hid hs
  have HB : Hid (true = deckB xs) := Lib.hid hb.symm
  have hln : n ≤ n := Nat.le_refl _
  have hl2 : n ≤ 2000000 := by omega
  clear hs hb
  go_enter Try.func31, Try.ntmps31
  go_wp2_with (first | ((with_reducible refine (caGood_any g n n xs B _ HS.out hln hl2 true HB.out).mono ?_); rintro e w' ⟨rfl, rfl⟩) | ((with_reducible refine (caUnder_yes u _ u0 u1).mono ?_); rintro e w' ⟨rfl, rfl⟩) | ((with_reducible refine (l1In_no t _ _ _ ht).mono ?_); rintro e w' ⟨rfl, rfl⟩))
  go_ret2
  exact ⟨_, rfl, Sl.nil _ _, Kp.refl _ _⟩

theorem caCards_yes (p : Int) (w : World) (h0 : 1 ≤ p) (h1 : p ≤ 104) : Calls Try.prog 65 #[.int .i64 p] w fun e w' => e = .returned (.bool true) ∧ w = w' := by
  go_enter Try.func65, Try.ntmps65
  go_wp2_with (first | ((with_reducible refine (l1In_yes p _ _ _ h0 h1).mono ?_); rintro e w' ⟨rfl, rfl⟩))
  go_ret
  exact ⟨rfl, rfl⟩
theorem caCards_no (p : Int) (w : World) (h : p < 1 ∨ 104 < p) : Calls Try.prog 65 #[.int .i64 p] w fun e w' => e = .returned (.bool false) ∧ w = w' := by
  go_enter Try.func65, Try.ntmps65
  go_wp2_with (first | ((with_reducible refine (l1In_no p _ _ _ h).mono ?_); rintro e w' ⟨rfl, rfl⟩))
  go_ret
  exact ⟨rfl, rfl⟩
theorem sLastDealt_no1 (p u : Int) (W : World) (h : p < 1 ∨ 104 < p) : Calls Try.prog 35 #[.int .i64 p, .int .i64 u] W (IntB W 0 false) := by
  go_enter Try.func35, Try.ntmps35
  go_wp2_with (first | ((with_reducible refine (caCards_no p _ h).mono ?_); rintro e w' ⟨rfl, rfl⟩))
  go_ret2
  exact ⟨rfl, Kp.refl _ _⟩
theorem sLastDealt_no2 (p u : Int) (W : World) (n1 : 1 ≤ p) (n2 : p ≤ 104) (hu : u < 0 ∨ 1000 < u) : Calls Try.prog 35 #[.int .i64 p, .int .i64 u] W (IntB W 0 false) := by
  go_enter Try.func35, Try.ntmps35
  go_wp2_with (first | ((with_reducible refine (caCards_yes _ _ n1 n2).mono ?_); rintro e w' ⟨rfl, rfl⟩) | ((with_reducible refine (caUnder_no u _ hu).mono ?_); rintro e w' ⟨rfl, rfl⟩))
  go_ret2
  exact ⟨rfl, Kp.refl _ _⟩

theorem ciPeople_as (m : Nat) (W : World) (hm : m ≤ 1000) : Calls Try.prog 67 #[.int .i64 ((m : Int) + 1)] W (Makes W (marks 0 (m + 1))) := ciPeople_any (m + 1) W (by omega)
theorem caSame_as (m : Nat) (u : Int) (W : World) (hm : m ≤ 1000) : Calls Try.prog 52 #[.int .i64 ((m : Int) + 1), .int .i64 u] W (Makes W (List.replicate (m + 1) u)) := caSame_any (m + 1) u W (by omega)

set_option maxRecDepth 100000 in
set_option maxHeartbeats 1600000 in
theorem sLastDealt_yes (m : Nat) (u : Int) (W : World) (hm : m ≤ 103) (u0 : 0 ≤ u) (u1 : u ≤ 1000) :
    Calls Try.prog 35 #[.int .i64 ((m : Int) + 1), .int .i64 u] W (IntB W ((deal (marks 0 (m + 1)) (List.replicate (m + 1) u)).getD m 0) true) := by
  have m0 : (0 : Int) ≤ m := Int.natCast_nonneg _
  have n1 : 1 ≤ (m : Int) + 1 := by omega
  have n2 : (m : Int) + 1 ≤ 104 := by omega
  have q0 : IntKind.i64.wrap (m : Int) = m := IntWalk.i64_in _ (by omega)
  have q1 : IntKind.i64.wrap ((m : Int) + 1 - 1) = m := by rw [show (m : Int) + 1 - 1 = m by omega]; exact q0
  obtain ⟨x, hx⟩ : ∃ x, (deal (marks 0 (m + 1)) (List.replicate (m + 1) u)).getD m 0 = x := ⟨_, rfl⟩
  rw [hx]
  have HX := Lib.hid hx
  clear hx
  go_enter Try.func35, Try.ntmps35
  go_wp2_with (first | ((with_reducible refine (caCards_yes _ _ n1 n2).mono ?_); rintro e w' ⟨rfl, rfl⟩) | ((with_reducible refine (caUnder_yes u _ u0 u1).mono ?_); rintro e w' ⟨rfl, rfl⟩))
  refine (ciPeople_as m W (by omega)).mono ?_
  rintro e w1 ⟨v1, rfl, hs1, hk1⟩
  have HS1 := Lib.hid hs1
  have HK1 := Lib.hid hk1
  clear hs1 hk1
  go_wp2_with fail
  refine (caSame_as m u _ (by omega)).mono ?_
  rintro e w2 ⟨v2, rfl, hs2, hk2⟩
  obtain ⟨A2, c2, rfl⟩ := hs2.val (List.length_replicate)
  have HS2 := Lib.hid hs2
  have HS1 := Lib.hid (HS1.out.below hk2.below')
  have HK2 := Lib.hid (HK1.out.nw hk2)
  clear hs2 hk2
  go_wp2_with fail
  refine (caDeal_any v1 A2 (m + 1) c2 (marks 0 (m + 1)) (List.replicate (m + 1) u) _ HS1.out.rd HS1.out.vn HS2.out.rd (by simp) (by rw [marks_length]; omega) (by rw [marks_length]; exact Nat.le_refl _) (okR_rep u (m + 1) u0 u1)).mono ?_
  rintro e w3 ⟨v3, rfl, hs3, hk3⟩
  obtain ⟨g, cap, rfl, hsa, hc1, hc2, _, _⟩ := hs3.at_ (by rw [deal_length, List.length_replicate]; omega)
  rw [deal_length, List.length_replicate] at hsa hc1 ⊢
  have c := hsa.cell m (by omega)
  rw [HX.out] at c
  have m1 : (m : Int) < (m : Int) + 1 := by omega
  have HK3 := Lib.hid (HK2.out.nw hk3)
  clear hs3 hk3 hsa
  go_wp2
  go_ret2
  exact ⟨rfl, HK3.out⟩

set_option maxRecDepth 100000 in
set_option maxHeartbeats 1600000 in
theorem sCutDeck_no1 (g n B : Nat) (xs : List Int) (a : Int) (W : World) (hs : SlAt W B g n n xs) (hl : n ≤ 1048576) (hb : deckB xs = false) :
    Calls Try.prog 37 #[.slice (some ⟨g, 0, none⟩) n n, .int .i64 a] W (ListB W [] false) := by
  have HS := Lib.hid hs
  have HB : Hid (false = deckB xs) := Lib.hid hb.symm
  have hln : n ≤ n := Nat.le_refl _
  have hl2 : n ≤ 2000000 := by omega
  clear hs hb
  go_enter Try.func37, Try.ntmps37
  go_wp2_with (first | ((with_reducible refine (caGood_any g n n xs B _ HS.out hln hl2 false HB.out).mono ?_); rintro e w' ⟨rfl, rfl⟩))
  go_ret2
  exact ⟨_, rfl, Sl.nil _ _, Kp.refl _ _⟩

set_option maxRecDepth 100000 in
set_option maxHeartbeats 1600000 in
theorem sCutDeck_no2 (g n B : Nat) (xs : List Int) (a : Int) (W : World) (hs : SlAt W B g n n xs) (hl : n ≤ 1048576) (hb : deckB xs = true) (ha : a < 0 ∨ (n : Int) < a) :
    Calls Try.prog 37 #[.slice (some ⟨g, 0, none⟩) n n, .int .i64 a] W (ListB W [] false) := by
  have HS := Lib.hid hs
  have HB : Hid (true = deckB xs) := Lib.hid hb.symm
  have hln : n ≤ n := Nat.le_refl _
  have hl2 : n ≤ 2000000 := by omega
  clear hs hb
  go_enter Try.func37, Try.ntmps37
  go_wp2_with (first | ((with_reducible refine (caGood_any g n n xs B _ HS.out hln hl2 true HB.out).mono ?_); rintro e w' ⟨rfl, rfl⟩) | ((with_reducible refine (l1In_no a _ _ _ ha).mono ?_); rintro e w' ⟨rfl, rfl⟩))
  go_ret2
  exact ⟨_, rfl, Sl.nil _ _, Kp.refl _ _⟩

set_option maxRecDepth 100000 in
set_option maxHeartbeats 1600000 in
theorem sCutDeck_yes (g n B : Nat) (xs : List Int) (a : Nat) (W : World) (hs : SlAt W B g n n xs) (hl : n ≤ 1048576) (hb : deckB xs = true) (ha : a ≤ n) :
    Calls Try.prog 37 #[.slice (some ⟨g, 0, none⟩) n n, .int .i64 a] W (ListB W (rot xs a) true) := by
  have HS := Lib.hid hs
  have HB : Hid (true = deckB xs) := Lib.hid hb.symm
  have hln : n ≤ n := Nat.le_refl _
  have hl2 : n ≤ 2000000 := by omega
  obtain ⟨d1, d2, _, _⟩ := deckB_parts hb
  have hn := hs.1
  rw [hn] at d1 d2
  have HN := Lib.hid hn
  have a0 : (0 : Int) ≤ a := Int.natCast_nonneg _
  have a1 : (a : Int) ≤ n := by omega
  have q6 := cut_to g n n a ha
  obtain ⟨Ad, had, q7⟩ := cut_from g n n a ha (Nat.le_refl _)
  have AD := Lib.hid had
  have xl : xs.length ≤ 1000 := by omega
  clear hs hb hn had
  go_enter Try.func37, Try.ntmps37
  go_wp2_with (first | ((with_reducible refine (caGood_any g n n xs B _ HS.out hln hl2 true HB.out).mono ?_); rintro e w' ⟨rfl, rfl⟩) | ((with_reducible refine (l1In_yes (a : Int) _ _ _ a0 a1).mono ?_); rintro e w' ⟨rfl, rfl⟩))
  go_region_held3 (fun w' => Kp Nw W w' ∧ True)
    (first
      | exact ⟨(Kp.refl _ _).drew, trivial⟩
      | exact ⟨hkW2, trivial⟩
      | exact ⟨hkW1, trivial⟩
      | fail)
    (first
      | (go_at_call 63
         refine (l1Own_any _ (xs.drop a) _ (Rd.nw' (HS.out.drop a ha _ _ AD.out) (‹Kp Nw W _ ∧ True›.1)) (HS.out.drop_vn _ _ _) (by simp; omega)).mono ?_
         rintro e w1 ⟨v1, rfl, hs1, hk1⟩
         have hkW1 := (‹Kp Nw W _ ∧ True›.1).nw hk1)
      | (refine step_app _ (by rfl) (.tmp 19) (.tmp 22) (by rfl) W.heap.size v1 _ (xs.drop a) (xs.take a) (by rfl) (by rfl) hs1 (Rd.nw' (HS.out.take a ha) hkW1) (HS.out.take_vn a ha _) (by simp; omega) hkW1.size ?_
         intro v2 w2 hs2 hk2 _
         have hkW2 := hkW1.own hs1 hk2)
      | fail)
  have HS2 := Lib.hid (show Sl w2 W.heap.size v2 (rot xs a) from hs2)
  have HK2 := Lib.hid hkW2
  clear hs2 hkW2 hkW1 hs1 hk1 hk2
  go_wp2
  go_ret2
  exact ⟨v2, rfl, HS2.out, HK2.out⟩

set_option maxRecDepth 100000 in
set_option maxHeartbeats 1600000 in
theorem caBack_any (A : Option Addr) (n c : Nat) (xs : List Int) (W : World) (hu : Rd W (.slice A n c) xs) (hn : xs.length = n) (hl : n ≤ 1000) :
    Calls Try.prog 72 #[.slice A n c] W (Makes W xs.reverse) := by
  obtain ⟨A', c', hAc, hA⟩ := id hu
  have eA : A = A' := by injection hAc
  subst eA
  have HA := Lib.hid hA
  have HN := Lib.hid hn
  have n0 : (0 : Int) ≤ n := Int.natCast_nonneg _
  have q0 : IntKind.i64.wrap ((n : Int) - 1) = (n : Int) - 1 := IntWalk.i64_in _ (by omega)
  clear hu hn hA hAc
  go_enter Try.func72, Try.ntmps72
  go_wp2
  go_loopw [3, 4] (fun o v wr => ∃ (j : Nat) (z : Int) (r : Value), j ≤ n ∧ z = (n : Int) - 1 - j ∧ v = .int .i64 z ∧ r = o ∧ Sl wr W.heap.size r (xs.reverse.take j) ∧ Kp Nw W wr) (fun _ v _ => (intOf v + 1).toNat)
  case atStart => exact ⟨0, _, _, Nat.zero_le _, by simp, rfl, rfl, Sl.nil _ _, Kp.refl _ _⟩
  case round =>
    obtain ⟨j, z, r, hj, hz, rfl, rfl, hr, hk⟩ := hrel
    have HR := Lib.hid hr
    have HK := Lib.hid hk
    have HZ := Lib.hid hz
    clear hr hk
    by_cases hlt : j < n
    · obtain ⟨q, hq⟩ : ∃ q : Nat, z = q := ⟨z.toNat, by omega⟩
      have hqn : q = n - 1 - j := by omega
      obtain ⟨g0, o0, rfl, hc⟩ := HA.out q (by rw [HN.out]; omega)
      subst hq
      have c0 := keepc HK.out hc (fun h => h)
      obtain ⟨x, hx⟩ : ∃ x, xs.getD q 0 = x := ⟨_, rfl⟩
      rw [hx] at c0
      have HT : Hid (xs.reverse.take (j + 1) = xs.reverse.take j ++ [x]) := Lib.hid (by
        have hl' : j < xs.reverse.length := by rw [List.length_reverse, HN.out]; exact hlt
        rw [List.take_succ_eq_append_getElem hl', List.getElem_reverse]
        congr 2
        rw [← hx, List.getD_eq_getElem?_getD]
        simp only [HN.out, ← hqn]
        rw [List.getElem?_eq_getElem (by rw [HN.out]; omega)]
        rfl)
      have w0 : (0 : Int) ≤ q := Int.natCast_nonneg _
      have w1 : (q : Int) < n := by omega
      have w2 : IntKind.i64.wrap ((q : Int) - 1) = (q : Int) - 1 := IntWalk.i64_in _ (by omega)
      have hzz : W.heap.size ≤ wr.heap.size := HK.out.size
      have hzl : (xs.reverse.take j).length ≤ 1000 := by simp; omega
      clear hc hx hqn hz
      go_wp2_with (first | (at_builtin; refine wpList_app _ rfl (.tmp 12) (.tmp 17) rfl W.heap.size r _ (xs.reverse.take j) [x] rfl rfl (HR.out.below ((Kp.refl Nw wr).alloc _).below') (Rd.one (g := wr.heap.size) (by simp)) nil_one (by simp; omega) (by simp; omega) ?_))
      intro r' w3 hs3 hk3 hat
      have HS3 := Lib.hid hs3
      have HK3 := Lib.hid ((HK.out.nw (.al _ _)).own (HR.out.below (Kp.al _ _).below') hk3)
      clear hs3 hk3 hat
      go_wp2
      go_roundw
      case rel => exact ⟨j + 1, _, r', by omega, by have := HZ.out; omega, rfl, rfl, by rw [HT.out]; exact HS3.out, HK3.out⟩
      case measure => simp [intOf] <;> omega
    · have e : j = n := by omega
      have zn : ¬ 0 ≤ z := by omega
      have zn2 : z < 0 := by omega
      have E : Hid (xs.reverse.take j = xs.reverse) := Lib.hid (List.take_of_length_le (by rw [List.length_reverse, HN.out]; omega))
      clear hz e
      go_wp2
      go_ret
      exact ⟨r, rfl, by rw [← E.out]; exact HR.out, HK.out⟩
end Go.Proofs.Ytphjnhnochmniaa
