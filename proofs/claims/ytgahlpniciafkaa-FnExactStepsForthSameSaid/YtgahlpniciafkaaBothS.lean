/- Counts that turn in the model: orders, last ones, turns, tables; no condition but what the chapter asks. -/
import Derived.Test.YtgahlpniciafkaaBoth
import Derived.Test.YtgahlpniciafkaaFrom
import Derived.Test.YtgahlpniciafkaaLow
import Derived.Test.YtgahlpniciafkaaAt
import Derived.Test.YtgahlpniciafkaaLaws
namespace Go.Proofs.Ytgahlpniciafkaa
open Go.ChangeShapes Go.WideShapes Go.ChangeAt Go.RowKit

/-- the last one of a count forth and back -/
def lastB (f b : Int) (n : Nat) : Int := (boT f b (marks 0 n) n).getD (n - 1) 0
/-- the last ones of counts that turn for the first steps -/
def tabB (n j : Nat) : List Int := (List.range j).map (fun i : Nat => lastB ((i : Int) + 1) ((i : Int) + 1) n)
theorem tabB_length (n j : Nat) : (tabB n j).length = j := by unfold tabB; simp
theorem tabB_snoc (n j : Nat) : tabB n (j + 1) = tabB n j ++ [lastB ((j : Int) + 1) ((j : Int) + 1) n] := by unfold tabB; rw [List.range_succ, List.map_append]; rfl
/-- the first steps with the same last one, turning or not -/
def sameB (n : Nat) : Nat → List Int
  | 0 => []
  | j + 1 => if lastB ((j : Int) + 1) ((j : Int) + 1) n = lastN ((j : Int) + 1) (n - 1) then sameB n j ++ [(j : Int) + 1] else sameB n j
theorem sameB_le (n : Nat) : ∀ j, (sameB n j).length ≤ j
  | 0 => Nat.le_refl 0
  | j + 1 => by
    have := sameB_le n j
    rw [sameB]
    split
    · rw [List.length_append]; simp; exact this
    · omega
theorem boAsked_yes (p f b : Int) (w : World) (h1 : Asked p f) (h2 : Asked p b) : Calls Try.prog 51 #[.int .i64 p, .int .i64 f, .int .i64 b] w fun e w' => e = .returned (.bool true) ∧ w = w' := by
  go_enter Try.func51, Try.ntmps51
  go_wp2_with (first | ((with_reducible refine (ciAsked_yes p f _ h1).mono ?_); rintro e w' ⟨rfl, rfl⟩) | ((with_reducible refine (ciAsked_yes p b _ h2).mono ?_); rintro e w' ⟨rfl, rfl⟩))
  go_ret
  exact ⟨rfl, rfl⟩
theorem boAsked_no (p f b : Int) (w : World) (h : ¬ (Asked p f ∧ Asked p b)) : Calls Try.prog 51 #[.int .i64 p, .int .i64 f, .int .i64 b] w fun e w' => e = .returned (.bool false) ∧ w = w' := by
  by_cases h1 : Asked p f
  · have h2 : ¬ Asked p b := fun h2 => h ⟨h1, h2⟩
    go_enter Try.func51, Try.ntmps51
    go_wp2_with (first | ((with_reducible refine (ciAsked_yes p f _ h1).mono ?_); rintro e w' ⟨rfl, rfl⟩) | ((with_reducible refine (ciAsked_no p b _ h2).mono ?_); rintro e w' ⟨rfl, rfl⟩))
    go_ret
    exact ⟨rfl, rfl⟩
  · go_enter Try.func51, Try.ntmps51
    go_wp2_with (first | ((with_reducible refine (ciAsked_no p f _ h1).mono ?_); rintro e w' ⟨rfl, rfl⟩))
    go_ret
    exact ⟨rfl, rfl⟩
set_option maxRecDepth 100000 in
set_option maxHeartbeats 3200000 in
theorem sTurningOrder_yes (n : Nat) (f : Int) (W : World) (h : Asked n f) : Calls Try.prog 17 #[.int .i64 n, .int .i64 f] W (ListB W (boT f f (marks 0 n) n) true) := by
  have f1 := h.k1; have f2 := h.k2; have h2 := h.p2; have h1 := h.p1
  go_enter Try.func17, Try.ntmps17
  go_wp2_with (first | ((with_reducible refine (ciAsked_yes _ _ _ h).mono ?_); rintro e w' ⟨rfl, rfl⟩))
  refine (boOrder_any n f f _ (by omega) f1 f2 f1 f2).mono ?_
  rintro e w1 ⟨v, rfl, hs, hk⟩
  have HS := Lib.hid hs
  have HK := Lib.hid hk
  clear hs hk
  go_wp2
  go_ret2
  exact ⟨v, rfl, HS.out, HK.out⟩
theorem sTurningOrder_no (p f : Int) (W : World) (h : ¬ Asked p f) : Calls Try.prog 17 #[.int .i64 p, .int .i64 f] W (ListB W [] false) := by
  go_enter Try.func17, Try.ntmps17
  go_wp2_with (first | ((with_reducible refine (ciAsked_no _ _ _ h).mono ?_); rintro e w' ⟨rfl, rfl⟩))
  go_ret2
  exact ⟨.slice none 0 0, rfl, Sl.nil _ _, Kp.refl _ _⟩
set_option maxRecDepth 100000 in
set_option maxHeartbeats 3200000 in
theorem sForthAndBack_yes (n : Nat) (f b : Int) (W : World) (hf : Asked n f) (hb : Asked n b) : Calls Try.prog 25 #[.int .i64 n, .int .i64 f, .int .i64 b] W (ListB W (boT f b (marks 0 n) n) true) := by
  have f1 := hf.k1; have f2 := hf.k2; have b1 := hb.k1; have b2 := hb.k2; have h2 := hf.p2; have h1 := hf.p1
  go_enter Try.func25, Try.ntmps25
  go_wp2_with (first | ((with_reducible refine (boAsked_yes _ _ _ _ hf hb).mono ?_); rintro e w' ⟨rfl, rfl⟩))
  refine (boOrder_any n f b _ (by omega) f1 f2 b1 b2).mono ?_
  rintro e w1 ⟨v, rfl, hs, hk⟩
  have HS := Lib.hid hs
  have HK := Lib.hid hk
  clear hs hk
  go_wp2
  go_ret2
  exact ⟨v, rfl, HS.out, HK.out⟩
theorem sForthAndBack_no (p f b : Int) (W : World) (h : ¬ (Asked p f ∧ Asked p b)) : Calls Try.prog 25 #[.int .i64 p, .int .i64 f, .int .i64 b] W (ListB W [] false) := by
  go_enter Try.func25, Try.ntmps25
  go_wp2_with (first | ((with_reducible refine (boAsked_no _ _ _ _ h).mono ?_); rintro e w' ⟨rfl, rfl⟩))
  go_ret2
  exact ⟨.slice none 0 0, rfl, Sl.nil _ _, Kp.refl _ _⟩
set_option maxRecDepth 100000 in
set_option maxHeartbeats 3200000 in
theorem sTurningLast_yes (n : Nat) (f : Int) (W : World) (h : Asked n f) : Calls Try.prog 19 #[.int .i64 n, .int .i64 f] W (IntB W (lastB f f n) true) := by
  have f1 := h.k1; have f2 := h.k2; have h2 := h.p2; have h1 := h.p1
  obtain ⟨d, hd⟩ : ∃ d, n - 1 = d := ⟨_, rfl⟩
  obtain ⟨x, hx⟩ : ∃ x, lastB f f n = x := ⟨_, rfl⟩
  have HX : Hid ((boT f f (marks 0 n) n).getD d 0 = x) := Lib.hid (by rw [← hx, lastB, hd])
  have e1 : IntKind.i64.wrap ((n : Int) - 1) = (d : Int) := by rw [IntWalk.i64_in _ (by omega)]; omega
  have hdn : d < n := by omega
  have d0 : (0 : Int) ≤ d := Int.natCast_nonneg _
  rw [hx]
  clear hx hd
  go_enter Try.func19, Try.ntmps19
  go_wp2_with (first | ((with_reducible refine (ciAsked_yes _ _ _ h).mono ?_); rintro e w' ⟨rfl, rfl⟩))
  refine (boOrder_any n f f _ (by omega) f1 f2 f1 f2).mono ?_
  rintro e w1 ⟨v, rfl, hs, hk⟩
  obtain ⟨g, cap, rfl, hat, hc, _, _, _⟩ := hs.at_ (by rw [boT_length]; omega)
  rw [boT_length] at hat hc ⊢
  have cs := hat.cell d hdn
  rw [HX.out] at cs
  have HK := Lib.hid hk
  clear hs hk hat
  go_wp2
  go_ret2
  exact ⟨rfl, HK.out⟩
theorem sTurningLast_no (p f : Int) (W : World) (h : ¬ Asked p f) : Calls Try.prog 19 #[.int .i64 p, .int .i64 f] W (IntB W 0 false) := by
  go_enter Try.func19, Try.ntmps19
  go_wp2_with (first | ((with_reducible refine (ciAsked_no _ _ _ h).mono ?_); rintro e w' ⟨rfl, rfl⟩))
  go_ret2
  exact ⟨rfl, Kp.refl _ _⟩
set_option maxRecDepth 100000 in
set_option maxHeartbeats 3200000 in
theorem sLastOfBoth_yes (n : Nat) (f b : Int) (W : World) (hf : Asked n f) (hb : Asked n b) : Calls Try.prog 27 #[.int .i64 n, .int .i64 f, .int .i64 b] W (IntB W (lastB f b n) true) := by
  have f1 := hf.k1; have f2 := hf.k2; have b1 := hb.k1; have b2 := hb.k2; have h2 := hf.p2; have h1 := hf.p1
  obtain ⟨d, hd⟩ : ∃ d, n - 1 = d := ⟨_, rfl⟩
  obtain ⟨x, hx⟩ : ∃ x, lastB f b n = x := ⟨_, rfl⟩
  have HX : Hid ((boT f b (marks 0 n) n).getD d 0 = x) := Lib.hid (by rw [← hx, lastB, hd])
  have e1 : IntKind.i64.wrap ((n : Int) - 1) = (d : Int) := by rw [IntWalk.i64_in _ (by omega)]; omega
  have hdn : d < n := by omega
  have d0 : (0 : Int) ≤ d := Int.natCast_nonneg _
  rw [hx]
  clear hx hd
  go_enter Try.func27, Try.ntmps27
  go_wp2_with (first | ((with_reducible refine (boAsked_yes _ _ _ _ hf hb).mono ?_); rintro e w' ⟨rfl, rfl⟩))
  refine (boOrder_any n f b _ (by omega) f1 f2 b1 b2).mono ?_
  rintro e w1 ⟨v, rfl, hs, hk⟩
  obtain ⟨g, cap, rfl, hat, hc, _, _, _⟩ := hs.at_ (by rw [boT_length]; omega)
  rw [boT_length] at hat hc ⊢
  have cs := hat.cell d hdn
  rw [HX.out] at cs
  have HK := Lib.hid hk
  clear hs hk hat
  go_wp2
  go_ret2
  exact ⟨rfl, HK.out⟩
theorem sLastOfBoth_no (p f b : Int) (W : World) (h : ¬ (Asked p f ∧ Asked p b)) : Calls Try.prog 27 #[.int .i64 p, .int .i64 f, .int .i64 b] W (IntB W 0 false) := by
  go_enter Try.func27, Try.ntmps27
  go_wp2_with (first | ((with_reducible refine (boAsked_no _ _ _ _ h).mono ?_); rintro e w' ⟨rfl, rfl⟩))
  go_ret2
  exact ⟨rfl, Kp.refl _ _⟩
set_option maxRecDepth 100000 in
set_option maxHeartbeats 3200000 in
theorem sTurningTurn_yes (n : Nat) (f u : Int) (W : World) (ho : One n f u) : Calls Try.prog 21 #[.int .i64 n, .int .i64 f, .int .i64 u] W (IntB W (fndD u (boT f f (marks 0 n) n) 0) true) := by
  have h := ho.a
  have f1 := h.k1; have f2 := h.k2; have h2 := h.p2; have h1 := h.p1
  go_enter Try.func21, Try.ntmps21
  go_wp2_with (first | ((with_reducible refine (ciOne_yes _ _ _ _ ho).mono ?_); rintro e w' ⟨rfl, rfl⟩))
  refine (boOrder_any n f f _ (by omega) f1 f2 f1 f2).mono ?_
  rintro e w1 ⟨v, rfl, hs, hk⟩
  have HS := Lib.hid hs
  have HK := Lib.hid hk
  clear hs hk
  go_wp2_with fail
  refine (ciFind_any v _ u w1 HS.out.rd (by rw [boT_length]; omega)).mono ?_
  rintro e w' ⟨rfl, rfl⟩
  go_wp2
  go_ret2
  exact ⟨rfl, HK.out⟩
theorem sTurningTurn_no (p f u : Int) (W : World) (h : ¬ One p f u) : Calls Try.prog 21 #[.int .i64 p, .int .i64 f, .int .i64 u] W (IntB W 0 false) := by
  by_cases ha : Asked p f
  · have hu : u < 0 ∨ p - 1 < u := by
      by_cases e : u < 0
      · exact .inl e
      · by_cases e2 : p - 1 < u
        · exact .inr e2
        · exact (h ⟨ha, by omega, by omega⟩).elim
    go_enter Try.func21, Try.ntmps21
    go_wp2_with (first | ((with_reducible refine (ciOne_no2 p f u _ ha hu).mono ?_); rintro e w' ⟨rfl, rfl⟩))
    go_ret2
    exact ⟨rfl, Kp.refl _ _⟩
  · go_enter Try.func21, Try.ntmps21
    go_wp2_with (first | ((with_reducible refine (ciOne_no1 p f u _ ha).mono ?_); rintro e w' ⟨rfl, rfl⟩))
    go_ret2
    exact ⟨rfl, Kp.refl _ _⟩
theorem sMirrorPerson_yes (p u : Int) (W : World) (ho : One p 1 u) : Calls Try.prog 29 #[.int .i64 p, .int .i64 u] W (IntB W (p - 1 - u) true) := by
  have h1 := ho.a.p1; have h2 := ho.a.p2; have h3 := ho.b1; have h4 := ho.b2
  have e1 : IntKind.i64.wrap (p - 1) = p - 1 := IntWalk.i64_in _ (by omega)
  have e2 : IntKind.i64.wrap (p - 1 - u) = p - 1 - u := IntWalk.i64_in _ (by omega)
  go_enter Try.func29, Try.ntmps29
  go_wp2_with (first | ((with_reducible refine (ciOne_yes _ _ _ _ ho).mono ?_); rintro e w' ⟨rfl, rfl⟩))
  go_ret2
  exact ⟨rfl, Kp.refl _ _⟩
theorem sMirrorPerson_no (p u : Int) (W : World) (h : ¬ One p 1 u) : Calls Try.prog 29 #[.int .i64 p, .int .i64 u] W (IntB W 0 false) := by
  by_cases ha : Asked p 1
  · have hu : u < 0 ∨ p - 1 < u := by
      by_cases e : u < 0
      · exact .inl e
      · by_cases e2 : p - 1 < u
        · exact .inr e2
        · exact (h ⟨ha, by omega, by omega⟩).elim
    go_enter Try.func29, Try.ntmps29
    go_wp2_with (first | ((with_reducible refine (ciOne_no2 p 1 u _ ha hu).mono ?_); rintro e w' ⟨rfl, rfl⟩))
    go_ret2
    exact ⟨rfl, Kp.refl _ _⟩
  · go_enter Try.func29, Try.ntmps29
    go_wp2_with (first | ((with_reducible refine (ciOne_no1 p 1 u _ ha).mono ?_); rintro e w' ⟨rfl, rfl⟩))
    go_ret2
    exact ⟨rfl, Kp.refl _ _⟩
set_option maxRecDepth 100000 in
set_option maxHeartbeats 3200000 in
theorem sTurningTable_yes (n s : Nat) (W : World) (h : Asked n 1) (s1 : 1 ≤ s) (s2 : s ≤ 200) : Calls Try.prog 23 #[.int .i64 n, .int .i64 s] W (ListB W (tabB n s) true) := by
  have h1 := h.p1; have h2 := h.p2
  have q0 : (1 : Int) ≤ s := by omega
  have q1 : (s : Int) ≤ 200 := by omega
  obtain ⟨d, hd⟩ : ∃ d, n - 1 = d := ⟨_, rfl⟩
  have e1 : IntKind.i64.wrap ((n : Int) - 1) = (d : Int) := by rw [IntWalk.i64_in _ (by omega)]; omega
  have hdn : d < n := by omega
  have d0 : (0 : Int) ≤ d := Int.natCast_nonneg _
  have HD := Lib.hid hd
  clear hd
  go_enter Try.func23, Try.ntmps23
  go_wp2_with (first | ((with_reducible refine (ciAsked_yes _ _ _ h).mono ?_); rintro e w' ⟨rfl, rfl⟩) | ((with_reducible refine (l1In_yes (s : Int) _ _ _ q0 q1).mono ?_); rintro e w' ⟨rfl, rfl⟩))
  go_loopw [6, 7] (fun o i wr => ∃ (j : Nat) (r : Value), j ≤ s ∧ i = .int .i64 ((j : Int) + 1) ∧ r = o ∧ Sl wr W.heap.size r (tabB n j) ∧ Kp Nw W wr) (fun _ i _ => s + 1 - (intOf i).toNat)
  case atStart => exact ⟨0, _, Nat.zero_le _, rfl, rfl, Sl.nil _ _, Kp.refl _ _⟩
  case round =>
    rename_i wr
    obtain ⟨j, r, hj, rfl, rfl, hr, hk⟩ := hrel
    have HR := Lib.hid hr
    have HK := Lib.hid hk
    have j0 : (0 : Int) ≤ j := Int.natCast_nonneg _
    have hzz : W.heap.size ≤ wr.heap.size := HK.out.size
    have hrl : (tabB n j).length ≤ 1000 := by rw [tabB_length]; omega
    clear hr hk
    by_cases hlt : j < s
    · have t1 : (j : Int) + 1 ≤ s := by omega
      have w2 : IntKind.i64.wrap ((j : Int) + 1 + 1) = (j : Int) + 1 + 1 := IntWalk.i64_in _ (by omega)
      obtain ⟨x, hx⟩ : ∃ x, lastB ((j : Int) + 1) ((j : Int) + 1) n = x := ⟨_, rfl⟩
      have HX : Hid ((boT ((j : Int) + 1) ((j : Int) + 1) (marks 0 n) n).getD d 0 = x) := Lib.hid (by rw [← hx, lastB, HD.out])
      have HT := Lib.hid (tabB_snoc n j)
      rw [hx] at HT
      clear hx
      go_wp2_with fail
      refine (boOrder_any n ((j : Int) + 1) ((j : Int) + 1) wr (by omega) (by omega) (by omega) (by omega) (by omega)).mono ?_
      rintro e w1 ⟨v, rfl, hs, hk⟩
      obtain ⟨g, cap, rfl, hat, hc, _, _, _⟩ := hs.at_ (by rw [boT_length]; omega)
      rw [boT_length] at hat hc ⊢
      have cs := hat.cell d hdn
      rw [HX.out] at cs
      have HK1 := Lib.hid (HK.out.nw hk)
      have HR1 := Lib.hid (HR.out.below hk.below')
      have hz1 : W.heap.size ≤ w1.heap.size := HK1.out.size
      clear hs hk hat
      go_wp2_with (first | (at_builtin; refine wpList_app _ rfl (.tmp 21) (.tmp 30) rfl W.heap.size r _ (tabB n j) [x] rfl rfl (HR1.out.below ((Kp.refl Nw w1).alloc _).below') (Rd.one (g := w1.heap.size) (by simp)) nil_one (by simp; omega) (by simp; omega) ?_))
      intro r' w3 hs3 hk3 hat
      have HS3 := Lib.hid hs3
      have HK3 := Lib.hid ((HK1.out.nw (.al _ _)).own (HR1.out.below (Kp.al _ _).below') hk3)
      clear hs3 hk3 hat
      go_wp2
      go_roundw
      case rel => exact ⟨j + 1, r', by omega, by go_num, rfl, by rw [HT.out]; exact HS3.out, HK3.out⟩
      case measure => simp [intOf] <;> omega
    · have e : j = s := by omega
      subst e
      have t1 : ¬ (j : Int) + 1 ≤ j := by omega
      go_wp2
      go_ret2
      exact ⟨r, rfl, HR.out, HK.out⟩
theorem sTurningTable_no (p s : Int) (W : World) (h : ¬ (Asked p 1 ∧ 1 ≤ s ∧ s ≤ 200)) : Calls Try.prog 23 #[.int .i64 p, .int .i64 s] W (ListB W [] false) := by
  by_cases ha : Asked p 1
  · have hs : s < 1 ∨ 200 < s := by
      by_cases e : s < 1
      · exact .inl e
      · by_cases e2 : 200 < s
        · exact .inr e2
        · exact (h ⟨ha, by omega, by omega⟩).elim
    go_enter Try.func23, Try.ntmps23
    go_wp2_with (first | ((with_reducible refine (ciAsked_yes _ _ _ ha).mono ?_); rintro e w' ⟨rfl, rfl⟩) | ((with_reducible refine (l1In_no s _ _ _ hs).mono ?_); rintro e w' ⟨rfl, rfl⟩))
    go_ret2
    exact ⟨.slice none 0 0, rfl, Sl.nil _ _, Kp.refl _ _⟩
  · go_enter Try.func23, Try.ntmps23
    go_wp2_with (first | ((with_reducible refine (ciAsked_no _ _ _ ha).mono ?_); rintro e w' ⟨rfl, rfl⟩))
    go_ret2
    exact ⟨.slice none 0 0, rfl, Sl.nil _ _, Kp.refl _ _⟩
end Go.Proofs.Ytgahlpniciafkaa
