/- The gaps between those who go one after the other (GapsOut), in the program and in its model: both are the same list; for all integers. -/
import Derived.Test.YtaejlhdbdjfccabFixed
namespace Go.Proofs.Ytaejlhdbdjfccab
open Go.ChangeShapes Go.WideShapes Go.ChangeAt Go.RowKit

theorem Sl.drew {w : World} {B : Nat} {v : Value} {xs : List Int} (h : Sl w B v xs) : Sl w.drew B v xs := h

theorem who_map1 (k : Int) (l : List (Int × Int)) : who k (l.map (·.1)) = (whoP k l).1 := by
  unfold who whoP
  simp only [List.getD, List.length_map, List.getElem?_map]
  cases l[place k l.length]? <;> rfl
theorem outs_map1 (k : Int) : ∀ (t : Nat) (l : List (Int × Int)), outs k t (l.map (·.1)) = (outsP k t l).map (·.1)
  | 0, _ => rfl
  | t + 1, l => by rw [outs, outsP, List.map_cons, who_map1, rest_map, outs_map1 k t]
theorem num_fst (n : Nat) : (num (marks 0 n)).map (·.1) = marks 0 n := by
  apply List.ext_getElem?
  intro j
  by_cases h : j < n <;> simp [num, marks, h]
theorem ordP_getD1 (k : Int) (n t : Nat) (ht : t < n) : ((ordP k (marks 0 n)).getD t (0, 0)).1 = (outs k n (marks 0 n)).getD t 0 := by
  have h : outs k n (marks 0 n) = (ordP k (marks 0 n)).map (·.1) := by
    unfold ordP
    rw [← outs_map1, num_fst, marks_length]
  have hl : t < (ordP k (marks 0 n)).length := by rw [ordP_length, marks_length]; exact ht
  rw [h]
  simp [hl]

theorem who_mem (k : Int) (l : List Int) : who k l ∈ l ∨ who k l = 0 := by
  unfold who
  by_cases h : place k l.length < l.length
  · exact .inl (by simp [h])
  · exact .inr (by simp [h])
theorem rest_mem (k : Int) (l : List Int) (x : Int) (h : x ∈ rest k l) : x ∈ l := by
  unfold rest at h
  rcases List.mem_append.1 h with h | h
  · exact List.mem_of_mem_drop h
  · exact List.mem_of_mem_take h
theorem outs_mem (k : Int) : ∀ (t : Nat) (l : List Int) (x : Int), x ∈ outs k t l → x ∈ l ∨ x = 0
  | 0, _, x, h => by simp [outs] at h
  | t + 1, l, x, h => by
    rw [outs, List.mem_cons] at h
    rcases h with rfl | h
    · exact who_mem k l
    · rcases outs_mem k t _ x h with h | h
      · exact .inl (rest_mem k l x h)
      · exact .inr h
theorem outs_bd (k : Int) (n j : Nat) (hj : j < n) : 0 ≤ (outs k n (marks 0 n)).getD j 0 ∧ (outs k n (marks 0 n)).getD j 0 < n := by
  have hm : (outs k n (marks 0 n)).getD j 0 ∈ outs k n (marks 0 n) := by
    have hl : j < (outs k n (marks 0 n)).length := by rw [outs_length]; exact hj
    have e : (outs k n (marks 0 n)).getD j 0 = (outs k n (marks 0 n))[j] := by simp [hl]
    rw [e]
    exact List.getElem_mem _
  rcases outs_mem k n _ _ hm with h | h
  · obtain ⟨i, hi, e⟩ := List.mem_map.1 h
    have := List.mem_range.1 hi
    omega
  · omega

/-- the first m gaps -/
def gaps (o : List Int) (n m : Nat) : List Int := (List.range m).map fun i : Nat => (o.getD (i + 1) 0 - o.getD i 0) % (n : Int)
theorem gaps_length (o : List Int) (n m : Nat) : (gaps o n m).length = m := by simp [gaps]
theorem gaps_succ (o : List Int) (n m : Nat) : gaps o n (m + 1) = gaps o n m ++ [(o.getD (m + 1) 0 - o.getD m 0) % (n : Int)] := by simp [gaps, List.range_succ]
theorem gaps_get (o : List Int) (n m j : Nat) (h : j < m) : (gaps o n m)[j]? = some ((o.getD (j + 1) 0 - o.getD j 0) % (n : Int)) := by simp [gaps, h]
theorem gap_tmod (a b : Int) (n : Nat) (ha : 0 ≤ a) (hb : b < n) : (a - b + (n : Int)).tmod (n : Int) = (a - b) % (n : Int) := by
  rw [Int.tmod_eq_emod_of_nonneg (by omega), Int.add_emod_right]

set_option maxHeartbeats 1600000 in
theorem sGapsOut_yes (n : Nat) (k : Int) (W : World) (h : Asked n k) :
    Calls Try.prog 34 #[.int .i64 n, .int .i64 k] W (ListRes W (gaps (outs k n (marks 0 n)) n (n - 1)) true) := by
  have h1 := h.p1; have h2 := h.p2; have h5 := h.k1; have h6 := h.k2
  go_enter Try.func34, Try.ntmps34
  go_wp2_with (first | ((with_reducible refine (ciAsked_yes _ _ _ h).mono ?_); rintro e w' ⟨rfl, rfl⟩))
  refine (ciPeople_any n W (by omega)).mono ?_
  rintro e w1 ⟨v, rfl, hs, hk⟩
  have HS := Lib.hid hs
  have HK := Lib.hid hk
  clear hs hk
  go_wp2_with fail
  refine (ciOrder_any v k (marks 0 n) _ w1 HS.out (by rw [marks_length]; omega) h.k1 h.k2).mono ?_
  rintro e w2 ⟨v2, rfl, hs2, hk2⟩
  rw [marks_length] at hs2
  obtain ⟨g, cap, rfl, hs3, _, _, hgW, hgl⟩ := hs2.at_ (by rw [outs_length]; omega)
  rw [outs_length] at hs3 ⊢
  have HS3 := Lib.hid hs3
  have HK2 := Lib.hid (HK.out.nw hk2)
  clear hs2 hk2 hs3
  go_wp2
  go_loopw [7, 8] (fun s i wr => ∃ (j : Nat) (u : Value), j + 1 ≤ n ∧ i = .int .i64 ((j : Int) + 1) ∧ u = s ∧ Sl wr w2.heap.size u (gaps (outs k n (marks 0 n)) n j) ∧ Kp Nw w2 wr) (fun _ i _ => n - (intOf i).toNat)
  case atStart => exact ⟨0, _, by omega, rfl, rfl, by simpa [gaps] using Sl.nil _ _, Kp.refl _ _⟩
  case round =>
    rename_i wr
    obtain ⟨j, u, hj, rfl, rfl, hu, hk⟩ := hrel
    have HU := Lib.hid hu
    have HK3 := Lib.hid hk
    clear hu hk
    by_cases hlt : j + 1 < n
    · have c0 := keepc HK3.out (HS3.out.cell j (by omega)) (fun h => h)
      have c1 := keepc HK3.out (HS3.out.cell (j + 1) hlt) (fun h => h)
      obtain ⟨ba1, ba2⟩ := outs_bd k n (j + 1) hlt
      obtain ⟨bb1, bb2⟩ := outs_bd k n j (by omega)
      have hg := gaps_succ (outs k n (marks 0 n)) n j
      obtain ⟨a, ha⟩ : ∃ a, (outs k n (marks 0 n)).getD (j + 1) 0 = a := ⟨_, rfl⟩
      obtain ⟨b, hb⟩ : ∃ b, (outs k n (marks 0 n)).getD j 0 = b := ⟨_, rfl⟩
      rw [ha] at c1 ba1 ba2 hg
      rw [hb] at c0 bb1 bb2 hg
      have q5 := gap_tmod a b n ba1 bb2
      have q1 : IntKind.i64.wrap (a - b) = a - b := IntWalk.i64_in _ (by omega)
      have q2 : IntKind.i64.wrap (a - b + (n : Int)) = a - b + (n : Int) := IntWalk.i64_in _ (by omega)
      obtain ⟨x, hx⟩ : ∃ x, (a - b) % (n : Int) = x := ⟨_, rfl⟩
      rw [hx] at hg q5
      have x1 : 0 ≤ x := by rw [← hx]; exact Int.emod_nonneg _ (by omega)
      have x2 : x < n := by rw [← hx]; exact Int.emod_lt_of_pos _ (by omega)
      have HG := Lib.hid hg
      have B0 := Lib.hid (HS3.out.cell j (by omega))
      have B1 := Lib.hid (HS3.out.cell (j + 1) hlt)
      rw [hb] at B0
      rw [ha] at B1
      have C0 := Lib.hid c0
      have C1 := Lib.hid c1
      have j0 : (0 : Int) ≤ j := Int.natCast_nonneg _
      have j1 : (j : Int) + 1 < n := by omega
      have j2 : (j : Int) < n := by omega
      have j3 : (0 : Int) ≤ (j : Int) + 1 := by omega
      have q3 : IntKind.i64.wrap ((j : Int) + 1 - 1) = (j : Int) := by rw [show (j : Int) + 1 - 1 = j by omega]; exact IntWalk.i64_in _ (by omega)
      have q7 : IntKind.i64.wrap (j : Int) = (j : Int) := IntWalk.i64_in _ (by omega)
      have q4 : ((j : Int) + 1).toNat = j + 1 := by omega
      have q6 : (n : Int) ≠ 0 := by omega
      have q8 : IntKind.i64.wrap x = x := IntWalk.i64_in _ (by omega)
      have q9 : ((n : Int) == 0) = false := by simp; omega
      have q10 : ¬ n = 0 := by omega
      clear hg ha hb hx c0 c1
      go_wp2_with fail
      go_region_held3 (fun w' => Kp Nw w2 w' ∧ w'.cell? ⟨g, j, none⟩ = some (.int .i64 b) ∧ w'.cell? ⟨g, j + 1, none⟩ = some (.int .i64 a))
        (first
          | exact ⟨HK3.out.drew, C0.out, C1.out⟩
          | exact ⟨hkW4, keepc hkW4 B0.out (fun h => h), keepc hkW4 B1.out (fun h => h)⟩
          | exact ⟨(HK3.out.alloc _).drew, keepc (.al _ _) C0.out (fun h => h), keepc (.al _ _) C1.out (fun h => h)⟩
          | exact ⟨HK3.out.drew.alloc _, keepc (.al _ _) C0.out (fun h => h), keepc (.al _ _) C1.out (fun h => h)⟩
          | exact ⟨(‹Kp Nw w2 _ ∧ _ ∧ _›.1), (‹Kp Nw w2 _ ∧ _ ∧ _›.2)⟩)
        ((refine step_app _ (by rfl) (.tmp 22) (.tmp 37) (by rfl) w2.heap.size u _ (gaps (outs k n (marks 0 n)) n j) [x] (by rfl) (by rfl) (HU.out.below (Kp.al _ _).below').drew (Rd.one (g := wr.heap.size) (by simp)) nil_one (by rw [gaps_length]; simp; omega) (‹Kp Nw w2 _ ∧ _ ∧ _›.1).size ?_
          intro v4 w4 hs4 hk4 _
          have hkW4 := (‹Kp Nw w2 _ ∧ _ ∧ _›.1).own (HU.out.below (Kp.al _ _).below').drew hk4))
      rw [← HG.out] at hs4
      have HS4 := Lib.hid hs4
      have HK4 := Lib.hid hkW4
      clear hs4 hk4 hkW4
      go_wp2
      go_roundw
      case rel => exact ⟨j + 1, v4, by omega, by go_num, rfl, HS4.out, HK4.out⟩
      case measure => simp [intOf]; omega
    · have e : j = n - 1 := by omega
      rw [e] at HU
      have j0 : (n : Int) ≤ (j : Int) + 1 := by omega
      have j3 : ¬ (j : Int) + 1 < (n : Int) := by omega
      clear e
      go_wp2
      go_ret2
      exact ⟨u, rfl, HU.out.from HK2.out.size, HK2.out.nw HK3.out⟩

set_option maxHeartbeats 1600000 in
theorem iGapsOut_yes (n : Nat) (k : Int) (W : World) (h : Asked n k) :
    Calls Try.prog 35 #[.int .i64 n, .int .i64 k] W (ListRes W (gaps (outs k n (marks 0 n)) n (n - 1)) true) := by
  have h1 := h.p1; have h2 := h.p2; have h5 := h.k1; have h6 := h.k2
  obtain ⟨i0, hi0, hz0, hz1, hz2⟩ := info_parts intInfo
  obtain ⟨m, hm⟩ : ∃ m, n - 1 = m := ⟨_, rfl⟩
  have hm' : n = m + 1 := by omega
  rw [hm]
  have HM := Lib.hid hm'
  clear hm hm'
  go_enter Try.func35, Try.ntmps35
  go_wp2_with (first | ((with_reducible refine (isCount_yes _ _ _ h).mono ?_); rintro e w' ⟨rfl, rfl⟩))
  refine (orderOfAll_any n k W h).mono ?_
  rintro e w1 ⟨G, rfl, hP, hk, hG⟩
  have HP := Lib.hid hP
  have HK := Lib.hid hk
  have q0 : IntKind.i64.wrap ((n : Int) - 1) = (n : Int) - 1 := IntWalk.i64_in _ (by omega)
  have q00 : (0 : Int) ≤ (n : Int) - 1 := by omega
  have HMI := Lib.hid (show (n : Int) - 1 = (m : Int) by have := HM.out; omega)
  clear hP hk
  go_wp2_with (first | (at_make; refine wpList_make_full _ rfl _ _ 22 rfl w1.heap.size 3 i0 (.int .i64 0) 1 Try.underlying22 hi0 hz0 hz1 _ _ _ _ m rfl rfl HMI.out HMI.out (by rw [hz2]; have := HM.out; omega) (by have := HM.out; unfold maxLen; omega) (Nat.le_refl _) ?_))
  intro w2 hown hgrow
  have hk1 : Kp Nw w1 w2 := (Kp.refl _ _).grown hgrow (fun g hg => by cases hg)
  have HS := Lib.hid (Sl.zeros hown)
  have HK2 := Lib.hid hk1
  have hGl := HP.out.lt
  clear hown hgrow hk1
  go_wp2
  go_loopw [8, 21] (fun _ i wr => ∃ j : Nat, j ≤ m ∧ i = .int .i64 j ∧ SlAt wr w1.heap.size w1.heap.size m m (fill (gaps (outs k n (marks 0 n)) n m) (List.replicate m 0) j) ∧ Kp Nw w1 wr) (fun _ i _ => m - (intOf i).toNat)
  case atStart => exact ⟨0, Nat.zero_le _, rfl, by rw [fill_zero]; exact HS.out, HK2.out⟩
  case round =>
    rename_i wr
    obtain ⟨j, hj, rfl, hs, hk⟩ := hrel
    have H := Lib.hid hs
    have HK3 := Lib.hid hk
    by_cases hlt : j < m
    · have hn1 : j + 1 < n := by have := HM.out; omega
      have c := hs.cell j hlt
      have fz := hs.frozen j
      have a0 := keepc hk (HP.out.cell j (by rw [ordP_length, marks_length]; omega)).1 (fun h => h)
      have a1 := keepc hk (HP.out.cell (j + 1) (by rw [ordP_length, marks_length]; omega)).1 (fun h => h)
      rw [ordP_getD1 k n j (by omega)] at a0
      rw [ordP_getD1 k n (j + 1) hn1] at a1
      obtain ⟨ba1, ba2⟩ := outs_bd k n (j + 1) hn1
      obtain ⟨bb1, bb2⟩ := outs_bd k n j (by omega)
      have hg := gaps_get (outs k n (marks 0 n)) n m j hlt
      obtain ⟨a, ha⟩ : ∃ a, (outs k n (marks 0 n)).getD (j + 1) 0 = a := ⟨_, rfl⟩
      obtain ⟨b, hb⟩ : ∃ b, (outs k n (marks 0 n)).getD j 0 = b := ⟨_, rfl⟩
      rw [ha] at a1 ba1 ba2 hg
      rw [hb] at a0 bb1 bb2 hg
      have q1 : IntKind.i64.wrap (a - b) = a - b := IntWalk.i64_in _ (by omega)
      have HG := Lib.hid hg
      have A0 := Lib.hid a0
      have A1 := Lib.hid a1
      have CC := Lib.hid c
      have j0 : (0 : Int) ≤ j := Int.natCast_nonneg _
      have j1 : (j : Int) + 1 < n := by omega
      have j2 : (j : Int) < n := by omega
      have j3 : (0 : Int) ≤ (j : Int) + 1 := by omega
      have j5 : (j : Int) < m := by omega
      have q3 : IntKind.i64.wrap ((j : Int) + 1) = (j : Int) + 1 := IntWalk.i64_in _ (by omega)
      have q4 : ((j : Int) + 1).toNat = j + 1 := by omega
      clear hg ha hb hs hk HS a0 a1
      go_wp2_with fail
      go_region_held3 (fun w' => w'.cell? ⟨G, j * 2, none⟩ = some (.int .i64 b) ∧ w'.cell? ⟨G, (j + 1) * 2, none⟩ = some (.int .i64 a))
        (first
          | exact ⟨A0.out, A1.out⟩
          | exact ⟨keeps _ _ ⟨w1.heap.size, j, none⟩ _ _ A0.out (by show w1.heap.size ≠ G; omega), keeps _ _ ⟨w1.heap.size, j, none⟩ _ _ A1.out (by show w1.heap.size ≠ G; omega)⟩)
        (first
          | (go_at_call 59
             refine (around_any (a - b) n _ (by omega) (by omega) (by omega) (by omega)).mono ?_
             rintro e w4 ⟨rfl, rfl⟩))
      go_wp2
      go_roundw
      case rel =>
        refine ⟨j + 1, by omega, by go_num, ?_, (HK3.out.setCell (.inr (Nat.le_refl _)) _).drew⟩
        have h2 := H.out.store j ((a - b) % (n : Int))
        rw [fill_set (gaps (outs k n (marks 0 n)) n m) _ j _ (by rw [gaps_length, List.length_replicate]) (by rw [gaps_length]; exact hlt) HG.out] at h2
        exact h2
      case measure => simp [intOf]; omega
    · have e : j = m := by omega
      subst e
      rw [show fill (gaps (outs k n (marks 0 n)) n j) (List.replicate j 0) j = gaps (outs k n (marks 0 n)) n j by
        have := fill_all (gaps (outs k n (marks 0 n)) n j) (List.replicate j 0) (by rw [gaps_length, List.length_replicate])
        rwa [gaps_length] at this] at hs
      have H := Lib.hid (hs.sl.from HK.out.size)
      clear hs HS hk
      go_wp2
      go_ret2
      exact ⟨_, rfl, H.out, HK.out.nw HK3.out⟩

set_option maxHeartbeats 1600000 in
theorem lawGapsOut_of (p k : Int) (xs : List Int) (b : Bool) (W : World) (hlen : xs.length ≤ 1000000)
    (hS : Hid (∀ W, Calls Try.prog 34 #[.int .i64 p, .int .i64 k] W (ListRes W xs b))) (hI : Hid (∀ W, Calls Try.prog 35 #[.int .i64 p, .int .i64 k] W (ListRes W xs b))) :
    Calls Try.prog 10 #[.int .i64 p, .int .i64 k] W fun e w' => e = .returned (.bool true) ∧ Kp Nw W w' := by
  obtain ⟨n, hn⟩ : ∃ n, xs.length = n := ⟨_, rfl⟩
  have HL : Hid (xs.length ≤ maxLen) := Lib.hid (by unfold maxLen; omega)
  have hlen : n ≤ 1000000 := by omega
  have hn0 : (0 : Int) ≤ n := Int.natCast_nonneg _
  have HN := Lib.hid hn
  clear hn
  go_enter Try.func10, Try.ntmps10
  go_wp2_with fail
  refine (hS.out _).mono ?_
  rintro e w1 ⟨v1, rfl, hs1, hk1⟩
  obtain ⟨A1, c1, rfl⟩ := hs1.val HN.out
  have HS1 := Lib.hid hs1; have HK1 := Lib.hid hk1; clear hs1 hk1
  go_wp2_with fail
  refine (hI.out _).mono ?_
  rintro e w2 ⟨v2, rfl, hs2, hk2⟩
  obtain ⟨A2, c2, rfl⟩ := hs2.val HN.out
  have O1 := Lib.hid HS1.out.own_ge
  have O2 := Lib.hid hs2.own_ge
  have HS1 := Lib.hid (HS1.out.below hk2.below')
  have HS2 := Lib.hid hs2; have HK2 := Lib.hid (HK1.out.nw hk2); have z2 := hk2.size; clear hs2 hk2
  go_wp2_with fail
  refine (eqIntS_same _ _ xs _ HS2.out.rd HS1.out.rd HL.out).mono ?_
  rintro e w3 ⟨rfl, d1, rfl⟩
  go_wp2_with fail
  refine (markIntS_any _ xs 1 _ _ (HS2.out.drewN d1) (by omega) (by omega) (by rw [HN.out]; omega)).mono ?_
  rintro e w4 ⟨rfl, hs4, hk4⟩
  rw [HN.out] at hs4 ⊢
  have HS1 := Lib.hid ((HS1.out.drewN d1).kp hk4 (fun g a b => by have := (O1.out g a).2; have := (O2.out g b).1; omega))
  have HS4 := Lib.hid hs4
  have HK4 := Lib.hid ((HK2.out.drewN d1).after hk4 (fun g hg b => by have := (O2.out g b).1; have := HK1.out.size; omega))
  clear hs4 hk4
  go_wp2_with fail
  refine (heldIntS_any _ 1 n _ HS4.out.rd (by omega) (by omega) (by omega)).mono ?_
  rintro e w5 ⟨rfl, rfl⟩
  go_wp2_with fail
  refine (hI.out _).mono ?_
  rintro e w6 ⟨v6, rfl, hs6, hk6⟩
  obtain ⟨A6, c6, rfl⟩ := hs6.val HN.out
  have HS4 := Lib.hid (HS4.out.below hk6.below')
  have HS1 := Lib.hid (HS1.out.below hk6.below')
  have HK6 := Lib.hid (HK4.out.nw hk6)
  have HS6 := Lib.hid hs6
  clear hs6 hk6
  go_wp2_with fail
  refine (eqIntS_same _ _ xs _ HS6.out.rd HS1.out.rd HL.out).mono ?_
  rintro e w7 ⟨rfl, d2, rfl⟩
  go_wp2_with fail
  refine (heldIntS_any _ 1 n _ (HS4.out.drewN d2).rd (by omega) (by omega) (by omega)).mono ?_
  rintro e w8 ⟨rfl, rfl⟩
  go_wp2
  go_ret
  exact ⟨rfl, HK6.out.drewN d2⟩

theorem lawGapsOut (p k : Int) (W : World) :
    Calls Try.prog 10 #[.int .i64 p, .int .i64 k] W fun e w' => e = .returned (.bool true) ∧ Kp Nw W w' := by
  by_cases h : Asked p k
  · obtain ⟨n, rfl⟩ : ∃ n : Nat, p = n := ⟨p.toNat, by have := h.p1; omega⟩
    have h2 := h.p2
    exact lawGapsOut_of n k (gaps (outs k n (marks 0 n)) n (n - 1)) true W (by rw [gaps_length]; omega) (Lib.hid fun _ => sGapsOut_yes n k _ h) (Lib.hid fun _ => iGapsOut_yes n k _ h)
  · exact lawGapsOut_of p k [] false W (by simp) (Lib.hid fun _ => sGapsOut_no p k _ h) (Lib.hid fun _ => iGapsOut_no p k _ h)
end Go.Proofs.Ytaejlhdbdjfccab
