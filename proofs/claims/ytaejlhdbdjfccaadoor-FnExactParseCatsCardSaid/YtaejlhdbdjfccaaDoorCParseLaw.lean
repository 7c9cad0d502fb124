/- The law of ParseCats: the program reads exactly the texts that its model reads, into the same cats, in new memory; the world holds the library's tables and errors. -/
import Derived.Test.YtaejlhdbdjfccaaDoorCParseI
import Derived.Test.YtaejlhdbdjfccaaDoorCParseS
namespace Go.Proofs.YtaejlhdbdjfccaaDoor
open Go.ChangeShapes Go.WideShapes Go.ChangeAt Go.RowKit

theorem sParseC_pass (l : List UInt8) (ys : List Int) (y : Int) (b : Bool) (W : World) (_hl : ys.length ≤ 1000000) (h : Hid (∀ w, Calls Tryd.prog 22 #[.string ⟨l.toArray⟩] w (CatsRes0 w ys y b))) : Calls Tryd.prog 10 #[.string ⟨l.toArray⟩] W (CatsRes0 W ys y b) := by
  obtain ⟨n, hn⟩ : ∃ n, ys.length = n := ⟨_, rfl⟩
  have HN := Lib.hid hn
  clear hn
  go_enter Tryd.func10, Tryd.ntmps10
  go_wp2_with fail
  refine (h.out _).mono ?_
  rintro e w1 ⟨v, rfl, hs, hk⟩
  obtain ⟨A1, c1, rfl⟩ := hs.val HN.out
  obtain ⟨q0, q1, q2, q3⟩ := (Own2.new W (.slice none 0 0) (.int .i64 0) 28).kp hk (fun h => h)
  rw [World.size_alloc] at hs
  have HS := Lib.hid hs
  have HK := Lib.hid ((Kp.al W (.cells #[.slice none 0 0, .int .i64 0] 28)).nw hk)
  obtain ⟨y0, y1⟩ := two_set _ W.heap.size (.slice A1 n c1) (.int .i64 y) _ _ q0 q1
  clear hs hk
  go_wp2
  refine bodyPost_ret (v := .tuple #[.agg #[.slice A1 n c1, .int .i64 y], .bool b]) (by simp [results, Tryd.results10, go_sem, y0, y1]) rfl ⟨_, rfl, ?_, ?_⟩
  · have k1' : Kp (fun b => b = W.heap.size) w1 w1 := Kp.refl _ _
    exact (HS.out.kp ((k1'.setCell (.inl rfl) _).setCell (.inl rfl) _) (fun g hg e => by have := (HS.out.own_ge g hg).1; omega)).from (by omega)
  · exact (HK.out.setCell (.inr (Nat.le_refl _)) _).setCell (.inr (Nat.le_refl _)) _

/-- both read the same -/
structure BothC (l : List UInt8) (W : World) (ys : List Int) (y : Int) (b : Bool) : Prop where
  len : ys.length ≤ 1000000
  s : ∀ w, Kp Nw W w → Calls Tryd.prog 10 #[.string ⟨l.toArray⟩] w (CatsRes0 w ys y b)
  i : ∀ w, Kp Nw W w → Calls Tryd.prog 11 #[.string ⟨l.toArray⟩] w (CatsRes0 w ys y b)
theorem bothC_any (l : List UInt8) (W : World) (hT : Tabs W) (hM : Mx W) (hl : l.length ≤ 1048576) : ∃ ys y b, BothC l W ys y b := by
  rcases cut_cases 126 l with ⟨e1, e2⟩ | ⟨o, ho, _, e1, e2⟩
  · refine ⟨[], 0, false, by simp, fun w hk => sParseC_pass l _ _ _ w (by simp) (Lib.hid fun w => liParse_off l w hl (.inr (by rw [e2]; simp))), fun w hk => ?_⟩
    exact iParseCats_of l l [] false (stepOK l) (listOKC (sp 44 [] [])) _ _ _ w (hM.nw hk) hl e1
      (fun h => by rw [if_pos h]; unfold nums; rw [List.length_map]; exact sp_pos 44 [] []) (by have := sp_count 44 [] []; split <;> simp [nums] at this ⊢; omega)
      (Lib.hid fun w' hk' => parseNumber_any l w' ((hT.nw hk).nw hk') (by omega)) (Lib.hid fun w' hk' => parseNumbersC_all [] w' ((hT.nw hk).nw hk') ((hM.nw hk).nw hk') (by simp)) rfl false (by simp) [] 0 rfl rfl
  · obtain ⟨A, hA⟩ : ∃ A, l.take o = A := ⟨_, rfl⟩
    obtain ⟨B, hB⟩ : ∃ B, l.drop (o + 1) = B := ⟨_, rfl⟩
    have p1 := pgC_long l o ho
    have p2 := pgC_more l o
    have p3 := spC_two l o
    have hAl : A.length ≤ l.length := by rw [← hA]; simp; omega
    have hBl : B.length ≤ l.length := by rw [← hB]; simp
    rw [hA, hB] at e1 e2 p1 p2
    rw [hB] at p3
    have hpos := sp_pos 44 B []
    have hcnt := sp_count 44 B []
    have hpos2 := sp_pos 126 B []
    -- the program
    have PI : ∀ w, Kp Nw W w → Calls Tryd.prog 11 #[.string ⟨l.toArray⟩] w (CatsRes0 w (if pgC A (sp 44 [] B) = true then nums (sp 44 [] B) else []) (if pgC A (sp 44 [] B) = true then (val A : Int) else 0) (pgC A (sp 44 [] B))) := fun w hk => by
      refine iParseCats_of l A B true (stepOK A) (listOKC (sp 44 [] B)) _ _ _ w (hM.nw hk) hl e1
        (fun h => by rw [if_pos h]; unfold nums; rw [List.length_map]; exact hpos) (by split <;> simp [nums]; omega)
        (Lib.hid fun w' hk' => parseNumber_any A w' ((hT.nw hk).nw hk') (by omega)) (Lib.hid fun w' hk' => parseNumbersC_all B w' ((hT.nw hk).nw hk') ((hM.nw hk).nw hk') (by omega)) rfl (pgC A (sp 44 [] B)) ?_ _ _ ?_ ?_
      · unfold pgC
        cases h1 : stepOK A <;> cases h2 : listOKC (sp 44 [] B) <;> simp
      · by_cases h : pgC A (sp 44 [] B) = true
        · obtain ⟨h1, h2, h3, h4⟩ := (pgC_iff _ _).1 h
          have h5 : listOKC (sp 44 [] B) = true := by unfold listOKC; rw [decide_eq_true h2, h3]; rfl
          rw [if_pos h, if_pos h, if_pos h5]
        · rw [if_neg h, if_neg h]
      · by_cases h : pgC A (sp 44 [] B) = true
        · obtain ⟨h1, h2, h3, h4⟩ := (pgC_iff _ _).1 h
          rw [if_pos h, if_pos h, if_pos h1]
        · rw [if_neg h, if_neg h]
    have off : pgC A (sp 44 [] B) = false → (100 < l.length ∨ (sp 126 [] l).length ≠ 2) → ∃ ys y b, BothC l W ys y b := fun h hh => by
      refine ⟨[], 0, false, by simp, fun w hk => sParseC_pass l _ _ _ w (by simp) (Lib.hid fun w => liParse_off l w hl hh), fun w hk => ?_⟩
      have := PI w hk
      rw [h] at this
      simpa using this
    by_cases h1 : 100 < l.length
    · exact off (p1 h1) (.inl h1)
    · by_cases h2 : (sp 126 [] B).length = 1
      · have e3 : sp 126 [] l = [A, B] := by rw [e2, p3 h2]
        have hg := good_sameC A (sp 44 [] B)
        refine ⟨_, _, _, ?_, fun w hk => ?_, PI⟩
        · split <;> simp [nums]; omega
        · refine sParseC_pass l _ _ _ w (by split <;> simp [nums]; omega) (Lib.hid fun w => liParse_on l A B w (by omega) e3 (by omega) (by omega) _ hg _ _ ?_ ?_)
          · by_cases h : pgC A (sp 44 [] B) = true
            · rw [if_pos h, if_pos h, (pgC_same _ _ h).1]
            · rw [if_neg h, if_neg h]
          · by_cases h : pgC A (sp 44 [] B) = true
            · rw [if_pos h, if_pos h, (pgC_same _ _ h).2]
            · rw [if_neg h, if_neg h]
      · exact off (p2 (by omega)) (.inr (by rw [e2, List.length_cons]; omega))

set_option maxHeartbeats 1600000 in
theorem lawParseCats_of (l : List UInt8) (xs : List Int) (k : Int) (b : Bool) (W : World) (hlen : xs.length ≤ 1000000) (hll : (l.length : Int) ≤ 1048576)
    (hS : Hid (∀ w, Kp Nw W w → Calls Tryd.prog 10 #[.string ⟨l.toArray⟩] w (CatsRes0 w xs k b))) (hI : Hid (∀ w, Kp Nw W w → Calls Tryd.prog 11 #[.string ⟨l.toArray⟩] w (CatsRes0 w xs k b))) :
    Calls Tryd.prog 4 #[.string ⟨l.toArray⟩] W fun e w' => e = .returned (.bool true) ∧ Kp Nw W w' := by
  obtain ⟨n, hn⟩ : ∃ n, xs.length = n := ⟨_, rfl⟩
  have hl : xs.length ≤ maxLen := by unfold maxLen; omega
  have hlen : n ≤ 1000000 := by omega
  have HN := Lib.hid hn
  clear hn
  have HL := Lib.hid hl
  clear hl
  have hn0 : (0 : Int) ≤ n := Int.natCast_nonneg _
  go_enter Tryd.func4, Tryd.ntmps4
  go_wp2_with fail
  refine (hS.out _ (.refl _ _)).mono ?_
  rintro e w1 ⟨v1, rfl, hs1, hk1⟩
  obtain ⟨A1, c1, rfl⟩ := hs1.val HN.out
  have HS1 := Lib.hid hs1; have HK1 := Lib.hid hk1; clear hs1 hk1
  go_wp2_with fail
  refine (hI.out _ (HK1.out.nw (.al _ _))).mono ?_
  rintro e w2 ⟨v2, rfl, hs2, hk2⟩
  obtain ⟨A2, c2, rfl⟩ := hs2.val HN.out
  have T1 := Lib.hid ((Two.new w1 _ _ _).nw hk2)
  have z2 : w1.heap.size < w2.heap.size := by have := hk2.size; simp at this; omega
  have O1 := Lib.hid HS1.out.own_ge
  have O2 := Lib.hid hs2.own_ge
  have HS2 := Lib.hid hs2; have HK2 := Lib.hid hk2; clear hs2 hk2
  obtain ⟨p0, p1⟩ := T1.out
  go_wp2_with fail
  refine (eqCats_same A2 A1 n c2 c1 k xs _ (HS2.out.rd.nw (.al _ _)) (((HS1.out.rd.nw (.al _ _)).nw HK2.out).nw (.al _ _)) HL.out).mono ?_
  rintro e w3 ⟨rfl, hk3⟩
  clear p0 p1
  have T1 := Lib.hid ((T1.out.nw (.al _ _)).nw hk3)
  have T2 := Lib.hid ((Two.new w2 _ _ _).nw hk3)
  have z3 : w2.heap.size < w3.heap.size := by have := hk3.size; simp at this; omega
  have HS2 := Lib.hid ((HS2.out.below (Kp.al _ _).below').below hk3.below')
  have HK3 := Lib.hid hk3; clear hk3
  obtain ⟨p0, p1⟩ := T2.out
  go_wp2_with fail
  refine (markCats_any A2 n c2 1 k xs _ _ HS2.out HN.out (by omega) (by omega) (by rw [HN.out]; omega)).mono ?_
  rintro e w4 ⟨rfl, hs4, hk4⟩
  have hne : ∀ g, (Value.slice A2 n c2).ownBlock = some g → w1.heap.size + 1 ≤ g ∧ g < w2.heap.size := fun g hg => by have := O2.out g hg; simp at this; omega
  have T1 := Lib.hid (T1.out.kp hk4 (fun hg => by have := hne _ hg; omega))
  have T2 := Lib.hid (T2.out.kp hk4 (fun hg => by have := hne _ hg; omega))
  have HS1 := Lib.hid ((((HS1.out.below (Kp.al _ _).below').below HK2.out.below').below (Kp.al _ _).below').below HK3.out.below' |>.kp hk4 (fun g h1 h2 => by have := hne _ h2; have := (O1.out g h1).2; omega))
  have z4 : w3.heap.size ≤ w4.heap.size := hk4.size
  have HS4 := Lib.hid hs4
  have HK4 := Lib.hid ((((HK1.out.nw (.al _ _)).nw HK2.out).nw (.al _ _)).nw HK3.out |>.after hk4 (fun g hg h2 => by have := hne _ h2; have := HK1.out.size; omega))
  have NE := Lib.hid hne
  clear p0 p1 hs4 hk4 hne
  obtain ⟨p0, p1⟩ := T2.out
  go_wp2_with fail
  refine (heldCats_any A2 n c2 1 k _ HS4.out.rd (by omega) (by omega) (by omega)).mono ?_
  rintro e w5 ⟨rfl, hk5⟩
  have T1 := Lib.hid (T1.out.nw hk5)
  have T2 := Lib.hid (T2.out.nw hk5)
  have z5 : w4.heap.size ≤ w5.heap.size := hk5.size
  have HS4 := Lib.hid (HS4.out.below hk5.below')
  have HS1 := Lib.hid (HS1.out.below hk5.below')
  have HK5 := Lib.hid (HK4.out.nw hk5)
  clear p0 p1 hk5
  go_wp2_with fail
  refine (hI.out _ HK5.out).mono ?_
  rintro e w6 ⟨v6, rfl, hs6, hk6⟩
  obtain ⟨A6, c6, rfl⟩ := hs6.val HN.out
  have T1 := Lib.hid (T1.out.nw hk6)
  have T2 := Lib.hid (T2.out.nw hk6)
  have z6 : w5.heap.size ≤ w6.heap.size := hk6.size
  have z16 : w1.heap.size < w6.heap.size := by omega
  have z26 : w2.heap.size < w6.heap.size := by omega
  have HS4 := Lib.hid (HS4.out.below hk6.below')
  have HS1 := Lib.hid (HS1.out.below hk6.below')
  have HK6 := Lib.hid (HK5.out.nw hk6)
  have HS6 := Lib.hid hs6
  clear hs6 hk6
  obtain ⟨p0, p1⟩ := T1.out
  go_wp2_with fail
  refine (eqCats_same A6 A1 n c6 c1 k xs _ (HS6.out.rd.nw (.al _ _)) (HS1.out.rd.nw (.al _ _)) HL.out).mono ?_
  rintro e w7 ⟨rfl, hk7⟩
  have T2 := Lib.hid ((T2.out.nw (.al _ _)).nw hk7)
  have HS4 := Lib.hid ((HS4.out.below (Kp.al _ _).below').below hk7.below')
  have HK7 := Lib.hid ((HK6.out.nw (.al _ _)).nw hk7)
  clear p0 p1 hk7
  obtain ⟨p0, p1⟩ := T2.out
  go_wp2_with fail
  refine (heldCats_any A2 n c2 1 k _ HS4.out.rd (by omega) (by omega) (by omega)).mono ?_
  rintro e w8 ⟨rfl, hk8⟩
  have HK8 := Lib.hid (HK7.out.nw hk8)
  clear hk8
  go_wp2
  go_ret
  exact ⟨rfl, HK8.out⟩

theorem lawParseCats_long (l : List UInt8) (W : World) (hll : (1048576 : Int) < l.length) (hm : l.length ≤ maxLen) :
    Calls Tryd.prog 4 #[.string ⟨l.toArray⟩] W fun e w' => e = .returned (.bool true) ∧ Kp Nw W w' := by
  have h2 : (l.length : Int) ≤ 9223372036854775807 := by unfold maxLen at hm; omega
  go_enter Tryd.func4, Tryd.ntmps4
  go_wp2
  go_ret
  exact ⟨rfl, .refl _ _⟩
theorem lawParseCats (s : ByteArray) (W : World) (hT : Tabs W) (hM : Mx W) (hm : s.size ≤ maxLen) :
    Calls Tryd.prog 4 #[.string s] W fun e w' => e = .returned (.bool true) ∧ Kp Nw W w' := by
  obtain ⟨l, rfl⟩ : ∃ l : List UInt8, s = ⟨l.toArray⟩ := ⟨s.data.toList, rfl⟩
  have hs : l.length ≤ maxLen := hm
  by_cases h : (1048576 : Int) < l.length
  · exact lawParseCats_long l W h hs
  · obtain ⟨ys, y, b, hB⟩ := bothC_any l W hT hM (by omega)
    exact lawParseCats_of l ys y b W hB.len (by omega) (Lib.hid hB.s) (Lib.hid hB.i)
end Go.Proofs.YtaejlhdbdjfccaaDoor
