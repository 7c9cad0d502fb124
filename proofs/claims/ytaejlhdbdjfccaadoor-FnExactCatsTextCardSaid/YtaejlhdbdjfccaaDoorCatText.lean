/- CatsText: the text of cats, in the program and in its model, and the law: in a world that holds the table of the powers of ten it returns true at all cats, whatever their numbers; no other condition. -/
import Derived.Test.YtaejlhdbdjfccaaDoorItoa
import Derived.Test.YtaejlhdbdjfccaaDoorIsRing
import Derived.Test.YtaejlhdbdjfccaaDoorCats
namespace Go.Proofs.YtaejlhdbdjfccaaDoor
open Go.ChangeShapes Go.WideShapes Go.ChangeAt Go.RowKit

theorem catB_p4 {xs : List Int} {k : Int} (h : catB xs k = true) : 1 ≤ xs.length ∧ xs.length ≤ 200 ∧ 1 ≤ k ∧ k ≤ 1000000 := by
  obtain ⟨a, b, c, d, _⟩ := catB_parts h
  exact ⟨a, by omega, c, d⟩
theorem cat_all {xs : List Int} {k : Int} (h : catB xs k = true) : ∀ x ∈ xs, 0 ≤ x ∧ x ≤ 999 := by
  intro x hx
  have := List.all_eq_true.1 (catB_parts h).2.2.2.2 x hx
  simp [lifeB] at this
  omega
/-- a ring's text -/
def catText (xs : List Int) (k : Int) : List UInt8 := dgs k ++ [126] ++ numsText xs

set_option maxRecDepth 100000 in
set_option maxHeartbeats 1600000 in
theorem liText_any (g n : Nat) (xs : List Int) (k : Int) (B : Nat) (W : World) (hs : SlAt W B g n n xs) (hb : catB xs k = true) :
    Calls Tryd.prog 16 #[.agg #[.slice (some ⟨g, 0, none⟩) n n, .int .i64 k]] W fun e w' => e = .returned (.string ⟨(catText xs k).toArray⟩) ∧ Kp Nw W w' := by
  obtain ⟨n1, n2, k1, k2⟩ := catB_p4 hb
  have hall := cat_all hb
  have hn := hs.1
  have HS := Lib.hid hs
  have HALL := Lib.hid hall
  have HN := Lib.hid hn
  rw [hn] at n1 n2
  obtain ⟨kn, rfl⟩ : ∃ kn : Nat, k = kn := ⟨k.toNat, by omega⟩
  have hlk := digits_length kn (by omega)
  have HD : Hid (dgs (kn : Int) = Lib.decDigits kn) := Lib.hid (by simp [dgs])
  obtain ⟨dk, hdk⟩ : ∃ dk, Lib.decDigits kn = dk := ⟨_, rfl⟩
  rw [hdk] at hlk
  have HDK := Lib.hid hdk
  have s1 : ¬ (9223372036854775807 : Nat) < dk.length + 1 := by omega
  clear hs hb hn hall hdk
  go_enter Tryd.func16, Tryd.ntmps16
  go_wp2_with fail
  refine (l1Num_any (kn + 1) kn _ (by omega) (by omega)).mono ?_
  rintro e w1 ⟨rfl, hk1⟩
  rw [HDK.out]
  obtain ⟨t0, t1⟩ := (Two.new W (.slice (some ⟨g, 0, none⟩) n n) (.int .i64 kn) 28).nw hk1
  have HK1 := Lib.hid ((Kp.al _ _).nw hk1)
  clear hk1
  go_wp2
  go_loopw [3, 4, 5, 13] (fun s _ _ i wr => ∃ (j : Nat) (l : List UInt8), j ≤ n ∧ i = .int .i64 j ∧ s = .string ⟨l.toArray⟩ ∧ l = dk ++ [126] ++ numsText (xs.take j) ∧ Kp Nw w1 wr) (fun _ _ _ i _ => n - (intOf i).toNat)
  case atStart => exact ⟨0, dk ++ [126], Nat.zero_le _, rfl, by first | rfl | exact str_app dk [126], by simp [numsText_nil], Kp.refl _ _⟩
  case round =>
    rename_i wr
    obtain ⟨j, l, hj, rfl, rfl, hl, hk⟩ := hrel
    have HL := Lib.hid hl
    have HK := Lib.hid hk
    by_cases hlt : j < n
    · have hl' : j < xs.length := by rw [HN.out]; exact hlt
      have c := keepc hk (keepc HK1.out (HS.out.cell j hlt) (fun h => h)) (fun h => h)
      obtain ⟨y, hy⟩ : ∃ y, xs.getD j 0 = y := ⟨_, rfl⟩
      have hx : xs[j] = y := by rw [← hy]; simp [hl']
      rw [hy] at c
      have hb := HALL.out y (by rw [← hx]; exact List.getElem_mem _)
      obtain ⟨m, rfl⟩ : ∃ m : Nat, y = m := ⟨y.toNat, by omega⟩
      have HT : Hid (xs.take (j + 1) = xs.take j ++ [(m : Int)]) := Lib.hid (by rw [List.take_succ_eq_append_getElem hl', hx])
      have hlm := digits_length m (by omega)
      have hnl := numsText_length (xs.take j) (fun x hx => by have := (HALL.out x (List.mem_of_mem_take hx)).2; omega)
      have htl : (xs.take j).length ≤ 200 := by rw [List.length_take]; omega
      have hll : l.length ≤ 5000 := by rw [hl]; simp only [List.length_append, List.length_cons, List.length_nil]; omega
      obtain ⟨dm, hdm⟩ : ∃ dm, Lib.decDigits m = dm := ⟨_, rfl⟩
      rw [hdm] at hlm
      have HDM := Lib.hid hdm
      have HDG : Hid (dgs (m : Int) = dm) := Lib.hid (by rw [← hdm]; simp [dgs])
      have j0 : (0 : Int) ≤ j := Int.natCast_nonneg _
      have j1 : (j : Int) < n := by omega
      have m9 : (m : Int) ≤ 999 := hb.2
      have m10 : m ≤ 999 := by omega
      have s2 : ¬ (9223372036854775807 : Nat) < l.length + 1 := by omega
      have s3 : ¬ (9223372036854775807 : Nat) < l.length + dm.length := by omega
      have s4 : ¬ (9223372036854775807 : Nat) < l.length + 1 + dm.length := by omega
      clear hl hk hx hb hy hnl htl hl' hdm
      by_cases e : j = 0
      · subst e
        have HE : Hid (dk ++ [126] ++ numsText (xs.take (0 + 1)) = l ++ dm) := Lib.hid (by rw [HT.out, HL.out]; simp [numsText_one, numsText_nil, HDG.out])
        go_wp2_with fail
        refine (l1Num_any (m + 1) m _ (by omega) (by omega)).mono ?_
        rintro e w2 ⟨rfl, hk2⟩
        rw [HDM.out]
        have HK2 := Lib.hid (HK.out.nw hk2)
        clear hk2
        go_wp2
        go_roundw
        case rel => exact ⟨1, l ++ dm, by omega, by go_num, by first | rfl | exact str_app l dm, HE.out.symm, HK2.out⟩
        case measure => simp [intOf]; omega
      · have e1 : (0 : Int) < j := by omega
        have hne : xs.take j ≠ [] := by
          intro h
          have := congrArg List.length h
          rw [List.length_take, HN.out] at this
          simp at this
          omega
        have HE : Hid (dk ++ [126] ++ numsText (xs.take (j + 1)) = l ++ [44] ++ dm) := Lib.hid (by rw [HT.out, numsText_snoc _ _ hne, HL.out, HDG.out]; simp)
        clear hne e
        go_wp2_with fail
        refine (l1Num_any (m + 1) m _ (by omega) (by omega)).mono ?_
        rintro e w2 ⟨rfl, hk2⟩
        rw [HDM.out]
        have HK2 := Lib.hid (HK.out.nw hk2)
        clear hk2
        go_wp2
        go_roundw
        case rel => exact ⟨j + 1, l ++ [44] ++ dm, by omega, by go_num, by first | rfl | (rw [← str_app (l ++ [44]) dm, ← ByteArray.mk_append_mk l [44]]), HE.out.symm, HK2.out⟩
        case measure => simp [intOf]; omega
    · have e : j = n := by omega
      subst e
      have HF : Hid (l = catText xs (kn : Int)) := Lib.hid (by
        rw [HL.out, List.take_of_length_le (by rw [HN.out]; exact Nat.le_refl _)]
        unfold catText
        rw [HD.out, HDK.out])
      clear hl hk
      go_wp2
      go_ret
      exact ⟨ret_string (by rw [HF.out]), HK1.out.nw HK.out⟩

set_option maxRecDepth 100000 in
set_option maxHeartbeats 1600000 in
theorem sCatsText_yes (g n : Nat) (xs : List Int) (k : Int) (B : Nat) (W : World) (hs : SlAt W B g n n xs) (hb : catB xs k = true) :
    Calls Tryd.prog 6 #[.agg #[.slice (some ⟨g, 0, none⟩) n n, .int .i64 k]] W (TextRes W (catText xs k) true) := by
  obtain ⟨n1, n2, k1, k2⟩ := catB_p4 hb
  have hn := hs.1
  have HS := Lib.hid hs
  have HB := Lib.hid hb
  rw [hn] at n1 n2
  clear hs hb hn
  go_enter Tryd.func6, Tryd.ntmps6
  go_wp2_with fail
  refine (liGood_any _ n n xs k _ (SlAt.sl (show SlAt _ _ g n n xs from ⟨HS.out.1, HS.out.2.alloc _⟩)).rd HS.out.1 (by omega) true HB.out.symm).mono ?_
  rintro e w1 ⟨rfl, hk1⟩
  obtain ⟨t0, t1⟩ := (Two.new W (.slice (some ⟨g, 0, none⟩) n n) (.int .i64 k) 28).nw hk1
  have HK1 := Lib.hid ((Kp.al _ _).nw hk1)
  clear hk1
  go_wp2_with fail
  refine (liText_any g n xs k B _ (HS.out.nw HK1.out) HB.out).mono ?_
  rintro e w2 ⟨rfl, hk2⟩
  have HK2 := Lib.hid (HK1.out.nw hk2)
  clear hk2
  go_wp2
  go_ret2
  exact ⟨rfl, HK2.out⟩

set_option maxRecDepth 100000 in
theorem sCatsText_no (g n : Nat) (xs : List Int) (k : Int) (B : Nat) (W : World) (hs : SlAt W B g n n xs) (hl : n ≤ 1048576) (hb : catB xs k = false) :
    Calls Tryd.prog 6 #[.agg #[.slice (some ⟨g, 0, none⟩) n n, .int .i64 k]] W (TextRes W [] false) := by
  have HS := Lib.hid hs
  have HB := Lib.hid hb
  clear hs hb
  go_enter Tryd.func6, Tryd.ntmps6
  go_wp2_with fail
  refine (liGood_any _ n n xs k _ (SlAt.sl (show SlAt _ _ g n n xs from ⟨HS.out.1, HS.out.2.alloc _⟩)).rd HS.out.1 (by omega) false HB.out.symm).mono ?_
  rintro e w1 ⟨rfl, hk1⟩
  have HK1 := Lib.hid ((Kp.al _ _).nw hk1)
  clear hk1
  go_wp2
  go_ret2
  exact ⟨rfl, HK1.out⟩

set_option maxRecDepth 100000 in
theorem iCatsText_no (g n : Nat) (xs : List Int) (k : Int) (B : Nat) (W : World) (hs : SlAt W B g n n xs) (hl2 : n ≤ 1048576) (hb : catB xs k = false) :
    Calls Tryd.prog 8 #[.agg #[.slice (some ⟨g, 0, none⟩) n n, .int .i64 k]] W (TextRes W [] false) := by
  have HS := Lib.hid hs
  have HB := Lib.hid hb
  clear hs hb
  go_enter Tryd.func8, Tryd.ntmps8
  go_wp2_with fail
  refine (iAreCats_any _ n n xs k _ (SlAt.sl (show SlAt _ _ g n n xs from ⟨HS.out.1, HS.out.2.alloc _⟩)).rd HS.out.1 (by omega) false HB.out.symm).mono ?_
  rintro e w1 ⟨rfl, hk1⟩
  have HK1 := Lib.hid ((Kp.al _ _).nw hk1)
  clear hk1
  go_wp2
  go_ret2
  exact ⟨rfl, HK1.out⟩

set_option maxRecDepth 100000 in
set_option maxHeartbeats 1600000 in
theorem iCatsText_yes (g n : Nat) (xs : List Int) (k : Int) (B : Nat) (W : World) (hs : SlAt W B g n n xs) (hl2 : n ≤ 1048576) (hT : Tab W) (hb : catB xs k = true) :
    Calls Tryd.prog 8 #[.agg #[.slice (some ⟨g, 0, none⟩) n n, .int .i64 k]] W (TextRes W (catText xs k) true) := by
  obtain ⟨n1, n2, k1, k2⟩ := catB_p4 hb
  have hall := cat_all hb
  have hn := hs.1
  have HS := Lib.hid hs
  have HB := Lib.hid hb
  have HT := Lib.hid hT
  have HALL := Lib.hid hall
  rw [hn] at n1 n2
  obtain ⟨kn, rfl⟩ : ∃ kn : Nat, k = kn := ⟨k.toNat, by omega⟩
  have hlk := digits_length kn (by omega)
  have hln := numsText_length xs (fun x hx => by have := (hall x hx).2; omega)
  rw [hn] at hln
  obtain ⟨dk, hdk⟩ : ∃ dk, Lib.decDigits kn = dk := ⟨_, rfl⟩
  rw [hdk] at hlk
  have HDK := Lib.hid hdk
  obtain ⟨dn, hdn⟩ : ∃ dn, numsText xs = dn := ⟨_, rfl⟩
  rw [hdn] at hln
  have HDN := Lib.hid hdn
  have HD : Hid (catText xs kn = dk ++ [126] ++ dn) := Lib.hid (by unfold catText; rw [hdn]; simp [dgs, hdk])
  rw [HD.out]
  have s1 : ¬ (9223372036854775807 : Nat) < dk.length + 1 := by omega
  have s2 : ¬ (9223372036854775807 : Nat) < dk.length + 1 + dn.length := by omega
  clear hs hb hn hall hdk hdn hT
  go_enter Tryd.func8, Tryd.ntmps8
  go_wp2_with fail
  refine (iAreCats_any _ n n xs kn _ (SlAt.sl (show SlAt _ _ g n n xs from ⟨HS.out.1, HS.out.2.alloc _⟩)).rd HS.out.1 (by omega) true HB.out.symm).mono ?_
  rintro e w1 ⟨rfl, hk1⟩
  have T0 := Lib.hid ((Two.new W (.slice (some ⟨g, 0, none⟩) n n) (.int .i64 kn) 28).nw hk1)
  have HK1 := Lib.hid ((Kp.al _ _).nw hk1)
  obtain ⟨t0, t1⟩ := T0.out
  clear hk1
  go_wp2_with fail
  have q1 : W.heap.size ≤ w1.heap.size := HK1.out.size
  go_region_held3 (fun w' => Kp Nw w1 w' ∧ w'.cell? ⟨W.heap.size, 0, none⟩ = some (.slice (some ⟨g, 0, none⟩) n n) ∧ w'.cell? ⟨W.heap.size, 1, none⟩ = some (.int .i64 kn))
    (first
      | exact ⟨(Kp.refl _ _).drew, T0.out.1, T0.out.2⟩
      | exact ⟨hkA, keepc hkA T0.out.1 (fun h => h), keepc hkA T0.out.2 (fun h => h)⟩
      | exact ⟨hkB, keepc hkB T0.out.1 (fun h => h), keepc hkB T0.out.2 (fun h => h)⟩
      | fail)
    (first
      | (go_at_call 19
         refine (itoa_any kn _ (HT.out.nw (HK1.out.nw (‹Kp Nw w1 _ ∧ _›.1))) (by omega)).mono ?_
         rintro e w6 ⟨rfl, hk6⟩
         rw [HDK.out]
         have hkA := (‹Kp Nw w1 _ ∧ _›.1).nw hk6)
      | (go_at_call 20
         refine (joinNumbers_any g n B xs _ (HS.out.nw (HK1.out.nw (‹Kp Nw w1 _ ∧ _›.1))) (HT.out.nw (HK1.out.nw (‹Kp Nw w1 _ ∧ _›.1))) (by omega) (by omega) HALL.out).mono ?_
         rintro e w7 ⟨rfl, hk7⟩
         rw [HDN.out]
         have hkB := (‹Kp Nw w1 _ ∧ _›.1).nw hk7)
      | fail)
  all_goals go_wp2
  all_goals go_ret2
  all_goals first
    | refine ⟨?_, HK1.out.nw hkB⟩
    | refine ⟨?_, HK1.out.nw hkA⟩
  all_goals first
    | rfl
    | rw [← str_app (dk ++ [126]) dn, ← str_app dk [126]]

set_option maxRecDepth 100000 in
set_option maxHeartbeats 800000 in
theorem lawCatsText_large (A : Option Addr) (n c : Nat) (k : Int) (W : World) (hn : n ≤ maxLen) (h : 1048576 < n) :
    Calls Tryd.prog 3 #[.agg #[.slice A n c, .int .i64 k]] W fun e w' => e = .returned (.bool true) ∧ Kp Nw W w' := by
  go_enter Tryd.func3, Tryd.ntmps3
  go_wp2_with fail
  refine (szCats_large A n c k _ hn h).mono ?_
  rintro e w1 ⟨rfl, hk1⟩
  have HK1 := Lib.hid ((Kp.al _ _).nw hk1)
  clear hk1
  go_wp2
  go_ret
  exact ⟨rfl, HK1.out⟩

theorem sCatsText_any (g n : Nat) (xs : List Int) (k : Int) (B : Nat) (W : World) (l : List UInt8) (b : Bool) (hb : catB xs k = b) (hl : l = if b = true then catText xs k else []) (hs : SlAt W B g n n xs) (hn : n ≤ 1048576) :
    Calls Tryd.prog 6 #[.agg #[.slice (some ⟨g, 0, none⟩) n n, .int .i64 k]] W (TextRes W l b) := by
  subst hl
  cases b
  · exact sCatsText_no g n xs k B W hs hn hb
  · exact sCatsText_yes g n xs k B W hs hb
theorem iCatsText_any (g n : Nat) (xs : List Int) (k : Int) (B : Nat) (W : World) (l : List UInt8) (b : Bool) (hb : catB xs k = b) (hl : l = if b = true then catText xs k else []) (hs : SlAt W B g n n xs) (hT : Tab W) (hn : n ≤ 1048576) :
    Calls Tryd.prog 8 #[.agg #[.slice (some ⟨g, 0, none⟩) n n, .int .i64 k]] W (TextRes W l b) := by
  subst hl
  cases b
  · exact iCatsText_no g n xs k B W hs hn hb
  · exact iCatsText_yes g n xs k B W hs hn hT hb

set_option maxRecDepth 100000 in
set_option maxHeartbeats 3200000 in
theorem lawCatsText_small (A : Option Addr) (n c : Nat) (k : Int) (xs : List Int) (W : World) (hT : Tab W) (hu : Rd W (.slice A n c) xs) (hn : xs.length = n) (h : n ≤ 1048576) :
    Calls Tryd.prog 3 #[.agg #[.slice A n c, .int .i64 k]] W fun e w' => e = .returned (.bool true) ∧ Kp Nw W w' := by
  obtain ⟨b, hb⟩ : ∃ b, catB xs k = b := ⟨_, rfl⟩
  obtain ⟨l, hl⟩ : ∃ l, l = if b = true then catText xs k else [] := ⟨_, rfl⟩
  have HLT := Lib.hid hl
  have HB := Lib.hid hb
  have HU := Lib.hid hu
  have HN := Lib.hid hn
  have HT := Lib.hid hT
  have HL : Hid (xs.length ≤ maxLen) := Lib.hid (by unfold maxLen; omega)
  have q0 : (0 : Int) ≤ 1048576 - (n : Int) := by omega
  clear hb hu hn hl hT
  go_enter Tryd.func3, Tryd.ntmps3
  go_wp2_with fail
  refine (szCats_small A n c k _ h).mono ?_
  rintro e w1 ⟨rfl, hk1⟩
  have T0 := Lib.hid (Two.kp' (two_new W (.slice A n c) (.int .i64 k) 24) hk1)
  have HK1 := Lib.hid ((Kp.al _ _).nw hk1)
  clear hk1
  obtain ⟨t0, t1⟩ := T0.out
  go_wp2_with fail
  refine (toCats_any A n c k xs _ (HU.out.nw HK1.out) HN.out h).mono ?_
  rintro e w2 ⟨g2, rfl, hs2, hk2, hg2, hg2'⟩
  have HS2 := Lib.hid hs2
  have T0 := Lib.hid (Two.kp' T0.out hk2)
  have HK2 := Lib.hid (HK1.out.nw hk2)
  clear hs2 hk2 t0 t1
  go_wp2_with fail
  refine (sCatsText_any g2 n xs k _ _ l b HB.out HLT.out HS2.out h).mono ?_
  rintro e w3 ⟨rfl, hk3⟩
  have T0 := Lib.hid (Two.kp' T0.out hk3)
  have HK3 := Lib.hid (HK2.out.nw hk3)
  clear hk3
  obtain ⟨t0, t1⟩ := T0.out
  go_wp2_with fail
  refine (toCats_any A n c k xs _ (HU.out.nw HK3.out) HN.out h).mono ?_
  rintro e w4 ⟨g4, rfl, hs4, hk4, hg4, hg4'⟩
  have HS4 := Lib.hid hs4
  have T0 := Lib.hid (Two.kp' T0.out hk4)
  have HK4 := Lib.hid (HK3.out.nw hk4)
  clear hs4 hk4 t0 t1
  go_wp2_with fail
  refine (iCatsText_any g4 n xs k _ _ l b HB.out HLT.out ⟨HS4.out.1, HS4.out.2.alloc _⟩ (HT.out.nw (HK4.out.nw (.al _ _))) h).mono ?_
  rintro e w5 ⟨rfl, hk5⟩
  have T4 := Lib.hid (Two.kp' (two_new w4 (.slice (some ⟨g4, 0, none⟩) n n) (.int .i64 k) 28) hk5)
  have T0 := Lib.hid (Two.kp' (Two.kp' T0.out (.al _ _)) hk5)
  have HS4 := Lib.hid (((HS4.out.sl.below (Kp.al _ _).below').below hk5.below').rd)
  have HK5 := Lib.hid ((HK4.out.nw (.al _ _)).nw hk5)
  clear hk5
  obtain ⟨t0, t1⟩ := T0.out
  obtain ⟨u0, u1⟩ := T4.out
  have q1 : W.heap.size ≤ w5.heap.size := HK5.out.size
  go_wp2_with fail
  go_region_held3 (fun w' => Kp Nw w5 w' ∧ w'.cell? ⟨W.heap.size, 0, none⟩ = some (.slice A n c) ∧ w'.cell? ⟨W.heap.size, 1, none⟩ = some (.int .i64 k) ∧ w'.cell? ⟨w4.heap.size, 0, none⟩ = some (.slice (some ⟨g4, 0, none⟩) n n) ∧ w'.cell? ⟨w4.heap.size, 1, none⟩ = some (.int .i64 k))
    (first
      | exact ⟨(Kp.refl _ _).drew, T0.out.1, T0.out.2, T4.out.1, T4.out.2⟩
      | exact ⟨hkW7, keepc hkW7 T0.out.1 (fun h => h), keepc hkW7 T0.out.2 (fun h => h), keepc hkW7 T4.out.1 (fun h => h), keepc hkW7 T4.out.2 (fun h => h)⟩
      | exact ⟨hkW6, keepc hkW6 T0.out.1 (fun h => h), keepc hkW6 T0.out.2 (fun h => h), keepc hkW6 T4.out.1 (fun h => h), keepc hkW6 T4.out.2 (fun h => h)⟩)
    (first
      | (go_at_call 7
         refine (toCats_any A n c k xs _ (HU.out.nw (HK5.out.nw (‹Kp Nw w5 _ ∧ _›.1))) HN.out h).mono ?_
         rintro e w6 ⟨g6, rfl, hs6, hk6, hg6, hg6'⟩
         have hkW6 := (‹Kp Nw w5 _ ∧ _›.1).nw hk6)
      | (go_at_call 9
         refine (eqCats_same _ _ n _ _ k xs _ (HS4.out.nw (‹Kp Nw w5 _ ∧ _›.1)) hs6.sl.rd HL.out).mono ?_
         rintro e w7 ⟨rfl, hk7⟩
         have hkW7 := (‹Kp Nw w5 _ ∧ _›.1).nw hk7)
      | fail)
  have HK7 := Lib.hid (HK5.out.nw hkW7)
  clear hkW7 hkW6 hk6 hk7 hs6
  go_wp2
  go_ret
  exact ⟨rfl, HK7.out⟩

theorem lawCatsText (A : Option Addr) (n c : Nat) (k : Int) (xs : List Int) (W : World) (hT : Tab W) (hu : Rd W (.slice A n c) xs) (hn : xs.length = n) (hm : n ≤ maxLen) :
    Calls Tryd.prog 3 #[.agg #[.slice A n c, .int .i64 k]] W fun e w' => e = .returned (.bool true) ∧ Kp Nw W w' := by
  by_cases h : n ≤ 1048576
  · exact lawCatsText_small A n c k xs W hT hu hn h
  · exact lawCatsText_large A n c k W hm (by omega)
end Go.Proofs.YtaejlhdbdjfccaaDoor
