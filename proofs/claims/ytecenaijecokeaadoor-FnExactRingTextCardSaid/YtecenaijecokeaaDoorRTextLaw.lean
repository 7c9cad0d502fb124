/- The law of RingText returns true at every ring, whatever its numbers, in a world that holds the table of the powers of ten: the program and its model say the same text, and the ring that is given reads as before. -/
import Derived.Test.YtecenaijecokeaaDoorItoa
import Derived.Test.YtecenaijecokeaaDoorIsRing
namespace Go.Proofs.YtecenaijecokeaaDoor
open Go.ChangeShapes Go.WideShapes Go.ChangeAt Go.RowKit

set_option maxRecDepth 100000 in
set_option maxHeartbeats 800000 in
theorem lawRingText_large (A : Option Addr) (n c : Nat) (k : Int) (W : World) (hn : n ≤ maxLen) (h : 1048576 < n) :
    Calls Tryd.prog 3 #[.agg #[.slice A n c, .int .i64 k]] W fun e w' => e = .returned (.bool true) ∧ Kp Nw W w' := by
  go_enter Tryd.func3, Tryd.ntmps3
  go_wp2_with fail
  refine (szRing_large A n c k _ hn h).mono ?_
  rintro e w1 ⟨rfl, hk1⟩
  have HK1 := Lib.hid ((Kp.al _ _).nw hk1)
  clear hk1
  go_wp2
  go_ret
  exact ⟨rfl, HK1.out⟩

theorem sRingText_any (g n : Nat) (xs : List Int) (k : Int) (B : Nat) (W : World) (l : List UInt8) (b : Bool) (hb : goodB xs k = b) (hl : l = if b = true then ringText xs k else []) (hs : SlAt W B g n n xs) (hn : n ≤ 1048576) :
    Calls Tryd.prog 6 #[.agg #[.slice (some ⟨g, 0, none⟩) n n, .int .i64 k]] W (TextRes W l b) := by
  subst hl
  cases b
  · exact sRingText_no g n xs k B W hs hn hb
  · exact sRingText_yes g n xs k B W hs hb
theorem iRingText_any (g n : Nat) (xs : List Int) (k : Int) (B : Nat) (W : World) (l : List UInt8) (b : Bool) (hb : goodB xs k = b) (hl : l = if b = true then ringText xs k else []) (hs : SlAt W B g n n xs) (hT : Tab W) :
    Calls Tryd.prog 8 #[.agg #[.slice (some ⟨g, 0, none⟩) n n, .int .i64 k]] W (TextRes W l b) := by
  subst hl
  cases b
  · exact iRingText_no g n xs k B W hs hb
  · exact iRingText_yes g n xs k B W hs hT hb

set_option maxRecDepth 100000 in
set_option maxHeartbeats 3200000 in
theorem lawRingText_small (A : Option Addr) (n c : Nat) (k : Int) (xs : List Int) (W : World) (hT : Tab W) (hu : Rd W (.slice A n c) xs) (hn : xs.length = n) (h : n ≤ 1048576) :
    Calls Tryd.prog 3 #[.agg #[.slice A n c, .int .i64 k]] W fun e w' => e = .returned (.bool true) ∧ Kp Nw W w' := by
  obtain ⟨b, hb⟩ : ∃ b, goodB xs k = b := ⟨_, rfl⟩
  obtain ⟨l, hl⟩ : ∃ l, l = if b = true then ringText xs k else [] := ⟨_, rfl⟩
  have HLT := Lib.hid hl
  have HB := Lib.hid hb
  have HU := Lib.hid hu
  have HN := Lib.hid hn
  have HT := Lib.hid hT
  have HL : Hid (xs.length ≤ maxLen) := Lib.hid (by unfold maxLen; omega)
  have q0 : (0 : Int) ≤ 1048576 - (n : Int) := by omega
  clear hb hu hn hl hT
  go_enter Tryd.func3, Tryd.ntmps3
  go_wp2_with fail
  refine (szRing_small A n c k _ h).mono ?_
  rintro e w1 ⟨rfl, hk1⟩
  have T0 := Lib.hid (Two.kp' (two_new W (.slice A n c) (.int .i64 k) 24) hk1)
  have HK1 := Lib.hid ((Kp.al _ _).nw hk1)
  clear hk1
  obtain ⟨t0, t1⟩ := T0.out
  go_wp2_with fail
  refine (toRing_any A n c k xs _ (HU.out.nw HK1.out) HN.out h).mono ?_
  rintro e w2 ⟨g2, rfl, hs2, hk2, hg2, hg2'⟩
  have HS2 := Lib.hid hs2
  have T0 := Lib.hid (Two.kp' T0.out hk2)
  have HK2 := Lib.hid (HK1.out.nw hk2)
  clear hs2 hk2 t0 t1
  go_wp2_with fail
  refine (sRingText_any g2 n xs k _ _ l b HB.out HLT.out HS2.out h).mono ?_
  rintro e w3 ⟨rfl, hk3⟩
  have T0 := Lib.hid (Two.kp' T0.out hk3)
  have HK3 := Lib.hid (HK2.out.nw hk3)
  clear hk3
  obtain ⟨t0, t1⟩ := T0.out
  go_wp2_with fail
  refine (toRing_any A n c k xs _ (HU.out.nw HK3.out) HN.out h).mono ?_
  rintro e w4 ⟨g4, rfl, hs4, hk4, hg4, hg4'⟩
  have HS4 := Lib.hid hs4
  have T0 := Lib.hid (Two.kp' T0.out hk4)
  have HK4 := Lib.hid (HK3.out.nw hk4)
  clear hs4 hk4 t0 t1
  go_wp2_with fail
  refine (iRingText_any g4 n xs k _ _ l b HB.out HLT.out ⟨HS4.out.1, HS4.out.2.alloc _⟩ (HT.out.nw (HK4.out.nw (.al _ _)))).mono ?_
  rintro e w5 ⟨rfl, hk5⟩
  have T4 := Lib.hid (Two.kp' (two_new w4 (.slice (some ⟨g4, 0, none⟩) n n) (.int .i64 k) 28) hk5)
  have T0 := Lib.hid (Two.kp' (Two.kp' T0.out (.al _ _)) hk5)
  have HS4 := Lib.hid (((HS4.out.sl.below (Kp.al _ _).below').below hk5.below').rd)
  have HK5 := Lib.hid ((HK4.out.nw (.al _ _)).nw hk5)
  clear hk5
  obtain ⟨t0, t1⟩ := T0.out
  obtain ⟨u0, u1⟩ := T4.out
  have q1 : W.heap.size ≤ w5.heap.size := HK5.out.size
  go_wp2_with fail
  go_region_held3 (fun w' => Kp Nw w5 w' ∧ w'.cell? ⟨W.heap.size, 0, none⟩ = some (.slice A n c) ∧ w'.cell? ⟨W.heap.size, 1, none⟩ = some (.int .i64 k) ∧ w'.cell? ⟨w4.heap.size, 0, none⟩ = some (.slice (some ⟨g4, 0, none⟩) n n) ∧ w'.cell? ⟨w4.heap.size, 1, none⟩ = some (.int .i64 k))
    (first
      | exact ⟨(Kp.refl _ _).drew, T0.out.1, T0.out.2, T4.out.1, T4.out.2⟩
      | exact ⟨hkW7, keepc hkW7 T0.out.1 (fun h => h), keepc hkW7 T0.out.2 (fun h => h), keepc hkW7 T4.out.1 (fun h => h), keepc hkW7 T4.out.2 (fun h => h)⟩
      | exact ⟨hkW6, keepc hkW6 T0.out.1 (fun h => h), keepc hkW6 T0.out.2 (fun h => h), keepc hkW6 T4.out.1 (fun h => h), keepc hkW6 T4.out.2 (fun h => h)⟩)
    (first
      | (go_at_call 7
         refine (toRing_any A n c k xs _ (HU.out.nw (HK5.out.nw (‹Kp Nw w5 _ ∧ _›.1))) HN.out h).mono ?_
         rintro e w6 ⟨g6, rfl, hs6, hk6, hg6, hg6'⟩
         have hkW6 := (‹Kp Nw w5 _ ∧ _›.1).nw hk6)
      | (go_at_call 9
         refine (eqRing_same _ _ n _ _ k xs _ (HS4.out.nw (‹Kp Nw w5 _ ∧ _›.1)) hs6.sl.rd HL.out).mono ?_
         rintro e w7 ⟨rfl, hk7⟩
         have hkW7 := (‹Kp Nw w5 _ ∧ _›.1).nw hk7)
      | fail)
  have HK7 := Lib.hid (HK5.out.nw hkW7)
  clear hkW7 hkW6 hk6 hk7 hs6
  go_wp2
  go_ret
  exact ⟨rfl, HK7.out⟩

theorem lawRingText (A : Option Addr) (n c : Nat) (k : Int) (xs : List Int) (W : World) (hT : Tab W) (hu : Rd W (.slice A n c) xs) (hn : xs.length = n) (hm : n ≤ maxLen) :
    Calls Tryd.prog 3 #[.agg #[.slice A n c, .int .i64 k]] W fun e w' => e = .returned (.bool true) ∧ Kp Nw W w' := by
  by_cases h : n ≤ 1048576
  · exact lawRingText_small A n c k xs W hT hu hn h
  · exact lawRingText_large A n c k W hm (by omega)
end Go.Proofs.YtecenaijecokeaaDoor
