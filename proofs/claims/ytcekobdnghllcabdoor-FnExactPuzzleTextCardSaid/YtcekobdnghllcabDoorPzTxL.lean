/- The law of PuzzleText: in a world that holds the table of the powers of ten it returns true at all puzzles, whatever their numbers; no other condition. -/
import Derived.Test.YtcekobdnghllcabDoorPzTx
namespace Go.Proofs.YtcekobdnghllcabDoor
open Go.ChangeShapes Go.WideShapes Go.ChangeAt Go.RowKit

set_option maxHeartbeats 800000 in
theorem lawPuzzleText_large (A : Option Addr) (n c : Nat) (W : World) (hn : n ≤ maxLen) (h : 1048576 < n) :
    Calls Tryd.prog 3 #[.agg #[.slice A n c]] W fun e w' => e = .returned (.bool true) ∧ Kp Nw W w' := by
  go_enter Tryd.func3, Tryd.ntmps3
  go_wp2_with fail
  refine (szPuzzle_large A n c 1048576 _ hn (by omega) (by omega) (by omega)).mono ?_
  rintro e w1 ⟨rfl, hk1⟩
  have HK1 := Lib.hid ((Kp.al _ _).nw hk1)
  clear hk1
  go_wp2
  go_ret
  exact ⟨rfl, HK1.out⟩

set_option maxRecDepth 100000 in
set_option maxHeartbeats 3200000 in
theorem lawPuzzleText_small (A : Option Addr) (n c : Nat) (xs : List Cu) (W : World) (hT : Tab W) (hu : RdC W (.slice A n c) xs) (hn : xs.length = n) (h : n ≤ 1048576) :
    Calls Tryd.prog 3 #[.agg #[.slice A n c]] W fun e w' => e = .returned (.bool true) ∧ Kp Nw W w' := by
  obtain ⟨b, hb⟩ : ∃ b, puzB xs = b := ⟨_, rfl⟩
  obtain ⟨l, hl⟩ : ∃ l, l = if b = true then puzTx xs else [] := ⟨_, rfl⟩
  have HLT := Lib.hid hl
  have HB := Lib.hid hb
  have HU := Lib.hid hu
  have HN := Lib.hid hn
  have HT := Lib.hid hT
  have HL : Hid (xs.length ≤ maxLen) := Lib.hid (by unfold maxLen; omega)
  have q0 : (0 : Int) ≤ 1048576 - (n : Int) := by omega
  have q9 : ¬ ((1048576 : Int) - (n : Int) < 0) := by omega
  clear hb hu hn hl hT
  go_enter Tryd.func3, Tryd.ntmps3
  go_wp2_with fail
  refine (szPuzzle_small A n c 1048576 _ (by omega) (by omega)).mono ?_
  rintro e w1 ⟨rfl, hk1⟩
  have T0 := Lib.hid ((Own1.new W (.slice A n c) 24).kp hk1 (fun h => h))
  have HK1 := Lib.hid ((Kp.al _ _).nw hk1)
  clear hk1
  have t0 := T0.out.1
  go_wp2_with fail
  refine (toPuzzle_any A n c xs _ (HU.out.nw HK1.out) HN.out h).mono ?_
  rintro e w2 ⟨g2, rfl, hs2, hk2, hg2, hg2'⟩
  have HS2 := Lib.hid hs2
  have T0 := Lib.hid (T0.out.kp hk2 (fun h => h))
  have HK2 := Lib.hid (HK1.out.nw hk2)
  clear hs2 hk2 t0
  go_wp2_with fail
  refine (sPuzzleText_any (some ⟨g2, 0, none⟩) n n xs _ HS2.out.cl.rd HN.out (by unfold maxLen; omega) b HB.out l HLT.out).mono ?_
  rintro e w3 ⟨rfl, hk3⟩
  have T0 := Lib.hid (T0.out.kp hk3 (fun h => h))
  have HK3 := Lib.hid (HK2.out.nw hk3)
  clear hk3
  have t0 := T0.out.1
  go_wp2_with fail
  refine (toPuzzle_any A n c xs _ (HU.out.nw HK3.out) HN.out h).mono ?_
  rintro e w4 ⟨g4, rfl, hs4, hk4, hg4, hg4'⟩
  have HS4 := Lib.hid hs4
  have T0 := Lib.hid (T0.out.kp hk4 (fun h => h))
  have HK4 := Lib.hid (HK3.out.nw hk4)
  clear hs4 hk4 t0
  go_wp2_with fail
  refine (iPuzzleText_any (some ⟨g4, 0, none⟩) n n xs _ (HS4.out.cl.rd.nw (.al _ _)) HN.out (by unfold maxLen; omega) (HT.out.nw (HK4.out.nw (.al _ _))) b HB.out l HLT.out).mono ?_
  rintro e w5 ⟨rfl, hk5⟩
  have T4 := Lib.hid ((Own1.new w4 (.slice (some ⟨g4, 0, none⟩) n n) 30).kp hk5 (fun h => h))
  have T0 := Lib.hid ((T0.out.kp (.al w4 (.cells #[.slice (some ⟨g4, 0, none⟩) n n] 30)) (fun h => h)).kp hk5 (fun h => h))
  have HS4 := Lib.hid ((HS4.out.cl.rd.nw (.al _ _)).nw hk5)
  have HK5 := Lib.hid ((HK4.out.nw (.al _ _)).nw hk5)
  clear hk5
  have t0 := T0.out.1
  have u0 := T4.out.1
  go_wp2_with fail
  go_region_held3 (fun w' => Kp Nw w5 w' ∧ w'.cell? ⟨W.heap.size, 0, none⟩ = some (.slice A n c) ∧ w'.cell? ⟨w4.heap.size, 0, none⟩ = some (.slice (some ⟨g4, 0, none⟩) n n))
    (first
      | exact ⟨(Kp.refl _ _).drew, T0.out.1, T4.out.1⟩
      | exact ⟨hkW7, keepc hkW7 T0.out.1 (fun h => h), keepc hkW7 T4.out.1 (fun h => h)⟩
      | exact ⟨hkW6, keepc hkW6 T0.out.1 (fun h => h), keepc hkW6 T4.out.1 (fun h => h)⟩)
    (first
      | (go_at_call 6
         refine (toPuzzle_any A n c xs _ (HU.out.nw (HK5.out.nw (‹Kp Nw w5 _ ∧ _›.1))) HN.out h).mono ?_
         rintro e w6 ⟨g6, rfl, hs6, hk6, hg6, hg6'⟩
         have hkW6 := (‹Kp Nw w5 _ ∧ _›.1).nw hk6)
      | (go_at_call 8
         refine (eqPuzzle_same _ _ n _ _ xs _ (HS4.out.nw (‹Kp Nw w5 _ ∧ _›.1)) hs6.cl.rd HL.out).mono ?_
         rintro e w7 ⟨rfl, hk7⟩
         have hkW7 := (‹Kp Nw w5 _ ∧ _›.1).nw hk7)
      | fail)
  have HK7 := Lib.hid (HK5.out.nw hkW7)
  clear hkW7 hkW6 hk6 hk7 hs6
  go_wp2
  go_ret
  exact ⟨rfl, HK7.out⟩

theorem lawPuzzleText (A : Option Addr) (n c : Nat) (xs : List Cu) (W : World) (hT : Tab W) (hu : RdC W (.slice A n c) xs) (hn : xs.length = n) (hm : n ≤ maxLen) :
    Calls Tryd.prog 3 #[.agg #[.slice A n c]] W fun e w' => e = .returned (.bool true) ∧ Kp Nw W w' := by
  by_cases h : n ≤ 1048576
  · exact lawPuzzleText_small A n c xs W hT hu hn h
  · exact lawPuzzleText_large A n c W hm (by omega)
end Go.Proofs.YtcekobdnghllcabDoor
