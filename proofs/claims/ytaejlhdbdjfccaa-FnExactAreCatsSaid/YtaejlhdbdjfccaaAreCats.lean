/- The law of AreCats returns true at all cats, whatever their numbers: the program and its model say the same, and the cats that are given read as before; no condition. -/
import Derived.Test.YtaejlhdbdjfccaaCats
namespace Go.Proofs.Ytaejlhdbdjfccaa
open Go.ChangeShapes Go.WideShapes Go.ChangeAt Go.RowKit

theorem Two.kpc {w w' : World} {b : Nat} {x y : Value} (h : w.cell? ⟨b, 0, none⟩ = some x ∧ w.cell? ⟨b, 1, none⟩ = some y) (hk : Kp Nw w w') : w'.cell? ⟨b, 0, none⟩ = some x ∧ w'.cell? ⟨b, 1, none⟩ = some y :=
  ⟨keepc hk h.1 (fun h => h), keepc hk h.2 (fun h => h)⟩
theorem two_newc (w : World) (x y : Value) (t : TypeId) : (w.alloc (.cells #[x, y] t)).cell? ⟨w.heap.size, 0, none⟩ = some x ∧ (w.alloc (.cells #[x, y] t)).cell? ⟨w.heap.size, 1, none⟩ = some y := by
  constructor <;> simp [World.cell?_alloc_at]

set_option maxHeartbeats 800000 in
theorem lawAreCats_large (A : Option Addr) (n c : Nat) (k : Int) (W : World) (hn : n ≤ maxLen) (h : 1048576 < n) :
    Calls Try.prog 3 #[.agg #[.slice A n c, .int .i64 k]] W fun e w' => e = .returned (.bool true) ∧ Kp Nw W w' := by
  go_enter Try.func3, Try.ntmps3
  go_wp2_with fail
  refine (szCats_large A n c k _ hn h).mono ?_
  rintro e w1 ⟨rfl, hk1⟩
  have HK1 := Lib.hid ((Kp.al _ _).nw hk1)
  clear hk1
  go_wp2
  go_ret
  exact ⟨rfl, HK1.out⟩

set_option maxHeartbeats 1600000 in
theorem lawAreCats_small (A : Option Addr) (n c : Nat) (k : Int) (xs : List Int) (W : World) (hu : Rd W (.slice A n c) xs) (hn : xs.length = n) (h : n ≤ 1048576) :
    Calls Try.prog 3 #[.agg #[.slice A n c, .int .i64 k]] W fun e w' => e = .returned (.bool true) ∧ Kp Nw W w' := by
  obtain ⟨b, hb⟩ : ∃ b, catB xs k = b := ⟨_, rfl⟩
  have HB := Lib.hid hb
  have HU := Lib.hid hu
  have HN := Lib.hid hn
  have HL : Hid (xs.length ≤ maxLen) := Lib.hid (by unfold maxLen; omega)
  have q0 : (0 : Int) ≤ 1048576 - (n : Int) := by omega
  clear hb hu hn
  go_enter Try.func3, Try.ntmps3
  go_wp2_with fail
  refine (szCats_small A n c k _ h).mono ?_
  rintro e w1 ⟨rfl, hk1⟩
  have T0 := Lib.hid (Two.kpc (two_newc W (.slice A n c) (.int .i64 k) 24) hk1)
  have HK1 := Lib.hid ((Kp.al _ _).nw hk1)
  clear hk1
  obtain ⟨t0, t1⟩ := T0.out
  go_wp2_with fail
  refine (toCats_any A n c k xs _ (HU.out.nw HK1.out) HN.out h).mono ?_
  rintro e w2 ⟨g2, rfl, hs2, hk2, hg2, hg2'⟩
  have HS2 := Lib.hid hs2
  have T0 := Lib.hid (Two.kpc T0.out hk2)
  have HK2 := Lib.hid (HK1.out.nw hk2)
  clear hs2 hk2 t0 t1
  go_wp2_with fail
  refine (sAreCats_any _ n n xs k _ HS2.out.sl.rd HN.out (by omega) b HB.out.symm).mono ?_
  rintro e w3 ⟨rfl, hk3⟩
  have T0 := Lib.hid (Two.kpc T0.out hk3)
  have HK3 := Lib.hid (HK2.out.nw hk3)
  clear hk3
  obtain ⟨t0, t1⟩ := T0.out
  go_wp2_with fail
  refine (toCats_any A n c k xs _ (HU.out.nw HK3.out) HN.out h).mono ?_
  rintro e w4 ⟨g4, rfl, hs4, hk4, hg4, hg4'⟩
  have HS4 := Lib.hid hs4
  have T0 := Lib.hid (Two.kpc T0.out hk4)
  have HK4 := Lib.hid (HK3.out.nw hk4)
  clear hs4 hk4 t0 t1
  go_wp2_with fail
  refine (iAreCats_any _ n n xs k _ (HS4.out.sl.rd.nw (.al _ _)) HN.out (by omega) b HB.out.symm).mono ?_
  rintro e w5 ⟨rfl, hk5⟩
  have T4 := Lib.hid (Two.kpc (two_newc w4 (.slice (some ⟨g4, 0, none⟩) n n) (.int .i64 k) 27) hk5)
  have T0 := Lib.hid (Two.kpc (Two.kpc T0.out (.al _ _)) hk5)
  have HS4 := Lib.hid (((HS4.out.sl.below (Kp.al _ _).below').below hk5.below').rd)
  have HK5 := Lib.hid ((HK4.out.nw (.al _ _)).nw hk5)
  clear hk5
  obtain ⟨t0, t1⟩ := T0.out
  obtain ⟨u0, u1⟩ := T4.out
  have q1 : W.heap.size ≤ w5.heap.size := HK5.out.size
  go_wp2_with fail
  go_region_held3 (fun w' => Kp Nw w5 w' ∧ w'.cell? ⟨W.heap.size, 0, none⟩ = some (.slice A n c) ∧ w'.cell? ⟨W.heap.size, 1, none⟩ = some (.int .i64 k) ∧ w'.cell? ⟨w4.heap.size, 0, none⟩ = some (.slice (some ⟨g4, 0, none⟩) n n) ∧ w'.cell? ⟨w4.heap.size, 1, none⟩ = some (.int .i64 k))
    (first
      | exact ⟨(Kp.refl _ _).drew, T0.out.1, T0.out.2, T4.out.1, T4.out.2⟩
      | exact ⟨hkW7, keepc hkW7 T0.out.1 (fun h => h), keepc hkW7 T0.out.2 (fun h => h), keepc hkW7 T4.out.1 (fun h => h), keepc hkW7 T4.out.2 (fun h => h)⟩
      | exact ⟨hkW6, keepc hkW6 T0.out.1 (fun h => h), keepc hkW6 T0.out.2 (fun h => h), keepc hkW6 T4.out.1 (fun h => h), keepc hkW6 T4.out.2 (fun h => h)⟩)
    (first
      | (go_at_call 20
         refine (toCats_any A n c k xs _ (HU.out.nw (HK5.out.nw (‹Kp Nw w5 _ ∧ _›.1))) HN.out h).mono ?_
         rintro e w6 ⟨g6, rfl, hs6, hk6, hg6, hg6'⟩
         have hkW6 := (‹Kp Nw w5 _ ∧ _›.1).nw hk6)
      | (go_at_call 22
         refine (eqCats_same _ _ n _ _ k xs _ (HS4.out.nw (‹Kp Nw w5 _ ∧ _›.1)) hs6.sl.rd HL.out).mono ?_
         rintro e w7 ⟨rfl, hk7⟩
         have hkW7 := (‹Kp Nw w5 _ ∧ _›.1).nw hk7))
  have HK7 := Lib.hid (HK5.out.nw hkW7)
  clear hkW7 hkW6 hk6 hk7 hs6
  go_wp2
  go_ret
  exact ⟨rfl, HK7.out⟩

theorem lawAreCats (A : Option Addr) (n c : Nat) (k : Int) (xs : List Int) (W : World) (hu : Rd W (.slice A n c) xs) (hn : xs.length = n) (hm : n ≤ maxLen) :
    Calls Try.prog 3 #[.agg #[.slice A n c, .int .i64 k]] W fun e w' => e = .returned (.bool true) ∧ Kp Nw W w' := by
  by_cases h : n ≤ 1048576
  · exact lawAreCats_small A n c k xs W hu hn h
  · exact lawAreCats_large A n c k W hm (by omega)
end Go.Proofs.Ytaejlhdbdjfccaa
