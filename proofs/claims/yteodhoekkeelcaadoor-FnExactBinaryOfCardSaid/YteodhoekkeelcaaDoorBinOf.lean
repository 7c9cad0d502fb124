/- BinaryOf, in the program and in its model: both give the same text; no condition but that the world holds the library's table of de Bruijn. -/
import Derived.Test.YteodhoekkeelcaaDoorFmt
import Derived.Test.YteodhoekkeelcaaDoorMany
import Derived.Test.YteodhoekkeelcaaDoorNumS
namespace Go.Proofs.YteodhoekkeelcaaDoor
open Go.ChangeShapes Go.WideShapes Go.ChangeAt Go.RowKit Go.IntWalk

set_option maxRecDepth 100000 in
set_option maxHeartbeats 1600000 in
theorem twText_any (n : Nat) (W : World) (h1 : 1 ≤ n) (h2 : n ≤ 1000000000000) :
    Calls Tryd.prog 47 #[.int .i64 n] W fun e w' => e = .returned (.string ⟨(bin n).toArray⟩) ∧ Kp Nw W w' := by
  have HLEN := Lib.hid (bin_le n h2)
  go_enter Tryd.func47, Tryd.ntmps47
  go_wp2
  go_loopw [0, 3] (fun vu s wr => ∃ (u : Nat) (suf : List UInt8), vu = .int .i64 u ∧ s = .string ⟨suf.toArray⟩ ∧ u ≤ n ∧ Hid (bin n = bin u ++ suf) ∧ Kp Nw W wr) (fun vu _ _ => (intOf vu).toNat)
  case atStart => exact ⟨n, [], rfl, rfl, Nat.le_refl _, Lib.hid (by simp), .refl _ _⟩
  case round =>
    rename_i wr
    obtain ⟨u, suf, rfl, rfl, hu, hbin, hk⟩ := hrel
    have HK := Lib.hid hk
    clear hk
    by_cases h0 : 0 < u
    · have HX := Lib.hid (show bin n = bin (u / 2) ++ (UInt8.ofNat (48 + u % 2) :: suf) by rw [hbin.out, bin_go u h0]; simp)
      have hsl : suf.length ≤ 40 := by
        have := HLEN.out
        rw [hbin.out, List.length_append] at this
        omega
      have u0 : (0 : Int) < u := by omega
      have CC := Lib.hid (l1Num_any 2 (u % 2) wr (by omega) (by omega))
      rw [Lib.decDigits_one (by omega)] at CC
      have hr2 : ((u % 2 : Nat) : Int) = (u : Int) % 2 := by omega
      rw [hr2] at CC
      go_wp2_with fail
      refine CC.out.mono ?_
      rintro e w1 ⟨rfl, hk1⟩
      have HK1 := Lib.hid (HK.out.nw hk1)
      clear hk1 hr2
      go_wp2
      refine ⟨⟨u / 2, UInt8.ofNat (48 + u % 2) :: suf, by congr 1, ?_, by omega, HX, HK1.out⟩, ?_⟩
      · have e : (ByteArray.mk #[48 + UInt8.ofNat (u % 2)] ++ ByteArray.mk suf.toArray) = ByteArray.mk (UInt8.ofNat (48 + u % 2) :: suf).toArray := by
          apply ByteArray.ext
          rw [ByteArray.data_append]
          simp
        rw [e]
      · simp [intOf]; omega
    · have e : u = 0 := by omega
      subst e
      have HX := Lib.hid (show bin n = suf by rw [hbin.out, bin_zero]; rfl)
      go_wp2
      go_ret
      exact ⟨by rw [HX.out]; rfl, HK.out⟩
/-- what a call returns that tells a text, or fails -/
def StrB (W : World) (s : ByteArray) (b : Bool) (e : Ending) (w' : World) : Prop := e = .returned (.tuple #[.string s, .bool b]) ∧ Kp Nw W w'

theorem sBinaryOf_yes (n : Nat) (W : World) (h : In n 1 1000000000000) : Calls Tryd.prog 21 #[.int .i64 n] W (StrB W ⟨(bin n).toArray⟩ true) := by
  have h1 := h.lo; have h2 := h.hi
  have CC := Lib.hid (twText_any n W (by omega) (by omega))
  obtain ⟨t, ht⟩ : ∃ t, ByteArray.mk (bin n).toArray = t := ⟨_, rfl⟩
  rw [ht] at CC ⊢
  clear ht
  go_enter Tryd.func21, Tryd.ntmps21
  go_wp2_with (first | ((with_reducible refine (twGood_yes _ _ h).mono ?_); rintro e w' ⟨rfl, rfl⟩))
  refine CC.out.mono ?_
  rintro e w1 ⟨rfl, hk⟩
  have HK := Lib.hid hk
  clear hk
  go_wp2
  go_ret2
  exact ⟨rfl, HK.out⟩
theorem sBinaryOf_no (n : Int) (W : World) (h : ¬ In n 1 1000000000000) : Calls Tryd.prog 21 #[.int .i64 n] W (StrB W ⟨#[]⟩ false) := by
  go_enter Tryd.func21, Tryd.ntmps21
  go_wp2_with (first | ((with_reducible refine (twGood_no _ _ h).mono ?_); rintro e w' ⟨rfl, rfl⟩))
  go_ret2
  exact ⟨rfl, .refl _ _⟩
theorem iBinaryOf_yes (n : Nat) (W : World) (h : In n 1 1000000000000) (hc : W.cell? ⟨6, 1, none⟩ = some (.int .u8 1)) : Calls Tryd.prog 22 #[.int .i64 n] W (StrB W ⟨(bin n).toArray⟩ true) := by
  have h1 := h.lo; have h2 := h.hi
  have CC := Lib.hid (formatInt_any n W (by omega) (by omega) hc)
  obtain ⟨t, ht⟩ : ∃ t, ByteArray.mk (bin n).toArray = t := ⟨_, rfl⟩
  rw [ht] at CC ⊢
  clear ht hc
  go_enter Tryd.func22, Tryd.ntmps22
  go_wp2_with (first | ((with_reducible refine (isMany_yes _ _ h).mono ?_); rintro e w' ⟨rfl, rfl⟩))
  refine CC.out.mono ?_
  rintro e w1 ⟨rfl, hk⟩
  have HK := Lib.hid hk
  clear hk
  go_wp2
  go_ret2
  exact ⟨rfl, HK.out⟩
theorem iBinaryOf_no (n : Int) (W : World) (h : ¬ In n 1 1000000000000) : Calls Tryd.prog 22 #[.int .i64 n] W (StrB W ⟨#[]⟩ false) := by
  go_enter Tryd.func22, Tryd.ntmps22
  go_wp2_with (first | ((with_reducible refine (isMany_no _ _ h).mono ?_); rintro e w' ⟨rfl, rfl⟩))
  go_ret2
  exact ⟨rfl, .refl _ _⟩

set_option maxHeartbeats 800000 in
theorem lawBinaryOf_of (n : Int) (t : ByteArray) (b : Bool) (W : World)
    (hS : Hid (∀ w, Kp Nw W w → Calls Tryd.prog 21 #[.int .i64 n] w (StrB w t b))) (hI : Hid (∀ w, Kp Nw W w → Calls Tryd.prog 22 #[.int .i64 n] w (StrB w t b))) :
    Calls Tryd.prog 6 #[.int .i64 n] W fun e w' => e = .returned (.bool true) ∧ Kp Nw W w' := by
  go_enter Tryd.func6, Tryd.ntmps6
  go_wp2_with fail
  refine (hS.out _ (.refl _ _)).mono ?_
  rintro e w1 ⟨rfl, hk1⟩
  have HK1 := Lib.hid hk1
  clear hk1
  go_wp2_with fail
  refine (hI.out _ HK1.out).mono ?_
  rintro e w2 ⟨rfl, hk2⟩
  have HK2 := Lib.hid (HK1.out.nw hk2)
  clear hk2
  go_wp2
  go_ret
  exact ⟨rfl, HK2.out⟩

theorem lawBinaryOf (n : Int) (W : World) (hc : W.cell? ⟨6, 1, none⟩ = some (.int .u8 1)) :
    Calls Tryd.prog 6 #[.int .i64 n] W fun e w' => e = .returned (.bool true) ∧ Kp Nw W w' := by
  by_cases h : In n 1 1000000000000
  · have h1 := h.lo
    obtain ⟨m, rfl⟩ : ∃ m : Nat, n = m := ⟨n.toNat, by omega⟩
    exact lawBinaryOf_of m _ true W (Lib.hid fun w _ => sBinaryOf_yes m w h) (Lib.hid fun w hk => iBinaryOf_yes m w h (keepc hk hc (fun h => h)))
  · exact lawBinaryOf_of n _ false W (Lib.hid fun w _ => sBinaryOf_no n w h) (Lib.hid fun w _ => iBinaryOf_no n w h)
end Go.Proofs.YteodhoekkeelcaaDoor
