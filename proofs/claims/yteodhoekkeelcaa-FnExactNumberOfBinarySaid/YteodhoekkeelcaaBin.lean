/- Binary digits (NumberOfBinary), in the program and in its model: both tell the same number; no condition. -/
import Derived.Test.YteodhoekkeelcaaMany
import Derived.Test.YteodhoekkeelcaaRes
import Derived.IntWalk
import Derived.Laws.RangeAny
namespace Go.Proofs.Yteodhoekkeelcaa
open Go.ChangeShapes Go.WideShapes Go.ChangeAt Go.RowKit Go.IntWalk

theorem byteAt (l : List UInt8) (i : Nat) (h : i < l.length) (h' : i < (ByteArray.mk l.toArray).size) : (ByteArray.mk l.toArray)[i]'h' = l[i]'h := by
  show (l.toArray)[i]'_ = _
  simp
def isBit (b : UInt8) : Bool := decide (b.toNat = 48 ∨ b.toNat = 49)
/-- the number of binary digits -/
def bval (l : List UInt8) : Nat := l.foldl (fun a b => 2 * a + (b.toNat - 48)) 0
theorem bval_snoc (l : List UInt8) (b : UInt8) : bval (l ++ [b]) = 2 * bval l + (b.toNat - 48) := by simp [bval]
theorem bval_take (l : List UInt8) (j : Nat) (h : j < l.length) : bval (l.take (j + 1)) = 2 * bval (l.take j) + (l[j].toNat - 48) := by
  rw [List.take_succ_eq_append_getElem h, bval_snoc]
theorem bval_lt (l : List UInt8) (h : l.all isBit = true) (j : Nat) (hj : j ≤ l.length) : bval (l.take j) < 2 ^ j := by
  induction j with
  | zero => simp [bval]
  | succ j ih =>
    rw [bval_take l j hj, Nat.pow_succ]
    have := ih (by omega)
    have hb := of_decide_eq_true (List.all_eq_true.1 h l[j] (List.getElem_mem _))
    omega
theorem bval_bd (l : List UInt8) (h : l.all isBit = true) (h40 : l.length ≤ 40) (j : Nat) (hj : j ≤ l.length) : bval (l.take j) ≤ 1099511627775 := by
  have a := bval_lt l h j hj
  have b := Nat.pow_le_pow_right (n := 2) (by omega) (show j ≤ 40 by omega)
  have c : (2 : Nat) ^ 40 = 1099511627776 := by simp
  omega
theorem not_bits (l : List UInt8) (h : l.all isBit = false) : ∃ (k : Nat) (hk : k < l.length), isBit l[k] = false ∧ ∀ (j : Nat) (hj : j < k), isBit (l[j]'(by omega)) = true := by
  induction l with
  | nil => simp at h
  | cons x r ih =>
    by_cases hx : isBit x = true
    · simp only [List.all_cons, hx, Bool.true_and] at h
      obtain ⟨k, hk, h1, h2⟩ := ih h
      refine ⟨k + 1, by simpa using hk, by simpa using h1, fun j hj => ?_⟩
      cases j with
      | zero => simpa using hx
      | succ j => simpa using h2 j (by omega)
    · exact ⟨0, by simp, by simpa using hx, fun j hj => by omega⟩

set_option maxRecDepth 100000 in
set_option maxHeartbeats 1600000 in
theorem valueOfDigits_yes (l : List UInt8) (W : World) (h40 : l.length ≤ 40) (hb : l.all isBit = true) :
    Calls Try.prog 31 #[.string ⟨l.toArray⟩] W (IntB W (bval l : Nat) true) := by
  obtain ⟨n, hn⟩ : ∃ n, l.length = n := ⟨_, rfl⟩
  have hsz : (ByteArray.mk l.toArray).size = n := by rw [← hn]; rfl
  obtain ⟨s, hs⟩ : ∃ s, s = ByteArray.mk l.toArray := ⟨_, rfl⟩
  rw [← hs] at hsz ⊢
  have HN := Lib.hid hn
  have HS := Lib.hid hs
  have HZ := Lib.hid hsz
  have HB := Lib.hid hb
  have hn40 : n ≤ 40 := by omega
  clear hn hs hsz hb h40
  go_enter Try.func31, Try.ntmps31
  go_wp2
  go_loopw [4, 6] (fun v _ wr => ∃ j : Nat, j ≤ n ∧ v = .int .i64 (bval (l.take j) : Nat) ∧ wr = W.iter s j) (fun _ _ wr => n - wr.iterPos W.heap.size)
  case atStart => exact ⟨0, Nat.zero_le _, rfl, rfl⟩
  case round =>
    obtain ⟨j, hj, rfl, rfl⟩ := hrel
    by_cases hlt : j < n
    · have hl : j < l.length := by rw [HN.out]; exact hlt
      have hp : j < s.size := by rw [HZ.out]; exact hlt
      have hc : s[j] = l[j] := by
        have e := HS.out
        subst e
        exact byteAt l j hl hp
      have bd := bval_bd l HB.out (by rw [HN.out]; omega) (j + 1) hl
      have HV := Lib.hid (bval_take l j hl)
      have hbit := of_decide_eq_true (List.all_eq_true.1 HB.out l[j] (List.getElem_mem _))
      obtain ⟨b, hbe⟩ : ∃ b, l[j].toNat = b := ⟨_, rfl⟩
      rw [hbe] at HV hbit
      have hnx : ∀ ty, (Instr.next (.pointer (some ⟨W.heap.size, 0, none⟩)) true ty).run Try.prog (W.iter s j) = _ := fun ty => run_next_ascii W s j ty hp (by rw [hc, hbe]; omega)
      rw [hc, hbe] at hnx
      rw [HV.out] at bd
      obtain ⟨x, hx⟩ : ∃ x, bval (l.take j) = x := ⟨_, rfl⟩
      rw [hx] at bd HV ⊢
      clear hx hbe hc
      have hbit2 : (b : Int) = 48 ∨ (b : Int) = 49 := by omega
      rcases hbit with rfl | rfl
      · go_wp2
        go_roundw
        case rel => exact ⟨j + 1, by omega, by rw [HV.out]; congr 1, rfl⟩
        case measure => simp; omega
      · go_wp2
        go_roundw
        case rel => exact ⟨j + 1, by omega, by rw [HV.out]; congr 1, rfl⟩
        case measure => simp; omega
    · have e : j = n := by omega
      have HE : Hid (l.take j = l) := Lib.hid (List.take_of_length_le (by rw [HN.out]; omega))
      have hp : ¬ j < s.size := by rw [HZ.out]; omega
      have hnx : ∀ ty, (Instr.next (.pointer (some ⟨W.heap.size, 0, none⟩)) true ty).run Try.prog (W.iter s j) = _ := fun ty => run_next_end W s j ty hp
      clear e
      go_wp2
      go_ret2
      rw [HE.out]
      exact ⟨rfl, Kp.al _ _⟩

set_option maxRecDepth 100000 in
set_option maxHeartbeats 1600000 in
theorem valueOfDigits_no (l : List UInt8) (W : World) (h40 : l.length ≤ 40) (hb : l.all isBit = false) :
    Calls Try.prog 31 #[.string ⟨l.toArray⟩] W (IntB W 0 false) := by
  obtain ⟨k, hk, hbad, hgood⟩ := not_bits l hb
  obtain ⟨n, hn⟩ : ∃ n, l.length = n := ⟨_, rfl⟩
  have hsz : (ByteArray.mk l.toArray).size = n := by rw [← hn]; rfl
  obtain ⟨s, hs⟩ : ∃ s, s = ByteArray.mk l.toArray := ⟨_, rfl⟩
  rw [← hs] at hsz ⊢
  have HN := Lib.hid hn
  have HS := Lib.hid hs
  have HZ := Lib.hid hsz
  have HG := Lib.hid hgood
  have HX := Lib.hid hbad
  have hn40 : n ≤ 40 := by omega
  have hkn : k < n := by omega
  clear hn hs hsz hb h40 hgood hbad
  go_enter Try.func31, Try.ntmps31
  go_wp2
  go_loopw [4, 6] (fun v _ wr => ∃ (j x : Nat), j ≤ k ∧ v = .int .i64 x ∧ x < 2 ^ j ∧ wr = W.iter s j) (fun _ _ wr => n - wr.iterPos W.heap.size)
  case atStart => exact ⟨0, 0, Nat.zero_le _, rfl, by simp, rfl⟩
  case round =>
    obtain ⟨j, x, hj, rfl, hx, rfl⟩ := hrel
    have hl : j < l.length := by rw [HN.out]; omega
    have hp : j < s.size := by rw [HZ.out]; omega
    have hc : s[j] = l[j] := by
      have e := HS.out
      subst e
      exact byteAt l j hl hp
    have bd : 2 ^ j ≤ 1099511627776 := by
      have b := Nat.pow_le_pow_right (n := 2) (by omega) (show j ≤ 40 by omega)
      have c : (2 : Nat) ^ 40 = 1099511627776 := by simp
      omega
    have hx2 : x ≤ 1099511627776 := by omega
    have HXX := Lib.hid hx
    clear hx bd
    by_cases hlt : j < k
    · have hbit := of_decide_eq_true (HG.out j hlt)
      obtain ⟨b, hbe⟩ : ∃ b, l[j].toNat = b := ⟨_, rfl⟩
      rw [hbe] at hbit
      have hnx : ∀ ty, (Instr.next (.pointer (some ⟨W.heap.size, 0, none⟩)) true ty).run Try.prog (W.iter s j) = _ := fun ty => run_next_ascii W s j ty hp (by rw [hc, hbe]; omega)
      rw [hc, hbe] at hnx
      clear hbe hc
      rcases hbit with rfl | rfl
      · go_wp2
        go_roundw
        case rel => exact ⟨j + 1, 2 * x, by omega, by congr 1, by have := HXX.out; rw [Nat.pow_succ]; omega, rfl⟩
        case measure => simp; omega
      · go_wp2
        go_roundw
        case rel => exact ⟨j + 1, 2 * x + 1, by omega, by congr 1, by have := HXX.out; rw [Nat.pow_succ]; omega, rfl⟩
        case measure => simp; omega
    · obtain rfl : j = k := by omega
      have hbit := HX.out
      unfold isBit at hbit
      obtain ⟨b, hbe⟩ : ∃ b, l[j].toNat = b := ⟨_, rfl⟩
      rw [hbe] at hbit
      have hbit2 := of_decide_eq_false hbit
      by_cases ha : b < 128
      · have hnx : ∀ ty, (Instr.next (.pointer (some ⟨W.heap.size, 0, none⟩)) true ty).run Try.prog (W.iter s j) = _ := fun ty => run_next_ascii W s j ty hp (by rw [hc, hbe]; exact ha)
        rw [hc, hbe] at hnx
        have t1 : ((b : Int) != 48) = true := by simp; omega
        have t2 : ((b : Int) != 49) = true := by simp; omega
        clear hbe hc hbit hbit2
        go_wp2
        go_ret2
        exact ⟨rfl, Kp.al _ _⟩
      · have hd := (decode_high s j hp (by rw [hc, hbe]; omega)).1
        have hnx : ∀ ty, (Instr.next (.pointer (some ⟨W.heap.size, 0, none⟩)) true ty).run Try.prog (W.iter s j) = _ := fun ty => run_next_any W s j ty hp
        obtain ⟨d, hde⟩ : ∃ d, (Utf8.decode s j).1 = d := ⟨_, rfl⟩
        rw [hde] at hnx hd
        have t1 : ((d : Int) != 48) = true := by simp; omega
        have t2 : ((d : Int) != 49) = true := by simp; omega
        clear hbe hc hbit hbit2 hde
        go_wp2
        go_ret2
        exact ⟨rfl, Kp.al _ _⟩

/-- the number of a text of binary digits, if it is one -/
def nob (l : List UInt8) : Option Int := if 1 ≤ l.length ∧ l.length ≤ 40 ∧ l.head? = some 49 ∧ l.all isBit = true ∧ bval l ≤ 1000000000000 then some ((bval l : Nat) : Int) else none
/-- what a call returns that tells a number if there is one -/
def OptI (W : World) (o : Option Int) (e : Ending) (w' : World) : Prop := IntB W (o.getD 0) o.isSome e w'
theorem OptI.some {W w' : World} {o : Option Int} {x : Int} {e : Ending} (h : o = some x) (h2 : IntB W x true e w') : OptI W o e w' := by subst h; exact h2
theorem OptI.none {W w' : World} {o : Option Int} {e : Ending} (h : o = none) (h2 : IntB W 0 false e w') : OptI W o e w' := by subst h; exact h2

set_option maxRecDepth 100000 in
set_option maxHeartbeats 1600000 in
theorem iNumberOfBinary_off (l : List UInt8) (W : World) (hl : l.length ≤ 140737488355328) (h : l.length < 1 ∨ 40 < l.length) :
    Calls Try.prog 11 #[.string ⟨l.toArray⟩] W (OptI W (nob l)) := by
  have HE : Hid (nob l = none) := Lib.hid (by unfold nob; rw [if_neg]; rintro ⟨a, b, _⟩; omega)
  obtain ⟨n, hn⟩ : ∃ n, l.length = n := ⟨_, rfl⟩
  have hsz : (ByteArray.mk l.toArray).size = n := by rw [← hn]; rfl
  rw [hn] at h hl
  clear hn
  go_enter Try.func11, Try.ntmps11
  go_wp2_with (first | ((with_reducible refine (within_no _ _ _ _ (by omega)).mono ?_); rintro e w' ⟨rfl, rfl⟩))
  go_ret2
  exact OptI.none HE.out ⟨rfl, Kp.refl _ _⟩

theorem head_at (l : List UInt8) (h : 0 < l.length) : l.head? = some l[0] := by
  cases l with
  | nil => simp at h
  | cons x r => rfl

set_option maxRecDepth 100000 in
set_option maxHeartbeats 1600000 in
theorem iNumberOfBinary_first (l : List UInt8) (W : World) (h1 : 1 ≤ l.length) (h2 : l.length ≤ 40) (h : l[0].toNat ≠ 49) :
    Calls Try.prog 11 #[.string ⟨l.toArray⟩] W (OptI W (nob l)) := by
  have HE : Hid (nob l = none) := Lib.hid (by
    unfold nob
    rw [if_neg]
    rintro ⟨_, _, c, _⟩
    rw [head_at l (by omega)] at c
    injection c with c
    rw [c] at h
    exact h rfl)
  obtain ⟨n, hn⟩ : ∃ n, l.length = n := ⟨_, rfl⟩
  have hsz : (ByteArray.mk l.toArray).size = n := by rw [← hn]; rfl
  have b0 := byteAt l 0 (by omega) (by rw [hsz]; omega)
  obtain ⟨c, hc⟩ : ∃ c, l[0] = c := ⟨_, rfl⟩
  rw [hc] at b0 h
  have t1 : ((c.toNat : Int) != 49) = true := by simp; omega
  rw [hn] at h1 h2
  clear hc
  go_enter Try.func11, Try.ntmps11
  go_wp2_with (first | ((with_reducible refine (within_yes _ _ _ _ (by omega) (by omega)).mono ?_); rintro e w' ⟨rfl, rfl⟩))
  go_ret2
  exact OptI.none HE.out ⟨rfl, Kp.refl _ _⟩

set_option maxRecDepth 100000 in
set_option maxHeartbeats 1600000 in
theorem iNumberOfBinary_in (l : List UInt8) (W : World) (h1 : 1 ≤ l.length) (h2 : l.length ≤ 40) (h : l[0] = 49) :
    Calls Try.prog 11 #[.string ⟨l.toArray⟩] W (OptI W (nob l)) := by
  have hh : l.head? = some 49 := by rw [head_at l (by omega), h]
  have HH := Lib.hid hh
  have HL := Lib.hid (And.intro h1 h2)
  obtain ⟨n, hn⟩ : ∃ n, l.length = n := ⟨_, rfl⟩
  have hsz : (ByteArray.mk l.toArray).size = n := by rw [← hn]; rfl
  have b0 := byteAt l 0 (by omega) (by rw [hsz]; omega)
  rw [h] at b0
  rw [hn] at h1 h2
  clear h hh
  by_cases hb : l.all isBit = true
  · have bd := bval_bd l hb HL.out.2 l.length (Nat.le_refl _)
    rw [List.take_length] at bd
    have HB := Lib.hid hb
    clear hb
    go_enter Try.func11, Try.ntmps11
    go_wp2_with (first | ((with_reducible refine (within_yes _ _ _ _ (by omega) (by omega)).mono ?_); rintro e w' ⟨rfl, rfl⟩))
    refine (valueOfDigits_yes l W HL.out.2 HB.out).mono ?_
    rintro e w1 ⟨rfl, hk1⟩
    have HK1 := Lib.hid hk1
    clear hk1
    by_cases hm : bval l ≤ 1000000000000
    · have HE : Hid (nob l = some ((bval l : Nat) : Int)) := Lib.hid (by unfold nob; rw [if_pos ⟨HL.out.1, HL.out.2, HH.out, HB.out, hm⟩])
      go_wp2
      go_ret2
      exact OptI.some HE.out ⟨rfl, HK1.out⟩
    · have HE : Hid (nob l = none) := Lib.hid (by unfold nob; rw [if_neg]; rintro ⟨_, _, _, _, c⟩; exact hm c)
      go_wp2
      go_ret2
      exact OptI.none HE.out ⟨rfl, HK1.out⟩
  · have HB : Hid (l.all isBit = false) := Lib.hid (by simpa using hb)
    have HE : Hid (nob l = none) := Lib.hid (by unfold nob; rw [if_neg]; rintro ⟨_, _, _, c, _⟩; rw [HB.out] at c; cases c)
    clear hb
    go_enter Try.func11, Try.ntmps11
    go_wp2_with (first | ((with_reducible refine (within_yes _ _ _ _ (by omega) (by omega)).mono ?_); rintro e w' ⟨rfl, rfl⟩))
    refine (valueOfDigits_no l W HL.out.2 HB.out).mono ?_
    rintro e w1 ⟨rfl, hk1⟩
    have HK1 := Lib.hid hk1
    clear hk1
    go_wp2
    go_ret2
    exact OptI.none HE.out ⟨rfl, HK1.out⟩

theorem iNumberOfBinary_any (l : List UInt8) (W : World) (hl : l.length ≤ 140737488355328) :
    Calls Try.prog 11 #[.string ⟨l.toArray⟩] W (OptI W (nob l)) := by
  by_cases h : l.length < 1 ∨ 40 < l.length
  · exact iNumberOfBinary_off l W hl h
  · have h1 : 1 ≤ l.length := by omega
    have h2 : l.length ≤ 40 := by omega
    by_cases h3 : l[0] = 49
    · exact iNumberOfBinary_in l W h1 h2 h3
    · exact iNumberOfBinary_first l W h1 h2 (fun e => h3 (UInt8.toNat_inj.1 (by rw [e]; rfl)))
set_option maxRecDepth 100000 in
set_option maxHeartbeats 1600000 in
theorem twNumber_any (l : List UInt8) (W : World) (h40 : l.length ≤ 40) (hb : l.all isBit = true) :
    Calls Try.prog 28 #[.string ⟨l.toArray⟩] W fun e w' => e = .returned (.int .i64 (bval l : Nat)) ∧ Kp Nw W w' := by
  obtain ⟨n, hn⟩ : ∃ n, l.length = n := ⟨_, rfl⟩
  have hsz : (ByteArray.mk l.toArray).size = n := by rw [← hn]; rfl
  obtain ⟨s, hs⟩ : ∃ s, s = ByteArray.mk l.toArray := ⟨_, rfl⟩
  rw [← hs] at hsz ⊢
  have HN := Lib.hid hn
  have HS := Lib.hid hs
  have HB := Lib.hid hb
  have hn40 : n ≤ 40 := by omega
  clear hn hs hb h40
  go_enter Try.func28, Try.ntmps28
  go_wp2
  go_loopw [3, 4] (fun v _ wr => ∃ j : Nat, j ≤ n ∧ v = .int .i64 (bval (l.take j) : Nat) ∧ wr = W.iter s j) (fun _ _ wr => n - wr.iterPos W.heap.size)
  case atStart => exact ⟨0, Nat.zero_le _, rfl, rfl⟩
  case round =>
    obtain ⟨j, hj, rfl, rfl⟩ := hrel
    by_cases hlt : j < n
    · have hl : j < l.length := by rw [HN.out]; exact hlt
      have hp : j < s.size := by rw [hsz]; exact hlt
      have hc : s[j] = l[j] := by
        have e := HS.out
        subst e
        exact byteAt l j hl hp
      have bd := bval_bd l HB.out (by rw [HN.out]; omega) (j + 1) hl
      have HV := Lib.hid (bval_take l j hl)
      have hbit := of_decide_eq_true (List.all_eq_true.1 HB.out l[j] (List.getElem_mem _))
      obtain ⟨b, hbe⟩ : ∃ b, l[j] = b := ⟨_, rfl⟩
      rw [hbe] at HV hbit hc
      have hnx : ∀ ty, (Instr.next (.pointer (some ⟨W.heap.size, 0, none⟩)) true ty).run Try.prog (W.iter s j) = _ := fun ty => run_next_ascii W s j ty hp (by rw [hc]; omega)
      rw [hc] at hnx
      rw [HV.out] at bd
      obtain ⟨x, hx⟩ : ∃ x, bval (l.take j) = x := ⟨_, rfl⟩
      rw [hx] at bd HV ⊢
      have j0 : (0 : Int) ≤ j := Int.natCast_nonneg _
      have j1 : (j : Int) < n := by omega
      have u1 : (b.toNat : Int) - 48 = 0 ∨ (b.toNat : Int) - 48 = 1 := by omega
      have w2 : IntKind.u8.wrap ((b.toNat : Int) - 48) = b.toNat - 48 := u8_in _ (by omega)
      have w3 : IntKind.i64.wrap ((b.toNat : Int) - 48) = b.toNat - 48 := i64_in _ (by omega)
      have b1 : (0 : Int) ≤ (b.toNat : Int) - 48 := by omega
      have b2 : (b.toNat : Int) - 48 ≤ 1 := by omega
      clear hx hbe hbit u1
      go_wp2
      go_roundw
      case rel => exact ⟨j + 1, by omega, by rw [HV.out]; congr 1; omega, rfl⟩
      case measure => simp; omega
    · have HE : Hid (l.take j = l) := Lib.hid (List.take_of_length_le (by rw [HN.out]; omega))
      have hp : ¬ j < s.size := by rw [hsz]; omega
      have hnx : ∀ ty, (Instr.next (.pointer (some ⟨W.heap.size, 0, none⟩)) true ty).run Try.prog (W.iter s j) = _ := fun ty => run_next_end W s j ty hp
      go_wp2
      go_ret
      rw [HE.out]
      exact ⟨rfl, Kp.al _ _⟩
theorem fold_ge (l : List UInt8) : ∀ a : Nat, a ≤ l.foldl (fun a b => 2 * a + (b.toNat - 48)) a := by
  induction l with
  | nil => intro a; exact Nat.le_refl _
  | cons x r ih => intro a; exact Nat.le_trans (by omega) (ih (2 * a + (x.toNat - 48)))
theorem bval_pos (l : List UInt8) (h : l.head? = some 49) : 1 ≤ bval l := by
  cases l with
  | nil => simp at h
  | cons x r =>
    simp only [List.head?_cons, Option.some.injEq] at h
    subst h
    exact Nat.le_trans (by decide) (fold_ge r (2 * 0 + ((49 : UInt8).toNat - 48)))

set_option maxRecDepth 100000 in
set_option maxHeartbeats 1600000 in
theorem sNumberOfBinary_off (l : List UInt8) (W : World) (hl : l.length ≤ 140737488355328) (h : l.length < 1 ∨ 40 < l.length) :
    Calls Try.prog 10 #[.string ⟨l.toArray⟩] W (OptI W (nob l)) := by
  have HE : Hid (nob l = none) := Lib.hid (by unfold nob; rw [if_neg]; rintro ⟨a, b, _⟩; omega)
  obtain ⟨n, hn⟩ : ∃ n, l.length = n := ⟨_, rfl⟩
  have hsz : (ByteArray.mk l.toArray).size = n := by rw [← hn]; rfl
  rw [hn] at h hl
  clear hn
  go_enter Try.func10, Try.ntmps10
  go_wp2_with (first | ((with_reducible refine (l1In_no _ _ _ _ (by omega)).mono ?_); rintro e w' ⟨rfl, rfl⟩))
  go_ret2
  exact OptI.none HE.out ⟨rfl, Kp.refl _ _⟩

set_option maxRecDepth 100000 in
set_option maxHeartbeats 1600000 in
theorem sNumberOfBinary_first (l : List UInt8) (W : World) (h1 : 1 ≤ l.length) (h2 : l.length ≤ 40) (h : l[0].toNat ≠ 49) :
    Calls Try.prog 10 #[.string ⟨l.toArray⟩] W (OptI W (nob l)) := by
  have HE : Hid (nob l = none) := Lib.hid (by
    unfold nob
    rw [if_neg]
    rintro ⟨_, _, c, _⟩
    rw [head_at l (by omega)] at c
    injection c with c
    rw [c] at h
    exact h rfl)
  obtain ⟨n, hn⟩ : ∃ n, l.length = n := ⟨_, rfl⟩
  have hsz : (ByteArray.mk l.toArray).size = n := by rw [← hn]; rfl
  have b0 := byteAt l 0 (by omega) (by rw [hsz]; omega)
  obtain ⟨c, hc⟩ : ∃ c, l[0] = c := ⟨_, rfl⟩
  rw [hc] at b0 h
  have t1 : ((c.toNat : Int) != 49) = true := by simp; omega
  rw [hn] at h1 h2
  clear hc
  go_enter Try.func10, Try.ntmps10
  go_wp2_with (first | ((with_reducible refine (l1In_yes _ _ _ _ (by omega) (by omega)).mono ?_); rintro e w' ⟨rfl, rfl⟩))
  go_ret2
  exact OptI.none HE.out ⟨rfl, Kp.refl _ _⟩

set_option maxRecDepth 100000 in
set_option maxHeartbeats 1600000 in
theorem sNumberOfBinary_bad (l : List UInt8) (W : World) (h1 : 1 ≤ l.length) (h2 : l.length ≤ 40) (h : l[0] = 49) (hb : l.all isBit = false) :
    Calls Try.prog 10 #[.string ⟨l.toArray⟩] W (OptI W (nob l)) := by
  have HE : Hid (nob l = none) := Lib.hid (by unfold nob; rw [if_neg]; rintro ⟨_, _, _, c, _⟩; rw [hb] at c; cases c)
  obtain ⟨k, hk, hbad, hgood⟩ := not_bits l hb
  obtain ⟨n, hn⟩ : ∃ n, l.length = n := ⟨_, rfl⟩
  have hsz : (ByteArray.mk l.toArray).size = n := by rw [← hn]; rfl
  have b0 := byteAt l 0 (by omega) (by rw [hsz]; omega)
  rw [h] at b0
  obtain ⟨s, hs⟩ : ∃ s, s = ByteArray.mk l.toArray := ⟨_, rfl⟩
  rw [← hs] at hsz ⊢
  have hpos : 0 < s.size := by rw [hsz]; omega
  have b0' : s[0]'hpos = 49 := by
    have e := hs
    subst e
    exact b0
  clear b0
  have HN := Lib.hid hn
  have HS := Lib.hid hs
  have HG := Lib.hid hgood
  have HX := Lib.hid hbad
  rw [hn] at h1 h2
  have hkn : k < n := by omega
  clear h hb hgood hbad hn hs
  go_enter Try.func10, Try.ntmps10
  go_wp2_with (first | ((with_reducible refine (l1In_yes _ _ _ _ (by omega) (by omega)).mono ?_); rintro e w' ⟨rfl, rfl⟩))
  go_loopw [4] (fun _ wr => ∃ j : Nat, j ≤ k ∧ wr = W.iter s j) (fun _ wr => n - wr.iterPos W.heap.size)
  case atStart => exact ⟨0, Nat.zero_le _, rfl⟩
  case round =>
    obtain ⟨j, hj, rfl⟩ := hrel
    have hl : j < l.length := by rw [HN.out]; omega
    have hp : j < s.size := by rw [hsz]; omega
    have hc : s[j] = l[j] := by
      have e := HS.out
      subst e
      exact byteAt l j hl hp
    have j0 : (0 : Int) ≤ j := Int.natCast_nonneg _
    have j1 : (j : Int) < n := by omega
    by_cases hlt : j < k
    · have hbit := of_decide_eq_true (HG.out j hlt)
      obtain ⟨b, hbe⟩ : ∃ b, l[j] = b := ⟨_, rfl⟩
      rw [hbe] at hbit hc
      have hnx : ∀ ty, (Instr.next (.pointer (some ⟨W.heap.size, 0, none⟩)) true ty).run Try.prog (W.iter s j) = _ := fun ty => run_next_ascii W s j ty hp (by rw [hc]; omega)
      rw [hc] at hnx
      clear hbe
      by_cases t0 : b.toNat = 48
      · have t1 : ((b.toNat : Int) != 48) = false := by simp; omega
        clear hbit t0
        go_wp2
        go_roundw
        case rel => exact ⟨j + 1, by omega, rfl⟩
        case measure => simp; omega
      · have t1 : ((b.toNat : Int) != 48) = true := by simp; omega
        have t2 : ((b.toNat : Int) != 49) = false := by simp; omega
        clear hbit t0
        go_wp2
        go_roundw
        case rel => exact ⟨j + 1, by omega, rfl⟩
        case measure => simp; omega
    · obtain rfl : j = k := by omega
      have hbit := HX.out
      unfold isBit at hbit
      obtain ⟨b, hbe⟩ : ∃ b, l[j] = b := ⟨_, rfl⟩
      rw [hbe] at hbit hc
      have hbit2 := of_decide_eq_false hbit
      have t1 : ((b.toNat : Int) != 48) = true := by simp; omega
      have t2 : ((b.toNat : Int) != 49) = true := by simp; omega
      by_cases ha : b.toNat < 128
      · have hnx : ∀ ty, (Instr.next (.pointer (some ⟨W.heap.size, 0, none⟩)) true ty).run Try.prog (W.iter s j) = _ := fun ty => run_next_ascii W s j ty hp (by rw [hc]; exact ha)
        rw [hc] at hnx
        clear hbe hbit hbit2
        go_wp2
        go_ret2
        exact OptI.none HE.out ⟨rfl, Kp.al _ _⟩
      · have hnx : ∀ ty, (Instr.next (.pointer (some ⟨W.heap.size, 0, none⟩)) true ty).run Try.prog (W.iter s j) = _ := fun ty => run_next_any W s j ty hp
        obtain ⟨d, hde⟩ : ∃ d, (Utf8.decode s j).1 = d := ⟨_, rfl⟩
        rw [hde] at hnx
        clear hbe hbit hbit2 hde
        go_wp2
        go_ret2
        exact OptI.none HE.out ⟨rfl, Kp.al _ _⟩

set_option maxRecDepth 100000 in
set_option maxHeartbeats 1600000 in
theorem sNumberOfBinary_in (l : List UInt8) (W : World) (h1 : 1 ≤ l.length) (h2 : l.length ≤ 40) (h : l[0] = 49) (hb : l.all isBit = true) :
    Calls Try.prog 10 #[.string ⟨l.toArray⟩] W (OptI W (nob l)) := by
  have hh : l.head? = some 49 := by rw [head_at l (by omega), h]
  have HP := Lib.hid (bval_pos l hh)
  have HH := Lib.hid hh
  have HL := Lib.hid (And.intro h1 h2)
  have HB := Lib.hid hb
  obtain ⟨n, hn⟩ : ∃ n, l.length = n := ⟨_, rfl⟩
  have hsz : (ByteArray.mk l.toArray).size = n := by rw [← hn]; rfl
  have b0 := byteAt l 0 (by omega) (by rw [hsz]; omega)
  rw [h] at b0
  obtain ⟨s, hs⟩ : ∃ s, s = ByteArray.mk l.toArray := ⟨_, rfl⟩
  rw [← hs] at hsz ⊢
  have hpos : 0 < s.size := by rw [hsz]; omega
  have b0' : s[0]'hpos = 49 := by
    have e := hs
    subst e
    exact b0
  clear b0
  have HN := Lib.hid hn
  have HS := Lib.hid hs
  rw [hn] at h1 h2
  clear h hb hh hn hs
  go_enter Try.func10, Try.ntmps10
  go_wp2_with (first | ((with_reducible refine (l1In_yes _ _ _ _ (by omega) (by omega)).mono ?_); rintro e w' ⟨rfl, rfl⟩))
  go_loopw [4] (fun _ wr => ∃ j : Nat, j ≤ n ∧ wr = W.iter s j) (fun _ wr => n - wr.iterPos W.heap.size)
  case atStart => exact ⟨0, Nat.zero_le _, rfl⟩
  case round =>
    obtain ⟨j, hj, rfl⟩ := hrel
    by_cases hlt : j < n
    · have hl : j < l.length := by rw [HN.out]; omega
      have hp : j < s.size := by rw [hsz]; omega
      have hc : s[j] = l[j] := by
        have e := HS.out
        subst e
        exact byteAt l j hl hp
      have j0 : (0 : Int) ≤ j := Int.natCast_nonneg _
      have j1 : (j : Int) < n := by omega
      have hbit := of_decide_eq_true (List.all_eq_true.1 HB.out l[j] (List.getElem_mem _))
      obtain ⟨b, hbe⟩ : ∃ b, l[j] = b := ⟨_, rfl⟩
      rw [hbe] at hbit hc
      have hnx : ∀ ty, (Instr.next (.pointer (some ⟨W.heap.size, 0, none⟩)) true ty).run Try.prog (W.iter s j) = _ := fun ty => run_next_ascii W s j ty hp (by rw [hc]; omega)
      rw [hc] at hnx
      clear hbe
      by_cases t0 : b.toNat = 48
      · have t1 : ((b.toNat : Int) != 48) = false := by simp; omega
        clear hbit t0
        go_wp2
        go_roundw
        case rel => exact ⟨j + 1, by omega, rfl⟩
        case measure => simp; omega
      · have t1 : ((b.toNat : Int) != 48) = true := by simp; omega
        have t2 : ((b.toNat : Int) != 49) = false := by simp; omega
        clear hbit t0
        go_wp2
        go_roundw
        case rel => exact ⟨j + 1, by omega, rfl⟩
        case measure => simp; omega
    · have hp : ¬ j < s.size := by rw [hsz]; omega
      have hnx : ∀ ty, (Instr.next (.pointer (some ⟨W.heap.size, 0, none⟩)) true ty).run Try.prog (W.iter s j) = _ := fun ty => run_next_end W s j ty hp
      go_wp2_with fail
      have e := HS.out
      subst e
      refine (twNumber_any l _ HL.out.2 HB.out).mono ?_
      rintro e w1 ⟨rfl, hk1⟩
      have HK1 := Lib.hid ((Kp.al W _).nw hk1)
      clear hk1
      by_cases hm : bval l ≤ 1000000000000
      · have HE : Hid (nob l = some ((bval l : Nat) : Int)) := Lib.hid (by unfold nob; rw [if_pos ⟨HL.out.1, HL.out.2, HH.out, HB.out, hm⟩])
        have hp := HP.out
        go_wp2_with (first | ((with_reducible refine (twGood_yes _ _ (by constructor <;> omega)).mono ?_); rintro e w' ⟨rfl, rfl⟩))
        go_ret2
        exact OptI.some HE.out ⟨rfl, HK1.out⟩
      · have HE : Hid (nob l = none) := Lib.hid (by unfold nob; rw [if_neg]; rintro ⟨_, _, _, _, c⟩; exact hm c)
        go_wp2_with (first | ((with_reducible refine (twGood_no _ _ (fun c => by have := c.hi; omega)).mono ?_); rintro e w' ⟨rfl, rfl⟩))
        go_ret2
        exact OptI.none HE.out ⟨rfl, HK1.out⟩

theorem sNumberOfBinary_any (l : List UInt8) (W : World) (hl : l.length ≤ 140737488355328) :
    Calls Try.prog 10 #[.string ⟨l.toArray⟩] W (OptI W (nob l)) := by
  by_cases h : l.length < 1 ∨ 40 < l.length
  · exact sNumberOfBinary_off l W hl h
  · have h1 : 1 ≤ l.length := by omega
    have h2 : l.length ≤ 40 := by omega
    by_cases h3 : l[0] = 49
    · by_cases hb : l.all isBit = true
      · exact sNumberOfBinary_in l W h1 h2 h3 hb
      · exact sNumberOfBinary_bad l W h1 h2 h3 (by simpa using hb)
    · exact sNumberOfBinary_first l W h1 h2 (fun e => h3 (UInt8.toNat_inj.1 (by rw [e]; rfl)))

set_option maxRecDepth 100000 in
set_option maxHeartbeats 1600000 in
theorem lawNumberOfBinary (s : ByteArray) (W : World) :
    Calls Try.prog 3 #[.string s] W fun e w' => e = .returned (.bool true) ∧ Kp Nw W w' := by
  obtain ⟨l, rfl⟩ : ∃ l : List UInt8, s = ⟨l.toArray⟩ := ⟨s.data.toList, by simp⟩
  obtain ⟨n, hn⟩ : ∃ n, l.length = n := ⟨_, rfl⟩
  have hsz : (ByteArray.mk l.toArray).size = n := by rw [← hn]; rfl
  by_cases hbig : n ≤ 1048576
  · have HL : Hid (l.length ≤ 140737488355328) := Lib.hid (by omega)
    obtain ⟨o, ho⟩ : ∃ o, nob l = o := ⟨_, rfl⟩
    have hS : Hid (∀ w, Calls Try.prog 10 #[.string ⟨l.toArray⟩] w (IntB w (o.getD 0) o.isSome)) := Lib.hid (fun w => by rw [← ho]; exact sNumberOfBinary_any l w HL.out)
    have hI : Hid (∀ w, Calls Try.prog 11 #[.string ⟨l.toArray⟩] w (IntB w (o.getD 0) o.isSome)) := Lib.hid (fun w => by rw [← ho]; exact iNumberOfBinary_any l w HL.out)
    obtain ⟨x, hx⟩ : ∃ x, o.getD 0 = x := ⟨_, rfl⟩
    obtain ⟨b, hb⟩ : ∃ b, o.isSome = b := ⟨_, rfl⟩
    rw [hx, hb] at hS hI
    clear ho hx hb hn
    go_enter Try.func3, Try.ntmps3
    go_wp2_with fail
    refine (hS.out _).mono ?_
    rintro e w1 ⟨rfl, hk1⟩
    have HK1 := Lib.hid hk1
    clear hk1
    go_wp2_with fail
    refine (hI.out _).mono ?_
    rintro e w2 ⟨rfl, hk2⟩
    have HK2 := Lib.hid (HK1.out.nw hk2)
    clear hk2
    go_wp2
    go_ret
    exact ⟨rfl, HK2.out⟩
  · clear hn
    have hbig2 : (1048576 : Int) < n := by omega
    clear hbig
    go_enter Try.func3, Try.ntmps3
    go_wp2
    go_ret
    exact ⟨rfl, Kp.refl _ _⟩
end Go.Proofs.Yteodhoekkeelcaa
