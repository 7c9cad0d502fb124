/- The program's reading of a ring's text (ParseRing): exactly the texts of rings are read, all others fail. -/
import Derived.Test.YtaejlhdbdjfccaaDoorPure
import Derived.Test.YtaejlhdbdjfccaaDoorStepFn
import Derived.Test.YtaejlhdbdjfccaaDoorRing
namespace Go.Proofs.YtaejlhdbdjfccaaDoor
open Go.ChangeShapes Go.WideShapes Go.ChangeAt Go.RowKit

/-- more than 200 pieces are refused -/
theorem parseNumbers_many (l : List UInt8) (W : World) (ps : List (List UInt8)) (hps : ps = Lib.splitK [44] 0 (min 201 (l.length + 1) - 1) l) (hM : Mx W) (hl : l.length < 2000000) (n1 : 200 < ps.length) :
    Calls Tryd.prog 25 #[.string ⟨l.toArray⟩, .string ⟨#[44]⟩, .int .i64 200, .int .i64 999] W (ListRes W [] false) := by
  obtain ⟨n, hn⟩ : ∃ n, ps.length = n := ⟨_, rfl⟩
  have hc := splitN_any l 201 W hM hl (by omega) (by omega)
  rw [← hps, hn] at hc
  rw [hn] at n1
  have HC := Lib.hid hc
  have n2 : 200 < (n : Int) := by omega
  clear hn hc hps
  go_enter Tryd.func25, Tryd.ntmps25
  go_wp2_with fail
  refine HC.out.mono ?_
  rintro e w1 ⟨c, hc1, hc2, rfl, hk1, hcell⟩
  have HK1 := Lib.hid hk1
  clear hk1 hcell
  go_wp2
  go_ret2
  exact ⟨_, rfl, Sl.nil _ _, HK1.out⟩

/-- parseNumbers at any text -/
theorem parseNumbers_all (l : List UInt8) (W : World) (hT : Tabs W) (hM : Mx W) (hl : l.length < 2000000) :
    Calls Tryd.prog 25 #[.string ⟨l.toArray⟩, .string ⟨#[44]⟩, .int .i64 200, .int .i64 999] W (ListRes W (if listOK (sp 44 [] l) then nums (sp 44 [] l) else []) (listOK (sp 44 [] l))) := by
  obtain ⟨k, hk⟩ : ∃ k, min 201 (l.length + 1) - 1 = k := ⟨_, rfl⟩
  have hc := sp_count 44 l []
  have no : 200 < (sp 44 [] l).length → listOK (sp 44 [] l) = false := fun h => by
    unfold listOK
    rw [decide_eq_false (by omega), Bool.false_and]
  rcases splitK_sp 44 k l with ⟨e1, e2⟩ | ⟨e1, e2⟩
  · by_cases h2 : (sp 44 [] l).length ≤ 200
    · have e : listOK (sp 44 [] l) = (sp 44 [] l).all okN := by
        unfold listOK
        rw [decide_eq_true h2, Bool.true_and]
      rw [e]
      exact parseNumbers_any l W _ (by rw [hk, e1]) hT hM hl (fun p hp => by have := sp_piece 44 l [] p hp; simp at this; omega) h2
    · rw [no (by omega)]
      exact parseNumbers_many l W _ (by rw [hk, e1]) hM (by omega) (by omega)
  · rw [no (by omega)]
    exact parseNumbers_many l W _ rfl hM (by omega) (by rw [hk, e1]; omega)

theorem parseNumber_any (l : List UInt8) (W : World) (hT : Tabs W) (hl : l.length ≤ 1000000000) :
    Calls Tryd.prog 24 #[.string ⟨l.toArray⟩, .int .i64 1000000] W fun e w' => e = .returned (.tuple #[.int .i64 (if stepOK l then (val l : Int) else 0), .bool (stepOK l)]) ∧ Kp Nw W w' := by
  by_cases h : stepOK l = true
  · rw [h]
    unfold stepOK at h
    rw [Bool.and_eq_true, decide_eq_true_eq] at h
    exact parseNumber_yes l 1000000 W hT (Nat.le_refl _) (by omega) h.1 h.2
  · have h0 : stepOK l = false := by simpa using h
    rw [h0]
    unfold stepOK at h
    rw [Bool.and_eq_true, decide_eq_true_eq] at h
    exact parseNumber_no l 1000000 W hT (Nat.le_refl _) (by omega) h

theorem cut_any (l A B : List UInt8) (F : Bool) (W : World) (hM : Mx W) (hl : l.length ≤ 1048576) (hc : Lib.cut l [64] = (A, B, F)) :
    Calls Tryd.prog 23 #[.string ⟨l.toArray⟩, .string ⟨#[64]⟩] W fun e w' => e = .returned (.tuple #[.string ⟨A.toArray⟩, .string ⟨B.toArray⟩, .bool F]) ∧ Kp Nw W w' := by
  obtain ⟨m, hm⟩ := hM
  refine (Tryd.strings_Cut ⟨l.toArray⟩ ⟨#[64]⟩ m W (by show l.length < _; omega) hm).mono ?_
  rintro e w' ⟨rfl, n, rfl⟩
  have e1 : Lib.cut (ByteArray.mk l.toArray).data.toList (ByteArray.mk #[64]).data.toList = (A, B, F) := hc
  rw [e1]
  exact ⟨rfl, (Kp.refl _ _).drewN n⟩

end Go.Proofs.YtaejlhdbdjfccaaDoor
