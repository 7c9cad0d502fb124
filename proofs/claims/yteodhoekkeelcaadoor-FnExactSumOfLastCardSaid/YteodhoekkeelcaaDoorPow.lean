/- The table of powers of two, as the program's text lays it, and the greatest power that is at most a number, in the program and in its model; no condition but that the number is in the chapter's range and the world holds the table. -/
import Derived.Test.YteodhoekkeelcaaDoorLow
import Derived.Test.YteodhoekkeelcaaDoorMake
import Derived.Lib.LaidTab
namespace Go.Proofs.YteodhoekkeelcaaDoor
open Go.ChangeShapes Go.WideShapes Go.ChangeAt Go.RowKit

/-- a power of two -/
def pw (j : Nat) : Nat := 2 ^ j
/-- the table -/
def powL : List Int := (List.range 40).map fun i : Nat => (pw i : Int)
def powA : Array Value := (powL.map fun z => Value.int .i64 z).toArray
theorem powL_len : powL.length = 40 := by simp [powL]
theorem powA_size : powA.size = 40 := by simp [powA, powL_len]
theorem powA_get (j : Nat) (h : j < 40) : powA[j]? = some (.int .i64 (pw j : Int)) := by simp [powA, powL, h]

/-- the world holds the table -/
def Pow (W : World) : Prop := Lib.TabIs Tryd.prog W "loop.example/g01295/impl.powersOfTwo" .i64 powL
theorem gPw : Tryd.prog.globalNamed "loop.example/g01295/impl.powersOfTwo" = some 0 := by kernel_rfl
theorem pwInfo : (Tryd.prog.info? 52).map (·.size) = some 40 := by kernel_rfl
theorem Pow.row {w : World} (h : Pow w) : ∃ t fr, w.heap[0]? = some (.cells powA t fr) := by
  unfold Pow Lib.TabIs World.var? at h
  rw [gPw, Option.bind_some] at h
  cases hh : w.heap[0]? with
  | none => rw [hh] at h; cases h
  | some o =>
    rw [hh] at h
    cases o with
    | cells cs t fr => exact ⟨t, fr, by simp only [Option.some.injEq] at h; rw [h]; rfl⟩
    | _ => cases h
theorem Pow.lt {w : World} (h : Pow w) : 0 < w.heap.size := by
  obtain ⟨t, fr, hh⟩ := h.row
  exact (Array.getElem?_eq_some_iff.1 hh).1
theorem Pow.kp {w w' : World} {S : Nat → Prop} (h : Pow w) (hk : Kp S w w') (hs : ¬ S 0) : Pow w' := by
  have hl := h.lt
  unfold Pow Lib.TabIs World.var? at h ⊢
  rw [gPw, Option.bind_some] at h ⊢
  rw [hk.block _ hl hs]
  exact h
theorem Pow.nw {w w' : World} (h : Pow w) (hk : Kp Nw w w') : Pow w' := h.kp hk (fun h => h)

theorem pow_run (j : Nat) (h : j < 40) (w : World) : (Instr.index 52 (.agg powA) (.int .i64 j)).run Tryd.prog w = .ok (.int .i64 (pw j : Int)) w := by
  have h1 : (j : Int) < 40 := by omega
  have g := powA_get j h
  simp only [Instr.index, Sem.run_bind, asIntOf, Sem.run_pure, Result.andThen_ok, run_underlying Tryd.underlying52]
  simp [h1, part, isAgg, run_underlying Tryd.underlying3, g, go_sem]

/-- the greatest power of two that is at most p -/
def gp (p : Nat) : Nat := pw (Nat.log2 p)

theorem gp_le (p : Nat) (h : 1 ≤ p) : gp p ≤ p := Nat.log2_self_le (by omega)
theorem lt_gp (p : Nat) : p < 2 * gp p := by
  have := Nat.lt_log2_self (n := p)
  unfold gp pw
  rw [Nat.pow_succ] at this
  omega
theorem gp_pos (p : Nat) : 1 ≤ gp p := Nat.one_le_two_pow
theorem le_log2 (p j : Nat) (h : 1 ≤ p) : pw j ≤ p ↔ j ≤ Nat.log2 p := by unfold pw; rw [Nat.le_log2 (by omega)]
theorem log2_lt (p : Nat) (h1 : 1 ≤ p) (h2 : p ≤ 1000000000000) : Nat.log2 p ≤ 39 := by
  have := (Nat.log2_lt (n := p) (k := 40) (by omega)).2 (by omega)
  omega
theorem pw_bd (j : Nat) (h : j ≤ 40) : 1 ≤ pw j ∧ pw j ≤ 1099511627776 := by
  have := Nat.pow_le_pow_right (n := 2) (by omega) h
  exact ⟨Nat.one_le_two_pow, by unfold pw; simpa using this⟩
theorem pw_succ (j : Nat) : pw (j + 1) = 2 * pw j := by unfold pw; omega
/-- the greatest of the first j powers that is at most p -/
def gpTo (p j : Nat) : Nat := pw (min (j - 1) (Nat.log2 p))
theorem gpTo_yes (p j : Nat) (h : 1 ≤ p) (hj : pw j ≤ p) : gpTo p (j + 1) = pw j := by
  have := (le_log2 p j h).1 hj
  simp [gpTo, Nat.min_eq_left this]
theorem gpTo_no (p j : Nat) (h : 1 ≤ p) (hj : ¬ pw j ≤ p) : gpTo p (j + 1) = gpTo p j := by
  have hn : ¬ j ≤ Nat.log2 p := fun k => hj ((le_log2 p j h).2 k)
  unfold gpTo
  rw [Nat.min_eq_right (by omega), Nat.min_eq_right (by omega)]
theorem gpTo_end (p : Nat) (h1 : 1 ≤ p) (h2 : p ≤ 1000000000000) : gpTo p 40 = gp p := by
  have := log2_lt p h1 h2
  simp [gpTo, gp, Nat.min_eq_right this]

set_option maxRecDepth 100000 in
set_option maxHeartbeats 400000 in
theorem greatestPower_any (p : Nat) (W : World) (hP : Pow W) (h1 : 1 ≤ p) (h2 : p ≤ 1000000000000) :
    Calls Tryd.prog 46 #[.int .i64 p] W fun e w' => e = .returned (.int .i64 (gp p)) ∧ W = w' := by
  obtain ⟨t, fr, hrow⟩ := hP.row
  have HR := Lib.hid hrow
  have H2 := Lib.hid h2
  clear hrow hP h2
  go_enter Tryd.func46, Tryd.ntmps46
  go_wp2_with (first | (refine wpList_load_row rfl 52 _ rfl 0 rfl t powA fr _ HR.out Tryd.underlying52 rfl (by rw [powA_size]; exact pwInfo) ?_) | fail)
  go_loop [3, 5, 7] (fun g _ i => ∃ j : Nat, j ≤ 40 ∧ i = .int .i64 j ∧ g = .int .i64 (gpTo p j)) (fun _ _ i => 40 - (intOf i).toNat)
  case atStart => exact ⟨0, Nat.zero_le _, rfl, by simp [gpTo, pw]⟩
  case round =>
    obtain ⟨j, hj, rfl, rfl⟩ := hrel
    have j0 : (0 : Int) ≤ j := Int.natCast_nonneg _
    by_cases hlt : j < 40
    · have r := pow_run j hlt
      have j1 : (j : Int) < 40 := by omega
      by_cases hle : pw j ≤ p
      · have HE := Lib.hid (gpTo_yes p j h1 hle)
        go_wp2
        go_round
        case rel => exact ⟨j + 1, by omega, by go_num, by rw [HE.out]⟩
        case measure => simp [intOf]; omega
      · have HE := Lib.hid (gpTo_no p j h1 hle)
        go_wp2
        go_round
        case rel => exact ⟨j + 1, by omega, by go_num, by rw [HE.out]⟩
        case measure => simp [intOf]; omega
    · have e : j = 40 := by omega
      subst e
      have HE := Lib.hid (gpTo_end p h1 H2.out)
      go_wp2
      go_ret
      exact ⟨ret_int (by rw [HE.out]), rfl⟩

theorem twPower_any (p : Nat) (W : World) (h1 : 1 ≤ p) (h2 : p ≤ 1000000000000) :
    Calls Tryd.prog 45 #[.int .i64 p] W fun e w' => e = .returned (.int .i64 (gp p)) ∧ W = w' := by
  have hL := log2_lt p h1 h2
  go_enter Tryd.func45, Tryd.ntmps45
  go_wp2
  go_loop [3] (fun g => ∃ j : Nat, j ≤ Nat.log2 p ∧ g = .int .i64 (pw j)) (fun g => p - (intOf g).toNat)
  case atStart => exact ⟨0, Nat.zero_le _, rfl⟩
  case round =>
    obtain ⟨j, hj, rfl⟩ := hrel
    have hb := pw_bd j (by omega)
    have hs := pw_succ j
    by_cases hlt : j < Nat.log2 p
    · have hle : 2 * pw j ≤ p := by rw [← hs]; exact (le_log2 p (j + 1) h1).2 hlt
      have HS := Lib.hid hs
      clear hs
      go_wp2
      go_round
      case rel => exact ⟨j + 1, by omega, by rw [HS.out]; go_num⟩
      case measure => simp [intOf]; omega
    · have hle : ¬ 2 * pw j ≤ p := by rw [← hs]; exact fun k => hlt ((le_log2 p (j + 1) h1).1 k)
      have e : j = Nat.log2 p := by omega
      subst e
      clear hs
      go_wp2
      go_ret
      exact ⟨rfl, rfl⟩
end Go.Proofs.YteodhoekkeelcaaDoor
