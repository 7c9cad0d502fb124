/- Whether a ring is one (IsRing), in the program and in its model; no condition but that the ring's slice is at the head of a row of its own. -/
import Derived.Test.YtcfghaeogbimeacTurn
import Derived.Test.YtcfghaeogbimeacLow
import Derived.Test.YtcfghaeogbimeacRing
import Derived.Deep.OwnRows
import Derived.Outline
namespace Go.Proofs.Ytcfghaeogbimeac
open Go.ChangeShapes Go.WideShapes Go.ChangeAt Go.RowKit

/-- a number that a ring may have -/
def okB (x : Int) : Bool := decide (0 ≤ x ∧ x ≤ 999)
/-- numbers and a step that make a ring -/
structure Good (xs : List Int) (k : Int) : Prop where
  n1 : 1 ≤ xs.length
  n2 : xs.length ≤ 200
  ok : xs.all okB = true
  nd : xs.Nodup
  k1 : 1 ≤ k
  k2 : k ≤ 1000000

set_option maxHeartbeats 400000 in
theorem l1Has_any (v : Value) (xs : List Int) (x : Int) (W : World) (hv : Rd W v xs) (hl : xs.length ≤ 2000000) :
    Calls Try.prog 22 #[v, .int .i64 x] W fun e w' => e = .returned (.bool (decide (x ∈ xs))) ∧ W = w' := by
  obtain ⟨n, hn⟩ : ∃ n, xs.length = n := ⟨_, rfl⟩
  obtain ⟨A, c, rfl, hA⟩ := hv
  rw [hn] at hl ⊢
  have HN := Lib.hid hn
  have HA := Lib.hid hA
  clear hn hA
  go_enter Try.func22, Try.ntmps22
  go_wp2
  go_loop [6, 9] (fun _ i => ∃ j : Nat, j ≤ n ∧ i = .int .i64 j ∧ x ∉ xs.take j) (fun _ i => n - (intOf i).toNat)
  case atStart => exact ⟨0, Nat.zero_le _, rfl, by simp⟩
  case round =>
    obtain ⟨j, hj, rfl, hf⟩ := hrel
    have HF := Lib.hid hf
    clear hf
    by_cases hlt : j < n
    · obtain ⟨g, o, rfl, hc⟩ := HA.out j (by rw [HN.out]; exact hlt)
      have hl' : j < xs.length := by rw [HN.out]; exact hlt
      obtain ⟨y, hy⟩ : ∃ y, xs.getD j 0 = y := ⟨_, rfl⟩
      have hx : xs[j] = y := by rw [← hy]; simp [hl']
      rw [hy] at hc
      have HT : Hid (xs.take (j + 1) = xs.take j ++ [y]) := Lib.hid (by rw [List.take_succ_eq_append_getElem hl', hx])
      have HM : Hid (y ∈ xs) := Lib.hid (by rw [← hx]; exact List.getElem_mem _)
      have h2 : (0 : Int) ≤ j := Int.natCast_nonneg _
      have h3 : (j : Int) < n := by omega
      clear hy hx hl'
      by_cases e : y = x
      · subst e
        go_wp2
        go_ret
        exact ⟨ret_bool (decide_eq_true HM.out).symm, rfl⟩
      · have e' : ¬ x = y := fun h => e h.symm
        go_wp2
        go_round
        case rel => exact ⟨j + 1, by omega, by go_num, by rw [HT.out]; simp [HF.out]; exact e'⟩
        case measure => simp [intOf]; omega
    · have e : j = n := by omega
      subst e
      have HY : Hid (¬ x ∈ xs) := Lib.hid (by have := HF.out; rwa [List.take_of_length_le (by rw [HN.out]; exact Nat.le_refl _)] at this)
      go_wp2
      go_ret
      exact ⟨ret_bool (decide_eq_false HY.out).symm, rfl⟩

theorem rowIs_nw {w w' : World} {b : Nat} {t : TypeId} {n : Nat} {f : Nat → Value} (h : w.rowIs b t n f) (hk : Kp Nw w w') : w'.rowIs b t n f := h.of_block (hk.block b h.lt (fun h => h))

theorem nodup_take {xs : List Int} {j : Nat} (hl : j < xs.length) : (xs.take (j + 1)).Nodup ↔ (xs.take j).Nodup ∧ xs[j] ∉ xs.take j := by
  rw [List.take_succ_eq_append_getElem hl, List.nodup_append]
  constructor
  · rintro ⟨h1, _, h3⟩
    exact ⟨h1, fun hm => h3 _ hm _ (by simp) rfl⟩
  · rintro ⟨h1, h2⟩
    refine ⟨h1, by simp, fun a ha b hb e => ?_⟩
    rw [List.mem_singleton] at hb
    rw [e, hb] at ha
    exact h2 ha
theorem nodup_of_take {xs : List Int} (j : Nat) (h : xs.Nodup) : (xs.take j).Nodup := h.sublist (List.take_sublist _ _)

theorem goodB_of (xs : List Int) (k : Int) (h1 : 1 ≤ xs.length) (h2 : xs.length ≤ 200) (k1 : 1 ≤ k) (k2 : k ≤ 1000000) (ok : xs.all okB = true) (nd : xs.Nodup) : Good xs k := ⟨h1, h2, ok, nd, k1, k2⟩

end Go.Proofs.Ytcfghaeogbimeac
