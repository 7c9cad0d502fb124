/- Marking a slice of the call's own with k, k + 1, .. and finding the marks again, and comparing unequal flags: the laws' own helpers; no condition but that the numbers fit. -/
import Derived.Test.YtcekobdnghllcaaInts
namespace Go.Proofs.Ytcekobdnghllcaa
open Go.ChangeShapes Go.WideShapes Go.ChangeAt Go.RowKit

/-- k, k + 1, .., n of them -/
def marks (k : Int) (n : Nat) : List Int := (List.range n).map fun i : Nat => k + (i : Int)
theorem marks_length (k : Int) (n : Nat) : (marks k n).length = n := by simp [marks]
theorem marks_getD (k : Int) (n j : Nat) (h : j < n) : (marks k n).getD j 0 = k + j := by simp [marks, h]
theorem marks_step (k : Int) (xs : List Int) (j : Nat) (h : j < xs.length) : (marks k j ++ xs.drop j).set j (k + j) = marks k (j + 1) ++ xs.drop (j + 1) := by
  have e : xs.drop j = xs[j] :: xs.drop (j + 1) := List.drop_eq_getElem_cons h
  rw [e, List.set_append_right _ _ (by rw [marks_length]; exact Nat.le_refl _), marks_length, Nat.sub_self, List.set_cons_zero]
  simp [marks, List.range_succ]

theorem Sl.form {w : World} {B : Nat} {v : Value} {xs : List Int} (h : Sl w B v xs) :
    (v = .slice none 0 0 ∧ xs = []) ∨ ∃ g cap, v = .slice (some ⟨g, 0, none⟩) xs.length cap ∧ B ≤ g ∧ g < w.heap.size := by
  rcases h.2 with ⟨rfl, hn⟩ | ⟨g, cap, cur, rfl, hb, hg, _⟩
  · exact .inl ⟨rfl, List.eq_nil_of_length_eq_zero hn⟩
  · exact .inr ⟨g, cap, rfl, hb, (Array.getElem?_eq_some_iff.1 hg).1⟩

/-- the row at an address and a capacity that are known -/
def SlAt (w : World) (B g cap n : Nat) (xs : List Int) : Prop := xs.length = n ∧ w.ownsRow B 3 1 (.slice (some ⟨g, 0, none⟩) n cap) n (xs.map (Value.int .i64))

theorem SlAt.cell {w : World} {B g cap n : Nat} {xs : List Int} (h : SlAt w B g cap n xs) (j : Nat) (hj : j < n) : w.cell? ⟨g, j, none⟩ = some (.int .i64 (xs.getD j 0)) := by
  have hl : j < xs.length := by rw [h.1]; exact hj
  rw [World.ownsRow.cellAt h.2 j (by omega)]
  simp [List.getElem?_eq_getElem hl]
theorem SlAt.frozen {w : World} {B g cap n : Nat} {xs : List Int} (h : SlAt w B g cap n xs) (j : Nat) : w.frozen? ⟨g, j, none⟩ = false := World.ownsRow.frozenAt h.2 j
theorem SlAt.store {w : World} {B g cap n : Nat} {xs : List Int} (h : SlAt w B g cap n xs) (j : Nat) (u : Int) : SlAt (w.setCell ⟨g, j, none⟩ (.int .i64 u)) B g cap n (xs.set j u) :=
  ⟨by rw [List.length_set]; exact h.1, by rw [List.map_set]; exact (World.ownsRow.stored h.2 j (.int .i64 u)).1⟩
theorem SlAt.sl {w : World} {B g cap n : Nat} {xs : List Int} (h : SlAt w B g cap n xs) : Sl w B (.slice (some ⟨g, 0, none⟩) n cap) xs := by
  obtain ⟨rfl, h2⟩ := h
  exact h2
theorem SlAt.drewN {w : World} {B g cap n : Nat} {xs : List Int} (h : SlAt w B g cap n xs) (k : Nat) : SlAt (w.drewN k) B g cap n xs := h

set_option maxHeartbeats 400000 in
theorem markIntS_any (v : Value) (xs : List Int) (k : Int) (w : World) (B : Nat) (hv : Sl w B v xs) (h0 : 0 ≤ k) (h1 : k ≤ 1000000000) (hl : xs.length ≤ 1000000000) :
    Calls Try.prog 30 #[v, .int .i64 k] w fun e w' => e = .returned (.int .i64 (k + xs.length)) ∧ Sl w' B v (marks k xs.length) ∧ Kp (fun g => v.ownBlock = some g) w w' := by
  rcases hv.form with ⟨rfl, rfl⟩ | ⟨g, cap, rfl, hB, hg⟩
  · go_enter Try.func30, Try.ntmps30
    go_wp2
    refine wp_loop_rounds 1 ?_
    rw [rounds_succ]
    go_wp2
    go_ret
    exact ⟨ret_int' (by simp), by simpa [marks] using Sl.nil w B, Kp.refl _ _⟩
  · have hv2 : SlAt w B g cap xs.length xs := ⟨rfl, hv⟩
    clear hv
    go_enter Try.func30, Try.ntmps30
    go_wp2
    go_loopw [1, 5] (fun kk i wr => ∃ j : Nat, j ≤ xs.length ∧ i = .int .i64 j ∧ kk = .int .i64 (k + j) ∧ SlAt wr B g cap xs.length (marks k j ++ xs.drop j) ∧ Kp (fun b => b = g) w wr) (fun _ i _ => xs.length - (intOf i).toNat)
    case atStart => exact ⟨0, Nat.zero_le _, rfl, by simp, by simpa [marks] using hv2, Kp.refl _ _⟩
    case round =>
      obtain ⟨j, hj, rfl, rfl, hs, hk⟩ := hrel
      by_cases hlt : j < xs.length
      · have c := hs.cell j hlt
        have f := hs.frozen j
        have HS := Lib.hid hs
        have h2 : (0 : Int) ≤ j := Int.natCast_nonneg _
        have h3 : (j : Int) < xs.length := by omega
        clear hs
        go_wp2
        go_roundw
        case rel => exact ⟨j + 1, by omega, by go_num, by go_num, by rw [← marks_step k xs j hlt]; exact HS.out.store j _, hk.setCell (.inl rfl) _⟩
        case measure => simp [intOf]; omega
      · have e : j = xs.length := by omega
        have hs' := Lib.hid hs
        clear hs
        go_wp2
        go_ret
        refine ⟨ret_int' (by rw [e]), ?_, hk.mono (fun b _ hb => by rw [hb]; rfl)⟩
        have := hs'.out
        rw [e, List.drop_length, List.append_nil] at this
        exact this.sl

theorem heldIntS_any (v : Value) (k : Int) (n : Nat) (w : World) (hv : Rd w v (marks k n)) (h0 : 0 ≤ k) (h1 : k ≤ 1000000000) (hl : n ≤ 1000000000) :
    Calls Try.prog 31 #[v, .int .i64 k] w fun e w' => e = .returned (.int .i64 (k + n)) ∧ w = w' := by
  obtain ⟨A, c, rfl, hA⟩ := hv
  rw [marks_length] at hA ⊢
  have HA := Lib.hid hA
  clear hA
  go_enter Try.func31, Try.ntmps31
  go_wp2
  go_loop [1, 5] (fun kk i => ∃ j : Nat, j ≤ n ∧ i = .int .i64 j ∧ kk = .int .i64 (k + j)) (fun _ i => n - (intOf i).toNat)
  case atStart => exact ⟨0, Nat.zero_le _, rfl, by simp⟩
  case round =>
    obtain ⟨j, hj, rfl, rfl⟩ := hrel
    by_cases hlt : j < n
    · obtain ⟨g, o, rfl, hc⟩ := HA.out j hlt
      rw [marks_getD k n j hlt] at hc
      have h2 : (0 : Int) ≤ j := Int.natCast_nonneg _
      have h3 : (j : Int) < n := by omega
      go_wp2
      go_round
      case rel => exact ⟨j + 1, by omega, by go_num, by go_num⟩
      case measure => simp [intOf]; omega
    · have e : j = n := by omega
      subst e
      go_wp2
      go_ret
      exact ⟨rfl, rfl⟩
end Go.Proofs.Ytcekobdnghllcaa
