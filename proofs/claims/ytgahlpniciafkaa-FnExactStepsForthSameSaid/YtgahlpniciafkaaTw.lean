/- The program's circle in a count that turns stays the model's list, turn by turn; no condition but that there are at most a million people and the steps are at least 1 and at most a million. -/
import Derived.Test.YtgahlpniciafkaaGoT
import Derived.Test.YtgahlpniciafkaaFwd
import Derived.Test.YtgahlpniciafkaaBack
import Derived.Test.YtgahlpniciafkaaBoth
namespace Go.Proofs.Ytgahlpniciafkaa
open Go.ChangeShapes Go.WideShapes Go.ChangeAt Go.RowKit

theorem boL_map {α β : Type} (g : α → β) (f b : Int) (l : List α) : ∀ j, boL f b (l.map g) j = (boL f b l j).map g
  | 0 => rfl
  | j + 1 => by rw [boL, boL, boL_map g f b l j, rest_map, List.map_reverse]

/-- the circle behind j turns of the people l0, told from the one from whom the next turn counts, in the way of that turn -/
def Tw (f b : Int) (l0 : List (Int × Int)) (C L cap : Nat) (k : Int) (w : World) (j : Nat) : Prop :=
  ∃ ps i q, Ci w C L cap ps q k ∧ ps.length + j = l0.length ∧ Diff ps ∧ (0 < ps.length → i < ps.length ∧ ps.getD i (0, 0) = q) ∧ (if j % 2 = 0 then rot ps i else back ps i) = boL f b l0 j

theorem Tw.kp {f b : Int} {l0 : List (Int × Int)} {C L cap : Nat} {k : Int} {j : Nat} {w w' : World} {S : Nat → Prop} (h : Tw f b l0 C L cap k w j) (hk : Kp S w w') (h1 : ¬ S C) (h2 : ¬ S L) : Tw f b l0 C L cap k w' j := by
  obtain ⟨ps, i, q, hC, hr⟩ := h
  exact ⟨ps, i, q, hC.kp hk h1 h2, hr⟩
theorem Tw.start {f b k : Int} {C L n : Nat} {w : World} {xs : List Int} (h : Ci w C L n (num xs) (0, xs.getD 0 0) k) (hp : 0 < xs.length) : Tw f b (num xs) C L n k w 0 :=
  ⟨num xs, 0, _, h, rfl, num_diff xs, fun _ => ⟨by rw [num_length]; exact hp, num_getD xs 0 hp⟩, by simp [rot, boL]⟩
theorem Tw.len {f b : Int} {l0 : List (Int × Int)} {C L cap : Nat} {k : Int} {j : Nat} {w : World} (h : Tw f b l0 C L cap k w j) : ∃ m : Nat, m + j = l0.length ∧ w.cell? ⟨C, 2, none⟩ = some (.slice (some ⟨L, 0, none⟩) m cap) := by
  obtain ⟨ps, i, q, hC, hn, _⟩ := h
  exact ⟨ps.length, hn, hC.cells.2.2.1⟩

/-- the step is told anew -/
theorem Ci.step {w : World} {C L cap : Nat} {ps : List (Int × Int)} {q : Int × Int} {k k' : Int} (h : Ci w C L cap ps q k) : Ci (w.setCell ⟨C, 3, none⟩ (.int .i64 k')) C L cap ps q k' :=
  ⟨Bk.set (C := C) h.1 3 (.int .i64 k'), h.2.other ⟨C, 3, none⟩ (fun e => h.ne e.symm) _⟩
theorem Tw.step {f b : Int} {l0 : List (Int × Int)} {C L cap : Nat} {k k' : Int} {j : Nat} {w : World} (h : Tw f b l0 C L cap k w j) : Tw f b l0 C L cap k' (w.setCell ⟨C, 3, none⟩ (.int .i64 k')) j := by
  obtain ⟨ps, i, q, hC, hr⟩ := h
  exact ⟨ps, i, q, hC.step, hr⟩

/-- who goes at a turn -/
def twW (f b : Int) (l0 : List (Int × Int)) (j : Nat) : Int × Int := whoP (stp f b j) (boL f b l0 j)
theorem boT_twW (f b : Int) (l0 : List (Int × Int)) (j : Nat) : boT f b (l0.map (·.2)) (j + 1) = boT f b (l0.map (·.2)) j ++ [(twW f b l0 j).2] := by
  rw [boT, boL_map, who_map]; rfl

theorem tw_forth (f b : Int) (l0 : List (Int × Int)) (C L cap j : Nat) (k : Int) (w : World) (h : Tw f b l0 C L cap k w j) (hj : j % 2 = 0) (hst : stp f b j = k) (k1 : 1 ≤ k) (k2 : k ≤ 1000000) (hlt : j < l0.length) :
    Calls Try.prog 59 #[.pointer (some ⟨C, 0, none⟩)] w fun e w' =>
      e = .returned (.agg #[.int .i64 (twW f b l0 j).1, .int .i64 (twW f b l0 j).2]) ∧ Tw f b l0 C L cap k w' (j + 1) ∧ Kp (fun b => b = C ∨ b = L) w w' := by
  obtain ⟨ps, i, q, hC, hn, hd, hi, hrot⟩ := h
  rw [if_pos hj] at hrot
  obtain ⟨hi1, hi2⟩ := hi (by omega)
  have hlen : (boL f b l0 j).length = ps.length := by rw [← hrot, rot_length]
  have hp := place_lt k ps.length (by omega)
  have hw : twW f b l0 j = ps.getD ((i + place k ps.length) % ps.length) (0, 0) := by
    unfold twW whoP
    rw [hst, hlen, ← hrot, rot_getD ps i _ _ hi1 hp]
  by_cases h1 : ps.length = 1
  · obtain ⟨p, rfl⟩ := List.length_eq_one_iff.1 h1
    have e0 : i = 0 := by simpa using hi1
    subst e0
    have eq : p = q := by simpa using hi2
    subst eq
    have hw' : twW f b l0 j = p := by rw [hw]; simp [place_one]
    rw [hw']
    refine (turnBack_last C L cap p k w hC k1 k2).mono fun e w' ⟨he, hC', hk⟩ => ⟨he, ⟨[], 0, p, hC', by simp at hn ⊢; omega, fun a b _ h => by simp at h, fun h => by simp at h, ?_⟩, hk⟩
    rw [if_neg (by omega), boL, ← hrot, hst]
    simp [back, rot, rest, place_one]
  · obtain ⟨m, hm⟩ : ∃ m, ps.length = m + 1 := ⟨ps.length - 1, by omega⟩
    have hJ := emod_add_place i ps.length k (by omega)
    rw [hw]
    obtain ⟨j', hj1, hj2, hj3⟩ := next_back ((i + place k ps.length) % ps.length) m (by omega)
    refine (turnBack_any C L cap i m ((i + place k ps.length) % ps.length) j' ps _ q _ k w hC hm (by omega) (by omega) hi2 hd k1 k2 (by rw [hJ, hm]; simp) rfl hj1 rfl).mono fun e w' ⟨he, hC', hk⟩ => ⟨he, ⟨_, j', _, hC', ?_, hd.erase _, fun _ => ⟨?_, rfl⟩, ?_⟩, hk⟩
    · rw [List.length_eraseIdx, if_pos (Nat.mod_lt _ (by omega))]; omega
    · rw [List.length_eraseIdx, if_pos (Nat.mod_lt _ (by omega)), hm]
      exact hj2
    · rw [if_neg (by omega), boL, ← hrot, hst, rest_rot k ps i hi1 (by omega)]
      unfold back
      rw [List.length_eraseIdx, if_pos (Nat.mod_lt _ (by omega)), show ps.length - 1 = m by omega, hj3]

theorem tw_back (f b : Int) (l0 : List (Int × Int)) (C L cap j : Nat) (k : Int) (w : World) (h : Tw f b l0 C L cap k w j) (hj : j % 2 = 1) (hst : stp f b j = k) (k1 : 1 ≤ k) (k2 : k ≤ 1000000) (hlt : j < l0.length) :
    Calls Try.prog 60 #[.pointer (some ⟨C, 0, none⟩)] w fun e w' =>
      e = .returned (.agg #[.int .i64 (twW f b l0 j).1, .int .i64 (twW f b l0 j).2]) ∧ Tw f b l0 C L cap k w' (j + 1) ∧ Kp (fun b => b = C ∨ b = L) w w' := by
  obtain ⟨ps, i, q, hC, hn, hd, hi, hrot⟩ := h
  rw [if_neg (by omega)] at hrot
  obtain ⟨hi1, hi2⟩ := hi (by omega)
  have hlen : (boL f b l0 j).length = ps.length := by rw [← hrot, back_length]
  have hp := place_lt k ps.length (by omega)
  have hw : twW f b l0 j = ps.getD ((i + ps.length - place k ps.length) % ps.length) (0, 0) := by
    unfold twW whoP
    rw [hst, hlen, ← hrot, back_getD ps i _ _ hi1 hp]
  by_cases h1 : ps.length = 1
  · obtain ⟨p, rfl⟩ := List.length_eq_one_iff.1 h1
    have e0 : i = 0 := by simpa using hi1
    subst e0
    have eq : p = q := by simpa using hi2
    subst eq
    have hw' : twW f b l0 j = p := by rw [hw]; simp [place_one]
    rw [hw']
    refine (turnForth_last C L cap p k w hC k1 k2).mono fun e w' ⟨he, hC', hk⟩ => ⟨he, ⟨[], 0, p, hC', by simp at hn ⊢; omega, fun a b _ h => by simp at h, fun h => by simp at h, ?_⟩, hk⟩
    rw [if_pos (by omega), boL, ← hrot, hst]
    simp [back, rot, rest, place_one]
  · obtain ⟨m, hm⟩ : ∃ m, ps.length = m + 1 := ⟨ps.length - 1, by omega⟩
    have hJ := emod_sub_place i ps.length k hi1
    rw [hw]
    refine (turnForth_any C L cap i m ((i + ps.length - place k ps.length) % ps.length) ((i + ps.length - place k ps.length) % ps.length % m) ps _ q _ k w hC hm (by omega) (by omega) hi2 hd k1 k2 (by rw [hJ, hm]; simp) rfl (Int.natCast_emod _ m).symm rfl).mono fun e w' ⟨he, hC', hk⟩ => ⟨he, ⟨_, (i + ps.length - place k ps.length) % ps.length % m, _, hC', ?_, hd.erase _, fun _ => ⟨?_, rfl⟩, ?_⟩, hk⟩
    · rw [List.length_eraseIdx, if_pos (Nat.mod_lt _ (by omega))]; omega
    · rw [List.length_eraseIdx, if_pos (Nat.mod_lt _ (by omega)), hm]
      exact Nat.mod_lt _ (by omega)
    · rw [if_pos (by omega), boL, ← hrot, hst, rest_back k ps i hi1 (by omega), List.reverse_reverse]
      rw [show ps.length - 1 = m by omega]
end Go.Proofs.Ytgahlpniciafkaa
