/- The program's circle that counts forward stays the model's turned list, turn by turn; and what it tells from the next one on; no condition but that there are at most a million people and the step is at least 1 and at most a million. -/
import Derived.Test.YtcfghaeogbimeaeCount
namespace Go.Proofs.Ytcfghaeogbimeae
open Go.ChangeShapes Go.WideShapes Go.ChangeAt Go.RowKit

/-- the circle behind r turns of the people l0, told from the one who is next on -/
def Fwd (l0 : List (Int × Int)) (C L cap : Nat) (k : Int) (w : World) (r : Nat) : Prop :=
  ∃ ps i q, Ci w C L cap ps q k ∧ ps.length + r = l0.length ∧ Diff ps ∧ (0 < ps.length → i < ps.length ∧ ps.getD i (0, 0) = q) ∧ rot ps i = lefts k r l0

theorem Fwd.kp {l0 : List (Int × Int)} {C L cap : Nat} {k : Int} (r : Nat) (w w' : World) (S : Nat → Prop) (h : Fwd l0 C L cap k w r) (hk : Kp S w w') (h1 : ¬ S C) (h2 : ¬ S L) : Fwd l0 C L cap k w' r := by
  obtain ⟨ps, i, q, hC, hr⟩ := h
  exact ⟨ps, i, q, hC.kp hk h1 h2, hr⟩

theorem Diff.erase {ps : List (Int × Int)} (h : Diff ps) (j : Nat) : Diff (ps.eraseIdx j) := by
  intro a b hab hb
  by_cases hj : j < ps.length
  · have hl : (ps.eraseIdx j).length = ps.length - 1 := by rw [List.length_eraseIdx, if_pos hj]
    simp only [List.getD, List.getElem?_eraseIdx]
    rw [hl] at hb
    by_cases ha : a < j
    · by_cases hbj : b < j
      · rw [if_pos ha, if_pos hbj]; exact h a b hab (by omega)
      · rw [if_pos ha, if_neg hbj]; exact h a (b + 1) (by omega) (by omega)
    · rw [if_neg ha, if_neg (by omega)]; exact h (a + 1) (b + 1) (by omega) (by omega)
  · rw [List.eraseIdx_of_length_le (by omega)] at hb ⊢
    exact h a b hab hb

theorem outsP_getD (k : Int) : ∀ (t : Nat) (l : List (Int × Int)) (r : Nat), r < t → (outsP k t l).getD r (0, 0) = whoP k (lefts k r l)
  | 0, _, r, h => by omega
  | t + 1, l, 0, _ => rfl
  | t + 1, l, r + 1, h => by
    have := outsP_getD k t (rest k l) r (by omega)
    simpa [outsP, lefts] using this

theorem place_one (k : Int) : place k 1 = 0 := by simp [place, Int.emod_one]

theorem emod_add_place (i n : Nat) (k : Int) (h : 0 < n) : ((((i + place k n) % n : Nat)) : Int) = ((i : Int) + k - 1) % (n : Int) := by
  rw [Int.natCast_emod, Int.natCast_add, place_int k n h, Int.add_emod, Int.emod_emod, ← Int.add_emod]
  congr 1
  omega

theorem fwd_step (l0 : List (Int × Int)) (C L cap : Nat) (k : Int) (k1 : 1 ≤ k) (k2 : k ≤ 1000000) (turns : Nat) (ht : turns ≤ l0.length) (r : Nat) (w : World) (hr : r < turns) (h : Fwd l0 C L cap k w r) :
    Calls Try.prog 65 #[.pointer (some ⟨C, 0, none⟩)] w fun e w' =>
      e = .returned (.agg #[.int .i64 ((outsP k turns l0).getD r (0, 0)).1, .int .i64 ((outsP k turns l0).getD r (0, 0)).2]) ∧ Fwd l0 C L cap k w' (r + 1) ∧ Kp (fun b => b = C ∨ b = L) w w' := by
  obtain ⟨ps, i, q, hC, hn, hd, hi, hrot⟩ := h
  rw [outsP_getD k turns l0 r hr]
  obtain ⟨hi1, hi2⟩ := hi (by omega)
  have hlen : (lefts k r l0).length = ps.length := by rw [← hrot, rot_length]
  have hp := place_lt k ps.length (by omega)
  have hw : whoP k (lefts k r l0) = ps.getD ((i + place k ps.length) % ps.length) (0, 0) := by
    unfold whoP
    rw [hlen, ← hrot, rot_getD ps i _ _ hi1 hp]
  by_cases h1 : ps.length = 1
  · obtain ⟨p, rfl⟩ := List.length_eq_one_iff.1 h1
    have e0 : i = 0 := by simpa using hi1
    subst e0
    have eq : p = q := by simpa using hi2
    subst eq
    have hw' : whoP k (lefts k r l0) = p := by rw [hw]; simp [place_one]
    rw [hw']
    refine (goForward_last C L cap p k w hC k1 k2).mono fun e w' ⟨he, hC', hk⟩ => ⟨he, ⟨[], 0, p, hC', by simp at hn ⊢; omega, fun a b _ h => by simp at h, fun h => by simp at h, ?_⟩, hk⟩
    rw [lefts_succ, ← hrot]
    simp [rot, rest, place_one]
  · obtain ⟨m, hm⟩ : ∃ m, ps.length = m + 1 := ⟨ps.length - 1, by omega⟩
    have hj := emod_add_place i ps.length k (by omega)
    rw [hw]
    refine (goForward_any C L cap i m ((i + place k ps.length) % ps.length) ((i + place k ps.length) % ps.length % m) ps _ q _ k w hC hm (by omega) (by omega) hi2 hd k1 k2 (by rw [hj, hm]; simp) rfl (Int.natCast_emod _ m).symm rfl).mono fun e w' ⟨he, hC', hk⟩ => ⟨he, ⟨_, (i + place k ps.length) % ps.length % m, _, hC', ?_, hd.erase _, fun _ => ⟨?_, rfl⟩, ?_⟩, hk⟩
    · rw [List.length_eraseIdx, if_pos (Nat.mod_lt _ (by omega))]; omega
    · rw [List.length_eraseIdx, if_pos (Nat.mod_lt _ (by omega)), hm]
      exact Nat.mod_lt _ (by omega)
    · rw [lefts_succ, ← hrot, rest_rot k ps i hi1 (by omega)]
      rw [show ps.length - 1 = m by omega]

end Go.Proofs.Ytcfghaeogbimeae
