/- The program's circle that counts forward stays the model's turned list, turn by turn; and what it tells from the next one on; no condition but that there are at most a million people and the step is at least 1 and at most a million. -/
import Derived.Test.YtalikikafcicpabCount
namespace Go.Proofs.Ytalikikafcicpab
open Go.ChangeShapes Go.WideShapes Go.ChangeAt Go.RowKit

/-- the circle behind r turns of the people l0, told from the one who is next on -/
def Fwd (l0 : List (Int × Int)) (C L cap : Nat) (k : Int) (w : World) (r : Nat) : Prop :=
  ∃ ps i q, Ci w C L cap ps q k ∧ ps.length + r = l0.length ∧ Diff ps ∧ (0 < ps.length → i < ps.length ∧ ps.getD i (0, 0) = q) ∧ rot ps i = lefts k r l0

theorem Fwd.kp {l0 : List (Int × Int)} {C L cap : Nat} {k : Int} (r : Nat) (w w' : World) (S : Nat → Prop) (h : Fwd l0 C L cap k w r) (hk : Kp S w w') (h1 : ¬ S C) (h2 : ¬ S L) : Fwd l0 C L cap k w' r := by
  obtain ⟨ps, i, q, hC, hr⟩ := h
  exact ⟨ps, i, q, hC.kp hk h1 h2, hr⟩

theorem Diff.erase {ps : List (Int × Int)} (h : Diff ps) (j : Nat) : Diff (ps.eraseIdx j) := by
  intro a b hab hb
  by_cases hj : j < ps.length
  · have hl : (ps.eraseIdx j).length = ps.length - 1 := by rw [List.length_eraseIdx, if_pos hj]
    simp only [List.getD, List.getElem?_eraseIdx]
    rw [hl] at hb
    by_cases ha : a < j
    · by_cases hbj : b < j
      · rw [if_pos ha, if_pos hbj]; exact h a b hab (by omega)
      · rw [if_pos ha, if_neg hbj]; exact h a (b + 1) (by omega) (by omega)
    · rw [if_neg ha, if_neg (by omega)]; exact h (a + 1) (b + 1) (by omega) (by omega)
  · rw [List.eraseIdx_of_length_le (by omega)] at hb ⊢
    exact h a b hab hb

theorem outsP_getD (k : Int) : ∀ (t : Nat) (l : List (Int × Int)) (r : Nat), r < t → (outsP k t l).getD r (0, 0) = whoP k (lefts k r l)
  | 0, _, r, h => by omega
  | t + 1, l, 0, _ => rfl
  | t + 1, l, r + 1, h => by
    have := outsP_getD k t (rest k l) r (by omega)
    simpa [outsP, lefts] using this

theorem place_one (k : Int) : place k 1 = 0 := by simp [place, Int.emod_one]

theorem emod_add_place (i n : Nat) (k : Int) (h : 0 < n) : ((((i + place k n) % n : Nat)) : Int) = ((i : Int) + k - 1) % (n : Int) := by
  rw [Int.natCast_emod, Int.natCast_add, place_int k n h, Int.add_emod, Int.emod_emod, ← Int.add_emod]
  congr 1
  omega

theorem fwd_step (l0 : List (Int × Int)) (C L cap : Nat) (k : Int) (k1 : 1 ≤ k) (k2 : k ≤ 1000000) (turns : Nat) (ht : turns ≤ l0.length) (r : Nat) (w : World) (hr : r < turns) (h : Fwd l0 C L cap k w r) :
    Calls Try.prog 53 #[.pointer (some ⟨C, 0, none⟩)] w fun e w' =>
      e = .returned (.agg #[.int .i64 ((outsP k turns l0).getD r (0, 0)).1, .int .i64 ((outsP k turns l0).getD r (0, 0)).2]) ∧ Fwd l0 C L cap k w' (r + 1) ∧ Kp (fun b => b = C ∨ b = L) w w' := by
  obtain ⟨ps, i, q, hC, hn, hd, hi, hrot⟩ := h
  rw [outsP_getD k turns l0 r hr]
  obtain ⟨hi1, hi2⟩ := hi (by omega)
  have hlen : (lefts k r l0).length = ps.length := by rw [← hrot, rot_length]
  have hp := place_lt k ps.length (by omega)
  have hw : whoP k (lefts k r l0) = ps.getD ((i + place k ps.length) % ps.length) (0, 0) := by
    unfold whoP
    rw [hlen, ← hrot, rot_getD ps i _ _ hi1 hp]
  by_cases h1 : ps.length = 1
  · obtain ⟨p, rfl⟩ := List.length_eq_one_iff.1 h1
    have e0 : i = 0 := by simpa using hi1
    subst e0
    have eq : p = q := by simpa using hi2
    subst eq
    have hw' : whoP k (lefts k r l0) = p := by rw [hw]; simp [place_one]
    rw [hw']
    refine (goForward_last C L cap p k w hC k1 k2).mono fun e w' ⟨he, hC', hk⟩ => ⟨he, ⟨[], 0, p, hC', by simp at hn ⊢; omega, fun a b _ h => by simp at h, fun h => by simp at h, ?_⟩, hk⟩
    rw [lefts_succ, ← hrot]
    simp [rot, rest, place_one]
  · obtain ⟨m, hm⟩ : ∃ m, ps.length = m + 1 := ⟨ps.length - 1, by omega⟩
    have hj := emod_add_place i ps.length k (by omega)
    rw [hw]
    refine (goForward_any C L cap i m ((i + place k ps.length) % ps.length) ((i + place k ps.length) % ps.length % m) ps _ q _ k w hC hm (by omega) (by omega) hi2 hd k1 k2 (by rw [hj, hm]; simp) rfl (Int.natCast_emod _ m).symm rfl).mono fun e w' ⟨he, hC', hk⟩ => ⟨he, ⟨_, (i + place k ps.length) % ps.length % m, _, hC', ?_, hd.erase _, fun _ => ⟨?_, rfl⟩, ?_⟩, hk⟩
    · rw [List.length_eraseIdx, if_pos (Nat.mod_lt _ (by omega))]; omega
    · rw [List.length_eraseIdx, if_pos (Nat.mod_lt _ (by omega)), hm]
      exact Nat.mod_lt _ (by omega)
    · rw [lefts_succ, ← hrot, rest_rot k ps i hi1 (by omega)]
      rw [show ps.length - 1 = m by omega]

set_option maxHeartbeats 1600000 in
theorem fromNext_any (C L cap i : Nat) (ps : List (Int × Int)) (q : Int × Int) (k : Int) (W : World) (hC : Ci W C L cap ps q k) (hi : i < ps.length) (hq : ps.getD i (0, 0) = q) (hd : Diff ps) :
    Calls Try.prog 39 #[.pointer (some ⟨C, 0, none⟩)] W (Makes W ((rot ps i).map (·.2))) := by
  obtain ⟨n, hn⟩ : ∃ n, ps.length = n := ⟨_, rfl⟩
  have hb : n ≤ cap ∧ cap ≤ 1000000 := by
    obtain ⟨_, _, _, h1, h2, _⟩ := hC.2
    omega
  obtain ⟨hb1, hb2⟩ := hb
  obtain ⟨c0, c1, c2, c3⟩ := hC.cells
  rw [hn] at c2
  have C2 := Lib.hid c2
  have HC := Lib.hid hC
  have HN := Lib.hid hn
  have HQ := Lib.hid hq
  have HD := Lib.hid hd
  have hi' : i < n := by omega
  have r1 := pcut_to L n cap i (by omega)
  obtain ⟨Ad, had, r2⟩ := pcut_from L n cap i (by omega) (by omega)
  have HA := Lib.hid had
  have i0 : (0 : Int) ≤ i := Int.natCast_nonneg _
  have i1 : (i : Int) ≤ n := by omega
  have i2 : (i : Int) ≤ cap := by omega
  have rdp : Hid (RdP W Ad (ps.drop i) ∧ RdP W ⟨L, 0, none⟩ (ps.take i)) := Lib.hid ⟨by
    intro j hj
    rw [List.length_drop, hn] at hj
    obtain ⟨a0, a1⟩ := hC.2.cell (i + j) (by omega)
    rcases had with rfl | e
    · refine ⟨L, i * 2, rfl, ?_, ?_⟩
      · rw [show i * 2 + j * 2 = (i + j) * 2 by omega, a0]; simp [List.getD]
      · rw [show i * 2 + j * 2 + 1 = (i + j) * 2 + 1 by omega, a1]; simp [List.getD]
    · omega, by
    intro j hj
    rw [List.length_take] at hj
    obtain ⟨a0, a1⟩ := hC.2.cell j (by omega)
    refine ⟨L, 0, rfl, ?_, ?_⟩
    · rw [Nat.zero_add, a0]; simp [List.getD, show j < i by omega]
    · rw [Nat.zero_add, a1]; simp [List.getD, show j < i by omega]⟩
  clear hC hn hq hd had c0 c1 c2 c3
  go_enter Try.func39, Try.ntmps39
  go_wp2_with fail
  refine (next_any C L cap i ps q k _ HC.out hi HQ.out HD.out).mono ?_
  rintro e w1 ⟨rfl, hk1⟩
  have e2 := keepc hk1 C2.out (fun h => h)
  have C2' := Lib.hid e2
  have HK1 := Lib.hid hk1
  have hkW1 := Lib.hid hk1.size
  clear hk1
  go_wp2_with fail
  go_region_held3? (fun w' => Kp Nw W w' ∧ w'.cell? ⟨C, 2, none⟩ = some (.slice (some ⟨L, 0, none⟩) n cap))
    (first
      | exact ⟨HK1.out.drew, C2'.out⟩
      | exact ⟨hkW4, keepc hkW4 C2.out (fun h => h)⟩
      | exact ⟨hkW3, keepc hkW3 C2.out (fun h => h)⟩
      | exact ⟨hkW2, keepc hkW2 C2.out (fun h => h)⟩)
    (first
      | (go_at_call 45
         with_reducible refine (numbersOf_any Ad (cap - i) (n - i) (ps.drop i) _ (rdp.out.1.nw (‹Kp Nw W _ ∧ _›.1)) (by rw [List.length_drop, HN.out]) (by omega)).mono ?_
         rintro e w2 ⟨v2, rfl, hs2, hk2⟩
         have hkW2 := (‹Kp Nw W _ ∧ _›.1).nw hk2)
      | (go_at_call 45
         with_reducible refine (numbersOf_any ⟨L, 0, none⟩ cap i (ps.take i) _ (rdp.out.2.nw (‹Kp Nw W _ ∧ _›.1)) (by rw [List.length_take, HN.out]; omega) (by omega)).mono ?_
         rintro e w3 ⟨v3, rfl, hs3, hk3⟩
         have hkW3 := (‹Kp Nw W _ ∧ _›.1).nw hk3)
      | (refine step_app _ (by rfl) (.tmp 12) (.tmp 19) (by rfl) W.heap.size v2 v3 ((ps.drop i).map (·.2)) ((ps.take i).map (·.2)) (by rfl) (by rfl) ((hs2.below hk3.below').from hkW1.out) hs3.rd hs3.vn (by simp [HN.out]; omega) hkW3.size ?_
         intro v4 w4 hs4 hk4 _
         have hkW4 := hkW3.own ((hs2.below hk3.below').from hkW1.out) hk4))
  have e3 := Lib.hid (show (ps.drop i).map (·.2) ++ (ps.take i).map (·.2) = (rot ps i).map (·.2) by simp [rot])
  have HS4 := Lib.hid hs4
  have HK4 := Lib.hid hkW4
  clear hs4 hkW4 hk4 hs3 hk3 hs2 hk2 hkW3 hkW2
  go_wp2
  go_ret
  exact ⟨v4, rfl, by rw [← e3.out]; exact HS4.out, HK4.out⟩
end Go.Proofs.Ytalikikafcicpab
