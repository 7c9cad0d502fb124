/- What is told of rounds of two, plainly; no condition. -/
import Derived.Test.YtjlbillfbhkamaaTwoI
namespace Go.Proofs.Ytjlbillfbhkamaa

/-- the rounds when two count -/
def rsN (n : Nat) (f b : Int) : List (Int × Int) := rnds f b n (marks 0 n) 0 0
theorem rsN_len (n : Nat) (f b : Int) : (rsN n f b).length ≤ n := rnds_len f b n (marks 0 n) 0 0
theorem rsN_pos (n : Nat) (f b : Int) (h : 1 ≤ n) : 0 < (rsN n f b).length := by
  unfold rsN
  obtain ⟨t, rfl⟩ : ∃ t, n = t + 1 := ⟨n - 1, by omega⟩
  rw [rnds, if_neg (by rw [marks_length]; omega), List.length_cons]
  omega
/-- the one round after the other -/
def rsA (n : Nat) (f b : Int) (j : Nat) : Int × Int := (rsN n f b).getD j (0, 0)
/-- whom both choose -/
def metL (rs : List (Int × Int)) : List Int := (rs.filter (fun r => decide (r.1 = r.2))).map (·.1)
theorem metL_le (rs : List (Int × Int)) : (metL rs).length ≤ rs.length := by unfold metL; rw [List.length_map]; exact List.length_filter_le _ _
theorem metL_take (rs : List (Int × Int)) (k : Nat) (h : k < rs.length) : metL (rs.take (k + 1)) = metL (rs.take k) ++ (if (rs.getD k (0, 0)).1 = (rs.getD k (0, 0)).2 then [(rs.getD k (0, 0)).1] else []) := by
  unfold metL
  have e : rs[k]? = some (rs.getD k (0, 0)) := by simp [h]
  rw [List.take_add_one, e, List.filter_append, List.map_append]
  congr 1
  generalize rs.getD k (0, 0) = r
  by_cases c : r.1 = r.2
  · rw [if_pos c]
    simp [c]
  · rw [if_neg c]
    simp [c]
theorem metL_mem (rs : List (Int × Int)) (u : Int) : u ∈ metL rs ↔ (u, u) ∈ rs := by
  unfold metL
  rw [List.mem_map]
  constructor
  · rintro ⟨⟨a, c⟩, h, rfl⟩
    rw [List.mem_filter] at h
    obtain ⟨h1, h2⟩ := h
    have h3 : a = c := of_decide_eq_true h2
    subst h3
    exact h1
  · intro h
    exact ⟨(u, u), List.mem_filter.2 ⟨h, decide_eq_true rfl⟩, rfl⟩
theorem peo_take (rs : List (Int × Int)) (k : Nat) (h : k < rs.length) : (rs.take (k + 1)).map peo = (rs.take k).map peo ++ [peo (rs.getD k (0, 0))] := by
  rw [List.take_add_one, List.map_append]
  simp [h]
theorem peo_getD (rs : List (Int × Int)) (k : Nat) (h : k < rs.length) : (rs.map peo).getD k [] = peo (rs.getD k (0, 0)) := by simp [List.getD, h]
theorem peo_len (r : Int × Int) : (peo r).length ≤ 2 := by unfold peo; split <;> simp
/-- the first round in which one goes -/
theorem first_any (n : Nat) (f b u : Int) (h0 : 0 ≤ u) (h1 : u < n) : ∃ i, FirstC u (rsN n f b) i := by
  have hm : u ∈ marks 0 n := by
    unfold marks
    rw [List.mem_map]
    exact ⟨u.toNat, by simp; omega, by omega⟩
  obtain ⟨r, hr, hru⟩ := rnds_mem f b n (marks 0 n) 0 0 (marks_inc n) (by rw [marks_length]; exact Nat.le_refl _) u hm
  have hr' : r ∈ rsN n f b := hr
  obtain ⟨k, hk, hkr⟩ := List.getElem_of_mem hr'
  have hgd : (rsN n f b).getD k (0, 0) = r := by simp [List.getD, hk, hkr]
  have hh : hasC u ((rsN n f b).getD k (0, 0)) = true := by
    rw [hgd]; unfold hasC
    rcases hru with e | e <;> simp [e]
  clear hm hr hr' hkr hgd hru
  induction k using Nat.strongRecOn with
  | _ k ih =>
    by_cases c : ∃ j, j < k ∧ hasC u ((rsN n f b).getD j (0, 0)) = true
    · obtain ⟨j, hj, hjh⟩ := c
      exact ih j hj (by omega) hjh
    · exact ⟨k, hk, hh, fun j hj => by
        cases e : hasC u ((rsN n f b).getD j (0, 0))
        · rfl
        · exact absurd ⟨j, hj, e⟩ c⟩
theorem hasC_peo (u : Int) (r : Int × Int) : (peo r).contains u = hasC u r := by
  unfold peo hasC
  obtain ⟨a, c⟩ := r
  by_cases h : a = c
  · subst h
    rw [if_pos rfl, Bool.eq_iff_iff, List.contains_iff_mem]
    simp only [List.mem_cons, List.not_mem_nil, or_false, Bool.or_eq_true, decide_eq_true_eq]
    omega
  · rw [if_neg h, Bool.eq_iff_iff, List.contains_iff_mem]
    simp only [List.mem_cons, List.not_mem_nil, or_false, Bool.or_eq_true, decide_eq_true_eq]
    omega
/-- is one met -/
def metB (n : Nat) (u f b : Int) : Bool := decide ((u, u) ∈ rsN n f b)
def scB (P : Nat → Bool) : Nat → Nat → Option Nat
  | 0, _ => none
  | k + 1, b => if P b = true then some b else scB P k (b + 1)
def scF (Q : Nat → Option Nat) : Nat → Nat → Option (Nat × Nat)
  | 0, _ => none
  | k + 1, f => match Q f with
    | some b => some (f, b)
    | none => scF Q k (f + 1)
def meetO : Option (Nat × Nat) → Int × Int × Bool
  | some (f, b) => ((f : Int), (b : Int), true)
  | none => (0, 0, false)
def meetV (n : Nat) (u : Int) : Int × Int × Bool := meetO (scF (fun f : Nat => scB (fun b : Nat => metB n u (f : Int) (b : Int)) n 1) n 1)
end Go.Proofs.Ytjlbillfbhkamaa
