/- Lists in lexicographic order, sorted in one way alone; mathematics but for the names. -/
import Derived.Test.YtpdnliljpjoejaaLaws7
namespace Go.Proofs.Ytpdnliljpjoejaa
open Go.ChangeShapes Go.WideShapes Go.ChangeAt Go.RowKit

/-- -1, 0 or 1: how two lists of so many stand to each other from an index on -/
def cmN (xs ys : List Int) : Nat → Nat → Int
  | 0, _ => 0
  | k + 1, j => if xs.getD j 0 < ys.getD j 0 then -1 else if ys.getD j 0 < xs.getD j 0 then 1 else cmN xs ys k (j + 1)
theorem cmN_self (xs : List Int) : ∀ k j, cmN xs xs k j = 0
  | 0, _ => rfl
  | k + 1, j => by rw [cmN, if_neg (by omega), if_neg (by omega), cmN_self xs k]
theorem cmN_trans (xs ys zs : List Int) : ∀ k j, cmN xs ys k j < 0 → cmN ys zs k j < 0 → cmN xs zs k j < 0
  | 0, _, h, _ => h
  | k + 1, j, h1, h2 => by
    have ih := cmN_trans xs ys zs k (j + 1)
    unfold cmN at h1 h2 ⊢
    generalize xs.getD j 0 = x at *
    generalize ys.getD j 0 = y at *
    generalize zs.getD j 0 = z at *
    split at h1
    · split at h2
      · rw [if_pos (by omega)]; omega
      · split at h2
        · omega
        · rw [if_pos (by omega)]; omega
    · split at h1
      · omega
      · split at h2
        · rw [if_pos (by omega)]; omega
        · split at h2
          · omega
          · rw [if_neg (by omega), if_neg (by omega)]; exact ih h1 h2
theorem cmN_ntrans (xs ys zs : List Int) : ∀ k j, ¬ cmN xs ys k j < 0 → ¬ cmN ys zs k j < 0 → ¬ cmN xs zs k j < 0
  | 0, _, h, _ => h
  | k + 1, j, h1, h2 => by
    have ih := cmN_ntrans xs ys zs k (j + 1)
    unfold cmN at h1 h2 ⊢
    generalize xs.getD j 0 = x at *
    generalize ys.getD j 0 = y at *
    generalize zs.getD j 0 = z at *
    split at h1
    · omega
    · split at h2
      · omega
      · split at h1
        · split at h2
          · rw [if_neg (by omega), if_pos (by omega)]; omega
          · rw [if_neg (by omega), if_pos (by omega)]; omega
        · split at h2
          · rw [if_neg (by omega), if_pos (by omega)]; omega
          · rw [if_neg (by omega), if_neg (by omega)]; exact ih h1 h2
theorem cmN_bef (xs ys : List Int) : ∀ k j, decide (cmN xs ys k j < 0) = befN xs ys k j
  | 0, _ => rfl
  | k + 1, j => by
    have ih := cmN_bef xs ys k (j + 1)
    unfold cmN befN
    generalize xs.getD j 0 = x at *
    generalize ys.getD j 0 = y at *
    by_cases h1 : x < y
    · rw [if_pos h1, if_neg (by omega), decide_eq_true h1]; rfl
    · rw [if_neg h1]
      by_cases h2 : y < x
      · rw [if_pos h2, if_neg (by omega), decide_eq_false h1]; rfl
      · rw [if_neg h2, if_pos (by omega)]; exact ih
theorem befN_eq (xs ys : List Int) : ∀ k j, befN xs ys k j = false → befN ys xs k j = false → ∀ i, j ≤ i → i < j + k → xs.getD i 0 = ys.getD i 0
  | 0, j, _, _, i, h1, h2 => by omega
  | k + 1, j, h1, h2, i, h3, h4 => by
    unfold befN at h1 h2
    by_cases e : xs.getD j 0 = ys.getD j 0
    · rw [if_pos e] at h1
      rw [if_pos e.symm] at h2
      by_cases e2 : i = j
      · rw [e2]; exact e
      · exact befN_eq xs ys k (j + 1) h1 h2 i (by omega) (by omega)
    · rw [if_neg e] at h1
      rw [if_neg (fun e2 => e e2.symm)] at h2
      rw [decide_eq_false_iff_not] at h1 h2
      omega
theorem bef_anti {n : Nat} {xs ys : List Int} (hx : xs.length = n) (hy : ys.length = n) (h1 : bef xs ys = false) (h2 : bef ys xs = false) : xs = ys := by
  unfold bef at h1 h2
  rw [hx] at h1
  rw [hy] at h2
  have h := befN_eq xs ys n 0 h1 h2
  apply List.ext_getElem (by rw [hx, hy])
  intro i i1 i2
  have := h i (by omega) (by omega)
  simpa [List.getD, i1, i2] using this
/-- the orders of the first so many steps, in the order of the steps -/
def outsK (n k : Nat) : List (List Int) := (List.range k).map fun i : Nat => outs ((i : Int) + 1) n (marks 0 n)
theorem outsK_len (n k : Nat) : (outsK n k).length = k := by simp [outsK]
theorem outsK_succ (n k : Nat) : outsK n (k + 1) = outsK n k ++ [outs ((k : Int) + 1) n (marks 0 n)] := by simp [outsK, List.range_succ]
theorem outsK_each (n k : Nat) : ∀ c ∈ outsK n k, c.length = n := fun c hc => by
  obtain ⟨i, _, rfl⟩ := List.mem_map.1 hc
  exact outs_length _ _ _
theorem insAt_perm (xss : List (List Int)) (o : List Int) : (insAt xss o).Perm (xss ++ [o]) := by
  unfold insAt
  have h : (xss.take (posL o xss) ++ [o] ++ xss.drop (posL o xss)).Perm (xss.take (posL o xss) ++ xss.drop (posL o xss) ++ [o]) := by
    rw [List.append_assoc, List.append_assoc]
    exact List.Perm.append_left _ List.perm_append_comm
  rw [List.take_append_drop] at h
  exact h
theorem allK_perm (n : Nat) : ∀ k, (allK n k).Perm (outsK n k)
  | 0 => List.Perm.refl _
  | k + 1 => by
    rw [allK, outsK_succ]
    exact (insAt_perm _ _).trans ((allK_perm n k).append_right _)
set_option maxRecDepth 1000000 in
theorem all_sorted : ∀ n : Fin 6, (allK n (perT n)).Pairwise (fun a b => bef b a = false) := by decide +kernel
theorem all_is (n : Nat) (n2 : n ≤ 5) (L : List (List Int)) (hp : L.Perm (outsK n (perT n))) (hs : L.Pairwise (fun a b => bef b a = false)) : L = allK n (perT n) := by
  have h1 := all_sorted ⟨n, by omega⟩
  have hle : ∀ c ∈ L, c.length = n := fun c hc => outsK_each n _ c (hp.mem_iff.1 hc)
  have hle2 : ∀ c ∈ allK n (perT n), c.length = n := fun c hc => outsK_each n _ c ((allK_perm n _).mem_iff.1 hc)
  refine List.Perm.eq_of_pairwise (le := fun a b => bef b a = false) (fun a b ha hb h3 h4 => ?_) hs h1 (hp.trans (allK_perm n _).symm)
  exact (bef_anti (hle2 b hb) (hle a ha) h3 h4).symm
end Go.Proofs.Ytpdnliljpjoejaa
