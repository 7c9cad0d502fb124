/- PeopleOfSolutions in the program, told by plain values; no condition. -/
import Derived.Test.YtcfghaeogbimeacPzE
import Derived.Test.YtcfghaeogbimeacFitg
import Derived.Test.YtcfghaeogbimeacShelf
import Derived.Sort.OwnSortedInts
namespace Go.Proofs.Ytcfghaeogbimeac
open Go.ChangeShapes Go.WideShapes Go.ChangeAt Go.RowKit

open Go.Lib Go.Sort

theorem sl_prefix {w : World} {B g n cap m : Nat} {ts : List Int} (h : w.ownsRow B 3 1 (.slice (some ⟨g, 0, none⟩) n cap) n (ts.map (Value.int .i64))) (hm : m ≤ n) : Sl w B (.slice (some ⟨g, 0, none⟩) m cap) (ts.take m) := by
  have hl : ts.length = n := by have := h.1; simpa using this
  rcases h.2 with ⟨he, _⟩ | ⟨g', cap', cur, he, hB, hb, h1, h2, h3, h4⟩
  · cases he
  · injection he with e1 e2 e3
    injection e1 with e1
    injection e1 with e1
    subst e1 e3
    have hlm : (ts.take m).length = m := by rw [List.length_take]; omega
    refine ⟨by simp, .inr ⟨g, cap, cur, by rw [hlm], hB, hb, by rw [hlm]; omega, h2, h3, ?_⟩⟩
    rw [hlm, List.map_take, ← h4, List.take_take, Nat.mul_one, Nat.mul_one, Nat.min_eq_left hm]
theorem compact_any (A : Option Addr) (n c : Nat) (zs : List Int) (B : Nat) (W : World) (hv : Sl W B (.slice A n c) zs) (hn : zs.length = n) (hl : n ≤ 1000) :
    Calls Try.prog 28 #[.slice A n c] W fun e w' => ∃ c', e = .returned (.slice A (compact zs).length c') ∧ Sl w' B (.slice A (compact zs).length c') (compact zs) ∧ Kp (fun b => (Value.slice A n c).ownBlock = some b) W w' := by
  subst hn
  rcases hv.2 with ⟨he, h⟩ | ⟨g, cap, cur, he, hB, hb, h1, h2, h3, h4⟩
  · injection he with e1 e2 e3
    have hz : zs = [] := List.eq_nil_of_length_eq_zero h
    subst e1 hz
    refine (Try.slices_Compact_int_empty none c W).mono ?_
    rintro e w' ⟨rfl, rfl⟩
    refine ⟨0, by subst e3; rfl, ?_, Kp.refl _ _⟩
    exact Sl.nil _ _
  · injection he with e1 e2 e3
    subst e1 e3
    have hcl : (compact zs).length ≤ zs.length := by
      unfold compact compactUpTo
      rw [List.length_map]
      exact Nat.le_trans (List.length_filter_le _ _) (by simp)
    refine (Try.slices_Compact_int g 0 c zs W (holds_of_blockI hb (by rw [Nat.mul_one] at h4; exact h4)) (by omega) (by omega)).mono ?_
    rintro e w' ⟨rfl, q, rfl⟩
    have eg : putRow (Value.int .i64) (Sort.ahead W q) g 0 (compact zs ++ List.replicate (zs.length - (compact zs).length) 0).toArray = grow (putRow (Value.int .i64) (Sort.ahead W q) g 0 (compact zs ++ List.replicate (zs.length - (compact zs).length) 0).toArray) #[] := by
      unfold grow
      rw [Array.append_empty]
    rw [eg]
    refine ⟨c, rfl, ?_, (Kp.refl _ W).grown (grownBy_sortedI _) (fun g' hg => .inl (by cases hg; rfl))⟩
    have hr := ownsRow_sortedI (n := q) (os := #[]) (ss := zs) (ts := compact zs ++ List.replicate (zs.length - (compact zs).length) 0) (by simp; omega) hB hb h1 h2 h3
    have hp := sl_prefix hr hcl
    rwa [List.take_left' rfl] at hp

theorem pplT_mem (xss : List (List Int)) (x : Int) : ∀ m, x ∈ pplT xss m ↔ ∃ i, i < m ∧ (xss.getD i []).getD 0 0 = x
  | 0 => by simp [pplT]
  | m + 1 => by
    have ih := pplT_mem xss x m
    have key : (∃ i, i < m + 1 ∧ (xss.getD i []).getD 0 0 = x) ↔ (∃ i, i < m ∧ (xss.getD i []).getD 0 0 = x) ∨ (xss.getD m []).getD 0 0 = x := by
      constructor
      · rintro ⟨i, hi, h⟩
        by_cases e : i = m
        · exact .inr (by rw [← e]; exact h)
        · exact .inl ⟨i, by omega, h⟩
      · rintro (⟨i, hi, h⟩ | h)
        · exact ⟨i, by omega, h⟩
        · exact ⟨m, by omega, h⟩
    rw [key, ← ih, pplT]
    split
    · rename_i hin
      constructor
      · exact fun h => .inl h
      · rintro (h | h)
        · exact h
        · rw [← h]; exact hin
    · rw [List.mem_append, List.mem_singleton]
      constructor
      · rintro (h | h)
        · exact .inl h
        · exact .inr h.symm
      · rintro (h | h)
        · exact .inl h
        · exact .inr h.symm
theorem compact_ppl (xss : List (List Int)) (zs : List Int) (hz : ∀ i, i < zs.length → zs.toArray[i]! = (xss.getD i []).getD 0 0) (hs : ∀ i j, i ≤ j → j < zs.length → (xss.getD i []).getD 0 0 ≤ (xss.getD j []).getD 0 0) :
    ∀ m, m ≤ zs.length → compactUpTo zs.toArray m = pplT xss m
  | 0, _ => rfl
  | m + 1, h => by
    rw [compactUpTo_succ, compact_ppl xss zs hz hs m (by omega), pplT, hz m (by omega)]
    by_cases hin : (xss.getD m []).getD 0 0 ∈ pplT xss m
    · rw [if_pos hin]
      obtain ⟨i, hi, he⟩ := (pplT_mem xss _ m).1 hin
      have a := hs i (m - 1) (by omega) (by omega)
      have b := hs (m - 1) m (by omega) (by omega)
      have e : zs.toArray[m]! = zs.toArray[m - 1]! := by rw [hz m (by omega), hz (m - 1) (by omega)]; omega
      rw [keeps_neg (by omega) e]
      simp
    · rw [if_neg hin]
      by_cases h0 : m = 0
      · subst h0
        rw [keeps_lt_one zs.toArray 0 (by omega)]
        simp
      · have e : zs.toArray[m]! ≠ zs.toArray[m - 1]! := by
          rw [hz m (by omega), hz (m - 1) (by omega)]
          exact fun e => hin ((pplT_mem xss _ m).2 ⟨m - 1, by omega, e.symm⟩)
        rw [keeps_pos e]
        simp
theorem solN_head (ps : List Cu) (n : Nat) : ∀ s, ∀ xs ∈ solN ps n s, xs.getD 0 0 = (n : Int)
  | 0, xs, h => by cases h
  | s + 1, xs, h => by
    rw [solN, List.mem_append] at h
    rcases h with h | h
    · exact solN_head ps n s xs h
    · split at h
      · rw [List.mem_singleton] at h
        rw [h]
        rfl
      · cases h
theorem solA_head (ps : List Cu) : ∀ n, (∀ xs ∈ solA ps n, xs.getD 0 0 ≤ (n : Int)) ∧ (solA ps n).Pairwise (fun a b => a.getD 0 0 ≤ b.getD 0 0)
  | 0 => ⟨(fun xs h => by cases h), List.Pairwise.nil⟩
  | n + 1 => by
    obtain ⟨h1, h2⟩ := solA_head ps n
    rw [solA]
    refine ⟨fun xs h => ?_, List.pairwise_append.2 ⟨h2, ?_, fun a ha b hb => ?_⟩⟩
    · rcases List.mem_append.1 h with h | h
      · have := h1 xs h; omega
      · have := solN_head ps (n + 1) 12 xs h; omega
    · refine List.pairwise_iff_getElem.2 (fun i j hi hj _ => ?_)
      rw [solN_head ps (n + 1) 12 _ (List.getElem_mem hi), solN_head ps (n + 1) 12 _ (List.getElem_mem hj)]
      exact Int.le_refl _
    · have a1 := h1 a ha
      have b1 := solN_head ps (n + 1) 12 b hb
      rw [b1]
      omega
end Go.Proofs.Ytcfghaeogbimeac
