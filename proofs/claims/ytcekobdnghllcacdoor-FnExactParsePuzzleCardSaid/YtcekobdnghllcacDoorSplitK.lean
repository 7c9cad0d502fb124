/- The library's split of a text at a byte into so many pieces at most, against the whole split (sp). No program in it; no condition. -/
import Derived.Test.YtcekobdnghllcacDoorSplit
import Derived.Lib.Split
import Derived.Lib.IndexLaws
namespace Go.Proofs.YtcekobdnghllcacDoor

theorem sp_none (b : UInt8) : ∀ (l cur : List UInt8), (∀ k : Nat, l[k]? ≠ some b) → sp b cur l = [cur ++ l]
  | [], cur, _ => by simp [sp]
  | c :: r, cur, h => by
    have hc : c ≠ b := by intro e; exact h 0 (by simp [e])
    rw [sp, if_neg hc, sp_none b r (cur ++ [c]) (fun k e => h (k + 1) (by simpa using e))]
    simp
theorem sp_first (b : UInt8) : ∀ (i : Nat) (l cur : List UInt8), l[i]? = some b → (∀ k : Nat, k < i → l[k]? ≠ some b) → sp b cur l = (cur ++ l.take i) :: sp b [] (l.drop (i + 1))
  | _, [], _, h, _ => by simp at h
  | 0, c :: r, cur, h, _ => by
    have : c = b := by simpa using h
    rw [sp, if_pos this]
    simp
  | i + 1, c :: r, cur, h, hn => by
    have hc : c ≠ b := by intro e; exact hn 0 (by omega) (by simp [e])
    rw [sp, if_neg hc, sp_first b i r (cur ++ [c]) (by simpa using h) (fun k hk e => hn (k + 1) (by omega) (by simpa using e))]
    simp
theorem sp_pos (b : UInt8) : ∀ (l cur : List UInt8), 1 ≤ (sp b cur l).length
  | [], _ => by simp [sp]
  | c :: r, cur => by
    rw [sp]
    split
    · simp
    · exact sp_pos b r _
/-- at most k + 1 pieces came: either they are all, or there are more -/
theorem splitK_sp (b : UInt8) : ∀ (k : Nat) (l : List UInt8), (Lib.splitK [b] 0 k l = sp b [] l ∧ (sp b [] l).length ≤ k + 1) ∨ ((Lib.splitK [b] 0 k l).length = k + 1 ∧ k + 1 < (sp b [] l).length)
  | 0, l => by
    rcases Nat.lt_or_ge 1 (sp b [] l).length with h | h
    · right
      exact ⟨rfl, by omega⟩
    · left
      have hl : (sp b [] l).length = 1 := by have := sp_pos b l []; omega
      refine ⟨?_, by omega⟩
      by_cases hi : Lib.indexByte l b = -1
      · rw [sp_none b l [] (Lib.indexByte_none hi)]
        rfl
      · obtain ⟨o, ho⟩ : ∃ o : Nat, Lib.indexByte l b = o := ⟨(Lib.indexByte l b).toNat, by have := Lib.indexByte_ge l b; omega⟩
        obtain ⟨h1, h2⟩ := Lib.indexByte_some ho
        rw [sp_first b o l [] h1 h2] at hl
        have := sp_pos b (l.drop (o + 1)) []
        simp only [List.length_cons] at hl
        omega
  | k + 1, l => by
    by_cases hi : Lib.indexByte l b = -1
    · left
      rw [sp_none b l [] (Lib.indexByte_none hi)]
      unfold Lib.splitK
      rw [Lib.index_one, hi]
      simp
    · obtain ⟨o, ho⟩ : ∃ o : Nat, Lib.indexByte l b = o := ⟨(Lib.indexByte l b).toNat, by have := Lib.indexByte_ge l b; omega⟩
      obtain ⟨h1, h2⟩ := Lib.indexByte_some ho
      have hne : ¬ ((o : Int) == -1) = true := by intro e; have := beq_iff_eq.1 e; omega
      rw [sp_first b o l [] h1 h2]
      unfold Lib.splitK
      rw [Lib.index_one, ho, if_neg hne]
      have ih := splitK_sp b k (l.drop (o + 1))
      simp only [Int.toNat_natCast, Nat.add_zero, List.nil_append, List.length_cons, List.length_nil, Nat.zero_add]
      rcases ih with ⟨e1, e2⟩ | ⟨e1, e2⟩
      · left
        exact ⟨by rw [e1], by omega⟩
      · right
        exact ⟨by omega, by omega⟩
end Go.Proofs.YtcekobdnghllcacDoor
