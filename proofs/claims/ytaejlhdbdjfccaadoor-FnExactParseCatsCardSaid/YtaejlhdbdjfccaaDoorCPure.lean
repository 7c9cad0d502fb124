/- Texts of cats as pieces between separators: what the program's reading and the model's reading say of them is the same; no program in it; no condition. -/
import Derived.Test.YtaejlhdbdjfccaaDoorPure
import Derived.Test.YtaejlhdbdjfccaaDoorCNums
import Derived.Test.YtaejlhdbdjfccaaDoorCats
namespace Go.Proofs.YtaejlhdbdjfccaaDoor

theorem catB_iff (xs : List Int) (k : Int) : catB xs k = true ↔ (1 ≤ xs.length ∧ xs.length ≤ 40 ∧ 1 ≤ k ∧ k ≤ 1000000) ∧ xs.all lifeB = true := by
  unfold catB
  rw [Bool.and_eq_true, decide_eq_true_eq]
theorem okC_iff (p : List UInt8) : okC p = true ↔ canon p = true ∧ val p ≤ 9 := by
  unfold okC
  rw [Bool.and_eq_true, decide_eq_true_eq]

theorem okC_rd6 (p : List UInt8) (h : okC p = true) : rd6 p = val p := by
  obtain ⟨h1, h2⟩ := (okC_iff p).1 h
  have := canon_len p 0 h1 (by omega)
  have := (canon_dig p h1).2
  unfold rd6
  rw [if_pos ⟨this, by omega, h1⟩]

theorem okC_of (p : List UInt8) (h : lifeB (rd6 p) = true) : okC p = true := by
  unfold lifeB at h
  rw [decide_eq_true_eq] at h
  unfold rd6 at h
  rw [okC_iff]
  by_cases hc : 1 ≤ p.length ∧ p.length ≤ 6 ∧ canon p = true
  · rw [if_pos hc] at h
    exact ⟨hc.2.2, by omega⟩
  · rw [if_neg hc] at h
    omega

def listOKC (ps : List (List UInt8)) : Bool := decide (ps.length ≤ 40) && ps.all okC

theorem nums_sameC (ps : List (List UInt8)) (h : ps.all okC = true) : ps.map rd6 = nums ps := by
  unfold nums
  refine List.map_congr_left fun p hp => ?_
  exact okC_rd6 p (List.all_eq_true.1 h p hp)

def pgC (a : List UInt8) (ps : List (List UInt8)) : Bool := stepOK a && listOKC ps && catB (nums ps) (val a)

theorem pgC_iff (a : List UInt8) (ps : List (List UInt8)) : pgC a ps = true ↔ stepOK a = true ∧ ps.length ≤ 40 ∧ ps.all okC = true ∧ catB (nums ps) (val a) = true := by
  unfold pgC listOKC
  rw [Bool.and_eq_true, Bool.and_eq_true, Bool.and_eq_true, decide_eq_true_eq]
  constructor
  · rintro ⟨⟨h1, h2, h3⟩, h4⟩; exact ⟨h1, h2, h3, h4⟩
  · rintro ⟨h1, h2, h3, h4⟩; exact ⟨⟨h1, h2, h3⟩, h4⟩

theorem pgC_same (a : List UInt8) (ps : List (List UInt8)) (h : pgC a ps = true) : ps.map rd6 = nums ps ∧ stp a = val a := by
  obtain ⟨h1, _, h3, _⟩ := (pgC_iff a ps).1 h
  exact ⟨nums_sameC ps h3, stp_ok a h1⟩

theorem good_sameC (a : List UInt8) (ps : List (List UInt8)) : catB (ps.map rd6) (stp a) = pgC a ps := by
  by_cases h : pgC a ps = true
  · obtain ⟨e1, e2⟩ := pgC_same a ps h
    rw [e1, e2, h]
    exact ((pgC_iff a ps).1 h).2.2.2
  · have h0 : pgC a ps = false := by simpa using h
    rw [h0]
    by_cases g : catB (ps.map rd6) (stp a) = true
    · exfalso
      apply h
      obtain ⟨⟨g1, g2, g3, g4⟩, g5⟩ := (catB_iff _ _).1 g
      have hs := stp_in a g3 g4
      have ha : ps.all okC = true := by
        rw [List.all_eq_true]
        intro p hp
        exact okC_of p (List.all_eq_true.1 g5 _ (List.mem_map_of_mem hp))
      rw [pgC_iff]
      refine ⟨hs, by simpa using g2, ha, ?_⟩
      rwa [nums_sameC ps ha, stp_ok a hs] at g
    · simpa using g

/-- a text that is too long is none -/
theorem pgC_long (l : List UInt8) (o : Nat) (ho : o < l.length) (hl : 100 < l.length) : pgC (l.take o) (sp 44 [] (l.drop (o + 1))) = false := by
  by_cases h : pgC (l.take o) (sp 44 [] (l.drop (o + 1))) = true
  · exfalso
    obtain ⟨h1, h2, h3, _⟩ := (pgC_iff _ _).1 h
    have e := sp_len 44 (l.drop (o + 1)) []
    have s := sum_le 1 (sp 44 [] (l.drop (o + 1))) (fun p hp => by
      obtain ⟨c1, c2⟩ := (okC_iff p).1 (List.all_eq_true.1 h3 p hp)
      exact canon_len p 0 c1 (by omega))
    unfold stepOK at h1
    rw [Bool.and_eq_true, decide_eq_true_eq] at h1
    have a7 := canon_len (l.take o) 6 h1.1 (by omega)
    simp only [List.length_take, List.length_drop, List.length_nil] at a7 e
    omega
  · simpa using h

/-- a second separator is in no numeral -/
theorem pgC_more (l : List UInt8) (o : Nat) (h : 2 ≤ (sp 126 [] (l.drop (o + 1))).length) : pgC (l.take o) (sp 44 [] (l.drop (o + 1))) = false := by
  by_cases hp : pgC (l.take o) (sp 44 [] (l.drop (o + 1))) = true
  · exfalso
    obtain ⟨_, _, h3, _⟩ := (pgC_iff _ _).1 hp
    have hm : (126 : UInt8) ∈ l.drop (o + 1) := by
      by_cases hn : ∀ k : Nat, (l.drop (o + 1))[k]? ≠ some 126
      · rw [sp_none 126 _ [] hn] at h
        simp at h
      · have ⟨k, hk⟩ := Classical.not_forall.1 hn
        exact List.mem_of_getElem? (Classical.not_not.1 hk)
    obtain ⟨p, hp1, hp2⟩ := sp_mem 44 126 (by decide) (l.drop (o + 1)) [] (.inr hm)
    have c := ((okC_iff p).1 (List.all_eq_true.1 h3 p hp1)).1
    have := List.all_eq_true.1 (canon_dig p c).1 126 hp2
    simp [isDig] at this
  · simpa using hp

theorem spC_two (l : List UInt8) (o : Nat) (h : (sp 126 [] (l.drop (o + 1))).length = 1) : sp 126 [] (l.drop (o + 1)) = [l.drop (o + 1)] := by
  rcases cut_cases 126 (l.drop (o + 1)) with ⟨_, e⟩ | ⟨q, _, _, _, e⟩
  · exact e
  · rw [e, List.length_cons] at h
    have := sp_pos 126 ((l.drop (o + 1)).drop (q + 1)) []
    omega

end Go.Proofs.YtaejlhdbdjfccaaDoor
