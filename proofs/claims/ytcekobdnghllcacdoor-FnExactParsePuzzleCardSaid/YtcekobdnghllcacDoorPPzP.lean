/- Texts of puzzles as pieces between commas, and clues' texts as pieces between dots: what the program's reading and the model's reading say of them is the same; no program in it; no condition. -/
import Derived.Test.YtcekobdnghllcacDoorPzTxM
import Derived.Test.YtcekobdnghllcacDoorPure
import Derived.Test.YtcekobdnghllcacDoorSplitK
namespace Go.Proofs.YtcekobdnghllcacDoor

theorem join_cons2 (a x : List UInt8) (r : List (List UInt8)) (sep : List UInt8) : Lib.join (a :: x :: r) sep = a ++ (sep ++ Lib.join (x :: r) sep) := by
  rw [Lib.join_cons, Lib.join_cons]
  simp [Lib.joinTail]
/-- the pieces, with signs between them, are the text -/
theorem join_sp (b : UInt8) : ∀ (l cur : List UInt8), Lib.join (sp b cur l) [b] = cur ++ l
  | [], cur => by rw [sp, Lib.join_one]; simp
  | c :: r, cur => by
    rw [sp]
    split
    · rename_i e
      subst e
      have hp := sp_pos c r []
      have ih := join_sp c r []
      cases h : sp c [] r with
      | nil => rw [h] at hp; simp at hp
      | cons x t =>
        rw [h] at ih
        rw [join_cons2, ih]
        simp
    · rw [join_sp b r _]
      simp
theorem dgs_val (p : List UInt8) (h : canon p = true) : dgs (val p : Int) = p := by
  unfold dgs
  rw [Int.toNat_natCast]
  exact (canon_iff p).1 h

/-- what the model reads of a clue's text -/
def rdC (p : List UInt8) : Cu := (rd6 ((sp 46 [] p).getD 0 []), rd6 ((sp 46 [] p).getD 1 []), rd6 ((sp 46 [] p).getD 2 []))
/-- is it a clue's text? -/
def cluOK (p : List UInt8) : Bool := decide ((sp 46 [] p).length = 3) && cluB (rdC p)
/-- the clues' texts -/
def pcs (l : List UInt8) : List (List UInt8) := if l = [] then [] else sp 44 [] l
/-- is it a puzzle's text? -/
def pgP (l : List UInt8) : Bool := decide ((pcs l).length ≤ 6) && (pcs l).all cluOK
theorem rd6_pos (x : List UInt8) (h : 0 ≤ rd6 x) : canon x = true ∧ rd6 x = val x ∧ dgs (rd6 x) = x := by
  unfold rd6 at h ⊢
  split at h
  · rename_i hc
    rw [if_pos hc]
    exact ⟨hc.2.2, rfl, dgs_val x hc.2.2⟩
  · omega
theorem rd6_of (x : List UInt8) (h : canon x = true) (hv : val x ≤ 10) : rd6 x = val x := by
  unfold rd6
  have := canon_len x 1 h (by omega)
  rw [if_pos ⟨(canon_dig x h).2, by omega, h⟩]
theorem list3 {α : Type} (q : List α) (h : q.length = 3) : ∃ x y z, q = [x, y, z] := by
  match q, h with
  | [x, y, z], _ => exact ⟨x, y, z, rfl⟩
theorem cluOK_parts {p : List UInt8} (h : cluOK p = true) : ∃ x y z, sp 46 [] p = [x, y, z] ∧ rdC p = (rd6 x, rd6 y, rd6 z) ∧ cluB (rdC p) = true ∧ canon x = true ∧ canon y = true ∧ canon z = true ∧ rd6 x = val x ∧ rd6 y = val y ∧ rd6 z = val z ∧ val x ≤ 10 ∧ val y ≤ 10 ∧ val z ≤ 10 ∧ tx3 (rdC p) = p := by
  unfold cluOK at h
  rw [Bool.and_eq_true, decide_eq_true_eq] at h
  obtain ⟨x, y, z, hq⟩ := list3 _ h.1
  have hr : rdC p = (rd6 x, rd6 y, rd6 z) := by unfold rdC; rw [hq]; rfl
  obtain ⟨⟨a0, a1⟩, ⟨b0, b1⟩, ⟨c0, c1⟩⟩ := cluB_small h.2
  rw [hr] at a0 a1 b0 b1 c0 c1
  simp only at a0 a1 b0 b1 c0 c1
  obtain ⟨x1, x2, x3⟩ := rd6_pos x a0
  obtain ⟨y1, y2, y3⟩ := rd6_pos y b0
  obtain ⟨z1, z2, z3⟩ := rd6_pos z c0
  refine ⟨x, y, z, hq, hr, h.2, x1, y1, z1, x2, y2, z2, by omega, by omega, by omega, ?_⟩
  have hj := join_sp 46 p []
  rw [hq] at hj
  rw [hr]
  unfold tx3 dotTx
  simp only [List.map_cons, List.map_nil, x3, y3, z3]
  rw [hj]
  rfl
/-- where each piece has three parts, the model says that all are clues where the pieces are clues' texts -/
theorem pgP_model (l : List UInt8) (h3 : ∀ p ∈ pcs l, (sp 46 [] p).length = 3) : puzB ((pcs l).map rdC) = pgP l := by
  unfold puzB pgP
  rw [List.length_map, List.all_map]
  congr 1
  apply Bool.eq_iff_iff.2
  rw [List.all_eq_true, List.all_eq_true]
  constructor
  · intro h p hp
    unfold cluOK
    rw [h3 p hp]
    simpa using h p hp
  · intro h p hp
    have := h p hp
    unfold cluOK at this
    rw [Bool.and_eq_true] at this
    exact this.2
theorem pgP_parts {l : List UInt8} (h : pgP l = true) : (pcs l).length ≤ 6 ∧ ∀ p ∈ pcs l, cluOK p = true := by
  unfold pgP at h
  rw [Bool.and_eq_true, decide_eq_true_eq, List.all_eq_true] at h
  exact h
theorem pgP_three {l : List UInt8} (h : pgP l = true) : ∀ p ∈ pcs l, (sp 46 [] p).length = 3 := by
  intro p hp
  have := (pgP_parts h).2 p hp
  unfold cluOK at this
  rw [Bool.and_eq_true, decide_eq_true_eq] at this
  exact this.1
theorem pgP_text {l : List UInt8} (h : pgP l = true) : puzTx ((pcs l).map rdC) = l := by
  obtain ⟨_, h2⟩ := pgP_parts h
  unfold puzTx
  rw [List.map_map]
  have e : (pcs l).map (tx3 ∘ rdC) = pcs l := by
    have h9 : ∀ p ∈ pcs l, (tx3 ∘ rdC) p = id p := fun p hp => by
      obtain ⟨_, _, _, _, _, _, _, _, _, _, _, _, _, _, _, ht⟩ := cluOK_parts (h2 p hp)
      exact ht
    rw [List.map_congr_left h9]
    simp
  rw [e]
  unfold pcs
  by_cases hl : l = []
  · rw [if_pos hl, hl]; rfl
  · rw [if_neg hl, join_sp]; rfl
theorem pgP_len {l : List UInt8} (h : pgP l = true) : l.length ≤ 100 := by
  obtain ⟨h1, h2⟩ := pgP_parts h
  unfold pcs at h1 h2
  by_cases hl : l = []
  · rw [hl]; simp
  · rw [if_neg hl] at h1 h2
    have e2 := sp_len 44 l []
    have s := sum_le 8 (sp 44 [] l) (fun p hp => by
      obtain ⟨x, y, z, hq, _, _, x1, y1, z1, _, _, _, x2, y2, z2, _⟩ := cluOK_parts (h2 p hp)
      have f2 := sp_len 46 p []
      rw [hq] at f2
      have a := canon_len x 1 x1 (by omega)
      have b := canon_len y 1 y1 (by omega)
      have c := canon_len z 1 z1 (by omega)
      simp at f2
      omega)
    simp only [List.length_nil] at e2
    omega
theorem pcs_count (l : List UInt8) : (pcs l).length ≤ l.length + 1 := by
  unfold pcs
  split
  · simp
  · exact sp_count 44 l []
theorem pcs_piece (l : List UInt8) (p : List UInt8) (h : p ∈ pcs l) : p.length ≤ l.length := by
  unfold pcs at h
  split at h
  · cases h
  · have := sp_piece 44 l [] p h
    simpa using this
end Go.Proofs.YtcekobdnghllcacDoor
