/- Whether a text is a word (isWord) and a text's words by the library (SplitN at a blank), in the program; no condition but on lengths, and that the library's variable MaxLen holds some int. -/
import Derived.Test.YtpajmgonceepoabDoorLaws4
import Derived.Test.YtpajmgonceepoabDoorSplitK
import Derived.Test.YtpajmgonceepoabDoorShelf
namespace Go.Proofs.YtpajmgonceepoabDoor
open Go.ChangeShapes Go.WideShapes Go.ChangeAt Go.RowKit

theorem sp_sum (b : UInt8) : ∀ (l cur : List UInt8), ((sp b cur l).map List.length).sum + (sp b cur l).length = cur.length + l.length + 1
  | [], cur => by simp [sp]
  | c :: r, cur => by
    rw [sp]
    split
    · have := sp_sum b r []
      simp only [List.map_cons, List.sum_cons, List.length_cons, List.length_nil] at this ⊢
      omega
    · have := sp_sum b r (cur ++ [c])
      simp only [List.length_append, List.length_cons, List.length_nil] at this ⊢
      omega
theorem sum_words : ∀ ws : List (List UInt8), ws.all okWord = true → (ws.map List.length).sum ≤ 20 * ws.length
  | [], _ => by simp
  | w :: ws, h => by
    rw [List.all_cons, Bool.and_eq_true] at h
    have h1 := h.1
    unfold okWord at h1
    rw [Bool.and_eq_true] at h1
    have h2 := of_decide_eq_true h1.1
    have := sum_words ws h.2
    simp only [List.map_cons, List.sum_cons, List.length_cons]
    omega
theorem spell_iff (l : List UInt8) : spellB l = ((sp 32 [] l).all okWord && decide ((sp 32 [] l).length ≤ 104)) := by
  unfold spellB
  by_cases h1 : (sp 32 [] l).all okWord = true
  · by_cases h2 : (sp 32 [] l).length ≤ 104
    · have h3 := sp_sum 32 l []
      have h4 := sum_words _ h1
      simp only [List.length_nil] at h3
      rw [decide_eq_true (show l.length ≤ 2184 by omega), Bool.true_and]
    · rw [decide_eq_false h2, Bool.and_false, Bool.and_false]
  · have h1' : (sp 32 [] l).all okWord = false := by simpa using h1
    rw [h1', Bool.and_false, Bool.false_and]

/-- letters alone, at least one -/
def okLet (w : List UInt8) : Bool := decide (1 ≤ w.length) && w.all letter
theorem okWord_let (w : List UInt8) : okWord w = (decide (w.length ≤ 20) && okLet w) := by
  unfold okWord okLet
  by_cases h1 : 1 ≤ w.length <;> by_cases h2 : w.length ≤ 20 <;> simp [h1, h2]
theorem okLet_bad (w : List UInt8) (i : Nat) (h : i < w.length) (hb : w[i].toNat < 97 ∨ 122 < w[i].toNat) : okLet w = false := by
  have : w.all letter = false := by
    rw [List.all_eq_false]
    refine ⟨w[i], List.getElem_mem h, ?_⟩
    unfold letter
    simp
    omega
  unfold okLet
  rw [this, Bool.and_false]
theorem okLet_good (w : List UInt8) (h1 : 1 ≤ w.length) (h : ∀ i (hi : i < w.length), 97 ≤ w[i].toNat ∧ w[i].toNat ≤ 122) : okLet w = true := by
  have : w.all letter = true := by
    rw [List.all_eq_true]
    intro x hx
    obtain ⟨i, hi, e⟩ := List.mem_iff_getElem.1 hx
    have := h i hi
    rw [e] at this
    exact decide_eq_true this
  unfold okLet
  rw [this, Bool.and_true]
  exact decide_eq_true h1

set_option maxRecDepth 100000 in
set_option maxHeartbeats 3200000 in
theorem isWord_any (w : List UInt8) (W : World) (hl : w.length ≤ 2000000) : Calls Tryd.prog 23 #[.string ⟨w.toArray⟩] W (BoolB W (okLet w)) := by
  obtain ⟨k, hkl⟩ : ∃ k, w.length = k := ⟨_, rfl⟩
  have hsw : (ByteArray.mk w.toArray).size = k := by rw [← hkl]; rfl
  have HKL := Lib.hid hkl
  have hks : k ≤ 2000000 := by omega
  have k0 : (0 : Int) ≤ k := Int.natCast_nonneg _
  have HB0 := Lib.hid (okLet_bad w)
  obtain ⟨b, hb⟩ : ∃ b, okLet w = b := ⟨_, rfl⟩
  rw [hb]
  have HBB := Lib.hid hb
  clear hkl hb
  · go_enter Tryd.func23, Tryd.ntmps23
    go_wp2
    go_loopw [4] (fun u wx => ∃ (q : Nat) (z : Value), q ≤ k ∧ z = u ∧ wx = W.iter ⟨w.toArray⟩ q ∧ ∀ i (hi : i < w.length), i < q → 97 ≤ w[i].toNat ∧ w[i].toNat ≤ 122) (fun _ wx => k - wx.iterPos W.heap.size)
    case atStart => exact ⟨0, _, Nat.zero_le _, rfl, rfl, fun i hi h => by omega⟩
    case round =>
      obtain ⟨q, z, hq, rfl, rfl, hlet⟩ := hrel
      have HLT := Lib.hid hlet
      have q0 : (0 : Int) ≤ q := Int.natCast_nonneg _
      clear hlet
      by_cases hp : q < k
      · have hql : q < w.length := by rw [HKL.out]; exact hp
        have hqs : q < (ByteArray.mk w.toArray).size := by rw [hsw]; exact hp
        have bj := bget w q hql hqs
        obtain ⟨c, hcw⟩ : ∃ c, w[q]'hql = c := ⟨_, rfl⟩
        rw [hcw] at bj
        have HCW := Lib.hid hcw
        have p1 : (q : Int) < k := by omega
        clear hcw
        by_cases hgo : 97 ≤ c.toNat ∧ c.toNat ≤ 122
        · have hnx : ∀ ty, (Instr.next (.pointer (some ⟨W.heap.size, 0, none⟩)) true ty).run Tryd.prog (W.iter ⟨w.toArray⟩ q) = .ok (.tuple #[.bool true, .int .i64 q, .int .i32 (c.toNat)]) (W.iter ⟨w.toArray⟩ (q + 1)) := fun ty => by
            have := run_next_ascii (P := Tryd.prog) W ⟨w.toArray⟩ q ty hqs (by rw [bj]; omega)
            rw [bj] at this
            exact this
          have y3 : ¬ (c.toNat : Int) < 97 := by omega
          have y4 : ¬ (122 : Int) < c.toNat := by omega
          go_wp2
          go_roundw
          case rel =>
            refine ⟨q + 1, _, by omega, rfl, rfl, fun i hi h => ?_⟩
            by_cases e : i = q
            · subst e
              rw [HCW.out]
              exact hgo
            · exact HLT.out i hi (by omega)
          case measure => simp [World.iterPos_iter] <;> omega
        · have hnx := fun ty => run_next_any (P := Tryd.prog) W ⟨w.toArray⟩ q ty hqs
          have HB : Hid (b = false) := Lib.hid (by rw [← HBB.out]; exact HB0.out q hql (by rw [HCW.out]; omega))
          have hkf : ∀ d, Kp Nw W (W.iter ⟨w.toArray⟩ d) := fun d => Kp.al W _
          have hd : (Utf8.decode ⟨w.toArray⟩ q).1 < 97 ∨ 122 < (Utf8.decode ⟨w.toArray⟩ q).1 := by
            by_cases h8 : c.toNat < 128
            · rw [decode_ascii ⟨w.toArray⟩ q hqs (by rw [bj]; exact h8)]
              simp only [bj]
              omega
            · have := (decode_high ⟨w.toArray⟩ q hqs (by rw [bj]; omega)).1
              omega
          have hle := decode_le ⟨w.toArray⟩ q
          obtain ⟨D, hD⟩ : ∃ D, (Utf8.decode ⟨w.toArray⟩ q).1 = D := ⟨_, rfl⟩
          obtain ⟨E, hE⟩ : ∃ E, q + (Utf8.decode ⟨w.toArray⟩ q).2 = E := ⟨_, rfl⟩
          rw [hD] at hd hle
          simp only [hD, hE] at hnx
          clear hD hE
          by_cases hlo : D < 97
          · have y3 : (D : Int) < 97 := by omega
            go_wp2
            go_ret
            exact ⟨by rw [HB.out]; rfl, hkf _⟩
          · have y3 : ¬ (D : Int) < 97 := by omega
            have y4 : (122 : Int) < D := by omega
            go_wp2
            go_ret
            exact ⟨by rw [HB.out]; rfl, hkf _⟩
      · have e : q = k := by omega
        subst e
        have hnx := fun ty => run_next_end (P := Tryd.prog) W ⟨w.toArray⟩ q ty (by rw [hsw]; omega)
        have hkf : Kp Nw W (W.iter ⟨w.toArray⟩ q) := Kp.al W _
        have HG : Hid (b = !w.isEmpty) := Lib.hid (by
          rw [← HBB.out]
          by_cases h0 : w = []
          · rw [h0]; rfl
          · rw [okLet_good w (by have := List.length_pos_iff.2 h0; omega) (fun i hi => HLT.out i hi (by rw [HKL.out] at hi; exact hi))]
            cases w with
            | nil => exact absurd rfl h0
            | cons x y => rfl)
        go_wp2
        go_ret
        exact ⟨by rw [HG.out] <;> rfl, hkf⟩

/-- the cell of the library's variable MaxLen holds some int -/
def MxL (W : World) : Prop := ∃ m : Int, W.cell? ⟨0, 0, none⟩ = some (.int .i64 m)
theorem MxL.nw {w w' : World} (h : MxL w) (hk : Kp Nw w w') : MxL w' := by
  obtain ⟨m, h⟩ := h
  exact ⟨m, keepc hk h (fun h => h)⟩

/-- SplitN at a blank into 105 pieces at most: the words, or too many -/
theorem splitW_any (l : List UInt8) (W : World) (hM : MxL W) (hl : l.length < 2000000) :
    Calls Tryd.prog 22 #[.string ⟨l.toArray⟩, .string ⟨#[32]⟩, .int .i64 105] W fun e w' =>
      ∃ (ps : List (List UInt8)) (c : Nat), ps.length ≤ c ∧ c ≤ 1000 ∧ e = .returned (.slice (some ⟨W.heap.size, 0, none⟩) ps.length c) ∧ Kp Nw W w' ∧
        (∀ j : Nat, j < ps.length → w'.cell? ⟨W.heap.size, j, none⟩ = some (sval (ps.getD j []))) ∧ (ps = sp 32 [] l ∨ (104 < ps.length ∧ 104 < (sp 32 [] l).length)) := by
  obtain ⟨m, hm⟩ := hM
  have es : (ByteArray.mk l.toArray).size = l.length := rfl
  obtain ⟨k, hk⟩ : ∃ k, min 105 (l.length + 1) - 1 = k := ⟨_, rfl⟩
  have hd := Lib.splitB_data ⟨#[32]⟩ 0 k ⟨l.toArray⟩
  have hlen := Lib.splitB_length_le ⟨#[32]⟩ 0 k ⟨l.toArray⟩
  have hsk := splitK_sp 32 k l
  have hfew := sp_few 32 l []
  refine (Tryd.strings_SplitN ⟨l.toArray⟩ ⟨#[32]⟩ 105 m W (by rw [es]; omega) hm (by decide) (by omega) (by omega)).mono ?_
  rintro e w' ⟨rfl, rfl⟩
  rw [es, hk]
  obtain ⟨ps, hps⟩ : ∃ ps, Lib.splitB ⟨#[32]⟩ 0 k ⟨l.toArray⟩ = ps := ⟨_, rfl⟩
  rw [hps] at hd hlen ⊢
  have e1 : Lib.splitK [32] 0 k l = ps.map (·.data.toList) := hd.symm
  rw [e1] at hsk
  refine ⟨ps.map (·.data.toList), _, ?_, ?_, by rw [List.length_map], Kp.al _ _, fun j hj => ?_, ?_⟩
  · rw [List.length_map]; omega
  · omega
  · rw [World.cell?_alloc_new]
    simp only [Lib.cellsOf]
    rw [← Array.getElem?_toList, List.toList_toArray, List.getElem?_append_left (by simpa using hj)]
    rw [List.length_map] at hj
    simp [sval, hj]
  · rcases hsk with ⟨h1, _⟩ | ⟨h1, h2⟩
    · exact .inl h1
    · exact .inr ⟨by omega, by omega⟩
end Go.Proofs.YtpajmgonceepoabDoor
