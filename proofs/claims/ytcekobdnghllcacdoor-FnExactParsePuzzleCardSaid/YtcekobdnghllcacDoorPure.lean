/- Texts of rings as pieces between separators: what the program's reading and the model's reading say of them is the same; no program in it; no condition. -/
import Derived.Test.YtcekobdnghllcacDoorNums
import Derived.Test.YtcekobdnghllcacDoorRdN
import Derived.Test.YtcekobdnghllcacDoorGoodS
namespace Go.Proofs.YtcekobdnghllcacDoor

theorem cut_none (b : UInt8) (l : List UInt8) (h : Lib.indexByte l b = -1) : Lib.cut l [b] = (l, [], false) ∧ sp b [] l = [l] := by
  constructor
  · unfold Lib.cut
    rw [Lib.index_one, h]
    rfl
  · rw [sp_none b l [] (Lib.indexByte_none h)]
    rfl
theorem cut_some (b : UInt8) (l : List UInt8) (o : Nat) (h : Lib.indexByte l b = (o : Int)) : Lib.cut l [b] = (l.take o, l.drop (o + 1), true) ∧ sp b [] l = l.take o :: sp b [] (l.drop (o + 1)) := by
  obtain ⟨h1, h2⟩ := Lib.indexByte_some h
  constructor
  · unfold Lib.cut
    rw [Lib.index_one, h, if_pos (by omega)]
    rfl
  · rw [sp_first b o l [] h1 h2]
    rfl
theorem cut_cases (b : UInt8) (l : List UInt8) : (Lib.cut l [b] = (l, [], false) ∧ sp b [] l = [l]) ∨ ∃ o : Nat, o < l.length ∧ l[o]? = some b ∧ Lib.cut l [b] = (l.take o, l.drop (o + 1), true) ∧ sp b [] l = l.take o :: sp b [] (l.drop (o + 1)) := by
  by_cases hi : Lib.indexByte l b = -1
  · exact .inl (cut_none b l hi)
  · obtain ⟨o, ho⟩ : ∃ o : Nat, Lib.indexByte l b = o := ⟨(Lib.indexByte l b).toNat, by have := Lib.indexByte_ge l b; omega⟩
    have h1 := (Lib.indexByte_some ho).1
    exact .inr ⟨o, (List.getElem?_eq_some_iff.1 h1).1, h1, cut_some b l o ho⟩
/-- a byte that is no separator is in a piece -/
theorem sp_mem (b x : UInt8) (hx : x ≠ b) : ∀ (l cur : List UInt8), x ∈ cur ∨ x ∈ l → ∃ p ∈ sp b cur l, x ∈ p
  | [], cur, h => ⟨cur, by simp [sp], by simpa using h⟩
  | c :: r, cur, h => by
    rw [sp]
    split
    · rename_i e
      subst e
      rcases h with h | h
      · exact ⟨cur, by simp, h⟩
      · rcases List.mem_cons.1 h with rfl | h
        · exact absurd rfl hx
        · obtain ⟨p, hp, hm⟩ := sp_mem c x hx r [] (.inr h)
          exact ⟨p, by simp [hp], hm⟩
    · refine sp_mem b x hx r _ ?_
      rcases h with h | h
      · exact .inl (by simp [h])
      · rcases List.mem_cons.1 h with rfl | h
        · exact .inl (by simp)
        · exact .inr h
/-- pieces and separators together are the text -/
theorem sp_len (b : UInt8) : ∀ (l cur : List UInt8), ((sp b cur l).map fun p => p.length + 1).sum = cur.length + l.length + 1
  | [], cur => by simp [sp]
  | c :: r, cur => by
    rw [sp]
    split
    · rw [List.map_cons, List.sum_cons, sp_len b r []]
      simp
      omega
    · rw [sp_len b r _]
      simp
      omega
theorem sum_le (k : Nat) : ∀ (ps : List (List UInt8)), (∀ p ∈ ps, p.length ≤ k) → (ps.map fun p => p.length + 1).sum ≤ (k + 1) * ps.length
  | [], _ => by simp
  | p :: r, h => by
    rw [List.map_cons, List.sum_cons, List.length_cons, Nat.mul_add]
    have := sum_le k r (fun q hq => h q (by simp [hq]))
    have := h p (by simp)
    omega
theorem sp_piece (b : UInt8) : ∀ (l cur : List UInt8), ∀ p ∈ sp b cur l, p.length ≤ cur.length + l.length
  | [], cur, p, h => by
    obtain rfl : p = cur := by simpa [sp] using h
    simp
  | c :: r, cur, p, h => by
    rw [sp] at h
    split at h
    · rcases List.mem_cons.1 h with rfl | h
      · simp
      · have := sp_piece b r [] p h
        simp at this ⊢
        omega
    · have := sp_piece b r _ p h
      simp at this ⊢
      omega
theorem sp_count (b : UInt8) : ∀ (l cur : List UInt8), (sp b cur l).length ≤ l.length + 1
  | [], cur => by simp [sp]
  | c :: r, cur => by
    rw [sp]
    split
    · have := sp_count b r []
      simp
      omega
    · have := sp_count b r (cur ++ [c])
      simp
      omega

theorem dd_len : ∀ (k n : Nat), n < 10 ^ (k + 1) → (Lib.decDigits n).length ≤ k + 1
  | 0, n, h => by rw [Lib.decDigits_one (by omega)]; simp
  | k + 1, n, h => by
    by_cases hn : n < 10
    · rw [Lib.decDigits_one hn]; simp
    · rw [Lib.decDigits, dif_neg hn, List.length_append]
      have := dd_len k (n / 10) (by rw [Nat.pow_succ] at h; omega)
      simp
      omega
theorem canon_len (l : List UInt8) (k : Nat) (h : canon l = true) (hv : val l < 10 ^ (k + 1)) : l.length ≤ k + 1 := by
  have := dd_len k (val l) hv
  rwa [(canon_iff l).1 h] at this
theorem canon_dig (l : List UInt8) (h : canon l = true) : l.all isDig = true ∧ 1 ≤ l.length := by
  unfold canon at h
  simp only [Bool.and_eq_true] at h
  refine ⟨h.1.2, ?_⟩
  cases l with
  | nil => simp at h
  | cons a r => simp
theorem okN_iff (p : List UInt8) : okN p = true ↔ canon p = true ∧ val p ≤ 999 := by
  unfold okN
  rw [Bool.and_eq_true, decide_eq_true_eq]
theorem okN_rd6 (p : List UInt8) (h : okN p = true) : rd6 p = val p := by
  obtain ⟨h1, h2⟩ := (okN_iff p).1 h
  have := canon_len p 2 h1 (by omega)
  have := (canon_dig p h1).2
  unfold rd6
  rw [if_pos ⟨this, by omega, h1⟩]
theorem okN_of (p : List UInt8) (h : okB (rd6 p) = true) : okN p = true := by
  unfold okB at h
  rw [decide_eq_true_eq] at h
  unfold rd6 at h
  rw [okN_iff]
  by_cases hc : 1 ≤ p.length ∧ p.length ≤ 6 ∧ canon p = true
  · rw [if_pos hc] at h
    exact ⟨hc.2.2, by omega⟩
  · rw [if_neg hc] at h
    omega

/-- the text of a million -/
def mil : List UInt8 := Lib.decDigits 1000000
/-- the step that the model reads -/
def stp (a : List UInt8) : Int := if a = mil then 1000000 else rd6 a
def stepOK (a : List UInt8) : Bool := canon a && decide (val a ≤ 1000000)
def listOK (ps : List (List UInt8)) : Bool := decide (ps.length ≤ 200) && ps.all okN
theorem stp_ok (a : List UInt8) (h : stepOK a = true) : stp a = val a := by
  unfold stepOK at h
  rw [Bool.and_eq_true, decide_eq_true_eq] at h
  unfold stp
  by_cases e : a = mil
  · have hm : canon mil = true ∧ val mil = 1000000 := ⟨(digits_canon _).1, (digits_canon _).2.1⟩
    rw [if_pos e, e, hm.2]
    rfl
  · rw [if_neg e]
    have hne : val a ≠ 1000000 := fun h2 => e (by rw [← (canon_iff a).1 h.1, h2]; rfl)
    have h6 := canon_len a 5 h.1 (by omega)
    unfold rd6
    rw [if_pos ⟨(canon_dig a h.1).2, h6, h.1⟩]
theorem stp_in (a : List UInt8) (h1 : 1 ≤ stp a) (h2 : stp a ≤ 1000000) : stepOK a = true := by
  unfold stepOK
  rw [Bool.and_eq_true, decide_eq_true_eq]
  unfold stp at h1 h2
  by_cases e : a = mil
  · rw [e]
    exact ⟨(digits_canon _).1, by have := (digits_canon 1000000).2.1; unfold mil; omega⟩
  · rw [if_neg e] at h1 h2
    unfold rd6 at h1 h2
    by_cases hc : 1 ≤ a.length ∧ a.length ≤ 6 ∧ canon a = true
    · rw [if_pos hc] at h1 h2
      exact ⟨hc.2.2, by omega⟩
    · rw [if_neg hc] at h1
      omega
theorem nums_same (ps : List (List UInt8)) (h : ps.all okN = true) : ps.map rd6 = nums ps := by
  unfold nums
  refine List.map_congr_left fun p hp => ?_
  exact okN_rd6 p (List.all_eq_true.1 h p hp)
theorem goodB_iff (xs : List Int) (k : Int) : goodB xs k = true ↔ (1 ≤ xs.length ∧ xs.length ≤ 200 ∧ 1 ≤ k ∧ k ≤ 1000000) ∧ xs.all okB = true ∧ xs.Nodup := by
  unfold goodB
  rw [Bool.and_eq_true, decide_eq_true_eq, decide_eq_true_eq]
def pg (a : List UInt8) (ps : List (List UInt8)) : Bool := stepOK a && listOK ps && goodB (nums ps) (val a)
theorem pg_iff (a : List UInt8) (ps : List (List UInt8)) : pg a ps = true ↔ stepOK a = true ∧ ps.length ≤ 200 ∧ ps.all okN = true ∧ goodB (nums ps) (val a) = true := by
  unfold pg listOK
  rw [Bool.and_eq_true, Bool.and_eq_true, Bool.and_eq_true, decide_eq_true_eq]
  constructor
  · rintro ⟨⟨h1, h2, h3⟩, h4⟩; exact ⟨h1, h2, h3, h4⟩
  · rintro ⟨h1, h2, h3, h4⟩; exact ⟨⟨h1, h2, h3⟩, h4⟩
theorem pg_same (a : List UInt8) (ps : List (List UInt8)) (h : pg a ps = true) : ps.map rd6 = nums ps ∧ stp a = val a := by
  obtain ⟨h1, _, h3, _⟩ := (pg_iff a ps).1 h
  exact ⟨nums_same ps h3, stp_ok a h1⟩
theorem good_same (a : List UInt8) (ps : List (List UInt8)) : goodB (ps.map rd6) (stp a) = pg a ps := by
  by_cases h : pg a ps = true
  · obtain ⟨e1, e2⟩ := pg_same a ps h
    rw [e1, e2, h]
    exact ((pg_iff a ps).1 h).2.2.2
  · have h0 : pg a ps = false := by simpa using h
    rw [h0]
    by_cases g : goodB (ps.map rd6) (stp a) = true
    · exfalso
      apply h
      obtain ⟨⟨g1, g2, g3, g4⟩, g5, g6⟩ := (goodB_iff _ _).1 g
      have hs := stp_in a g3 g4
      have ha : ps.all okN = true := by
        rw [List.all_eq_true]
        intro p hp
        exact okN_of p (List.all_eq_true.1 g5 _ (List.mem_map_of_mem hp))
      rw [pg_iff]
      refine ⟨hs, by simpa using g2, ha, ?_⟩
      rwa [nums_same ps ha, stp_ok a hs] at g
    · simpa using g
/-- a text that is too long is none -/
theorem pg_long (l : List UInt8) (o : Nat) (ho : o < l.length) (hl : 1000 < l.length) : pg (l.take o) (sp 44 [] (l.drop (o + 1))) = false := by
  by_cases h : pg (l.take o) (sp 44 [] (l.drop (o + 1))) = true
  · exfalso
    obtain ⟨h1, h2, h3, _⟩ := (pg_iff _ _).1 h
    have e := sp_len 44 (l.drop (o + 1)) []
    have s := sum_le 3 (sp 44 [] (l.drop (o + 1))) (fun p hp => by
      obtain ⟨c1, c2⟩ := (okN_iff p).1 (List.all_eq_true.1 h3 p hp)
      exact canon_len p 2 c1 (by omega))
    unfold stepOK at h1
    rw [Bool.and_eq_true, decide_eq_true_eq] at h1
    have a7 := canon_len (l.take o) 6 h1.1 (by omega)
    simp only [List.length_take, List.length_drop, List.length_nil] at a7 e
    omega
  · simpa using h
/-- a second separator is in no numeral -/
theorem pg_more (l : List UInt8) (o : Nat) (h : 2 ≤ (sp 64 [] (l.drop (o + 1))).length) : pg (l.take o) (sp 44 [] (l.drop (o + 1))) = false := by
  by_cases hp : pg (l.take o) (sp 44 [] (l.drop (o + 1))) = true
  · exfalso
    obtain ⟨_, _, h3, _⟩ := (pg_iff _ _).1 hp
    have hm : (64 : UInt8) ∈ l.drop (o + 1) := by
      by_cases hn : ∀ k : Nat, (l.drop (o + 1))[k]? ≠ some 64
      · rw [sp_none 64 _ [] hn] at h
        simp at h
      · have ⟨k, hk⟩ := Classical.not_forall.1 hn
        exact List.mem_of_getElem? (Classical.not_not.1 hk)
    obtain ⟨p, hp1, hp2⟩ := sp_mem 44 64 (by decide) (l.drop (o + 1)) [] (.inr hm)
    have c := ((okN_iff p).1 (List.all_eq_true.1 h3 p hp1)).1
    have := List.all_eq_true.1 (canon_dig p c).1 64 hp2
    simp [isDig] at this
  · simpa using hp
theorem sp_two (l : List UInt8) (o : Nat) (h : (sp 64 [] (l.drop (o + 1))).length = 1) : sp 64 [] (l.drop (o + 1)) = [l.drop (o + 1)] := by
  rcases cut_cases 64 (l.drop (o + 1)) with ⟨_, e⟩ | ⟨q, _, _, _, e⟩
  · exact e
  · rw [e, List.length_cons] at h
    have := sp_pos 64 ((l.drop (o + 1)).drop (q + 1)) []
    omega
end Go.Proofs.YtcekobdnghllcacDoor
