/- Who goes at a turn, by the recurrence over the numbers of people, is who the order has there; mathematics alone. -/
import Derived.Test.YtcfghaeogbimeaeLow
import Derived.Test.YtcfghaeogbimeaeTurn
import Derived.Test.YtcfghaeogbimeaeAt
namespace Go.Proofs.Ytcfghaeogbimeae

theorem rest_getD {α : Type} (k : Int) (l : List α) (j : Nat) (d : α) (h : j + 1 < l.length) : (rest k l).getD j d = l.getD ((place k l.length + 1 + j) % l.length) d := by
  have hp := place_lt k l.length (by omega)
  unfold rest
  rw [List.getD_eq_getElem?_getD, List.getD_eq_getElem?_getD]
  congr 1
  by_cases hj : j < l.length - (place k l.length + 1)
  · rw [List.getElem?_append_left (by simp; omega), List.getElem?_drop, Nat.mod_eq_of_lt (by omega)]
  · rw [List.getElem?_append_right (by simp; omega), List.length_drop, List.getElem?_take_of_lt (by omega)]
    congr 1
    rw [show place k l.length + 1 + j = (j - (l.length - (place k l.length + 1))) + l.length by omega, Nat.add_mod_right, Nat.mod_eq_of_lt (by omega)]
theorem who_perm (k : Int) (l : List Int) (h : 0 < l.length) : (who k l :: rest k l).Perm l := by
  have hp := place_lt k l.length h
  have e : l = l.take (place k l.length) ++ who k l :: l.drop (place k l.length + 1) := by
    have e1 : who k l = l[place k l.length] := by unfold who; simp [hp]
    rw [e1, ← List.drop_eq_getElem_cons hp, List.take_append_drop]
  have e2 : (who k l :: rest k l).Perm (l.take (place k l.length) ++ who k l :: l.drop (place k l.length + 1)) := by
    refine List.Perm.symm (List.perm_middle.trans ?_)
    exact List.Perm.cons _ List.perm_append_comm
  exact e2.trans (by rw [← e])
theorem outs_perm (k : Int) : ∀ (t : Nat) (l : List Int), l.length = t → (outs k t l).Perm l
  | 0, l, h => by
    have : l = [] := List.eq_nil_of_length_eq_zero h
    subst this
    exact List.Perm.refl _
  | t + 1, l, h => by
    have hr := rest_length k l (by omega)
    exact ((outs_perm k t (rest k l) (by omega)).cons (who k l)).trans (who_perm k l (by omega))
theorem marks_nodup (k : Int) (n : Nat) : (marks k n).Nodup := by
  unfold marks
  rw [List.Nodup, List.pairwise_map]
  refine List.Pairwise.imp ?_ (List.nodup_range (n := n))
  intro a b h e
  exact h (by omega)
theorem outs_nodup (k : Int) (n : Nat) : (outs k n (marks 0 n)).Nodup :=
  (outs_perm k n _ (marks_length 0 n)).nodup_iff.2 (marks_nodup 0 n)

theorem out_outs (k : Int) (m : Nat) : ∀ (t : Nat) (l : List Int) (e : Nat), l.length = m + t + 1 → t < e → (outs k e l).getD t 0 = l.getD (outN k m t).toNat 0
  | 0, l, 0, h, he => by omega
  | 0, l, e + 1, h, he => by
    show who k l = _
    unfold who
    rw [h]
    congr 1
  | t + 1, l, 0, h, he => by omega
  | t + 1, l, e + 1, h, he => by
    have hr := rest_length k l (by omega)
    show (outs k e (rest k l)).getD t 0 = _
    rw [out_outs k m t (rest k l) e (by omega) (by omega)]
    have hb := outN_bd k m t
    rw [rest_getD k l _ 0 (by omega), h]
    congr 1
    have hpi := place_int k (m + (t + 1) + 1) (by omega)
    have hpl := place_lt k (m + (t + 1) + 1) (by omega)
    have ec : ((m + (t + 1) + 1 : Nat) : Int) = (m : Int) + t + 2 := by omega
    have e2 : (((place k (m + (t + 1) + 1) + 1 + (outN k m t).toNat) % (m + (t + 1) + 1) : Nat) : Int) = outN k m (t + 1) := by
      rw [outN]
      have e3 : (((place k (m + (t + 1) + 1) + 1 + (outN k m t).toNat : Nat)) : Int) = (k - 1) % ((m : Int) + t + 2) + 1 + outN k m t := by
        rw [ec] at hpi
        omega
      rw [Int.natCast_emod, e3, ec, show (k - 1) % ((m : Int) + t + 2) + 1 + outN k m t = (k - 1) % ((m : Int) + t + 2) + (1 + outN k m t) by omega, Int.emod_add_emod]
      congr 1
      omega
    have e4 := congrArg Int.toNat e2
    rw [Int.toNat_natCast] at e4
    exact e4
theorem order_getD (k : Int) (n t : Nat) (h : t < n) : (outs k n (marks 0 n)).getD t 0 = outN k (n - 1 - t) t := by
  have hb := outN_bd k (n - 1 - t) t
  rw [out_outs k (n - 1 - t) t (marks 0 n) n (by rw [marks_length]; omega) h, marks_getD 0 n _ (by omega)]
  omega
end Go.Proofs.Ytcfghaeogbimeae
