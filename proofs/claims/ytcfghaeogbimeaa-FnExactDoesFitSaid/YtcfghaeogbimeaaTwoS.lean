/- The rounds when two count, in the model; no condition but that there are at most two hundred people and the steps are those of the chapter. -/
import Derived.Test.YtcfghaeogbimeaaTwoI
import Derived.Test.YtcfghaeogbimeaaSS
import Derived.Test.YtcfghaeogbimeaaTurn
namespace Go.Proofs.Ytcfghaeogbimeaa
open Go.ChangeShapes Go.WideShapes Go.ChangeAt Go.RowKit

/-- where the backward count chooses, as the model reckons it -/
theorem back_idx (m i' : Nat) (b : Int) (hi : i' < m) : (((m : Int) - 1 - i' - b + 1).tmod (m : Int) + m).tmod (m : Int) = ((m - 1 - rj b i' m : Nat) : Int) := by
  obtain ⟨D, hD⟩ : ∃ D, (m : Int) - 1 - i' - b + 1 = D := ⟨_, rfl⟩
  rw [hD]
  have hm : (0 : Int) < m := by omega
  have q1 := Int.tmod_lt_of_pos D hm
  have q2 := Int.lt_tmod_of_pos D hm
  have q3 : D.tmod (m : Int) = D - (m : Int) * D.tdiv m := Int.tmod_def D m
  rw [Int.tmod_eq_emod_of_nonneg (by omega), Int.add_emod_right, q3, Int.sub_mul_emod_self_left]
  have hj := rj_lt b i' m (by omega)
  unfold rj at hj ⊢
  have p1 := place_int b m (by omega)
  obtain ⟨P, hP⟩ : ∃ P, place b m = P := ⟨_, rfl⟩
  rw [hP] at hj p1 ⊢
  obtain ⟨jr, hjr⟩ : ∃ jr, (i' + P) % m = jr := ⟨_, rfl⟩
  rw [hjr] at hj ⊢
  have d1 := Nat.div_add_mod (i' + P) m
  have d2 := Int.mul_ediv_add_emod (b - 1) (m : Int)
  rw [hjr] at d1
  rw [← p1] at d2
  have d3 : ((m * ((i' + P) / m) + jr : Nat) : Int) = (i' : Int) + P := by rw [d1]; simp
  have e : D = (m : Int) - 1 - jr - (m : Int) * (((i' + P) / m : Nat) + (b - 1) / (m : Int)) := by
    rw [Int.mul_add]
    simp only [Int.natCast_add, Int.natCast_mul] at d3
    omega
  rw [e, Int.sub_mul_emod_self_left, Int.emod_eq_of_lt (by omega) (by omega)]
  omega
theorem fwd_idx (m i : Nat) (f : Int) (hi : i < m) (f1 : 1 ≤ f) : ((i : Int) + f - 1).tmod (m : Int) = ((rj f i m : Nat) : Int) := by
  rw [Int.tmod_eq_emod_of_nonneg (by omega)]
  exact (emod_add_place i m f (by omega)).symm
/-- where both go on -/
theorem idx_on (m j p jr : Nat) (hj : j < m) (hp : p < m) (hjr : jr < m) (e : m - 1 - jr = p) :
    idx2 m j p = (j - (if p < j then 1 else 0)) % (if p = j then m - 1 else m - 2) ∧ idx2 m jr (m - 1 - j) = ((if p = j then m - 1 else m - 2) - (p - (if j < p then 1 else 0))) % (if p = j then m - 1 else m - 2) ∧
    j - (if p < j then 1 else 0) ≤ (if p = j then m - 1 else m - 2) ∧ p - (if j < p then 1 else 0) ≤ (if p = j then m - 1 else m - 2) := by
  unfold idx2
  by_cases c : p = j
  · have c2 : m - 1 - j = jr := by omega
    have c3 : ¬ p < j := by omega
    have c4 : ¬ j < p := by omega
    simp only [if_pos c, if_pos c2, if_neg c3, if_neg c4]
    refine ⟨rfl, ?_, by omega, by omega⟩
    congr 1
    omega
  · have c2 : ¬ m - 1 - j = jr := by omega
    by_cases d : p < j
    · have c3 : m - 1 - j < jr := by omega
      have c4 : ¬ j < p := by omega
      simp only [if_neg c, if_neg c2, if_pos d, if_pos c3, if_neg c4]
      refine ⟨trivial, ?_, by omega, by omega⟩
      congr 1
      omega
    · have c3 : ¬ m - 1 - j < jr := by omega
      have c4 : j < p := by omega
      simp only [if_neg c, if_neg c2, if_neg d, if_neg c3, if_pos c4]
      refine ⟨trivial, ?_, by omega, by omega⟩
      congr 1
      omega
theorem cutR_take (l : List Int) (k : Nat) (x y : Int) (h : k < l.length) : cutR (l.take (k + 1)) x y = cutR (l.take k) x y ++ (if l.getD k 0 = x ∨ l.getD k 0 = y then [] else [l.getD k 0]) := by
  unfold cutR
  rw [List.take_add_one, List.filter_append]
  have e : l[k]? = some (l.getD k 0) := by simp [h]
  obtain ⟨q, hq⟩ : ∃ q, l.getD k 0 = q := ⟨_, rfl⟩
  rw [hq] at e ⊢
  rw [e]
  congr 1
  by_cases c : q = x ∨ q = y
  · rw [if_pos c]
    rcases c with c | c <;> simp [c]
  · rw [if_neg c]
    have c1 : q ≠ x := fun e => c (.inl e)
    have c2 : q ≠ y := fun e => c (.inr e)
    simp [c1, c2]
theorem cutR_len_le (l : List Int) (x y : Int) : (cutR l x y).length ≤ l.length := List.length_filter_le _ _

/-- what holds ahead of a round of the model -/
def MnJ (n : Nat) (f b : Int) (W : World) (u v z1 z2 : Value) (wr : World) : Prop :=
  ∃ (t : Nat) (l : List Int) (i i' : Nat) (acc : List (Int × Int)) (zf zt : Int) (u' v' : Value), u' = u ∧ v' = v ∧ z1 = .int .i64 zf ∧ z2 = .int .i64 zt ∧ l.length ≤ t ∧ acc.length + t = n ∧ Inc l ∧
    (0 < l.length → i < l.length ∧ i' < l.length ∧ zf = (i : Int) ∧ zt = (l.length : Int) - 1 - i') ∧ acc ++ rnds f b t l i i' = rnds f b n (marks 0 n) 0 0 ∧ Sl wr W.heap.size u' l ∧ SS wr W.heap.size wr.heap.size v' (acc.map peo) ∧
    (∀ g, u'.ownBlock = some g → v'.ownBlock ≠ some g) ∧ Kp Nw W wr
/-- what a call returns that makes lists -/
def MakesS (W : World) (xss : List (List Int)) (e : Ending) (w' : World) : Prop := ∃ v, e = .returned v ∧ SS w' W.heap.size w'.heap.size v xss ∧ Kp Nw W w'

end Go.Proofs.Ytcfghaeogbimeaa
