/- What the order out has in itself: each person once, the last one is who is left by the recurrence, turns and people belong together; no program in it; no condition but that there is a person. -/
import Derived.Test.YtpajmgonceepoabDoorLow
import Derived.Test.YtpajmgonceepoabDoorTurn
import Derived.Test.YtpajmgonceepoabDoorOutN
import Derived.Test.YtpajmgonceepoabDoorAt
import Derived.Test.YtpajmgonceepoabDoorFixed
import Derived.Test.YtpajmgonceepoabDoorGaps
import Derived.Test.YtpajmgonceepoabDoorBack
namespace Go.Proofs.YtpajmgonceepoabDoor

theorem outs_getD_who (k : Int) : ∀ (t : Nat) (l : List Int) (i : Nat), i < t → (outs k t l).getD i 0 = who k (lefts k i l)
  | t + 1, l, 0, _ => rfl
  | t + 1, l, i + 1, h => by
    show (outs k t (rest k l)).getD i 0 = who k (lefts k i (rest k l))
    exact outs_getD_who k t (rest k l) i (by omega)
theorem last_outs (k : Int) : ∀ (n : Nat) (l : List Int), l.length = n + 1 → (outs k (n + 1) l).getD n 0 = l.getD (lastN k n).toNat 0
  | 0, l, h => by
    show who k l = _
    unfold who
    rw [h]
    congr 1
    have := place_lt k 1 (by omega)
    simp [lastN]
    omega
  | n + 1, l, h => by
    have hr := rest_length k l (by omega)
    show (outs k (n + 1) (rest k l)).getD n 0 = _
    rw [last_outs k n (rest k l) (by omega)]
    have hb := lastN_bd k n
    rw [rest_getD k l _ 0 (by omega), h]
    congr 1
    have hpi := place_int k (n + 2) (by omega)
    have hpl := place_lt k (n + 2) (by omega)
    have hb2 := lastN_bd k (n + 1)
    have e : lastN k (n + 1) = (lastN k n + k) % ((n : Int) + 2) := rfl
    have e2 : (((place k (n + 2) + 1 + (lastN k n).toNat) % (n + 2) : Nat) : Int) = lastN k (n + 1) := by
      rw [e]
      have e3 : (((place k (n + 2) + 1 + (lastN k n).toNat : Nat)) : Int) = (k - 1) % ((n : Int) + 2) + 1 + lastN k n := by
        have : ((n + 2 : Nat) : Int) = (n : Int) + 2 := by omega
        rw [this] at hpi
        omega
      rw [Int.natCast_emod, e3]
      have : ((n + 2 : Nat) : Int) = (n : Int) + 2 := by omega
      rw [this, show (k - 1) % ((n : Int) + 2) + 1 + lastN k n = (k - 1) % ((n : Int) + 2) + (1 + lastN k n) by omega, Int.emod_add_emod]
      congr 1
      omega
    have e4 := congrArg Int.toNat e2
    rw [Int.toNat_natCast] at e4
    exact e4
theorem last_order (k : Int) (n : Nat) (h : 1 ≤ n) : (outs k n (marks 0 n)).getD (n - 1) 0 = lastN k (n - 1) := by
  obtain ⟨m, rfl⟩ : ∃ m, n = m + 1 := ⟨n - 1, by omega⟩
  have e := last_outs k m (marks 0 (m + 1)) (marks_length 0 (m + 1))
  rw [show m + 1 - 1 = m by omega, e]
  have hb := lastN_bd k m
  rw [marks_getD 0 (m + 1) _ (by omega)]
  omega
/-- the first place of a number that stands once -/
theorem fndD_at (x : Int) : ∀ (xs : List Int) (i j : Nat), xs.Nodup → xs[i]? = some x → fndD x xs j = ((j + i : Nat) : Int)
  | [], i, j, _, h => by simp at h
  | y :: r, 0, j, _, h => by
    have : y = x := by simpa using h
    simp [fndD, this]
  | y :: r, i + 1, j, hn, h => by
    have hr : r[i]? = some x := by simpa using h
    have hne : ¬ y = x := by
      rintro rfl
      exact (List.nodup_cons.1 hn).1 (List.mem_of_getElem? hr)
    rw [fndD, if_neg hne, fndD_at x r i (j + 1) (List.nodup_cons.1 hn).2 hr]
    omega
theorem turn_of_out (k : Int) (n i : Nat) (h : i < n) (x : Int) (hx : (outs k n (marks 0 n)).getD i 0 = x) : fndD x (outs k n (marks 0 n)) 0 = i := by
  rw [fndD_at x _ i 0 (outs_nodup k n) (by rw [← hx]; simp [outs_length, h])]
  omega
theorem fixed_mem (xs : List Int) (n i : Nat) (h : i < n) : decide (((i : Nat) : Int) ∈ fixed xs n) = decide (xs.getD i 0 = (i : Int)) := by
  congr 1
  unfold fixed
  rw [List.mem_map]
  refine propext ⟨?_, fun e => ⟨i, by rw [List.mem_filter]; exact ⟨List.mem_range.2 h, decide_eq_true e⟩, rfl⟩⟩
  rintro ⟨j, hj, e⟩
  have : j = i := by omega
  subst this
  exact of_decide_eq_true (List.mem_filter.1 hj).2
theorem gaps_next (o : List Int) (n m j : Nat) (h : j < m) (hb : ∀ i, i ≤ m → 0 ≤ o.getD i 0 ∧ o.getD i 0 < n) : (o.getD j 0 + (gaps o n m).getD j 0) % (n : Int) = o.getD (j + 1) 0 := by
  have e : (gaps o n m).getD j 0 = (o.getD (j + 1) 0 - o.getD j 0) % (n : Int) := by
    rw [List.getD_eq_getElem?_getD, gaps_get o n m j h]
    rfl
  have h1 := hb (j + 1) (by omega)
  rw [e, Int.add_emod_emod, show o.getD j 0 + (o.getD (j + 1) 0 - o.getD j 0) = o.getD (j + 1) 0 by omega]
  exact Int.emod_eq_of_lt h1.1 h1.2
theorem first_order (k : Int) (n : Nat) (h : 1 ≤ n) : (outs k n (marks 0 n)).getD 0 0 = (k - 1) % (n : Int) := by
  rw [outs_getD_who k n _ 0 (by omega)]
  show who k (marks 0 n) = _
  unfold who
  rw [marks_length, marks_getD 0 n _ (place_lt k n (by omega))]
  have := place_int k n (by omega)
  omega
/-- a start and who is left from it -/
theorem from_back (n L b : Int) (h0 : 0 ≤ b) (h1 : b < n) : ((b - L) % n + L) % n = b := by
  rw [Int.emod_add_emod, show b - L + L = b by omega]
  exact Int.emod_eq_of_lt h0 h1
end Go.Proofs.YtpajmgonceepoabDoor
