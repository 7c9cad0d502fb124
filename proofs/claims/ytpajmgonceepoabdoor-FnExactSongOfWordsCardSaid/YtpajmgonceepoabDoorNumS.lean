/- The model's text of a number (l1Num) is its decimal digits; no condition but that the number is at least 0 and at most a hundred million. -/
import Derived.Test.YtpajmgonceepoabDoorGoodS
import Derived.Laws.BytesString
import Derived.Laws.Concat
import Derived.Lib.ItoaNum
import Derived.Deep.RegionWith
namespace Go.Proofs.YtpajmgonceepoabDoor
open Go.ChangeShapes Go.WideShapes Go.ChangeAt Go.RowKit
theorem ret_string {a b : ByteArray} (h : a = b) : Ending.returned (.string a) = .returned (.string b) := by rw [h]

theorem digits_length (n : Nat) (h : n ≤ 100000000) : (Lib.decDigits n).length ≤ 20 := by
  have key : ∀ (k n : Nat), n < 10 ^ (k + 1) → (Lib.decDigits n).length ≤ k + 1 := by
    intro k
    induction k with
    | zero =>
      intro n hn
      rw [Lib.decDigits_one (by simpa using hn)]
      simp
    | succ k ih =>
      intro n hn
      by_cases h10 : n < 10
      · rw [Lib.decDigits_one h10]; simp
      · rw [Lib.decDigits, dif_neg h10, List.length_append]
        have := ih (n / 10) (by rw [Nat.div_lt_iff_lt_mul (by omega)]; rw [Nat.pow_succ] at hn; exact hn)
        simp only [List.length_cons, List.length_nil]
        omega
  have := key 9 n (by omega)
  omega

end Go.Proofs.YtpajmgonceepoabDoor
