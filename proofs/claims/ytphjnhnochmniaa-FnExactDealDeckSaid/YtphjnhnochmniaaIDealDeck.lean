/- What DealDeck gives in the program, told by plain lists: as the model; no condition but on lengths. -/
import Derived.Test.YtphjnhnochmniaaPileC
import Derived.Test.YtphjnhnochmniaaIDealTimes
namespace Go.Proofs.Ytphjnhnochmniaa
open Go.ChangeShapes Go.WideShapes Go.ChangeAt Go.RowKit

theorem vDealDeck_times (xs : List Int) (u : Int) : vDealDeck xs u = vDealTimes xs u 1 := by
  unfold vDealDeck vDealTimes
  by_cases h : deckB xs = true ∧ 0 ≤ u ∧ u ≤ 1000
  · rw [if_pos h, if_pos ⟨h.1, h.2.1, h.2.2, by omega, by omega⟩]
    rfl
  · rw [if_neg h, if_neg (fun h2 => h ⟨h2.1, h2.2.1, h2.2.2.1⟩)]
set_option maxRecDepth 100000 in
set_option maxHeartbeats 3200000 in
theorem iDealDeck_all (g n B : Nat) (xs : List Int) (u : Int) (W : World) (hs : SlAt W B g n n xs) (hl : n ≤ 1048576) :
    Calls Try.prog 19 #[.slice (some ⟨g, 0, none⟩) n n, .int .i64 u] W (ListB W (vDealDeck xs u).1 (vDealDeck xs u).2) := by
  rw [vDealDeck_times]
  have HS := Lib.hid hs
  clear hs
  go_enter Try.func19, Try.ntmps19
  go_wp2_with fail
  refine (iDealTimes_all g n B xs u 1 W HS.out hl).mono ?_
  rintro e w1 ⟨v, rfl, hs1, hk1⟩
  obtain ⟨rb, hrb⟩ : ∃ rb, (vDealTimes xs u 1).2 = rb := ⟨_, rfl⟩
  rw [hrb]
  have HS1 := Lib.hid hs1
  have HK1 := Lib.hid hk1
  have HRB := Lib.hid hrb
  clear hs1 hk1 hrb
  go_wp2
  go_ret2
  rw [HRB.out]
  exact ⟨v, rfl, HS1.out, HK1.out⟩
end Go.Proofs.Ytphjnhnochmniaa
