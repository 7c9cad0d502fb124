/- What MilkDeck gives in the program, told by plain lists: as the model; no condition but on lengths. -/
import Derived.Test.YtdehkehjbmnllabMilk
namespace Go.Proofs.Ytdehkehjbmnllab
open Go.ChangeShapes Go.WideShapes Go.ChangeAt Go.RowKit

set_option maxRecDepth 100000 in
set_option maxHeartbeats 3200000 in
theorem iMilkDeck_all (g n B : Nat) (xs : List Int) (W : World) (hs : SlAt W B g n n xs) (hl : n ≤ 1048576) :
    Calls Try.prog 9 #[.slice (some ⟨g, 0, none⟩) n n] W (ListB W (vMilkDeck xs).1 (vMilkDeck xs).2) := by
  have HS := Lib.hid hs
  clear hs
  unfold vMilkDeck
  obtain ⟨r, hr⟩ : ∃ r, (if deckB xs = true then (milk xs, true) else ([], false)) = r := ⟨_, rfl⟩
  rw [hr]
  have HRR := Lib.hid hr
  clear hr
  go_enter Try.func9, Try.ntmps9
  go_wp2_with fail
  have hc := shuffle_of 0 g n B xs (milk xs) W HS.out hl (milk_length xs) (Lib.hid fun v W hv => shufflePile_milk v xs W hv)
  rw [HRR.out] at hc
  refine hc.mono ?_
  rintro e w1 ⟨v, rfl, hs1, hk1⟩
  obtain ⟨L, b⟩ := r
  have HS1 := Lib.hid hs1
  have HK1 := Lib.hid hk1
  clear hs1 hk1 hc
  go_wp2
  go_ret2
  exact ⟨v, rfl, HS1.out, HK1.out⟩
end Go.Proofs.Ytdehkehjbmnllab
