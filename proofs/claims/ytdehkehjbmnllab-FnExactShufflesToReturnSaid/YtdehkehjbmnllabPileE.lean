/- A pile of the places (placesOf), equal counts (evenCounts) and the pile that is dealt as an order (undeal), in the program; no condition but that there are 1 .. 104 cards, as many counts, each 0 .. 1000. -/
import Derived.Test.YtdehkehjbmnllabPil
import Derived.Test.YtdehkehjbmnllabEven
namespace Go.Proofs.Ytdehkehjbmnllab
open Go.ChangeShapes Go.WideShapes Go.ChangeAt Go.RowKit

theorem zero_pileZ : ∃ Z : List Int, Z = List.replicate 104 0 ∧ Cds Z [] ∧ ∀ w, (zeroValue 38).run Try.prog w = .ok (.agg (plc Z 0).toArray) w :=
  ⟨List.replicate 104 0, rfl, Cds.zero, (zero_of_info pileZero).1⟩

set_option maxRecDepth 100000 in
set_option maxHeartbeats 1600000 in
theorem placesOf_any (n : Nat) (W : World) (hl : n ≤ 104) :
    Calls Try.prog 29 #[.int .i64 n] W (MakesP W (marks 0 n)) := by
  obtain ⟨Z, hZ, hz⟩ := zero_pile
  have hl1 : (plc Z 0).length = 105 := by rw [plc_length, hZ.1]
  have B0 := Lib.hid (Pb.new W Z 0)
  have HZ := Lib.hid hZ
  have K0 := Lib.hid (Kp.al W (.cells (plc Z 0).toArray 38))
  clear hZ
  go_enter Try.func29, Try.ntmps29
  go_wp2_with fail
  refine (firstNumbers_any n _ (by omega)).mono ?_
  rintro e w1 ⟨v, rfl, hs, hk⟩
  obtain ⟨A, c, rfl⟩ := hs.val (marks_length 0 n)
  have HS := Lib.hid hs
  have B1 := Lib.hid (B0.out.kp hk (fun h => h))
  have K1 := Lib.hid (K0.out.nw hk)
  clear hs hk
  go_wp2_with fail
  refine (pileOf_any A n c (marks 0 n) w1 HS.out.rd (marks_length 0 n) hl).mono ?_
  rintro e w2 ⟨v2, rfl, ⟨c2, g2, rfl⟩, hk2⟩
  have b2 := B1.out.kp hk2 (fun h => h)
  rw [marks_length]
  have hst := run_storeCells_pile (n' := n) b2 HZ.out.1 g2.1
  have hl3 : (plc c2 n).length = 105 := by rw [plc_length, g2.1]
  have HR := Lib.hid (setRow_heap w2 W.heap.size _ (plc c2 n).toArray _ _ b2)
  have HK := Lib.hid ((K1.out.nw hk2).setRow (.inr (Nat.le_refl W.heap.size)) (plc c2 n).toArray)
  have G2 := Lib.hid g2
  clear b2 hk2 g2
  go_wp2
  refine bodyPost_ret (ret_pile rfl rfl HR.out G2.out.1) rfl ?_
  exact ⟨_, rfl, ⟨_, G2.out, by rw [marks_length]⟩, HK.out⟩

/-- an order laid at places that are told -/
theorem Cds.at_ {c xs : List Int} (h : Cds c xs) (i : Nat) (x : Int) : Cds (c.set i x) (xs.set i x) := by
  obtain ⟨h1, h2, h3⟩ := h
  refine ⟨by rw [List.length_set]; exact h1, by rw [List.length_set]; exact h2, ?_⟩
  rw [List.length_set, List.take_set, h3]

end Go.Proofs.Ytdehkehjbmnllab
