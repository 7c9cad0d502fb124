/- The law of DoesFit at every clue and two integers: the program and its model say the same; no condition. -/
import Derived.Test.YtcfghaeogbimeaaFit
namespace Go.Proofs.Ytcfghaeogbimeaa
open Go.ChangeShapes Go.WideShapes Go.ChangeAt Go.RowKit

set_option maxRecDepth 100000 in
set_option maxHeartbeats 1600000 in
theorem lawDoesFit_all (p : Cu) (n k : Int) (W : World) : Calls Try.prog 5 #[.agg #[.int .i64 p.1, .int .i64 p.2.1, .int .i64 p.2.2], .int .i64 n, .int .i64 k] W fun e w' => e = .returned (.bool true) ∧ Kp Nw W w' := by
  have HT := Lib.hid (toClue_any p)
  have HS := Lib.hid (sDoesFit_any p n k)
  have HI := Lib.hid (iDoesFit_any p n k)
  obtain ⟨⟨b0, b1⟩, hb⟩ : ∃ b, vDoesFit p n k = b := ⟨_, rfl⟩
  rw [hb] at HS HI
  have HB := Lib.hid (fun (w' : World) (hk : Kp Nw (W.alloc (.cells #[.int .i64 p.1, .int .i64 p.2.1, .int .i64 p.2.2] 23)) w') => (Own3.new W p 23).kp hk (fun h => h))
  obtain ⟨x, y, z⟩ := p
  simp only at HT HS HI HB ⊢
  clear hb
  go_enter Try.func5, Try.ntmps5
  go_wp2_with fail
  refine (HT.out _).mono ?_
  rintro e w1 ⟨rfl, hk1⟩
  have HK1 := Lib.hid hk1
  clear hk1
  go_wp2_with fail
  refine (HS.out _).mono ?_
  rintro e w2 ⟨rfl, hk2⟩
  have HK2 := Lib.hid (HK1.out.nw hk2)
  obtain ⟨⟨c0, c1, c2⟩, _⟩ := HB.out _ HK2.out
  have hb2 : W.heap.size < w2.heap.size := World.block_lt_of_cell? w2 _ c0
  simp only at c0 c1 c2
  clear hk2
  go_wp2_with fail
  refine (HT.out _).mono ?_
  rintro e w3 ⟨rfl, hk3⟩
  have HK3 := Lib.hid (HK2.out.nw hk3)
  clear hk3
  go_wp2_with fail
  refine (HI.out _).mono ?_
  rintro e w4 ⟨rfl, hk4⟩
  have HK4 := Lib.hid (HK3.out.nw hk4)
  clear hk4
  go_wp2
  go_ret
  exact ⟨rfl, (Kp.al W _).nw HK4.out⟩
end Go.Proofs.Ytcfghaeogbimeaa
