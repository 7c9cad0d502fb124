/- The program's ParsePuzzle: exactly the texts of puzzles are read, into their clues, all others fail; in a world that holds the library's tables. -/
import Derived.Test.YtcekobdnghllcacDoorPPzI
namespace Go.Proofs.YtcekobdnghllcacDoor
open Go.ChangeShapes Go.WideShapes Go.ChangeAt Go.RowKit

theorem puz_close9 {W w1 : World} {v : Value} {xs : List Cu} (b : Nat) (hs : Cl w1 (W.heap.size + b + 1) v xs) (hk : Kp Nw W w1) :
    Cl (w1.setCell ⟨W.heap.size + b, 0, none⟩ v) W.heap.size v xs ∧ Kp Nw W (w1.setCell ⟨W.heap.size + b, 0, none⟩ v) := by
  refine ⟨?_, hk.setCell (.inr (by show W.heap.size ≤ W.heap.size + b; omega)) _⟩
  have k9 : Kp (fun g => g = W.heap.size + b) w1 w1 := Kp.refl _ _
  exact (hs.kp (k9.setCell (p := ⟨W.heap.size + b, 0, none⟩) (.inl rfl) v) (fun gg a b => by have := (hs.own_ge gg a).1; omega)).from (by omega)
theorem puz_none9 {W w1 : World} (b : Nat) (hz : W.heap.size + b + 1 ≤ w1.heap.size) (hk : Kp Nw W w1) :
    Cl (w1.setCell ⟨W.heap.size + b, 0, none⟩ (.slice none 0 0)) W.heap.size (.slice none 0 0) [] ∧ Kp Nw W (w1.setCell ⟨W.heap.size + b, 0, none⟩ (.slice none 0 0)) :=
  puz_close9 b ((Cl.nil w1 w1.heap.size).from hz) hk

theorem pgP_six {l : List UInt8} (h6 : (pcs l).length ≤ 6) : pgP l = (pcs l).all cluOK := by
  unfold pgP
  rw [decide_eq_true h6, Bool.true_and]
theorem pgP_many {l : List UInt8} (h6 : 6 < (pcs l).length) : pgP l = false := by
  unfold pgP
  rw [decide_eq_false (by omega), Bool.false_and]

set_option maxRecDepth 100000 in
set_option maxHeartbeats 1600000 in
theorem iParsePuzzle_any (l : List UInt8) (W : World) (hT : Tabs W) (hM : Mx W) (hl : l.length < 2000000) (zs : List Cu) (b : Bool) (hb : pgP l = b) (hz : zs = if b = true then (pcs l).map rdC else []) :
    Calls Tryd.prog 5 #[.string ⟨l.toArray⟩] W (PuzB W zs b) := by
  by_cases he : l = []
  · subst he
    have hR := Lib.hid (readClues9_any none 0 0 [] (W.alloc (.cells #[.slice none 0 0] 24)) (fun j hj => by omega) rfl (by omega) (hT.nw (.al _ _)) (hM.nw (.al _ _)) (fun p hp => by cases hp) true rfl)
    simp only [if_true, List.map_nil] at hR
    obtain rfl : b = true := by rw [← hb]; rfl
    obtain rfl : zs = [] := by rw [hz]; rfl
    have hbe : ((⟨([] : List UInt8).toArray⟩ : ByteArray) == ⟨#[]⟩) = true := by rfl
    have O0 := Lib.hid (Own1.new W (.slice none 0 0) 24)
    clear hT hM hb hz hl
    go_enter Tryd.func5, Tryd.ntmps5
    go_wp2_with fail
    refine hR.out.mono ?_
    rintro e w1 ⟨v, rfl, hs1, hk1⟩
    obtain ⟨A1, c1, rfl⟩ := hs1.cl.val (n := 0) rfl
    have O1 := O0.out.kp hk1 (fun h => h)
    have HZ := Lib.hid (puz_close9 (W := W) 0 (hs1.cl.from (by simp)) ((Kp.al W _).nw hk1))
    simp only [Nat.add_zero] at HZ
    obtain ⟨o0, o1⟩ := O1
    have z0 := one_set w1 W.heap.size (.slice A1 0 c1) _ o0
    clear hs1 hk1
    go_wp2
    exact bodyPost_ret (v := .tuple #[.agg #[.slice A1 0 c1], .bool true]) (by simp [results, Tryd.results5, go_sem, z0]) rfl ⟨_, rfl, HZ.out.1, HZ.out.2⟩
  · have hpc : pcs l = sp 44 [] l := by unfold pcs; rw [if_neg he]
    have hcn := sp_count 44 l []
    obtain ⟨k, hk⟩ : ∃ k, min 7 (l.length + 1) - 1 = k := ⟨_, rfl⟩
    have hsn := splitN_any l 7 (W.alloc (.cells #[.slice none 0 0] 24)) (hM.nw (.al _ _)) hl (by omega) (by omega)
    rw [hk] at hsn
    obtain ⟨ls, hls⟩ : ∃ ls, Lib.splitK [44] 0 k l = ls := ⟨_, rfl⟩
    have hsk := splitK_sp 44 k l
    rw [hls] at hsn hsk
    obtain ⟨n, hn⟩ : ∃ n, ls.length = n := ⟨_, rfl⟩
    rw [hn] at hsn hsk
    rw [show ((7 : Nat) : Int) = 7 from rfl] at hsn
    have HSN := Lib.hid hsn
    have hn8 : n ≤ 7 := by
      rcases hsk with ⟨e1, e2⟩ | ⟨e1, e2⟩
      · rw [← hn, e1]; omega
      · omega
    have HR : Hid (∀ (w : World) (c : Nat) (g : Nat), Kp Nw W w → (∀ j, j < n → w.cell? ⟨g, j, none⟩ = some (strV (ls.getD j []))) → Calls Tryd.prog 11 #[.slice (some ⟨g, 0, none⟩) n c, .func (.func 12) #[] #[]] w (if b = true then CluesB w zs else NoCluesB w)) := Lib.hid (by
      intro w c g hkw hcell
      rcases hsk with ⟨e1, e2⟩ | ⟨e1, e2⟩
      · subst e1
        rw [hpc] at hz
        by_cases h6 : n ≤ 6
        · have hp6 := pgP_six (l := l) (by rw [hpc, hn]; exact h6)
          rw [hb, hpc] at hp6
          have R := readClues9_any (some ⟨g, 0, none⟩) n c (sp 44 [] l) w (fun j hj => ⟨g, rfl, hcell j hj⟩) hn h6 (hT.nw hkw) (hM.nw hkw) (fun p hp => by have := sp_piece 44 l [] p hp; simp at this; omega) b hp6.symm
          rw [hz]
          cases b
          · exact R
          · exact R
        · have hp := pgP_many (l := l) (by rw [hpc, hn]; omega)
          rw [hb] at hp
          rw [hp]
          exact readClues_long9 _ n c _ w (by omega) (by unfold maxLen; omega)
      · have hp := pgP_many (l := l) (by rw [hpc]; omega)
        rw [hb] at hp
        rw [hp]
        exact readClues_long9 _ n c _ w (by omega) (by unfold maxLen; omega))
    have hba : ¬ l.toArray = #[] := by simpa using he
    have hbl : (l == []) = false := by simpa using he
    have HZ0 : Hid (b = false → zs = []) := Lib.hid (fun h => by rw [hz, h]; rfl)
    have O0 := Lib.hid (Own1.new W (.slice none 0 0) 24)
    clear hT hM hb hz hl hpc hcn hk hsn hls hsk hn
    go_enter Tryd.func5, Tryd.ntmps5
    go_wp2_with fail
    refine HSN.out.mono ?_
    rintro e w1 ⟨c, hc1, hc2, rfl, hk1, hcell⟩
    have HK1 := Lib.hid ((Kp.al W _).nw hk1)
    have O1 := Lib.hid (O0.out.kp hk1 (fun h => h))
    have hc9 := HR.out w1 c _ ((Kp.al W _).nw hk1) hcell
    simp only [World.size_alloc] at hc9
    have HC := Lib.hid hc9
    clear hc9
    clear hk1 hcell HR
    cases b
    · obtain rfl : zs = [] := HZ0.out rfl
      simp only [Bool.false_eq_true, if_false] at HC
      go_wp2_with fail
      refine HC.out.mono ?_
      rintro e w2 ⟨rfl, hk2⟩
      have O2 := O1.out.kp hk2 (fun h => h)
      have hz2 : W.heap.size + 1 ≤ w2.heap.size := World.block_lt_of_cell? w2 _ O2.1
      have HZ := Lib.hid (puz_none9 (W := W) 0 hz2 (HK1.out.nw hk2))
      simp only [Nat.add_zero] at HZ
      obtain ⟨o0, o1⟩ := O2
      have z0 := one_set w2 W.heap.size (.slice none 0 0) _ o0
      clear hk2
      go_wp2
      exact bodyPost_ret (v := .tuple #[.agg #[.slice none 0 0], .bool false]) (by simp [results, Tryd.results5, go_sem, z0]) rfl ⟨_, rfl, HZ.out.1, HZ.out.2⟩
    · simp only [if_true] at HC
      go_wp2_with fail
      refine HC.out.mono ?_
      rintro e w2 ⟨v, rfl, hs2, hk2⟩
      obtain ⟨A2, c2, rfl⟩ := hs2.cl.val rfl
      have O2 := O1.out.kp hk2 (fun h => h)
      have hz1 : W.heap.size + 1 ≤ w1.heap.size := World.block_lt_of_cell? w1 _ O1.out.1
      have HZ := Lib.hid (puz_close9 (W := W) 0 (hs2.cl.from (by omega)) (HK1.out.nw hk2))
      simp only [Nat.add_zero] at HZ
      obtain ⟨o0, o1⟩ := O2
      have z0 := one_set w2 W.heap.size (.slice A2 zs.length c2) _ o0
      clear hk2 hs2
      go_wp2
      exact bodyPost_ret (v := .tuple #[.agg #[.slice A2 zs.length c2], .bool true]) (by simp [results, Tryd.results5, go_sem, z0]) rfl ⟨_, rfl, HZ.out.1, HZ.out.2⟩
end Go.Proofs.YtcekobdnghllcacDoor
