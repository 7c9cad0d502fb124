/- The program's reading of a text of cats (ParseCats): exactly the texts of cats are read, all others fail. -/
import Derived.Test.YtaejlhdbdjfccaaDoorCPure
import Derived.Test.YtaejlhdbdjfccaaDoorParseI
namespace Go.Proofs.YtaejlhdbdjfccaaDoor
open Go.ChangeShapes Go.WideShapes Go.ChangeAt Go.RowKit

/-- more than 200 pieces are refused -/
theorem parseNumbersC_many (l : List UInt8) (W : World) (ps : List (List UInt8)) (hps : ps = Lib.splitK [44] 0 (min 41 (l.length + 1) - 1) l) (hM : Mx W) (hl : l.length < 2000000) (n1 : 40 < ps.length) :
    Calls Tryd.prog 25 #[.string ⟨l.toArray⟩, .string ⟨#[44]⟩, .int .i64 40, .int .i64 9] W (ListRes W [] false) := by
  obtain ⟨n, hn⟩ : ∃ n, ps.length = n := ⟨_, rfl⟩
  have hc := splitN_any l 41 W hM hl (by omega) (by omega)
  rw [← hps, hn] at hc
  rw [hn] at n1
  have HC := Lib.hid hc
  have n2 : 40 < (n : Int) := by omega
  clear hn hc hps
  go_enter Tryd.func25, Tryd.ntmps25
  go_wp2_with fail
  refine HC.out.mono ?_
  rintro e w1 ⟨c, hc1, hc2, rfl, hk1, hcell⟩
  have HK1 := Lib.hid hk1
  clear hk1 hcell
  go_wp2
  go_ret2
  exact ⟨_, rfl, Sl.nil _ _, HK1.out⟩

/-- parseNumbers at any text -/
theorem parseNumbersC_all (l : List UInt8) (W : World) (hT : Tabs W) (hM : Mx W) (hl : l.length < 2000000) :
    Calls Tryd.prog 25 #[.string ⟨l.toArray⟩, .string ⟨#[44]⟩, .int .i64 40, .int .i64 9] W (ListRes W (if listOKC (sp 44 [] l) then nums (sp 44 [] l) else []) (listOKC (sp 44 [] l))) := by
  obtain ⟨k, hk⟩ : ∃ k, min 41 (l.length + 1) - 1 = k := ⟨_, rfl⟩
  have hc := sp_count 44 l []
  have no : 40 < (sp 44 [] l).length → listOKC (sp 44 [] l) = false := fun h => by
    unfold listOKC
    rw [decide_eq_false (by omega), Bool.false_and]
  rcases splitK_sp 44 k l with ⟨e1, e2⟩ | ⟨e1, e2⟩
  · by_cases h2 : (sp 44 [] l).length ≤ 40
    · have e : listOKC (sp 44 [] l) = (sp 44 [] l).all okC := by
        unfold listOKC
        rw [decide_eq_true h2, Bool.true_and]
      rw [e]
      exact parseNumbersC_any l W _ (by rw [hk, e1]) hT hM hl (fun p hp => by have := sp_piece 44 l [] p hp; simp at this; omega) h2
    · rw [no (by omega)]
      exact parseNumbersC_many l W _ (by rw [hk, e1]) hM (by omega) (by omega)
  · rw [no (by omega)]
    exact parseNumbersC_many l W _ rfl hM (by omega) (by rw [hk, e1]; omega)

theorem cutC_any (l A B : List UInt8) (F : Bool) (W : World) (hM : Mx W) (hl : l.length ≤ 1048576) (hc : Lib.cut l [126] = (A, B, F)) :
    Calls Tryd.prog 23 #[.string ⟨l.toArray⟩, .string ⟨#[126]⟩] W fun e w' => e = .returned (.tuple #[.string ⟨A.toArray⟩, .string ⟨B.toArray⟩, .bool F]) ∧ Kp Nw W w' := by
  obtain ⟨m, hm⟩ := hM
  refine (Tryd.strings_Cut ⟨l.toArray⟩ ⟨#[126]⟩ m W (by show l.length < _; omega) hm).mono ?_
  rintro e w' ⟨rfl, n, rfl⟩
  have e1 : Lib.cut (ByteArray.mk l.toArray).data.toList (ByteArray.mk #[126]).data.toList = (A, B, F) := hc
  rw [e1]
  exact ⟨rfl, (Kp.refl _ _).drewN n⟩

set_option maxRecDepth 100000 in
set_option maxHeartbeats 1600000 in
theorem iParseCats_of (l A B : List UInt8) (F c d g : Bool) (x : Int) (xs : List Int) (W : World) (hM : Mx W) (hl : l.length ≤ 1048576) (hc : Lib.cut l [126] = (A, B, F)) (hlen : d = true → 0 < xs.length) (hxl : xs.length ≤ 2000000)
    (hS : Hid (∀ w, Kp Nw W w → Calls Tryd.prog 24 #[.string ⟨A.toArray⟩, .int .i64 1000000] w fun e w' => e = .returned (.tuple #[.int .i64 x, .bool c]) ∧ Kp Nw w w'))
    (hP : Hid (∀ w, Kp Nw W w → Calls Tryd.prog 25 #[.string ⟨B.toArray⟩, .string ⟨#[44]⟩, .int .i64 40, .int .i64 9] w (ListRes w xs d)))
    (hg : catB xs x = g) (b : Bool) (hb : (F && c && d && g) = b) (ys : List Int) (y : Int) (hys : ys = if b = true then xs else []) (hy : y = if b = true then x else 0) :
    Calls Tryd.prog 11 #[.string ⟨l.toArray⟩] W (CatsRes0 W ys y b) := by
  have HC := Lib.hid (fun w (hk : Kp Nw W w) => cutC_any l A B F w (hM.nw hk) hl hc)
  obtain ⟨n, hn⟩ : ∃ n, xs.length = n := ⟨_, rfl⟩
  have HN := Lib.hid hn
  have HLEN := Lib.hid hlen
  have HG := Lib.hid hg
  clear hc hn hlen hg hl hM
  cases F
  · obtain rfl : false = b := by rw [← hb]; simp
    obtain rfl : ys = [] := by rw [hys]; rfl
    obtain rfl : y = 0 := by rw [hy]; rfl
    clear hys hy hb
    go_enter Tryd.func11, Tryd.ntmps11
    go_wp2_with fail
    refine (HC.out _ (.al _ _)).mono ?_
    rintro e w1 ⟨rfl, hk1⟩
    have HT1 := Lib.hid ((Own2.new W (.slice none 0 0) (.int .i64 0) 28).kp hk1 (fun h => h))
    have HK1 := Lib.hid ((Kp.al W (.cells #[.slice none 0 0, .int .i64 0] 28)).nw hk1)
    clear hk1
    go_wp2_with fail
    refine (hS.out _ HK1.out).mono ?_
    rintro e w2 ⟨rfl, hk2⟩
    have HK2 := Lib.hid (HK1.out.nw hk2)
    have HT2 := Lib.hid (HT1.out.kp hk2 (fun h => h))
    clear hk2
    go_wp2_with fail
    refine (hP.out _ HK2.out).mono ?_
    rintro e w3 ⟨v, rfl, hs3, hk3⟩
    obtain ⟨A3, c3, rfl⟩ := hs3.val HN.out
    have HK3 := Lib.hid ((HK2.out.nw hk3).nw (.al w3 (.cells #[.slice A3 n c3, .int .i64 x] 28)))
    obtain ⟨q0, q1, q2, q3⟩ := (HT2.out.kp hk3 (fun h => h)).kp (.al w3 (.cells #[.slice A3 n c3, .int .i64 x] 28)) (fun h => h)
    clear hs3 hk3
    obtain ⟨y0, y1⟩ := two_set _ W.heap.size (.slice none 0 0) (.int .i64 0) _ _ q0 q1
    go_wp2
    refine bodyPost_ret (v := .tuple #[.agg #[.slice none 0 0, .int .i64 0], .bool false]) (by simp [results, Tryd.results11, go_sem, y0, y1]) rfl ⟨_, rfl, Sl.nil _ _, ?_⟩
    exact (HK3.out.setCell (.inr (Nat.le_refl _)) _).setCell (.inr (Nat.le_refl _)) _
  cases c
  · obtain rfl : false = b := by rw [← hb]; simp
    obtain rfl : ys = [] := by rw [hys]; rfl
    obtain rfl : y = 0 := by rw [hy]; rfl
    clear hys hy hb
    go_enter Tryd.func11, Tryd.ntmps11
    go_wp2_with fail
    refine (HC.out _ (.al _ _)).mono ?_
    rintro e w1 ⟨rfl, hk1⟩
    have HT1 := Lib.hid ((Own2.new W (.slice none 0 0) (.int .i64 0) 28).kp hk1 (fun h => h))
    have HK1 := Lib.hid ((Kp.al W (.cells #[.slice none 0 0, .int .i64 0] 28)).nw hk1)
    clear hk1
    go_wp2_with fail
    refine (hS.out _ HK1.out).mono ?_
    rintro e w2 ⟨rfl, hk2⟩
    have HK2 := Lib.hid (HK1.out.nw hk2)
    have HT2 := Lib.hid (HT1.out.kp hk2 (fun h => h))
    clear hk2
    go_wp2_with fail
    refine (hP.out _ HK2.out).mono ?_
    rintro e w3 ⟨v, rfl, hs3, hk3⟩
    obtain ⟨A3, c3, rfl⟩ := hs3.val HN.out
    have HK3 := Lib.hid ((HK2.out.nw hk3).nw (.al w3 (.cells #[.slice A3 n c3, .int .i64 x] 28)))
    obtain ⟨q0, q1, q2, q3⟩ := (HT2.out.kp hk3 (fun h => h)).kp (.al w3 (.cells #[.slice A3 n c3, .int .i64 x] 28)) (fun h => h)
    clear hs3 hk3
    obtain ⟨y0, y1⟩ := two_set _ W.heap.size (.slice none 0 0) (.int .i64 0) _ _ q0 q1
    go_wp2
    refine bodyPost_ret (v := .tuple #[.agg #[.slice none 0 0, .int .i64 0], .bool false]) (by simp [results, Tryd.results11, go_sem, y0, y1]) rfl ⟨_, rfl, Sl.nil _ _, ?_⟩
    exact (HK3.out.setCell (.inr (Nat.le_refl _)) _).setCell (.inr (Nat.le_refl _)) _
  cases d
  · obtain rfl : false = b := by rw [← hb]; simp
    obtain rfl : ys = [] := by rw [hys]; rfl
    obtain rfl : y = 0 := by rw [hy]; rfl
    clear hys hy hb
    go_enter Tryd.func11, Tryd.ntmps11
    go_wp2_with fail
    refine (HC.out _ (.al _ _)).mono ?_
    rintro e w1 ⟨rfl, hk1⟩
    have HT1 := Lib.hid ((Own2.new W (.slice none 0 0) (.int .i64 0) 28).kp hk1 (fun h => h))
    have HK1 := Lib.hid ((Kp.al W (.cells #[.slice none 0 0, .int .i64 0] 28)).nw hk1)
    clear hk1
    go_wp2_with fail
    refine (hS.out _ HK1.out).mono ?_
    rintro e w2 ⟨rfl, hk2⟩
    have HK2 := Lib.hid (HK1.out.nw hk2)
    have HT2 := Lib.hid (HT1.out.kp hk2 (fun h => h))
    clear hk2
    go_wp2_with fail
    refine (hP.out _ HK2.out).mono ?_
    rintro e w3 ⟨v, rfl, hs3, hk3⟩
    obtain ⟨A3, c3, rfl⟩ := hs3.val HN.out
    have HK3 := Lib.hid ((HK2.out.nw hk3).nw (.al w3 (.cells #[.slice A3 n c3, .int .i64 x] 28)))
    obtain ⟨q0, q1, q2, q3⟩ := (HT2.out.kp hk3 (fun h => h)).kp (.al w3 (.cells #[.slice A3 n c3, .int .i64 x] 28)) (fun h => h)
    clear hs3 hk3
    obtain ⟨y0, y1⟩ := two_set _ W.heap.size (.slice none 0 0) (.int .i64 0) _ _ q0 q1
    go_wp2
    refine bodyPost_ret (v := .tuple #[.agg #[.slice none 0 0, .int .i64 0], .bool false]) (by simp [results, Tryd.results11, go_sem, y0, y1]) rfl ⟨_, rfl, Sl.nil _ _, ?_⟩
    exact (HK3.out.setCell (.inr (Nat.le_refl _)) _).setCell (.inr (Nat.le_refl _)) _
  have HB := Lib.hid hb
  have HYS := Lib.hid hys
  have HY := Lib.hid hy
  clear hb hys hy
  go_enter Tryd.func11, Tryd.ntmps11
  go_wp2_with fail
  refine (HC.out _ (.al _ _)).mono ?_
  rintro e w1 ⟨rfl, hk1⟩
  have HT1 := Lib.hid ((Own2.new W (.slice none 0 0) (.int .i64 0) 28).kp hk1 (fun h => h))
  have HK1 := Lib.hid ((Kp.al W (.cells #[.slice none 0 0, .int .i64 0] 28)).nw hk1)
  clear hk1
  go_wp2_with fail
  refine (hS.out _ HK1.out).mono ?_
  rintro e w2 ⟨rfl, hk2⟩
  have HK2 := Lib.hid (HK1.out.nw hk2)
  have HT2 := Lib.hid (HT1.out.kp hk2 (fun h => h))
  clear hk2
  go_wp2_with fail
  refine (hP.out _ HK2.out).mono ?_
  rintro e w3 ⟨v, rfl, hs3, hk3⟩
  obtain ⟨g3, c3, rfl, hat, hcap, hcap2, hge, hlt⟩ := hs3.at_ (HLEN.out trivial)
  rw [HN.out] at hat hcap ⊢
  have HK3 := Lib.hid (HK2.out.nw hk3)
  have HS3 := Lib.hid hat
  have hk3' := hk3
  clear hs3 hk3 hat hge
  have t3 := Lib.hid ((HT2.out.kp hk3' (fun h => h)).kp (.al w3 (.cells #[.slice (some ⟨g3, 0, none⟩) n c3, .int .i64 x] 28)) (fun h => h))
  clear hk3'
  go_wp2_with fail
  refine (iAreCats_any (some ⟨g3, 0, none⟩) c3 n xs x _ (HS3.out.sl.rd.nw (.al _ _)) HS3.out.1 (by have h9 := HS3.out.1; omega) g HG.out.symm).mono ?_
  rintro e w4 ⟨rfl, hk4⟩
  have HT4 := Lib.hid ((Own2.new w3 (.slice (some ⟨g3, 0, none⟩) n c3) (.int .i64 x) 28).kp hk4 (fun h => h))
  have HS4 := Lib.hid ((HS3.out.alloc (.cells #[.slice (some ⟨g3, 0, none⟩) n c3, .int .i64 x] 28)).sl.below hk4.below')
  have HK4 := Lib.hid ((HK3.out.nw (.al w3 (.cells #[.slice (some ⟨g3, 0, none⟩) n c3, .int .i64 x] 28))).nw hk4)
  obtain ⟨q0, q1, q2, q3⟩ := t3.out.kp hk4 (fun h => h)
  obtain ⟨r0, r1, r2, r3⟩ := HT4.out
  have z2 := HK2.out.size
  have z1 : W.heap.size < w2.heap.size := World.block_lt_of_cell? w2 _ HT2.out.1
  clear hk4
  have hb := HB.out
  have hys := HYS.out
  have hy := HY.out
  clear HB HYS HY
  cases g
  · obtain rfl : false = b := by rw [← hb]; simp
    obtain rfl : ys = [] := by rw [hys]; rfl
    obtain rfl : y = 0 := by rw [hy]; rfl
    clear hys hy hb
    obtain ⟨y0, y1⟩ := two_set _ W.heap.size (.slice none 0 0) (.int .i64 0) _ _ q0 q1
    go_wp2
    refine bodyPost_ret (v := .tuple #[.agg #[.slice none 0 0, .int .i64 0], .bool false]) (by simp [results, Tryd.results11, go_sem, y0, y1]) rfl ⟨_, rfl, Sl.nil _ _, ?_⟩
    exact (HK4.out.setCell (.inr (Nat.le_refl _)) _).setCell (.inr (Nat.le_refl _)) _
  · obtain rfl : true = b := by rw [← hb]; simp
    obtain rfl : ys = xs := by rw [hys]; rfl
    obtain rfl : y = x := by rw [hy]; rfl
    clear hys hy hb
    obtain ⟨y0, y1⟩ := two_set _ W.heap.size (.slice (some ⟨g3, 0, none⟩) n c3) (.int .i64 y) _ _ q0 q1
    go_wp2
    refine bodyPost_ret (v := .tuple #[.agg #[.slice (some ⟨g3, 0, none⟩) n c3, .int .i64 y], .bool true]) (by simp [results, Tryd.results11, go_sem, y0, y1]) rfl ⟨_, rfl, ?_, ?_⟩
    · have k1' : Kp (fun b => b = W.heap.size) w4 w4 := Kp.refl _ _
      exact (HS4.out.kp ((k1'.setCell (.inl rfl) _).setCell (.inl rfl) _) (fun g hg e => by have := (HS4.out.own_ge g hg).1; omega)).from z2
    · exact (HK4.out.setCell (.inr (Nat.le_refl _)) _).setCell (.inr (Nat.le_refl _)) _

end Go.Proofs.YtaejlhdbdjfccaaDoor
