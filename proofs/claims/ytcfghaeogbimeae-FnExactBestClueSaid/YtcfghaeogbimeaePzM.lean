/- BestClue in the model, told by plain values; no condition. -/
import Derived.Test.YtcfghaeogbimeaePzE
import Derived.Test.YtcfghaeogbimeaeWith
import Derived.Test.YtcfghaeogbimeaeMTw
namespace Go.Proofs.Ytcfghaeogbimeae
open Go.ChangeShapes Go.WideShapes Go.ChangeAt Go.RowKit
/-- the least of the first k + 1 -/
def mnN (ys : List Int) : Nat → Int
  | 0 => ys.getD 0 0
  | k + 1 => min (mnN ys k) (ys.getD (k + 1) 0)
theorem mnN_le (ys : List Int) : ∀ k j, j ≤ k → mnN ys k ≤ ys.getD j 0
  | 0, j, h => by
    have e : j = 0 := by omega
    subst e
    exact Int.le_refl _
  | k + 1, j, h => by
    unfold mnN
    by_cases e : j = k + 1
    · subst e; omega
    · have := mnN_le ys k j (by omega)
      omega
theorem mnN_mem (ys : List Int) : ∀ k, ∃ j, j ≤ k ∧ mnN ys k = ys.getD j 0
  | 0 => ⟨0, Nat.le_refl _, rfl⟩
  | k + 1 => by
    obtain ⟨j, h1, h2⟩ := mnN_mem ys k
    unfold mnN
    by_cases h : mnN ys k ≤ ys.getD (k + 1) 0
    · exact ⟨j, by omega, by omega⟩
    · exact ⟨k + 1, Nat.le_refl _, by omega⟩

/-- how many circles fit each clue alone -/
def cntL (ps : List Cu) : List Int := ps.map fun p => ((solA [p] 10).length : Int)
theorem cntL_len (ps : List Cu) : (cntL ps).length = ps.length := by simp [cntL]
theorem cntL_get (ps : List Cu) (j : Nat) (h : j < ps.length) : (cntL ps).getD j 0 = ((solA ((ps.drop j).take 1) 10).length : Int) := by
  have e : (ps.drop j).take 1 = [ps[j]] := by rw [List.drop_eq_getElem_cons h]; rfl
  rw [e]
  simp [cntL, h]
/-- the model's search: the place of the least one of the first ones, and it -/
def bst (l : List Int) : Nat → Int × Int
  | 0 => (0, 0)
  | j + 1 => if j = 0 ∨ l.getD j 0 < (bst l j).2 then ((j : Int), l.getD j 0) else bst l j
theorem bst_inv (l : List Int) : ∀ j, ∃ t, t ≤ j ∧ bst l (j + 1) = ((t : Int), l.getD t 0) ∧ (∀ i, i < t → l.getD t 0 < l.getD i 0) ∧ ∀ i, i ≤ j → l.getD t 0 ≤ l.getD i 0
  | 0 => ⟨0, Nat.le_refl _, by simp [bst], fun i h => by omega, fun i h => by obtain rfl : i = 0 := by omega
                                                                              exact Int.le_refl _⟩
  | j + 1 => by
    obtain ⟨t, h1, h2, h3, h4⟩ := bst_inv l j
    rw [bst, h2]
    by_cases h : l.getD (j + 1) 0 < l.getD t 0
    · rw [if_pos (.inr h)]
      refine ⟨j + 1, Nat.le_refl _, rfl, fun i hi => ?_, fun i hi => ?_⟩
      · have := h4 i (by omega); omega
      · by_cases e : i = j + 1
        · rw [e]; exact Int.le_refl _
        · have := h4 i (by omega); omega
    · rw [if_neg (fun hh => by rcases hh with hh | hh; · omega
                               · exact h hh)]
      refine ⟨t, by omega, rfl, h3, fun i hi => ?_⟩
      by_cases e : i = j + 1
      · rw [e]; omega
      · exact h4 i (by omega)
theorem bst_min (l : List Int) (n : Nat) (h : l.length = n + 1) : fndD (mnN l n) l 0 = (bst l (n + 1)).1 := by
  obtain ⟨t, h1, h2, h3, h4⟩ := bst_inv l n
  obtain ⟨q, hq1, hq2⟩ := mnN_mem l n
  have e1 : mnN l n = l.getD t 0 := by
    have a := mnN_le l n t h1
    have b := h4 q hq1
    rw [hq2] at a ⊢
    omega
  rw [h2, fndD_first (mnN l n) l t 0 (by omega) e1.symm (fun i hi e => by have := h3 i hi; omega)]
  simp
def vBest (ps : List Cu) : Int × Bool := if puzB ps = true ∧ ps ≠ [] then ((bst (cntL ps) ps.length).1, true) else (0, false)
set_option maxRecDepth 100000 in
set_option maxHeartbeats 3200000 in
theorem sBestClue_any (g n B : Nat) (ps : List Cu) (W : World) (hs : ClAt W B g n n ps) (hm : n ≤ maxLen) :
    Calls Try.prog 7 #[.agg #[.slice (some ⟨g, 0, none⟩) n n]] W (IntB W (vBest ps).1 (vBest ps).2) := by
  have HU := Lib.hid hs.cl.rd
  have HN := Lib.hid hs.1
  obtain ⟨b, hb⟩ : ∃ b, puzB ps = b := ⟨_, rfl⟩
  have HG := Lib.hid (pzGood_any (some ⟨g, 0, none⟩) n n ps (W.alloc (.cells #[.slice (some ⟨g, 0, none⟩) n n] 30)) (hs.cl.rd.nw (.al _ _)) hs.1 hm b hb.symm)
  have HB := Lib.hid hb
  obtain ⟨r, hr⟩ : ∃ r, vBest ps = r := ⟨_, rfl⟩
  rw [hr]
  have HC1 := Lib.hid (Own1.new W (.slice (some ⟨g, 0, none⟩) n n) 30).1
  cases b
  · have HR : Hid (r = (0, false)) := Lib.hid (by rw [← hr]; unfold vBest; rw [if_neg (fun h => by rw [hb] at h; cases h.1)])
    clear hs hb hr
    go_enter Try.func7, Try.ntmps7
    go_wp2_with fail
    refine HG.out.mono ?_
    rintro e w1 ⟨rfl, hk1⟩
    have HK1 := Lib.hid ((Kp.al W _).nw hk1)
    clear hk1
    go_wp2
    go_ret2
    rw [HR.out]
    exact ⟨rfl, HK1.out⟩
  · by_cases hz : n = 0
    · subst hz
      have hp : ps = [] := List.eq_nil_of_length_eq_zero HN.out
      have HR : Hid (r = (0, false)) := Lib.hid (by rw [← hr]; unfold vBest; rw [if_neg (fun h => h.2 hp)])
      clear hs hb hr hp
      go_enter Try.func7, Try.ntmps7
      go_wp2_with fail
      refine HG.out.mono ?_
      rintro e w1 ⟨rfl, hk1⟩
      have HK1 := Lib.hid ((Kp.al W _).nw hk1)
      have c1 := keepc hk1 HC1.out (fun h => h)
      clear hk1
      go_wp2
      go_ret2
      rw [HR.out]
      exact ⟨rfl, HK1.out⟩
    have HR : Hid (r = ((bst (cntL ps) n).1, true)) := Lib.hid (by rw [← hr]; unfold vBest; rw [if_pos ⟨hb, fun h => hz (by rw [← HN.out, h]; rfl)⟩, HN.out])
    clear hs hb hr
    obtain ⟨bs, hbs⟩ : ∃ bs, bst (cntL ps) = bs := ⟨_, rfl⟩
    have HBS := Lib.hid hbs
    have HB0 : Hid (bs 0 = (0, 0)) := Lib.hid (by rw [← hbs]; rfl)
    rw [hbs] at HR
    clear hbs
    obtain ⟨h6, hall⟩ := puz_parts HB.out
    have h7 : n ≤ 6 := by have := HN.out; omega
    have n0 : (0 : Int) ≤ n := Int.natCast_nonneg _
    have z1 : ¬ (n : Int) = 0 := by omega
    have z2 : ((n : Int) == 0) = false := by simpa using z1
    go_enter Try.func7, Try.ntmps7
    go_wp2_with fail
    refine HG.out.mono ?_
    rintro e w1 ⟨rfl, hk1⟩
    have c1 := keepc hk1 HC1.out (fun h => h)
    have HC2 := Lib.hid c1
    have HK1 := Lib.hid ((Kp.al W _).nw hk1)
    have hW1 : W.heap.size < w1.heap.size := World.block_lt_of_cell? w1 _ HC2.out
    clear hk1
    go_wp2
    go_loopw [4, 5, 20] (fun o l i wy => ∃ (j : Nat) (wr : World), j ≤ n ∧ i = .int .i64 j ∧ o = .int .i64 (bs j).1 ∧ l = .int .i64 (bs j).2 ∧ wr = wy ∧ Hid (wr.cell? ⟨W.heap.size, 0, none⟩ = some (.slice (some ⟨g, 0, none⟩) n n)) ∧ Hid (Kp Nw w1 wr)) (fun _ _ i _ => n - (intOf i).toNat)
    case atStart => exact ⟨0, _, Nat.zero_le _, rfl, congrArg (fun z : Int × Int => Value.int .i64 z.1) HB0.out.symm, congrArg (fun z : Int × Int => Value.int .i64 z.2) HB0.out.symm, rfl, HC2, Lib.hid (Kp.refl _ _)⟩
    case round =>
      obtain ⟨j, wr, hj, rfl, rfl, rfl, rfl, HC, HK⟩ := hrel
      have j0 : (0 : Int) ≤ j := Int.natCast_nonneg _
      have hc := HC.out
      obtain ⟨⟨b1, b2⟩, hbb⟩ : ∃ b, bs j = b := ⟨_, rfl⟩
      rw [hbb]
      simp only
      by_cases hlt : j < n
      · have j1 : (j : Int) < n := by omega
        have q1 : IntKind.i64.wrap ((j : Int) + 1) = (j : Int) + 1 := IntWalk.i64_in _ (by omega)
        have q6 := ccut_mid g n n j (j + 1) (by omega) (by omega) hlt
        have e1 : j + 1 - j = 1 := by omega
        rw [show ((j + 1 : Nat) : Int) = (j : Int) + 1 from rfl, e1] at q6
        have HRD := Lib.hid ((HU.out.nw (HK1.out.nw HK.out)).from (o := 0) j 1 (n - j) (by omega) HN.out)
        rw [Nat.zero_add] at HRD
        have hl1 : ((ps.drop j).take 1).length = 1 := by rw [List.length_take, List.length_drop, HN.out]; omega
        have HP := Lib.hid (pzAll_any (some ⟨g, j * 3, none⟩) 1 (n - j) ((ps.drop j).take 1) wr HRD.out hl1 (by omega) (by
          rw [List.all_eq_true] at hall ⊢
          exact fun x hx => hall x (List.mem_of_mem_drop (List.mem_of_mem_take hx))))
        obtain ⟨q, hq⟩ : ∃ q, (solA ((ps.drop j).take 1) 10).length = q := ⟨_, rfl⟩
        have HNX : Hid (bs (j + 1) = if j = 0 ∨ (q : Int) < b2 then ((j : Int), (q : Int)) else (b1, b2)) := Lib.hid (by
          rw [← HBS.out] at hbb ⊢
          rw [bst, cntL_get ps j (by rw [HN.out]; exact hlt), hq, hbb])
        have HQ := Lib.hid hq
        clear hq hbb hl1 e1
        go_wp2_with fail
        refine HP.out.mono ?_
        rintro e w2 ⟨v2, rfl, hs2, hk2⟩
        obtain ⟨A2, c2, rfl⟩ := hs2.val HQ.out
        have HK2 := Lib.hid (HK.out.nw hk2)
        have HC3 := Lib.hid (keepc hk2 HC.out (fun h => h))
        clear hs2 hk2 hc
        by_cases hj0 : j = 0
        · subst hj0
          rw [if_pos (.inl rfl)] at HNX
          go_wp2
          go_roundw
          case rel => exact ⟨1, _, by omega, by go_num, congrArg (fun z : Int × Int => Value.int .i64 z.1) HNX.out.symm, congrArg (fun z : Int × Int => Value.int .i64 z.2) HNX.out.symm, rfl, HC3, HK2⟩
          case measure => simp [intOf]; omega
        · have y1 : ¬ (j : Int) = 0 := by omega
          have y2 : ((j : Int) == 0) = false := by simpa using y1
          by_cases hlq : (q : Int) < b2
          · rw [if_pos (.inr hlq)] at HNX
            go_wp2
            go_roundw
            case rel => exact ⟨j + 1, _, by omega, by go_num, congrArg (fun z : Int × Int => Value.int .i64 z.1) HNX.out.symm, congrArg (fun z : Int × Int => Value.int .i64 z.2) HNX.out.symm, rfl, HC3, HK2⟩
            case measure => simp [intOf]; omega
          · rw [if_neg (fun h => by rcases h with h | h; · exact hj0 h
                                    · exact hlq h)] at HNX
            have y3 : b2 ≤ (q : Int) := by omega
            clear q6 HP HRD HQ HB0 HG HC1 HB HC2 q1
            go_wp2_with fail
            go_roundw
            case rel => exact ⟨j + 1, _, by omega, by go_num, congrArg (fun z : Int × Int => Value.int .i64 z.1) HNX.out.symm, congrArg (fun z : Int × Int => Value.int .i64 z.2) HNX.out.symm, rfl, HC3, HK2⟩
            case measure => simp [intOf]; omega
      · have e : j = n := by omega
        subst e
        have HBB := Lib.hid hbb
        clear hbb
        go_wp2
        go_ret2
        rw [HR.out, HBB.out]
        exact ⟨rfl, HK1.out.nw HK.out⟩
end Go.Proofs.Ytcfghaeogbimeae
