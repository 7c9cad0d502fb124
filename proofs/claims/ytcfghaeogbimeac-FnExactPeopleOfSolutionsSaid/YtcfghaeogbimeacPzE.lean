/- The model's PeopleOfSolutions, told by plain values; no condition. -/
import Derived.Test.YtcfghaeogbimeacMPz
import Derived.Test.YtcfghaeogbimeacGood
namespace Go.Proofs.Ytcfghaeogbimeac
open Go.ChangeShapes Go.WideShapes Go.ChangeAt Go.RowKit

theorem solN_two (ps : List Cu) (n : Nat) : ∀ s, ∀ xs ∈ solN ps n s, xs.length = 2
  | 0, xs, h => by cases h
  | s + 1, xs, h => by
    rw [solN, List.mem_append] at h
    rcases h with h | h
    · exact solN_two ps n s xs h
    · split at h
      · rw [List.mem_singleton] at h
        rw [h]
        rfl
      · cases h
theorem solA_two (ps : List Cu) : ∀ n, ∀ xs ∈ solA ps n, xs.length = 2
  | 0, xs, h => by cases h
  | n + 1, xs, h => by
    rw [solA, List.mem_append] at h
    rcases h with h | h
    · exact solA_two ps n xs h
    · exact solN_two ps _ _ xs h
/-- the different first numbers of the first lists -/
def pplT (xss : List (List Int)) : Nat → List Int
  | 0 => []
  | j + 1 => if (xss.getD j []).getD 0 0 ∈ pplT xss j then pplT xss j else pplT xss j ++ [(xss.getD j []).getD 0 0]
theorem pplT_len (xss : List (List Int)) : ∀ j, (pplT xss j).length ≤ j
  | 0 => Nat.le_refl _
  | j + 1 => by
    have := pplT_len xss j
    rw [pplT]
    split
    · omega
    · rw [List.length_append, List.length_singleton]; omega
def vPeopleOfSolutions (ps : List Cu) : List Int × Bool := if puzB ps = true then (pplT (solA ps 10) (solA ps 10).length, true) else ([], false)
theorem vPeople_len (ps : List Cu) : (vPeopleOfSolutions ps).1.length ≤ 1000000 := by
  unfold vPeopleOfSolutions
  split
  · have := pplT_len (solA ps 10) (solA ps 10).length
    have := solA_len ps 10
    simp only
    omega
  · exact Nat.zero_le _

set_option maxRecDepth 100000 in
set_option maxHeartbeats 1600000 in
theorem sPeopleOfSolutions_any (A : Option Addr) (n c : Nat) (ps : List Cu) (W : World) (hu : RdC W (.slice A n c) ps) (hn : ps.length = n) (hm : n ≤ maxLen) :
    Calls Try.prog 7 #[.agg #[.slice A n c]] W (ListB W (vPeopleOfSolutions ps).1 (vPeopleOfSolutions ps).2) := by
  have HU := Lib.hid hu
  have HN := Lib.hid hn
  obtain ⟨b, hb⟩ : ∃ b, puzB ps = b := ⟨_, rfl⟩
  have HG := Lib.hid (pzGood_any A n c ps (W.alloc (.cells #[.slice A n c] 31)) (hu.nw (.al _ _)) hn hm b hb.symm)
  have HB := Lib.hid hb
  obtain ⟨r, hr⟩ : ∃ r, vPeopleOfSolutions ps = r := ⟨_, rfl⟩
  rw [hr]
  have HC1 := Lib.hid (Own1.new W (.slice A n c) 31).1
  cases b
  · have HR : Hid (r = ([], false)) := Lib.hid (by rw [← hr]; unfold vPeopleOfSolutions; rw [if_neg (fun h => by rw [hb] at h; cases h)])
    clear hu hn hb hr
    go_enter Try.func7, Try.ntmps7
    go_wp2_with fail
    refine HG.out.mono ?_
    rintro e w1 ⟨rfl, hk1⟩
    have HK1 := Lib.hid ((Kp.al W _).nw hk1)
    clear hk1
    go_wp2
    go_ret2
    rw [HR.out]
    exact ⟨_, rfl, Sl.nil _ _, HK1.out⟩
  · have HR : Hid (r = (pplT (solA ps 10) (solA ps 10).length, true)) := Lib.hid (by rw [← hr]; unfold vPeopleOfSolutions; rw [if_pos hb])
    clear hu hn hb hr
    obtain ⟨h6, hall⟩ := puz_parts HB.out
    have h7 : n ≤ 6 := by have := HN.out; omega
    go_enter Try.func7, Try.ntmps7
    go_wp2_with fail
    refine HG.out.mono ?_
    rintro e w1 ⟨rfl, hk1⟩
    have c1 := keepc hk1 HC1.out (fun h => h)
    have HK1 := Lib.hid ((Kp.al W _).nw hk1)
    clear hk1
    go_wp2_with fail
    refine (pzAll_any A n c ps _ (HU.out.nw HK1.out) HN.out h7 hall).mono ?_
    rintro e w2 ⟨v, rfl, hs, hk2⟩
    have HK2 := Lib.hid (HK1.out.nw hk2)
    have hlen := solA_len ps 10
    have htwo := solA_two ps 10
    obtain ⟨xss, hxss⟩ : ∃ xss, solA ps 10 = xss := ⟨_, rfl⟩
    rw [hxss] at hs HR hlen htwo
    obtain ⟨q, hq⟩ : ∃ q, xss.length = q := ⟨_, rfl⟩
    obtain ⟨A1, d1, rfl⟩ := hs.val hq
    rw [hq] at HR hlen
    have HQ := Lib.hid hq
    have HT : Hid (∀ j, j < q → (xss.getD j []).length = 2) := Lib.hid (fun j hj => htwo _ (by
      have hjl : j < xss.length := by omega
      rw [List.getD_eq_getElem?_getD, List.getElem?_eq_getElem hjl]
      exact List.getElem_mem hjl))
    have HS := Lib.hid hs
    have hz2 : w1.heap.size ≤ w2.heap.size := hk2.size
    clear hs hk2 hq hxss htwo h6 hall
    go_wp2
    go_loopw [4, 14] (fun o i wr => ∃ (j : Nat) (u : Value), j ≤ q ∧ i = .int .i64 j ∧ u = o ∧ Hid (Sl wr w2.heap.size u (pplT xss j)) ∧ Hid (Kp Nw w2 wr)) (fun _ i _ => q - (intOf i).toNat)
    case atStart => exact ⟨0, _, Nat.zero_le _, rfl, rfl, Lib.hid (Sl.nil _ _), Lib.hid (Kp.refl _ _)⟩
    case round =>
      rename_i wr
      obtain ⟨j, u, hj, rfl, rfl, HU1, HKR⟩ := hrel
      have j0 : (0 : Int) ≤ j := Int.natCast_nonneg _
      by_cases hlt : j < q
      · have j1 : (j : Int) < q := by omega
        obtain ⟨g, s, rfl, hcs, hsl, hown⟩ := HS.out.cell j (by rw [HQ.out]; exact hlt)
        have h2 := HT.out j hlt
        obtain ⟨g2, c2, rfl, hat, _⟩ := hsl.at_ (by omega)
        rw [h2] at hcs hat
        have cc := hat.cell 0 (by omega)
        obtain ⟨x, hx⟩ : ∃ x, (xss.getD j []).getD 0 0 = x := ⟨_, rfl⟩
        rw [hx] at cc
        have c0 := keepc HKR.out hcs (fun h => h)
        have c1 := keepc HKR.out cc (fun h => h)
        have hpl := pplT_len xss j
        have HP : Hid (pplT xss (j + 1) = if x ∈ pplT xss j then pplT xss j else pplT xss j ++ [x]) := Lib.hid (by rw [← hx]; rfl)
        have hzr : w2.heap.size ≤ wr.heap.size := HKR.out.size
        clear hcs hsl hown hat cc hx h2
        by_cases hin : x ∈ pplT xss j
        · have HH := Lib.hid (l1Has_any u (pplT xss j) x wr HU1.out.rd (by omega))
          rw [decide_eq_true hin] at HH
          rw [if_pos hin] at HP
          clear hin
          go_wp2_with fail
          refine HH.out.mono ?_
          rintro e w3 ⟨rfl, rfl⟩
          go_wp2
          go_roundw
          case rel => exact ⟨j + 1, _, by omega, by go_num, rfl, Lib.hid (by rw [HP.out]; exact HU1.out), HKR⟩
          case measure => simp [intOf]; omega
        · have HH := Lib.hid (l1Has_any u (pplT xss j) x wr HU1.out.rd (by omega))
          rw [decide_eq_false hin] at HH
          rw [if_neg hin] at HP
          clear hin
          go_wp2_with fail
          refine HH.out.mono ?_
          rintro e w3 ⟨rfl, rfl⟩
          go_wp2_with (first | (at_builtin; refine wpList_app _ rfl (.tmp 24) (.tmp 28) rfl w2.heap.size u _ (pplT xss j) [x] rfl rfl (HU1.out.below ((Kp.refl Nw wr).alloc _).below') (Rd.one (g := wr.heap.size) (by simp)) nil_one (by simp only [List.length_singleton]; omega) (by simp; omega) ?_))
          intro v3 w3 hs3 hk3 hat3
          have HS3 := Lib.hid hs3
          have HK3 := Lib.hid ((HKR.out.nw (.al _ _)).own (HU1.out.below (Kp.al _ _).below') hk3)
          clear hs3 hk3 hat3
          go_wp2
          go_roundw
          case rel => exact ⟨j + 1, _, by omega, by go_num, rfl, Lib.hid (by rw [HP.out]; exact HS3.out), HK3⟩
          case measure => simp [intOf]; omega
      · have e : j = q := by omega
        subst e
        have HUU := Lib.hid (HU1.out.from (B' := W.heap.size) HK2.out.size)
        go_wp2
        go_ret2
        rw [HR.out]
        exact ⟨_, rfl, HUU.out, HK2.out.nw HKR.out⟩
end Go.Proofs.Ytcfghaeogbimeac
