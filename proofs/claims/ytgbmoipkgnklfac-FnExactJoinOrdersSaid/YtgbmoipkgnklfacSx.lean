/- Slices at the head of a block of the call's own that may be longer and of another type; marks on them; the law of JoinOrders for such results; no condition but on lengths. -/
import Derived.Test.YtgbmoipkgnklfacLaws7
namespace Go.Proofs.Ytgbmoipkgnklfac
open Go.ChangeShapes Go.WideShapes Go.ChangeAt Go.RowKit

def Sx (w : World) (B : Nat) (v : Value) (xs : List Int) : Prop := (v = .slice none 0 0 ∧ xs = []) ∨
  ∃ g cap cur t, v = .slice (some ⟨g, 0, none⟩) xs.length cap ∧ B ≤ g ∧ w.heap[g]? = some (.cells cur t (0, 0)) ∧ cur.toList.take xs.length = xs.map (Value.int .i64)
theorem Sx.nil (w : World) (B : Nat) : Sx w B (.slice none 0 0) [] := .inl ⟨rfl, rfl⟩
theorem sx_cell {w : World} {g : Nat} {cur : Array Value} {t : TypeId} {xs : List Int} (hb : w.heap[g]? = some (.cells cur t (0, 0))) (ht : cur.toList.take xs.length = xs.map (Value.int .i64)) (k : Nat) (hk : k < xs.length) : w.cell? ⟨g, k, none⟩ = some (.int .i64 (xs.getD k 0)) := by
  rw [cell_of_row w g k _ _ _ hb, ← Array.getElem?_toList, ← List.getElem?_take_of_lt hk, ht]
  simp [hk]
theorem Sx.rd {w : World} {B : Nat} {v : Value} {xs : List Int} (h : Sx w B v xs) : Rd w v xs := by
  rcases h with ⟨rfl, rfl⟩ | ⟨g, cap, cur, t, rfl, _, hb, ht⟩
  · exact ⟨none, 0, rfl, fun k hk => by simp at hk⟩
  · exact ⟨_, cap, rfl, fun k hk => ⟨g, 0, rfl, by rw [Nat.zero_add]; exact sx_cell hb ht k hk⟩⟩
theorem Sx.val {w : World} {B : Nat} {v : Value} {xs : List Int} (h : Sx w B v xs) {n : Nat} (hn : xs.length = n) : ∃ A c, v = .slice A n c := by
  subst hn
  rcases h with ⟨rfl, rfl⟩ | ⟨g, cap, cur, t, rfl, _⟩
  · exact ⟨none, 0, rfl⟩
  · exact ⟨_, cap, rfl⟩
theorem Sx.own_ge {w : World} {B : Nat} {v : Value} {xs : List Int} (h : Sx w B v xs) : ∀ g, v.ownBlock = some g → B ≤ g ∧ g < w.heap.size := by
  intro g' hg
  rcases h with ⟨rfl, rfl⟩ | ⟨g, cap, cur, t, rfl, hB, hb, _⟩
  · simp [Value.ownBlock] at hg
  · have e : g' = g := by simp [Value.ownBlock] at hg; omega
    rw [e]
    exact ⟨hB, (Array.getElem?_eq_some_iff.1 hb).1⟩
theorem Sx.kp {w w' : World} {B : Nat} {v : Value} {xs : List Int} {S : Nat → Prop} (h : Sx w B v xs) (hk : Kp S w w') (hs : ∀ g, v.ownBlock = some g → ¬ S g) : Sx w' B v xs := by
  rcases h with h | ⟨g, cap, cur, t, rfl, hB, hb, ht⟩
  · exact .inl h
  · exact .inr ⟨g, cap, cur, t, rfl, hB, (hk.block g (Array.getElem?_eq_some_iff.1 hb).1 (hs g rfl)).trans hb, ht⟩
theorem Sx.below {w w' : World} {B : Nat} {v : Value} {xs : List Int} (h : Sx w B v xs) (hk : Below w.heap.size w w') : Sx w' B v xs :=
  h.kp (S := fun _ => False) (.of_below hk) (fun _ _ hs => hs)
theorem Sx.from {w : World} {B B' : Nat} {v : Value} {xs : List Int} (h : Sx w B v xs) (hB : B' ≤ B) : Sx w B' v xs := by
  rcases h with h | ⟨g, cap, cur, t, rfl, hb, r⟩
  · exact .inl h
  · exact .inr ⟨g, cap, cur, t, rfl, by omega, r⟩
theorem Sl.sx {w : World} {B : Nat} {v : Value} {xs : List Int} (h : Sl w B v xs) : Sx w B v xs := by
  rcases h.2 with ⟨rfl, h0⟩ | ⟨g, cap, cur, rfl, hB, hb, _, _, _, ht⟩
  · exact .inl ⟨rfl, List.eq_nil_of_length_eq_zero h0⟩
  · exact .inr ⟨g, cap, cur, _, rfl, hB, hb, by rw [Nat.mul_one] at ht; exact ht⟩
theorem sx_store {w : World} {g j : Nat} {cur : Array Value} {t : TypeId} {xs : List Int} (hb : w.heap[g]? = some (.cells cur t (0, 0))) (ht : cur.toList.take xs.length = xs.map (Value.int .i64)) (u : Int) :
    ∃ cur', (w.setCell ⟨g, j, none⟩ (.int .i64 u)).heap[g]? = some (.cells cur' t (0, 0)) ∧ cur'.toList.take (xs.set j u).length = (xs.set j u).map (Value.int .i64) := by
  refine ⟨_, heap_setCell_same w g j _ _ (.int .i64 u) hb, ?_⟩
  rw [Array.toList_setIfInBounds, List.length_set, List.take_set, ht, List.map_set]
set_option maxHeartbeats 400000 in
theorem markIntS_x (v : Value) (xs : List Int) (k : Int) (w : World) (B : Nat) (hv : Sx w B v xs) (h0 : 0 ≤ k) (h1 : k ≤ 1000000000) (hl : xs.length ≤ 1000000000) :
    Calls Try.prog 10 #[v, .int .i64 k] w fun e w' => e = .returned (.int .i64 (k + xs.length)) ∧ Sx w' B v (marks k xs.length) ∧ Kp (fun g => v.ownBlock = some g) w w' := by
  rcases hv with ⟨rfl, rfl⟩ | ⟨g, cap, cur, t, rfl, hB, hb, ht⟩
  · go_enter Try.func10, Try.ntmps10
    go_wp2
    refine wp_loop_rounds 1 ?_
    rw [rounds_succ]
    go_wp2
    go_ret
    exact ⟨ret_int' (by simp), by simpa [marks] using Sx.nil w B, Kp.refl _ _⟩
  · have hv2 : ∃ cur, w.heap[g]? = some (.cells cur t (0, 0)) ∧ cur.toList.take xs.length = (marks k 0 ++ xs.drop 0).map (Value.int .i64) := ⟨cur, hb, by simpa [marks] using ht⟩
    clear hb ht
    have HB := Lib.hid hB
    go_enter Try.func10, Try.ntmps10
    go_wp2
    go_loopw [1, 5] (fun kk i wr => ∃ j : Nat, j ≤ xs.length ∧ i = .int .i64 j ∧ kk = .int .i64 (k + j) ∧ (∃ cur, wr.heap[g]? = some (.cells cur t (0, 0)) ∧ cur.toList.take xs.length = (marks k j ++ xs.drop j).map (Value.int .i64)) ∧ Kp (fun b => b = g) w wr) (fun _ i _ => xs.length - (intOf i).toNat)
    case atStart => exact ⟨0, Nat.zero_le _, rfl, by simp, hv2, Kp.refl _ _⟩
    case round =>
      obtain ⟨j, hj, rfl, rfl, ⟨cur, hb, ht⟩, hk⟩ := hrel
      have hll : (marks k j ++ xs.drop j).length = xs.length := by rw [List.length_append, marks_length, List.length_drop]; omega
      by_cases hlt : j < xs.length
      · rw [← hll] at ht
        have c := sx_cell hb ht j (by omega)
        have f := frozen_of_row _ g j _ _ hb
        obtain ⟨cur', hb', ht'⟩ := sx_store (j := j) hb ht (k + (j : Int))
        have HB' := Lib.hid hb'
        have HT' : Hid (cur'.toList.take xs.length = (marks k (j + 1) ++ xs.drop (j + 1)).map (Value.int .i64)) := Lib.hid (by
          rw [List.length_set, hll, marks_step k xs j hlt] at ht'
          exact ht')
        have h2 : (0 : Int) ≤ j := Int.natCast_nonneg _
        have h3 : (j : Int) < xs.length := by omega
        clear hb ht hb' ht' hll
        go_wp2
        go_roundw
        case rel => exact ⟨j + 1, by omega, by go_num, by go_num, ⟨cur', HB'.out, HT'.out⟩, hk.setCell (.inl rfl) _⟩
        case measure => simp [intOf]; omega
      · have e : j = xs.length := by omega
        have hs' := Lib.hid hb
        have ht' := Lib.hid ht
        clear hb ht hll
        go_wp2
        go_ret
        refine ⟨ret_int' (by rw [e]), .inr ⟨g, cap, cur, t, by rw [marks_length], HB.out, hs'.out, ?_⟩, hk.mono (fun b _ hb => by rw [hb]; rfl)⟩
        have := ht'.out
        rw [e, List.drop_length, List.append_nil] at this
        rw [marks_length]
        exact this
def ListX (W : World) (xs : List Int) (b : Bool) (e : Ending) (w' : World) : Prop := ∃ v, e = .returned (.tuple #[v, .bool b]) ∧ Sx w' W.heap.size v xs ∧ Kp Nw W w'

set_option maxHeartbeats 3200000 in
set_option maxRecDepth 100000 in
theorem lawJoinOrders_ofx (Aa : Option Addr) (na ca : Nat) (xsa : List Int) (Ab : Option Addr) (nb cb : Nat) (xsb : List Int) (zs : List Int) (b : Bool) (W : World) (hua : Rd W (.slice Aa na ca) xsa) (hna : xsa.length = na) (ha : na ≤ 1048576) (hub : Rd W (.slice Ab nb cb) xsb) (hnb : xsb.length = nb) (hb : nb ≤ 1048576) (hlen : zs.length ≤ 1000000)
    (hS : Hid (∀ (ga Ba : Nat) (gb Bb : Nat) (W : World), SlAt W Ba ga na na xsa → SlAt W Bb gb nb nb xsb → Calls Try.prog 6 #[.slice (some ⟨ga, 0, none⟩) na na, .slice (some ⟨gb, 0, none⟩) nb nb] W (ListB W zs b))) (hI : Hid (∀ (ga Ba : Nat) (gb Bb : Nat) (W : World), SlAt W Ba ga na na xsa → SlAt W Bb gb nb nb xsb → Calls Try.prog 8 #[.slice (some ⟨ga, 0, none⟩) na na, .slice (some ⟨gb, 0, none⟩) nb nb] W (ListX W zs b))) :
    Calls Try.prog 3 #[.slice Aa na ca, .slice Ab nb cb] W fun e w' => e = .returned (.bool true) ∧ Kp Nw W w' := by
  obtain ⟨m, hm⟩ : ∃ m, zs.length = m := ⟨_, rfl⟩
  have HL : Hid (zs.length ≤ maxLen) := Lib.hid (by unfold maxLen; omega)
  have hlen : m ≤ 1000000 := by omega
  have hm0 : (0 : Int) ≤ m := Int.natCast_nonneg _
  have HM := Lib.hid hm
  clear hm
  have HUa := Lib.hid hua
  have HNa := Lib.hid hna
  have HLXa : Hid (xsa.length ≤ maxLen) := Lib.hid (by unfold maxLen; omega)
  have n0a : (0 : Int) ≤ na := Int.natCast_nonneg _
  have q1a : (na : Int) ≤ 1048576 := by omega
  clear hua hna
  have HUb := Lib.hid hub
  have HNb := Lib.hid hnb
  have HLXb : Hid (xsb.length ≤ maxLen) := Lib.hid (by unfold maxLen; omega)
  have n0b : (0 : Int) ≤ nb := Int.natCast_nonneg _
  have q1b : (nb : Int) ≤ 1048576 := by omega
  clear hub hnb
  have HK := Lib.hid (Kp.refl Nw W)
  go_enter Try.func3, Try.ntmps3
  go_wp2_with fail
  refine (toIntS_any _ na xsa _ (HUa.out.nw HK.out) HNa.out ha).mono ?_
  rintro e w1 ⟨g1, rfl, hs1, hk1, hg1, hl1⟩
  have HTa := Lib.hid hs1
  have RHTa : Hid (W.heap.size ≤ g1 ∧ g1 < w1.heap.size) := Lib.hid ⟨hg1, hl1⟩
  have HK := Lib.hid (HK.out.nw hk1)
  have z1 : W.heap.size ≤ w1.heap.size := hk1.size
  clear hs1 hk1 hg1 hl1
  go_wp2_with fail
  refine (toIntS_any _ nb xsb _ (HUb.out.nw HK.out) HNb.out hb).mono ?_
  rintro e w2 ⟨g2, rfl, hs2, hk2, hg2, hl2⟩
  have HTb := Lib.hid hs2
  have RHTb : Hid (w1.heap.size ≤ g2 ∧ g2 < w2.heap.size) := Lib.hid ⟨hg2, hl2⟩
  have HTa := Lib.hid (HTa.out.kq hk2 (fun h => h))
  have HK := Lib.hid (HK.out.nw hk2)
  have z2 : w1.heap.size ≤ w2.heap.size := hk2.size
  clear hs2 hk2 hg2 hl2
  go_wp2_with fail
  refine (hS.out g1 _ g2 _ _ HTa.out HTb.out).mono ?_
  rintro e w3 ⟨v3, rfl, hs3, hk3⟩
  obtain ⟨A3, c3, rfl⟩ := hs3.val HM.out
  have HV3 := Lib.hid hs3
  have O3 : Hid (∀ g, (Value.slice A3 m c3).ownBlock = some g → w2.heap.size ≤ g ∧ g < w3.heap.size) := Lib.hid hs3.own_ge
  have HTa := Lib.hid (HTa.out.kq hk3 (fun h => h))
  have HTb := Lib.hid (HTb.out.kq hk3 (fun h => h))
  have HK := Lib.hid (HK.out.nw hk3)
  have z3 : w2.heap.size ≤ w3.heap.size := hk3.size
  clear hs3 hk3
  go_wp2_with fail
  refine (toIntS_any _ na xsa _ (HUa.out.nw HK.out) HNa.out ha).mono ?_
  rintro e w4 ⟨g4, rfl, hs4, hk4, hg4, hl4⟩
  have HXa := Lib.hid hs4
  have RHXa : Hid (w3.heap.size ≤ g4 ∧ g4 < w4.heap.size) := Lib.hid ⟨hg4, hl4⟩
  have HV3 := Lib.hid (HV3.out.below hk4.below')
  have HK := Lib.hid (HK.out.nw hk4)
  have z4 : w3.heap.size ≤ w4.heap.size := hk4.size
  clear hs4 hk4 hg4 hl4
  go_wp2_with fail
  refine (toIntS_any _ nb xsb _ (HUb.out.nw HK.out) HNb.out hb).mono ?_
  rintro e w5 ⟨g5, rfl, hs5, hk5, hg5, hl5⟩
  have HXb := Lib.hid hs5
  have RHXb : Hid (w4.heap.size ≤ g5 ∧ g5 < w5.heap.size) := Lib.hid ⟨hg5, hl5⟩
  have HV3 := Lib.hid (HV3.out.below hk5.below')
  have HXa := Lib.hid (HXa.out.kq hk5 (fun h => h))
  have HK := Lib.hid (HK.out.nw hk5)
  have z5 : w4.heap.size ≤ w5.heap.size := hk5.size
  clear hs5 hk5 hg5 hl5
  go_wp2_with fail
  refine (hI.out g4 _ g5 _ _ HXa.out HXb.out).mono ?_
  rintro e w6 ⟨v6, rfl, hs6, hk6⟩
  obtain ⟨A6, c6, rfl⟩ := hs6.val HM.out
  have HV6 := Lib.hid hs6
  have O6 : Hid (∀ g, (Value.slice A6 m c6).ownBlock = some g → w5.heap.size ≤ g ∧ g < w6.heap.size) := Lib.hid hs6.own_ge
  have HV3 := Lib.hid (HV3.out.below hk6.below')
  have HXa := Lib.hid (HXa.out.kq hk6 (fun h => h))
  have HXb := Lib.hid (HXb.out.kq hk6 (fun h => h))
  have HK := Lib.hid (HK.out.nw hk6)
  have z6 : w5.heap.size ≤ w6.heap.size := hk6.size
  clear hs6 hk6
  go_wp2_with fail
  refine (eqIntS_same _ _ zs _ HV6.out.rd HV3.out.rd HL.out).mono ?_
  rintro e w7 ⟨rfl, d7, hd7⟩
  have hk7 : Kp Nw w6 w7 := by rw [hd7]; exact (Kp.refl _ _).drewN d7
  have z7 : w6.heap.size ≤ w7.heap.size := hk7.size
  clear hd7
  have HV3 := Lib.hid (HV3.out.below hk7.below')
  have HXa := Lib.hid (HXa.out.kq hk7 (fun h => h))
  have HXb := Lib.hid (HXb.out.kq hk7 (fun h => h))
  have HV6 := Lib.hid (HV6.out.below hk7.below')
  have HK := Lib.hid (HK.out.nw hk7)
  clear hk7
  go_wp2_with fail
  refine (toIntS_any _ na xsa _ (HUa.out.nw HK.out) HNa.out ha).mono ?_
  rintro e w8 ⟨g8, rfl, hs8, hk8, hg8, hl8⟩
  have HYa := Lib.hid hs8
  have RHYa : Hid (w7.heap.size ≤ g8 ∧ g8 < w8.heap.size) := Lib.hid ⟨hg8, hl8⟩
  have HV3 := Lib.hid (HV3.out.below hk8.below')
  have HXa := Lib.hid (HXa.out.kq hk8 (fun h => h))
  have HXb := Lib.hid (HXb.out.kq hk8 (fun h => h))
  have HV6 := Lib.hid (HV6.out.below hk8.below')
  have HK := Lib.hid (HK.out.nw hk8)
  have z8 : w7.heap.size ≤ w8.heap.size := hk8.size
  clear hs8 hk8 hg8 hl8
  go_wp2_with fail
  refine (eqIntS_same _ _ xsa _ HXa.out.sl.rd HYa.out.sl.rd HLXa.out).mono ?_
  rintro e w9 ⟨rfl, d9, hd9⟩
  have hk9 : Kp Nw w8 w9 := by rw [hd9]; exact (Kp.refl _ _).drewN d9
  have z9 : w8.heap.size ≤ w9.heap.size := hk9.size
  clear hd9
  have HV3 := Lib.hid (HV3.out.below hk9.below')
  have HXa := Lib.hid (HXa.out.kq hk9 (fun h => h))
  have HXb := Lib.hid (HXb.out.kq hk9 (fun h => h))
  have HV6 := Lib.hid (HV6.out.below hk9.below')
  have HYa := Lib.hid (HYa.out.kq hk9 (fun h => h))
  have HK := Lib.hid (HK.out.nw hk9)
  clear hk9
  go_wp2_with fail
  refine (toIntS_any _ nb xsb _ (HUb.out.nw HK.out) HNb.out hb).mono ?_
  rintro e w10 ⟨g10, rfl, hs10, hk10, hg10, hl10⟩
  have HYb := Lib.hid hs10
  have RHYb : Hid (w9.heap.size ≤ g10 ∧ g10 < w10.heap.size) := Lib.hid ⟨hg10, hl10⟩
  have HV3 := Lib.hid (HV3.out.below hk10.below')
  have HXa := Lib.hid (HXa.out.kq hk10 (fun h => h))
  have HXb := Lib.hid (HXb.out.kq hk10 (fun h => h))
  have HV6 := Lib.hid (HV6.out.below hk10.below')
  have HK := Lib.hid (HK.out.nw hk10)
  have z10 : w9.heap.size ≤ w10.heap.size := hk10.size
  clear hs10 hk10 hg10 hl10
  go_wp2_with fail
  refine (eqIntS_same _ _ xsb _ HXb.out.sl.rd HYb.out.sl.rd HLXb.out).mono ?_
  rintro e w11 ⟨rfl, d11, hd11⟩
  have hk11 : Kp Nw w10 w11 := by rw [hd11]; exact (Kp.refl _ _).drewN d11
  have z11 : w10.heap.size ≤ w11.heap.size := hk11.size
  clear hd11
  have HV3 := Lib.hid (HV3.out.below hk11.below')
  have HXa := Lib.hid (HXa.out.kq hk11 (fun h => h))
  have HXb := Lib.hid (HXb.out.kq hk11 (fun h => h))
  have HV6 := Lib.hid (HV6.out.below hk11.below')
  have HYb := Lib.hid (HYb.out.kq hk11 (fun h => h))
  have HK := Lib.hid (HK.out.nw hk11)
  clear hk11
  go_wp2_with fail
  refine (markIntS_any _ xsa (1) _ _ HXa.out.sl (by omega) (by omega) (by rw [HNa.out]; omega)).mono ?_
  rintro e w12 ⟨rfl, _, hk12⟩
  rw [HNa.out]
  have z12 : w11.heap.size ≤ w12.heap.size := hk12.size
  have Ma : Hid (∀ g, (Value.slice (some ⟨g4, 0, none⟩) na na).ownBlock = some g → w3.heap.size ≤ g ∧ g < w4.heap.size) := Lib.hid (fun g hg => by
    have e9 : g = g4 := by simp [Value.ownBlock] at hg; omega
    rw [e9]; exact RHXa.out)
  have HV3 := Lib.hid (HV3.out.kp hk12 (fun g a b => by have := O3.out g a; have := Ma.out g b; omega))
  have HXb := Lib.hid (HXb.out.kq hk12 (fun hg => by have := Ma.out _ hg; have := RHXb.out; omega))
  have HV6 := Lib.hid (HV6.out.kp hk12 (fun g a b => by have := O6.out g a; have := Ma.out g b; omega))
  have HK := Lib.hid (HK.out.after hk12 (fun g hg h2 => by have := Ma.out g h2; omega))
  clear hk12
  go_wp2_with fail
  refine (markIntS_any _ xsb (1 + (na : Int)) _ _ HXb.out.sl (by omega) (by omega) (by rw [HNb.out]; omega)).mono ?_
  rintro e w13 ⟨rfl, _, hk13⟩
  rw [HNb.out]
  have z13 : w12.heap.size ≤ w13.heap.size := hk13.size
  have Mb : Hid (∀ g, (Value.slice (some ⟨g5, 0, none⟩) nb nb).ownBlock = some g → w4.heap.size ≤ g ∧ g < w5.heap.size) := Lib.hid (fun g hg => by
    have e9 : g = g5 := by simp [Value.ownBlock] at hg; omega
    rw [e9]; exact RHXb.out)
  have HV3 := Lib.hid (HV3.out.kp hk13 (fun g a b => by have := O3.out g a; have := Mb.out g b; omega))
  have HV6 := Lib.hid (HV6.out.kp hk13 (fun g a b => by have := O6.out g a; have := Mb.out g b; omega))
  have HK := Lib.hid (HK.out.after hk13 (fun g hg h2 => by have := Mb.out g h2; omega))
  clear hk13
  go_wp2_with fail
  refine (eqIntS_same _ _ zs _ HV6.out.rd HV3.out.rd HL.out).mono ?_
  rintro e w14 ⟨rfl, d14, hd14⟩
  have hk14 : Kp Nw w13 w14 := by rw [hd14]; exact (Kp.refl _ _).drewN d14
  have z14 : w13.heap.size ≤ w14.heap.size := hk14.size
  clear hd14
  have HV3 := Lib.hid (HV3.out.below hk14.below')
  have HV6 := Lib.hid (HV6.out.below hk14.below')
  have HK := Lib.hid (HK.out.nw hk14)
  clear hk14
  go_wp2_with fail
  refine (markIntS_x _ zs 1 _ _ HV6.out (by omega) (by omega) (by rw [HM.out]; omega)).mono ?_
  rintro e w15 ⟨rfl, hs15, hk15⟩
  rw [HM.out] at hs15 ⊢
  have z15 : w14.heap.size ≤ w15.heap.size := hk15.size
  have HV3 := Lib.hid (HV3.out.kp hk15 (fun g a b => by have := O3.out g a; have := O6.out g b; omega))
  have HK := Lib.hid (HK.out.after hk15 (fun g hg h2 => by have := O6.out g h2; omega))
  have HV6 := Lib.hid hs15
  clear hs15 hk15
  go_wp2_with fail
  refine (heldIntS_any _ 1 m _ HV6.out.rd (by omega) (by omega) (by omega)).mono ?_
  rintro e w16 ⟨rfl, rfl⟩
  go_wp2_with fail
  refine (toIntS_any _ na xsa _ (HUa.out.nw HK.out) HNa.out ha).mono ?_
  rintro e w17 ⟨g17, rfl, hs17, hk17, hg17, hl17⟩
  have HZa := Lib.hid hs17
  have RHZa : Hid (w15.heap.size ≤ g17 ∧ g17 < w17.heap.size) := Lib.hid ⟨hg17, hl17⟩
  have HV3 := Lib.hid (HV3.out.below hk17.below')
  have HV6 := Lib.hid (HV6.out.below hk17.below')
  have HK := Lib.hid (HK.out.nw hk17)
  have z17 : w15.heap.size ≤ w17.heap.size := hk17.size
  clear hs17 hk17 hg17 hl17
  go_wp2_with fail
  refine (toIntS_any _ nb xsb _ (HUb.out.nw HK.out) HNb.out hb).mono ?_
  rintro e w18 ⟨g18, rfl, hs18, hk18, hg18, hl18⟩
  have HZb := Lib.hid hs18
  have RHZb : Hid (w17.heap.size ≤ g18 ∧ g18 < w18.heap.size) := Lib.hid ⟨hg18, hl18⟩
  have HV3 := Lib.hid (HV3.out.below hk18.below')
  have HV6 := Lib.hid (HV6.out.below hk18.below')
  have HZa := Lib.hid (HZa.out.kq hk18 (fun h => h))
  have HK := Lib.hid (HK.out.nw hk18)
  have z18 : w17.heap.size ≤ w18.heap.size := hk18.size
  clear hs18 hk18 hg18 hl18
  go_wp2_with fail
  refine (hI.out g17 _ g18 _ _ HZa.out HZb.out).mono ?_
  rintro e w19 ⟨v19, rfl, hs19, hk19⟩
  obtain ⟨A19, c19, rfl⟩ := hs19.val HM.out
  have HV19 := Lib.hid hs19
  have O19 : Hid (∀ g, (Value.slice A19 m c19).ownBlock = some g → w18.heap.size ≤ g ∧ g < w19.heap.size) := Lib.hid hs19.own_ge
  have HV3 := Lib.hid (HV3.out.below hk19.below')
  have HV6 := Lib.hid (HV6.out.below hk19.below')
  have HZa := Lib.hid (HZa.out.kq hk19 (fun h => h))
  have HZb := Lib.hid (HZb.out.kq hk19 (fun h => h))
  have HK := Lib.hid (HK.out.nw hk19)
  have z19 : w18.heap.size ≤ w19.heap.size := hk19.size
  clear hs19 hk19
  go_wp2_with fail
  refine (eqIntS_same _ _ zs _ HV19.out.rd HV3.out.rd HL.out).mono ?_
  rintro e w20 ⟨rfl, d20, hd20⟩
  have hk20 : Kp Nw w19 w20 := by rw [hd20]; exact (Kp.refl _ _).drewN d20
  have z20 : w19.heap.size ≤ w20.heap.size := hk20.size
  clear hd20
  have HV3 := Lib.hid (HV3.out.below hk20.below')
  have HV6 := Lib.hid (HV6.out.below hk20.below')
  have HV19 := Lib.hid (HV19.out.below hk20.below')
  have HK := Lib.hid (HK.out.nw hk20)
  clear hk20
  go_wp2_with fail
  refine (heldIntS_any _ 1 m _ HV6.out.rd (by omega) (by omega) (by omega)).mono ?_
  rintro e wl ⟨rfl, rfl⟩
  go_wp2
  go_ret
  exact ⟨rfl, HK.out⟩


theorem lawJoinOrders7 (A : Option Addr) (n c : Nat) (xs : List Int) (A2 : Option Addr) (n2 c2 : Nat) (ys : List Int) (W : World) (hu : Rd W (.slice A n c) xs) (hn : xs.length = n) (hm : n ≤ maxLen) (hu2 : Rd W (.slice A2 n2 c2) ys) (hn2 : ys.length = n2) (hm2 : n2 ≤ maxLen)
    (hI : ∀ (g B g2 B2 : Nat) (W : World), n ≤ 1048576 → n2 ≤ 1048576 → SlAt W B g n n xs → SlAt W B2 g2 n2 n2 ys → Calls Try.prog 8 #[.slice (some ⟨g, 0, none⟩) n n, .slice (some ⟨g2, 0, none⟩) n2 n2] W (ListX W (vJoin xs ys).1 (vJoin xs ys).2)) :
    Calls Try.prog 3 #[.slice A n c, .slice A2 n2 c2] W fun e w' => e = .returned (.bool true) ∧ Kp Nw W w' := by
  by_cases hl : n ≤ 1048576
  · by_cases hl2 : n2 ≤ 1048576
    · exact lawJoinOrders_ofx A n c xs A2 n2 c2 ys _ _ W hu hn hl hu2 hn2 hl2 (vJoin_len xs ys) (Lib.hid fun g B g2 B2 W hs hs2 => sJoinOrders_any g n B xs g2 n2 B2 ys W hs hs2 hl hl2) (Lib.hid fun g B g2 B2 W hs hs2 => hI g B g2 B2 W hl hl2 hs hs2)
    · exact lawJoinOrders_bigb A n c A2 n2 c2 W hl hm2 (by omega)
  · exact lawJoinOrders_biga A n c A2 n2 c2 W hm (by omega)
end Go.Proofs.Ytgbmoipkgnklfac
