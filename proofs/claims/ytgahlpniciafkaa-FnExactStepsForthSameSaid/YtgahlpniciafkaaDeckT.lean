/- More of the model's functions of decks: deals that are repeated, the last card, cuts, turned decks and shuffles; no condition but what the chapter asks. -/
import Derived.Test.YtgahlpniciafkaaDeckS
import Derived.Test.YtgahlpniciafkaaRot
import Derived.Deep.RegionLaw
namespace Go.Proofs.Ytgahlpniciafkaa
open Go.ChangeShapes Go.WideShapes Go.ChangeAt Go.RowKit

theorem Sl.lit1 (w : World) (x : Int) : Sl (w.alloc (.cells #[.int .i64 x] 3)) w.heap.size (.slice (some ⟨w.heap.size, 0, none⟩) 1 1) [x] :=
  ⟨by simp, .inr ⟨w.heap.size, 1, #[.int .i64 x], rfl, Nat.le_refl _, heap_alloc_new w _, Nat.le_refl _, by unfold maxLen; omega, by simp, by simp⟩⟩
theorem Sl.lit2 (w : World) (x y : Int) : Sl (w.alloc (.cells #[.int .i64 x, .int .i64 y] 3)) w.heap.size (.slice (some ⟨w.heap.size, 0, none⟩) 2 2) [x, y] :=
  ⟨by simp, .inr ⟨w.heap.size, 2, #[.int .i64 x, .int .i64 y], rfl, Nat.le_refl _, heap_alloc_new w _, Nat.le_refl _, by unfold maxLen; omega, by simp, by simp⟩⟩

/-- deals that are repeated -/
def deals (u : Int) : Nat → List Int → List Int
  | 0, l => l
  | t + 1, l => deals u t (deal l (List.replicate l.length u))
theorem deals_length (u : Int) : ∀ (t : Nat) (l : List Int), (deals u t l).length = l.length
  | 0, l => rfl
  | t + 1, l => by rw [deals, deals_length u t, deal_length, List.length_replicate]

theorem ciPeople_as (m : Nat) (W : World) (hm : m ≤ 1000) : Calls Try.prog 35 #[.int .i64 ((m : Int) + 1)] W (Makes W (marks 0 (m + 1))) := ciPeople_any (m + 1) W (by omega)
set_option maxRecDepth 100000 in
set_option maxHeartbeats 1600000 in
theorem caBack_any (A : Option Addr) (n c : Nat) (xs : List Int) (W : World) (hu : Rd W (.slice A n c) xs) (hn : xs.length = n) (hl : n ≤ 1000) :
    Calls Try.prog 58 #[.slice A n c] W (Makes W xs.reverse) := by
  obtain ⟨A', c', hAc, hA⟩ := id hu
  have eA : A = A' := by injection hAc
  subst eA
  have HA := Lib.hid hA
  have HN := Lib.hid hn
  have n0 : (0 : Int) ≤ n := Int.natCast_nonneg _
  have q0 : IntKind.i64.wrap ((n : Int) - 1) = (n : Int) - 1 := IntWalk.i64_in _ (by omega)
  clear hu hn hA hAc
  go_enter Try.func58, Try.ntmps58
  go_wp2
  go_loopw [3, 4] (fun o v wr => ∃ (j : Nat) (z : Int) (r : Value), j ≤ n ∧ z = (n : Int) - 1 - j ∧ v = .int .i64 z ∧ r = o ∧ Sl wr W.heap.size r (xs.reverse.take j) ∧ Kp Nw W wr) (fun _ v _ => (intOf v + 1).toNat)
  case atStart => exact ⟨0, _, _, Nat.zero_le _, by simp, rfl, rfl, Sl.nil _ _, Kp.refl _ _⟩
  case round =>
    obtain ⟨j, z, r, hj, hz, rfl, rfl, hr, hk⟩ := hrel
    have HR := Lib.hid hr
    have HK := Lib.hid hk
    have HZ := Lib.hid hz
    clear hr hk
    by_cases hlt : j < n
    · obtain ⟨q, hq⟩ : ∃ q : Nat, z = q := ⟨z.toNat, by omega⟩
      have hqn : q = n - 1 - j := by omega
      obtain ⟨g0, o0, rfl, hc⟩ := HA.out q (by rw [HN.out]; omega)
      subst hq
      have c0 := keepc HK.out hc (fun h => h)
      obtain ⟨x, hx⟩ : ∃ x, xs.getD q 0 = x := ⟨_, rfl⟩
      rw [hx] at c0
      have HT : Hid (xs.reverse.take (j + 1) = xs.reverse.take j ++ [x]) := Lib.hid (by
        have hl' : j < xs.reverse.length := by rw [List.length_reverse, HN.out]; exact hlt
        rw [List.take_succ_eq_append_getElem hl', List.getElem_reverse]
        congr 2
        rw [← hx, List.getD_eq_getElem?_getD]
        simp only [HN.out, ← hqn]
        rw [List.getElem?_eq_getElem (by rw [HN.out]; omega)]
        rfl)
      have w0 : (0 : Int) ≤ q := Int.natCast_nonneg _
      have w1 : (q : Int) < n := by omega
      have w2 : IntKind.i64.wrap ((q : Int) - 1) = (q : Int) - 1 := IntWalk.i64_in _ (by omega)
      have hzz : W.heap.size ≤ wr.heap.size := HK.out.size
      have hzl : (xs.reverse.take j).length ≤ 1000 := by simp; omega
      clear hc hx hqn hz
      go_wp2_with (first | (at_builtin; refine wpList_app _ rfl (.tmp 12) (.tmp 17) rfl W.heap.size r _ (xs.reverse.take j) [x] rfl rfl (HR.out.below ((Kp.refl Nw wr).alloc _).below') (Rd.one (g := wr.heap.size) (by simp)) nil_one (by simp; omega) (by simp; omega) ?_))
      intro r' w3 hs3 hk3 hat
      have HS3 := Lib.hid hs3
      have HK3 := Lib.hid ((HK.out.nw (.al _ _)).own (HR.out.below (Kp.al _ _).below') hk3)
      clear hs3 hk3 hat
      go_wp2
      go_roundw
      case rel => exact ⟨j + 1, _, r', by omega, by have := HZ.out; omega, rfl, rfl, by rw [HT.out]; exact HS3.out, HK3.out⟩
      case measure => simp [intOf] <;> omega
    · have e : j = n := by omega
      have zn : ¬ 0 ≤ z := by omega
      have zn2 : z < 0 := by omega
      have E : Hid (xs.reverse.take j = xs.reverse) := Lib.hid (List.take_of_length_le (by rw [List.length_reverse, HN.out]; omega))
      clear hz e
      go_wp2
      go_ret
      exact ⟨r, rfl, by rw [← E.out]; exact HR.out, HK.out⟩
end Go.Proofs.Ytgahlpniciafkaa
