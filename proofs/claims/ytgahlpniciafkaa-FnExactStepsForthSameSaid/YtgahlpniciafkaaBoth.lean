/- The order of a count that turns, of a count forth and back, in the model: a plain list; no condition but what the chapter asks. -/
import Derived.Test.YtgahlpniciafkaaTurn
import Derived.Test.YtgahlpniciafkaaDeckT
namespace Go.Proofs.Ytgahlpniciafkaa
open Go.ChangeShapes Go.WideShapes Go.ChangeAt Go.RowKit

/-- the step of a turn: forth, back, forth, .. -/
def stp (f b : Int) (j : Nat) : Int := if j % 2 = 0 then f else b
/-- who is left after some turns, the one from whom the next turn counts first, in the way of that turn -/
def boL {α : Type} (f b : Int) (l : List α) : Nat → List α
  | 0 => l
  | j + 1 => (rest (stp f b j) (boL f b l j)).reverse
/-- who went at the first turns -/
def boT (f b : Int) (l : List Int) : Nat → List Int
  | 0 => []
  | j + 1 => boT f b l j ++ [who (stp f b j) (boL f b l j)]
theorem boT_length (f b : Int) (l : List Int) : ∀ j, (boT f b l j).length = j
  | 0 => rfl
  | j + 1 => by rw [boT, List.length_append, boT_length f b l j]; rfl
theorem boL_length (f b : Int) (l : List Int) : ∀ j, j ≤ l.length → (boL f b l j).length = l.length - j
  | 0, _ => rfl
  | j + 1, h => by
    have h1 := boL_length f b l j (by omega)
    have := rest_length (stp f b j) (boL f b l j) (by omega)
    rw [boL, List.length_reverse]
    omega
theorem who_perm' (k : Int) (l : List Int) (h : 0 < l.length) : (who k l :: rest k l).Perm l := by
  have hp := place_lt k l.length h
  have e : l = l.take (place k l.length) ++ l[place k l.length] :: l.drop (place k l.length + 1) := by
    rw [← List.drop_eq_getElem_cons hp, List.take_append_drop]
  have ew : who k l = l[place k l.length] := by unfold who; rw [List.getD_eq_getElem?_getD, List.getElem?_eq_getElem hp]; rfl
  have : (who k l :: rest k l).Perm (l.take (place k l.length) ++ l[place k l.length] :: l.drop (place k l.length + 1)) := by
    rw [ew]
    unfold rest
    exact (List.Perm.cons _ List.perm_append_comm).trans List.perm_middle.symm
  exact this.trans (by rw [← e])
/-- those who went and those who are left are all -/
theorem bo_perm (f b : Int) (l : List Int) : ∀ j, j ≤ l.length → (boT f b l j ++ boL f b l j).Perm l
  | 0, _ => List.Perm.refl _
  | j + 1, h => by
    have hl := boL_length f b l j (by omega)
    refine List.Perm.trans ?_ (bo_perm f b l j (by omega))
    rw [boT, boL, List.append_assoc]
    refine List.Perm.append_left _ ?_
    exact (List.Perm.cons _ (List.reverse_perm _)).trans (who_perm' _ _ (by omega))
theorem boT_perm (f b : Int) (l : List Int) : (boT f b l l.length).Perm l := by
  have h := bo_perm f b l l.length (Nat.le_refl _)
  have h0 : boL f b l l.length = [] := List.eq_nil_of_length_eq_zero (by rw [boL_length f b l _ (Nat.le_refl _)]; omega)
  rw [h0, List.append_nil] at h
  exact h
set_option maxRecDepth 100000 in
set_option maxHeartbeats 3200000 in
theorem boOrder_any (n : Nat) (f b : Int) (W : World) (n2 : n ≤ 200) (f1 : 1 ≤ f) (f2 : f ≤ 1000000) (b1 : 1 ≤ b) (b2 : b ≤ 1000000) :
    Calls Try.prog 42 #[.int .i64 n, .int .i64 f, .int .i64 b] W (Makes W (boT f b (marks 0 n) n)) := by
  go_enter Try.func42, Try.ntmps42
  go_wp2_with fail
  refine (ciPeople_any n W (by omega)).mono ?_
  rintro e w0 ⟨v0, rfl, hs0, hk0⟩
  have HS0 := Lib.hid hs0
  have HK0 := Lib.hid hk0
  clear hs0 hk0
  go_wp2
  go_loopw [7, 8, 9] (fun s o q wr => ∃ (j : Nat) (u r : Value), j ≤ n ∧ u = s ∧ r = o ∧ q = .bool (decide (j % 2 = 0)) ∧ Sl wr W.heap.size u (boL f b (marks 0 n) j) ∧ Sl wr W.heap.size r (boT f b (marks 0 n) j) ∧ Kp Nw W wr) (fun s _ _ _ => lenOf s)
  case atStart => exact ⟨0, _, _, Nat.zero_le _, rfl, rfl, rfl, HS0.out, Sl.nil _ _, HK0.out⟩
  case round =>
    rename_i wr
    obtain ⟨j, u, r, hj, rfl, rfl, rfl, hu, hr, hk⟩ := hrel
    have hlen := boL_length f b (marks 0 n) j (by rw [marks_length]; exact hj)
    have htl := boT_length f b (marks 0 n) j
    obtain ⟨m, hm⟩ : ∃ m, n - j = m := ⟨_, rfl⟩
    rw [marks_length, hm] at hlen
    obtain ⟨L, hL⟩ : ∃ L, boL f b (marks 0 n) j = L := ⟨_, rfl⟩
    obtain ⟨T, hT⟩ : ∃ T, boT f b (marks 0 n) j = T := ⟨_, rfl⟩
    rw [hL] at hu hlen
    rw [hT] at hr htl
    have HL := Lib.hid hL
    have HT := Lib.hid hT
    obtain ⟨A, c, rfl⟩ := hu.val hlen
    have HM := Lib.hid hlen
    have HU := Lib.hid hu
    have HR := Lib.hid hr
    have HK := Lib.hid hk
    clear hL hT hu hr hk hlen
    by_cases hp : 0 < m
    · by_cases hq : j % 2 = 0
      · skip
        have e0 : decide (j % 2 = 0) = true := decide_eq_true hq
        have HST : Hid (stp f b j = f) := Lib.hid (if_pos hq)
        have e3 : decide ((j + 1) % 2 = 0) = false := decide_eq_false (by omega)
        have E3 := Lib.hid e3
        rw [e0]
        clear e0 e3
        go_wp2_with fail
        refine (ciTurn_any _ f L _ wr HU.out (by rw [HM.out]; exact hp) (by rw [HM.out]; omega) f1 f2).mono ?_
        rintro e w1 ⟨v', rfl, hs', hk'⟩
        have hrl : (rest f L).length = m - 1 := by have := rest_length f L (by rw [HM.out]; exact hp); have := HM.out; omega
        obtain ⟨A', c', rfl⟩ := hs'.val (n := m - 1) hrl
        have HRL := Lib.hid hrl
        have HS := Lib.hid hs'
        have HK' := Lib.hid hk'
        clear hs' hk' hrl
        go_wp2_with (first | (at_builtin; refine wpList_app _ rfl (.tmp 30) (.tmp 32) rfl W.heap.size r _ T [who f L] rfl rfl ((HR.out.below HK'.out.below').below ((Kp.refl Nw w1).alloc _).below') (Rd.one (g := w1.heap.size) (by simp)) nil_one (by simp; omega) (by have := HK.out.size; have := HK'.out.size; simp; omega) ?_))
        intro r' w2 hs2 hk2 hat
        have HS2 := Lib.hid hs2
        have HK2 := Lib.hid (((HK.out.nw HK'.out).nw (.al _ _)).own ((HR.out.below HK'.out.below').below (Kp.al _ _).below') hk2)
        have HU2 := Lib.hid ((HS.out.below (Kp.al w1 _).below').kp hk2 (fun g a b => by have := (HS.out.own_ge g a).1; have := (HR.out.own_ge g b).2; omega))
        clear hs2 hk2
        go_wp2_with fail
        refine (caBack_any A' (m - 1) c' (rest f L) w2 HU2.out.rd HRL.out (by omega)).mono ?_
        rintro e w3 ⟨v3, rfl, hs3, hk3⟩
        have HS3 := Lib.hid (hs3.from HK2.out.size)
        have HR3 := Lib.hid (HS2.out.below hk3.below')
        have HK3 := Lib.hid (HK2.out.nw hk3)
        have hv3 := hs3.val (n := m - 1) (by rw [List.length_reverse]; exact HRL.out)
        obtain ⟨A3, c3, rfl⟩ := hv3
        clear hs3 hk3
        go_wp2
        go_roundw
        case rel => exact ⟨j + 1, _, r', by omega, rfl, rfl, by rw [E3.out], by rw [boL, HL.out, HST.out]; exact HS3.out, by rw [boT, HL.out, HT.out, HST.out]; exact HR3.out, HK3.out⟩
        case measure => simp [lenOf]; omega
      · skip
        have e0 : decide (j % 2 = 0) = false := decide_eq_false hq
        have HST : Hid (stp f b j = b) := Lib.hid (if_neg hq)
        have e3 : decide ((j + 1) % 2 = 0) = true := decide_eq_true (by omega)
        have E3 := Lib.hid e3
        rw [e0]
        clear e0 e3
        go_wp2_with fail
        refine (ciTurn_any _ b L _ wr HU.out (by rw [HM.out]; exact hp) (by rw [HM.out]; omega) b1 b2).mono ?_
        rintro e w1 ⟨v', rfl, hs', hk'⟩
        have hrl : (rest b L).length = m - 1 := by have := rest_length b L (by rw [HM.out]; exact hp); have := HM.out; omega
        obtain ⟨A', c', rfl⟩ := hs'.val (n := m - 1) hrl
        have HRL := Lib.hid hrl
        have HS := Lib.hid hs'
        have HK' := Lib.hid hk'
        clear hs' hk' hrl
        go_wp2_with (first | (at_builtin; refine wpList_app _ rfl (.tmp 30) (.tmp 32) rfl W.heap.size r _ T [who b L] rfl rfl ((HR.out.below HK'.out.below').below ((Kp.refl Nw w1).alloc _).below') (Rd.one (g := w1.heap.size) (by simp)) nil_one (by simp; omega) (by have := HK.out.size; have := HK'.out.size; simp; omega) ?_))
        intro r' w2 hs2 hk2 hat
        have HS2 := Lib.hid hs2
        have HK2 := Lib.hid (((HK.out.nw HK'.out).nw (.al _ _)).own ((HR.out.below HK'.out.below').below (Kp.al _ _).below') hk2)
        have HU2 := Lib.hid ((HS.out.below (Kp.al w1 _).below').kp hk2 (fun g a b => by have := (HS.out.own_ge g a).1; have := (HR.out.own_ge g b).2; omega))
        clear hs2 hk2
        go_wp2_with fail
        refine (caBack_any A' (m - 1) c' (rest b L) w2 HU2.out.rd HRL.out (by omega)).mono ?_
        rintro e w3 ⟨v3, rfl, hs3, hk3⟩
        have HS3 := Lib.hid (hs3.from HK2.out.size)
        have HR3 := Lib.hid (HS2.out.below hk3.below')
        have HK3 := Lib.hid (HK2.out.nw hk3)
        have hv3 := hs3.val (n := m - 1) (by rw [List.length_reverse]; exact HRL.out)
        obtain ⟨A3, c3, rfl⟩ := hv3
        clear hs3 hk3
        go_wp2
        go_roundw
        case rel => exact ⟨j + 1, _, r', by omega, rfl, rfl, by rw [E3.out], by rw [boL, HL.out, HST.out]; exact HS3.out, by rw [boT, HL.out, HT.out, HST.out]; exact HR3.out, HK3.out⟩
        case measure => simp [lenOf]; omega
    · have e : m = 0 := by omega
      subst e
      have ej : j = n := by omega
      have R := HR.out
      rw [← HT.out, ej] at R
      have R' := Lib.hid R
      clear R hm htl
      go_wp2
      go_ret
      exact ⟨r, rfl, R'.out, HK.out⟩
end Go.Proofs.Ytgahlpniciafkaa
