/- The texts SoT, SoO, SoR, SoP, SoF, SoB, SoQ, SoS, as one. -/
import Derived.Test.YtalikikafcicpacLwSo
import Derived.Test.YtalikikafcicpacTurn
import Derived.Test.YtalikikafcicpacDeck
import Derived.Test.YtalikikafcicpacLow
import Derived.Test.YtalikikafcicpacAt
import Derived.Test.YtalikikafcicpacLwO7
import Derived.Test.YtalikikafcicpacPut
import Derived.Test.YtalikikafcicpacGood
import Derived.Test.YtalikikafcicpacDeckF
namespace Go.Proofs.Ytalikikafcicpac
open Go.ChangeShapes Go.WideShapes Go.ChangeAt Go.RowKit

/-- are these the counts of a song? -/
def sgB (xs : List Int) : Bool := decide (1 ≤ xs.length ∧ xs.length ≤ 20) && xs.all (okR 1 1000000)
theorem sgB_len {xs : List Int} (h : sgB xs = true) : 1 ≤ xs.length ∧ xs.length ≤ 20 := by
  unfold sgB at h; rw [Bool.and_eq_true] at h; exact of_decide_eq_true h.1
theorem sgB_get {xs : List Int} (h : sgB xs = true) (j : Nat) (hj : j < xs.length) : 1 ≤ xs.getD j 0 ∧ xs.getD j 0 ≤ 1000000 := by
  unfold sgB at h; rw [Bool.and_eq_true] at h
  have := List.all_eq_true.1 h.2 (xs[j]) (List.getElem_mem _)
  simp [okR] at this
  simpa [hj] using this
/-- the count of a turn -/
def cnt (xs : List Int) (t : Nat) : Int := xs.getD (t % xs.length) 0
theorem cnt_rng {xs : List Int} (h : sgB xs = true) (t : Nat) : 1 ≤ cnt xs t ∧ cnt xs t ≤ 1000000 := sgB_get h _ (Nat.mod_lt _ (sgB_len h).1)
/-- who is left after some turns of a song, the one from whom the next turn counts first -/
def soL (xs : List Int) (l : List Int) : Nat → List Int
  | 0 => l
  | j + 1 => rest (cnt xs j) (soL xs l j)
/-- who went at the first turns -/
def soT (xs : List Int) (l : List Int) : Nat → List Int
  | 0 => []
  | j + 1 => soT xs l j ++ [who (cnt xs j) (soL xs l j)]
theorem soT_length (xs l : List Int) : ∀ j, (soT xs l j).length = j
  | 0 => rfl
  | j + 1 => by rw [soT, List.length_append, soT_length xs l j]; rfl
theorem soL_length (xs l : List Int) : ∀ j, j ≤ l.length → (soL xs l j).length = l.length - j
  | 0, _ => rfl
  | j + 1, h => by
    have h1 := soL_length xs l j (by omega)
    have := rest_length (cnt xs j) (soL xs l j) (by omega)
    rw [soL]
    omega
theorem who_perm8 (k : Int) (l : List Int) (h : 0 < l.length) : (who k l :: rest k l).Perm l := by
  have hp := place_lt k l.length h
  have e : l = l.take (place k l.length) ++ l[place k l.length] :: l.drop (place k l.length + 1) := by
    rw [← List.drop_eq_getElem_cons hp, List.take_append_drop]
  have ew : who k l = l[place k l.length] := by unfold who; rw [List.getD_eq_getElem?_getD, List.getElem?_eq_getElem hp]; rfl
  have : (who k l :: rest k l).Perm (l.take (place k l.length) ++ l[place k l.length] :: l.drop (place k l.length + 1)) := by
    rw [ew]
    unfold rest
    exact (List.Perm.cons _ List.perm_append_comm).trans List.perm_middle.symm
  exact this.trans (by rw [← e])
/-- those who went and those who are left are all -/
theorem so_perm (xs l : List Int) : ∀ j, j ≤ l.length → (soT xs l j ++ soL xs l j).Perm l
  | 0, _ => List.Perm.refl _
  | j + 1, h => by
    have hl := soL_length xs l j (by omega)
    refine List.Perm.trans ?_ (so_perm xs l j (by omega))
    rw [soT, soL, List.append_assoc]
    exact List.Perm.append_left _ (who_perm8 _ _ (by omega))
theorem soT_perm (xs l : List Int) : (soT xs l l.length).Perm l := by
  have h := so_perm xs l l.length (Nat.le_refl _)
  have h0 : soL xs l l.length = [] := List.eq_nil_of_length_eq_zero (by rw [soL_length xs l _ (Nat.le_refl _)]; omega)
  rw [h0, List.append_nil] at h
  exact h

set_option maxHeartbeats 1600000 in
theorem soGood_any (A : Option Addr) (n c : Nat) (xs : List Int) (W : World) (hu : Rd W (.slice A n c) xs) (hn' : xs.length = n) (hl : n ≤ 2000000) (b : Bool) (hb : b = sgB xs) :
    Calls Try.prog 29 #[.agg #[.slice A n c]] W fun e w' => e = .returned (.bool b) ∧ Kp Nw W w' := by
  have HB := Lib.hid hb
  have HR := Lib.hid hu
  have HN := Lib.hid hn'
  have HLE : Hid (xs.length ≤ 2000000) := Lib.hid (by omega)
  clear hu hb hn'
  by_cases hn : (n : Int) < 1 ∨ 20 < (n : Int)
  · have HF : Hid (b = false) := Lib.hid (by rw [HB.out]; unfold sgB; rw [decide_eq_false (by have := HN.out; omega)]; rfl)
    go_enter Try.func29, Try.ntmps29
    go_wp2_with (first | ((with_reducible refine (l1In_no (n : Int) _ _ _ hn).mono ?_); rintro e w' ⟨rfl, rfl⟩))
    go_ret
    exact ⟨ret_bool HF.out.symm, Kp.al _ _⟩
  · have n1 : 1 ≤ (n : Int) := by omega
    have n2 : (n : Int) ≤ 20 := by omega
    clear hn
    obtain ⟨d, hd⟩ : ∃ d, xs.all (okR 1 1000000) = d := ⟨_, rfl⟩
    have HD := Lib.hid hd
    have HF : Hid (b = d) := Lib.hid (by rw [HB.out]; unfold sgB; rw [decide_eq_true (by have := HN.out; omega), hd]; rfl)
    clear hd
    cases d
    all_goals
      go_enter Try.func29, Try.ntmps29
      go_wp2_with (first | ((with_reducible refine (l1In_yes (n : Int) _ _ _ n1 n2).mono ?_); rintro e w' ⟨rfl, rfl⟩) | ((with_reducible refine (l1All_rng_as 1 1000000 _ xs _ _ (HR.out.nw (.al _ _)) HLE.out HD.out).mono ?_); rintro e w' ⟨rfl, rfl⟩))
      go_ret
      exact ⟨ret_bool HF.out.symm, Kp.al _ _⟩

set_option maxHeartbeats 800000 in
/-- a song and people -/
theorem soAsked_any (A : Option Addr) (n c : Nat) (xs : List Int) (p : Int) (W : World) (hu : Rd W (.slice A n c) xs) (hn : xs.length = n) (hl : n ≤ 2000000) (b : Bool) (hb : b = (sgB xs && decide (1 ≤ p ∧ p ≤ 200))) :
    Calls Try.prog 17 #[.agg #[.slice A n c], .int .i64 p] W fun e w' => e = .returned (.bool b) ∧ Kp Nw W w' := by
  have HR := Lib.hid hu
  have HN := Lib.hid hn
  have HB := Lib.hid hb
  clear hu hn hb
  obtain ⟨d, hd⟩ : ∃ d, sgB xs = d := ⟨_, rfl⟩
  have HD := Lib.hid hd
  rw [hd] at HB
  clear hd
  by_cases ha : Asked p 1
  · have HF : Hid (b = d) := Lib.hid (by rw [HB.out, decide_eq_true ⟨ha.p1, ha.p2⟩, Bool.and_true])
    cases d
    all_goals
      go_enter Try.func17, Try.ntmps17
      go_wp2_with (first | (refine (soGood_any A n c xs _ (HR.out.nw (.al _ _)) HN.out hl _ HD.out.symm).mono ?_; rintro e w1 ⟨rfl, hk⟩; have HK := Lib.hid ((Kp.al _ _).nw hk); clear hk) | ((with_reducible refine (ciAsked_yes p 1 _ ha).mono ?_); rintro e w' ⟨rfl, rfl⟩))
      go_ret
      exact ⟨ret_bool HF.out.symm, HK.out⟩
  · have HF : Hid (b = false) := Lib.hid (by
      rw [HB.out, decide_eq_false (fun h => ha ⟨h.1, h.2, by omega, by omega⟩), Bool.and_false])
    cases d
    all_goals
      go_enter Try.func17, Try.ntmps17
      go_wp2_with (first | (refine (soGood_any A n c xs _ (HR.out.nw (.al _ _)) HN.out hl _ HD.out.symm).mono ?_; rintro e w1 ⟨rfl, hk⟩; have HK := Lib.hid ((Kp.al _ _).nw hk); clear hk) | ((with_reducible refine (ciAsked_no p 1 _ ha).mono ?_); rintro e w' ⟨rfl, rfl⟩))
      go_ret
      exact ⟨ret_bool HF.out.symm, HK.out⟩

/-- what some turns return: who went, who is left -/
def TurnsRes (W : World) (xs l : List Int) (t : Nat) (e : Ending) (w' : World) : Prop := ∃ v v', e = .returned (.tuple #[v, v']) ∧ Sl w' W.heap.size v (soT xs l t) ∧ Sl w' W.heap.size v' (soL xs l t) ∧ Kp Nw W w'

set_option maxRecDepth 100000 in
set_option maxHeartbeats 3200000 in
theorem soTurns_any (A : Option Addr) (n c : Nat) (xs : List Int) (v : Value) (l : List Int) (t : Nat) (W : World) (hu : Rd W (.slice A n c) xs) (hn : xs.length = n) (hg : sgB xs = true) (hv : Rd W v l) (hvn : Vn v l) (hl : l.length ≤ 1000) (ht : t ≤ l.length) :
    Calls Try.prog 31 #[.agg #[.slice A n c], v, .int .i64 t] W (TurnsRes W xs l t) := by
  have n1 : 1 ≤ n := by have := sgB_len hg; omega
  have n2 : n ≤ 20 := by have := sgB_len hg; omega
  have HG := Lib.hid hg
  have HN := Lib.hid hn
  have HV := Lib.hid hv
  have HVN := Lib.hid hvn
  obtain ⟨A', c', e', hA⟩ := hu
  rw [hn] at e'
  injection e' with e1 e2 e3
  subst e1 e3
  obtain ⟨g, o, rfl, -⟩ := hA 0 (by omega)
  have HA : Hid (∀ i, i < n → W.cell? ⟨g, o + i, none⟩ = some (.int .i64 (xs.getD i 0))) := Lib.hid (fun i hi => by
    obtain ⟨g', o', e, hc⟩ := hA i (by omega)
    injection e with e
    injection e with e1 e2
    rw [e1, e2]; exact hc)
  have hlen := soL_length xs l
  have HLEN := Lib.hid hlen
  have HT := Lib.hid ht
  have hl2 : t ≤ 1000 := by omega
  have HL := Lib.hid hl
  clear hA hg hn hv hvn hlen ht hl
  go_enter Try.func31, Try.ntmps31
  go_wp2_with fail
  refine (l1Own_any v l _ (HV.out.nw (.al _ _)) HVN.out (by have := HL.out; omega)).mono ?_
  rintro e w0 ⟨v0, rfl, hs0, hk0⟩
  have HS0 := Lib.hid hs0
  have HC0 := Lib.hid (keepc hk0 (Own1.new W (.slice (some ⟨g, o, none⟩) n c) 28).1 (fun h => h))
  have HK0 := Lib.hid hk0
  have HQ : Hid (W.heap.size + 1 ≤ w0.heap.size) := Lib.hid (by have := hk0.size; simp only [World.size_alloc] at this; exact this)
  simp only [World.size_alloc] at HS0
  clear hs0 hk0
  go_wp2
  go_loopw [1, 8, 9] (fun l9 o9 t9 wr => ∃ (j : Nat) (u r : Value), j ≤ t ∧ u = l9 ∧ r = o9 ∧ t9 = .int .i64 j ∧ Hid (Sl wr (W.heap.size + 1) u (soL xs l j)) ∧ Hid (Sl wr (W.heap.size + 1) r (soT xs l j)) ∧ Hid (wr.cell? ⟨W.heap.size, 0, none⟩ = some (.slice (some ⟨g, o, none⟩) n c)) ∧ Hid (Kp Nw (W.alloc (.cells #[.slice (some ⟨g, o, none⟩) n c] 28)) wr) ∧ W.heap.size + 1 ≤ wr.heap.size) (fun _ _ t9 _ => t - (intOf t9).toNat)
  case atStart => exact ⟨0, _, _, Nat.zero_le _, rfl, rfl, rfl, HS0, Lib.hid ((Sl.nil _ _).from HQ.out), HC0, HK0, HQ.out⟩
  case round =>
    rename_i wr
    obtain ⟨j, u, r, hj, rfl, rfl, rfl, HU, HR, HC, HK, hz⟩ := hrel
    have hll := HLEN.out j (by have := HT.out; omega)
    have htl := soT_length xs l j
    obtain ⟨m, hm⟩ : ∃ m, l.length - j = m := ⟨_, rfl⟩
    rw [hm] at hll
    have HM := Lib.hid hll
    have HTL := Lib.hid htl
    obtain ⟨B, c1, rfl⟩ := HU.out.val hll
    have hjt := HT.out
    by_cases hp : j < t
    · obtain ⟨q, hq⟩ : ∃ q, j % n = q := ⟨_, rfl⟩
      have hqn : q < n := by rw [← hq]; exact Nat.mod_lt _ (by omega)
      have hqi : (j : Int) % (n : Int) = (q : Int) := by rw [← hq]; exact (Int.natCast_emod j n).symm
      obtain ⟨k, hk⟩ : ∃ k, cnt xs j = k := ⟨_, rfl⟩
      have hkx : xs.getD q 0 = k := by rw [← hk, cnt, HN.out, hq]
      have hc := keepc (HK.out) (a := ⟨g, o + q, none⟩) (by rw [World.cell?_alloc_old _ _ _ (Nat.ne_of_lt (World.block_lt_of_cell? _ _ (HA.out q hqn)))]; exact HA.out q hqn) (fun h => h)
      rw [hkx] at hc
      have HCQ := Lib.hid hc
      obtain ⟨k1, k2⟩ := cnt_rng HG.out j
      rw [hk] at k1 k2
      have HKK := Lib.hid hk
      have HPOS : Hid (0 < (soL xs l j).length) := Lib.hid (by rw [HM.out]; omega)
      have HLE : Hid ((soL xs l j).length ≤ 1000000) := Lib.hid (by have := HM.out; have := HL.out; omega)
      have hcell := HC.out
      have jn : (0 : Int) ≤ j := Int.natCast_nonneg _
      have m1 : (n : Int) ≠ 0 := by omega
      have m2 : ¬ (n : Int) = 0 := by omega
      have m3 : ((n : Int) == 0) = false := by simp; omega
      have m4 : (0 : Int) ≤ q := Int.natCast_nonneg _
      have m5 : (q : Int) < n := by omega
      have m6 : (j : Int).tmod (n : Int) = (q : Int) := by rw [Int.tmod_eq_emod_of_nonneg (by omega)]; exact hqi
      have m8 : ¬ n = 0 := by omega
      have m7 : IntKind.i64.wrap (q : Int) = (q : Int) := IntWalk.i64_in _ (by omega)
      clear hq hk hkx hm hll htl
      go_wp2_with fail
      go_region_held3 (fun w' => Kp Nw wr w' ∧ w'.cell? ⟨W.heap.size, 0, none⟩ = some (.slice (some ⟨g, o, none⟩) n c) ∧ w'.cell? ⟨g, o + q, none⟩ = some (.int .i64 k))
        (first
          | exact ⟨(Kp.refl _ _).drew, HC.out, HCQ.out⟩
          | exact ⟨hkW1, keepc hkW1 HC.out (fun h => h), keepc hkW1 HCQ.out (fun h => h)⟩)
        (first
          | (go_at_call 38
             refine (ciTurn_any _ k (soL xs l j) (W.heap.size + 1) _ (HU.out.below (‹Kp Nw wr _ ∧ _›.1).below') HPOS.out HLE.out k1 k2).mono ?_
             rintro e w1 ⟨v', rfl, hs', hk'⟩
             have hkW1 := (‹Kp Nw wr _ ∧ _›.1).nw hk'
             have hsz := (‹Kp Nw wr _ ∧ _›.1).size)
          | fail)
      have HS := Lib.hid (hs'.from (B' := W.heap.size + 1) (by omega))
      have HK1 := Lib.hid (HK.out.nw hkW1)
      have HC1 := Lib.hid (keepc hkW1 HC.out (fun h => h))
      have hrow : Hid (∀ gg, v'.ownBlock = some gg → wr.heap.size ≤ gg) := Lib.hid (fun gg hg => by have := (hs'.own_ge gg hg).1; omega)
      have HR1 := Lib.hid (HR.out.below hkW1.below')
      have hz1 : wr.heap.size ≤ w1.heap.size := hkW1.size
      have HO := Lib.hid HR.out.own_ge
      have HKK2 := HKK.out
      clear hs' hk' hkW1 hsz hcell hc
      go_wp2_with (first | (at_builtin; refine wpList_app _ rfl (.tmp 33) (.tmp 35) rfl (W.heap.size + 1) r _ (soT xs l j) [who k (soL xs l j)] rfl rfl (HR1.out.below ((Kp.refl Nw w1).alloc _).below') (Rd.one (g := w1.heap.size) (by simp)) nil_one (by rw [HTL.out]; simp; omega) (by simp; omega) ?_))
      intro r' w2 hs2 hk2 hat
      have hk2' : Kp (fun b => r.ownBlock = some b) w1 w2 := ((Kp.refl _ w1).alloc _).trans hk2
      have HS2 := Lib.hid hs2
      have HU2 := Lib.hid (HS.out.kp hk2' (fun gg a b => by have := hrow.out gg a; have := (HO.out gg b).2; omega))
      have HC2 := Lib.hid (keepc hk2' HC1.out (fun h => by have := (HO.out _ h).1; simp only [] at this; omega))
      have HK2 := Lib.hid (HK1.out.after hk2' (fun gg hlt h => by have := (HO.out gg h).1; simp only [World.size_alloc] at hlt; omega))
      have hz2 : W.heap.size + 1 ≤ w2.heap.size := by have := hk2'.size; omega
      clear hs2 hk2 hk2' hat HS HR1 HC1 HK1 HO hrow
      go_wp2
      go_roundw
      case rel => exact ⟨j + 1, _, r', by omega, rfl, rfl, by go_num, by rw [soL, HKK.out]; exact HU2, by rw [soT, HKK.out]; exact HS2, HC2, HK2, hz2⟩
      case measure => simp [intOf]; omega
    · have e : j = t := by omega
      subst e
      go_wp2
      go_ret2
      exact ⟨_, _, rfl, HR.out.from (by omega), HU.out.from (by omega), (Kp.al _ _).nw HK.out⟩
end Go.Proofs.Ytalikikafcicpac
namespace Go.Proofs.Ytalikikafcicpac
open Go.ChangeShapes Go.WideShapes Go.ChangeAt Go.RowKit

set_option maxHeartbeats 1600000 in
theorem soOrder_any (A : Option Addr) (n c : Nat) (xs : List Int) (p : Nat) (W : World) (hu : Rd W (.slice A n c) xs) (hn : xs.length = n) (hg : sgB xs = true) (p1 : 1 ≤ p) (p2 : p ≤ 200) :
    Calls Try.prog 18 #[.agg #[.slice A n c], .int .i64 p] W (Makes W (soT xs (marks 0 p) p)) := by
  have HU := Lib.hid hu
  have HN := Lib.hid hn
  have HG := Lib.hid hg
  have HC := Lib.hid (Own1.new W (.slice A n c) 28).1
  have hc := HC.out
  clear hu hn hg
  go_enter Try.func18, Try.ntmps18
  go_wp2_with fail
  go_region_held3 (fun w' => Kp Nw (W.alloc (.cells #[.slice A n c] 28)) w' ∧ w'.cell? ⟨W.heap.size, 0, none⟩ = some (.slice A n c))
    (first
      | exact ⟨(Kp.refl _ _).drew, HC.out⟩
      | exact ⟨hkW2, keepc hkW2 HC.out (fun h => h)⟩
      | exact ⟨hkW1, keepc hkW1 HC.out (fun h => h)⟩)
    (first
      | (go_at_call 32
         refine (ciPeople_any p _ (by omega)).mono ?_
         rintro e w1 ⟨v1, rfl, hs1, hk1⟩
         have hkW1 := (‹Kp Nw (W.alloc (.cells #[.slice A n c] 28)) _ ∧ _›.1).nw hk1)
      | (go_at_call 31
         refine (soTurns_any A n c xs v1 (marks 0 p) p _ (HU.out.nw ((Kp.al W _).nw (‹Kp Nw (W.alloc (.cells #[.slice A n c] 28)) _ ∧ _›.1))) HN.out HG.out hs1.rd (fun h => by have := congrArg List.length h; rw [marks_length] at this; simp at this; omega) (by rw [marks_length]; omega) (by rw [marks_length]; omega)).mono ?_
         rintro e w2 ⟨v2, v3, rfl, hs2, hs3, hk2⟩
         have hkW2 := (‹Kp Nw (W.alloc (.cells #[.slice A n c] 28)) _ ∧ _›.1).nw hk2)
      | fail)
  have HS := Lib.hid (hs2.from (B' := W.heap.size) (by have := hkW1.size; simp only [World.size_alloc] at this; omega))
  have HK := Lib.hid ((Kp.al W _).nw hkW2)
  clear hs1 hk1 hkW1 hs2 hs3 hk2 hkW2 hc
  go_wp2
  go_ret
  exact ⟨_, rfl, HS.out, HK.out⟩

/-- are there a song and people? -/
def asB (xs : List Int) (p : Int) : Bool := sgB xs && decide (1 ≤ p ∧ p ≤ 200)
theorem asB_parts {xs : List Int} {p : Int} (h : asB xs p = true) : sgB xs = true ∧ 1 ≤ p ∧ p ≤ 200 := by
  unfold asB at h; rw [Bool.and_eq_true] at h; exact ⟨h.1, of_decide_eq_true h.2⟩
/-- the order out of a song -/
def soO (xs : List Int) (p : Nat) : List Int := soT xs (marks 0 p) p
theorem soO_length (xs : List Int) (p : Nat) : (soO xs p).length = p := soT_length _ _ _
def vSoOrder (xs : List Int) (p : Int) : List Int × Bool := if asB xs p = true then (soO xs p.toNat, true) else ([], false)
def vSoLast (xs : List Int) (p : Int) : Int × Bool := if asB xs p = true then ((soO xs p.toNat).getD (p.toNat - 1) 0, true) else (0, false)
def vSoTurn (xs : List Int) (p q : Int) : Int × Bool := if asB xs p = true ∧ 0 ≤ q ∧ q ≤ p - 1 then (fndD q (soO xs p.toNat) 0, true) else (0, false)
def vSoLeft (xs : List Int) (p t : Int) : List Int × Bool := if asB xs p = true ∧ 0 ≤ t ∧ t ≤ p - 1 then (soL xs (marks 0 p.toNat) t.toNat, true) else ([], false)
theorem vSoOrder_len (xs : List Int) (p : Int) : (vSoOrder xs p).1.length ≤ 1000000 := by
  unfold vSoOrder
  split
  · rename_i h; have := asB_parts h; simp only [soO_length]; omega
  · exact Nat.zero_le _
theorem vSoLeft_len (xs : List Int) (p t : Int) : (vSoLeft xs p t).1.length ≤ 1000000 := by
  unfold vSoLeft
  split
  · rename_i h
    have := asB_parts h.1
    simp only []
    rw [soL_length _ _ _ (by rw [marks_length]; omega), marks_length]; omega
  · exact Nat.zero_le _

end Go.Proofs.Ytalikikafcicpac
namespace Go.Proofs.Ytalikikafcicpac
open Go.ChangeShapes Go.WideShapes Go.ChangeAt Go.RowKit

/-- the last one of so many people -/
def lastS (xs : List Int) (p : Nat) : Int := (soO xs p).getD (p - 1) 0
/-- what a call returns that makes a song -/
def SongM (W : World) (xs : List Int) (e : Ending) (w' : World) : Prop := ∃ v, e = .returned (.agg #[v]) ∧ Sl w' W.heap.size v xs ∧ Kp Nw W w'
/-- the counts from one on, then those before it -/
def rotS (xs : List Int) (k : Nat) : List Int := xs.drop k ++ xs.take k
theorem rotS_length (xs : List Int) (k : Nat) : (rotS xs k).length = xs.length := by unfold rotS; rw [List.length_append, List.length_drop, List.length_take]; omega
theorem rotS_sgB {xs : List Int} (k : Nat) (h : sgB xs = true) : sgB (rotS xs k) = true := by
  have hp : (rotS xs k).Perm xs := by
    unfold rotS
    exact List.perm_append_comm.trans (by rw [List.take_append_drop])
  unfold sgB at h ⊢
  rw [Bool.and_eq_true] at h ⊢
  refine ⟨by rw [rotS_length]; exact h.1, ?_⟩
  rw [List.all_eq_true] at h ⊢
  intro x hx
  exact h.2 x (hp.mem_iff.1 hx)

set_option maxRecDepth 100000 in
set_option maxHeartbeats 1600000 in
theorem soTurn_any (g n B : Nat) (xs : List Int) (k : Nat) (W : World) (hs : SlAt W B g n n xs) (hk : k ≤ n) (hl : n ≤ 20) :
    Calls Try.prog 26 #[.agg #[.slice (some ⟨g, 0, none⟩) n n], .int .i64 k] W (SongM W (rotS xs k)) := by
  have hn : xs.length = n := hs.1
  have HS := Lib.hid hs
  have HN := Lib.hid hn
  have k0 : (0 : Int) ≤ k := Int.natCast_nonneg _
  have k1 : (k : Int) ≤ n := by omega
  have k2 : ((k : Int)).toNat = k := by omega
  have q6 := cut_to g n n k hk
  obtain ⟨Ad, had, q7⟩ := cut_from g n n k hk (Nat.le_refl _)
  have AD := Lib.hid had
  have HC := Lib.hid (Own1.new W (.slice (some ⟨g, 0, none⟩) n n) 28)
  have hc1 := HC.out.1
  clear hs had hn
  go_enter Try.func26, Try.ntmps26
  go_wp2_with fail
  have HC2 := Lib.hid (HC.out.kp (.al _ (.cells #[.slice none 0 0] 28)) (fun h => h))
  have HR := Lib.hid (Own1.new (W.alloc (.cells #[.slice (some ⟨g, 0, none⟩) n n] 28)) (.slice none 0 0) 28)
  have hcc := HC2.out.1
  go_region_held3 (fun w' => Kp Nw (W.alloc (.cells #[.slice (some ⟨g, 0, none⟩) n n] 28)) w' ∧ w'.cell? ⟨W.heap.size, 0, none⟩ = some (.slice (some ⟨g, 0, none⟩) n n))
      (first
        | exact ⟨(Kp.al _ _).drew, HC2.out.1⟩
        | exact ⟨hkW2.setCell (.inr (by simp)) _, keepo _ _ _ _ _ (keepc hkW2 HC.out.1 (fun h => h)) (by simp)⟩
        | exact ⟨hkW2, keepc hkW2 HC.out.1 (fun h => h)⟩
        | exact ⟨hkW1, keepc hkW1 HC.out.1 (fun h => h)⟩)
      (first
        | (go_at_call 35
           refine (l1Own_any _ (xs.drop k) _ (Rd.nw' (HS.out.drop k (by omega) _ _ AD.out) ((Kp.al W _).nw (‹Kp Nw (W.alloc (.cells #[.slice (some ⟨g, 0, none⟩) n n] 28)) _ ∧ _›.1))) (HS.out.drop_vn _ _ _) (by simp; have := HN.out; omega)).mono ?_
           rintro e w1 ⟨v1, rfl, hs1, hk1⟩
           have hkW1 := (‹Kp Nw (W.alloc (.cells #[.slice (some ⟨g, 0, none⟩) n n] 28)) _ ∧ _›.1).nw hk1)
        | (refine step_app _ (by rfl) (.tmp 9) (.tmp 13) (by rfl) (W.heap.size + 2) v1 _ (xs.drop k) (xs.take k) (by rfl) (by rfl) (hs1.from (by simp)) (Rd.nw' (HS.out.take k (by omega)) ((Kp.al W _).nw hkW1)) (HS.out.take_vn k (by omega) _) (by simp; have := HN.out; omega) (by have := hk1.size; simp at this; omega) ?_
           intro v2 w2 hs2 hk2 _
           obtain ⟨A2, c2, rfl⟩ := hs2.val (n := n) (by rw [List.length_append, List.length_drop, List.length_take]; have := HN.out; omega)
           have hkW2 := hkW1.own (hs1.from (by simp)) hk2
           have hrr := (((HR.out.kp (S := Nw) ((Kp.refl Nw _).drew) (fun h => h)).kp hk1 (fun h => h)).kp hk2 (fun h => by have := (hs1.own_ge _ h).1; simp at this; omega))
           obtain ⟨hr1, hr2⟩ := hrr
           simp only [World.size_alloc] at hr1 hr2))
  have HS2 := Lib.hid hs2
  have HK2 := Lib.hid hkW2
  have z0 := one_set w2 (W.heap.size + 1) (.slice A2 n c2) _ hr1
  clear hs2 hkW2 hkW1 hs1 hk1 hk2 hr1 hr2 hc1 hcc
  go_wp2
  refine bodyPost_ret (v := .agg #[.slice A2 n c2]) (by simp [results, Try.results26, go_sem, z0]) rfl ⟨_, rfl, ?_, ?_⟩
  · have k9 : Kp (fun b => b = W.heap.size + 1) w2 w2 := Kp.refl _ _
    exact (HS2.out.kp (k9.setCell (p := ⟨W.heap.size + 1, 0, none⟩) (.inl rfl) (.slice A2 n c2)) (fun gg a b => by have := (HS2.out.own_ge gg a).1; omega)).from (by omega)
  · exact ((Kp.al W _).nw HK2.out).setCell (.inr (by show W.heap.size ≤ W.heap.size + 1; omega)) _

def vTurnSong (xs : List Int) (k : Int) : List Int × Bool := if sgB xs = true ∧ 0 ≤ k ∧ k ≤ (xs.length : Int) - 1 then (rotS xs k.toNat, true) else ([], false)
theorem vTurnSong_len (xs : List Int) (k : Int) : (vTurnSong xs k).1.length ≤ 1000000 := by
  unfold vTurnSong
  split
  · rename_i h; have := sgB_len h.1; simp only [rotS_length]; omega
  · exact Nat.zero_le _

/-- a song boxed, a song's cell for the result: both are there behind a call -/
theorem song_open (x : Value) (W w1 : World) (hk : Kp Nw ((W.alloc (.cells #[x] 28)).alloc (.cells #[.slice none 0 0] 28)) w1) :
    Kp Nw W w1 ∧ W.heap.size + 2 ≤ w1.heap.size ∧ Own1 w1 W.heap.size x ∧ Own1 w1 (W.heap.size + 1) (.slice none 0 0) := by
  refine ⟨((Kp.al W _).nw (.al _ _)).nw hk, by have := hk.size; simp only [World.size_alloc] at this; exact this, ((Own1.new W x 28).kp (.al _ _) (fun h => h)).kp hk (fun h => h), ?_⟩
  have h := (Own1.new (W.alloc (.cells #[x] 28)) (.slice none 0 0) 28).kp hk (fun h => h)
  simpa only [World.size_alloc] using h
/-- the result stored into its cell -/
theorem song_close {W w1 : World} {v : Value} {xs : List Int} (b : Nat) (hs : Sl w1 (W.heap.size + b + 1) v xs) (hk : Kp Nw W w1) :
    Sl (w1.setCell ⟨W.heap.size + b, 0, none⟩ v) W.heap.size v xs ∧ Kp Nw W (w1.setCell ⟨W.heap.size + b, 0, none⟩ v) := by
  refine ⟨?_, hk.setCell (.inr (by show W.heap.size ≤ W.heap.size + b; omega)) _⟩
  have k9 : Kp (fun g => g = W.heap.size + b) w1 w1 := Kp.refl _ _
  exact (hs.kp (k9.setCell (p := ⟨W.heap.size + b, 0, none⟩) (.inl rfl) v) (fun gg a b => by have := (hs.own_ge gg a).1; omega)).from (by omega)
theorem song_none {W w1 : World} (b : Nat) (hz : W.heap.size + b + 1 ≤ w1.heap.size) (hk : Kp Nw W w1) :
    Sl (w1.setCell ⟨W.heap.size + b, 0, none⟩ (.slice none 0 0)) W.heap.size (.slice none 0 0) [] ∧ Kp Nw W (w1.setCell ⟨W.heap.size + b, 0, none⟩ (.slice none 0 0)) :=
  song_close b ((Sl.nil _ _).from hz) hk

end Go.Proofs.Ytalikikafcicpac
namespace Go.Proofs.Ytalikikafcicpac
open Go.ChangeShapes Go.WideShapes Go.ChangeAt Go.RowKit

/-- do the first places, moved on by k, read the same? -/
def shB (xs : List Int) (k d : Nat) : Bool := (List.range d).all (fun e => xs.getD (k + e) 0 == xs.getD e 0)
theorem shB_succ (xs : List Int) (k d : Nat) : shB xs k (d + 1) = (shB xs k d && (xs.getD (k + d) 0 == xs.getD d 0)) := by
  unfold shB; rw [List.range_succ, List.all_append]; simp
def perB (xs : List Int) (k d : Nat) : Bool := decide (xs.length % k = 0) && shB xs k d
/-- the least number of counts, from one on -/
def lsN (xs : List Int) (k : Nat) : Nat → Nat
  | 0 => xs.length
  | m + 1 => if perB xs k (xs.length - k) = true then k else lsN xs (k + 1) m
def leastS (xs : List Int) : Nat := lsN xs 1 (xs.length - 1)
theorem lsN_rng (xs : List Int) : ∀ (m k : Nat), 1 ≤ k → k + m = xs.length → 1 ≤ lsN xs k m ∧ lsN xs k m ≤ xs.length
  | 0, k, h1, h2 => by unfold lsN; omega
  | m + 1, k, h1, h2 => by
    unfold lsN
    split
    · omega
    · exact lsN_rng xs m (k + 1) (by omega) (by omega)
theorem leastS_rng {xs : List Int} (h : 1 ≤ xs.length) : 1 ≤ leastS xs ∧ leastS xs ≤ xs.length := lsN_rng xs _ 1 (Nat.le_refl _) (by omega)

def vLeast (xs : List Int) : List Int × Bool := if sgB xs = true then (xs.take (leastS xs), true) else ([], false)
theorem vLeast_len (xs : List Int) : (vLeast xs).1.length ≤ 1000000 := by
  unfold vLeast
  split
  · rename_i h; have := sgB_len h; simp only [List.length_take]; omega
  · exact Nat.zero_le _
def vPeriodS (xs : List Int) : Int × Bool := if sgB xs = true then ((leastS xs : Int), true) else (0, false)

end Go.Proofs.Ytalikikafcicpac
namespace Go.Proofs.Ytalikikafcicpac
open Go.ChangeShapes Go.WideShapes Go.ChangeAt Go.RowKit

/-- who is left when the one at a place goes -/
def goneAt (l : List Int) (k : Nat) : List Int := l.drop (k + 1) ++ l.take k
theorem goneAt_length {l : List Int} {k : Nat} (h : k < l.length) : (goneAt l k).length = l.length - 1 := by
  unfold goneAt; rw [List.length_append, List.length_drop, List.length_take]; omega
/-- the counts by which those of a list go in an order, and whether there are such -/
def sfO (l : List Int) : List Int → List Int × Bool
  | [] => ([], true)
  | x :: r =>
    if fndD x l 0 < 0 then ([], false)
    else if (sfO (goneAt l (fndD x l 0).toNat) r).2 = true then ((fndD x l 0 + 1) :: (sfO (goneAt l (fndD x l 0).toNat) r).1, true) else ([], false)
theorem sfO_len : ∀ (r l : List Int), (sfO l r).1.length ≤ r.length
  | [], l => by simp [sfO]
  | x :: r, l => by
    unfold sfO
    split
    · simp
    · split
      · have := sfO_len r (goneAt l (fndD x l 0).toNat)
        simp only [List.length_cons]; omega
      · simp
/-- the counts so far, then those of the rest -/
def sfJ (cs : List Int) (R : List Int × Bool) : List Int × Bool := if R.2 = true then (cs ++ R.1, true) else ([], false)
theorem sfJ_nil (R : List Int × Bool) (h : R.2 = false → R.1 = []) : sfJ [] R = R := by
  unfold sfJ
  cases hb : R.2
  · rw [if_neg Bool.false_ne_true]; rw [← h hb, ← hb]
  · rw [if_pos rfl, List.nil_append, ← hb]
theorem sfO_no : ∀ (r l : List Int), (sfO l r).2 = false → (sfO l r).1 = []
  | [], l => by simp [sfO]
  | x :: r, l => by
    unfold sfO
    split
    · simp
    · split <;> simp
theorem fndD_rng (x : Int) : ∀ (l : List Int) (j : Nat), fndD x l j = -1 ∨ ((j : Int) ≤ fndD x l j ∧ fndD x l j < (j : Int) + l.length)
  | [], j => .inl rfl
  | y :: r, j => by
    unfold fndD
    split
    · right; simp only [List.length_cons]; omega
    · rcases fndD_rng x r (j + 1) with h | h
      · exact .inl h
      · right; simp only [List.length_cons]; omega
def vSongFor (xs : List Int) : List Int × Bool := if 1 ≤ xs.length ∧ xs.length ≤ 20 then sfO (marks 0 xs.length) xs else ([], false)
theorem sfJ_step (cs : List Int) (z : Int) (X : List Int × Bool) : sfJ cs (if X.2 = true then ((z + 1) :: X.1, true) else ([], false)) = sfJ (cs ++ [z + 1]) X := by
  unfold sfJ
  cases hb : X.2
  · rw [if_neg Bool.false_ne_true, if_neg Bool.false_ne_true, if_neg Bool.false_ne_true]
  · rw [if_pos rfl, if_pos rfl, if_pos rfl, List.append_assoc]; rfl
theorem Own1.set {w : World} {b : Nat} {x : Value} (h : Own1 w b x) (y : Value) : Own1 (w.setCell ⟨b, 0, none⟩ y) b y := ⟨one_set w b y _ h.1, by rw [World.frozen?_setCell]; exact h.2⟩
theorem vSongFor_len (xs : List Int) : (vSongFor xs).1.length ≤ 1000000 := by
  unfold vSongFor
  split
  · have := sfO_len xs (marks 0 xs.length); omega
  · exact Nat.zero_le _

end Go.Proofs.Ytalikikafcicpac
namespace Go.Proofs.Ytalikikafcicpac
open Go.ChangeShapes Go.WideShapes Go.ChangeAt Go.RowKit

/-- two songs boxed -/
theorem songs_open (x y : Value) (W w1 : World) (hk : Kp Nw ((W.alloc (.cells #[x] 28)).alloc (.cells #[y] 28)) w1) :
    Kp Nw W w1 ∧ W.heap.size + 2 ≤ w1.heap.size ∧ w1.cell? ⟨W.heap.size, 0, none⟩ = some x ∧ w1.cell? ⟨W.heap.size + 1, 0, none⟩ = some y := by
  refine ⟨((Kp.al W _).nw (.al _ _)).nw hk, by have := hk.size; simp only [World.size_alloc] at this; exact this, (((Own1.new W x 28).kp (.al _ _) (fun h => h)).kp hk (fun h => h)).1, ?_⟩
  have h := ((Own1.new (W.alloc (.cells #[x] 28)) y 28).kp hk (fun h => h)).1
  simpa only [World.size_alloc] using h
def bySongs (xs : List Int) (p : Nat) : List Int := (List.range p).map (fun i => lastS xs (i + 1))
theorem bySongs_len (xs : List Int) (p : Nat) : (bySongs xs p).length = p := by unfold bySongs; simp
theorem bySongs_succ (xs : List Int) (p : Nat) : bySongs xs (p + 1) = bySongs xs p ++ [lastS xs (p + 1)] := by unfold bySongs; rw [List.range_succ, List.map_append]; rfl
def vBySongs (xs : List Int) (p : Int) : List Int × Bool := if asB xs p = true then (bySongs xs p.toNat, true) else ([], false)
theorem vBySongs_len (xs : List Int) (p : Int) : (vBySongs xs p).1.length ≤ 1000000 := by
  unfold vBySongs
  split
  · rename_i h; have := asB_parts h; simp only [bySongs_len]; omega
  · exact Nat.zero_le _

set_option maxHeartbeats 3200000 in
theorem sLastBySongs_any (A : Option Addr) (n c : Nat) (xs : List Int) (p : Int) (W : World) (hu : Rd W (.slice A n c) xs) (hn : xs.length = n) (hl : n ≤ 2000000) :
    Calls Try.prog 6 #[.agg #[.slice A n c], .int .i64 p] W (ListB W (vBySongs xs p).1 (vBySongs xs p).2) := by
  have HU := Lib.hid hu
  have HN := Lib.hid hn
  clear hu hn
  unfold vBySongs
  cases hb : asB xs p
  · rw [if_neg Bool.false_ne_true]
    have HB : Hid ((sgB xs && decide (1 ≤ p ∧ p ≤ 200)) = false) := Lib.hid hb
    clear hb
    go_enter Try.func6, Try.ntmps6
    go_wp2_with (first | (refine (soAsked_any A n c xs p _ (HU.out.nw (.al _ _)) HN.out hl _ HB.out.symm).mono ?_; rintro e w1 ⟨rfl, hk1⟩; have HK1 := Lib.hid ((Kp.al W _).nw hk1); have hz1 : W.heap.size + 1 ≤ w1.heap.size := (by have := hk1.size; simp only [World.size_alloc] at this; exact this); have HC1 := Lib.hid (keepc hk1 (Own1.new W (.slice A n c) 28).1 (fun h => h)); have hc1 := HC1.out; clear hk1))
    go_ret2
    exact ⟨_, rfl, Sl.nil _ _, HK1.out⟩
  · rw [if_pos rfl]
    obtain ⟨hg, p1, p2⟩ := asB_parts hb
    have HB : Hid ((sgB xs && decide (1 ≤ p ∧ p ≤ 200)) = true) := Lib.hid hb
    have HG := Lib.hid hg
    obtain ⟨m, hm⟩ : ∃ m, p.toNat = m := ⟨_, rfl⟩
    have hpm : p = (m : Int) := by omega
    subst hpm
    rw [Int.toNat_natCast]
    clear hb hg hm
    go_enter Try.func6, Try.ntmps6
    go_wp2_with (first | (refine (soAsked_any A n c xs ((m : Nat) : Int) _ (HU.out.nw (.al _ _)) HN.out hl _ HB.out.symm).mono ?_; rintro e w1 ⟨rfl, hk1⟩; have HK1 := Lib.hid ((Kp.al W _).nw hk1); have hz1 : W.heap.size + 1 ≤ w1.heap.size := (by have := hk1.size; simp only [World.size_alloc] at this; exact this); have HC1 := Lib.hid (keepc hk1 (Own1.new W (.slice A n c) 28).1 (fun h => h)); have hc1 := HC1.out; clear hk1))
    go_loopw [6, 7] (fun o9 i9 wr => ∃ (j : Nat) (r : Value), j ≤ m ∧ r = o9 ∧ i9 = .int .i64 ((j : Int) + 1) ∧ Hid (Sl wr (W.heap.size + 1) r (bySongs xs j)) ∧ Hid (wr.cell? ⟨W.heap.size, 0, none⟩ = some (.slice A n c)) ∧ Hid (Kp Nw W wr) ∧ W.heap.size + 1 ≤ wr.heap.size) (fun _ i9 _ => m + 1 - (intOf i9).toNat)
    case atStart => exact ⟨0, _, Nat.zero_le _, rfl, rfl, Lib.hid ((Sl.nil _ _).from hz1), HC1, HK1, hz1⟩
    case round =>
      rename_i wr
      obtain ⟨j, r, hj, rfl, rfl, HR, HC, HK, hz⟩ := hrel
      have hc := HC.out
      have j0 : (0 : Int) ≤ j := Int.natCast_nonneg _
      by_cases hp : j < m
      · obtain ⟨x, hx⟩ : ∃ x, lastS xs (j + 1) = x := ⟨_, rfl⟩
        have HX := Lib.hid hx
        have HBS : Hid (bySongs xs (j + 1) = bySongs xs j ++ [x]) := Lib.hid (by rw [bySongs_succ, hx])
        have jm : (j : Int) + 1 ≤ m := by omega
        have w1j : IntKind.i64.wrap ((j : Int) + 1 - 1) = (j : Int) := by rw [IntWalk.i64_in _ (by omega)]; omega
        clear hx
        go_wp2_with (first | (go_at_call 18; refine (soOrder_any A n c xs (j + 1) _ (HU.out.nw HK.out) HN.out HG.out (by omega) (by omega)).mono ?_))
        rintro e w2 ⟨v2, rfl, hs2, hk2⟩
        obtain ⟨g, cap, rfl, hs3, _⟩ := hs2.at_ (by rw [soT_length]; omega)
        rw [soT_length] at hs3 ⊢
        have cx := hs3.cell j (by omega)
        have hx2 := HX.out
        rw [lastS, soO, Nat.add_sub_cancel] at hx2
        rw [hx2] at cx
        have HK2 := Lib.hid (HK.out.nw hk2)
        have HR2 := Lib.hid (HR.out.below hk2.below')
        have HO := Lib.hid HR.out.own_ge
        have HC2 := Lib.hid (keepc hk2 HC.out (fun h => h))
        have hz2 : wr.heap.size ≤ w2.heap.size := hk2.size
        have HRL : Hid ((bySongs xs j).length ≤ 1000) := Lib.hid (by rw [bySongs_len]; omega)
        clear hs2 hk2 hs3 hx2
        go_wp2_with (first | (at_builtin; refine wpList_app _ rfl (.tmp 17) (.tmp 25) rfl (W.heap.size + 1) r _ (bySongs xs j) [x] rfl rfl (HR2.out.below ((Kp.refl Nw w2).alloc _).below') (Rd.one (g := w2.heap.size) (by simp)) nil_one (by simp; have := HRL.out; omega) (by simp; omega) ?_))
        intro r' w3 hs4 hk4 hat
        have hk4' : Kp (fun b => r.ownBlock = some b) w2 w3 := ((Kp.refl _ w2).alloc _).trans hk4
        have HR3 := Lib.hid hs4
        have HC3 := Lib.hid (keepc hk4' HC2.out (fun h => by have := (HO.out _ h).1; simp only [] at this; omega))
        have HK3 := Lib.hid (HK2.out.after hk4' (fun gg hlt h => by have := (HO.out gg h).1; omega))
        have hz3 : W.heap.size + 1 ≤ w3.heap.size := by have := hk4'.size; omega
        clear hs4 hk4 hk4' hat
        go_wp2
        go_roundw
        case rel => exact ⟨j + 1, r', by omega, rfl, by go_num, by rw [HBS.out]; exact HR3, HC3, HK3, hz3⟩
        case measure => simp [intOf] <;> omega
      · have e : j = m := by omega
        subst e
        go_wp2
        go_ret2
        exact ⟨_, rfl, HR.out.from (by omega), HK.out⟩

def vSame (xs ys : List Int) (p : Int) : Bool × Bool := if asB xs p = true ∧ sgB ys = true then (decide (soO xs p.toNat = soO ys p.toNat), true) else (false, false)

end Go.Proofs.Ytalikikafcicpac
namespace Go.Proofs.Ytalikikafcicpac
open Go.ChangeShapes Go.WideShapes Go.ChangeAt Go.RowKit

/-- the first count from some on with which the last one is the one asked for -/
def btN (xs : List Int) (p : Nat) (q : Int) (k : Nat) : Nat → Int × Bool
  | 0 => (0, false)
  | m + 1 => if lastS (rotS xs k) p = q then ((k : Int), true) else btN xs p q (k + 1) m
def vBest (xs : List Int) (p q : Int) : Int × Bool := if asB xs p = true ∧ 0 ≤ q ∧ q ≤ p - 1 then btN xs p.toNat q 0 xs.length else (0, false)

set_option maxHeartbeats 3200000 in
theorem sBestTurn_any (g n B : Nat) (xs : List Int) (p q : Int) (W : World) (hs : SlAt W B g n n xs) (hl : n ≤ 1048576) :
    Calls Try.prog 14 #[.agg #[.slice (some ⟨g, 0, none⟩) n n], .int .i64 p, .int .i64 q] W (IntB W (vBest xs p q).1 (vBest xs p q).2) := by
  have HS := Lib.hid hs
  have HN : Hid (xs.length = n) := Lib.hid hs.1
  clear hs
  unfold vBest
  cases hb : asB xs p
  · rw [if_neg (by simp)]
    have HB : Hid ((sgB xs && decide (1 ≤ p ∧ p ≤ 200)) = false) := Lib.hid hb
    clear hb
    go_enter Try.func14, Try.ntmps14
    go_wp2_with (first | (refine (soAsked_any _ n n xs p _ (HS.out.sl.rd.nw (.al W _)) HN.out (by omega) _ HB.out.symm).mono ?_; rintro e w1 ⟨rfl, hk1⟩; have HK1 := Lib.hid ((Kp.al W _).nw hk1); have HC1 := Lib.hid (keepc hk1 (Own1.new W (.slice (some ⟨g, 0, none⟩) n n) 28).1 (fun h => h)); have hc1 := HC1.out; have hz1 : W.heap.size + 1 ≤ w1.heap.size := (by have := hk1.size; simp only [World.size_alloc] at this; exact this); clear hk1))
    go_ret2
    exact ⟨rfl, HK1.out⟩
  · have HB : Hid ((sgB xs && decide (1 ≤ p ∧ p ≤ 200)) = true) := Lib.hid hb
    obtain ⟨hg, p1, p2⟩ := asB_parts hb
    have HG := Lib.hid hg
    obtain ⟨n1, n2⟩ := sgB_len hg
    rw [HN.out] at n1 n2
    by_cases hq : 0 ≤ q ∧ q ≤ p - 1
    · rw [if_pos ⟨rfl, hq⟩]
      obtain ⟨q0, q1⟩ := hq
      obtain ⟨m, hm⟩ : ∃ m, p.toNat = m + 1 := ⟨p.toNat - 1, by omega⟩
      have hpm : p = (m : Int) + 1 := by omega
      subst hpm
      rw [hm, HN.out]
      have hm2 : m ≤ 199 := by omega
      have q2 : q ≤ (m : Int) := by omega
      have m0 : (0 : Int) ≤ m := Int.natCast_nonneg _
      obtain ⟨V, hV⟩ : ∃ V, btN xs (m + 1) q 0 n = V := ⟨_, rfl⟩
      rw [hV]
      have HV := Lib.hid hV
      clear hV
      clear hb hg hm
      go_enter Try.func14, Try.ntmps14
      go_wp2_with (first | (refine (soAsked_any _ n n xs ((m : Int) + 1) _ (HS.out.sl.rd.nw (.al W _)) HN.out (by omega) _ HB.out.symm).mono ?_; rintro e w1 ⟨rfl, hk1⟩; have HK1 := Lib.hid ((Kp.al W _).nw hk1); have HC1 := Lib.hid (keepc hk1 (Own1.new W (.slice (some ⟨g, 0, none⟩) n n) 28).1 (fun h => h)); have hc1 := HC1.out; have hz1 : W.heap.size + 1 ≤ w1.heap.size := (by have := hk1.size; simp only [World.size_alloc] at this; exact this); clear hk1) | ((with_reducible refine (l1In_yes q _ _ _ q0 q2).mono ?_); rintro e w' ⟨rfl, rfl⟩))
      go_loopw [23] (fun i9 wr => ∃ k : Nat, k ≤ n ∧ i9 = .int .i64 k ∧ Hid (V = btN xs (m + 1) q k (n - k)) ∧ Hid (wr.cell? ⟨W.heap.size, 0, none⟩ = some (.slice (some ⟨g, 0, none⟩) n n)) ∧ Hid (Kp Nw W wr)) (fun i9 _ => n - (intOf i9).toNat)
      case atStart => exact ⟨0, Nat.zero_le _, rfl, Lib.hid (by rw [← HV.out]; rfl), HC1, HK1⟩
      case round =>
        rename_i wr
        obtain ⟨k, hk, rfl, HR, HC, HK⟩ := hrel
        have hc := HC.out
        have k0 : (0 : Int) ≤ k := Int.natCast_nonneg _
        by_cases hp : k < n
        · obtain ⟨t, ht⟩ : ∃ t, n - k = t + 1 := ⟨n - k - 1, by omega⟩
          obtain ⟨x, hx⟩ : ∃ x, lastS (rotS xs k) (m + 1) = x := ⟨_, rfl⟩
          have HX := Lib.hid hx
          have HT : Hid (n - (k + 1) = t) := Lib.hid (by omega)
          have HR2 : Hid (V = if x = q then ((k : Int), true) else btN xs (m + 1) q (k + 1) t) := Lib.hid (by rw [HR.out, ht, btN, hx])
          have kn : (k : Int) < n := by omega
          have w1m : IntKind.i64.wrap ((m : Int) + 1 - 1) = (m : Int) := by rw [IntWalk.i64_in _ (by omega)]; omega
          clear ht hx
          go_wp2_with fail
          refine (soTurn_any g n B xs k _ (HS.out.kq8 HK.out (fun h => h)) hk n2).mono ?_
          rintro e w2 ⟨v2, rfl, hs2, hk2⟩
          obtain ⟨A2, c2, rfl⟩ := hs2.val (n := n) (by rw [rotS_length]; exact HN.out)
          have HS2 := Lib.hid hs2
          have HK2 := Lib.hid hk2
          clear hs2 hk2
          go_wp2_with (first | (go_at_call 18; refine (soOrder_any A2 n c2 (rotS xs k) (m + 1) _ HS2.out.rd (by rw [rotS_length]; exact HN.out) (rotS_sgB k HG.out) (by omega) (by omega)).mono ?_))
          rintro e w3 ⟨v3, rfl, hs3, hk3⟩
          obtain ⟨g3, cap, rfl, hs4, _⟩ := hs3.at_ (by rw [soT_length]; omega)
          rw [soT_length] at hs4 ⊢
          have cx := hs4.cell m (by omega)
          have hx2 := HX.out
          rw [lastS, soO, Nat.add_sub_cancel] at hx2
          rw [hx2] at cx
          have HK3 := Lib.hid ((HK.out.nw HK2.out).nw hk3)
          have HC3 := Lib.hid (keepc hk3 (keepc HK2.out HC.out (fun h => h)) (fun h => h))
          clear hs3 hk3 hs4 hx2
          by_cases hxq : x = q
          · have HE : Hid (V = ((k : Int), true)) := Lib.hid (by rw [HR2.out, if_pos hxq])
            subst hxq
            go_wp2
            go_ret2
            exact ⟨by rw [HE.out]; rfl, HK3.out⟩
          · have HE : Hid (V = btN xs (m + 1) q (k + 1) (n - (k + 1))) := Lib.hid (by rw [HR2.out, if_neg hxq, HT.out])
            have hne : (x == q) = false := by simp [hxq]
            go_wp2
            go_roundw
            case rel => exact ⟨k + 1, by omega, by go_num, HE, HC3, HK3⟩
            case measure => simp [intOf] <;> omega
        · have e : k = n := by omega
          subst e
          have HE : Hid (V = (0, false)) := Lib.hid (by rw [HR.out, Nat.sub_self, btN])
          have hE := HE.out
          subst hE
          go_wp2
          go_ret2
          exact ⟨rfl, HK.out⟩
    · rw [if_neg (fun h => hq h.2)]
      have hq' : q < 0 ∨ p - 1 < q := by omega
      clear hb hg hq
      go_enter Try.func14, Try.ntmps14
      go_wp2_with (first | (refine (soAsked_any _ n n xs p _ (HS.out.sl.rd.nw (.al W _)) HN.out (by omega) _ HB.out.symm).mono ?_; rintro e w1 ⟨rfl, hk1⟩; have HK1 := Lib.hid ((Kp.al W _).nw hk1); have HC1 := Lib.hid (keepc hk1 (Own1.new W (.slice (some ⟨g, 0, none⟩) n n) 28).1 (fun h => h)); have hc1 := HC1.out; have hz1 : W.heap.size + 1 ≤ w1.heap.size := (by have := hk1.size; simp only [World.size_alloc] at this; exact this); clear hk1) | ((with_reducible refine (l1In_no q _ _ _ hq').mono ?_); rintro e w' ⟨rfl, rfl⟩))
      go_ret2
      exact ⟨rfl, HK1.out⟩
end Go.Proofs.Ytalikikafcicpac
namespace Go.Proofs.Ytalikikafcicpac
open Go.ChangeShapes Go.WideShapes Go.ChangeAt Go.RowKit

theorem lastS_rng (xs : List Int) (p : Nat) (h : 1 ≤ p) : 0 ≤ lastS xs p ∧ lastS xs p < p := by
  have hl : p - 1 < (soO xs p).length := by rw [soO_length]; omega
  have hm : lastS xs p ∈ soO xs p := by
    have e : lastS xs p = (soO xs p)[p - 1] := by rw [lastS, List.getD_eq_getElem?_getD, List.getElem?_eq_getElem hl]; rfl
    rw [e]; exact List.getElem_mem _
  have hp := soT_perm xs (marks 0 p)
  rw [marks_length] at hp
  exact marks_mem p _ (hp.mem_iff.1 hm)
/-- the first places on which one may stand -/
def safeL (z : Int) (p k : Nat) : List Int := (List.range k).map (fun b : Nat => (z + (b : Int)) % (p : Int))
theorem safeL_len (z : Int) (p k : Nat) : (safeL z p k).length = k := by unfold safeL; simp
theorem safeL_succ (z : Int) (p k : Nat) : safeL z p (k + 1) = safeL z p k ++ [(z + (k : Int)) % (p : Int)] := by unfold safeL; rw [List.range_succ, List.map_append]; rfl
theorem safeL_new (z : Int) (p k : Nat) (z0 : 0 ≤ z) (z1 : z < p) (h : k < p) : ¬ (z + (k : Int)) % (p : Int) ∈ safeL z p k := by
  intro hm
  unfold safeL at hm
  obtain ⟨b, hb, e⟩ := List.mem_map.1 hm
  have hb' := List.mem_range.1 hb
  have h1 : (z + (b : Int)) % (p : Int) = if z + b < p then z + b else z + b - p := by
    split
    · exact Int.emod_eq_of_lt (by omega) (by omega)
    · rw [← Int.sub_emod_right, Int.emod_eq_of_lt (by omega) (by omega)]
  have h2 : (z + (k : Int)) % (p : Int) = if z + k < p then z + k else z + k - p := by
    split
    · exact Int.emod_eq_of_lt (by omega) (by omega)
    · rw [← Int.sub_emod_right, Int.emod_eq_of_lt (by omega) (by omega)]
  rw [h1, h2] at e
  split at e <;> split at e <;> omega
def vSafe (xs : List Int) (p k : Int) : List Int × Bool := if asB xs p = true ∧ 1 ≤ k ∧ k ≤ p then (srt (safeL (lastS xs p.toNat) p.toNat k.toNat), true) else ([], false)
theorem vSafe_len (xs : List Int) (p k : Int) : (vSafe xs p k).1.length ≤ 1000000 := by
  unfold vSafe
  split
  · rename_i h
    have := asB_parts h.1
    simp only [srt, List.length_mergeSort, safeL_len]; omega
  · exact Nat.zero_le _

end Go.Proofs.Ytalikikafcicpac
