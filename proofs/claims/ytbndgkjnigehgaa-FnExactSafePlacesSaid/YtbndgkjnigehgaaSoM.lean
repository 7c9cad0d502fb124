/- The texts SoT, SoO, SoR, SoP, SoF, SoB, SoQ, SoS, as one. -/
import Derived.Test.YtbndgkjnigehgaaLwSo
import Derived.Test.YtbndgkjnigehgaaTurn
import Derived.Test.YtbndgkjnigehgaaDeck
import Derived.Test.YtbndgkjnigehgaaLow
import Derived.Test.YtbndgkjnigehgaaAt
import Derived.Test.YtbndgkjnigehgaaLwO7
import Derived.Test.YtbndgkjnigehgaaPut
import Derived.Test.YtbndgkjnigehgaaGood
import Derived.Test.YtbndgkjnigehgaaDeckF
namespace Go.Proofs.Ytbndgkjnigehgaa
open Go.ChangeShapes Go.WideShapes Go.ChangeAt Go.RowKit

/-- are these the counts of a song? -/
def sgB (xs : List Int) : Bool := decide (1 ≤ xs.length ∧ xs.length ≤ 20) && xs.all (okR 1 1000000)
theorem sgB_len {xs : List Int} (h : sgB xs = true) : 1 ≤ xs.length ∧ xs.length ≤ 20 := by
  unfold sgB at h; rw [Bool.and_eq_true] at h; exact of_decide_eq_true h.1
theorem sgB_get {xs : List Int} (h : sgB xs = true) (j : Nat) (hj : j < xs.length) : 1 ≤ xs.getD j 0 ∧ xs.getD j 0 ≤ 1000000 := by
  unfold sgB at h; rw [Bool.and_eq_true] at h
  have := List.all_eq_true.1 h.2 (xs[j]) (List.getElem_mem _)
  simp [okR] at this
  simpa [hj] using this
/-- the count of a turn -/
def cnt (xs : List Int) (t : Nat) : Int := xs.getD (t % xs.length) 0
theorem cnt_rng {xs : List Int} (h : sgB xs = true) (t : Nat) : 1 ≤ cnt xs t ∧ cnt xs t ≤ 1000000 := sgB_get h _ (Nat.mod_lt _ (sgB_len h).1)
/-- who is left after some turns of a song, the one from whom the next turn counts first -/
def soL (xs : List Int) (l : List Int) : Nat → List Int
  | 0 => l
  | j + 1 => rest (cnt xs j) (soL xs l j)
/-- who went at the first turns -/
def soT (xs : List Int) (l : List Int) : Nat → List Int
  | 0 => []
  | j + 1 => soT xs l j ++ [who (cnt xs j) (soL xs l j)]
theorem soT_length (xs l : List Int) : ∀ j, (soT xs l j).length = j
  | 0 => rfl
  | j + 1 => by rw [soT, List.length_append, soT_length xs l j]; rfl
theorem soL_length (xs l : List Int) : ∀ j, j ≤ l.length → (soL xs l j).length = l.length - j
  | 0, _ => rfl
  | j + 1, h => by
    have h1 := soL_length xs l j (by omega)
    have := rest_length (cnt xs j) (soL xs l j) (by omega)
    rw [soL]
    omega
theorem who_perm8 (k : Int) (l : List Int) (h : 0 < l.length) : (who k l :: rest k l).Perm l := by
  have hp := place_lt k l.length h
  have e : l = l.take (place k l.length) ++ l[place k l.length] :: l.drop (place k l.length + 1) := by
    rw [← List.drop_eq_getElem_cons hp, List.take_append_drop]
  have ew : who k l = l[place k l.length] := by unfold who; rw [List.getD_eq_getElem?_getD, List.getElem?_eq_getElem hp]; rfl
  have : (who k l :: rest k l).Perm (l.take (place k l.length) ++ l[place k l.length] :: l.drop (place k l.length + 1)) := by
    rw [ew]
    unfold rest
    exact (List.Perm.cons _ List.perm_append_comm).trans List.perm_middle.symm
  exact this.trans (by rw [← e])
/-- those who went and those who are left are all -/
theorem so_perm (xs l : List Int) : ∀ j, j ≤ l.length → (soT xs l j ++ soL xs l j).Perm l
  | 0, _ => List.Perm.refl _
  | j + 1, h => by
    have hl := soL_length xs l j (by omega)
    refine List.Perm.trans ?_ (so_perm xs l j (by omega))
    rw [soT, soL, List.append_assoc]
    exact List.Perm.append_left _ (who_perm8 _ _ (by omega))
theorem soT_perm (xs l : List Int) : (soT xs l l.length).Perm l := by
  have h := so_perm xs l l.length (Nat.le_refl _)
  have h0 : soL xs l l.length = [] := List.eq_nil_of_length_eq_zero (by rw [soL_length xs l _ (Nat.le_refl _)]; omega)
  rw [h0, List.append_nil] at h
  exact h

set_option maxHeartbeats 1600000 in
theorem soGood_any (A : Option Addr) (n c : Nat) (xs : List Int) (W : World) (hu : Rd W (.slice A n c) xs) (hn' : xs.length = n) (hl : n ≤ 2000000) (b : Bool) (hb : b = sgB xs) :
    Calls Try.prog 28 #[.agg #[.slice A n c]] W fun e w' => e = .returned (.bool b) ∧ Kp Nw W w' := by
  have HB := Lib.hid hb
  have HR := Lib.hid hu
  have HN := Lib.hid hn'
  have HLE : Hid (xs.length ≤ 2000000) := Lib.hid (by omega)
  clear hu hb hn'
  by_cases hn : (n : Int) < 1 ∨ 20 < (n : Int)
  · have HF : Hid (b = false) := Lib.hid (by rw [HB.out]; unfold sgB; rw [decide_eq_false (by have := HN.out; omega)]; rfl)
    go_enter Try.func28, Try.ntmps28
    go_wp2_with (first | ((with_reducible refine (l1In_no (n : Int) _ _ _ hn).mono ?_); rintro e w' ⟨rfl, rfl⟩))
    go_ret
    exact ⟨ret_bool HF.out.symm, Kp.al _ _⟩
  · have n1 : 1 ≤ (n : Int) := by omega
    have n2 : (n : Int) ≤ 20 := by omega
    clear hn
    obtain ⟨d, hd⟩ : ∃ d, xs.all (okR 1 1000000) = d := ⟨_, rfl⟩
    have HD := Lib.hid hd
    have HF : Hid (b = d) := Lib.hid (by rw [HB.out]; unfold sgB; rw [decide_eq_true (by have := HN.out; omega), hd]; rfl)
    clear hd
    cases d
    all_goals
      go_enter Try.func28, Try.ntmps28
      go_wp2_with (first | ((with_reducible refine (l1In_yes (n : Int) _ _ _ n1 n2).mono ?_); rintro e w' ⟨rfl, rfl⟩) | ((with_reducible refine (l1All_rng_as 1 1000000 _ xs _ _ (HR.out.nw (.al _ _)) HLE.out HD.out).mono ?_); rintro e w' ⟨rfl, rfl⟩))
      go_ret
      exact ⟨ret_bool HF.out.symm, Kp.al _ _⟩

set_option maxHeartbeats 800000 in
/-- a song and people -/
theorem soAsked_any (A : Option Addr) (n c : Nat) (xs : List Int) (p : Int) (W : World) (hu : Rd W (.slice A n c) xs) (hn : xs.length = n) (hl : n ≤ 2000000) (b : Bool) (hb : b = (sgB xs && decide (1 ≤ p ∧ p ≤ 200))) :
    Calls Try.prog 14 #[.agg #[.slice A n c], .int .i64 p] W fun e w' => e = .returned (.bool b) ∧ Kp Nw W w' := by
  have HR := Lib.hid hu
  have HN := Lib.hid hn
  have HB := Lib.hid hb
  clear hu hn hb
  obtain ⟨d, hd⟩ : ∃ d, sgB xs = d := ⟨_, rfl⟩
  have HD := Lib.hid hd
  rw [hd] at HB
  clear hd
  by_cases ha : Asked p 1
  · have HF : Hid (b = d) := Lib.hid (by rw [HB.out, decide_eq_true ⟨ha.p1, ha.p2⟩, Bool.and_true])
    cases d
    all_goals
      go_enter Try.func14, Try.ntmps14
      go_wp2_with (first | (refine (soGood_any A n c xs _ (HR.out.nw (.al _ _)) HN.out hl _ HD.out.symm).mono ?_; rintro e w1 ⟨rfl, hk⟩; have HK := Lib.hid ((Kp.al _ _).nw hk); clear hk) | ((with_reducible refine (ciAsked_yes p 1 _ ha).mono ?_); rintro e w' ⟨rfl, rfl⟩))
      go_ret
      exact ⟨ret_bool HF.out.symm, HK.out⟩
  · have HF : Hid (b = false) := Lib.hid (by
      rw [HB.out, decide_eq_false (fun h => ha ⟨h.1, h.2, by omega, by omega⟩), Bool.and_false])
    cases d
    all_goals
      go_enter Try.func14, Try.ntmps14
      go_wp2_with (first | (refine (soGood_any A n c xs _ (HR.out.nw (.al _ _)) HN.out hl _ HD.out.symm).mono ?_; rintro e w1 ⟨rfl, hk⟩; have HK := Lib.hid ((Kp.al _ _).nw hk); clear hk) | ((with_reducible refine (ciAsked_no p 1 _ ha).mono ?_); rintro e w' ⟨rfl, rfl⟩))
      go_ret
      exact ⟨ret_bool HF.out.symm, HK.out⟩

/-- what some turns return: who went, who is left -/
def TurnsRes (W : World) (xs l : List Int) (t : Nat) (e : Ending) (w' : World) : Prop := ∃ v v', e = .returned (.tuple #[v, v']) ∧ Sl w' W.heap.size v (soT xs l t) ∧ Sl w' W.heap.size v' (soL xs l t) ∧ Kp Nw W w'

set_option maxRecDepth 100000 in
set_option maxHeartbeats 3200000 in
theorem soTurns_any (A : Option Addr) (n c : Nat) (xs : List Int) (v : Value) (l : List Int) (t : Nat) (W : World) (hu : Rd W (.slice A n c) xs) (hn : xs.length = n) (hg : sgB xs = true) (hv : Rd W v l) (hvn : Vn v l) (hl : l.length ≤ 1000) (ht : t ≤ l.length) :
    Calls Try.prog 30 #[.agg #[.slice A n c], v, .int .i64 t] W (TurnsRes W xs l t) := by
  have n1 : 1 ≤ n := by have := sgB_len hg; omega
  have n2 : n ≤ 20 := by have := sgB_len hg; omega
  have HG := Lib.hid hg
  have HN := Lib.hid hn
  have HV := Lib.hid hv
  have HVN := Lib.hid hvn
  obtain ⟨A', c', e', hA⟩ := hu
  rw [hn] at e'
  injection e' with e1 e2 e3
  subst e1 e3
  obtain ⟨g, o, rfl, -⟩ := hA 0 (by omega)
  have HA : Hid (∀ i, i < n → W.cell? ⟨g, o + i, none⟩ = some (.int .i64 (xs.getD i 0))) := Lib.hid (fun i hi => by
    obtain ⟨g', o', e, hc⟩ := hA i (by omega)
    injection e with e
    injection e with e1 e2
    rw [e1, e2]; exact hc)
  have hlen := soL_length xs l
  have HLEN := Lib.hid hlen
  have HT := Lib.hid ht
  have hl2 : t ≤ 1000 := by omega
  have HL := Lib.hid hl
  clear hA hg hn hv hvn hlen ht hl
  go_enter Try.func30, Try.ntmps30
  go_wp2_with fail
  refine (l1Own_any v l _ (HV.out.nw (.al _ _)) HVN.out (by have := HL.out; omega)).mono ?_
  rintro e w0 ⟨v0, rfl, hs0, hk0⟩
  have HS0 := Lib.hid hs0
  have HC0 := Lib.hid (keepc hk0 (Own1.new W (.slice (some ⟨g, o, none⟩) n c) 28).1 (fun h => h))
  have HK0 := Lib.hid hk0
  have HQ : Hid (W.heap.size + 1 ≤ w0.heap.size) := Lib.hid (by have := hk0.size; simp only [World.size_alloc] at this; exact this)
  simp only [World.size_alloc] at HS0
  clear hs0 hk0
  go_wp2
  go_loopw [1, 8, 9] (fun l9 o9 t9 wr => ∃ (j : Nat) (u r : Value), j ≤ t ∧ u = l9 ∧ r = o9 ∧ t9 = .int .i64 j ∧ Hid (Sl wr (W.heap.size + 1) u (soL xs l j)) ∧ Hid (Sl wr (W.heap.size + 1) r (soT xs l j)) ∧ Hid (wr.cell? ⟨W.heap.size, 0, none⟩ = some (.slice (some ⟨g, o, none⟩) n c)) ∧ Hid (Kp Nw (W.alloc (.cells #[.slice (some ⟨g, o, none⟩) n c] 28)) wr) ∧ W.heap.size + 1 ≤ wr.heap.size) (fun _ _ t9 _ => t - (intOf t9).toNat)
  case atStart => exact ⟨0, _, _, Nat.zero_le _, rfl, rfl, rfl, HS0, Lib.hid ((Sl.nil _ _).from HQ.out), HC0, HK0, HQ.out⟩
  case round =>
    rename_i wr
    obtain ⟨j, u, r, hj, rfl, rfl, rfl, HU, HR, HC, HK, hz⟩ := hrel
    have hll := HLEN.out j (by have := HT.out; omega)
    have htl := soT_length xs l j
    obtain ⟨m, hm⟩ : ∃ m, l.length - j = m := ⟨_, rfl⟩
    rw [hm] at hll
    have HM := Lib.hid hll
    have HTL := Lib.hid htl
    obtain ⟨B, c1, rfl⟩ := HU.out.val hll
    have hjt := HT.out
    by_cases hp : j < t
    · obtain ⟨q, hq⟩ : ∃ q, j % n = q := ⟨_, rfl⟩
      have hqn : q < n := by rw [← hq]; exact Nat.mod_lt _ (by omega)
      have hqi : (j : Int) % (n : Int) = (q : Int) := by rw [← hq]; exact (Int.natCast_emod j n).symm
      obtain ⟨k, hk⟩ : ∃ k, cnt xs j = k := ⟨_, rfl⟩
      have hkx : xs.getD q 0 = k := by rw [← hk, cnt, HN.out, hq]
      have hc := keepc (HK.out) (a := ⟨g, o + q, none⟩) (by rw [World.cell?_alloc_old _ _ _ (Nat.ne_of_lt (World.block_lt_of_cell? _ _ (HA.out q hqn)))]; exact HA.out q hqn) (fun h => h)
      rw [hkx] at hc
      have HCQ := Lib.hid hc
      obtain ⟨k1, k2⟩ := cnt_rng HG.out j
      rw [hk] at k1 k2
      have HKK := Lib.hid hk
      have HPOS : Hid (0 < (soL xs l j).length) := Lib.hid (by rw [HM.out]; omega)
      have HLE : Hid ((soL xs l j).length ≤ 1000000) := Lib.hid (by have := HM.out; have := HL.out; omega)
      have hcell := HC.out
      have jn : (0 : Int) ≤ j := Int.natCast_nonneg _
      have m1 : (n : Int) ≠ 0 := by omega
      have m2 : ¬ (n : Int) = 0 := by omega
      have m3 : ((n : Int) == 0) = false := by simp; omega
      have m4 : (0 : Int) ≤ q := Int.natCast_nonneg _
      have m5 : (q : Int) < n := by omega
      have m6 : (j : Int).tmod (n : Int) = (q : Int) := by rw [Int.tmod_eq_emod_of_nonneg (by omega)]; exact hqi
      have m8 : ¬ n = 0 := by omega
      have m7 : IntKind.i64.wrap (q : Int) = (q : Int) := IntWalk.i64_in _ (by omega)
      clear hq hk hkx hm hll htl
      go_wp2_with fail
      go_region_held3 (fun w' => Kp Nw wr w' ∧ w'.cell? ⟨W.heap.size, 0, none⟩ = some (.slice (some ⟨g, o, none⟩) n c) ∧ w'.cell? ⟨g, o + q, none⟩ = some (.int .i64 k))
        (first
          | exact ⟨(Kp.refl _ _).drew, HC.out, HCQ.out⟩
          | exact ⟨hkW1, keepc hkW1 HC.out (fun h => h), keepc hkW1 HCQ.out (fun h => h)⟩)
        (first
          | (go_at_call 38
             refine (ciTurn_any _ k (soL xs l j) (W.heap.size + 1) _ (HU.out.below (‹Kp Nw wr _ ∧ _›.1).below') HPOS.out HLE.out k1 k2).mono ?_
             rintro e w1 ⟨v', rfl, hs', hk'⟩
             have hkW1 := (‹Kp Nw wr _ ∧ _›.1).nw hk'
             have hsz := (‹Kp Nw wr _ ∧ _›.1).size)
          | fail)
      have HS := Lib.hid (hs'.from (B' := W.heap.size + 1) (by omega))
      have HK1 := Lib.hid (HK.out.nw hkW1)
      have HC1 := Lib.hid (keepc hkW1 HC.out (fun h => h))
      have hrow : Hid (∀ gg, v'.ownBlock = some gg → wr.heap.size ≤ gg) := Lib.hid (fun gg hg => by have := (hs'.own_ge gg hg).1; omega)
      have HR1 := Lib.hid (HR.out.below hkW1.below')
      have hz1 : wr.heap.size ≤ w1.heap.size := hkW1.size
      have HO := Lib.hid HR.out.own_ge
      have HKK2 := HKK.out
      clear hs' hk' hkW1 hsz hcell hc
      go_wp2_with (first | (at_builtin; refine wpList_app _ rfl (.tmp 33) (.tmp 35) rfl (W.heap.size + 1) r _ (soT xs l j) [who k (soL xs l j)] rfl rfl (HR1.out.below ((Kp.refl Nw w1).alloc _).below') (Rd.one (g := w1.heap.size) (by simp)) nil_one (by rw [HTL.out]; simp; omega) (by simp; omega) ?_))
      intro r' w2 hs2 hk2 hat
      have hk2' : Kp (fun b => r.ownBlock = some b) w1 w2 := ((Kp.refl _ w1).alloc _).trans hk2
      have HS2 := Lib.hid hs2
      have HU2 := Lib.hid (HS.out.kp hk2' (fun gg a b => by have := hrow.out gg a; have := (HO.out gg b).2; omega))
      have HC2 := Lib.hid (keepc hk2' HC1.out (fun h => by have := (HO.out _ h).1; simp only [] at this; omega))
      have HK2 := Lib.hid (HK1.out.after hk2' (fun gg hlt h => by have := (HO.out gg h).1; simp only [World.size_alloc] at hlt; omega))
      have hz2 : W.heap.size + 1 ≤ w2.heap.size := by have := hk2'.size; omega
      clear hs2 hk2 hk2' hat HS HR1 HC1 HK1 HO hrow
      go_wp2
      go_roundw
      case rel => exact ⟨j + 1, _, r', by omega, rfl, rfl, by go_num, by rw [soL, HKK.out]; exact HU2, by rw [soT, HKK.out]; exact HS2, HC2, HK2, hz2⟩
      case measure => simp [intOf]; omega
    · have e : j = t := by omega
      subst e
      go_wp2
      go_ret2
      exact ⟨_, _, rfl, HR.out.from (by omega), HU.out.from (by omega), (Kp.al _ _).nw HK.out⟩
end Go.Proofs.Ytbndgkjnigehgaa
namespace Go.Proofs.Ytbndgkjnigehgaa
open Go.ChangeShapes Go.WideShapes Go.ChangeAt Go.RowKit

set_option maxHeartbeats 1600000 in
theorem soOrder_any (A : Option Addr) (n c : Nat) (xs : List Int) (p : Nat) (W : World) (hu : Rd W (.slice A n c) xs) (hn : xs.length = n) (hg : sgB xs = true) (p1 : 1 ≤ p) (p2 : p ≤ 200) :
    Calls Try.prog 16 #[.agg #[.slice A n c], .int .i64 p] W (Makes W (soT xs (marks 0 p) p)) := by
  have HU := Lib.hid hu
  have HN := Lib.hid hn
  have HG := Lib.hid hg
  have HC := Lib.hid (Own1.new W (.slice A n c) 28).1
  have hc := HC.out
  clear hu hn hg
  go_enter Try.func16, Try.ntmps16
  go_wp2_with fail
  go_region_held3 (fun w' => Kp Nw (W.alloc (.cells #[.slice A n c] 28)) w' ∧ w'.cell? ⟨W.heap.size, 0, none⟩ = some (.slice A n c))
    (first
      | exact ⟨(Kp.refl _ _).drew, HC.out⟩
      | exact ⟨hkW2, keepc hkW2 HC.out (fun h => h)⟩
      | exact ⟨hkW1, keepc hkW1 HC.out (fun h => h)⟩)
    (first
      | (go_at_call 31
         refine (ciPeople_any p _ (by omega)).mono ?_
         rintro e w1 ⟨v1, rfl, hs1, hk1⟩
         have hkW1 := (‹Kp Nw (W.alloc (.cells #[.slice A n c] 28)) _ ∧ _›.1).nw hk1)
      | (go_at_call 30
         refine (soTurns_any A n c xs v1 (marks 0 p) p _ (HU.out.nw ((Kp.al W _).nw (‹Kp Nw (W.alloc (.cells #[.slice A n c] 28)) _ ∧ _›.1))) HN.out HG.out hs1.rd (fun h => by have := congrArg List.length h; rw [marks_length] at this; simp at this; omega) (by rw [marks_length]; omega) (by rw [marks_length]; omega)).mono ?_
         rintro e w2 ⟨v2, v3, rfl, hs2, hs3, hk2⟩
         have hkW2 := (‹Kp Nw (W.alloc (.cells #[.slice A n c] 28)) _ ∧ _›.1).nw hk2)
      | fail)
  have HS := Lib.hid (hs2.from (B' := W.heap.size) (by have := hkW1.size; simp only [World.size_alloc] at this; omega))
  have HK := Lib.hid ((Kp.al W _).nw hkW2)
  clear hs1 hk1 hkW1 hs2 hs3 hk2 hkW2 hc
  go_wp2
  go_ret
  exact ⟨_, rfl, HS.out, HK.out⟩

/-- are there a song and people? -/
def asB (xs : List Int) (p : Int) : Bool := sgB xs && decide (1 ≤ p ∧ p ≤ 200)
theorem asB_parts {xs : List Int} {p : Int} (h : asB xs p = true) : sgB xs = true ∧ 1 ≤ p ∧ p ≤ 200 := by
  unfold asB at h; rw [Bool.and_eq_true] at h; exact ⟨h.1, of_decide_eq_true h.2⟩
/-- the order out of a song -/
def soO (xs : List Int) (p : Nat) : List Int := soT xs (marks 0 p) p
theorem soO_length (xs : List Int) (p : Nat) : (soO xs p).length = p := soT_length _ _ _
def vSoOrder (xs : List Int) (p : Int) : List Int × Bool := if asB xs p = true then (soO xs p.toNat, true) else ([], false)
def vSoLast (xs : List Int) (p : Int) : Int × Bool := if asB xs p = true then ((soO xs p.toNat).getD (p.toNat - 1) 0, true) else (0, false)
def vSoTurn (xs : List Int) (p q : Int) : Int × Bool := if asB xs p = true ∧ 0 ≤ q ∧ q ≤ p - 1 then (fndD q (soO xs p.toNat) 0, true) else (0, false)
def vSoLeft (xs : List Int) (p t : Int) : List Int × Bool := if asB xs p = true ∧ 0 ≤ t ∧ t ≤ p - 1 then (soL xs (marks 0 p.toNat) t.toNat, true) else ([], false)
theorem vSoOrder_len (xs : List Int) (p : Int) : (vSoOrder xs p).1.length ≤ 1000000 := by
  unfold vSoOrder
  split
  · rename_i h; have := asB_parts h; simp only [soO_length]; omega
  · exact Nat.zero_le _
theorem vSoLeft_len (xs : List Int) (p t : Int) : (vSoLeft xs p t).1.length ≤ 1000000 := by
  unfold vSoLeft
  split
  · rename_i h
    have := asB_parts h.1
    simp only []
    rw [soL_length _ _ _ (by rw [marks_length]; omega), marks_length]; omega
  · exact Nat.zero_le _

end Go.Proofs.Ytbndgkjnigehgaa
namespace Go.Proofs.Ytbndgkjnigehgaa
open Go.ChangeShapes Go.WideShapes Go.ChangeAt Go.RowKit

/-- the last one of so many people -/
def lastS (xs : List Int) (p : Nat) : Int := (soO xs p).getD (p - 1) 0
/-- what a call returns that makes a song -/
def SongM (W : World) (xs : List Int) (e : Ending) (w' : World) : Prop := ∃ v, e = .returned (.agg #[v]) ∧ Sl w' W.heap.size v xs ∧ Kp Nw W w'
/-- the counts from one on, then those before it -/
def rotS (xs : List Int) (k : Nat) : List Int := xs.drop k ++ xs.take k
theorem rotS_length (xs : List Int) (k : Nat) : (rotS xs k).length = xs.length := by unfold rotS; rw [List.length_append, List.length_drop, List.length_take]; omega
theorem rotS_sgB {xs : List Int} (k : Nat) (h : sgB xs = true) : sgB (rotS xs k) = true := by
  have hp : (rotS xs k).Perm xs := by
    unfold rotS
    exact List.perm_append_comm.trans (by rw [List.take_append_drop])
  unfold sgB at h ⊢
  rw [Bool.and_eq_true] at h ⊢
  refine ⟨by rw [rotS_length]; exact h.1, ?_⟩
  rw [List.all_eq_true] at h ⊢
  intro x hx
  exact h.2 x (hp.mem_iff.1 hx)

def vTurnSong (xs : List Int) (k : Int) : List Int × Bool := if sgB xs = true ∧ 0 ≤ k ∧ k ≤ (xs.length : Int) - 1 then (rotS xs k.toNat, true) else ([], false)
theorem vTurnSong_len (xs : List Int) (k : Int) : (vTurnSong xs k).1.length ≤ 1000000 := by
  unfold vTurnSong
  split
  · rename_i h; have := sgB_len h.1; simp only [rotS_length]; omega
  · exact Nat.zero_le _

/-- a song boxed, a song's cell for the result: both are there behind a call -/
theorem song_open (x : Value) (W w1 : World) (hk : Kp Nw ((W.alloc (.cells #[x] 28)).alloc (.cells #[.slice none 0 0] 28)) w1) :
    Kp Nw W w1 ∧ W.heap.size + 2 ≤ w1.heap.size ∧ Own1 w1 W.heap.size x ∧ Own1 w1 (W.heap.size + 1) (.slice none 0 0) := by
  refine ⟨((Kp.al W _).nw (.al _ _)).nw hk, by have := hk.size; simp only [World.size_alloc] at this; exact this, ((Own1.new W x 28).kp (.al _ _) (fun h => h)).kp hk (fun h => h), ?_⟩
  have h := (Own1.new (W.alloc (.cells #[x] 28)) (.slice none 0 0) 28).kp hk (fun h => h)
  simpa only [World.size_alloc] using h
/-- the result stored into its cell -/
theorem song_close {W w1 : World} {v : Value} {xs : List Int} (b : Nat) (hs : Sl w1 (W.heap.size + b + 1) v xs) (hk : Kp Nw W w1) :
    Sl (w1.setCell ⟨W.heap.size + b, 0, none⟩ v) W.heap.size v xs ∧ Kp Nw W (w1.setCell ⟨W.heap.size + b, 0, none⟩ v) := by
  refine ⟨?_, hk.setCell (.inr (by show W.heap.size ≤ W.heap.size + b; omega)) _⟩
  have k9 : Kp (fun g => g = W.heap.size + b) w1 w1 := Kp.refl _ _
  exact (hs.kp (k9.setCell (p := ⟨W.heap.size + b, 0, none⟩) (.inl rfl) v) (fun gg a b => by have := (hs.own_ge gg a).1; omega)).from (by omega)
theorem song_none {W w1 : World} (b : Nat) (hz : W.heap.size + b + 1 ≤ w1.heap.size) (hk : Kp Nw W w1) :
    Sl (w1.setCell ⟨W.heap.size + b, 0, none⟩ (.slice none 0 0)) W.heap.size (.slice none 0 0) [] ∧ Kp Nw W (w1.setCell ⟨W.heap.size + b, 0, none⟩ (.slice none 0 0)) :=
  song_close b ((Sl.nil _ _).from hz) hk

end Go.Proofs.Ytbndgkjnigehgaa
namespace Go.Proofs.Ytbndgkjnigehgaa
open Go.ChangeShapes Go.WideShapes Go.ChangeAt Go.RowKit

/-- do the first places, moved on by k, read the same? -/
def shB (xs : List Int) (k d : Nat) : Bool := (List.range d).all (fun e => xs.getD (k + e) 0 == xs.getD e 0)
theorem shB_succ (xs : List Int) (k d : Nat) : shB xs k (d + 1) = (shB xs k d && (xs.getD (k + d) 0 == xs.getD d 0)) := by
  unfold shB; rw [List.range_succ, List.all_append]; simp
def perB (xs : List Int) (k d : Nat) : Bool := decide (xs.length % k = 0) && shB xs k d
/-- the least number of counts, from one on -/
def lsN (xs : List Int) (k : Nat) : Nat → Nat
  | 0 => xs.length
  | m + 1 => if perB xs k (xs.length - k) = true then k else lsN xs (k + 1) m
def leastS (xs : List Int) : Nat := lsN xs 1 (xs.length - 1)
theorem lsN_rng (xs : List Int) : ∀ (m k : Nat), 1 ≤ k → k + m = xs.length → 1 ≤ lsN xs k m ∧ lsN xs k m ≤ xs.length
  | 0, k, h1, h2 => by unfold lsN; omega
  | m + 1, k, h1, h2 => by
    unfold lsN
    split
    · omega
    · exact lsN_rng xs m (k + 1) (by omega) (by omega)
theorem leastS_rng {xs : List Int} (h : 1 ≤ xs.length) : 1 ≤ leastS xs ∧ leastS xs ≤ xs.length := lsN_rng xs _ 1 (Nat.le_refl _) (by omega)

def vLeast (xs : List Int) : List Int × Bool := if sgB xs = true then (xs.take (leastS xs), true) else ([], false)
theorem vLeast_len (xs : List Int) : (vLeast xs).1.length ≤ 1000000 := by
  unfold vLeast
  split
  · rename_i h; have := sgB_len h; simp only [List.length_take]; omega
  · exact Nat.zero_le _
def vPeriodS (xs : List Int) : Int × Bool := if sgB xs = true then ((leastS xs : Int), true) else (0, false)

end Go.Proofs.Ytbndgkjnigehgaa
namespace Go.Proofs.Ytbndgkjnigehgaa
open Go.ChangeShapes Go.WideShapes Go.ChangeAt Go.RowKit

/-- who is left when the one at a place goes -/
def goneAt (l : List Int) (k : Nat) : List Int := l.drop (k + 1) ++ l.take k
theorem goneAt_length {l : List Int} {k : Nat} (h : k < l.length) : (goneAt l k).length = l.length - 1 := by
  unfold goneAt; rw [List.length_append, List.length_drop, List.length_take]; omega
/-- the counts by which those of a list go in an order, and whether there are such -/
def sfO (l : List Int) : List Int → List Int × Bool
  | [] => ([], true)
  | x :: r =>
    if fndD x l 0 < 0 then ([], false)
    else if (sfO (goneAt l (fndD x l 0).toNat) r).2 = true then ((fndD x l 0 + 1) :: (sfO (goneAt l (fndD x l 0).toNat) r).1, true) else ([], false)
theorem sfO_len : ∀ (r l : List Int), (sfO l r).1.length ≤ r.length
  | [], l => by simp [sfO]
  | x :: r, l => by
    unfold sfO
    split
    · simp
    · split
      · have := sfO_len r (goneAt l (fndD x l 0).toNat)
        simp only [List.length_cons]; omega
      · simp
/-- the counts so far, then those of the rest -/
def sfJ (cs : List Int) (R : List Int × Bool) : List Int × Bool := if R.2 = true then (cs ++ R.1, true) else ([], false)
theorem sfJ_nil (R : List Int × Bool) (h : R.2 = false → R.1 = []) : sfJ [] R = R := by
  unfold sfJ
  cases hb : R.2
  · rw [if_neg Bool.false_ne_true]; rw [← h hb, ← hb]
  · rw [if_pos rfl, List.nil_append, ← hb]
theorem sfO_no : ∀ (r l : List Int), (sfO l r).2 = false → (sfO l r).1 = []
  | [], l => by simp [sfO]
  | x :: r, l => by
    unfold sfO
    split
    · simp
    · split <;> simp
theorem fndD_rng (x : Int) : ∀ (l : List Int) (j : Nat), fndD x l j = -1 ∨ ((j : Int) ≤ fndD x l j ∧ fndD x l j < (j : Int) + l.length)
  | [], j => .inl rfl
  | y :: r, j => by
    unfold fndD
    split
    · right; simp only [List.length_cons]; omega
    · rcases fndD_rng x r (j + 1) with h | h
      · exact .inl h
      · right; simp only [List.length_cons]; omega
def vSongFor (xs : List Int) : List Int × Bool := if 1 ≤ xs.length ∧ xs.length ≤ 20 then sfO (marks 0 xs.length) xs else ([], false)
theorem sfJ_step (cs : List Int) (z : Int) (X : List Int × Bool) : sfJ cs (if X.2 = true then ((z + 1) :: X.1, true) else ([], false)) = sfJ (cs ++ [z + 1]) X := by
  unfold sfJ
  cases hb : X.2
  · rw [if_neg Bool.false_ne_true, if_neg Bool.false_ne_true, if_neg Bool.false_ne_true]
  · rw [if_pos rfl, if_pos rfl, if_pos rfl, List.append_assoc]; rfl
theorem Own1.set {w : World} {b : Nat} {x : Value} (h : Own1 w b x) (y : Value) : Own1 (w.setCell ⟨b, 0, none⟩ y) b y := ⟨one_set w b y _ h.1, by rw [World.frozen?_setCell]; exact h.2⟩
theorem vSongFor_len (xs : List Int) : (vSongFor xs).1.length ≤ 1000000 := by
  unfold vSongFor
  split
  · have := sfO_len xs (marks 0 xs.length); omega
  · exact Nat.zero_le _

end Go.Proofs.Ytbndgkjnigehgaa
namespace Go.Proofs.Ytbndgkjnigehgaa
open Go.ChangeShapes Go.WideShapes Go.ChangeAt Go.RowKit

/-- two songs boxed -/
theorem songs_open (x y : Value) (W w1 : World) (hk : Kp Nw ((W.alloc (.cells #[x] 28)).alloc (.cells #[y] 28)) w1) :
    Kp Nw W w1 ∧ W.heap.size + 2 ≤ w1.heap.size ∧ w1.cell? ⟨W.heap.size, 0, none⟩ = some x ∧ w1.cell? ⟨W.heap.size + 1, 0, none⟩ = some y := by
  refine ⟨((Kp.al W _).nw (.al _ _)).nw hk, by have := hk.size; simp only [World.size_alloc] at this; exact this, (((Own1.new W x 28).kp (.al _ _) (fun h => h)).kp hk (fun h => h)).1, ?_⟩
  have h := ((Own1.new (W.alloc (.cells #[x] 28)) y 28).kp hk (fun h => h)).1
  simpa only [World.size_alloc] using h
def bySongs (xs : List Int) (p : Nat) : List Int := (List.range p).map (fun i => lastS xs (i + 1))
theorem bySongs_len (xs : List Int) (p : Nat) : (bySongs xs p).length = p := by unfold bySongs; simp
theorem bySongs_succ (xs : List Int) (p : Nat) : bySongs xs (p + 1) = bySongs xs p ++ [lastS xs (p + 1)] := by unfold bySongs; rw [List.range_succ, List.map_append]; rfl
def vBySongs (xs : List Int) (p : Int) : List Int × Bool := if asB xs p = true then (bySongs xs p.toNat, true) else ([], false)
theorem vBySongs_len (xs : List Int) (p : Int) : (vBySongs xs p).1.length ≤ 1000000 := by
  unfold vBySongs
  split
  · rename_i h; have := asB_parts h; simp only [bySongs_len]; omega
  · exact Nat.zero_le _

def vSame (xs ys : List Int) (p : Int) : Bool × Bool := if asB xs p = true ∧ sgB ys = true then (decide (soO xs p.toNat = soO ys p.toNat), true) else (false, false)

end Go.Proofs.Ytbndgkjnigehgaa
namespace Go.Proofs.Ytbndgkjnigehgaa
open Go.ChangeShapes Go.WideShapes Go.ChangeAt Go.RowKit

/-- the first count from some on with which the last one is the one asked for -/
def btN (xs : List Int) (p : Nat) (q : Int) (k : Nat) : Nat → Int × Bool
  | 0 => (0, false)
  | m + 1 => if lastS (rotS xs k) p = q then ((k : Int), true) else btN xs p q (k + 1) m
def vBest (xs : List Int) (p q : Int) : Int × Bool := if asB xs p = true ∧ 0 ≤ q ∧ q ≤ p - 1 then btN xs p.toNat q 0 xs.length else (0, false)

end Go.Proofs.Ytbndgkjnigehgaa
namespace Go.Proofs.Ytbndgkjnigehgaa
open Go.ChangeShapes Go.WideShapes Go.ChangeAt Go.RowKit

theorem lastS_rng (xs : List Int) (p : Nat) (h : 1 ≤ p) : 0 ≤ lastS xs p ∧ lastS xs p < p := by
  have hl : p - 1 < (soO xs p).length := by rw [soO_length]; omega
  have hm : lastS xs p ∈ soO xs p := by
    have e : lastS xs p = (soO xs p)[p - 1] := by rw [lastS, List.getD_eq_getElem?_getD, List.getElem?_eq_getElem hl]; rfl
    rw [e]; exact List.getElem_mem _
  have hp := soT_perm xs (marks 0 p)
  rw [marks_length] at hp
  exact marks_mem p _ (hp.mem_iff.1 hm)
/-- the first places on which one may stand -/
def safeL (z : Int) (p k : Nat) : List Int := (List.range k).map (fun b : Nat => (z + (b : Int)) % (p : Int))
theorem safeL_len (z : Int) (p k : Nat) : (safeL z p k).length = k := by unfold safeL; simp
theorem safeL_succ (z : Int) (p k : Nat) : safeL z p (k + 1) = safeL z p k ++ [(z + (k : Int)) % (p : Int)] := by unfold safeL; rw [List.range_succ, List.map_append]; rfl
theorem safeL_new (z : Int) (p k : Nat) (z0 : 0 ≤ z) (z1 : z < p) (h : k < p) : ¬ (z + (k : Int)) % (p : Int) ∈ safeL z p k := by
  intro hm
  unfold safeL at hm
  obtain ⟨b, hb, e⟩ := List.mem_map.1 hm
  have hb' := List.mem_range.1 hb
  have h1 : (z + (b : Int)) % (p : Int) = if z + b < p then z + b else z + b - p := by
    split
    · exact Int.emod_eq_of_lt (by omega) (by omega)
    · rw [← Int.sub_emod_right, Int.emod_eq_of_lt (by omega) (by omega)]
  have h2 : (z + (k : Int)) % (p : Int) = if z + k < p then z + k else z + k - p := by
    split
    · exact Int.emod_eq_of_lt (by omega) (by omega)
    · rw [← Int.sub_emod_right, Int.emod_eq_of_lt (by omega) (by omega)]
  rw [h1, h2] at e
  split at e <;> split at e <;> omega
def vSafe (xs : List Int) (p k : Int) : List Int × Bool := if asB xs p = true ∧ 1 ≤ k ∧ k ≤ p then (srt (safeL (lastS xs p.toNat) p.toNat k.toNat), true) else ([], false)
theorem vSafe_len (xs : List Int) (p k : Int) : (vSafe xs p k).1.length ≤ 1000000 := by
  unfold vSafe
  split
  · rename_i h
    have := asB_parts h.1
    simp only [srt, List.length_mergeSort, safeL_len]; omega
  · exact Nat.zero_le _

set_option maxRecDepth 100000 in
set_option maxHeartbeats 3200000 in
theorem sSafePlaces_any (g n B : Nat) (xs : List Int) (p k : Int) (W : World) (hs : SlAt W B g n n xs) (hl : n ≤ 1048576) :
    Calls Try.prog 5 #[.agg #[.slice (some ⟨g, 0, none⟩) n n], .int .i64 p, .int .i64 k] W (ListB W (vSafe xs p k).1 (vSafe xs p k).2) := by
  have HS := Lib.hid hs
  have HN : Hid (xs.length = n) := Lib.hid hs.1
  clear hs
  unfold vSafe
  cases hb : asB xs p
  · rw [if_neg (by simp)]
    have HB : Hid ((sgB xs && decide (1 ≤ p ∧ p ≤ 200)) = false) := Lib.hid hb
    clear hb
    go_enter Try.func5, Try.ntmps5
    go_wp2_with (first | (refine (soAsked_any _ n n xs p _ (HS.out.sl.rd.nw (.al W _)) HN.out (by omega) _ HB.out.symm).mono ?_; rintro e w1 ⟨rfl, hk1⟩; have HK1 := Lib.hid ((Kp.al W _).nw hk1); have HC1 := Lib.hid (keepc hk1 (Own1.new W (.slice (some ⟨g, 0, none⟩) n n) 28).1 (fun h => h)); have hc1 := HC1.out; have hz1 : W.heap.size + 1 ≤ w1.heap.size := (by have := hk1.size; simp only [World.size_alloc] at this; exact this); clear hk1))
    go_ret2
    exact ⟨_, rfl, Sl.nil _ _, HK1.out⟩
  · have HB : Hid ((sgB xs && decide (1 ≤ p ∧ p ≤ 200)) = true) := Lib.hid hb
    obtain ⟨hg, p1, p2⟩ := asB_parts hb
    have HG := Lib.hid hg
    by_cases hk : 1 ≤ k ∧ k ≤ p
    · rw [if_pos ⟨rfl, hk⟩]
      obtain ⟨k1, k2⟩ := hk
      obtain ⟨m, hm⟩ : ∃ m, p.toNat = m + 1 := ⟨p.toNat - 1, by omega⟩
      have hpm : p = (m : Int) + 1 := by omega
      subst hpm
      obtain ⟨t, ht⟩ : ∃ t, k.toNat = t := ⟨_, rfl⟩
      have hkt : k = (t : Int) := by omega
      subst hkt
      rw [hm, ht]
      obtain ⟨z, hz⟩ : ∃ z, lastS xs (m + 1) = z := ⟨_, rfl⟩
      obtain ⟨z0, z1⟩ := lastS_rng xs (m + 1) (by omega)
      rw [hz] at z0 z1 ⊢
      have HZ := Lib.hid hz
      have hm2 : m ≤ 199 := by omega
      have m0 : (0 : Int) ≤ m := Int.natCast_nonneg _
      have wm : IntKind.i64.wrap ((m : Int) + 1 - 1) = (m : Int) := by rw [IntWalk.i64_in _ (by omega)]; omega
      clear hb hg hm hz ht
      go_enter Try.func5, Try.ntmps5
      go_wp2_with (first | (refine (soAsked_any _ n n xs ((m : Int) + 1) _ (HS.out.sl.rd.nw (.al W _)) HN.out (by omega) _ HB.out.symm).mono ?_; rintro e w1 ⟨rfl, hk1⟩; have HK1 := Lib.hid ((Kp.al W _).nw hk1); have HC1 := Lib.hid (keepc hk1 (Own1.new W (.slice (some ⟨g, 0, none⟩) n n) 28).1 (fun h => h)); have hc1 := HC1.out; have hz1 : W.heap.size + 1 ≤ w1.heap.size := (by have := hk1.size; simp only [World.size_alloc] at this; exact this); clear hk1) | ((with_reducible refine (l1In_yes _ _ _ _ k1 k2).mono ?_); rintro e w' ⟨rfl, rfl⟩))
      refine (soOrder_any _ n n xs (m + 1) _ (HS.out.sl.rd.nw HK1.out) HN.out HG.out (by omega) (by omega)).mono ?_
      rintro e w2 ⟨v2, rfl, hs2, hk2⟩
      obtain ⟨g3, cap, rfl, hs4, _⟩ := hs2.at_ (by rw [soT_length]; omega)
      rw [soT_length] at hs4 ⊢
      have cx := hs4.cell m (by omega)
      have hx2 := HZ.out
      rw [lastS, soO, Nat.add_sub_cancel] at hx2
      rw [hx2] at cx
      have HK2 := Lib.hid (HK1.out.nw hk2)
      clear hs2 hk2 hs4 hx2
      go_wp2
      go_loopw [9, 10] (fun o9 i9 wr => ∃ (j : Nat) (r : Value) (zs : List Int), j ≤ t ∧ r = o9 ∧ i9 = .int .i64 j ∧ Hid (j = 0 → r = .slice none 0 0) ∧ Hid (Sl wr W.heap.size r zs) ∧ Hid (zs.Pairwise (· < ·)) ∧ Hid (zs.Perm (safeL z (m + 1) j)) ∧ Hid (Kp Nw W wr)) (fun _ i9 _ => t - (intOf i9).toNat)
      case atStart => exact ⟨0, _, [], Nat.zero_le _, rfl, rfl, Lib.hid (fun _ => rfl), Lib.hid (Sl.nil _ _), Lib.hid List.Pairwise.nil, Lib.hid (List.Perm.refl _), HK2⟩
      case round =>
        rename_i wr
        obtain ⟨j, r, zs, hj, rfl, rfl, HZR, HR, HO, HP, HK⟩ := hrel
        have j0 : (0 : Int) ≤ j := Int.natCast_nonneg _
        have hzl : zs.length = j := by rw [HP.out.length_eq, safeL_len]
        by_cases hp : j < t
        · obtain ⟨x, hx⟩ : ∃ x, (z + (j : Int)) % ((m : Int) + 1) = x := ⟨_, rfl⟩
          have hx' : (z + (j : Int)) % ((m + 1 : Nat) : Int) = x := by rw [← hx]; rfl
          have hnew := safeL_new z (m + 1) j z0 z1 (by omega)
          have hsu := safeL_succ z (m + 1) j
          rw [hx'] at hnew hsu
          have xb1 := Int.emod_nonneg (z + (j : Int)) (b := (m : Int) + 1) (by omega)
          have xb2 := Int.emod_lt_of_pos (z + (j : Int)) (b := (m : Int) + 1) (by omega)
          rw [hx] at xb1 xb2
          have HNX : Hid (¬ x ∈ zs) := Lib.hid (fun h => hnew (HP.out.mem_iff.1 h))
          have HNXD : Hid (decide (x ∈ zs) = false) := Lib.hid (decide_eq_false HNX.out)
          have HT : Hid ((x :: zs).Perm (safeL z (m + 1) (j + 1))) := Lib.hid (by
            rw [hsu]
            exact (HP.out.cons x).trans (List.perm_append_singleton x _).symm)
          have HZL := Lib.hid hzl
          have HPUT : Hid (∀ w', Kp Nw wr w' → Calls Try.prog 18 #[r, .int .i64 x] w' (Puts w' (x :: zs))) := Lib.hid (fun w' hk => by
            by_cases j0 : j = 0
            · rw [HZR.out j0]
              have : zs = [] := List.eq_nil_of_length_eq_zero (by omega)
              rw [this]
              exact l1Put_nil x w'
            · obtain ⟨g', cap', e9, hsa, h1, h2, _, _⟩ := HR.out.at_ (by omega)
              rw [e9]
              exact l1Put_at g' cap' zs.length _ zs x w' (hsa.kq8 hk (fun h => h)) h1 (by omega) (by omega) HNX.out HO.out)
          obtain ⟨Ar, cr, rfl⟩ := HR.out.val hzl
          have t1 : IntKind.i64.wrap (z + (j : Int)) = z + (j : Int) := IntWalk.i64_in _ (by omega)
          have t2 : (z + (j : Int)).tmod ((m : Int) + 1) = x := by rw [Int.tmod_eq_emod_of_nonneg (by omega)]; exact hx
          have t3 : ¬ (m : Int) + 1 = 0 := by omega
          have t4 : IntKind.i64.wrap x = x := IntWalk.i64_in _ (by omega)
          have jt : (j : Int) < t := by omega
          have HRD : Hid (Rd wr (.slice Ar j cr) zs) := Lib.hid HR.out.rd
          clear hx hx' hnew hsu hzl
          go_wp2_with fail
          refine (l1Has_any _ zs x _ HRD.out (by rw [HZL.out]; omega)).mono ?_
          rw [HNXD.out]
          rintro e w3 ⟨rfl, rfl⟩
          go_wp2_with fail
          refine (HPUT.out _ (Kp.refl _ _)).mono ?_
          rintro e w4 ⟨v4, zs1, rfl, hs1, ho1, hp1, hk1⟩
          have HS1 := Lib.hid (Sl.from hs1 HK.out.size)
          have HO1 := Lib.hid ho1
          have HP1 := Lib.hid (hp1.trans HT.out)
          have HK4 := Lib.hid (HK.out.nw hk1)
          clear hs1 ho1 hp1 hk1
          go_wp2
          go_roundw
          case rel => exact ⟨j + 1, v4, zs1, by omega, rfl, by go_num, Lib.hid (fun h => by omega), HS1, HO1, HP1, HK4⟩
          case measure => simp [intOf] <;> omega
        · have e : j = t := by omega
          subst e
          have HE : Hid (zs = srt (safeL z (m + 1) j)) := Lib.hid (srt_is _ zs HO.out HP.out)
          clear hzl
          go_wp2
          go_ret2
          exact ⟨r, rfl, by rw [← HE.out]; exact HR.out, HK.out⟩
    · rw [if_neg (fun h => hk h.2)]
      have hk' : k < 1 ∨ p < k := by omega
      clear hb hg hk
      go_enter Try.func5, Try.ntmps5
      go_wp2_with (first | (refine (soAsked_any _ n n xs p _ (HS.out.sl.rd.nw (.al W _)) HN.out (by omega) _ HB.out.symm).mono ?_; rintro e w1 ⟨rfl, hk1⟩; have HK1 := Lib.hid ((Kp.al W _).nw hk1); have HC1 := Lib.hid (keepc hk1 (Own1.new W (.slice (some ⟨g, 0, none⟩) n n) 28).1 (fun h => h)); have hc1 := HC1.out; have hz1 : W.heap.size + 1 ≤ w1.heap.size := (by have := hk1.size; simp only [World.size_alloc] at this; exact this); clear hk1) | ((with_reducible refine (l1In_no _ _ _ _ hk').mono ?_); rintro e w' ⟨rfl, rfl⟩))
      go_ret2
      exact ⟨_, rfl, Sl.nil _ _, HK1.out⟩
end Go.Proofs.Ytbndgkjnigehgaa
