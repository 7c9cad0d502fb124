/- The texts SoT, SoO, SoR, SoP, SoF, SoB, SoQ, SoS, as one. -/
import Derived.Test.YtalikikafcicpaaLwSo
import Derived.Test.YtalikikafcicpaaTurn
import Derived.Test.YtalikikafcicpaaDeck
import Derived.Test.YtalikikafcicpaaLow
import Derived.Test.YtalikikafcicpaaAt
import Derived.Test.YtalikikafcicpaaLwO7
import Derived.Test.YtalikikafcicpaaPut
import Derived.Test.YtalikikafcicpaaGood
import Derived.Test.YtalikikafcicpaaDeckF
namespace Go.Proofs.Ytalikikafcicpaa
open Go.ChangeShapes Go.WideShapes Go.ChangeAt Go.RowKit

/-- are these the counts of a song? -/
def sgB (xs : List Int) : Bool := decide (1 ≤ xs.length ∧ xs.length ≤ 20) && xs.all (okR 1 1000000)
theorem sgB_len {xs : List Int} (h : sgB xs = true) : 1 ≤ xs.length ∧ xs.length ≤ 20 := by
  unfold sgB at h; rw [Bool.and_eq_true] at h; exact of_decide_eq_true h.1
theorem sgB_get {xs : List Int} (h : sgB xs = true) (j : Nat) (hj : j < xs.length) : 1 ≤ xs.getD j 0 ∧ xs.getD j 0 ≤ 1000000 := by
  unfold sgB at h; rw [Bool.and_eq_true] at h
  have := List.all_eq_true.1 h.2 (xs[j]) (List.getElem_mem _)
  simp [okR] at this
  simpa [hj] using this
/-- the count of a turn -/
def cnt (xs : List Int) (t : Nat) : Int := xs.getD (t % xs.length) 0
theorem cnt_rng {xs : List Int} (h : sgB xs = true) (t : Nat) : 1 ≤ cnt xs t ∧ cnt xs t ≤ 1000000 := sgB_get h _ (Nat.mod_lt _ (sgB_len h).1)
/-- who is left after some turns of a song, the one from whom the next turn counts first -/
def soL (xs : List Int) (l : List Int) : Nat → List Int
  | 0 => l
  | j + 1 => rest (cnt xs j) (soL xs l j)
/-- who went at the first turns -/
def soT (xs : List Int) (l : List Int) : Nat → List Int
  | 0 => []
  | j + 1 => soT xs l j ++ [who (cnt xs j) (soL xs l j)]
theorem soT_length (xs l : List Int) : ∀ j, (soT xs l j).length = j
  | 0 => rfl
  | j + 1 => by rw [soT, List.length_append, soT_length xs l j]; rfl
theorem soL_length (xs l : List Int) : ∀ j, j ≤ l.length → (soL xs l j).length = l.length - j
  | 0, _ => rfl
  | j + 1, h => by
    have h1 := soL_length xs l j (by omega)
    have := rest_length (cnt xs j) (soL xs l j) (by omega)
    rw [soL]
    omega
theorem who_perm8 (k : Int) (l : List Int) (h : 0 < l.length) : (who k l :: rest k l).Perm l := by
  have hp := place_lt k l.length h
  have e : l = l.take (place k l.length) ++ l[place k l.length] :: l.drop (place k l.length + 1) := by
    rw [← List.drop_eq_getElem_cons hp, List.take_append_drop]
  have ew : who k l = l[place k l.length] := by unfold who; rw [List.getD_eq_getElem?_getD, List.getElem?_eq_getElem hp]; rfl
  have : (who k l :: rest k l).Perm (l.take (place k l.length) ++ l[place k l.length] :: l.drop (place k l.length + 1)) := by
    rw [ew]
    unfold rest
    exact (List.Perm.cons _ List.perm_append_comm).trans List.perm_middle.symm
  exact this.trans (by rw [← e])
/-- those who went and those who are left are all -/
theorem so_perm (xs l : List Int) : ∀ j, j ≤ l.length → (soT xs l j ++ soL xs l j).Perm l
  | 0, _ => List.Perm.refl _
  | j + 1, h => by
    have hl := soL_length xs l j (by omega)
    refine List.Perm.trans ?_ (so_perm xs l j (by omega))
    rw [soT, soL, List.append_assoc]
    exact List.Perm.append_left _ (who_perm8 _ _ (by omega))
theorem soT_perm (xs l : List Int) : (soT xs l l.length).Perm l := by
  have h := so_perm xs l l.length (Nat.le_refl _)
  have h0 : soL xs l l.length = [] := List.eq_nil_of_length_eq_zero (by rw [soL_length xs l _ (Nat.le_refl _)]; omega)
  rw [h0, List.append_nil] at h
  exact h

set_option maxHeartbeats 1600000 in
theorem soGood_any (A : Option Addr) (n c : Nat) (xs : List Int) (W : World) (hu : Rd W (.slice A n c) xs) (hn' : xs.length = n) (hl : n ≤ 2000000) (b : Bool) (hb : b = sgB xs) :
    Calls Try.prog 24 #[.agg #[.slice A n c]] W fun e w' => e = .returned (.bool b) ∧ Kp Nw W w' := by
  have HB := Lib.hid hb
  have HR := Lib.hid hu
  have HN := Lib.hid hn'
  have HLE : Hid (xs.length ≤ 2000000) := Lib.hid (by omega)
  clear hu hb hn'
  by_cases hn : (n : Int) < 1 ∨ 20 < (n : Int)
  · have HF : Hid (b = false) := Lib.hid (by rw [HB.out]; unfold sgB; rw [decide_eq_false (by have := HN.out; omega)]; rfl)
    go_enter Try.func24, Try.ntmps24
    go_wp2_with (first | ((with_reducible refine (l1In_no (n : Int) _ _ _ hn).mono ?_); rintro e w' ⟨rfl, rfl⟩))
    go_ret
    exact ⟨ret_bool HF.out.symm, Kp.al _ _⟩
  · have n1 : 1 ≤ (n : Int) := by omega
    have n2 : (n : Int) ≤ 20 := by omega
    clear hn
    obtain ⟨d, hd⟩ : ∃ d, xs.all (okR 1 1000000) = d := ⟨_, rfl⟩
    have HD := Lib.hid hd
    have HF : Hid (b = d) := Lib.hid (by rw [HB.out]; unfold sgB; rw [decide_eq_true (by have := HN.out; omega), hd]; rfl)
    clear hd
    cases d
    all_goals
      go_enter Try.func24, Try.ntmps24
      go_wp2_with (first | ((with_reducible refine (l1In_yes (n : Int) _ _ _ n1 n2).mono ?_); rintro e w' ⟨rfl, rfl⟩) | ((with_reducible refine (l1All_rng_as 1 1000000 _ xs _ _ (HR.out.nw (.al _ _)) HLE.out HD.out).mono ?_); rintro e w' ⟨rfl, rfl⟩))
      go_ret
      exact ⟨ret_bool HF.out.symm, Kp.al _ _⟩

theorem sIsSong_any (A : Option Addr) (n c : Nat) (xs : List Int) (W : World) (hu : Rd W (.slice A n c) xs) (hn : xs.length = n) (hl : n ≤ 2000000) :
    Calls Try.prog 9 #[.agg #[.slice A n c]] W (BoolB W (sgB xs)) := by
  have HR := Lib.hid hu
  have HN := Lib.hid hn
  clear hu hn
  go_enter Try.func9, Try.ntmps9
  go_wp2_with fail
  refine (soGood_any A n c xs _ (HR.out.nw (.al _ _)) HN.out hl _ rfl).mono ?_
  rintro e w' ⟨rfl, hk⟩
  have HK := Lib.hid ((Kp.al _ _).nw hk)
  clear hk
  go_wp2
  go_ret
  exact ⟨rfl, HK.out⟩

/-- what some turns return: who went, who is left -/
def TurnsRes (W : World) (xs l : List Int) (t : Nat) (e : Ending) (w' : World) : Prop := ∃ v v', e = .returned (.tuple #[v, v']) ∧ Sl w' W.heap.size v (soT xs l t) ∧ Sl w' W.heap.size v' (soL xs l t) ∧ Kp Nw W w'

end Go.Proofs.Ytalikikafcicpaa
namespace Go.Proofs.Ytalikikafcicpaa
open Go.ChangeShapes Go.WideShapes Go.ChangeAt Go.RowKit
/-- are there a song and people? -/
def asB (xs : List Int) (p : Int) : Bool := sgB xs && decide (1 ≤ p ∧ p ≤ 200)
theorem asB_parts {xs : List Int} {p : Int} (h : asB xs p = true) : sgB xs = true ∧ 1 ≤ p ∧ p ≤ 200 := by
  unfold asB at h; rw [Bool.and_eq_true] at h; exact ⟨h.1, of_decide_eq_true h.2⟩
/-- the order out of a song -/
def soO (xs : List Int) (p : Nat) : List Int := soT xs (marks 0 p) p
theorem soO_length (xs : List Int) (p : Nat) : (soO xs p).length = p := soT_length _ _ _
def vSoOrder (xs : List Int) (p : Int) : List Int × Bool := if asB xs p = true then (soO xs p.toNat, true) else ([], false)
def vSoLast (xs : List Int) (p : Int) : Int × Bool := if asB xs p = true then ((soO xs p.toNat).getD (p.toNat - 1) 0, true) else (0, false)
def vSoTurn (xs : List Int) (p q : Int) : Int × Bool := if asB xs p = true ∧ 0 ≤ q ∧ q ≤ p - 1 then (fndD q (soO xs p.toNat) 0, true) else (0, false)
def vSoLeft (xs : List Int) (p t : Int) : List Int × Bool := if asB xs p = true ∧ 0 ≤ t ∧ t ≤ p - 1 then (soL xs (marks 0 p.toNat) t.toNat, true) else ([], false)
theorem vSoOrder_len (xs : List Int) (p : Int) : (vSoOrder xs p).1.length ≤ 1000000 := by
  unfold vSoOrder
  split
  · rename_i h; have := asB_parts h; simp only [soO_length]; omega
  · exact Nat.zero_le _
theorem vSoLeft_len (xs : List Int) (p t : Int) : (vSoLeft xs p t).1.length ≤ 1000000 := by
  unfold vSoLeft
  split
  · rename_i h
    have := asB_parts h.1
    simp only []
    rw [soL_length _ _ _ (by rw [marks_length]; omega), marks_length]; omega
  · exact Nat.zero_le _

end Go.Proofs.Ytalikikafcicpaa
namespace Go.Proofs.Ytalikikafcicpaa
open Go.ChangeShapes Go.WideShapes Go.ChangeAt Go.RowKit

/-- the last one of so many people -/
def lastS (xs : List Int) (p : Nat) : Int := (soO xs p).getD (p - 1) 0
/-- what a call returns that makes a song -/
def SongM (W : World) (xs : List Int) (e : Ending) (w' : World) : Prop := ∃ v, e = .returned (.agg #[v]) ∧ Sl w' W.heap.size v xs ∧ Kp Nw W w'
/-- the counts from one on, then those before it -/
def rotS (xs : List Int) (k : Nat) : List Int := xs.drop k ++ xs.take k
theorem rotS_length (xs : List Int) (k : Nat) : (rotS xs k).length = xs.length := by unfold rotS; rw [List.length_append, List.length_drop, List.length_take]; omega
theorem rotS_sgB {xs : List Int} (k : Nat) (h : sgB xs = true) : sgB (rotS xs k) = true := by
  have hp : (rotS xs k).Perm xs := by
    unfold rotS
    exact List.perm_append_comm.trans (by rw [List.take_append_drop])
  unfold sgB at h ⊢
  rw [Bool.and_eq_true] at h ⊢
  refine ⟨by rw [rotS_length]; exact h.1, ?_⟩
  rw [List.all_eq_true] at h ⊢
  intro x hx
  exact h.2 x (hp.mem_iff.1 hx)

set_option maxRecDepth 100000 in
set_option maxHeartbeats 1600000 in
theorem soTurn_any (g n B : Nat) (xs : List Int) (k : Nat) (W : World) (hs : SlAt W B g n n xs) (hk : k ≤ n) (hl : n ≤ 20) :
    Calls Try.prog 34 #[.agg #[.slice (some ⟨g, 0, none⟩) n n], .int .i64 k] W (SongM W (rotS xs k)) := by
  have hn : xs.length = n := hs.1
  have HS := Lib.hid hs
  have HN := Lib.hid hn
  have k0 : (0 : Int) ≤ k := Int.natCast_nonneg _
  have k1 : (k : Int) ≤ n := by omega
  have k2 : ((k : Int)).toNat = k := by omega
  have q6 := cut_to g n n k hk
  obtain ⟨Ad, had, q7⟩ := cut_from g n n k hk (Nat.le_refl _)
  have AD := Lib.hid had
  have HC := Lib.hid (Own1.new W (.slice (some ⟨g, 0, none⟩) n n) 27)
  have hc1 := HC.out.1
  clear hs had hn
  go_enter Try.func34, Try.ntmps34
  go_wp2_with fail
  have HC2 := Lib.hid (HC.out.kp (.al _ (.cells #[.slice none 0 0] 27)) (fun h => h))
  have HR := Lib.hid (Own1.new (W.alloc (.cells #[.slice (some ⟨g, 0, none⟩) n n] 27)) (.slice none 0 0) 27)
  have hcc := HC2.out.1
  go_region_held3 (fun w' => Kp Nw (W.alloc (.cells #[.slice (some ⟨g, 0, none⟩) n n] 27)) w' ∧ w'.cell? ⟨W.heap.size, 0, none⟩ = some (.slice (some ⟨g, 0, none⟩) n n))
      (first
        | exact ⟨(Kp.al _ _).drew, HC2.out.1⟩
        | exact ⟨hkW2.setCell (.inr (by simp)) _, keepo _ _ _ _ _ (keepc hkW2 HC.out.1 (fun h => h)) (by simp)⟩
        | exact ⟨hkW2, keepc hkW2 HC.out.1 (fun h => h)⟩
        | exact ⟨hkW1, keepc hkW1 HC.out.1 (fun h => h)⟩)
      (first
        | (go_at_call 28
           refine (l1Own_any _ (xs.drop k) _ (Rd.nw' (HS.out.drop k (by omega) _ _ AD.out) ((Kp.al W _).nw (‹Kp Nw (W.alloc (.cells #[.slice (some ⟨g, 0, none⟩) n n] 27)) _ ∧ _›.1))) (HS.out.drop_vn _ _ _) (by simp; have := HN.out; omega)).mono ?_
           rintro e w1 ⟨v1, rfl, hs1, hk1⟩
           have hkW1 := (‹Kp Nw (W.alloc (.cells #[.slice (some ⟨g, 0, none⟩) n n] 27)) _ ∧ _›.1).nw hk1)
        | (refine step_app _ (by rfl) (.tmp 9) (.tmp 13) (by rfl) (W.heap.size + 2) v1 _ (xs.drop k) (xs.take k) (by rfl) (by rfl) (hs1.from (by simp)) (Rd.nw' (HS.out.take k (by omega)) ((Kp.al W _).nw hkW1)) (HS.out.take_vn k (by omega) _) (by simp; have := HN.out; omega) (by have := hk1.size; simp at this; omega) ?_
           intro v2 w2 hs2 hk2 _
           obtain ⟨A2, c2, rfl⟩ := hs2.val (n := n) (by rw [List.length_append, List.length_drop, List.length_take]; have := HN.out; omega)
           have hkW2 := hkW1.own (hs1.from (by simp)) hk2
           have hrr := (((HR.out.kp (S := Nw) ((Kp.refl Nw _).drew) (fun h => h)).kp hk1 (fun h => h)).kp hk2 (fun h => by have := (hs1.own_ge _ h).1; simp at this; omega))
           obtain ⟨hr1, hr2⟩ := hrr
           simp only [World.size_alloc] at hr1 hr2))
  have HS2 := Lib.hid hs2
  have HK2 := Lib.hid hkW2
  have z0 := one_set w2 (W.heap.size + 1) (.slice A2 n c2) _ hr1
  clear hs2 hkW2 hkW1 hs1 hk1 hk2 hr1 hr2 hc1 hcc
  go_wp2
  refine bodyPost_ret (v := .agg #[.slice A2 n c2]) (by simp [results, Try.results34, go_sem, z0]) rfl ⟨_, rfl, ?_, ?_⟩
  · have k9 : Kp (fun b => b = W.heap.size + 1) w2 w2 := Kp.refl _ _
    exact (HS2.out.kp (k9.setCell (p := ⟨W.heap.size + 1, 0, none⟩) (.inl rfl) (.slice A2 n c2)) (fun gg a b => by have := (HS2.out.own_ge gg a).1; omega)).from (by omega)
  · exact ((Kp.al W _).nw HK2.out).setCell (.inr (by show W.heap.size ≤ W.heap.size + 1; omega)) _

def vTurnSong (xs : List Int) (k : Int) : List Int × Bool := if sgB xs = true ∧ 0 ≤ k ∧ k ≤ (xs.length : Int) - 1 then (rotS xs k.toNat, true) else ([], false)
theorem vTurnSong_len (xs : List Int) (k : Int) : (vTurnSong xs k).1.length ≤ 1000000 := by
  unfold vTurnSong
  split
  · rename_i h; have := sgB_len h.1; simp only [rotS_length]; omega
  · exact Nat.zero_le _

/-- a song boxed, a song's cell for the result: both are there behind a call -/
theorem song_open (x : Value) (W w1 : World) (hk : Kp Nw ((W.alloc (.cells #[x] 27)).alloc (.cells #[.slice none 0 0] 27)) w1) :
    Kp Nw W w1 ∧ W.heap.size + 2 ≤ w1.heap.size ∧ Own1 w1 W.heap.size x ∧ Own1 w1 (W.heap.size + 1) (.slice none 0 0) := by
  refine ⟨((Kp.al W _).nw (.al _ _)).nw hk, by have := hk.size; simp only [World.size_alloc] at this; exact this, ((Own1.new W x 27).kp (.al _ _) (fun h => h)).kp hk (fun h => h), ?_⟩
  have h := (Own1.new (W.alloc (.cells #[x] 27)) (.slice none 0 0) 27).kp hk (fun h => h)
  simpa only [World.size_alloc] using h
/-- the result stored into its cell -/
theorem song_close {W w1 : World} {v : Value} {xs : List Int} (b : Nat) (hs : Sl w1 (W.heap.size + b + 1) v xs) (hk : Kp Nw W w1) :
    Sl (w1.setCell ⟨W.heap.size + b, 0, none⟩ v) W.heap.size v xs ∧ Kp Nw W (w1.setCell ⟨W.heap.size + b, 0, none⟩ v) := by
  refine ⟨?_, hk.setCell (.inr (by show W.heap.size ≤ W.heap.size + b; omega)) _⟩
  have k9 : Kp (fun g => g = W.heap.size + b) w1 w1 := Kp.refl _ _
  exact (hs.kp (k9.setCell (p := ⟨W.heap.size + b, 0, none⟩) (.inl rfl) v) (fun gg a b => by have := (hs.own_ge gg a).1; omega)).from (by omega)
theorem song_none {W w1 : World} (b : Nat) (hz : W.heap.size + b + 1 ≤ w1.heap.size) (hk : Kp Nw W w1) :
    Sl (w1.setCell ⟨W.heap.size + b, 0, none⟩ (.slice none 0 0)) W.heap.size (.slice none 0 0) [] ∧ Kp Nw W (w1.setCell ⟨W.heap.size + b, 0, none⟩ (.slice none 0 0)) :=
  song_close b ((Sl.nil _ _).from hz) hk

set_option maxHeartbeats 1600000 in
theorem sTurnSong_any (g n B : Nat) (xs : List Int) (k : Int) (W : World) (hs : SlAt W B g n n xs) (hl : n ≤ 1048576) :
    Calls Try.prog 17 #[.agg #[.slice (some ⟨g, 0, none⟩) n n], .int .i64 k] W (SongB W (vTurnSong xs k).1 (vTurnSong xs k).2) := by
  have HS := Lib.hid hs
  have HN : Hid (xs.length = n) := Lib.hid hs.1
  rw [vTurnSong, hs.1]
  clear hs
  cases hb : sgB xs
  · rw [if_neg (by simp)]
    have HB := Lib.hid hb
    clear hb
    go_enter Try.func17, Try.ntmps17
    go_wp2_with (first | (refine (soGood_any _ n n xs _ (HS.out.sl.rd.nw ((Kp.al W _).nw (.al _ _))) HN.out (by omega) _ HB.out.symm).mono ?_; rintro e w1 ⟨rfl, hk1⟩; obtain ⟨kk1, hz1, cc1, rr1⟩ := song_open _ W w1 hk1; have HK1 := Lib.hid kk1; have HC1 := Lib.hid cc1; have HR1 := Lib.hid rr1; have hc1 := cc1.1; have hr1 := rr1.1; have hr2 := rr1.2; clear hk1 kk1 cc1 rr1))
    have z0 := one_set w1 (W.heap.size + 1) (.slice none 0 0) _ HR1.out.1; have HZ := Lib.hid (song_none 1 hz1 HK1.out); refine bodyPost_ret (v := .tuple #[.agg #[.slice none 0 0], .bool false]) (by simp [results, Try.results17, go_sem, z0]) rfl ⟨_, rfl, HZ.out.1, HZ.out.2⟩
  · have HB := Lib.hid hb
    obtain ⟨n1, n2⟩ := sgB_len hb
    rw [HN.out] at n1 n2
    clear hb
    by_cases hk : 0 ≤ k ∧ k ≤ (n : Int) - 1
    · rw [if_pos ⟨rfl, hk⟩]
      obtain ⟨k0, k1⟩ := hk
      obtain ⟨t, ht⟩ : ∃ t, k.toNat = t := ⟨_, rfl⟩
      obtain rfl : k = (t : Int) := by omega
      rw [Int.toNat_natCast]
      clear ht
      go_enter Try.func17, Try.ntmps17
      go_wp2_with (first | (refine (soGood_any _ n n xs _ (HS.out.sl.rd.nw ((Kp.al W _).nw (.al _ _))) HN.out (by omega) _ HB.out.symm).mono ?_; rintro e w1 ⟨rfl, hk1⟩; obtain ⟨kk1, hz1, cc1, rr1⟩ := song_open _ W w1 hk1; have HK1 := Lib.hid kk1; have HC1 := Lib.hid cc1; have HR1 := Lib.hid rr1; have hc1 := cc1.1; have hr1 := rr1.1; have hr2 := rr1.2; clear hk1 kk1 cc1 rr1) | ((with_reducible refine (l1In_yes _ _ _ _ k0 k1).mono ?_); rintro e w' ⟨rfl, rfl⟩))
      refine (soTurn_any g n B xs t _ (HS.out.kq8 HK1.out (fun h => h)) (by omega) n2).mono ?_
      rintro e w2 ⟨v2, rfl, hs2, hk2⟩
      obtain ⟨A2, c2, rfl⟩ := hs2.val (n := n) (by rw [rotS_length]; exact HN.out)
      obtain ⟨r0, r1⟩ := HR1.out.kp hk2 (fun h => h)
      have z0 := one_set w2 (W.heap.size + 1) (.slice A2 n c2) _ r0
      have HZ := Lib.hid (song_close 1 (hs2.from (by omega)) (HK1.out.nw hk2))
      clear hs2 hk2
      go_wp2
      refine bodyPost_ret (v := .tuple #[.agg #[.slice A2 n c2], .bool true]) (by simp [results, Try.results17, go_sem, z0]) rfl ⟨_, rfl, HZ.out.1, HZ.out.2⟩
    · rw [if_neg (fun h => hk h.2)]
      have hk' : k < 0 ∨ (n : Int) - 1 < k := by omega
      clear hk
      go_enter Try.func17, Try.ntmps17
      go_wp2_with (first | (refine (soGood_any _ n n xs _ (HS.out.sl.rd.nw ((Kp.al W _).nw (.al _ _))) HN.out (by omega) _ HB.out.symm).mono ?_; rintro e w1 ⟨rfl, hk1⟩; obtain ⟨kk1, hz1, cc1, rr1⟩ := song_open _ W w1 hk1; have HK1 := Lib.hid kk1; have HC1 := Lib.hid cc1; have HR1 := Lib.hid rr1; have hc1 := cc1.1; have hr1 := rr1.1; have hr2 := rr1.2; clear hk1 kk1 cc1 rr1) | ((with_reducible refine (l1In_no _ _ _ _ hk').mono ?_); rintro e w' ⟨rfl, rfl⟩))
      have z0 := one_set w1 (W.heap.size + 1) (.slice none 0 0) _ HR1.out.1; have HZ := Lib.hid (song_none 1 hz1 HK1.out); refine bodyPost_ret (v := .tuple #[.agg #[.slice none 0 0], .bool false]) (by simp [results, Try.results17, go_sem, z0]) rfl ⟨_, rfl, HZ.out.1, HZ.out.2⟩
end Go.Proofs.Ytalikikafcicpaa
namespace Go.Proofs.Ytalikikafcicpaa
open Go.ChangeShapes Go.WideShapes Go.ChangeAt Go.RowKit

/-- do the first places, moved on by k, read the same? -/
def shB (xs : List Int) (k d : Nat) : Bool := (List.range d).all (fun e => xs.getD (k + e) 0 == xs.getD e 0)
theorem shB_succ (xs : List Int) (k d : Nat) : shB xs k (d + 1) = (shB xs k d && (xs.getD (k + d) 0 == xs.getD d 0)) := by
  unfold shB; rw [List.range_succ, List.all_append]; simp
def perB (xs : List Int) (k d : Nat) : Bool := decide (xs.length % k = 0) && shB xs k d
/-- the least number of counts, from one on -/
def lsN (xs : List Int) (k : Nat) : Nat → Nat
  | 0 => xs.length
  | m + 1 => if perB xs k (xs.length - k) = true then k else lsN xs (k + 1) m
def leastS (xs : List Int) : Nat := lsN xs 1 (xs.length - 1)
theorem lsN_rng (xs : List Int) : ∀ (m k : Nat), 1 ≤ k → k + m = xs.length → 1 ≤ lsN xs k m ∧ lsN xs k m ≤ xs.length
  | 0, k, h1, h2 => by unfold lsN; omega
  | m + 1, k, h1, h2 => by
    unfold lsN
    split
    · omega
    · exact lsN_rng xs m (k + 1) (by omega) (by omega)
theorem leastS_rng {xs : List Int} (h : 1 ≤ xs.length) : 1 ≤ leastS xs ∧ leastS xs ≤ xs.length := lsN_rng xs _ 1 (Nat.le_refl _) (by omega)

set_option maxRecDepth 100000 in
set_option maxHeartbeats 3200000 in
theorem soLeast_any (g n B : Nat) (xs : List Int) (W : World) (hs : SlAt W B g n n xs) (h1 : 1 ≤ n) (hl : n ≤ 20) :
    Calls Try.prog 36 #[.agg #[.slice (some ⟨g, 0, none⟩) n n]] W fun e w' => e = .returned (.int .i64 (leastS xs)) ∧ Kp Nw W w' := by
  have hn : xs.length = n := hs.1
  have HS := Lib.hid hs
  have HN := Lib.hid hn
  have HC := Lib.hid (Own1.new W (.slice (some ⟨g, 0, none⟩) n n) 27).1
  have HCELL : Hid (∀ j, j < n → (W.alloc (.cells #[.slice (some ⟨g, 0, none⟩) n n] 27)).cell? ⟨g, j, none⟩ = some (.int .i64 (xs.getD j 0))) := Lib.hid (fun j hj => keepc (.al W _) (hs.cell j hj) (fun h => h))
  clear hs hn
  go_enter Try.func36, Try.ntmps36
  go_wp2
  go_loopw [4] (fun k9 wr => ∃ k : Nat, 1 ≤ k ∧ k ≤ n ∧ k9 = .int .i64 k ∧ Hid (leastS xs = lsN xs k (n - k)) ∧ Hid (Kp Nw (W.alloc (.cells #[.slice (some ⟨g, 0, none⟩) n n] 27)) wr)) (fun k9 _ => n - (intOf k9).toNat)
  case atStart => exact ⟨1, Nat.le_refl _, h1, rfl, Lib.hid (by rw [leastS, HN.out]), Lib.hid (Kp.refl _ _)⟩
  case round =>
    rename_i wr
    obtain ⟨k, k1, kn, rfl, HV, HK⟩ := hrel
    have hc := keepc HK.out HC.out (fun h => h)
    by_cases hlt : k < n
    · obtain ⟨m, hm⟩ : ∃ m, n - k = m + 1 := ⟨n - k - 1, by omega⟩
      obtain ⟨q, hq⟩ : ∃ q, n % k = q := ⟨_, rfl⟩
      have hqi : (n : Int) % (k : Int) = (q : Int) := by rw [← hq]; exact (Int.natCast_emod n k).symm
      have HQ := Lib.hid hq
      have HM := Lib.hid hm
      have k0 : ¬ (k : Int) = 0 := by omega
      have kz : (0 : Int) ≤ k := by omega
      have nz : (0 : Int) ≤ n := by omega
      have kb : (k : Int) ≤ 20 := by omega
      have nb : (n : Int) ≤ 20 := by omega
      obtain ⟨b0, hb0⟩ : ∃ b, ((q : Int) == 0) = b := ⟨_, rfl⟩
      have HB0 : Hid (b0 = perB xs k 0) := Lib.hid (by rw [← hb0, perB, HN.out, HQ.out, shB, Bool.eq_iff_iff]; simp)
      clear hm hq
      go_wp2
      go_loopw [5, 6] (fun s9 i9 wq => ∃ (d : Nat) (b : Bool), k + d ≤ n ∧ i9 = .int .i64 ((k + d : Nat) : Int) ∧ s9 = .bool b ∧ Hid (b = perB xs k d) ∧ Hid (Kp Nw (W.alloc (.cells #[.slice (some ⟨g, 0, none⟩) n n] 27)) wq)) (fun _ i9 _ => n - (intOf i9).toNat)
      case atStart => exact ⟨0, b0, by omega, by simp, by rw [← hb0], HB0, HK⟩
      case round =>
        rename_i wq
        obtain ⟨d, b, hd, rfl, rfl, HBD, HKQ⟩ := hrel
        have hc2 := keepc HKQ.out HC.out (fun h => h)
        have d0 : (0 : Int) ≤ d := Int.natCast_nonneg _
        by_cases hlt2 : k + d < n
        · obtain ⟨x, hx⟩ : ∃ x, xs.getD (k + d) 0 = x := ⟨_, rfl⟩
          obtain ⟨y, hy⟩ : ∃ y, xs.getD d 0 = y := ⟨_, rfl⟩
          have cx := keepc HKQ.out (HCELL.out (k + d) hlt2) (fun h => h)
          have cy := keepc HKQ.out (HCELL.out d (by omega)) (fun h => h)
          rw [hx] at cx
          rw [hy] at cy
          have HX : Hid (perB xs k (d + 1) = (perB xs k d && (x == y))) := Lib.hid (by rw [perB, shB_succ, hx, hy, perB, Bool.and_assoc])
          have t1 : IntKind.i64.wrap (((k + d : Nat) : Int) - (k : Int)) = (d : Int) := by rw [IntWalk.i64_in _ (by omega)]; omega
          have t2 : (0 : Int) ≤ ((k + d : Nat) : Int) := by omega
          have t3 : ((k + d : Nat) : Int) < n := by omega
          have t4 : (d : Int) < n := by omega
          clear hx hy
          cases b
          all_goals
            go_wp2_with fail
            go_quiet (fail)
            go_wp2
            go_roundw
            case rel => exact ⟨d + 1, _, by omega, by first | go_num | (congr 1; omega), rfl, Lib.hid (by rw [HX.out, ← HBD.out]; simp), Lib.hid (HKQ.out.drewN _)⟩
            case measure => simp [intOf] <;> omega
        · have ed : d = n - k := by omega
          have HE : Hid (b = perB xs k (xs.length - k)) := Lib.hid (by rw [HBD.out, HN.out, ed])
          have e3 : ¬ ((k + d : Nat) : Int) < n := by omega
          cases b
          · have HNX : Hid (leastS xs = lsN xs (k + 1) (n - (k + 1))) := Lib.hid (by rw [HV.out, HM.out, lsN, ← HE.out, if_neg Bool.false_ne_true, show n - (k + 1) = m by have := HM.out; omega])
            go_wp2
            go_roundw
            case rel => exact ⟨k + 1, by omega, by omega, by go_num, HNX, HKQ⟩
            case measure => simp [intOf] <;> omega
          · have HNX : Hid (leastS xs = k) := Lib.hid (by rw [HV.out, HM.out, lsN, ← HE.out, if_pos rfl])
            go_wp2
            go_ret
            exact ⟨by rw [HNX.out]; rfl, (Kp.al W _).nw HKQ.out⟩
    · have e : k = n := by omega
      subst e
      have HNX : Hid (leastS xs = k) := Lib.hid (by rw [HV.out, Nat.sub_self, lsN, HN.out])
      go_wp2
      go_ret
      exact ⟨by rw [HNX.out]; rfl, (Kp.al W _).nw HK.out⟩

def vLeast (xs : List Int) : List Int × Bool := if sgB xs = true then (xs.take (leastS xs), true) else ([], false)
theorem vLeast_len (xs : List Int) : (vLeast xs).1.length ≤ 1000000 := by
  unfold vLeast
  split
  · rename_i h; have := sgB_len h; simp only [List.length_take]; omega
  · exact Nat.zero_le _
def vPeriodS (xs : List Int) : Int × Bool := if sgB xs = true then ((leastS xs : Int), true) else (0, false)

set_option maxHeartbeats 1600000 in
theorem sSongPeriod_any (g n B : Nat) (xs : List Int) (W : World) (hs : SlAt W B g n n xs) (hl : n ≤ 1048576) :
    Calls Try.prog 21 #[.agg #[.slice (some ⟨g, 0, none⟩) n n]] W (IntB W (vPeriodS xs).1 (vPeriodS xs).2) := by
  have HS := Lib.hid hs
  have HN : Hid (xs.length = n) := Lib.hid hs.1
  rw [vPeriodS]
  clear hs
  cases hb : sgB xs
  · rw [if_neg (by simp)]
    have HB := Lib.hid hb
    clear hb
    go_enter Try.func21, Try.ntmps21
    go_wp2_with (first | (refine (soGood_any _ n n xs _ (HS.out.sl.rd.nw (.al W _)) HN.out (by omega) _ HB.out.symm).mono ?_; rintro e w1 ⟨rfl, hk1⟩; have HK1 := Lib.hid ((Kp.al W _).nw hk1); have HC1 := Lib.hid (keepc hk1 (Own1.new W _ 27).1 (fun h => h)); have hc1 := HC1.out; clear hk1))
    go_ret2
    exact ⟨rfl, HK1.out⟩
  · have HB := Lib.hid hb
    obtain ⟨n1, n2⟩ := sgB_len hb
    rw [HN.out] at n1 n2
    rw [if_pos rfl]
    clear hb
    go_enter Try.func21, Try.ntmps21
    go_wp2_with (first | (refine (soGood_any _ n n xs _ (HS.out.sl.rd.nw (.al W _)) HN.out (by omega) _ HB.out.symm).mono ?_; rintro e w1 ⟨rfl, hk1⟩; have HK1 := Lib.hid ((Kp.al W _).nw hk1); have HC1 := Lib.hid (keepc hk1 (Own1.new W _ 27).1 (fun h => h)); have hc1 := HC1.out; clear hk1))
    refine (soLeast_any g n B xs _ (HS.out.kq8 HK1.out (fun h => h)) n1 n2).mono ?_
    rintro e w2 ⟨rfl, hk2⟩
    have HK2 := Lib.hid (HK1.out.nw hk2)
    clear hk2
    go_wp2
    go_ret2
    exact ⟨rfl, HK2.out⟩

set_option maxRecDepth 100000 in
set_option maxHeartbeats 1600000 in
theorem sLeastSong_any (g n B : Nat) (xs : List Int) (W : World) (hs : SlAt W B g n n xs) (hl : n ≤ 1048576) :
    Calls Try.prog 19 #[.agg #[.slice (some ⟨g, 0, none⟩) n n]] W (SongB W (vLeast xs).1 (vLeast xs).2) := by
  have HS := Lib.hid hs
  have HN : Hid (xs.length = n) := Lib.hid hs.1
  rw [vLeast]
  clear hs
  cases hb : sgB xs
  · rw [if_neg (by simp)]
    have HB := Lib.hid hb
    clear hb
    go_enter Try.func19, Try.ntmps19
    go_wp2_with (first | (refine (soGood_any _ n n xs _ (HS.out.sl.rd.nw ((Kp.al W _).nw (.al _ _))) HN.out (by omega) _ HB.out.symm).mono ?_; rintro e w1 ⟨rfl, hk1⟩; obtain ⟨kk1, hz1, cc1, rr1⟩ := song_open _ W w1 hk1; have HK1 := Lib.hid kk1; have HC1 := Lib.hid cc1; have HR1 := Lib.hid rr1; have hc1 := cc1.1; have hr1 := rr1.1; have hr2 := rr1.2; clear hk1 kk1 cc1 rr1))
    have z0 := one_set w1 (W.heap.size + 1) (.slice none 0 0) _ HR1.out.1; have HZ := Lib.hid (song_none 1 hz1 HK1.out); refine bodyPost_ret (v := .tuple #[.agg #[.slice none 0 0], .bool false]) (by simp [results, Try.results19, go_sem, z0]) rfl ⟨_, rfl, HZ.out.1, HZ.out.2⟩
  · have HB := Lib.hid hb
    obtain ⟨n1, n2⟩ := sgB_len hb
    rw [HN.out] at n1 n2
    rw [if_pos rfl]
    obtain ⟨k, hk⟩ : ∃ k, leastS xs = k := ⟨_, rfl⟩
    have hr := leastS_rng (xs := xs) (by rw [HN.out]; exact n1)
    rw [hk, HN.out] at hr
    obtain ⟨r1, r2⟩ := hr
    have HV := Lib.hid hk
    have q6 := cut_to g n n k r2
    have k0 : (0 : Int) ≤ k := Int.natCast_nonneg _
    have k1 : (k : Int) ≤ n := by omega
    have k2 : ((k : Int)).toNat = k := by omega
    rw [hk]
    clear hb hk
    go_enter Try.func19, Try.ntmps19
    go_wp2_with (first | (refine (soGood_any _ n n xs _ (HS.out.sl.rd.nw ((Kp.al W _).nw (.al _ _))) HN.out (by omega) _ HB.out.symm).mono ?_; rintro e w1 ⟨rfl, hk1⟩; obtain ⟨kk1, hz1, cc1, rr1⟩ := song_open _ W w1 hk1; have HK1 := Lib.hid kk1; have HC1 := Lib.hid cc1; have HR1 := Lib.hid rr1; have hc1 := cc1.1; have hr1 := rr1.1; have hr2 := rr1.2; clear hk1 kk1 cc1 rr1))
    go_region_held3 (fun w' => Kp Nw W w' ∧ w'.cell? ⟨W.heap.size, 0, none⟩ = some (.slice (some ⟨g, 0, none⟩) n n))
      (first
        | exact ⟨HK1.out.drew, HC1.out.1⟩
        | exact ⟨hkW3.setCell (.inr (by show W.heap.size ≤ W.heap.size + 1; omega)) _, keepo _ _ _ _ _ hcW3 (by simp)⟩
        | exact ⟨hkW3, hcW3⟩
        | exact ⟨hkW2, hcW2⟩
        | fail)
      (first
        | (go_at_call 36
           refine (soLeast_any g n B xs _ (HS.out.kq8 (‹Kp Nw W _ ∧ _›.1) (fun h => h)) n1 n2).mono ?_
           rintro e w2 ⟨rfl, hk2⟩
           rw [HV.out]
           have hkW2 := (‹Kp Nw W _ ∧ _›.1).nw hk2
           have hcW2 := keepc hk2 (‹Kp Nw W _ ∧ _›.2) (fun h => h)
           have hrW2 := (HR1.out.kp (S := Nw) ((Kp.refl Nw _).drew) (fun h => h)).kp hk2 (fun h => h)
           have hzW2 : W.heap.size + 2 ≤ w2.heap.size := Nat.le_trans hz1 hk2.size)
        | (go_at_call 28
           refine (l1Own_any _ (xs.take k) _ (Rd.nw' (HS.out.take k r2) hkW2) (HS.out.take_vn k r2 _) (by simp; have := HN.out; omega)).mono ?_
           rintro e w3 ⟨v3, rfl, hs3, hk3⟩
           obtain ⟨A3, c3, rfl⟩ := hs3.val (n := k) (by rw [List.length_take]; have := HN.out; omega)
           have hkW3 := hkW2.nw hk3
           have hcW3 := keepc hk3 hcW2 (fun h => h)
           obtain ⟨hq1, hq2⟩ := hrW2.kp hk3 (fun h => h))
        | fail)
    have z0 := one_set w3 (W.heap.size + 1) (.slice A3 k c3) _ hq1
    have HZ := Lib.hid (song_close 1 (hs3.from (by omega)) hkW3)
    clear hs3 hk3 hkW3 hcW3 hkW2 hcW2 hrW2 hk2
    go_wp2
    refine bodyPost_ret (v := .tuple #[.agg #[.slice A3 k c3], .bool true]) (by simp [results, Try.results19, go_sem, z0]) rfl ⟨_, rfl, HZ.out.1, HZ.out.2⟩
end Go.Proofs.Ytalikikafcicpaa
namespace Go.Proofs.Ytalikikafcicpaa
open Go.ChangeShapes Go.WideShapes Go.ChangeAt Go.RowKit

/-- who is left when the one at a place goes -/
def goneAt (l : List Int) (k : Nat) : List Int := l.drop (k + 1) ++ l.take k
theorem goneAt_length {l : List Int} {k : Nat} (h : k < l.length) : (goneAt l k).length = l.length - 1 := by
  unfold goneAt; rw [List.length_append, List.length_drop, List.length_take]; omega
/-- the counts by which those of a list go in an order, and whether there are such -/
def sfO (l : List Int) : List Int → List Int × Bool
  | [] => ([], true)
  | x :: r =>
    if fndD x l 0 < 0 then ([], false)
    else if (sfO (goneAt l (fndD x l 0).toNat) r).2 = true then ((fndD x l 0 + 1) :: (sfO (goneAt l (fndD x l 0).toNat) r).1, true) else ([], false)
theorem sfO_len : ∀ (r l : List Int), (sfO l r).1.length ≤ r.length
  | [], l => by simp [sfO]
  | x :: r, l => by
    unfold sfO
    split
    · simp
    · split
      · have := sfO_len r (goneAt l (fndD x l 0).toNat)
        simp only [List.length_cons]; omega
      · simp
/-- the counts so far, then those of the rest -/
def sfJ (cs : List Int) (R : List Int × Bool) : List Int × Bool := if R.2 = true then (cs ++ R.1, true) else ([], false)
theorem sfJ_nil (R : List Int × Bool) (h : R.2 = false → R.1 = []) : sfJ [] R = R := by
  unfold sfJ
  cases hb : R.2
  · rw [if_neg Bool.false_ne_true]; rw [← h hb, ← hb]
  · rw [if_pos rfl, List.nil_append, ← hb]
theorem sfO_no : ∀ (r l : List Int), (sfO l r).2 = false → (sfO l r).1 = []
  | [], l => by simp [sfO]
  | x :: r, l => by
    unfold sfO
    split
    · simp
    · split <;> simp
theorem fndD_rng (x : Int) : ∀ (l : List Int) (j : Nat), fndD x l j = -1 ∨ ((j : Int) ≤ fndD x l j ∧ fndD x l j < (j : Int) + l.length)
  | [], j => .inl rfl
  | y :: r, j => by
    unfold fndD
    split
    · right; simp only [List.length_cons]; omega
    · rcases fndD_rng x r (j + 1) with h | h
      · exact .inl h
      · right; simp only [List.length_cons]; omega
def vSongFor (xs : List Int) : List Int × Bool := if 1 ≤ xs.length ∧ xs.length ≤ 20 then sfO (marks 0 xs.length) xs else ([], false)
theorem sfJ_step (cs : List Int) (z : Int) (X : List Int × Bool) : sfJ cs (if X.2 = true then ((z + 1) :: X.1, true) else ([], false)) = sfJ (cs ++ [z + 1]) X := by
  unfold sfJ
  cases hb : X.2
  · rw [if_neg Bool.false_ne_true, if_neg Bool.false_ne_true, if_neg Bool.false_ne_true]
  · rw [if_pos rfl, if_pos rfl, if_pos rfl, List.append_assoc]; rfl
theorem Own1.set {w : World} {b : Nat} {x : Value} (h : Own1 w b x) (y : Value) : Own1 (w.setCell ⟨b, 0, none⟩ y) b y := ⟨one_set w b y _ h.1, by rw [World.frozen?_setCell]; exact h.2⟩
theorem vSongFor_len (xs : List Int) : (vSongFor xs).1.length ≤ 1000000 := by
  unfold vSongFor
  split
  · have := sfO_len xs (marks 0 xs.length); omega
  · exact Nat.zero_le _

end Go.Proofs.Ytalikikafcicpaa
namespace Go.Proofs.Ytalikikafcicpaa
open Go.ChangeShapes Go.WideShapes Go.ChangeAt Go.RowKit

/-- two songs boxed -/
theorem songs_open (x y : Value) (W w1 : World) (hk : Kp Nw ((W.alloc (.cells #[x] 27)).alloc (.cells #[y] 27)) w1) :
    Kp Nw W w1 ∧ W.heap.size + 2 ≤ w1.heap.size ∧ w1.cell? ⟨W.heap.size, 0, none⟩ = some x ∧ w1.cell? ⟨W.heap.size + 1, 0, none⟩ = some y := by
  refine ⟨((Kp.al W _).nw (.al _ _)).nw hk, by have := hk.size; simp only [World.size_alloc] at this; exact this, (((Own1.new W x 27).kp (.al _ _) (fun h => h)).kp hk (fun h => h)).1, ?_⟩
  have h := ((Own1.new (W.alloc (.cells #[x] 27)) y 27).kp hk (fun h => h)).1
  simpa only [World.size_alloc] using h
def bySongs (xs : List Int) (p : Nat) : List Int := (List.range p).map (fun i => lastS xs (i + 1))
theorem bySongs_len (xs : List Int) (p : Nat) : (bySongs xs p).length = p := by unfold bySongs; simp
theorem bySongs_succ (xs : List Int) (p : Nat) : bySongs xs (p + 1) = bySongs xs p ++ [lastS xs (p + 1)] := by unfold bySongs; rw [List.range_succ, List.map_append]; rfl
def vBySongs (xs : List Int) (p : Int) : List Int × Bool := if asB xs p = true then (bySongs xs p.toNat, true) else ([], false)
theorem vBySongs_len (xs : List Int) (p : Int) : (vBySongs xs p).1.length ≤ 1000000 := by
  unfold vBySongs
  split
  · rename_i h; have := asB_parts h; simp only [bySongs_len]; omega
  · exact Nat.zero_le _

def vSame (xs ys : List Int) (p : Int) : Bool × Bool := if asB xs p = true ∧ sgB ys = true then (decide (soO xs p.toNat = soO ys p.toNat), true) else (false, false)

end Go.Proofs.Ytalikikafcicpaa
namespace Go.Proofs.Ytalikikafcicpaa
open Go.ChangeShapes Go.WideShapes Go.ChangeAt Go.RowKit

/-- the first count from some on with which the last one is the one asked for -/
def btN (xs : List Int) (p : Nat) (q : Int) (k : Nat) : Nat → Int × Bool
  | 0 => (0, false)
  | m + 1 => if lastS (rotS xs k) p = q then ((k : Int), true) else btN xs p q (k + 1) m
def vBest (xs : List Int) (p q : Int) : Int × Bool := if asB xs p = true ∧ 0 ≤ q ∧ q ≤ p - 1 then btN xs p.toNat q 0 xs.length else (0, false)

end Go.Proofs.Ytalikikafcicpaa
namespace Go.Proofs.Ytalikikafcicpaa
open Go.ChangeShapes Go.WideShapes Go.ChangeAt Go.RowKit

theorem lastS_rng (xs : List Int) (p : Nat) (h : 1 ≤ p) : 0 ≤ lastS xs p ∧ lastS xs p < p := by
  have hl : p - 1 < (soO xs p).length := by rw [soO_length]; omega
  have hm : lastS xs p ∈ soO xs p := by
    have e : lastS xs p = (soO xs p)[p - 1] := by rw [lastS, List.getD_eq_getElem?_getD, List.getElem?_eq_getElem hl]; rfl
    rw [e]; exact List.getElem_mem _
  have hp := soT_perm xs (marks 0 p)
  rw [marks_length] at hp
  exact marks_mem p _ (hp.mem_iff.1 hm)
/-- the first places on which one may stand -/
def safeL (z : Int) (p k : Nat) : List Int := (List.range k).map (fun b : Nat => (z + (b : Int)) % (p : Int))
theorem safeL_len (z : Int) (p k : Nat) : (safeL z p k).length = k := by unfold safeL; simp
theorem safeL_succ (z : Int) (p k : Nat) : safeL z p (k + 1) = safeL z p k ++ [(z + (k : Int)) % (p : Int)] := by unfold safeL; rw [List.range_succ, List.map_append]; rfl
theorem safeL_new (z : Int) (p k : Nat) (z0 : 0 ≤ z) (z1 : z < p) (h : k < p) : ¬ (z + (k : Int)) % (p : Int) ∈ safeL z p k := by
  intro hm
  unfold safeL at hm
  obtain ⟨b, hb, e⟩ := List.mem_map.1 hm
  have hb' := List.mem_range.1 hb
  have h1 : (z + (b : Int)) % (p : Int) = if z + b < p then z + b else z + b - p := by
    split
    · exact Int.emod_eq_of_lt (by omega) (by omega)
    · rw [← Int.sub_emod_right, Int.emod_eq_of_lt (by omega) (by omega)]
  have h2 : (z + (k : Int)) % (p : Int) = if z + k < p then z + k else z + k - p := by
    split
    · exact Int.emod_eq_of_lt (by omega) (by omega)
    · rw [← Int.sub_emod_right, Int.emod_eq_of_lt (by omega) (by omega)]
  rw [h1, h2] at e
  split at e <;> split at e <;> omega
def vSafe (xs : List Int) (p k : Int) : List Int × Bool := if asB xs p = true ∧ 1 ≤ k ∧ k ≤ p then (srt (safeL (lastS xs p.toNat) p.toNat k.toNat), true) else ([], false)
theorem vSafe_len (xs : List Int) (p k : Int) : (vSafe xs p k).1.length ≤ 1000000 := by
  unfold vSafe
  split
  · rename_i h
    have := asB_parts h.1
    simp only [srt, List.length_mergeSort, safeL_len]; omega
  · exact Nat.zero_le _

end Go.Proofs.Ytalikikafcicpaa
