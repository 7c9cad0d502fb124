/- The texts SoT, SoO, SoR, SoP, SoF, SoB, SoQ, SoS, as one. -/
import Derived.Test.YtpajmgonceepoabDoorLwSo
import Derived.Test.YtpajmgonceepoabDoorTurn
import Derived.Test.YtpajmgonceepoabDoorDeck
import Derived.Test.YtpajmgonceepoabDoorLow
import Derived.Test.YtpajmgonceepoabDoorAt
import Derived.Test.YtpajmgonceepoabDoorLwO7
import Derived.Test.YtpajmgonceepoabDoorPut
import Derived.Test.YtpajmgonceepoabDoorGood
import Derived.Test.YtpajmgonceepoabDoorDeckF
namespace Go.Proofs.YtpajmgonceepoabDoor
open Go.ChangeShapes Go.WideShapes Go.ChangeAt Go.RowKit

/-- are these the counts of a song? -/
def sgB (xs : List Int) : Bool := decide (1 ≤ xs.length ∧ xs.length ≤ 20) && xs.all (okR 1 1000000)
theorem sgB_len {xs : List Int} (h : sgB xs = true) : 1 ≤ xs.length ∧ xs.length ≤ 20 := by
  unfold sgB at h; rw [Bool.and_eq_true] at h; exact of_decide_eq_true h.1
theorem sgB_get {xs : List Int} (h : sgB xs = true) (j : Nat) (hj : j < xs.length) : 1 ≤ xs.getD j 0 ∧ xs.getD j 0 ≤ 1000000 := by
  unfold sgB at h; rw [Bool.and_eq_true] at h
  have := List.all_eq_true.1 h.2 (xs[j]) (List.getElem_mem _)
  simp [okR] at this
  simpa [hj] using this
/-- the count of a turn -/
def cnt (xs : List Int) (t : Nat) : Int := xs.getD (t % xs.length) 0
theorem cnt_rng {xs : List Int} (h : sgB xs = true) (t : Nat) : 1 ≤ cnt xs t ∧ cnt xs t ≤ 1000000 := sgB_get h _ (Nat.mod_lt _ (sgB_len h).1)
/-- who is left after some turns of a song, the one from whom the next turn counts first -/
def soL (xs : List Int) (l : List Int) : Nat → List Int
  | 0 => l
  | j + 1 => rest (cnt xs j) (soL xs l j)
/-- who went at the first turns -/
def soT (xs : List Int) (l : List Int) : Nat → List Int
  | 0 => []
  | j + 1 => soT xs l j ++ [who (cnt xs j) (soL xs l j)]
theorem soT_length (xs l : List Int) : ∀ j, (soT xs l j).length = j
  | 0 => rfl
  | j + 1 => by rw [soT, List.length_append, soT_length xs l j]; rfl
theorem soL_length (xs l : List Int) : ∀ j, j ≤ l.length → (soL xs l j).length = l.length - j
  | 0, _ => rfl
  | j + 1, h => by
    have h1 := soL_length xs l j (by omega)
    have := rest_length (cnt xs j) (soL xs l j) (by omega)
    rw [soL]
    omega
theorem who_perm8 (k : Int) (l : List Int) (h : 0 < l.length) : (who k l :: rest k l).Perm l := by
  have hp := place_lt k l.length h
  have e : l = l.take (place k l.length) ++ l[place k l.length] :: l.drop (place k l.length + 1) := by
    rw [← List.drop_eq_getElem_cons hp, List.take_append_drop]
  have ew : who k l = l[place k l.length] := by unfold who; rw [List.getD_eq_getElem?_getD, List.getElem?_eq_getElem hp]; rfl
  have : (who k l :: rest k l).Perm (l.take (place k l.length) ++ l[place k l.length] :: l.drop (place k l.length + 1)) := by
    rw [ew]
    unfold rest
    exact (List.Perm.cons _ List.perm_append_comm).trans List.perm_middle.symm
  exact this.trans (by rw [← e])
/-- those who went and those who are left are all -/
theorem so_perm (xs l : List Int) : ∀ j, j ≤ l.length → (soT xs l j ++ soL xs l j).Perm l
  | 0, _ => List.Perm.refl _
  | j + 1, h => by
    have hl := soL_length xs l j (by omega)
    refine List.Perm.trans ?_ (so_perm xs l j (by omega))
    rw [soT, soL, List.append_assoc]
    exact List.Perm.append_left _ (who_perm8 _ _ (by omega))
theorem soT_perm (xs l : List Int) : (soT xs l l.length).Perm l := by
  have h := so_perm xs l l.length (Nat.le_refl _)
  have h0 : soL xs l l.length = [] := List.eq_nil_of_length_eq_zero (by rw [soL_length xs l _ (Nat.le_refl _)]; omega)
  rw [h0, List.append_nil] at h
  exact h

set_option maxHeartbeats 1600000 in
theorem soGood_any (A : Option Addr) (n c : Nat) (xs : List Int) (W : World) (hu : Rd W (.slice A n c) xs) (hn' : xs.length = n) (hl : n ≤ 2000000) (b : Bool) (hb : b = sgB xs) :
    Calls Tryd.prog 16 #[.agg #[.slice A n c]] W fun e w' => e = .returned (.bool b) ∧ Kp Nw W w' := by
  have HB := Lib.hid hb
  have HR := Lib.hid hu
  have HN := Lib.hid hn'
  have HLE : Hid (xs.length ≤ 2000000) := Lib.hid (by omega)
  clear hu hb hn'
  by_cases hn : (n : Int) < 1 ∨ 20 < (n : Int)
  · have HF : Hid (b = false) := Lib.hid (by rw [HB.out]; unfold sgB; rw [decide_eq_false (by have := HN.out; omega)]; rfl)
    go_enter Tryd.func16, Tryd.ntmps16
    go_wp2_with (first | ((with_reducible refine (l1In_no (n : Int) _ _ _ hn).mono ?_); rintro e w' ⟨rfl, rfl⟩))
    go_ret
    exact ⟨ret_bool HF.out.symm, Kp.al _ _⟩
  · have n1 : 1 ≤ (n : Int) := by omega
    have n2 : (n : Int) ≤ 20 := by omega
    clear hn
    obtain ⟨d, hd⟩ : ∃ d, xs.all (okR 1 1000000) = d := ⟨_, rfl⟩
    have HD := Lib.hid hd
    have HF : Hid (b = d) := Lib.hid (by rw [HB.out]; unfold sgB; rw [decide_eq_true (by have := HN.out; omega), hd]; rfl)
    clear hd
    cases d
    all_goals
      go_enter Tryd.func16, Tryd.ntmps16
      go_wp2_with (first | ((with_reducible refine (l1In_yes (n : Int) _ _ _ n1 n2).mono ?_); rintro e w' ⟨rfl, rfl⟩) | ((with_reducible refine (l1All_rng_as 1 1000000 _ xs _ _ (HR.out.nw (.al _ _)) HLE.out HD.out).mono ?_); rintro e w' ⟨rfl, rfl⟩))
      go_ret
      exact ⟨ret_bool HF.out.symm, Kp.al _ _⟩

/-- what some turns return: who went, who is left -/
def TurnsRes (W : World) (xs l : List Int) (t : Nat) (e : Ending) (w' : World) : Prop := ∃ v v', e = .returned (.tuple #[v, v']) ∧ Sl w' W.heap.size v (soT xs l t) ∧ Sl w' W.heap.size v' (soL xs l t) ∧ Kp Nw W w'

end Go.Proofs.YtpajmgonceepoabDoor
namespace Go.Proofs.YtpajmgonceepoabDoor
open Go.ChangeShapes Go.WideShapes Go.ChangeAt Go.RowKit
/-- are there a song and people? -/
def asB (xs : List Int) (p : Int) : Bool := sgB xs && decide (1 ≤ p ∧ p ≤ 200)
theorem asB_parts {xs : List Int} {p : Int} (h : asB xs p = true) : sgB xs = true ∧ 1 ≤ p ∧ p ≤ 200 := by
  unfold asB at h; rw [Bool.and_eq_true] at h; exact ⟨h.1, of_decide_eq_true h.2⟩
/-- the order out of a song -/
def soO (xs : List Int) (p : Nat) : List Int := soT xs (marks 0 p) p
theorem soO_length (xs : List Int) (p : Nat) : (soO xs p).length = p := soT_length _ _ _
def vSoOrder (xs : List Int) (p : Int) : List Int × Bool := if asB xs p = true then (soO xs p.toNat, true) else ([], false)
def vSoLast (xs : List Int) (p : Int) : Int × Bool := if asB xs p = true then ((soO xs p.toNat).getD (p.toNat - 1) 0, true) else (0, false)
def vSoTurn (xs : List Int) (p q : Int) : Int × Bool := if asB xs p = true ∧ 0 ≤ q ∧ q ≤ p - 1 then (fndD q (soO xs p.toNat) 0, true) else (0, false)
def vSoLeft (xs : List Int) (p t : Int) : List Int × Bool := if asB xs p = true ∧ 0 ≤ t ∧ t ≤ p - 1 then (soL xs (marks 0 p.toNat) t.toNat, true) else ([], false)
theorem vSoOrder_len (xs : List Int) (p : Int) : (vSoOrder xs p).1.length ≤ 1000000 := by
  unfold vSoOrder
  split
  · rename_i h; have := asB_parts h; simp only [soO_length]; omega
  · exact Nat.zero_le _
theorem vSoLeft_len (xs : List Int) (p t : Int) : (vSoLeft xs p t).1.length ≤ 1000000 := by
  unfold vSoLeft
  split
  · rename_i h
    have := asB_parts h.1
    simp only []
    rw [soL_length _ _ _ (by rw [marks_length]; omega), marks_length]; omega
  · exact Nat.zero_le _

end Go.Proofs.YtpajmgonceepoabDoor
namespace Go.Proofs.YtpajmgonceepoabDoor
open Go.ChangeShapes Go.WideShapes Go.ChangeAt Go.RowKit

/-- the last one of so many people -/
def lastS (xs : List Int) (p : Nat) : Int := (soO xs p).getD (p - 1) 0
/-- what a call returns that makes a song -/
def SongM (W : World) (xs : List Int) (e : Ending) (w' : World) : Prop := ∃ v, e = .returned (.agg #[v]) ∧ Sl w' W.heap.size v xs ∧ Kp Nw W w'
/-- the counts from one on, then those before it -/
def rotS (xs : List Int) (k : Nat) : List Int := xs.drop k ++ xs.take k
theorem rotS_length (xs : List Int) (k : Nat) : (rotS xs k).length = xs.length := by unfold rotS; rw [List.length_append, List.length_drop, List.length_take]; omega
theorem rotS_sgB {xs : List Int} (k : Nat) (h : sgB xs = true) : sgB (rotS xs k) = true := by
  have hp : (rotS xs k).Perm xs := by
    unfold rotS
    exact List.perm_append_comm.trans (by rw [List.take_append_drop])
  unfold sgB at h ⊢
  rw [Bool.and_eq_true] at h ⊢
  refine ⟨by rw [rotS_length]; exact h.1, ?_⟩
  rw [List.all_eq_true] at h ⊢
  intro x hx
  exact h.2 x (hp.mem_iff.1 hx)

def vTurnSong (xs : List Int) (k : Int) : List Int × Bool := if sgB xs = true ∧ 0 ≤ k ∧ k ≤ (xs.length : Int) - 1 then (rotS xs k.toNat, true) else ([], false)
theorem vTurnSong_len (xs : List Int) (k : Int) : (vTurnSong xs k).1.length ≤ 1000000 := by
  unfold vTurnSong
  split
  · rename_i h; have := sgB_len h.1; simp only [rotS_length]; omega
  · exact Nat.zero_le _

/-- a song boxed, a song's cell for the result: both are there behind a call -/
theorem song_open (x : Value) (W w1 : World) (hk : Kp Nw ((W.alloc (.cells #[x] 24)).alloc (.cells #[.slice none 0 0] 24)) w1) :
    Kp Nw W w1 ∧ W.heap.size + 2 ≤ w1.heap.size ∧ Own1 w1 W.heap.size x ∧ Own1 w1 (W.heap.size + 1) (.slice none 0 0) := by
  refine ⟨((Kp.al W _).nw (.al _ _)).nw hk, by have := hk.size; simp only [World.size_alloc] at this; exact this, ((Own1.new W x 24).kp (.al _ _) (fun h => h)).kp hk (fun h => h), ?_⟩
  have h := (Own1.new (W.alloc (.cells #[x] 24)) (.slice none 0 0) 24).kp hk (fun h => h)
  simpa only [World.size_alloc] using h
/-- the result stored into its cell -/
theorem song_close {W w1 : World} {v : Value} {xs : List Int} (b : Nat) (hs : Sl w1 (W.heap.size + b + 1) v xs) (hk : Kp Nw W w1) :
    Sl (w1.setCell ⟨W.heap.size + b, 0, none⟩ v) W.heap.size v xs ∧ Kp Nw W (w1.setCell ⟨W.heap.size + b, 0, none⟩ v) := by
  refine ⟨?_, hk.setCell (.inr (by show W.heap.size ≤ W.heap.size + b; omega)) _⟩
  have k9 : Kp (fun g => g = W.heap.size + b) w1 w1 := Kp.refl _ _
  exact (hs.kp (k9.setCell (p := ⟨W.heap.size + b, 0, none⟩) (.inl rfl) v) (fun gg a b => by have := (hs.own_ge gg a).1; omega)).from (by omega)
theorem song_none {W w1 : World} (b : Nat) (hz : W.heap.size + b + 1 ≤ w1.heap.size) (hk : Kp Nw W w1) :
    Sl (w1.setCell ⟨W.heap.size + b, 0, none⟩ (.slice none 0 0)) W.heap.size (.slice none 0 0) [] ∧ Kp Nw W (w1.setCell ⟨W.heap.size + b, 0, none⟩ (.slice none 0 0)) :=
  song_close b ((Sl.nil _ _).from hz) hk

end Go.Proofs.YtpajmgonceepoabDoor
namespace Go.Proofs.YtpajmgonceepoabDoor
open Go.ChangeShapes Go.WideShapes Go.ChangeAt Go.RowKit

/-- do the first places, moved on by k, read the same? -/
def shB (xs : List Int) (k d : Nat) : Bool := (List.range d).all (fun e => xs.getD (k + e) 0 == xs.getD e 0)
theorem shB_succ (xs : List Int) (k d : Nat) : shB xs k (d + 1) = (shB xs k d && (xs.getD (k + d) 0 == xs.getD d 0)) := by
  unfold shB; rw [List.range_succ, List.all_append]; simp
def perB (xs : List Int) (k d : Nat) : Bool := decide (xs.length % k = 0) && shB xs k d
/-- the least number of counts, from one on -/
def lsN (xs : List Int) (k : Nat) : Nat → Nat
  | 0 => xs.length
  | m + 1 => if perB xs k (xs.length - k) = true then k else lsN xs (k + 1) m
def leastS (xs : List Int) : Nat := lsN xs 1 (xs.length - 1)
theorem lsN_rng (xs : List Int) : ∀ (m k : Nat), 1 ≤ k → k + m = xs.length → 1 ≤ lsN xs k m ∧ lsN xs k m ≤ xs.length
  | 0, k, h1, h2 => by unfold lsN; omega
  | m + 1, k, h1, h2 => by
    unfold lsN
    split
    · omega
    · exact lsN_rng xs m (k + 1) (by omega) (by omega)
theorem leastS_rng {xs : List Int} (h : 1 ≤ xs.length) : 1 ≤ leastS xs ∧ leastS xs ≤ xs.length := lsN_rng xs _ 1 (Nat.le_refl _) (by omega)

def vLeast (xs : List Int) : List Int × Bool := if sgB xs = true then (xs.take (leastS xs), true) else ([], false)
theorem vLeast_len (xs : List Int) : (vLeast xs).1.length ≤ 1000000 := by
  unfold vLeast
  split
  · rename_i h; have := sgB_len h; simp only [List.length_take]; omega
  · exact Nat.zero_le _
def vPeriodS (xs : List Int) : Int × Bool := if sgB xs = true then ((leastS xs : Int), true) else (0, false)

end Go.Proofs.YtpajmgonceepoabDoor
namespace Go.Proofs.YtpajmgonceepoabDoor
open Go.ChangeShapes Go.WideShapes Go.ChangeAt Go.RowKit

/-- who is left when the one at a place goes -/
def goneAt (l : List Int) (k : Nat) : List Int := l.drop (k + 1) ++ l.take k
theorem goneAt_length {l : List Int} {k : Nat} (h : k < l.length) : (goneAt l k).length = l.length - 1 := by
  unfold goneAt; rw [List.length_append, List.length_drop, List.length_take]; omega
/-- the counts by which those of a list go in an order, and whether there are such -/
def sfO (l : List Int) : List Int → List Int × Bool
  | [] => ([], true)
  | x :: r =>
    if fndD x l 0 < 0 then ([], false)
    else if (sfO (goneAt l (fndD x l 0).toNat) r).2 = true then ((fndD x l 0 + 1) :: (sfO (goneAt l (fndD x l 0).toNat) r).1, true) else ([], false)
theorem sfO_len : ∀ (r l : List Int), (sfO l r).1.length ≤ r.length
  | [], l => by simp [sfO]
  | x :: r, l => by
    unfold sfO
    split
    · simp
    · split
      · have := sfO_len r (goneAt l (fndD x l 0).toNat)
        simp only [List.length_cons]; omega
      · simp
/-- the counts so far, then those of the rest -/
def sfJ (cs : List Int) (R : List Int × Bool) : List Int × Bool := if R.2 = true then (cs ++ R.1, true) else ([], false)
theorem sfJ_nil (R : List Int × Bool) (h : R.2 = false → R.1 = []) : sfJ [] R = R := by
  unfold sfJ
  cases hb : R.2
  · rw [if_neg Bool.false_ne_true]; rw [← h hb, ← hb]
  · rw [if_pos rfl, List.nil_append, ← hb]
theorem sfO_no : ∀ (r l : List Int), (sfO l r).2 = false → (sfO l r).1 = []
  | [], l => by simp [sfO]
  | x :: r, l => by
    unfold sfO
    split
    · simp
    · split <;> simp
theorem fndD_rng (x : Int) : ∀ (l : List Int) (j : Nat), fndD x l j = -1 ∨ ((j : Int) ≤ fndD x l j ∧ fndD x l j < (j : Int) + l.length)
  | [], j => .inl rfl
  | y :: r, j => by
    unfold fndD
    split
    · right; simp only [List.length_cons]; omega
    · rcases fndD_rng x r (j + 1) with h | h
      · exact .inl h
      · right; simp only [List.length_cons]; omega
def vSongFor (xs : List Int) : List Int × Bool := if 1 ≤ xs.length ∧ xs.length ≤ 20 then sfO (marks 0 xs.length) xs else ([], false)
theorem sfJ_step (cs : List Int) (z : Int) (X : List Int × Bool) : sfJ cs (if X.2 = true then ((z + 1) :: X.1, true) else ([], false)) = sfJ (cs ++ [z + 1]) X := by
  unfold sfJ
  cases hb : X.2
  · rw [if_neg Bool.false_ne_true, if_neg Bool.false_ne_true, if_neg Bool.false_ne_true]
  · rw [if_pos rfl, if_pos rfl, if_pos rfl, List.append_assoc]; rfl
theorem Own1.set {w : World} {b : Nat} {x : Value} (h : Own1 w b x) (y : Value) : Own1 (w.setCell ⟨b, 0, none⟩ y) b y := ⟨one_set w b y _ h.1, by rw [World.frozen?_setCell]; exact h.2⟩
theorem vSongFor_len (xs : List Int) : (vSongFor xs).1.length ≤ 1000000 := by
  unfold vSongFor
  split
  · have := sfO_len xs (marks 0 xs.length); omega
  · exact Nat.zero_le _

end Go.Proofs.YtpajmgonceepoabDoor
namespace Go.Proofs.YtpajmgonceepoabDoor
open Go.ChangeShapes Go.WideShapes Go.ChangeAt Go.RowKit

/-- two songs boxed -/
theorem songs_open (x y : Value) (W w1 : World) (hk : Kp Nw ((W.alloc (.cells #[x] 24)).alloc (.cells #[y] 24)) w1) :
    Kp Nw W w1 ∧ W.heap.size + 2 ≤ w1.heap.size ∧ w1.cell? ⟨W.heap.size, 0, none⟩ = some x ∧ w1.cell? ⟨W.heap.size + 1, 0, none⟩ = some y := by
  refine ⟨((Kp.al W _).nw (.al _ _)).nw hk, by have := hk.size; simp only [World.size_alloc] at this; exact this, (((Own1.new W x 24).kp (.al _ _) (fun h => h)).kp hk (fun h => h)).1, ?_⟩
  have h := ((Own1.new (W.alloc (.cells #[x] 24)) y 24).kp hk (fun h => h)).1
  simpa only [World.size_alloc] using h
def bySongs (xs : List Int) (p : Nat) : List Int := (List.range p).map (fun i => lastS xs (i + 1))
theorem bySongs_len (xs : List Int) (p : Nat) : (bySongs xs p).length = p := by unfold bySongs; simp
theorem bySongs_succ (xs : List Int) (p : Nat) : bySongs xs (p + 1) = bySongs xs p ++ [lastS xs (p + 1)] := by unfold bySongs; rw [List.range_succ, List.map_append]; rfl
def vBySongs (xs : List Int) (p : Int) : List Int × Bool := if asB xs p = true then (bySongs xs p.toNat, true) else ([], false)
theorem vBySongs_len (xs : List Int) (p : Int) : (vBySongs xs p).1.length ≤ 1000000 := by
  unfold vBySongs
  split
  · rename_i h; have := asB_parts h; simp only [bySongs_len]; omega
  · exact Nat.zero_le _

def vSame (xs ys : List Int) (p : Int) : Bool × Bool := if asB xs p = true ∧ sgB ys = true then (decide (soO xs p.toNat = soO ys p.toNat), true) else (false, false)

end Go.Proofs.YtpajmgonceepoabDoor
namespace Go.Proofs.YtpajmgonceepoabDoor
open Go.ChangeShapes Go.WideShapes Go.ChangeAt Go.RowKit

/-- the first count from some on with which the last one is the one asked for -/
def btN (xs : List Int) (p : Nat) (q : Int) (k : Nat) : Nat → Int × Bool
  | 0 => (0, false)
  | m + 1 => if lastS (rotS xs k) p = q then ((k : Int), true) else btN xs p q (k + 1) m
def vBest (xs : List Int) (p q : Int) : Int × Bool := if asB xs p = true ∧ 0 ≤ q ∧ q ≤ p - 1 then btN xs p.toNat q 0 xs.length else (0, false)

end Go.Proofs.YtpajmgonceepoabDoor
namespace Go.Proofs.YtpajmgonceepoabDoor
open Go.ChangeShapes Go.WideShapes Go.ChangeAt Go.RowKit

theorem lastS_rng (xs : List Int) (p : Nat) (h : 1 ≤ p) : 0 ≤ lastS xs p ∧ lastS xs p < p := by
  have hl : p - 1 < (soO xs p).length := by rw [soO_length]; omega
  have hm : lastS xs p ∈ soO xs p := by
    have e : lastS xs p = (soO xs p)[p - 1] := by rw [lastS, List.getD_eq_getElem?_getD, List.getElem?_eq_getElem hl]; rfl
    rw [e]; exact List.getElem_mem _
  have hp := soT_perm xs (marks 0 p)
  rw [marks_length] at hp
  exact marks_mem p _ (hp.mem_iff.1 hm)
/-- the first places on which one may stand -/
def safeL (z : Int) (p k : Nat) : List Int := (List.range k).map (fun b : Nat => (z + (b : Int)) % (p : Int))
theorem safeL_len (z : Int) (p k : Nat) : (safeL z p k).length = k := by unfold safeL; simp
theorem safeL_succ (z : Int) (p k : Nat) : safeL z p (k + 1) = safeL z p k ++ [(z + (k : Int)) % (p : Int)] := by unfold safeL; rw [List.range_succ, List.map_append]; rfl
theorem safeL_new (z : Int) (p k : Nat) (z0 : 0 ≤ z) (z1 : z < p) (h : k < p) : ¬ (z + (k : Int)) % (p : Int) ∈ safeL z p k := by
  intro hm
  unfold safeL at hm
  obtain ⟨b, hb, e⟩ := List.mem_map.1 hm
  have hb' := List.mem_range.1 hb
  have h1 : (z + (b : Int)) % (p : Int) = if z + b < p then z + b else z + b - p := by
    split
    · exact Int.emod_eq_of_lt (by omega) (by omega)
    · rw [← Int.sub_emod_right, Int.emod_eq_of_lt (by omega) (by omega)]
  have h2 : (z + (k : Int)) % (p : Int) = if z + k < p then z + k else z + k - p := by
    split
    · exact Int.emod_eq_of_lt (by omega) (by omega)
    · rw [← Int.sub_emod_right, Int.emod_eq_of_lt (by omega) (by omega)]
  rw [h1, h2] at e
  split at e <;> split at e <;> omega
def vSafe (xs : List Int) (p k : Int) : List Int × Bool := if asB xs p = true ∧ 1 ≤ k ∧ k ≤ p then (srt (safeL (lastS xs p.toNat) p.toNat k.toNat), true) else ([], false)
theorem vSafe_len (xs : List Int) (p k : Int) : (vSafe xs p k).1.length ≤ 1000000 := by
  unfold vSafe
  split
  · rename_i h
    have := asB_parts h.1
    simp only [srt, List.length_mergeSort, safeL_len]; omega
  · exact Nat.zero_le _

end Go.Proofs.YtpajmgonceepoabDoor
