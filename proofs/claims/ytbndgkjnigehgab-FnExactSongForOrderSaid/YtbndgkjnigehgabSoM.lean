/- The texts SoT, SoO, SoR, SoP, SoF, SoB, SoQ, SoS, as one. -/
import Derived.Test.YtbndgkjnigehgabLwSo
import Derived.Test.YtbndgkjnigehgabTurn
import Derived.Test.YtbndgkjnigehgabDeck
import Derived.Test.YtbndgkjnigehgabLow
import Derived.Test.YtbndgkjnigehgabAt
import Derived.Test.YtbndgkjnigehgabLwO7
import Derived.Test.YtbndgkjnigehgabPut
import Derived.Test.YtbndgkjnigehgabGood
import Derived.Test.YtbndgkjnigehgabDeckF
namespace Go.Proofs.Ytbndgkjnigehgab
open Go.ChangeShapes Go.WideShapes Go.ChangeAt Go.RowKit

/-- are these the counts of a song? -/
def sgB (xs : List Int) : Bool := decide (1 ≤ xs.length ∧ xs.length ≤ 20) && xs.all (okR 1 1000000)
theorem sgB_len {xs : List Int} (h : sgB xs = true) : 1 ≤ xs.length ∧ xs.length ≤ 20 := by
  unfold sgB at h; rw [Bool.and_eq_true] at h; exact of_decide_eq_true h.1
theorem sgB_get {xs : List Int} (h : sgB xs = true) (j : Nat) (hj : j < xs.length) : 1 ≤ xs.getD j 0 ∧ xs.getD j 0 ≤ 1000000 := by
  unfold sgB at h; rw [Bool.and_eq_true] at h
  have := List.all_eq_true.1 h.2 (xs[j]) (List.getElem_mem _)
  simp [okR] at this
  simpa [hj] using this
/-- the count of a turn -/
def cnt (xs : List Int) (t : Nat) : Int := xs.getD (t % xs.length) 0
theorem cnt_rng {xs : List Int} (h : sgB xs = true) (t : Nat) : 1 ≤ cnt xs t ∧ cnt xs t ≤ 1000000 := sgB_get h _ (Nat.mod_lt _ (sgB_len h).1)
/-- who is left after some turns of a song, the one from whom the next turn counts first -/
def soL (xs : List Int) (l : List Int) : Nat → List Int
  | 0 => l
  | j + 1 => rest (cnt xs j) (soL xs l j)
/-- who went at the first turns -/
def soT (xs : List Int) (l : List Int) : Nat → List Int
  | 0 => []
  | j + 1 => soT xs l j ++ [who (cnt xs j) (soL xs l j)]
theorem soT_length (xs l : List Int) : ∀ j, (soT xs l j).length = j
  | 0 => rfl
  | j + 1 => by rw [soT, List.length_append, soT_length xs l j]; rfl
theorem soL_length (xs l : List Int) : ∀ j, j ≤ l.length → (soL xs l j).length = l.length - j
  | 0, _ => rfl
  | j + 1, h => by
    have h1 := soL_length xs l j (by omega)
    have := rest_length (cnt xs j) (soL xs l j) (by omega)
    rw [soL]
    omega
theorem who_perm8 (k : Int) (l : List Int) (h : 0 < l.length) : (who k l :: rest k l).Perm l := by
  have hp := place_lt k l.length h
  have e : l = l.take (place k l.length) ++ l[place k l.length] :: l.drop (place k l.length + 1) := by
    rw [← List.drop_eq_getElem_cons hp, List.take_append_drop]
  have ew : who k l = l[place k l.length] := by unfold who; rw [List.getD_eq_getElem?_getD, List.getElem?_eq_getElem hp]; rfl
  have : (who k l :: rest k l).Perm (l.take (place k l.length) ++ l[place k l.length] :: l.drop (place k l.length + 1)) := by
    rw [ew]
    unfold rest
    exact (List.Perm.cons _ List.perm_append_comm).trans List.perm_middle.symm
  exact this.trans (by rw [← e])
/-- those who went and those who are left are all -/
theorem so_perm (xs l : List Int) : ∀ j, j ≤ l.length → (soT xs l j ++ soL xs l j).Perm l
  | 0, _ => List.Perm.refl _
  | j + 1, h => by
    have hl := soL_length xs l j (by omega)
    refine List.Perm.trans ?_ (so_perm xs l j (by omega))
    rw [soT, soL, List.append_assoc]
    exact List.Perm.append_left _ (who_perm8 _ _ (by omega))
theorem soT_perm (xs l : List Int) : (soT xs l l.length).Perm l := by
  have h := so_perm xs l l.length (Nat.le_refl _)
  have h0 : soL xs l l.length = [] := List.eq_nil_of_length_eq_zero (by rw [soL_length xs l _ (Nat.le_refl _)]; omega)
  rw [h0, List.append_nil] at h
  exact h

/-- what some turns return: who went, who is left -/
def TurnsRes (W : World) (xs l : List Int) (t : Nat) (e : Ending) (w' : World) : Prop := ∃ v v', e = .returned (.tuple #[v, v']) ∧ Sl w' W.heap.size v (soT xs l t) ∧ Sl w' W.heap.size v' (soL xs l t) ∧ Kp Nw W w'

end Go.Proofs.Ytbndgkjnigehgab
namespace Go.Proofs.Ytbndgkjnigehgab
open Go.ChangeShapes Go.WideShapes Go.ChangeAt Go.RowKit
/-- are there a song and people? -/
def asB (xs : List Int) (p : Int) : Bool := sgB xs && decide (1 ≤ p ∧ p ≤ 200)
theorem asB_parts {xs : List Int} {p : Int} (h : asB xs p = true) : sgB xs = true ∧ 1 ≤ p ∧ p ≤ 200 := by
  unfold asB at h; rw [Bool.and_eq_true] at h; exact ⟨h.1, of_decide_eq_true h.2⟩
/-- the order out of a song -/
def soO (xs : List Int) (p : Nat) : List Int := soT xs (marks 0 p) p
theorem soO_length (xs : List Int) (p : Nat) : (soO xs p).length = p := soT_length _ _ _
def vSoOrder (xs : List Int) (p : Int) : List Int × Bool := if asB xs p = true then (soO xs p.toNat, true) else ([], false)
def vSoLast (xs : List Int) (p : Int) : Int × Bool := if asB xs p = true then ((soO xs p.toNat).getD (p.toNat - 1) 0, true) else (0, false)
def vSoTurn (xs : List Int) (p q : Int) : Int × Bool := if asB xs p = true ∧ 0 ≤ q ∧ q ≤ p - 1 then (fndD q (soO xs p.toNat) 0, true) else (0, false)
def vSoLeft (xs : List Int) (p t : Int) : List Int × Bool := if asB xs p = true ∧ 0 ≤ t ∧ t ≤ p - 1 then (soL xs (marks 0 p.toNat) t.toNat, true) else ([], false)
theorem vSoOrder_len (xs : List Int) (p : Int) : (vSoOrder xs p).1.length ≤ 1000000 := by
  unfold vSoOrder
  split
  · rename_i h; have := asB_parts h; simp only [soO_length]; omega
  · exact Nat.zero_le _
theorem vSoLeft_len (xs : List Int) (p t : Int) : (vSoLeft xs p t).1.length ≤ 1000000 := by
  unfold vSoLeft
  split
  · rename_i h
    have := asB_parts h.1
    simp only []
    rw [soL_length _ _ _ (by rw [marks_length]; omega), marks_length]; omega
  · exact Nat.zero_le _

end Go.Proofs.Ytbndgkjnigehgab
namespace Go.Proofs.Ytbndgkjnigehgab
open Go.ChangeShapes Go.WideShapes Go.ChangeAt Go.RowKit

/-- the last one of so many people -/
def lastS (xs : List Int) (p : Nat) : Int := (soO xs p).getD (p - 1) 0
/-- what a call returns that makes a song -/
def SongM (W : World) (xs : List Int) (e : Ending) (w' : World) : Prop := ∃ v, e = .returned (.agg #[v]) ∧ Sl w' W.heap.size v xs ∧ Kp Nw W w'
/-- the counts from one on, then those before it -/
def rotS (xs : List Int) (k : Nat) : List Int := xs.drop k ++ xs.take k
theorem rotS_length (xs : List Int) (k : Nat) : (rotS xs k).length = xs.length := by unfold rotS; rw [List.length_append, List.length_drop, List.length_take]; omega
theorem rotS_sgB {xs : List Int} (k : Nat) (h : sgB xs = true) : sgB (rotS xs k) = true := by
  have hp : (rotS xs k).Perm xs := by
    unfold rotS
    exact List.perm_append_comm.trans (by rw [List.take_append_drop])
  unfold sgB at h ⊢
  rw [Bool.and_eq_true] at h ⊢
  refine ⟨by rw [rotS_length]; exact h.1, ?_⟩
  rw [List.all_eq_true] at h ⊢
  intro x hx
  exact h.2 x (hp.mem_iff.1 hx)

def vTurnSong (xs : List Int) (k : Int) : List Int × Bool := if sgB xs = true ∧ 0 ≤ k ∧ k ≤ (xs.length : Int) - 1 then (rotS xs k.toNat, true) else ([], false)
theorem vTurnSong_len (xs : List Int) (k : Int) : (vTurnSong xs k).1.length ≤ 1000000 := by
  unfold vTurnSong
  split
  · rename_i h; have := sgB_len h.1; simp only [rotS_length]; omega
  · exact Nat.zero_le _

/-- a song boxed, a song's cell for the result: both are there behind a call -/
theorem song_open (x : Value) (W w1 : World) (hk : Kp Nw ((W.alloc (.cells #[x] 24)).alloc (.cells #[.slice none 0 0] 24)) w1) :
    Kp Nw W w1 ∧ W.heap.size + 2 ≤ w1.heap.size ∧ Own1 w1 W.heap.size x ∧ Own1 w1 (W.heap.size + 1) (.slice none 0 0) := by
  refine ⟨((Kp.al W _).nw (.al _ _)).nw hk, by have := hk.size; simp only [World.size_alloc] at this; exact this, ((Own1.new W x 24).kp (.al _ _) (fun h => h)).kp hk (fun h => h), ?_⟩
  have h := (Own1.new (W.alloc (.cells #[x] 24)) (.slice none 0 0) 24).kp hk (fun h => h)
  simpa only [World.size_alloc] using h
/-- the result stored into its cell -/
theorem song_close {W w1 : World} {v : Value} {xs : List Int} (b : Nat) (hs : Sl w1 (W.heap.size + b + 1) v xs) (hk : Kp Nw W w1) :
    Sl (w1.setCell ⟨W.heap.size + b, 0, none⟩ v) W.heap.size v xs ∧ Kp Nw W (w1.setCell ⟨W.heap.size + b, 0, none⟩ v) := by
  refine ⟨?_, hk.setCell (.inr (by show W.heap.size ≤ W.heap.size + b; omega)) _⟩
  have k9 : Kp (fun g => g = W.heap.size + b) w1 w1 := Kp.refl _ _
  exact (hs.kp (k9.setCell (p := ⟨W.heap.size + b, 0, none⟩) (.inl rfl) v) (fun gg a b => by have := (hs.own_ge gg a).1; omega)).from (by omega)
theorem song_none {W w1 : World} (b : Nat) (hz : W.heap.size + b + 1 ≤ w1.heap.size) (hk : Kp Nw W w1) :
    Sl (w1.setCell ⟨W.heap.size + b, 0, none⟩ (.slice none 0 0)) W.heap.size (.slice none 0 0) [] ∧ Kp Nw W (w1.setCell ⟨W.heap.size + b, 0, none⟩ (.slice none 0 0)) :=
  song_close b ((Sl.nil _ _).from hz) hk

end Go.Proofs.Ytbndgkjnigehgab
namespace Go.Proofs.Ytbndgkjnigehgab
open Go.ChangeShapes Go.WideShapes Go.ChangeAt Go.RowKit

/-- do the first places, moved on by k, read the same? -/
def shB (xs : List Int) (k d : Nat) : Bool := (List.range d).all (fun e => xs.getD (k + e) 0 == xs.getD e 0)
theorem shB_succ (xs : List Int) (k d : Nat) : shB xs k (d + 1) = (shB xs k d && (xs.getD (k + d) 0 == xs.getD d 0)) := by
  unfold shB; rw [List.range_succ, List.all_append]; simp
def perB (xs : List Int) (k d : Nat) : Bool := decide (xs.length % k = 0) && shB xs k d
/-- the least number of counts, from one on -/
def lsN (xs : List Int) (k : Nat) : Nat → Nat
  | 0 => xs.length
  | m + 1 => if perB xs k (xs.length - k) = true then k else lsN xs (k + 1) m
def leastS (xs : List Int) : Nat := lsN xs 1 (xs.length - 1)
theorem lsN_rng (xs : List Int) : ∀ (m k : Nat), 1 ≤ k → k + m = xs.length → 1 ≤ lsN xs k m ∧ lsN xs k m ≤ xs.length
  | 0, k, h1, h2 => by unfold lsN; omega
  | m + 1, k, h1, h2 => by
    unfold lsN
    split
    · omega
    · exact lsN_rng xs m (k + 1) (by omega) (by omega)
theorem leastS_rng {xs : List Int} (h : 1 ≤ xs.length) : 1 ≤ leastS xs ∧ leastS xs ≤ xs.length := lsN_rng xs _ 1 (Nat.le_refl _) (by omega)

def vLeast (xs : List Int) : List Int × Bool := if sgB xs = true then (xs.take (leastS xs), true) else ([], false)
theorem vLeast_len (xs : List Int) : (vLeast xs).1.length ≤ 1000000 := by
  unfold vLeast
  split
  · rename_i h; have := sgB_len h; simp only [List.length_take]; omega
  · exact Nat.zero_le _
def vPeriodS (xs : List Int) : Int × Bool := if sgB xs = true then ((leastS xs : Int), true) else (0, false)

end Go.Proofs.Ytbndgkjnigehgab
namespace Go.Proofs.Ytbndgkjnigehgab
open Go.ChangeShapes Go.WideShapes Go.ChangeAt Go.RowKit

/-- who is left when the one at a place goes -/
def goneAt (l : List Int) (k : Nat) : List Int := l.drop (k + 1) ++ l.take k
theorem goneAt_length {l : List Int} {k : Nat} (h : k < l.length) : (goneAt l k).length = l.length - 1 := by
  unfold goneAt; rw [List.length_append, List.length_drop, List.length_take]; omega
/-- the counts by which those of a list go in an order, and whether there are such -/
def sfO (l : List Int) : List Int → List Int × Bool
  | [] => ([], true)
  | x :: r =>
    if fndD x l 0 < 0 then ([], false)
    else if (sfO (goneAt l (fndD x l 0).toNat) r).2 = true then ((fndD x l 0 + 1) :: (sfO (goneAt l (fndD x l 0).toNat) r).1, true) else ([], false)
theorem sfO_len : ∀ (r l : List Int), (sfO l r).1.length ≤ r.length
  | [], l => by simp [sfO]
  | x :: r, l => by
    unfold sfO
    split
    · simp
    · split
      · have := sfO_len r (goneAt l (fndD x l 0).toNat)
        simp only [List.length_cons]; omega
      · simp
/-- the counts so far, then those of the rest -/
def sfJ (cs : List Int) (R : List Int × Bool) : List Int × Bool := if R.2 = true then (cs ++ R.1, true) else ([], false)
theorem sfJ_nil (R : List Int × Bool) (h : R.2 = false → R.1 = []) : sfJ [] R = R := by
  unfold sfJ
  cases hb : R.2
  · rw [if_neg Bool.false_ne_true]; rw [← h hb, ← hb]
  · rw [if_pos rfl, List.nil_append, ← hb]
theorem sfO_no : ∀ (r l : List Int), (sfO l r).2 = false → (sfO l r).1 = []
  | [], l => by simp [sfO]
  | x :: r, l => by
    unfold sfO
    split
    · simp
    · split <;> simp
theorem fndD_rng (x : Int) : ∀ (l : List Int) (j : Nat), fndD x l j = -1 ∨ ((j : Int) ≤ fndD x l j ∧ fndD x l j < (j : Int) + l.length)
  | [], j => .inl rfl
  | y :: r, j => by
    unfold fndD
    split
    · right; simp only [List.length_cons]; omega
    · rcases fndD_rng x r (j + 1) with h | h
      · exact .inl h
      · right; simp only [List.length_cons]; omega
def vSongFor (xs : List Int) : List Int × Bool := if 1 ≤ xs.length ∧ xs.length ≤ 20 then sfO (marks 0 xs.length) xs else ([], false)
theorem sfJ_step (cs : List Int) (z : Int) (X : List Int × Bool) : sfJ cs (if X.2 = true then ((z + 1) :: X.1, true) else ([], false)) = sfJ (cs ++ [z + 1]) X := by
  unfold sfJ
  cases hb : X.2
  · rw [if_neg Bool.false_ne_true, if_neg Bool.false_ne_true, if_neg Bool.false_ne_true]
  · rw [if_pos rfl, if_pos rfl, if_pos rfl, List.append_assoc]; rfl
theorem Own1.set {w : World} {b : Nat} {x : Value} (h : Own1 w b x) (y : Value) : Own1 (w.setCell ⟨b, 0, none⟩ y) b y := ⟨one_set w b y _ h.1, by rw [World.frozen?_setCell]; exact h.2⟩
theorem vSongFor_len (xs : List Int) : (vSongFor xs).1.length ≤ 1000000 := by
  unfold vSongFor
  split
  · have := sfO_len xs (marks 0 xs.length); omega
  · exact Nat.zero_le _

set_option maxRecDepth 100000 in
set_option maxHeartbeats 3200000 in
theorem sSongForOrder_any (g n B : Nat) (xs : List Int) (W : World) (hs : SlAt W B g n n xs) (hl : n ≤ 1048576) :
    Calls Try.prog 4 #[.slice (some ⟨g, 0, none⟩) n n] W (SongB W (vSongFor xs).1 (vSongFor xs).2) := by
  have HS := Lib.hid hs
  have HN : Hid (xs.length = n) := Lib.hid hs.1
  rw [vSongFor, hs.1]
  have HRES := Lib.hid (Own1.new W (.slice none 0 0) 24)
  obtain ⟨hr1, hr2⟩ := HRES.out
  clear hs
  by_cases hn : 1 ≤ n ∧ n ≤ 20
  · rw [if_pos hn]
    obtain ⟨n1, n2⟩ := hn
    have i1 : (1 : Int) ≤ n := by omega
    have i2 : (n : Int) ≤ 20 := by omega
    obtain ⟨R, hR⟩ : ∃ R, sfO (marks 0 n) xs = R := ⟨_, rfl⟩
    rw [hR]
    have HR := Lib.hid hR
    clear hR
    go_enter Try.func4, Try.ntmps4
    go_wp2_with (first | ((with_reducible refine (l1In_yes (n : Int) _ _ _ i1 i2).mono ?_); rintro e w' ⟨rfl, rfl⟩))
    refine (ciPeople_any n _ (by omega)).mono ?_
    rintro e w0 ⟨v0, rfl, hs0, hk0⟩
    obtain ⟨kk, hz, sc, rc0⟩ : Kp Nw W w0 ∧ W.heap.size + 2 ≤ w0.heap.size ∧ Own1 w0 W.heap.size (.slice none 0 0) ∧ Own1 w0 (W.heap.size + 1) (.slice none 0 0) := song_open _ W w0 hk0
    have HS0 := Lib.hid (hs0.from (B' := W.heap.size + 2) (by simp))
    have HK0 := Lib.hid kk
    have HC0 := Lib.hid sc
    have HD0 := Lib.hid rc0
    clear hs0 hk0 kk sc rc0
    go_wp2
    go_loopw [5, 19] (fun l9 i9 wr => ∃ (j : Nat) (u v : Value) (l cs : List Int), j ≤ n ∧ u = l9 ∧ i9 = .int .i64 j ∧ l.length = n - j ∧ Hid (Own1 wr W.heap.size (.slice none 0 0)) ∧ Hid (Own1 wr (W.heap.size + 1) v) ∧ Hid (Sl wr (W.heap.size + 2) u l) ∧ Hid (Sl wr (W.heap.size + 2) v cs) ∧ cs.length = j ∧ Hid (∀ gg, u.ownBlock = some gg → v.ownBlock = some gg → False) ∧ Hid (Kp Nw W wr) ∧ W.heap.size + 2 ≤ wr.heap.size ∧ Hid (R = sfJ cs (sfO l (xs.drop j)))) (fun _ i9 _ => n - (intOf i9).toNat)
    case atStart => exact ⟨0, _, .slice none 0 0, marks 0 n, [], Nat.zero_le _, rfl, rfl, by rw [marks_length]; rfl, HC0, HD0, HS0, Lib.hid ((Sl.nil _ _).from hz), rfl, Lib.hid (fun gg _ h => by simp [Value.ownBlock] at h), HK0, hz, Lib.hid (by rw [List.drop_zero, sfJ_nil _ (sfO_no _ _)]; exact HR.out.symm)⟩
    case round =>
      rename_i wr
      obtain ⟨j, u, v, l, cs, hj, rfl, rfl, hll, HC, HD, HU, HV, hcl, HDI, HK, hz, HRR⟩ := hrel
      obtain ⟨A2, c2, rfl⟩ := HV.out.val hcl
      obtain ⟨hc1, hc2⟩ := HC.out
      obtain ⟨hd1, hd2⟩ := HD.out
      have HCL := Lib.hid hcl
      have HLL := Lib.hid hll
      by_cases hp : j < n
      · obtain ⟨x, hx⟩ : ∃ x, xs.getD j 0 = x := ⟨_, rfl⟩
        have cx := keepc HK.out (HS.out.cell j hp) (fun h => h)
        rw [hx] at cx
        have hdr : xs.drop j = x :: xs.drop (j + 1) := by
          have hjl : j < xs.length := by rw [HN.out]; exact hp
          rw [List.drop_eq_getElem_cons hjl, ← hx]; simp [List.getD, hjl]
        obtain ⟨z, hzf⟩ : ∃ z, fndD x l 0 = z := ⟨_, rfl⟩
        have hzr := fndD_rng x l 0
        rw [hzf, hll] at hzr
        have HZF := Lib.hid hzf
        have HRR2 : Hid (R = sfJ cs (if z < 0 then ([], false) else if (sfO (goneAt l z.toNat) (xs.drop (j + 1))).2 = true then ((z + 1) :: (sfO (goneAt l z.toNat) (xs.drop (j + 1))).1, true) else ([], false))) := Lib.hid (by
          rw [HRR.out, hdr, sfO, hzf])
        have j0 : (0 : Int) ≤ j := Int.natCast_nonneg _
        have jn : (j : Int) < n := by omega
        clear hx hdr hzf hll hcl
        by_cases hneg : z < 0
        · have HE : Hid (R = ([], false)) := Lib.hid (by rw [HRR2.out, if_pos hneg]; rfl)
          go_wp2_with fail
          refine (ciFind_any _ l x wr HU.out.rd (by rw [HLL.out]; omega)).mono ?_
          rintro e w1 ⟨rfl, rfl⟩
          rw [HZF.out]
          have z0 := one_set wr W.heap.size (.slice none 0 0) _ HC.out.1
          have HZ := Lib.hid (song_none (W := W) 0 (by omega) HK.out)
          go_wp2
          refine bodyPost_ret (v := .tuple #[.agg #[.slice none 0 0], .bool false]) (by simp [results, Try.results4, go_sem, z0]) rfl ⟨_, by rw [HE.out], ?_, HZ.out.2⟩
          rw [HE.out]; exact HZ.out.1
        · obtain ⟨m, hm⟩ : ∃ m, l.length = m := ⟨_, rfl⟩
          have HM : Hid (m = n - j) := Lib.hid (by rw [← hm]; exact HLL.out)
          have HLM := Lib.hid hm
          have hm1 : 1 ≤ m := by have := HM.out; omega
          have hm2 : m ≤ 20 := by have := HM.out; omega
          obtain ⟨gu, cap, rfl, hsu, hcc1, hcc2, hBu, hgu⟩ := HU.out.at_ (by rw [hm]; omega)
          have HU2 : Hid (Rd wr (.slice (some ⟨gu, 0, none⟩) m cap) l) := Lib.hid (by have h := HU.out.rd; rw [hm] at h; exact h)
          rw [hm] at hsu hcc1 ⊢
          obtain ⟨k, hk⟩ : ∃ k, z.toNat = k := ⟨_, rfl⟩
          have hkz : z = (k : Int) := by omega
          have hkl : k < m := by have := HM.out; rcases hzr with h | h <;> omega
          have HRR3 : Hid (R = sfJ (cs ++ [(k : Int) + 1]) (sfO (goneAt l k) (xs.drop (j + 1)))) := Lib.hid (by rw [HRR2.out, if_neg hneg, hk, sfJ_step, hkz])
          subst hkz
          have HSU := Lib.hid hsu
          have w1k : IntKind.i64.wrap ((k : Int) + 1) = (k : Int) + 1 := IntWalk.i64_in _ (by omega)
          have q2 : (0 : Int) ≤ (k : Int) + 1 := by omega
          have k0 : (0 : Int) ≤ (k : Int) := Int.natCast_nonneg _
          have q3 : (k : Int) + 1 ≤ (m : Int) := by omega
          have q4 : ((k : Int) + 1).toNat = k + 1 := by omega
          have q5 : (k : Int) ≤ cap := by omega
          have q6 := cut_to gu m cap k (by omega)
          obtain ⟨Ad, had, q7⟩ := cut_from gu m cap (k + 1) (by omega) hcc1
          rw [show ((k + 1 : Nat) : Int) = (k : Int) + 1 from rfl] at q7
          have AD := Lib.hid had
          clear had hsu hk hzr hm
          go_wp2_with fail
          refine (ciFind_any _ l x wr HU2.out (by rw [HLM.out]; omega)).mono ?_
          rintro e w1 ⟨rfl, rfl⟩
          rw [HZF.out]
          go_wp2_with (first | (at_builtin; refine wpList_app _ rfl (.tmp 30) (.tmp 33) rfl (W.heap.size + 2) (.slice A2 j c2) _ cs [(k : Int) + 1] rfl rfl (HV.out.below ((Kp.refl Nw wr).alloc _).below') (Rd.one (g := wr.heap.size) (by simp)) nil_one (by simp; have := HCL.out; omega) (by simp; omega) ?_))
          intro r' w2 hs2 hk2 hat
          obtain ⟨A3, c3, rfl⟩ := hs2.val (n := j + 1) (by rw [List.length_append, HCL.out]; rfl)
          have hkA : Kp (fun b => (Value.slice A2 j c2).ownBlock = some b ∨ b = W.heap.size + 1) wr w2 := ((Kp.refl _ wr).alloc _).trans (hk2.mono (fun _ _ h => .inl h))
          obtain ⟨hd3, hd4⟩ := (HD.out.kp (Kp.al wr (.cells #[.int .i64 ((k : Int) + 1)] 3)) (fun h => h)).kp hk2 (fun h => by have := (HV.out.own_ge _ h).1; omega)
          have HKA := Lib.hid hkA
          have HS2 := Lib.hid hs2
          clear hs2 hkA hk2
          have HKB := Lib.hid ((HKA.out).setCell (p := ⟨W.heap.size + 1, 0, none⟩) (.inl (.inr rfl)) (.slice A3 (j + 1) c3))
          have HSU3 := Lib.hid (HSU.out.kq8 HKB.out (fun h => h.elim (fun h => HDI.out _ rfl h) (fun h => by omega)))
          have HV3 := Lib.hid (HS2.out.kp ((Kp.refl (fun b => b = W.heap.size + 1) w2).setCell (p := ⟨W.heap.size + 1, 0, none⟩) (.inl rfl) (.slice A3 (j + 1) c3)) (fun gg a b => by have := (HS2.out.own_ge gg a).1; omega))
          have HC3 := Lib.hid (HC.out.kp HKB.out (fun h => h.elim (fun h => by have := (HV.out.own_ge _ h).1; omega) (fun h => by omega)))
          have HD3 : Hid (Own1 (w2.setCell ⟨W.heap.size + 1, 0, none⟩ (.slice A3 (j + 1) c3)) (W.heap.size + 1) (.slice A3 (j + 1) c3)) := Lib.hid (Own1.set ⟨hd3, hd4⟩ _)
          have HK3 := Lib.hid (HK.out.after HKB.out (fun gg hlt h => h.elim (fun h => by have := (HV.out.own_ge _ h).1; omega) (fun h => by omega)))
          have hz3 : W.heap.size + 2 ≤ (w2.setCell ⟨W.heap.size + 1, 0, none⟩ (.slice A3 (j + 1) c3)).heap.size := by have := HKB.out.size; omega
          have HLM2 : Hid (l.length ≤ 1000) := Lib.hid (by rw [HLM.out]; omega)
          clear HKA HKB HS2
          go_wp2_with fail
          obtain ⟨w3, hw3⟩ : ∃ w3, w2.setCell ⟨W.heap.size + 1, 0, none⟩ (.slice A3 (j + 1) c3) = w3 := ⟨_, rfl⟩
          rw [hw3] at HSU3 HV3 HC3 HD3 HK3 hz3 ⊢
          clear hw3 hd3 hd4
          go_region_held3 (fun w' => Kp Nw w3 w' ∧ True)
            (first
              | exact ⟨(Kp.refl _ _).drew, trivial⟩
              | exact ⟨hkW5, trivial⟩
              | exact ⟨hkW4, trivial⟩)
            (first
              | (go_at_call 15
                 refine (l1Own_any _ (l.drop (k + 1)) _ (Rd.nw' (HSU3.out.drop (k + 1) (by omega) _ _ AD.out) (‹Kp Nw w3 _ ∧ _›.1)) (HSU3.out.drop_vn _ _ _) (by simp; have := HLM2.out; omega)).mono ?_
                 rintro e w4 ⟨v4, rfl, hs4, hk4⟩
                 have hkW4 := (‹Kp Nw w3 _ ∧ _›.1).nw hk4)
              | (refine step_app _ (by rfl) (.tmp 40) (.tmp 43) (by rfl) w3.heap.size v4 _ (l.drop (k + 1)) (l.take k) (by rfl) (by rfl) hs4 (Rd.nw' (HSU3.out.take k (by omega)) hkW4) (HSU3.out.take_vn k (by omega) _) (by simp; have := HLM2.out; omega) hkW4.size ?_
                 intro v5 w5 hs5 hk5 _
                 have hkW5 := hkW4.own hs4 hk5)
              | fail)
          have HU5 := Lib.hid (hs5.from (B' := W.heap.size + 2) hz3)
          have HV5 := Lib.hid (HV3.out.below hkW5.below')
          have HC5 := Lib.hid (HC3.out.kp hkW5 (fun h => h))
          have HD5 := Lib.hid (HD3.out.kp hkW5 (fun h => h))
          have HK5 := Lib.hid (HK3.out.nw hkW5)
          have hz5 : W.heap.size + 2 ≤ w5.heap.size := Nat.le_trans hz3 hkW5.size
          have HDI5 : Hid (∀ gg, v5.ownBlock = some gg → (Value.slice A3 (j + 1) c3).ownBlock = some gg → False) := Lib.hid (fun gg a b => by have := (hs5.own_ge gg a).1; have := (HV3.out.own_ge gg b).2; omega)
          have HGL : Hid ((goneAt l k).length = n - (j + 1)) := Lib.hid (by rw [goneAt_length (by rw [HLM.out]; exact hkl), HLM.out]; have := HM.out; omega)
          have HCL5 : Hid ((cs ++ [(k : Int) + 1]).length = j + 1) := Lib.hid (by rw [List.length_append, HCL.out]; rfl)
          clear hs4 hk4 hkW4 hs5 hk5 hkW5
          go_wp2
          go_roundw
          case rel => exact ⟨j + 1, v5, .slice A3 (j + 1) c3, goneAt l k, cs ++ [(k : Int) + 1], by omega, rfl, by go_num, HGL.out, HC5, HD5, HU5, HV5, HCL5.out, HDI5, HK5, hz5, HRR3⟩
          case measure => simp [intOf] <;> omega
      · have e : j = n := by omega
        subst e
        have HE : Hid (R = (cs, true)) := Lib.hid (by rw [HRR.out, List.drop_of_length_le (by rw [HN.out]; exact Nat.le_refl _)]; simp [sfO, sfJ])
        have z0 := one_set wr W.heap.size (.slice A2 j c2) _ HC.out.1
        have HZ := Lib.hid (song_close (W := W) 0 (HV.out.from (by omega)) HK.out)
        go_wp2
        refine bodyPost_ret (v := .tuple #[.agg #[.slice A2 j c2], .bool true]) (by simp [results, Try.results4, go_sem, z0]) rfl ⟨_, by rw [HE.out], ?_, HZ.out.2⟩
        rw [HE.out]; exact HZ.out.1
  · rw [if_neg hn]
    have hn' : (n : Int) < 1 ∨ 20 < (n : Int) := by omega
    clear hn
    go_enter Try.func4, Try.ntmps4
    go_wp2_with (first | ((with_reducible refine (l1In_no (n : Int) _ _ _ hn').mono ?_); rintro e w' ⟨rfl, rfl⟩))
    refine bodyPost_ret (v := .tuple #[.agg #[.slice none 0 0], .bool false]) (by simp [results, Try.results4, go_sem, HRES.out.1]) rfl ⟨_, rfl, Sl.nil _ _, Kp.al W _⟩
end Go.Proofs.Ytbndgkjnigehgab
namespace Go.Proofs.Ytbndgkjnigehgab
open Go.ChangeShapes Go.WideShapes Go.ChangeAt Go.RowKit

/-- two songs boxed -/
theorem songs_open (x y : Value) (W w1 : World) (hk : Kp Nw ((W.alloc (.cells #[x] 24)).alloc (.cells #[y] 24)) w1) :
    Kp Nw W w1 ∧ W.heap.size + 2 ≤ w1.heap.size ∧ w1.cell? ⟨W.heap.size, 0, none⟩ = some x ∧ w1.cell? ⟨W.heap.size + 1, 0, none⟩ = some y := by
  refine ⟨((Kp.al W _).nw (.al _ _)).nw hk, by have := hk.size; simp only [World.size_alloc] at this; exact this, (((Own1.new W x 24).kp (.al _ _) (fun h => h)).kp hk (fun h => h)).1, ?_⟩
  have h := ((Own1.new (W.alloc (.cells #[x] 24)) y 24).kp hk (fun h => h)).1
  simpa only [World.size_alloc] using h
def bySongs (xs : List Int) (p : Nat) : List Int := (List.range p).map (fun i => lastS xs (i + 1))
theorem bySongs_len (xs : List Int) (p : Nat) : (bySongs xs p).length = p := by unfold bySongs; simp
theorem bySongs_succ (xs : List Int) (p : Nat) : bySongs xs (p + 1) = bySongs xs p ++ [lastS xs (p + 1)] := by unfold bySongs; rw [List.range_succ, List.map_append]; rfl
def vBySongs (xs : List Int) (p : Int) : List Int × Bool := if asB xs p = true then (bySongs xs p.toNat, true) else ([], false)
theorem vBySongs_len (xs : List Int) (p : Int) : (vBySongs xs p).1.length ≤ 1000000 := by
  unfold vBySongs
  split
  · rename_i h; have := asB_parts h; simp only [bySongs_len]; omega
  · exact Nat.zero_le _

def vSame (xs ys : List Int) (p : Int) : Bool × Bool := if asB xs p = true ∧ sgB ys = true then (decide (soO xs p.toNat = soO ys p.toNat), true) else (false, false)

end Go.Proofs.Ytbndgkjnigehgab
namespace Go.Proofs.Ytbndgkjnigehgab
open Go.ChangeShapes Go.WideShapes Go.ChangeAt Go.RowKit

/-- the first count from some on with which the last one is the one asked for -/
def btN (xs : List Int) (p : Nat) (q : Int) (k : Nat) : Nat → Int × Bool
  | 0 => (0, false)
  | m + 1 => if lastS (rotS xs k) p = q then ((k : Int), true) else btN xs p q (k + 1) m
def vBest (xs : List Int) (p q : Int) : Int × Bool := if asB xs p = true ∧ 0 ≤ q ∧ q ≤ p - 1 then btN xs p.toNat q 0 xs.length else (0, false)

end Go.Proofs.Ytbndgkjnigehgab
namespace Go.Proofs.Ytbndgkjnigehgab
open Go.ChangeShapes Go.WideShapes Go.ChangeAt Go.RowKit

theorem lastS_rng (xs : List Int) (p : Nat) (h : 1 ≤ p) : 0 ≤ lastS xs p ∧ lastS xs p < p := by
  have hl : p - 1 < (soO xs p).length := by rw [soO_length]; omega
  have hm : lastS xs p ∈ soO xs p := by
    have e : lastS xs p = (soO xs p)[p - 1] := by rw [lastS, List.getD_eq_getElem?_getD, List.getElem?_eq_getElem hl]; rfl
    rw [e]; exact List.getElem_mem _
  have hp := soT_perm xs (marks 0 p)
  rw [marks_length] at hp
  exact marks_mem p _ (hp.mem_iff.1 hm)
/-- the first places on which one may stand -/
def safeL (z : Int) (p k : Nat) : List Int := (List.range k).map (fun b : Nat => (z + (b : Int)) % (p : Int))
theorem safeL_len (z : Int) (p k : Nat) : (safeL z p k).length = k := by unfold safeL; simp
theorem safeL_succ (z : Int) (p k : Nat) : safeL z p (k + 1) = safeL z p k ++ [(z + (k : Int)) % (p : Int)] := by unfold safeL; rw [List.range_succ, List.map_append]; rfl
theorem safeL_new (z : Int) (p k : Nat) (z0 : 0 ≤ z) (z1 : z < p) (h : k < p) : ¬ (z + (k : Int)) % (p : Int) ∈ safeL z p k := by
  intro hm
  unfold safeL at hm
  obtain ⟨b, hb, e⟩ := List.mem_map.1 hm
  have hb' := List.mem_range.1 hb
  have h1 : (z + (b : Int)) % (p : Int) = if z + b < p then z + b else z + b - p := by
    split
    · exact Int.emod_eq_of_lt (by omega) (by omega)
    · rw [← Int.sub_emod_right, Int.emod_eq_of_lt (by omega) (by omega)]
  have h2 : (z + (k : Int)) % (p : Int) = if z + k < p then z + k else z + k - p := by
    split
    · exact Int.emod_eq_of_lt (by omega) (by omega)
    · rw [← Int.sub_emod_right, Int.emod_eq_of_lt (by omega) (by omega)]
  rw [h1, h2] at e
  split at e <;> split at e <;> omega
def vSafe (xs : List Int) (p k : Int) : List Int × Bool := if asB xs p = true ∧ 1 ≤ k ∧ k ≤ p then (srt (safeL (lastS xs p.toNat) p.toNat k.toNat), true) else ([], false)
theorem vSafe_len (xs : List Int) (p k : Int) : (vSafe xs p k).1.length ≤ 1000000 := by
  unfold vSafe
  split
  · rename_i h
    have := asB_parts h.1
    simp only [srt, List.length_mergeSort, safeL_len]; omega
  · exact Nat.zero_le _

end Go.Proofs.Ytbndgkjnigehgab
