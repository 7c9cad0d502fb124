/- The program's circle when two count: one goes, and then the one whom the other has chosen; the library's Reverse; no condition but that the circle has at most a thousand places and the step is at most a million. -/
import Derived.Test.YtjlbillfbhkamaaFwd
import Derived.Test.YtjlbillfbhkamaaAt
import Derived.Test.YtjlbillfbhkamaaPair
import Derived.Shelf.RegionOpenPlain
namespace Go.Proofs.Ytjlbillfbhkamaa
open Go.ChangeShapes Go.WideShapes Go.ChangeAt Go.RowKit

theorem fndD_none (x : Int) : ∀ (xs : List Int) (j : Nat), x ∉ xs → fndD x xs j = -1
  | [], _, _ => rfl
  | y :: r, j, h => by
    rw [fndD, if_neg (fun e => h (by rw [e]; exact List.mem_cons_self)), fndD_none x r (j + 1) (fun e => h (List.mem_cons_of_mem _ e))]
theorem fndD_first (x : Int) : ∀ (xs : List Int) (t j : Nat), t < xs.length → xs.getD t 0 = x → (∀ i, i < t → xs.getD i 0 ≠ x) → fndD x xs j = ((j + t : Nat) : Int)
  | [], t, _, h, _, _ => by simp at h
  | y :: r, 0, j, _, h, _ => by
    simp at h
    rw [fndD, if_pos h]; rfl
  | y :: r, t + 1, j, hl, h, hn => by
    have h0 := hn 0 (by omega)
    simp at h0
    rw [fndD, if_neg h0, fndD_first x r t (j + 1) (by simpa using hl) (by simpa using h) (fun i hi => by have := hn (i + 1) (by omega); simpa using this)]
    congr 1
    omega
theorem snd_getD (ps : List (Int × Int)) (j : Nat) : (ps.map (·.2)).getD j 0 = (ps.getD j (0, 0)).2 := by
  simp only [List.getD, List.getElem?_map]
  cases ps[j]? <;> rfl
theorem snd_erase (ps : List (Int × Int)) (j : Nat) : (ps.eraseIdx j).map (·.2) = (ps.map (·.2)).eraseIdx j := by
  apply List.ext_getElem?
  intro k
  rw [List.getElem?_map, List.getElem?_eraseIdx, List.getElem?_eraseIdx]
  split <;> rw [List.getElem?_map]

/-- a circle whose people have the numbers xs, the next turn counts from the index i on -/
def Cir (w : World) (C L cap : Nat) (xs : List Int) (i : Nat) (k : Int) : Prop :=
  ∃ ps q, Ci w C L cap ps q k ∧ ps.map (·.2) = xs ∧ Diff ps ∧ (0 < xs.length → i < xs.length ∧ ps.getD i (0, 0) = q)
theorem Cir.kp {w w' : World} {C L cap : Nat} {xs : List Int} {i : Nat} {k : Int} {S : Nat → Prop} (h : Cir w C L cap xs i k) (hk : Kp S w w') (h1 : ¬ S C) (h2 : ¬ S L) : Cir w' C L cap xs i k := by
  obtain ⟨ps, q, hC, hr⟩ := h
  exact ⟨ps, q, hC.kp hk h1 h2, hr⟩
theorem Cir.lt {w : World} {C L cap : Nat} {xs : List Int} {i : Nat} {k : Int} (h : Cir w C L cap xs i k) : C < w.heap.size ∧ L < w.heap.size := by
  obtain ⟨ps, q, hC, hr⟩ := h
  exact ⟨hC.lt, hC.2.lt⟩
theorem Cir.len {w : World} {C L cap : Nat} {xs : List Int} {i : Nat} {k : Int} (h : Cir w C L cap xs i k) : w.cell? ⟨C, 2, none⟩ = some (.slice (some ⟨L, 0, none⟩) xs.length cap) := by
  obtain ⟨ps, q, hC, rfl, _⟩ := h
  rw [List.length_map]
  exact hC.cells.2.2.1
theorem Cir.start {w : World} {C L : Nat} {xs : List Int} {k : Int} (h : Ci w C L xs.length (num xs) (0, xs.getD 0 0) k) : Cir w C L xs.length xs 0 k :=
  ⟨num xs, _, h, num_snd xs, num_diff xs, fun hp => ⟨hp, num_getD xs 0 hp⟩⟩

theorem cir_go (C L cap i : Nat) (xs : List Int) (k : Int) (W : World) (h : Cir W C L cap xs i k) (hp : 0 < xs.length) (k1 : 1 ≤ k) (k2 : k ≤ 1000000) :
    Calls Try.prog 48 #[.pointer (some ⟨C, 0, none⟩)] W fun e w' => ∃ u : Int, e = .returned (.agg #[.int .i64 u, .int .i64 (xs.getD (rj k i xs.length) 0)]) ∧ Cir w' C L cap (xs.eraseIdx (rj k i xs.length)) (rj k i xs.length % (xs.length - 1)) k ∧ Kp (fun b => b = C ∨ b = L) W w' := by
  obtain ⟨ps, q, hC, rfl, hd, hi⟩ := h
  obtain ⟨hi1, hi2⟩ := hi hp
  rw [List.length_map] at hp hi1 ⊢
  obtain ⟨j, hj⟩ : ∃ j, rj k i ps.length = j := ⟨_, rfl⟩
  have hjl : j < ps.length := by rw [← hj]; exact rj_lt _ _ _ hp
  rw [hj, snd_getD]
  by_cases h1 : ps.length = 1
  · obtain ⟨p, rfl⟩ := List.length_eq_one_iff.1 h1
    have e0 : i = 0 := by simpa using hi1
    subst e0
    have eq : p = q := by simpa using hi2
    subst eq
    have ej : j = 0 := by simpa using hjl
    subst ej
    refine (goForward_last C L cap p k W hC k1 k2).mono fun e w' ⟨he, hC', hk⟩ => ⟨p.1, he, ⟨[], p, hC', rfl, fun a b _ h => by simp at h, fun h => by simp at h⟩, hk⟩
  · obtain ⟨m, hm⟩ : ∃ m, ps.length = m + 1 := ⟨ps.length - 1, by omega⟩
    have hJ := emod_add_place i ps.length k (by omega)
    have hJ' : (i + place k ps.length) % ps.length = j := hj
    rw [hJ'] at hJ
    refine (goForward_any C L cap i m j (j % m) ps _ q _ k W hC hm (by omega) (by omega) hi2 hd k1 k2 (by rw [hJ, hm]; simp) rfl (Int.natCast_emod _ m).symm rfl).mono fun e w' ⟨he, hC', hk⟩ => ⟨_, he, ⟨_, _, hC', snd_erase ps j, hd.erase _, fun _ => ⟨?_, ?_⟩⟩, hk⟩
    · rw [List.length_eraseIdx, List.length_map, if_pos hjl, hm]
      exact Nat.mod_lt _ (by omega)
    · rw [hm]; rfl

set_option maxRecDepth 100000 in
set_option maxHeartbeats 1600000 in
theorem lose_none (C L cap i : Nat) (xs : List Int) (k x : Int) (W : World) (h : Cir W C L cap xs i k) (hx : x ∉ xs) :
    Calls Try.prog 49 #[.pointer (some ⟨C, 0, none⟩), .int .i64 x] W fun e w' => e = .returned (.tuple #[]) ∧ Cir w' C L cap xs i k ∧ Kp (fun b => b = C ∨ b = L) W w' := by
  have HC := Lib.hid h
  obtain ⟨ps, q, hC, rfl, hd, hi⟩ := h
  obtain ⟨n, hn⟩ : ∃ n, ps.length = n := ⟨_, rfl⟩
  have hb : n ≤ cap ∧ cap ≤ 1000000 := by
    obtain ⟨_, _, _, h1, h2, _⟩ := hC.2
    omega
  obtain ⟨hb1, hb2⟩ := hb
  obtain ⟨c0, c1, c2, c3⟩ := hC.cells
  rw [hn] at c2
  have HP := Lib.hid hC.2
  have HN := Lib.hid hn
  have HX := Lib.hid (fndD_none x _ 0 hx)
  clear hC hi hd hx hn c0 c1 c3
  go_enter Try.func49, Try.ntmps49
  go_wp2_with fail
  refine (numbersOf_any ⟨L, 0, none⟩ cap n ps W HP.out.rdp HN.out (by omega)).mono ?_
  rintro e w1 ⟨v, rfl, hs, hk⟩
  have HS := Lib.hid hs
  have HK := Lib.hid hk
  clear hs hk
  go_wp2_with fail
  refine (index_any v _ x w1 HS.out.rd (by rw [List.length_map, HN.out]; omega)).mono ?_
  rw [HX.out]
  rintro e w' ⟨rfl, rfl⟩
  go_wp2
  refine bodyPost_ret (v := .tuple #[]) (by simp [results, Try.results49, go_sem]) rfl ⟨rfl, HC.out.kp HK.out (fun h => h) (fun h => h), HK.out.mono (fun _ _ h => h.elim)⟩

/-- what letGo does, whatever the next one is -/
theorem cir_let (C L cap t nx : Nat) (ps : List (Int × Int)) (q : Int × Int) (k : Int) (w : World) (hC : Ci w C L cap ps q k) (ht : t < ps.length) (hd : Diff ps) (hn : nx ≤ 1000000) :
    Calls Try.prog 52 #[.pointer (some ⟨C, 0, none⟩), .int .i64 t, .int .i64 nx] w fun e w' => (∃ a b : Int, e = .returned (.agg #[.int .i64 a, .int .i64 b])) ∧ Cir w' C L cap ((ps.map (·.2)).eraseIdx t) (nx % (ps.length - 1)) k ∧ Kp (fun b => b = C ∨ b = L) w w' := by
  obtain ⟨m, hm⟩ : ∃ m, ps.length = m + 1 := ⟨ps.length - 1, by omega⟩
  have hel : (ps.eraseIdx t).length = m := by rw [List.length_eraseIdx, if_pos ht, hm]; rfl
  by_cases m0 : m = 0
  · have e1 : ps.length = 1 := by omega
    obtain ⟨p', rfl⟩ := List.length_eq_one_iff.1 e1
    have et : t = 0 := by simpa using ht
    subst et
    exact (letGo_last C L cap (nx : Int) p' q k w hC).mono fun e w' ⟨he, hC', hk⟩ => ⟨⟨_, _, he⟩, ⟨[], q, hC', rfl, fun a b _ h => by simp at h, fun h => by simp at h⟩, hk⟩
  · refine (letGo_any C L cap t m (nx % m) (nx : Int) ps _ q _ k w hC hm (by omega) rfl (by omega) (by omega) (by omega) (Int.natCast_emod _ m).symm rfl).mono fun e w' ⟨he, hC', hk⟩ => ⟨⟨_, _, he⟩, ⟨_, _, hC', snd_erase ps t, hd.erase _, fun _ => ⟨?_, ?_⟩⟩, hk⟩
    · rw [← snd_erase, List.length_map, hel, hm]
      exact Nat.mod_lt _ (by omega)
    · rw [hm]; rfl

set_option maxRecDepth 100000 in
set_option maxHeartbeats 3200000 in
theorem lose_some (C L cap i t : Nat) (xs : List Int) (k x : Int) (W : World) (h : Cir W C L cap xs i k) (ht : t < xs.length) (hx : xs.getD t 0 = x) (hds : Ds xs) :
    Calls Try.prog 49 #[.pointer (some ⟨C, 0, none⟩), .int .i64 x] W fun e w' => e = .returned (.tuple #[]) ∧ Cir w' C L cap (xs.eraseIdx t) ((if t < i then i - 1 else i) % (xs.length - 1)) k ∧ Kp (fun b => b = C ∨ b = L) W w' := by
  have hx1 := fndD_first x xs t 0 ht hx (fun i hi e => hds i t hi ht (e.trans hx.symm))
  rw [Nat.zero_add] at hx1
  have HX := Lib.hid hx1
  clear hx1
  obtain ⟨ps, q, hC, rfl, hd, hi⟩ := h
  obtain ⟨hi1, hi2⟩ := hi (by omega)
  rw [List.length_map] at ht hi1 ⊢
  obtain ⟨n, hn⟩ : ∃ n, ps.length = n := ⟨_, rfl⟩
  have hb : n ≤ cap ∧ cap ≤ 1000000 := by
    obtain ⟨_, _, _, h1, h2, _⟩ := hC.2
    omega
  obtain ⟨hb1, hb2⟩ := hb
  obtain ⟨c0, c1, c2, c3⟩ := hC.cells
  rw [hn] at c2 ht hi1 ⊢
  obtain ⟨y, hy⟩ : ∃ y, (if t < i then i - 1 else i) = y := ⟨_, rfl⟩
  rw [hy]
  have HY := Lib.hid hy
  have HC := Lib.hid hC
  have HD := Lib.hid hd
  have HN := Lib.hid hn
  have HI := Lib.hid hi2
  have t0 : (0 : Int) ≤ t := Int.natCast_nonneg _
  have i0 : (0 : Int) ≤ i := Int.natCast_nonneg _
  have wi : IntKind.i64.wrap ((i : Int) - 1) = (i : Int) - 1 := IntWalk.i64_in _ (by omega)
  have nt : ¬ (t : Int) < 0 := by omega
  clear hC hi hd hn hi2 c0 c1 c3 hx hds hy
  go_enter Try.func49, Try.ntmps49
  go_wp2_with fail
  refine (numbersOf_any ⟨L, 0, none⟩ cap n ps W HC.out.2.rdp HN.out (by omega)).mono ?_
  rintro e w1 ⟨v, rfl, hs, hk⟩
  have HS := Lib.hid hs
  have HK := Lib.hid hk
  have z1 : W.heap.size ≤ w1.heap.size := hk.size
  clear hs hk
  go_wp2_with fail
  refine (index_any v _ x w1 HS.out.rd (by rw [List.length_map, HN.out]; omega)).mono ?_
  rw [HX.out]
  rintro e w' ⟨rfl, rfl⟩
  go_wp2_with fail
  refine (next_any C L cap i ps q k w1 (HC.out.nw HK.out) (by rw [HN.out]; exact hi1) HI.out HD.out).mono ?_
  rintro e w2 ⟨rfl, hk2⟩
  have HK2 := Lib.hid (HK.out.nw hk2)
  clear hk2
  by_cases hti : t < i
  · have hti' : (t : Int) < i := by omega
    have HE : Hid (y = i - 1) := Lib.hid (by rw [← HY.out, if_pos hti])
    have hcl := cir_let C L cap t (i - 1) ps q k w2 (HC.out.nw HK2.out) (by rw [HN.out]; exact ht) HD.out (by omega)
    rw [show ((i - 1 : Nat) : Int) = (i : Int) - 1 by omega, HN.out, ← HE.out] at hcl
    have HCL := Lib.hid hcl
    clear hcl
    go_wp2_with fail
    refine HCL.out.mono ?_
    rintro e w3 ⟨⟨ra, rb, rfl⟩, hC3, hk3⟩
    have HC3 := Lib.hid hC3
    have HK3 := Lib.hid (((HK2.out.mono (T := fun b => b = C ∨ b = L) (fun _ _ h => h.elim))).trans hk3)
    clear hC3 hk3
    go_wp2
    go_end0
    exact ⟨rfl, HC3.out, HK3.out⟩
  · have hti' : ¬ (t : Int) < i := by omega
    have HE : Hid (y = i) := Lib.hid (by rw [← HY.out, if_neg hti])
    have hcl := cir_let C L cap t i ps q k w2 (HC.out.nw HK2.out) (by rw [HN.out]; exact ht) HD.out (by omega)
    rw [HN.out] at hcl
    have HCL := Lib.hid hcl
    clear hcl
    go_wp2_with fail
    refine HCL.out.mono ?_
    rintro e w3 ⟨⟨ra, rb, rfl⟩, hC3, hk3⟩
    have HC3 := Lib.hid hC3
    have HK3 := Lib.hid (((HK2.out.mono (T := fun b => b = C ∨ b = L) (fun _ _ h => h.elim))).trans hk3)
    clear hC3 hk3
    go_wp2
    go_end0
    exact ⟨rfl, by rw [HE.out]; exact HC3.out, HK3.out⟩

/-- a list of which the first j and the last j are exchanged -/
def RevP (n : Nat) (xs ys : List Int) (j : Nat) : Prop := ys.length = n ∧ ∀ k, k < n → ys.getD k 0 = if k < j ∨ n - 1 - k < j then xs.getD (n - 1 - k) 0 else xs.getD k 0
theorem getD_set (ys : List Int) (i k : Nat) (a : Int) : (ys.set i a).getD k 0 = if i = k ∧ k < ys.length then a else ys.getD k 0 := by
  simp only [List.getD, List.getElem?_set]
  by_cases e : i = k
  · subst e
    by_cases h : i < ys.length
    · rw [if_pos rfl, if_pos h, if_pos ⟨rfl, h⟩]; rfl
    · rw [if_pos rfl, if_neg h, if_neg (fun x => h x.2), List.getElem?_eq_none (by omega)]
  · rw [if_neg e, if_neg (fun x => e x.1)]
theorem RevP.step {n : Nat} {xs ys : List Int} {j : Nat} (h : RevP n xs ys j) (hj : 2 * j + 1 < n) : RevP n xs ((ys.set j (ys.getD (n - 1 - j) 0)).set (n - 1 - j) (ys.getD j 0)) (j + 1) := by
  obtain ⟨hl, hg⟩ := h
  refine ⟨by simp [hl], fun k hk => ?_⟩
  rw [getD_set, getD_set, List.length_set, hl]
  by_cases e1 : n - 1 - j = k
  · rw [if_pos ⟨e1, hk⟩, hg j (by omega), if_neg (by omega), if_pos (by omega)]
    congr 1
    omega
  · rw [if_neg (fun x => e1 x.1)]
    by_cases e2 : j = k
    · rw [if_pos ⟨e2, hk⟩, hg (n - 1 - j) (by omega), if_neg (by omega), if_pos (by omega)]
      congr 1
      omega
    · rw [if_neg (fun x => e2 x.1), hg k hk]
      by_cases e3 : k < j ∨ n - 1 - k < j
      · rw [if_pos e3, if_pos (by omega)]
      · rw [if_neg e3, if_neg (by omega)]
theorem RevP.all {n : Nat} {xs ys : List Int} {j : Nat} (h : RevP n xs ys j) (hx : xs.length = n) (hj : ¬ 2 * j + 1 < n) : ys = xs.reverse := by
  obtain ⟨hl, hg⟩ := h
  apply List.ext_getElem?
  intro k
  by_cases hk : k < n
  · have h1 := hg k hk
    have h2 : (if k < j ∨ n - 1 - k < j then xs.getD (n - 1 - k) 0 else xs.getD k 0) = xs.getD (n - 1 - k) 0 := by
      split
      · rfl
      · rw [show n - 1 - k = k by omega]
    rw [h2] at h1
    rw [List.getElem?_reverse (by omega), hx]
    have e1 : ys[k]? = some (ys.getD k 0) := by simp [show k < ys.length by omega]
    have e2 : xs[n - 1 - k]? = some (xs.getD (n - 1 - k) 0) := by simp [show n - 1 - k < xs.length by omega]
    rw [e1, e2, h1]
  · rw [List.getElem?_eq_none (by omega), List.getElem?_eq_none (by rw [List.length_reverse]; omega)]

set_option maxHeartbeats 3200000 in
theorem reverse_any (B g cap n : Nat) (xs : List Int) (W : World) (hs : SlAt W B g cap n xs) (hl : n ≤ 1000000) :
    Calls Try.prog 47 #[.slice (some ⟨g, 0, none⟩) n cap] W fun e w' => e = .returned (.tuple #[]) ∧ SlAt w' B g cap n xs.reverse ∧ Kp (fun b => b = g) W w' := by
  have n0 : (0 : Int) ≤ n := Int.natCast_nonneg _
  have wn : IntKind.i64.wrap ((n : Int) - 1) = (n : Int) - 1 := IntWalk.i64_in _ (by omega)
  have HS0 := Lib.hid hs
  have HL0 := Lib.hid hs.1
  have mixed : Try.prog.follows Departure.mixedOrders = true := by kernel_rfl
  clear hs
  go_enter Try.func47, Try.ntmps47
  go_wp2
  go_loopw [2, 3] (fun i z wr => ∃ (j : Nat) (ys : List Int), 2 * j ≤ n ∧ i = .int .i64 j ∧ z = .int .i64 ((n : Int) - 1 - j) ∧ SlAt wr B g cap n ys ∧ RevP n xs ys j ∧ Kp (fun b => b = g) W wr) (fun i _ _ => n - (intOf i).toNat)
  case atStart => exact ⟨0, xs, by omega, rfl, by simp, HS0.out, ⟨HL0.out, fun k hk => by rw [if_neg (by omega)]⟩, Kp.refl _ _⟩
  case round =>
    rename_i wr
    obtain ⟨j, ys, hj, rfl, rfl, hs, hr, hk⟩ := hrel
    have HS := Lib.hid hs
    have HR := Lib.hid hr
    have HK := Lib.hid hk
    have j0 : (0 : Int) ≤ j := Int.natCast_nonneg _
    by_cases hlt : 2 * j + 1 < n
    · obtain ⟨p, hp⟩ : ∃ p : Nat, p = n - 1 - j := ⟨_, rfl⟩
      have hp' : (n : Int) - 1 - j = (p : Int) := by omega
      have p0 : (0 : Int) ≤ p := Int.natCast_nonneg _
      have p1 : (p : Int) < n := by omega
      have j1 : (j : Int) < n := by omega
      have hjp : (j : Int) < (p : Int) := by omega
      have wj : IntKind.i64.wrap ((j : Int) + 1) = (j : Int) + 1 := IntWalk.i64_in _ (by omega)
      have wp : IntKind.i64.wrap ((p : Int) - 1) = (p : Int) - 1 := IntWalk.i64_in _ (by omega)
      have HPN := Lib.hid hp
      rw [hp']
      have cj := hs.cell j (by omega)
      have cp := hs.cell p (by omega)
      have fj := hs.frozen j
      have fp := hs.frozen p
      obtain ⟨x, hx⟩ : ∃ x, ys.getD j 0 = x := ⟨_, rfl⟩
      obtain ⟨y, hy⟩ : ∃ y, ys.getD p 0 = y := ⟨_, rfl⟩
      rw [hx] at cj
      rw [hy] at cp
      have hst := hr.step hlt
      rw [← hp, hx, hy] at hst
      have HST := Lib.hid hst
      have hne : j ≠ p := by omega
      have s2 := (hs.store j y).store p x
      have HS2 := Lib.hid s2
      have k2 := (hk.setCell (p := ⟨g, j, none⟩) (.inl rfl) (.int .i64 y)).setCell (p := ⟨g, p, none⟩) (.inl rfl) (.int .i64 x)
      have HK2 := Lib.hid k2
      clear hs hr hk hst s2 k2 hx hy hp hp'
      go_wp2_with fail
      go_region_o
      go_wp2
      go_roundw
      case rel => exact ⟨j + 1, _, by omega, by go_num, by have := HPN.out; congr 1; omega, HS2.out, HST.out, HK2.out.drew⟩
      case measure => simp [intOf] <;> omega
    · have hz : ¬ (j : Int) < (n : Int) - 1 - j := by omega
      have hall := Lib.hid (hr.all HL0.out hlt)
      clear hs hr hk
      go_wp2
      go_end0
      exact ⟨rfl, by rw [← hall.out]; exact HS.out, HK.out⟩
end Go.Proofs.Ytjlbillfbhkamaa
