/- The program's circle when two count: one goes, and then the one whom the other has chosen; the library's Reverse; no condition but that the circle has at most a thousand places and the step is at most a million. -/
import Derived.Test.YtcfghaeogbimeaaFwd
import Derived.Test.YtcfghaeogbimeaaAt
import Derived.Test.YtcfghaeogbimeaaPair
import Derived.Shelf.RegionOpenPlain
namespace Go.Proofs.Ytcfghaeogbimeaa
open Go.ChangeShapes Go.WideShapes Go.ChangeAt Go.RowKit

theorem fndD_none (x : Int) : ∀ (xs : List Int) (j : Nat), x ∉ xs → fndD x xs j = -1
  | [], _, _ => rfl
  | y :: r, j, h => by
    rw [fndD, if_neg (fun e => h (by rw [e]; exact List.mem_cons_self)), fndD_none x r (j + 1) (fun e => h (List.mem_cons_of_mem _ e))]
theorem fndD_first (x : Int) : ∀ (xs : List Int) (t j : Nat), t < xs.length → xs.getD t 0 = x → (∀ i, i < t → xs.getD i 0 ≠ x) → fndD x xs j = ((j + t : Nat) : Int)
  | [], t, _, h, _, _ => by simp at h
  | y :: r, 0, j, _, h, _ => by
    simp at h
    rw [fndD, if_pos h]; rfl
  | y :: r, t + 1, j, hl, h, hn => by
    have h0 := hn 0 (by omega)
    simp at h0
    rw [fndD, if_neg h0, fndD_first x r t (j + 1) (by simpa using hl) (by simpa using h) (fun i hi => by have := hn (i + 1) (by omega); simpa using this)]
    congr 1
    omega
theorem snd_getD (ps : List (Int × Int)) (j : Nat) : (ps.map (·.2)).getD j 0 = (ps.getD j (0, 0)).2 := by
  simp only [List.getD, List.getElem?_map]
  cases ps[j]? <;> rfl
theorem snd_erase (ps : List (Int × Int)) (j : Nat) : (ps.eraseIdx j).map (·.2) = (ps.map (·.2)).eraseIdx j := by
  apply List.ext_getElem?
  intro k
  rw [List.getElem?_map, List.getElem?_eraseIdx, List.getElem?_eraseIdx]
  split <;> rw [List.getElem?_map]

/-- a circle whose people have the numbers xs, the next turn counts from the index i on -/
def Cir (w : World) (C L cap : Nat) (xs : List Int) (i : Nat) (k : Int) : Prop :=
  ∃ ps q, Ci w C L cap ps q k ∧ ps.map (·.2) = xs ∧ Diff ps ∧ (0 < xs.length → i < xs.length ∧ ps.getD i (0, 0) = q)
theorem Cir.kp {w w' : World} {C L cap : Nat} {xs : List Int} {i : Nat} {k : Int} {S : Nat → Prop} (h : Cir w C L cap xs i k) (hk : Kp S w w') (h1 : ¬ S C) (h2 : ¬ S L) : Cir w' C L cap xs i k := by
  obtain ⟨ps, q, hC, hr⟩ := h
  exact ⟨ps, q, hC.kp hk h1 h2, hr⟩
theorem Cir.lt {w : World} {C L cap : Nat} {xs : List Int} {i : Nat} {k : Int} (h : Cir w C L cap xs i k) : C < w.heap.size ∧ L < w.heap.size := by
  obtain ⟨ps, q, hC, hr⟩ := h
  exact ⟨hC.lt, hC.2.lt⟩
theorem Cir.len {w : World} {C L cap : Nat} {xs : List Int} {i : Nat} {k : Int} (h : Cir w C L cap xs i k) : w.cell? ⟨C, 2, none⟩ = some (.slice (some ⟨L, 0, none⟩) xs.length cap) := by
  obtain ⟨ps, q, hC, rfl, _⟩ := h
  rw [List.length_map]
  exact hC.cells.2.2.1
theorem Cir.start {w : World} {C L : Nat} {xs : List Int} {k : Int} (h : Ci w C L xs.length (num xs) (0, xs.getD 0 0) k) : Cir w C L xs.length xs 0 k :=
  ⟨num xs, _, h, num_snd xs, num_diff xs, fun hp => ⟨hp, num_getD xs 0 hp⟩⟩

theorem cir_go (C L cap i : Nat) (xs : List Int) (k : Int) (W : World) (h : Cir W C L cap xs i k) (hp : 0 < xs.length) (k1 : 1 ≤ k) (k2 : k ≤ 1000000) :
    Calls Try.prog 44 #[.pointer (some ⟨C, 0, none⟩)] W fun e w' => ∃ u : Int, e = .returned (.agg #[.int .i64 u, .int .i64 (xs.getD (rj k i xs.length) 0)]) ∧ Cir w' C L cap (xs.eraseIdx (rj k i xs.length)) (rj k i xs.length % (xs.length - 1)) k ∧ Kp (fun b => b = C ∨ b = L) W w' := by
  obtain ⟨ps, q, hC, rfl, hd, hi⟩ := h
  obtain ⟨hi1, hi2⟩ := hi hp
  rw [List.length_map] at hp hi1 ⊢
  obtain ⟨j, hj⟩ : ∃ j, rj k i ps.length = j := ⟨_, rfl⟩
  have hjl : j < ps.length := by rw [← hj]; exact rj_lt _ _ _ hp
  rw [hj, snd_getD]
  by_cases h1 : ps.length = 1
  · obtain ⟨p, rfl⟩ := List.length_eq_one_iff.1 h1
    have e0 : i = 0 := by simpa using hi1
    subst e0
    have eq : p = q := by simpa using hi2
    subst eq
    have ej : j = 0 := by simpa using hjl
    subst ej
    refine (goForward_last C L cap p k W hC k1 k2).mono fun e w' ⟨he, hC', hk⟩ => ⟨p.1, he, ⟨[], p, hC', rfl, fun a b _ h => by simp at h, fun h => by simp at h⟩, hk⟩
  · obtain ⟨m, hm⟩ : ∃ m, ps.length = m + 1 := ⟨ps.length - 1, by omega⟩
    have hJ := emod_add_place i ps.length k (by omega)
    have hJ' : (i + place k ps.length) % ps.length = j := hj
    rw [hJ'] at hJ
    refine (goForward_any C L cap i m j (j % m) ps _ q _ k W hC hm (by omega) (by omega) hi2 hd k1 k2 (by rw [hJ, hm]; simp) rfl (Int.natCast_emod _ m).symm rfl).mono fun e w' ⟨he, hC', hk⟩ => ⟨_, he, ⟨_, _, hC', snd_erase ps j, hd.erase _, fun _ => ⟨?_, ?_⟩⟩, hk⟩
    · rw [List.length_eraseIdx, List.length_map, if_pos hjl, hm]
      exact Nat.mod_lt _ (by omega)
    · rw [hm]; rfl

/-- what letGo does, whatever the next one is -/
theorem cir_let (C L cap t nx : Nat) (ps : List (Int × Int)) (q : Int × Int) (k : Int) (w : World) (hC : Ci w C L cap ps q k) (ht : t < ps.length) (hd : Diff ps) (hn : nx ≤ 1000000) :
    Calls Try.prog 48 #[.pointer (some ⟨C, 0, none⟩), .int .i64 t, .int .i64 nx] w fun e w' => (∃ a b : Int, e = .returned (.agg #[.int .i64 a, .int .i64 b])) ∧ Cir w' C L cap ((ps.map (·.2)).eraseIdx t) (nx % (ps.length - 1)) k ∧ Kp (fun b => b = C ∨ b = L) w w' := by
  obtain ⟨m, hm⟩ : ∃ m, ps.length = m + 1 := ⟨ps.length - 1, by omega⟩
  have hel : (ps.eraseIdx t).length = m := by rw [List.length_eraseIdx, if_pos ht, hm]; rfl
  by_cases m0 : m = 0
  · have e1 : ps.length = 1 := by omega
    obtain ⟨p', rfl⟩ := List.length_eq_one_iff.1 e1
    have et : t = 0 := by simpa using ht
    subst et
    exact (letGo_last C L cap (nx : Int) p' q k w hC).mono fun e w' ⟨he, hC', hk⟩ => ⟨⟨_, _, he⟩, ⟨[], q, hC', rfl, fun a b _ h => by simp at h, fun h => by simp at h⟩, hk⟩
  · refine (letGo_any C L cap t m (nx % m) (nx : Int) ps _ q _ k w hC hm (by omega) rfl (by omega) (by omega) (by omega) (Int.natCast_emod _ m).symm rfl).mono fun e w' ⟨he, hC', hk⟩ => ⟨⟨_, _, he⟩, ⟨_, _, hC', snd_erase ps t, hd.erase _, fun _ => ⟨?_, ?_⟩⟩, hk⟩
    · rw [← snd_erase, List.length_map, hel, hm]
      exact Nat.mod_lt _ (by omega)
    · rw [hm]; rfl

/-- a list of which the first j and the last j are exchanged -/
def RevP (n : Nat) (xs ys : List Int) (j : Nat) : Prop := ys.length = n ∧ ∀ k, k < n → ys.getD k 0 = if k < j ∨ n - 1 - k < j then xs.getD (n - 1 - k) 0 else xs.getD k 0
theorem getD_set (ys : List Int) (i k : Nat) (a : Int) : (ys.set i a).getD k 0 = if i = k ∧ k < ys.length then a else ys.getD k 0 := by
  simp only [List.getD, List.getElem?_set]
  by_cases e : i = k
  · subst e
    by_cases h : i < ys.length
    · rw [if_pos rfl, if_pos h, if_pos ⟨rfl, h⟩]; rfl
    · rw [if_pos rfl, if_neg h, if_neg (fun x => h x.2), List.getElem?_eq_none (by omega)]
  · rw [if_neg e, if_neg (fun x => e x.1)]
theorem RevP.step {n : Nat} {xs ys : List Int} {j : Nat} (h : RevP n xs ys j) (hj : 2 * j + 1 < n) : RevP n xs ((ys.set j (ys.getD (n - 1 - j) 0)).set (n - 1 - j) (ys.getD j 0)) (j + 1) := by
  obtain ⟨hl, hg⟩ := h
  refine ⟨by simp [hl], fun k hk => ?_⟩
  rw [getD_set, getD_set, List.length_set, hl]
  by_cases e1 : n - 1 - j = k
  · rw [if_pos ⟨e1, hk⟩, hg j (by omega), if_neg (by omega), if_pos (by omega)]
    congr 1
    omega
  · rw [if_neg (fun x => e1 x.1)]
    by_cases e2 : j = k
    · rw [if_pos ⟨e2, hk⟩, hg (n - 1 - j) (by omega), if_neg (by omega), if_pos (by omega)]
      congr 1
      omega
    · rw [if_neg (fun x => e2 x.1), hg k hk]
      by_cases e3 : k < j ∨ n - 1 - k < j
      · rw [if_pos e3, if_pos (by omega)]
      · rw [if_neg e3, if_neg (by omega)]
theorem RevP.all {n : Nat} {xs ys : List Int} {j : Nat} (h : RevP n xs ys j) (hx : xs.length = n) (hj : ¬ 2 * j + 1 < n) : ys = xs.reverse := by
  obtain ⟨hl, hg⟩ := h
  apply List.ext_getElem?
  intro k
  by_cases hk : k < n
  · have h1 := hg k hk
    have h2 : (if k < j ∨ n - 1 - k < j then xs.getD (n - 1 - k) 0 else xs.getD k 0) = xs.getD (n - 1 - k) 0 := by
      split
      · rfl
      · rw [show n - 1 - k = k by omega]
    rw [h2] at h1
    rw [List.getElem?_reverse (by omega), hx]
    have e1 : ys[k]? = some (ys.getD k 0) := by simp [show k < ys.length by omega]
    have e2 : xs[n - 1 - k]? = some (xs.getD (n - 1 - k) 0) := by simp [show n - 1 - k < xs.length by omega]
    rw [e1, e2, h1]
  · rw [List.getElem?_eq_none (by omega), List.getElem?_eq_none (by rw [List.length_reverse]; omega)]

end Go.Proofs.Ytcfghaeogbimeaa
