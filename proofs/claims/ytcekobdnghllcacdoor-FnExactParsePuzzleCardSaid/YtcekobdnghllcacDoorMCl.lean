/- The texts Clu, Puz, CluM, PzA, as one. -/
import Derived.Test.YtcekobdnghllcacDoorLaws
import Derived.Test.YtcekobdnghllcacDoorMakeC
import Derived.Laws.StructEq
import Derived.Test.YtcekobdnghllcacDoorSong
import Derived.Lib.SmallJoins
import Derived.Carry
import Derived.ChangeSlices
import Derived.ChangeSame
import Derived.Deep.Slices
import Derived.Test.YtcekobdnghllcacDoorLow
namespace Go.Proofs.YtcekobdnghllcacDoor
open Go.ChangeShapes Go.WideShapes Go.ChangeAt Go.RowKit

/-- a clue: its kind and two numbers -/
abbrev Cu := Int × Int × Int
/-- clues as numbers, one behind the other -/
def f3 : List Cu → List Int
  | [] => []
  | p :: r => p.1 :: p.2.1 :: p.2.2 :: f3 r
theorem f3_length : ∀ ps : List Cu, (f3 ps).length = ps.length * 3
  | [] => rfl
  | _ :: r => by simp [f3, f3_length r]; omega
theorem f3_append : ∀ ps qs : List Cu, f3 (ps ++ qs) = f3 ps ++ f3 qs
  | [], _ => rfl
  | _ :: r, qs => by simp [f3, f3_append r qs]
theorem f3_take : ∀ (ps : List Cu) (n : Nat), f3 (ps.take n) = (f3 ps).take (n * 3)
  | [], n => by simp [f3]
  | p :: r, 0 => by simp [f3]
  | p :: r, n + 1 => by
    rw [List.take_succ_cons, f3, f3, f3_take r n, show (n + 1) * 3 = n * 3 + 1 + 1 + 1 by omega, List.take_succ_cons, List.take_succ_cons, List.take_succ_cons]
theorem f3_drop : ∀ (ps : List Cu) (n : Nat), f3 (ps.drop n) = (f3 ps).drop (n * 3)
  | [], n => by simp [f3]
  | p :: r, 0 => by simp [f3]
  | p :: r, n + 1 => by
    rw [List.drop_succ_cons, f3_drop r n, f3, show (n + 1) * 3 = n * 3 + 1 + 1 + 1 by omega, List.drop_succ_cons, List.drop_succ_cons, List.drop_succ_cons]
theorem f3_get : ∀ (ps : List Cu) (j : Nat), j < ps.length → (f3 ps)[j * 3]? = some (ps.getD j (0, 0, 0)).1 ∧ (f3 ps)[j * 3 + 1]? = some (ps.getD j (0, 0, 0)).2.1 ∧ (f3 ps)[j * 3 + 2]? = some (ps.getD j (0, 0, 0)).2.2
  | [], j, h => by simp at h
  | p :: r, 0, _ => by simp [f3]
  | p :: r, j + 1, h => by
    have := f3_get r j (by simpa using h)
    rw [show (j + 1) * 3 = j * 3 + 1 + 1 + 1 by omega]
    simpa [f3] using this
theorem f3_set : ∀ (ps : List Cu) (j : Nat) (p : Cu), f3 (ps.set j p) = (((f3 ps).set (j * 3) p.1).set (j * 3 + 1) p.2.1).set (j * 3 + 2) p.2.2
  | [], j, p => by simp [f3]
  | q :: r, 0, p => by simp [f3]
  | q :: r, j + 1, p => by
    rw [List.set_cons_succ, f3, f3, f3_set r j p, show (j + 1) * 3 = j * 3 + 1 + 1 + 1 by omega]
    simp
theorem f3_rep : ∀ n : Nat, f3 (List.replicate n (0, 0, 0)) = List.replicate (n * 3) 0
  | 0 => rfl
  | n + 1 => by rw [List.replicate_succ, f3, f3_rep n, show (n + 1) * 3 = n * 3 + 1 + 1 + 1 by omega, List.replicate_succ, List.replicate_succ, List.replicate_succ]
/-- the numbers' values -/
def cv (ps : List Cu) : List Value := (f3 ps).map (Value.int .i64)
theorem cv_length (ps : List Cu) : (cv ps).length = ps.length * 3 := by simp [cv, f3_length]
theorem cv_get (ps : List Cu) (j : Nat) (h : j < ps.length) : (cv ps)[j * 3]? = some (.int .i64 (ps.getD j (0, 0, 0)).1) ∧ (cv ps)[j * 3 + 1]? = some (.int .i64 (ps.getD j (0, 0, 0)).2.1) ∧ (cv ps)[j * 3 + 2]? = some (.int .i64 (ps.getD j (0, 0, 0)).2.2) := by
  obtain ⟨h0, h1, h2⟩ := f3_get ps j h
  simp [cv, h0, h1, h2]
theorem cv_append (ps qs : List Cu) : cv (ps ++ qs) = cv ps ++ cv qs := by simp [cv, f3_append]
theorem cv_set (ps : List Cu) (j : Nat) (p : Cu) : cv (ps.set j p) = (((cv ps).set (j * 3) (.int .i64 p.1)).set (j * 3 + 1) (.int .i64 p.2.1)).set (j * 3 + 2) (.int .i64 p.2.2) := by
  simp [cv, f3_set, List.map_set]
theorem made_three (n : Nat) : (madeCells #[Value.int .i64 0, Value.int .i64 0, Value.int .i64 0] (n * 3)).toList = cv (List.replicate n (0, 0, 0)) := by
  unfold cv
  rw [f3_rep]
  apply List.ext_getElem?
  intro j
  by_cases hj : j < n * 3
  · have h2 : j % 3 = 0 ∨ j % 3 = 1 ∨ j % 3 = 2 := by omega
    rcases h2 with h2 | h2 | h2 <;> simp [madeCells, hj, h2]
  · simp [madeCells, hj]

/-- a clue's cells at an address -/
def At3 (w : World) (g o : Nat) (p : Cu) : Prop := w.cell? ⟨g, o, none⟩ = some (.int .i64 p.1) ∧ w.cell? ⟨g, o + 1, none⟩ = some (.int .i64 p.2.1) ∧ w.cell? ⟨g, o + 2, none⟩ = some (.int .i64 p.2.2)
/-- A slice value that reads, in a world, as a list of clues. -/
def RdC (w : World) (v : Value) (ps : List Cu) : Prop :=
  ∃ (A : Option Addr) (c : Nat), v = .slice A ps.length c ∧ ∀ k, k < ps.length → ∃ g o, A = some ⟨g, o, none⟩ ∧ At3 w g (o + k * 3) (ps.getD k (0, 0, 0))
theorem At3.kp {S : Nat → Prop} {w w' : World} {g o : Nat} {p : Cu} (h : At3 w g o p) (hk : Kp S w w') (hs : ¬ S g) : At3 w' g o p :=
  ⟨keepc hk h.1 hs, keepc hk h.2.1 hs, keepc hk h.2.2 hs⟩
theorem RdC.nw {w w' : World} {v : Value} {ps : List Cu} (h : RdC w v ps) (hk : Kp Nw w w') : RdC w' v ps := by
  obtain ⟨A, c, rfl, hA⟩ := h
  exact ⟨A, c, rfl, fun k hlt => by obtain ⟨g, o, e, h⟩ := hA k hlt; exact ⟨g, o, e, h.kp hk (fun h => h)⟩⟩

/-- a slice value at the head of a row of clues of its own, from block B on -/
def Co (w : World) (B : Nat) (v : Value) (ps : List Cu) : Prop := w.ownsRow B 40 3 v ps.length (cv ps)
theorem Co.kp {w w' : World} {B : Nat} {v : Value} {xs : List Cu} {S : Nat → Prop} (h : Co w B v xs) (hk : Kp S w w') (hs : ∀ g, v.ownBlock = some g → ¬ S g) : Co w' B v xs := by
  refine ⟨h.1, ?_⟩
  rcases h.2 with hn | ⟨g, cap, cur, rfl, hb, hgg, rest⟩
  · exact .inl hn
  · exact .inr ⟨g, cap, cur, rfl, hb, (hk.block g (Array.getElem?_eq_some_iff.1 hgg).1 (hs g rfl)).trans hgg, rest⟩
theorem Co.nw {w w' : World} {B : Nat} {v : Value} {xs : List Cu} (h : Co w B v xs) (hk : Kp Nw w w') : Co w' B v xs := h.kp hk (fun _ _ h => h)
theorem Co.below {w w' : World} {B : Nat} {v : Value} {xs : List Cu} (h : Co w B v xs) (hk : Below w.heap.size w w') : Co w' B v xs :=
  h.kp (S := fun _ => False) (.of_below hk) (fun _ _ hs => hs)
theorem Co.nil (w : World) (B : Nat) : Co w B (.slice none 0 0) [] := World.ownsRow_nil _ _ _ _
theorem Co.own_ge {w : World} {B : Nat} {v : Value} {xs : List Cu} (h : Co w B v xs) : ∀ g, v.ownBlock = some g → B ≤ g ∧ g < w.heap.size := World.ownsRow.lt h
theorem Co.from {w : World} {B B' : Nat} {v : Value} {xs : List Cu} (h : Co w B v xs) (hB : B' ≤ B) : Co w B' v xs := by
  refine ⟨h.1, ?_⟩
  rcases h.2 with hn | ⟨g, cap, cur, rfl, hb, rest⟩
  · exact .inl hn
  · exact .inr ⟨g, cap, cur, rfl, by omega, rest⟩
theorem Co.val {w : World} {B : Nat} {v : Value} {xs : List Cu} (h : Co w B v xs) {n : Nat} (hn : xs.length = n) : ∃ A c, v = .slice A n c := by
  subst hn
  rcases h.2 with ⟨rfl, h0⟩ | ⟨g, cap, cur, rfl, _⟩
  · exact ⟨none, 0, by rw [h0]⟩
  · exact ⟨_, cap, rfl⟩
/-- the row at an address and a capacity that are known -/
def ClAt (w : World) (B g cap n : Nat) (ps : List Cu) : Prop := ps.length = n ∧ w.ownsRow B 40 3 (.slice (some ⟨g, 0, none⟩) n cap) n (cv ps)
theorem ClAt.at3 {w : World} {B g cap n : Nat} {ps : List Cu} (h : ClAt w B g cap n ps) (j : Nat) (hj : j < n) : At3 w g (j * 3) (ps.getD j (0, 0, 0)) := by
  have hl : j < ps.length := by rw [h.1]; exact hj
  obtain ⟨h0, h1, h2⟩ := cv_get ps j hl
  refine ⟨?_, ?_, ?_⟩
  · rw [World.ownsRow.cellAt h.2 (j * 3) (by omega)]; exact h0
  · rw [World.ownsRow.cellAt h.2 (j * 3 + 1) (by omega)]; exact h1
  · rw [World.ownsRow.cellAt h.2 (j * 3 + 2) (by omega)]; exact h2
theorem ClAt.frozen {w : World} {B g cap n : Nat} {ps : List Cu} (h : ClAt w B g cap n ps) (j : Nat) : w.frozen? ⟨g, j, none⟩ = false := World.ownsRow.frozenAt h.2 j
theorem ClAt.co {w : World} {B g cap n : Nat} {ps : List Cu} (h : ClAt w B g cap n ps) : Co w B (.slice (some ⟨g, 0, none⟩) n cap) ps := by
  obtain ⟨rfl, h2⟩ := h
  exact h2
theorem Co.rd {w : World} {B : Nat} {v : Value} {ps : List Cu} (h : Co w B v ps) : RdC w v ps := by
  rcases h.2 with ⟨rfl, hn⟩ | ⟨g, cap, cur, rfl, _, hg, _⟩
  · exact ⟨none, 0, by rw [hn], fun k hk => by omega⟩
  · refine ⟨_, cap, rfl, fun k hk => ⟨g, 0, rfl, ?_⟩⟩
    rw [Nat.zero_add]
    exact ClAt.at3 (cap := cap) (B := B) ⟨rfl, h⟩ k hk
theorem ClAt.store {w : World} {B g cap n : Nat} {ps : List Cu} (h : ClAt w B g cap n ps) (j : Nat) (p : Cu) :
    ClAt (((w.setCell ⟨g, j * 3, none⟩ (.int .i64 p.1)).setCell ⟨g, j * 3 + 1, none⟩ (.int .i64 p.2.1)).setCell ⟨g, j * 3 + 2, none⟩ (.int .i64 p.2.2)) B g cap n (ps.set j p) :=
  ⟨by rw [List.length_set]; exact h.1, by
    rw [cv_set]
    exact (World.ownsRow.stored (World.ownsRow.stored (World.ownsRow.stored h.2 (j * 3) (.int .i64 p.1)).1 (j * 3 + 1) (.int .i64 p.2.1)).1 (j * 3 + 2) (.int .i64 p.2.2)).1⟩
theorem ClAt.kq {w w' : World} {B g cap n : Nat} {ps : List Cu} {S : Nat → Prop} (h : ClAt w B g cap n ps) (hk : Kp S w w') (hs : ¬ S g) : ClAt w' B g cap n ps := by
  have h1 := h.co.kp hk (fun g' e => by
    have e' : g' = g := by simp [Value.ownBlock] at e; omega
    rw [e']; exact hs)
  refine ⟨h.1, ?_⟩
  unfold Co at h1
  rw [h.1] at h1
  exact h1

theorem clueInfo : (Tryd.prog.info? 40).map (fun i => (i.zero, i.size, i.bytes)) = some (some (.agg #[.int .i64 0, .int .i64 0, .int .i64 0]), 3, 24) := by kernel_rfl
theorem Co.made {w : World} {B g n : Nat} (h : w.ownsRow B 40 3 (.slice (some ⟨g, 0, none⟩) n n) n (madeCells #[Value.int .i64 0, Value.int .i64 0, Value.int .i64 0] (n * 3)).toList) : ClAt w B g n n (List.replicate n (0, 0, 0)) := by
  rw [made_three] at h
  exact ⟨by simp, h⟩

set_option maxRecDepth 100000 in
theorem run_clu (w : World) (ty : TypeId) (B g : Nat) (v : Value) (xs : List Cu) (p : Cu) (hv : Co w B v xs) (h : At3 w g 0 p)
    (hl : xs.length ≤ 1000000) (hB : B ≤ w.heap.size) :
    ∃ v' w', (Builtin.append_ #[22, 22] ty #[v, .slice (some ⟨g, 0, none⟩) 1 1]).run Tryd.prog w = .ok v' w' ∧ Co w' B v' (xs ++ [p]) ∧ Kp (fun b => v.ownBlock = some b) w w' ∧ (v'.ownBlock = v.ownBlock ∨ v'.ownBlock = some w.heap.size) := by
  obtain ⟨i0, hi0, hz0, hz1, hz2⟩ := info_parts clueInfo
  obtain ⟨h0, h1, h2⟩ := h
  obtain ⟨v', w', hr, h2, h3, _, h5⟩ := run_append_own_at (P := Tryd.prog) w B 22 ty 40 i0 _ 3 24 Tryd.underlying22 hi0 hz0 hz1 hz2 rfl (by omega) v xs.length _ hv ⟨g, 0, none⟩ 1 1 [.int .i64 p.1, .int .i64 p.2.1, .int .i64 p.2.2] rfl
    (fun j u hj => by
      rw [addr_add, Nat.zero_add]
      rcases j with _ | _ | _ | j
      · simp at hj; subst hj; exact h0
      · simp at hj; subst hj; exact h1
      · simp at hj; subst hj; exact h2
      · simp at hj) (fun u hu => by simp at hu; rcases hu with rfl | rfl | rfl <;> rfl) (by unfold maxLen; omega) (by omega) hB
  refine ⟨v', w', hr, ?_, ⟨h3.os, h3.tape, h3.output, h3.size, fun k hk hs => h3.block k hk (fun e => hs e.symm)⟩, h5⟩
  unfold Co
  rw [List.length_append, cv_append]
  exact h2

set_option maxHeartbeats 800000 in
theorem eqClue_same (p : Cu) (W : World) : Calls Tryd.prog 24 #[.agg #[.int .i64 p.1, .int .i64 p.2.1, .int .i64 p.2.2], .agg #[.int .i64 p.1, .int .i64 p.2.1, .int .i64 p.2.2]] W fun e w' => e = .returned (.bool true) ∧ Kp Nw W w' := by
  obtain ⟨a, b, c⟩ := p
  simp only
  go_enter Tryd.func24, Tryd.ntmps24
  go_wp2
  go_ret
  exact ⟨rfl, (Kp.al _ _).nw (.al _ _)⟩

set_option maxRecDepth 100000 in
set_option maxHeartbeats 1600000 in
theorem eqClueS_same (u v : Value) (ps : List Cu) (w : World) (hu : RdC w u ps) (hv : RdC w v ps) (hl : ps.length ≤ maxLen) :
    Calls Tryd.prog 13 #[u, v] w fun e w' => e = .returned (.bool true) ∧ Kp Nw w w' := by
  obtain ⟨A, c, rfl, hA⟩ := hu
  obtain ⟨A', c', rfl, hA'⟩ := hv
  unfold maxLen at hl
  have HA := Lib.hid hA
  have HA' := Lib.hid hA'
  obtain ⟨n, hn⟩ : ∃ n, ps.length = n := ⟨_, rfl⟩
  rw [hn] at hl ⊢
  have HN := Lib.hid hn
  clear hA hA' hn
  go_enter Tryd.func13, Tryd.ntmps13
  go_wp2
  go_loopw [5] (fun i wr => ∃ k : Nat, k ≤ n ∧ i = .int .i64 k ∧ Kp Nw w wr) (fun i _ => n - (intOf i).toNat)
  case atStart => exact ⟨0, Nat.zero_le _, rfl, Kp.refl _ _⟩
  case round =>
    rename_i wr
    obtain ⟨k, hk, rfl, hkw⟩ := hrel
    have HK := Lib.hid hkw
    by_cases hlt : k < n
    · obtain ⟨g, o, rfl, hc⟩ := HA.out k (by rw [HN.out]; exact hlt)
      obtain ⟨g', o', rfl, hc'⟩ := HA'.out k (by rw [HN.out]; exact hlt)
      obtain ⟨p, hp⟩ : ∃ p, ps.getD k (0, 0, 0) = p := ⟨_, rfl⟩
      rw [hp] at hc hc'
      have H1 := Lib.hid (hc.kp hkw (fun h => h))
      have H2 := Lib.hid (hc'.kp hkw (fun h => h))
      obtain ⟨a0, a1, a2⟩ := H1.out
      obtain ⟨b0, b1, b2⟩ := H2.out
      have h0 : (0 : Int) ≤ k := Int.natCast_nonneg _
      have h1 : (k : Int) < n := by omega
      clear hc hc' hp hkw
      go_wp2_with fail
      go_region_held3 (fun w' => Kp Nw wr w' ∧ w'.cell? ⟨g, o + k * 3, none⟩ = some (.int .i64 p.1) ∧ w'.cell? ⟨g, o + k * 3 + 1, none⟩ = some (.int .i64 p.2.1) ∧ w'.cell? ⟨g, o + k * 3 + 2, none⟩ = some (.int .i64 p.2.2) ∧ w'.cell? ⟨g', o' + k * 3, none⟩ = some (.int .i64 p.1) ∧ w'.cell? ⟨g', o' + k * 3 + 1, none⟩ = some (.int .i64 p.2.1) ∧ w'.cell? ⟨g', o' + k * 3 + 2, none⟩ = some (.int .i64 p.2.2))
        (first
          | exact ⟨(Kp.refl _ _).drew, H1.out.1, H1.out.2.1, H1.out.2.2, H2.out.1, H2.out.2.1, H2.out.2.2⟩
          | exact ⟨hkW1, (H1.out.kp hkW1 (fun h => h)).1, (H1.out.kp hkW1 (fun h => h)).2.1, (H1.out.kp hkW1 (fun h => h)).2.2, (H2.out.kp hkW1 (fun h => h)).1, (H2.out.kp hkW1 (fun h => h)).2.1, (H2.out.kp hkW1 (fun h => h)).2.2⟩
          | fail)
        (first
          | (go_at_call 24
             refine (eqClue_same p _).mono ?_
             rintro e w1 ⟨rfl, hk1⟩
             have hkW1 := (‹Kp Nw wr _ ∧ _›.1).nw hk1)
          | fail)
      all_goals
        have HK1 := Lib.hid (HK.out.nw hkW1)
        clear hkW1 hk1
        go_wp2
        go_roundw
        case rel => exact ⟨k + 1, by omega, by go_num, HK1.out⟩
        case measure => simp [intOf]; omega
    · clear hkw
      go_wp2
      go_ret
      exact ⟨rfl, HK.out⟩

/-- what the laws' copy of clues returns -/
def CluCopy (W : World) (n : Nat) (ps : List Cu) (e : Ending) (w' : World) : Prop := ∃ g, e = .returned (.slice (some ⟨g, 0, none⟩) n n) ∧ ClAt w' W.heap.size g n n ps ∧ Kp Nw W w' ∧ W.heap.size ≤ g ∧ g < w'.heap.size

/-- a slice value over the head of a block that may be longer, from block B on: the cells there are those of the clues -/
def Cl (w : World) (B : Nat) (v : Value) (ps : List Cu) : Prop := (v = .slice none 0 0 ∧ ps = []) ∨
  ∃ g cap cur t, v = .slice (some ⟨g, 0, none⟩) ps.length cap ∧ B ≤ g ∧ w.heap[g]? = some (.cells cur t (0, 0)) ∧ cur.toList.take (ps.length * 3) = cv ps
theorem Cl.nil (w : World) (B : Nat) : Cl w B (.slice none 0 0) [] := .inl ⟨rfl, rfl⟩
theorem cl_cell {w : World} {g : Nat} {cur : Array Value} {t : TypeId} {xs : List Value} (hb : w.heap[g]? = some (.cells cur t (0, 0))) (ht : cur.toList.take xs.length = xs) (k : Nat) (hk : k < xs.length) : w.cell? ⟨g, k, none⟩ = xs[k]? := by
  rw [cell_of_row w g k _ _ _ hb, ← Array.getElem?_toList, ← List.getElem?_take_of_lt hk, ht]
theorem cl_store {w : World} {g j : Nat} {cur : Array Value} {t : TypeId} {xs : List Value} (hb : w.heap[g]? = some (.cells cur t (0, 0))) (ht : cur.toList.take xs.length = xs) (u : Value) :
    ∃ cur', (w.setCell ⟨g, j, none⟩ u).heap[g]? = some (.cells cur' t (0, 0)) ∧ cur'.toList.take (xs.set j u).length = xs.set j u := by
  refine ⟨_, heap_setCell_same w g j _ _ u hb, ?_⟩
  rw [Array.toList_setIfInBounds, List.length_set, List.take_set, ht]
theorem cl_at3 {w : World} {g : Nat} {cur : Array Value} {t : TypeId} {ps : List Cu} (hb : w.heap[g]? = some (.cells cur t (0, 0))) (ht : cur.toList.take (ps.length * 3) = cv ps) (j : Nat) (hl : j < ps.length) : At3 w g (j * 3) (ps.getD j (0, 0, 0)) := by
  obtain ⟨h0, h1, h2⟩ := cv_get ps j hl
  rw [← cv_length] at ht
  have hcl := cv_length ps
  refine ⟨?_, ?_, ?_⟩
  · rw [cl_cell hb ht _ (by omega)]; exact h0
  · rw [cl_cell hb ht _ (by omega)]; exact h1
  · rw [cl_cell hb ht _ (by omega)]; exact h2
theorem cl_store3 {w : World} {g : Nat} {cur : Array Value} {t : TypeId} {ps : List Cu} (hb : w.heap[g]? = some (.cells cur t (0, 0))) (ht : cur.toList.take (ps.length * 3) = cv ps) (j : Nat) (p : Cu) :
    ∃ cur', (((w.setCell ⟨g, j * 3, none⟩ (.int .i64 p.1)).setCell ⟨g, j * 3 + 1, none⟩ (.int .i64 p.2.1)).setCell ⟨g, j * 3 + 2, none⟩ (.int .i64 p.2.2)).heap[g]? = some (.cells cur' t (0, 0)) ∧ cur'.toList.take ((ps.set j p).length * 3) = cv (ps.set j p) := by
  rw [← cv_length] at ht
  obtain ⟨c1, hb1, ht1⟩ := cl_store (j := j * 3) hb ht (.int .i64 p.1)
  obtain ⟨c2, hb2, ht2⟩ := cl_store (j := j * 3 + 1) hb1 ht1 (.int .i64 p.2.1)
  obtain ⟨c3, hb3, ht3⟩ := cl_store (j := j * 3 + 2) hb2 ht2 (.int .i64 p.2.2)
  refine ⟨c3, hb3, ?_⟩
  rw [cv_set, ← ht3]
  congr 1
  simp [cv_length]
theorem Cl.kp {w w' : World} {B : Nat} {v : Value} {xs : List Cu} {S : Nat → Prop} (h : Cl w B v xs) (hk : Kp S w w') (hs : ∀ g, v.ownBlock = some g → ¬ S g) : Cl w' B v xs := by
  rcases h with h | ⟨g, cap, cur, t, rfl, hB, hb, ht⟩
  · exact .inl h
  · exact .inr ⟨g, cap, cur, t, rfl, hB, (hk.block g (Array.getElem?_eq_some_iff.1 hb).1 (hs g rfl)).trans hb, ht⟩
theorem Cl.nw {w w' : World} {B : Nat} {v : Value} {xs : List Cu} (h : Cl w B v xs) (hk : Kp Nw w w') : Cl w' B v xs := h.kp hk (fun _ _ h => h)
theorem Cl.below {w w' : World} {B : Nat} {v : Value} {xs : List Cu} (h : Cl w B v xs) (hk : Below w.heap.size w w') : Cl w' B v xs :=
  h.kp (S := fun _ => False) (.of_below hk) (fun _ _ hs => hs)
theorem Cl.form {w : World} {B : Nat} {v : Value} {xs : List Cu} (h : Cl w B v xs) :
    (v = .slice none 0 0 ∧ xs = []) ∨ ∃ g cap, v = .slice (some ⟨g, 0, none⟩) xs.length cap ∧ B ≤ g ∧ g < w.heap.size := by
  rcases h with h | ⟨g, cap, cur, t, rfl, hb, hg, _⟩
  · exact .inl h
  · exact .inr ⟨g, cap, rfl, hb, (Array.getElem?_eq_some_iff.1 hg).1⟩
theorem Cl.own_ge {w : World} {B : Nat} {v : Value} {xs : List Cu} (h : Cl w B v xs) : ∀ g, v.ownBlock = some g → B ≤ g ∧ g < w.heap.size := by
  intro g' hg
  rcases h.form with ⟨rfl, rfl⟩ | ⟨g, cap, rfl, hB, hb⟩
  · simp [Value.ownBlock] at hg
  · have e : g' = g := by simp [Value.ownBlock] at hg; omega
    rw [e]
    exact ⟨hB, hb⟩
theorem Cl.from {w : World} {B B' : Nat} {v : Value} {xs : List Cu} (h : Cl w B v xs) (hB : B' ≤ B) : Cl w B' v xs := by
  rcases h with h | ⟨g, cap, cur, t, rfl, hb, r⟩
  · exact .inl h
  · exact .inr ⟨g, cap, cur, t, rfl, by omega, r⟩
theorem Cl.val {w : World} {B : Nat} {v : Value} {xs : List Cu} (h : Cl w B v xs) {n : Nat} (hn : xs.length = n) : ∃ A c, v = .slice A n c := by
  subst hn
  rcases h with ⟨rfl, rfl⟩ | ⟨g, cap, cur, t, rfl, _⟩
  · exact ⟨none, 0, rfl⟩
  · exact ⟨_, cap, rfl⟩
theorem Cl.rd {w : World} {B : Nat} {v : Value} {ps : List Cu} (h : Cl w B v ps) : RdC w v ps := by
  rcases h with ⟨rfl, rfl⟩ | ⟨g, cap, cur, t, rfl, _, hb, ht⟩
  · exact ⟨none, 0, rfl, fun k hk => by simp at hk⟩
  · refine ⟨_, cap, rfl, fun k hk => ⟨g, 0, rfl, ?_⟩⟩
    rw [Nat.zero_add]
    exact cl_at3 hb ht k hk
theorem Co.cl {w : World} {B : Nat} {v : Value} {ps : List Cu} (h : Co w B v ps) : Cl w B v ps := by
  rcases h.2 with ⟨rfl, h0⟩ | ⟨g, cap, cur, rfl, hB, hb, _, _, _, ht⟩
  · exact .inl ⟨rfl, List.eq_nil_of_length_eq_zero h0⟩
  · exact .inr ⟨g, cap, cur, _, rfl, hB, hb, ht⟩
theorem ClAt.cl {w : World} {B g cap n : Nat} {ps : List Cu} (h : ClAt w B g cap n ps) : Cl w B (.slice (some ⟨g, 0, none⟩) n cap) ps := h.co.cl
/-- the head of such a row -/
theorem Cl.take {w : World} {B : Nat} {g n c : Nat} {ps : List Cu} (h : Cl w B (.slice (some ⟨g, 0, none⟩) n c) ps) (k c' : Nat) (hk : k ≤ n) : Cl w B (.slice (some ⟨g, 0, none⟩) k c') (ps.take k) := by
  rcases h with ⟨h, _⟩ | ⟨g', cap, cur, t, hv, hB, hb, ht⟩
  · cases h
  · injection hv with e1 e2 e3
    injection e1 with e1
    injection e1 with e1
    subst e1 e2
    refine .inr ⟨g, c', cur, t, by rw [List.length_take, Nat.min_eq_left hk], hB, hb, ?_⟩
    rw [List.length_take, Nat.min_eq_left hk]
    unfold cv at ht ⊢
    rw [f3_take, List.map_take, ← ht, List.take_take, Nat.min_eq_left (by omega)]

/-- marks on clues -/
def ms (k : Int) (n : Nat) : List Cu := (List.range n).map fun i : Nat => (k + 3 * (i : Int), k + 3 * (i : Int) + 1, k + 3 * (i : Int) + 2)
theorem ms_length (k : Int) (n : Nat) : (ms k n).length = n := by simp [ms]
theorem ms_getD (k : Int) (n j : Nat) (h : j < n) : (ms k n).getD j (0, 0, 0) = (k + 3 * (j : Int), k + 3 * (j : Int) + 1, k + 3 * (j : Int) + 2) := by simp [ms, h]
theorem ms_step (k : Int) (xs : List Cu) (j : Nat) (h : j < xs.length) : (ms k j ++ xs.drop j).set j (k + 3 * (j : Int), k + 3 * (j : Int) + 1, k + 3 * (j : Int) + 2) = ms k (j + 1) ++ xs.drop (j + 1) := by
  have e : xs.drop j = xs[j] :: xs.drop (j + 1) := List.drop_eq_getElem_cons h
  rw [e, List.set_append_right _ _ (by rw [ms_length]; exact Nat.le_refl _), ms_length, Nat.sub_self, List.set_cons_zero]
  simp [ms, List.range_succ]
set_option maxRecDepth 100000 in
set_option maxHeartbeats 1600000 in
theorem markClueS_any (v : Value) (xs : List Cu) (k : Int) (w : World) (B : Nat) (hv : Cl w B v xs) (h0 : 0 ≤ k) (h1 : k ≤ 1000000000) (hl : xs.length ≤ 1000000000) :
    Calls Tryd.prog 14 #[v, .int .i64 k] w fun e w' => e = .returned (.int .i64 (k + 3 * (xs.length : Int))) ∧ Cl w' B v (ms k xs.length) ∧ Kp (fun g => v.ownBlock = some g) w w' := by
  rcases hv with ⟨rfl, rfl⟩ | ⟨g, cap, cur, t, rfl, hB, hb, ht⟩
  · go_enter Tryd.func14, Tryd.ntmps14
    go_wp2
    refine wp_loop_rounds 1 ?_
    rw [rounds_succ]
    go_wp2
    go_ret
    exact ⟨ret_int' (by simp), by simpa [ms] using Cl.nil w B, Kp.refl _ _⟩
  · obtain ⟨n, hn⟩ : ∃ n, xs.length = n := ⟨_, rfl⟩
    rw [hn] at ht hl ⊢
    have HN := Lib.hid hn
    have HV := Lib.hid (show ∃ cur, w.heap[g]? = some (.cells cur t (0, 0)) ∧ cur.toList.take (n * 3) = cv (ms k 0 ++ xs.drop 0) from ⟨cur, hb, by simpa [ms] using ht⟩)
    have HB := Lib.hid hB
    clear hb ht hn hB
    go_enter Tryd.func14, Tryd.ntmps14
    go_wp2
    go_loopw [1, 5] (fun kk i wr => ∃ j : Nat, j ≤ n ∧ i = .int .i64 j ∧ kk = .int .i64 (k + 3 * (j : Int)) ∧ Hid (∃ cur, wr.heap[g]? = some (.cells cur t (0, 0)) ∧ cur.toList.take (n * 3) = cv (ms k j ++ xs.drop j)) ∧ Hid (Kp (fun b => b = g) w wr)) (fun _ i _ => n - (intOf i).toNat)
    case atStart => exact ⟨0, Nat.zero_le _, rfl, by simp, HV, Lib.hid (Kp.refl _ _)⟩
    case round =>
      rename_i wr
      obtain ⟨j, hj, rfl, rfl, H, HK⟩ := hrel
      by_cases hlt : j < n
      · obtain ⟨cur, hb, ht⟩ := H.out
        have hll : (ms k j ++ xs.drop j).length = n := by rw [List.length_append, ms_length, List.length_drop, HN.out]; omega
        rw [← hll] at ht
        obtain ⟨s0, s1, s2⟩ := cl_at3 hb ht j (by omega)
        have f0 := frozen_of_row _ g (j * 3) _ _ hb
        have f1 := frozen_of_row _ g (j * 3 + 1) _ _ hb
        have f2 := frozen_of_row _ g (j * 3 + 2) _ _ hb
        obtain ⟨cur', hb', ht'⟩ := cl_store3 hb ht j (k + 3 * (j : Int), k + 3 * (j : Int) + 1, k + 3 * (j : Int) + 1 + 1)
        rw [List.length_set, hll, show k + 3 * (j : Int) + 1 + 1 = k + 3 * (j : Int) + 2 by omega, ms_step k xs j (by rw [HN.out]; exact hlt)] at ht'
        have HB' := Lib.hid hb'
        have HT' := Lib.hid ht'
        have h2 : (0 : Int) ≤ j := Int.natCast_nonneg _
        have h3 : (j : Int) < n := by omega
        have q1 : IntKind.i64.wrap (k + 3 * (j : Int) + 1) = k + 3 * (j : Int) + 1 := IntWalk.i64_in _ (by omega)
        have q2 : IntKind.i64.wrap (k + 3 * (j : Int) + 1 + 1) = k + 3 * (j : Int) + 1 + 1 := IntWalk.i64_in _ (by omega)
        have q3 : IntKind.i64.wrap (k + 3 * (j : Int) + 1 + 1 + 1) = k + 3 * (j : Int) + 1 + 1 + 1 := IntWalk.i64_in _ (by omega)
        clear hb ht hb' ht' hll
        go_wp2
        go_roundw
        case rel =>
          exact ⟨j + 1, by omega, by go_num, by congr 1; push_cast; omega, Lib.hid ⟨cur', HB'.out, HT'.out⟩, Lib.hid (((HK.out.setCell (.inl rfl) _).setCell (.inl rfl) _).setCell (.inl rfl) _)⟩
        case measure => simp [intOf]; omega
      · have e : j = n := by omega
        go_wp2
        go_ret
        refine ⟨ret_int' (by rw [e]), ?_, HK.out.mono (fun b _ hb => by rw [hb]; rfl)⟩
        obtain ⟨cur, hb, ht⟩ := H.out
        rw [e, List.drop_eq_nil_of_le (by rw [HN.out]; exact Nat.le_refl _), List.append_nil] at ht
        exact .inr ⟨g, cap, cur, t, by rw [ms_length], HB.out, hb, by rw [ms_length]; exact ht⟩

set_option maxRecDepth 100000 in
set_option maxHeartbeats 1600000 in
theorem heldClueS_any (v : Value) (k : Int) (n : Nat) (w : World) (hv : RdC w v (ms k n)) (h0 : 0 ≤ k) (h1 : k ≤ 1000000000) (hl : n ≤ 1000000000) :
    Calls Tryd.prog 15 #[v, .int .i64 k] w fun e w' => e = .returned (.int .i64 (k + 3 * (n : Int))) ∧ w = w' := by
  obtain ⟨A, c, rfl, hA⟩ := hv
  rw [ms_length] at hA ⊢
  have HA := Lib.hid hA
  clear hA
  go_enter Tryd.func15, Tryd.ntmps15
  go_wp2
  go_loop [1, 5] (fun kk i => ∃ j : Nat, j ≤ n ∧ i = .int .i64 j ∧ kk = .int .i64 (k + 3 * (j : Int))) (fun _ i => n - (intOf i).toNat)
  case atStart => exact ⟨0, Nat.zero_le _, rfl, by simp⟩
  case round =>
    obtain ⟨j, hj, rfl, rfl⟩ := hrel
    by_cases hlt : j < n
    · obtain ⟨g, o, rfl, hc⟩ := HA.out j hlt
      rw [ms_getD k n j hlt] at hc
      obtain ⟨s0, s1, s2⟩ := hc
      simp only at s0 s1 s2
      have h2 : (0 : Int) ≤ j := Int.natCast_nonneg _
      have h3 : (j : Int) < n := by omega
      have q1 : IntKind.i64.wrap (k + 3 * (j : Int) + 1) = k + 3 * (j : Int) + 1 := IntWalk.i64_in _ (by omega)
      have q2 : IntKind.i64.wrap (k + 3 * (j : Int) + 1 + 1) = k + 3 * (j : Int) + 1 + 1 := IntWalk.i64_in _ (by omega)
      have q3 : IntKind.i64.wrap (k + 3 * (j : Int) + 1 + 1 + 1) = k + 3 * (j : Int) + 1 + 1 + 1 := IntWalk.i64_in _ (by omega)
      have e2 : k + 3 * (j : Int) + 2 = k + 3 * (j : Int) + 1 + 1 := by omega
      rw [e2] at s2
      go_wp2
      go_round
      case rel => exact ⟨j + 1, by omega, by go_num, by congr 1; push_cast; omega⟩
      case measure => simp [intOf]; omega
    · have e : j = n := by omega
      go_wp2
      go_ret
      exact ⟨ret_int' (by omega), rfl⟩

end Go.Proofs.YtcekobdnghllcacDoor
namespace Go.Proofs.YtcekobdnghllcacDoor
open Go.ChangeShapes Go.WideShapes Go.ChangeAt Go.RowKit Go.Joins
set_option maxHeartbeats 400000 in
theorem eqPuzzle_same (A A' : Option Addr) (n c c' : Nat) (xs : List Cu) (W : World) (hu : RdC W (.slice A n c) xs) (hv : RdC W (.slice A' n c') xs) (hl : xs.length ≤ maxLen) :
    Calls Tryd.prog 6 #[.agg #[.slice A n c], .agg #[.slice A' n c']] W fun e w' => e = .returned (.bool true) ∧ Kp Nw W w' := by
  have hu2 := Lib.hid (fun o o' => hu.nw (((Kp.refl Nw W).alloc o).alloc o'))
  have hv2 := Lib.hid (fun o o' => hv.nw (((Kp.refl Nw W).alloc o).alloc o'))
  clear hu hv
  go_enter Tryd.func6, Tryd.ntmps6
  go_wp2_with fail
  refine (eqClueS_same _ _ xs _ (hu2.out _ _) (hv2.out _ _) hl).mono ?_
  rintro e w' ⟨rfl, hk⟩
  have HK := Lib.hid hk
  clear hk
  go_wp2
  go_ret
  exact ⟨rfl, (((Kp.refl Nw W).alloc _).alloc _).nw HK.out⟩

set_option maxHeartbeats 400000 in
theorem markPuzzle_any (A : Option Addr) (n c : Nat) (k : Int) (xs : List Cu) (W : World) (B : Nat) (hu : Cl W B (.slice A n c) xs) (hn : xs.length = n) (h0 : 0 ≤ k) (h1 : k ≤ 1000000000) (hl : xs.length ≤ 1000000000) :
    Calls Tryd.prog 7 #[.agg #[.slice A n c], .int .i64 k] W fun e w' => e = .returned (.int .i64 (k + 3 * (n : Int))) ∧ Cl w' B (.slice A n c) (ms k n) ∧ Kp (fun g => (Value.slice A n c).ownBlock = some g) W w' := by
  have hu2 := Lib.hid (fun o => hu.kp ((Kp.refl Nw W).alloc o) (fun _ _ hs => hs))
  subst hn
  clear hu
  go_enter Tryd.func7, Tryd.ntmps7
  go_wp2_with fail
  refine (markClueS_any _ xs k _ B (hu2.out _) h0 h1 hl).mono ?_
  rintro e w' ⟨rfl, hs, hk⟩
  have HS := Lib.hid hs
  have HK := Lib.hid hk
  clear hs hk
  go_wp2
  go_ret
  exact ⟨rfl, HS.out, ((Kp.refl _ W).alloc _).trans HK.out⟩

set_option maxHeartbeats 400000 in
theorem heldPuzzle_any (A : Option Addr) (n c : Nat) (k : Int) (W : World) (hu : RdC W (.slice A n c) (ms k n)) (h0 : 0 ≤ k) (h1 : k ≤ 1000000000) (hl : n ≤ 1000000000) :
    Calls Tryd.prog 8 #[.agg #[.slice A n c], .int .i64 k] W fun e w' => e = .returned (.int .i64 (k + 3 * (n : Int))) ∧ Kp Nw W w' := by
  have hu2 := Lib.hid (fun o => hu.nw ((Kp.refl Nw W).alloc o))
  have h2 : (0 : Int) ≤ n := Int.natCast_nonneg _
  clear hu
  go_enter Tryd.func8, Tryd.ntmps8
  go_wp2_with fail
  refine (heldClueS_any _ k n _ (hu2.out _) h0 h1 hl).mono ?_
  rintro e w' ⟨rfl, rfl⟩
  go_wp2
  go_ret
  exact ⟨rfl, (Kp.refl _ W).alloc _⟩

/-- what the laws' copy of a puzzle returns -/
def PuzzleCopy (W : World) (n : Nat) (xs : List Cu) (e : Ending) (w' : World) : Prop := ∃ g, e = .returned (.agg #[.slice (some ⟨g, 0, none⟩) n n]) ∧ ClAt w' W.heap.size g n n xs ∧ Kp Nw W w' ∧ W.heap.size ≤ g ∧ g < w'.heap.size

theorem cellsInt9 : Tryd.prog.cellsOf 3 = 1 := by kernel_rfl

theorem RdC.nil (w : World) : RdC w (.slice none 0 0) [] := ⟨none, 0, rfl, fun k hk => by simp at hk⟩
end Go.Proofs.YtcekobdnghllcacDoor
namespace Go.Proofs.YtcekobdnghllcacDoor
open Go.ChangeShapes Go.WideShapes Go.ChangeAt Go.RowKit

/-- an empty slice is nil or starts somewhere -/
def VnC (u : Value) (ys : List Cu) : Prop := ys = [] → u = .slice none 0 0 ∨ ∃ (A : Addr) (c : Nat), u = .slice (some A) 0 c
theorem cv_one (ps : List Cu) : ∀ u ∈ cv ps, u.oneCell' = true := by
  intro u hu
  obtain ⟨x, _, rfl⟩ := List.mem_map.1 hu
  rfl
theorem RdC.from {w : World} {g o n c : Nat} {ps : List Cu} (h : RdC w (.slice (some ⟨g, o, none⟩) n c) ps) (k m c' : Nat) (hk : k + m ≤ n) (hl : ps.length = n) : RdC w (.slice (some ⟨g, o + k * 3, none⟩) m c') ((ps.drop k).take m) := by
  obtain ⟨A, c, hv, hA⟩ := h
  injection hv with e1 e2 e3
  subst e1
  refine ⟨_, c', by rw [List.length_take, List.length_drop, Nat.min_eq_left (by omega)], fun j hj => ?_⟩
  rw [List.length_take, List.length_drop, Nat.min_eq_left (by omega)] at hj
  obtain ⟨g', o', e, hc⟩ := hA (k + j) (by omega)
  injection e with e
  injection e with e1 e2
  subst e1 e2
  refine ⟨g, o + k * 3, rfl, ?_⟩
  have e2 : ((ps.drop k).take m).getD j (0, 0, 0) = ps.getD (k + j) (0, 0, 0) := by simp [List.getD, hj]
  rw [e2, show o + k * 3 + j * 3 = o + (k + j) * 3 by omega]
  exact hc

set_option maxRecDepth 100000 in
theorem run_clus (w : World) (ty : TypeId) (B : Nat) (v u : Value) (xs ys : List Cu) (hv : Co w B v xs) (hu : RdC w u ys) (hnil : VnC u ys)
    (hl : xs.length + ys.length ≤ 1000000) (hB : B ≤ w.heap.size) :
    ∃ v' w', (Builtin.append_ #[22, 22] ty #[v, u]).run Tryd.prog w = .ok v' w' ∧ Co w' B v' (xs ++ ys) ∧ Kp (fun b => v.ownBlock = some b) w w' := by
  obtain ⟨i0, hi0, hz0, hz1, hz2⟩ := info_parts clueInfo
  obtain ⟨A, c, rfl, hA⟩ := hu
  have key : ∀ ad : Addr, A = some ad → (∀ j u, (cv ys)[j]? = some u → w.cell? (ad.add j) = some u) → ∃ v' w', (Builtin.append_ #[22, 22] ty #[v, .slice A ys.length c]).run Tryd.prog w = .ok v' w' ∧ Co w' B v' (xs ++ ys) ∧ Kp (fun b => v.ownBlock = some b) w w' := by
    rintro ad rfl hc
    obtain ⟨v', w', hr, h2, h3, _, h5⟩ := run_append_own_at (P := Tryd.prog) w B 22 ty 40 i0 _ 3 24 Tryd.underlying22 hi0 hz0 hz1 hz2 rfl (by omega) v xs.length _ hv ad ys.length c (cv ys) (cv_length ys) hc (cv_one ys) (by unfold maxLen; omega) (by omega) hB
    refine ⟨v', w', hr, ?_, ⟨h3.os, h3.tape, h3.output, h3.size, fun k hk hs => h3.block k hk (fun e => hs e.symm)⟩⟩
    unfold Co
    rw [List.length_append, cv_append]
    exact h2
  by_cases hy : ys = []
  · subst hy
    rcases hnil rfl with h | ⟨ad, c', h⟩
    · injection h with h1 h2 h3
      subst h1
      subst h3
      exact ⟨v, w, run_append_owned_none (P := Tryd.prog) w B 22 ty 40 i0 3 Tryd.underlying22 hi0 v xs.length _ hv, by simpa using hv, Kp.refl _ _⟩
    · injection h with h1 h2 h3
      exact key _ h1 (fun j u hj => by simp [cv, f3] at hj)
  · have hp : 0 < ys.length := by
      cases ys with
      | nil => exact absurd rfl hy
      | cons => simp
    obtain ⟨g, o, rfl, _⟩ := hA 0 hp
    refine key _ rfl (fun j u hj => ?_)
    have hjl : j < ys.length * 3 := by
      have := (List.getElem?_eq_some_iff.1 hj).1
      rwa [cv_length] at this
    obtain ⟨q, hq⟩ : ∃ q, j / 3 = q := ⟨_, rfl⟩
    have hql : q < ys.length := by omega
    obtain ⟨g', o', e, h0, h1, h2⟩ := hA q hql
    injection e with e
    injection e with e1 e2
    subst e1 e2
    obtain ⟨c0, c1, c2⟩ := cv_get ys q hql
    rw [addr_add]
    have h3 : j = q * 3 ∨ j = q * 3 + 1 ∨ j = q * 3 + 2 := by omega
    rcases h3 with rfl | rfl | rfl
    · rw [h0, ← c0, hj]
    · rw [← Nat.add_assoc, h1, ← c1, hj]
    · rw [← Nat.add_assoc, h2, ← c2, hj]

theorem wp_clus (w : World) {o : Oper} {a : Act} {K : Act → World → Prop} {Q : Exit → Act → World → Prop} (s x : Operand)
    (ho : o.op = .call { callee := .builtin .append, args := #[s, x], argTypes := #[22, 22] })
    (B : Nat) (v u : Value) (xs ys : List Cu) (hs : a.eval s = v) (hx : a.eval x = u) (hv : Co w B v xs) (hu : RdC w u ys) (hnil : VnC u ys)
    (hl : xs.length + ys.length ≤ 1000000) (hB : B ≤ w.heap.size)
    (h : ∀ v' w', Co w' B v' (xs ++ ys) → Kp (fun b => v.ownBlock = some b) w w' → K (a.put o.dst v') w') : o.wp Tryd.prog a w K Q := by
  obtain ⟨v', w', hr, h2, h3⟩ := run_clus w o.type B v u xs ys hv hu hnil hl hB
  unfold Oper.wp execOp
  simp only [ho, resolve, invoke, builtin, Sem.run_bind, Sem.run_pure, Result.andThen_ok, List.map_toArray, List.map_cons, List.map_nil, hs, hx, hr]
  exact h v' w' h2 h3
theorem wpList_clus (w : World) {ops : Array Oper} {rest : List Oper} {o : Oper} {a : Act} {Q : Exit → Act → World → Prop} (hgd : o.guard = none) (s x : Operand)
    (ho : o.op = .call { callee := .builtin .append, args := #[s, x], argTypes := #[22, 22] })
    (B : Nat) (v u : Value) (xs ys : List Cu) (hs : a.eval s = v) (hx : a.eval x = u) (hv : Co w B v xs) (hu : RdC w u ys) (hnil : VnC u ys)
    (hl : xs.length + ys.length ≤ 1000000) (hB : B ≤ w.heap.size)
    (h : ∀ v' w', Co w' B v' (xs ++ ys) → Kp (fun b => v.ownBlock = some b) w w' → wpList Tryd.prog ops Q rest (a.put o.dst v') w') : wpList Tryd.prog ops Q (o :: rest) a w :=
  wpList_plain hgd fun _ hK => wp_clus w s x ho B v u xs ys hs hx hv hu hnil hl hB fun v' w' h2 h3 => hK _ _ (h v' w' h2 h3)
theorem step_clus (w : World) {ops : Array Oper} {o : Oper} {a : Act} {K : Act → World → Prop} {Q : Exit → Act → World → Prop} {E : Prop} (hgd : o.guard = none) (s x : Operand)
    (ho : o.op = .call { callee := .builtin .append, args := #[s, x], argTypes := #[22, 22] })
    (B : Nat) (v u : Value) (xs ys : List Cu) (hs : a.eval s = v) (hx : a.eval x = u) (hv : Co w B v xs) (hu : RdC w u ys) (hnil : VnC u ys)
    (hl : xs.length + ys.length ≤ 1000000) (hB : B ≤ w.heap.size)
    (h : ∀ v' w', Co w' B v' (xs ++ ys) → Kp (fun b => v.ownBlock = some b) w w' → K (a.put o.dst v') w') :
    if Region.wanted o (yielded ops a.tmps) = true then Oper.wp Tryd.prog o a w K Q else E := by
  have hw : Region.wanted o (yielded ops a.tmps) = true := by simp [Region.wanted, hgd]
  rw [if_pos hw]
  exact wp_clus w s x ho B v u xs ys hs hx hv hu hnil hl hB h
theorem Co.empty (w : World) (B : Nat) (hB : B ≤ w.heap.size) : Co (w.alloc (.cells #[] 40)) B (.slice (some ⟨w.heap.size, 0, none⟩) 0 0) [] := World.ownsRow_made w #[] 0 hB (by unfold maxLen; omega) rfl
/-- one clue in a block of its own -/
theorem RdC.one {w : World} {g : Nat} {p : Cu} (h : At3 w g 0 p) : RdC w (.slice (some ⟨g, 0, none⟩) 1 1) [p] :=
  ⟨_, 1, rfl, fun j hj => ⟨g, 0, rfl, by
    have e : j = 0 := by simpa using hj
    subst e
    exact h⟩⟩
/-- a clue in a block of the call's own -/
def Own3 (w : World) (b : Nat) (p : Cu) : Prop := (w.cell? ⟨b, 0, none⟩ = some (.int .i64 p.1) ∧ w.cell? ⟨b, 1, none⟩ = some (.int .i64 p.2.1) ∧ w.cell? ⟨b, 2, none⟩ = some (.int .i64 p.2.2)) ∧ w.frozen? ⟨b, 0, none⟩ = false ∧ w.frozen? ⟨b, 1, none⟩ = false ∧ w.frozen? ⟨b, 2, none⟩ = false
theorem Own3.new (w : World) (p : Cu) (t : TypeId) : Own3 (w.alloc (.cells #[.int .i64 p.1, .int .i64 p.2.1, .int .i64 p.2.2] t)) w.heap.size p := by
  refine ⟨⟨?_, ?_, ?_⟩, ?_, ?_, ?_⟩ <;> simp [World.cell?_alloc_at, World.frozen?_alloc_at]
theorem frz {w w' : World} {S : Nat → Prop} {b i : Nat} (hk : Kp S w w') (hl : b < w.heap.size) (hs : ¬ S b) (h : w.frozen? ⟨b, i, none⟩ = false) : w'.frozen? ⟨b, i, none⟩ = false :=
  (World.frozen?_of_block (a := ⟨b, i, none⟩) (hk.block b hl hs)).trans h
theorem Own3.kp {w w' : World} {b : Nat} {p : Cu} {S : Nat → Prop} (h : Own3 w b p) (hk : Kp S w w') (hs : ¬ S b) : Own3 w' b p := by
  obtain ⟨⟨h0, h1, h2⟩, f0, f1, f2⟩ := h
  have hl := World.block_lt_of_cell? w _ h0
  exact ⟨⟨keepc hk h0 hs, keepc hk h1 hs, keepc hk h2 hs⟩, frz hk hl hs f0, frz hk hl hs f1, frz hk hl hs f2⟩
theorem Own3.put {w : World} {b : Nat} {p : Cu} (h : Own3 w b p) (q : Cu) : Own3 (((w.setCell ⟨b, 0, none⟩ (.int .i64 q.1)).setCell ⟨b, 1, none⟩ (.int .i64 q.2.1)).setCell ⟨b, 2, none⟩ (.int .i64 q.2.2)) b q := by
  obtain ⟨⟨h0, h1, h2⟩, f0, f1, f2⟩ := h
  have n01 : (⟨b, 0, none⟩ : Addr) ≠ ⟨b, 1, none⟩ := by simp
  have n02 : (⟨b, 0, none⟩ : Addr) ≠ ⟨b, 2, none⟩ := by simp
  have n12 : (⟨b, 1, none⟩ : Addr) ≠ ⟨b, 2, none⟩ := by simp
  refine ⟨⟨?_, ?_, ?_⟩, ?_, ?_, ?_⟩
  · rw [World.cell?_setCell_other _ _ _ _ n02.symm, World.cell?_setCell_other _ _ _ _ n01.symm]
    exact World.cell?_setCell_same _ _ _ h0
  · rw [World.cell?_setCell_other _ _ _ _ n12.symm]
    exact World.cell?_setCell_same _ _ _ ((World.cell?_setCell_other _ _ _ _ n01).trans h1)
  · exact World.cell?_setCell_same _ _ _ ((World.cell?_setCell_other _ _ _ _ n12).trans ((World.cell?_setCell_other _ _ _ _ n02).trans h2))
  · rw [World.frozen?_setCell, World.frozen?_setCell, World.frozen?_setCell]; exact f0
  · rw [World.frozen?_setCell, World.frozen?_setCell, World.frozen?_setCell]; exact f1
  · rw [World.frozen?_setCell, World.frozen?_setCell, World.frozen?_setCell]; exact f2
theorem Own3.one {w : World} {b : Nat} {p : Cu} (h : Own3 w b p) : RdC w (.slice (some ⟨b, 0, none⟩) 1 1) [p] := RdC.one h.1
theorem VnC.some_ (A : Addr) (c n : Nat) (ys : List Cu) (h : ys.length = n) : VnC (.slice (some A) n c) ys := fun e => .inr ⟨A, c, by subst e; rw [← h]; rfl⟩
end Go.Proofs.YtcekobdnghllcacDoor
namespace Go.Proofs.YtcekobdnghllcacDoor
open Go.ChangeShapes Go.WideShapes Go.ChangeAt Go.RowKit

/-- is it a clue? -/
def cluB (p : Cu) : Bool :=
  if p.1 = 0 ∨ p.1 = 1 then decide (2 ≤ p.2.1 ∧ p.2.1 ≤ 5) && decide (0 ≤ p.2.2 ∧ p.2.2 ≤ p.2.1 - 1)
  else if p.1 = 2 ∨ p.1 = 3 then decide (0 ≤ p.2.1 ∧ p.2.1 ≤ 9) && decide (p.2.2 = 0)
  else if p.1 = 4 then decide (0 ≤ p.2.1 ∧ p.2.1 ≤ 9) && decide (0 ≤ p.2.2 ∧ p.2.2 ≤ 9)
  else if p.1 = 5 then decide (1 ≤ p.2.1 ∧ p.2.1 ≤ 10) && decide (p.2.2 = 0)
  else false
/-- is it a puzzle? -/
def puzB (ps : List Cu) : Bool := decide (ps.length ≤ 6) && ps.all cluB

set_option maxRecDepth 100000 in
set_option maxHeartbeats 6400000 in
theorem pzClue_any (p : Cu) (W : World) : Calls Tryd.prog 26 #[.agg #[.int .i64 p.1, .int .i64 p.2.1, .int .i64 p.2.2]] W fun e w' => e = .returned (.bool (cluB p)) ∧ Kp Nw W w' := by
  obtain ⟨k, a, b⟩ := p
  simp only
  by_cases h : k = 0 ∨ k = 1 ∨ k = 2 ∨ k = 3 ∨ k = 4 ∨ k = 5
  · rcases h with rfl | rfl | rfl | rfl | rfl | rfl
    · by_cases hA : 2 ≤ a ∧ a ≤ 5
      · obtain ⟨y1, y2⟩ := hA
        have q1 : IntKind.i64.wrap (a - 1) = a - 1 := IntWalk.i64_in _ (by omega)
        by_cases hB : 0 ≤ b ∧ b ≤ a - 1
        · obtain ⟨y3, y4⟩ := hB
          have hr : cluB (0, a, b) = true := by simp [cluB]; try omega
          rw [hr]
          clear hr
          go_enter Tryd.func26, Tryd.ntmps26
          go_wp2_with (first | ((with_reducible refine (l1In_yes (b) (0) (a - 1) _ y3 y4).mono ?_); rintro e w' ⟨rfl, rfl⟩) | ((with_reducible refine (l1In_yes (a) (2) (5) _ y1 y2).mono ?_); rintro e w' ⟨rfl, rfl⟩))
          go_ret
          exact ⟨rfl, Kp.al _ _⟩
        · have y3 : b < 0 ∨ a - 1 < b := by omega
          have hr : cluB (0, a, b) = false := by simp [cluB]; try omega
          rw [hr]
          clear hr
          go_enter Tryd.func26, Tryd.ntmps26
          go_wp2_with (first | ((with_reducible refine (l1In_no (b) (0) (a - 1) _ y3).mono ?_); rintro e w' ⟨rfl, rfl⟩) | ((with_reducible refine (l1In_yes (a) (2) (5) _ y1 y2).mono ?_); rintro e w' ⟨rfl, rfl⟩))
          go_ret
          exact ⟨rfl, Kp.al _ _⟩
      · have y1 : a < 2 ∨ 5 < a := by omega
        have hr : cluB (0, a, b) = false := by simp [cluB]; try omega
        rw [hr]
        clear hr
        go_enter Tryd.func26, Tryd.ntmps26
        go_wp2_with (first | ((with_reducible refine (l1In_no (a) (2) (5) _ y1).mono ?_); rintro e w' ⟨rfl, rfl⟩))
        go_ret
        exact ⟨rfl, Kp.al _ _⟩
    · by_cases hA : 2 ≤ a ∧ a ≤ 5
      · obtain ⟨y1, y2⟩ := hA
        have q1 : IntKind.i64.wrap (a - 1) = a - 1 := IntWalk.i64_in _ (by omega)
        by_cases hB : 0 ≤ b ∧ b ≤ a - 1
        · obtain ⟨y3, y4⟩ := hB
          have hr : cluB (1, a, b) = true := by simp [cluB]; try omega
          rw [hr]
          clear hr
          go_enter Tryd.func26, Tryd.ntmps26
          go_wp2_with (first | ((with_reducible refine (l1In_yes (b) (0) (a - 1) _ y3 y4).mono ?_); rintro e w' ⟨rfl, rfl⟩) | ((with_reducible refine (l1In_yes (a) (2) (5) _ y1 y2).mono ?_); rintro e w' ⟨rfl, rfl⟩))
          go_ret
          exact ⟨rfl, Kp.al _ _⟩
        · have y3 : b < 0 ∨ a - 1 < b := by omega
          have hr : cluB (1, a, b) = false := by simp [cluB]; try omega
          rw [hr]
          clear hr
          go_enter Tryd.func26, Tryd.ntmps26
          go_wp2_with (first | ((with_reducible refine (l1In_no (b) (0) (a - 1) _ y3).mono ?_); rintro e w' ⟨rfl, rfl⟩) | ((with_reducible refine (l1In_yes (a) (2) (5) _ y1 y2).mono ?_); rintro e w' ⟨rfl, rfl⟩))
          go_ret
          exact ⟨rfl, Kp.al _ _⟩
      · have y1 : a < 2 ∨ 5 < a := by omega
        have hr : cluB (1, a, b) = false := by simp [cluB]; try omega
        rw [hr]
        clear hr
        go_enter Tryd.func26, Tryd.ntmps26
        go_wp2_with (first | ((with_reducible refine (l1In_no (a) (2) (5) _ y1).mono ?_); rintro e w' ⟨rfl, rfl⟩))
        go_ret
        exact ⟨rfl, Kp.al _ _⟩
    · by_cases hA : 0 ≤ a ∧ a ≤ 9
      · obtain ⟨y1, y2⟩ := hA
        by_cases hB : b = 0
        · subst hB
          have hr : cluB (2, a, 0) = true := by simp [cluB]; try omega
          rw [hr]
          clear hr
          go_enter Tryd.func26, Tryd.ntmps26
          go_wp2_with (first | ((with_reducible refine (l1In_yes (a) (0) (9) _ y1 y2).mono ?_); rintro e w' ⟨rfl, rfl⟩))
          go_ret
          exact ⟨rfl, Kp.al _ _⟩
        · have y3 : (b == 0) = false := by simpa using hB
          have hr : cluB (2, a, b) = false := by simp [cluB]; try omega
          rw [hr]
          clear hr
          go_enter Tryd.func26, Tryd.ntmps26
          go_wp2_with (first | ((with_reducible refine (l1In_yes (a) (0) (9) _ y1 y2).mono ?_); rintro e w' ⟨rfl, rfl⟩))
          go_ret
          exact ⟨rfl, Kp.al _ _⟩
      · have y1 : a < 0 ∨ 9 < a := by omega
        have hr : cluB (2, a, b) = false := by simp [cluB]; try omega
        rw [hr]
        clear hr
        go_enter Tryd.func26, Tryd.ntmps26
        go_wp2_with (first | ((with_reducible refine (l1In_no (a) (0) (9) _ y1).mono ?_); rintro e w' ⟨rfl, rfl⟩))
        go_ret
        exact ⟨rfl, Kp.al _ _⟩
    · by_cases hA : 0 ≤ a ∧ a ≤ 9
      · obtain ⟨y1, y2⟩ := hA
        by_cases hB : b = 0
        · subst hB
          have hr : cluB (3, a, 0) = true := by simp [cluB]; try omega
          rw [hr]
          clear hr
          go_enter Tryd.func26, Tryd.ntmps26
          go_wp2_with (first | ((with_reducible refine (l1In_yes (a) (0) (9) _ y1 y2).mono ?_); rintro e w' ⟨rfl, rfl⟩))
          go_ret
          exact ⟨rfl, Kp.al _ _⟩
        · have y3 : (b == 0) = false := by simpa using hB
          have hr : cluB (3, a, b) = false := by simp [cluB]; try omega
          rw [hr]
          clear hr
          go_enter Tryd.func26, Tryd.ntmps26
          go_wp2_with (first | ((with_reducible refine (l1In_yes (a) (0) (9) _ y1 y2).mono ?_); rintro e w' ⟨rfl, rfl⟩))
          go_ret
          exact ⟨rfl, Kp.al _ _⟩
      · have y1 : a < 0 ∨ 9 < a := by omega
        have hr : cluB (3, a, b) = false := by simp [cluB]; try omega
        rw [hr]
        clear hr
        go_enter Tryd.func26, Tryd.ntmps26
        go_wp2_with (first | ((with_reducible refine (l1In_no (a) (0) (9) _ y1).mono ?_); rintro e w' ⟨rfl, rfl⟩))
        go_ret
        exact ⟨rfl, Kp.al _ _⟩
    · by_cases hA : 0 ≤ a ∧ a ≤ 9
      · obtain ⟨y1, y2⟩ := hA
        by_cases hB : 0 ≤ b ∧ b ≤ 9
        · obtain ⟨y3, y4⟩ := hB
          have hr : cluB (4, a, b) = true := by simp [cluB]; try omega
          rw [hr]
          clear hr
          go_enter Tryd.func26, Tryd.ntmps26
          go_wp2_with (first | ((with_reducible refine (l1In_yes (b) (0) (9) _ y3 y4).mono ?_); rintro e w' ⟨rfl, rfl⟩) | ((with_reducible refine (l1In_yes (a) (0) (9) _ y1 y2).mono ?_); rintro e w' ⟨rfl, rfl⟩))
          go_ret
          exact ⟨rfl, Kp.al _ _⟩
        · have y3 : b < 0 ∨ 9 < b := by omega
          have hr : cluB (4, a, b) = false := by simp [cluB]; try omega
          rw [hr]
          clear hr
          go_enter Tryd.func26, Tryd.ntmps26
          go_wp2_with (first | ((with_reducible refine (l1In_no (b) (0) (9) _ y3).mono ?_); rintro e w' ⟨rfl, rfl⟩) | ((with_reducible refine (l1In_yes (a) (0) (9) _ y1 y2).mono ?_); rintro e w' ⟨rfl, rfl⟩))
          go_ret
          exact ⟨rfl, Kp.al _ _⟩
      · have y1 : a < 0 ∨ 9 < a := by omega
        have hr : cluB (4, a, b) = false := by simp [cluB]; try omega
        rw [hr]
        clear hr
        go_enter Tryd.func26, Tryd.ntmps26
        go_wp2_with (first | ((with_reducible refine (l1In_no (a) (0) (9) _ y1).mono ?_); rintro e w' ⟨rfl, rfl⟩))
        go_ret
        exact ⟨rfl, Kp.al _ _⟩
    · by_cases hA : 1 ≤ a ∧ a ≤ 10
      · obtain ⟨y1, y2⟩ := hA
        by_cases hB : b = 0
        · subst hB
          have hr : cluB (5, a, 0) = true := by simp [cluB]; try omega
          rw [hr]
          clear hr
          go_enter Tryd.func26, Tryd.ntmps26
          go_wp2_with (first | ((with_reducible refine (l1In_yes (a) (1) (10) _ y1 y2).mono ?_); rintro e w' ⟨rfl, rfl⟩))
          go_ret
          exact ⟨rfl, Kp.al _ _⟩
        · have y3 : (b == 0) = false := by simpa using hB
          have hr : cluB (5, a, b) = false := by simp [cluB]; try omega
          rw [hr]
          clear hr
          go_enter Tryd.func26, Tryd.ntmps26
          go_wp2_with (first | ((with_reducible refine (l1In_yes (a) (1) (10) _ y1 y2).mono ?_); rintro e w' ⟨rfl, rfl⟩))
          go_ret
          exact ⟨rfl, Kp.al _ _⟩
      · have y1 : a < 1 ∨ 10 < a := by omega
        have hr : cluB (5, a, b) = false := by simp [cluB]; try omega
        rw [hr]
        clear hr
        go_enter Tryd.func26, Tryd.ntmps26
        go_wp2_with (first | ((with_reducible refine (l1In_no (a) (1) (10) _ y1).mono ?_); rintro e w' ⟨rfl, rfl⟩))
        go_ret
        exact ⟨rfl, Kp.al _ _⟩
  · have n0 : ¬ k = 0 := by omega
    have n1 : ¬ k = 1 := by omega
    have n2 : ¬ k = 2 := by omega
    have n3 : ¬ k = 3 := by omega
    have n4 : ¬ k = 4 := by omega
    have n5 : ¬ k = 5 := by omega
    have hr : cluB (k, a, b) = false := by simp [cluB, n0, n1, n2, n3, n4, n5]
    rw [hr]
    clear hr h
    go_enter Tryd.func26, Tryd.ntmps26
    go_wp2
    go_ret
    exact ⟨rfl, Kp.al _ _⟩
set_option maxRecDepth 100000 in
set_option maxHeartbeats 1600000 in
theorem pzGood_any (A : Option Addr) (n c : Nat) (ps : List Cu) (W : World) (hu : RdC W (.slice A n c) ps) (hn : ps.length = n) (hm : n ≤ maxLen) (b : Bool) (hb : b = puzB ps) :
    Calls Tryd.prog 18 #[.agg #[.slice A n c]] W fun e w' => e = .returned (.bool b) ∧ Kp Nw W w' := by
  unfold maxLen at hm
  obtain ⟨A', c', hA', hA⟩ := hu
  rw [hn] at hA'
  injection hA' with e1 e2 e3
  subst e1
  have HA := Lib.hid hA
  have HN := Lib.hid hn
  have HB := Lib.hid hb
  have n0 : (0 : Int) ≤ n := Int.natCast_nonneg _
  by_cases h6 : n ≤ 6
  · have y1 : ¬ (6 : Int) < n := by omega
    clear hA hn hb e2 e3
    go_enter Tryd.func18, Tryd.ntmps18
    go_wp2
    go_loopw [12] (fun i wr => ∃ j : Nat, j ≤ n ∧ i = .int .i64 j ∧ (ps.take j).all cluB = true ∧ Kp Nw W wr) (fun i _ => n - (intOf i).toNat)
    case atStart => exact ⟨0, Nat.zero_le _, rfl, rfl, Kp.al _ _⟩
    case round =>
      rename_i wr
      obtain ⟨j, hj, rfl, ha, hk⟩ := hrel
      have j0 : (0 : Int) ≤ j := Int.natCast_nonneg _
      have HK := Lib.hid hk
      by_cases hlt : j < n
      · have hl' : j < ps.length := by rw [HN.out]; exact hlt
        obtain ⟨g, o, rfl, hc⟩ := HA.out j hl'
        obtain ⟨p, hp⟩ : ∃ p, ps.getD j (0, 0, 0) = p := ⟨_, rfl⟩
        rw [hp] at hc
        have hx : ps[j] = p := by rw [← hp]; simp [hl']
        obtain ⟨a0, a1, a2⟩ := hc.kp hk (fun h => h)
        have j1 : (j : Int) < n := by omega
        have hw := pzClue_any p
        by_cases ok : cluB p = true
        · have HA1 : Hid ((ps.take (j + 1)).all cluB = true) := Lib.hid (by rw [List.take_succ_eq_append_getElem hl', List.all_append, ha, hx]; simp [ok])
          rw [ok] at hw
          have HW := Lib.hid hw
          clear hk ha ok hp hx hl' hw hc
          go_wp2_with fail
          refine (HW.out _).mono ?_
          rintro e w5 ⟨rfl, hk5⟩
          have HK5 := Lib.hid ((HK.out.nw (.al _ _)).nw hk5)
          clear hk5
          go_wp2
          go_roundw
          case rel => exact ⟨j + 1, by omega, by go_num, HA1.out, HK5.out⟩
          case measure => simp [intOf]; omega
        · have HE : Hid (b = false) := Lib.hid (by
            have hf : ps.all cluB = false := by rw [List.all_eq_false]; exact ⟨ps[j], List.getElem_mem _, by rw [hx]; exact ok⟩
            rw [HB.out]
            unfold puzB
            rw [hf, Bool.and_false])
          have okf : cluB p = false := by simpa using ok
          rw [okf] at hw
          have HW := Lib.hid hw
          clear hk ha ok okf hp hx hl' hw hc
          go_wp2_with fail
          refine (HW.out _).mono ?_
          rintro e w5 ⟨rfl, hk5⟩
          have HK5 := Lib.hid ((HK.out.nw (.al _ _)).nw hk5)
          clear hk5
          go_wp2
          go_ret
          exact ⟨ret_bool HE.out.symm, HK5.out⟩
      · have e : j = n := by omega
        subst e
        have HE : Hid (b = true) := Lib.hid (by
          rw [List.take_of_length_le (by rw [HN.out]; exact Nat.le_refl _)] at ha
          rw [HB.out]
          unfold puzB
          rw [ha, HN.out, decide_eq_true h6]
          rfl)
        clear hk ha
        go_wp2
        go_ret
        exact ⟨ret_bool HE.out.symm, HK.out⟩
  · have y1 : (6 : Int) < n := by omega
    have HE : Hid (b = false) := Lib.hid (by rw [hb]; unfold puzB; rw [hn, decide_eq_false h6, Bool.false_and])
    clear hA hn hb e2 e3 h6
    go_enter Tryd.func18, Tryd.ntmps18
    go_wp2
    go_ret
    exact ⟨ret_bool HE.out.symm, Kp.al _ _⟩
end Go.Proofs.YtcekobdnghllcacDoor
