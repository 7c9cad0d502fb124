/- Rows of clues (three numbers each) in memory, and what the laws' helpers do with them; no condition but that the slices' cells are there. -/
import Derived.Test.YtcfghaeogbimeaaLaws
import Derived.Test.YtcfghaeogbimeaaMakeC
import Derived.Laws.StructEq
namespace Go.Proofs.Ytcfghaeogbimeaa
open Go.ChangeShapes Go.WideShapes Go.ChangeAt Go.RowKit

/-- a clue: its kind and two numbers -/
abbrev Cu := Int × Int × Int
/-- clues as numbers, one behind the other -/
def f3 : List Cu → List Int
  | [] => []
  | p :: r => p.1 :: p.2.1 :: p.2.2 :: f3 r
theorem f3_length : ∀ ps : List Cu, (f3 ps).length = ps.length * 3
  | [] => rfl
  | _ :: r => by simp [f3, f3_length r]; omega
theorem f3_append : ∀ ps qs : List Cu, f3 (ps ++ qs) = f3 ps ++ f3 qs
  | [], _ => rfl
  | _ :: r, qs => by simp [f3, f3_append r qs]
theorem f3_take : ∀ (ps : List Cu) (n : Nat), f3 (ps.take n) = (f3 ps).take (n * 3)
  | [], n => by simp [f3]
  | p :: r, 0 => by simp [f3]
  | p :: r, n + 1 => by
    rw [List.take_succ_cons, f3, f3, f3_take r n, show (n + 1) * 3 = n * 3 + 1 + 1 + 1 by omega, List.take_succ_cons, List.take_succ_cons, List.take_succ_cons]
theorem f3_drop : ∀ (ps : List Cu) (n : Nat), f3 (ps.drop n) = (f3 ps).drop (n * 3)
  | [], n => by simp [f3]
  | p :: r, 0 => by simp [f3]
  | p :: r, n + 1 => by
    rw [List.drop_succ_cons, f3_drop r n, f3, show (n + 1) * 3 = n * 3 + 1 + 1 + 1 by omega, List.drop_succ_cons, List.drop_succ_cons, List.drop_succ_cons]
theorem f3_get : ∀ (ps : List Cu) (j : Nat), j < ps.length → (f3 ps)[j * 3]? = some (ps.getD j (0, 0, 0)).1 ∧ (f3 ps)[j * 3 + 1]? = some (ps.getD j (0, 0, 0)).2.1 ∧ (f3 ps)[j * 3 + 2]? = some (ps.getD j (0, 0, 0)).2.2
  | [], j, h => by simp at h
  | p :: r, 0, _ => by simp [f3]
  | p :: r, j + 1, h => by
    have := f3_get r j (by simpa using h)
    rw [show (j + 1) * 3 = j * 3 + 1 + 1 + 1 by omega]
    simpa [f3] using this
theorem f3_set : ∀ (ps : List Cu) (j : Nat) (p : Cu), f3 (ps.set j p) = (((f3 ps).set (j * 3) p.1).set (j * 3 + 1) p.2.1).set (j * 3 + 2) p.2.2
  | [], j, p => by simp [f3]
  | q :: r, 0, p => by simp [f3]
  | q :: r, j + 1, p => by
    rw [List.set_cons_succ, f3, f3, f3_set r j p, show (j + 1) * 3 = j * 3 + 1 + 1 + 1 by omega]
    simp
theorem f3_rep : ∀ n : Nat, f3 (List.replicate n (0, 0, 0)) = List.replicate (n * 3) 0
  | 0 => rfl
  | n + 1 => by rw [List.replicate_succ, f3, f3_rep n, show (n + 1) * 3 = n * 3 + 1 + 1 + 1 by omega, List.replicate_succ, List.replicate_succ, List.replicate_succ]
/-- the numbers' values -/
def cv (ps : List Cu) : List Value := (f3 ps).map (Value.int .i64)
theorem cv_length (ps : List Cu) : (cv ps).length = ps.length * 3 := by simp [cv, f3_length]
theorem cv_get (ps : List Cu) (j : Nat) (h : j < ps.length) : (cv ps)[j * 3]? = some (.int .i64 (ps.getD j (0, 0, 0)).1) ∧ (cv ps)[j * 3 + 1]? = some (.int .i64 (ps.getD j (0, 0, 0)).2.1) ∧ (cv ps)[j * 3 + 2]? = some (.int .i64 (ps.getD j (0, 0, 0)).2.2) := by
  obtain ⟨h0, h1, h2⟩ := f3_get ps j h
  simp [cv, h0, h1, h2]
theorem cv_append (ps qs : List Cu) : cv (ps ++ qs) = cv ps ++ cv qs := by simp [cv, f3_append]
theorem cv_set (ps : List Cu) (j : Nat) (p : Cu) : cv (ps.set j p) = (((cv ps).set (j * 3) (.int .i64 p.1)).set (j * 3 + 1) (.int .i64 p.2.1)).set (j * 3 + 2) (.int .i64 p.2.2) := by
  simp [cv, f3_set, List.map_set]
theorem made_three (n : Nat) : (madeCells #[Value.int .i64 0, Value.int .i64 0, Value.int .i64 0] (n * 3)).toList = cv (List.replicate n (0, 0, 0)) := by
  unfold cv
  rw [f3_rep]
  apply List.ext_getElem?
  intro j
  by_cases hj : j < n * 3
  · have h2 : j % 3 = 0 ∨ j % 3 = 1 ∨ j % 3 = 2 := by omega
    rcases h2 with h2 | h2 | h2 <;> simp [madeCells, hj, h2]
  · simp [madeCells, hj]

/-- a clue's cells at an address -/
def At3 (w : World) (g o : Nat) (p : Cu) : Prop := w.cell? ⟨g, o, none⟩ = some (.int .i64 p.1) ∧ w.cell? ⟨g, o + 1, none⟩ = some (.int .i64 p.2.1) ∧ w.cell? ⟨g, o + 2, none⟩ = some (.int .i64 p.2.2)
/-- A slice value that reads, in a world, as a list of clues. -/
def RdC (w : World) (v : Value) (ps : List Cu) : Prop :=
  ∃ (A : Option Addr) (c : Nat), v = .slice A ps.length c ∧ ∀ k, k < ps.length → ∃ g o, A = some ⟨g, o, none⟩ ∧ At3 w g (o + k * 3) (ps.getD k (0, 0, 0))
theorem At3.kp {S : Nat → Prop} {w w' : World} {g o : Nat} {p : Cu} (h : At3 w g o p) (hk : Kp S w w') (hs : ¬ S g) : At3 w' g o p :=
  ⟨keepc hk h.1 hs, keepc hk h.2.1 hs, keepc hk h.2.2 hs⟩
theorem RdC.nw {w w' : World} {v : Value} {ps : List Cu} (h : RdC w v ps) (hk : Kp Nw w w') : RdC w' v ps := by
  obtain ⟨A, c, rfl, hA⟩ := h
  exact ⟨A, c, rfl, fun k hlt => by obtain ⟨g, o, e, h⟩ := hA k hlt; exact ⟨g, o, e, h.kp hk (fun h => h)⟩⟩

/-- a slice value at the head of a row of clues of its own, from block B on -/
def Co (w : World) (B : Nat) (v : Value) (ps : List Cu) : Prop := w.ownsRow B 25 3 v ps.length (cv ps)
theorem Co.kp {w w' : World} {B : Nat} {v : Value} {xs : List Cu} {S : Nat → Prop} (h : Co w B v xs) (hk : Kp S w w') (hs : ∀ g, v.ownBlock = some g → ¬ S g) : Co w' B v xs := by
  refine ⟨h.1, ?_⟩
  rcases h.2 with hn | ⟨g, cap, cur, rfl, hb, hgg, rest⟩
  · exact .inl hn
  · exact .inr ⟨g, cap, cur, rfl, hb, (hk.block g (Array.getElem?_eq_some_iff.1 hgg).1 (hs g rfl)).trans hgg, rest⟩
theorem Co.nw {w w' : World} {B : Nat} {v : Value} {xs : List Cu} (h : Co w B v xs) (hk : Kp Nw w w') : Co w' B v xs := h.kp hk (fun _ _ h => h)
theorem Co.below {w w' : World} {B : Nat} {v : Value} {xs : List Cu} (h : Co w B v xs) (hk : Below w.heap.size w w') : Co w' B v xs :=
  h.kp (S := fun _ => False) (.of_below hk) (fun _ _ hs => hs)
theorem Co.nil (w : World) (B : Nat) : Co w B (.slice none 0 0) [] := World.ownsRow_nil _ _ _ _
theorem Co.own_ge {w : World} {B : Nat} {v : Value} {xs : List Cu} (h : Co w B v xs) : ∀ g, v.ownBlock = some g → B ≤ g ∧ g < w.heap.size := World.ownsRow.lt h
theorem Co.from {w : World} {B B' : Nat} {v : Value} {xs : List Cu} (h : Co w B v xs) (hB : B' ≤ B) : Co w B' v xs := by
  refine ⟨h.1, ?_⟩
  rcases h.2 with hn | ⟨g, cap, cur, rfl, hb, rest⟩
  · exact .inl hn
  · exact .inr ⟨g, cap, cur, rfl, by omega, rest⟩
theorem Co.val {w : World} {B : Nat} {v : Value} {xs : List Cu} (h : Co w B v xs) {n : Nat} (hn : xs.length = n) : ∃ A c, v = .slice A n c := by
  subst hn
  rcases h.2 with ⟨rfl, h0⟩ | ⟨g, cap, cur, rfl, _⟩
  · exact ⟨none, 0, by rw [h0]⟩
  · exact ⟨_, cap, rfl⟩
/-- the row at an address and a capacity that are known -/
def ClAt (w : World) (B g cap n : Nat) (ps : List Cu) : Prop := ps.length = n ∧ w.ownsRow B 25 3 (.slice (some ⟨g, 0, none⟩) n cap) n (cv ps)
theorem ClAt.at3 {w : World} {B g cap n : Nat} {ps : List Cu} (h : ClAt w B g cap n ps) (j : Nat) (hj : j < n) : At3 w g (j * 3) (ps.getD j (0, 0, 0)) := by
  have hl : j < ps.length := by rw [h.1]; exact hj
  obtain ⟨h0, h1, h2⟩ := cv_get ps j hl
  refine ⟨?_, ?_, ?_⟩
  · rw [World.ownsRow.cellAt h.2 (j * 3) (by omega)]; exact h0
  · rw [World.ownsRow.cellAt h.2 (j * 3 + 1) (by omega)]; exact h1
  · rw [World.ownsRow.cellAt h.2 (j * 3 + 2) (by omega)]; exact h2
theorem ClAt.frozen {w : World} {B g cap n : Nat} {ps : List Cu} (h : ClAt w B g cap n ps) (j : Nat) : w.frozen? ⟨g, j, none⟩ = false := World.ownsRow.frozenAt h.2 j
theorem ClAt.co {w : World} {B g cap n : Nat} {ps : List Cu} (h : ClAt w B g cap n ps) : Co w B (.slice (some ⟨g, 0, none⟩) n cap) ps := by
  obtain ⟨rfl, h2⟩ := h
  exact h2
theorem Co.rd {w : World} {B : Nat} {v : Value} {ps : List Cu} (h : Co w B v ps) : RdC w v ps := by
  rcases h.2 with ⟨rfl, hn⟩ | ⟨g, cap, cur, rfl, _, hg, _⟩
  · exact ⟨none, 0, by rw [hn], fun k hk => by omega⟩
  · refine ⟨_, cap, rfl, fun k hk => ⟨g, 0, rfl, ?_⟩⟩
    rw [Nat.zero_add]
    exact ClAt.at3 (cap := cap) (B := B) ⟨rfl, h⟩ k hk
theorem ClAt.store {w : World} {B g cap n : Nat} {ps : List Cu} (h : ClAt w B g cap n ps) (j : Nat) (p : Cu) :
    ClAt (((w.setCell ⟨g, j * 3, none⟩ (.int .i64 p.1)).setCell ⟨g, j * 3 + 1, none⟩ (.int .i64 p.2.1)).setCell ⟨g, j * 3 + 2, none⟩ (.int .i64 p.2.2)) B g cap n (ps.set j p) :=
  ⟨by rw [List.length_set]; exact h.1, by
    rw [cv_set]
    exact (World.ownsRow.stored (World.ownsRow.stored (World.ownsRow.stored h.2 (j * 3) (.int .i64 p.1)).1 (j * 3 + 1) (.int .i64 p.2.1)).1 (j * 3 + 2) (.int .i64 p.2.2)).1⟩
theorem ClAt.kq {w w' : World} {B g cap n : Nat} {ps : List Cu} {S : Nat → Prop} (h : ClAt w B g cap n ps) (hk : Kp S w w') (hs : ¬ S g) : ClAt w' B g cap n ps := by
  have h1 := h.co.kp hk (fun g' e => by
    have e' : g' = g := by simp [Value.ownBlock] at e; omega
    rw [e']; exact hs)
  refine ⟨h.1, ?_⟩
  unfold Co at h1
  rw [h.1] at h1
  exact h1

theorem clueInfo : (Try.prog.info? 25).map (fun i => (i.zero, i.size, i.bytes)) = some (some (.agg #[.int .i64 0, .int .i64 0, .int .i64 0]), 3, 24) := by kernel_rfl
theorem Co.made {w : World} {B g n : Nat} (h : w.ownsRow B 25 3 (.slice (some ⟨g, 0, none⟩) n n) n (madeCells #[Value.int .i64 0, Value.int .i64 0, Value.int .i64 0] (n * 3)).toList) : ClAt w B g n n (List.replicate n (0, 0, 0)) := by
  rw [made_three] at h
  exact ⟨by simp, h⟩

set_option maxRecDepth 100000 in
theorem run_clu (w : World) (ty : TypeId) (B g : Nat) (v : Value) (xs : List Cu) (p : Cu) (hv : Co w B v xs) (h : At3 w g 0 p)
    (hl : xs.length ≤ 1000000) (hB : B ≤ w.heap.size) :
    ∃ v' w', (Builtin.append_ #[33, 33] ty #[v, .slice (some ⟨g, 0, none⟩) 1 1]).run Try.prog w = .ok v' w' ∧ Co w' B v' (xs ++ [p]) ∧ Kp (fun b => v.ownBlock = some b) w w' ∧ (v'.ownBlock = v.ownBlock ∨ v'.ownBlock = some w.heap.size) := by
  obtain ⟨i0, hi0, hz0, hz1, hz2⟩ := info_parts clueInfo
  obtain ⟨h0, h1, h2⟩ := h
  obtain ⟨v', w', hr, h2, h3, _, h5⟩ := run_append_own_at (P := Try.prog) w B 33 ty 25 i0 _ 3 24 Try.underlying33 hi0 hz0 hz1 hz2 rfl (by omega) v xs.length _ hv ⟨g, 0, none⟩ 1 1 [.int .i64 p.1, .int .i64 p.2.1, .int .i64 p.2.2] rfl
    (fun j u hj => by
      rw [addr_add, Nat.zero_add]
      rcases j with _ | _ | _ | j
      · simp at hj; subst hj; exact h0
      · simp at hj; subst hj; exact h1
      · simp at hj; subst hj; exact h2
      · simp at hj) (fun u hu => by simp at hu; rcases hu with rfl | rfl | rfl <;> rfl) (by unfold maxLen; omega) (by omega) hB
  refine ⟨v', w', hr, ?_, ⟨h3.os, h3.tape, h3.output, h3.size, fun k hk hs => h3.block k hk (fun e => hs e.symm)⟩, h5⟩
  unfold Co
  rw [List.length_append, cv_append]
  exact h2

set_option maxHeartbeats 800000 in
theorem toClue_any (p : Cu) (W : World) : Calls Try.prog 7 #[.agg #[.int .i64 p.1, .int .i64 p.2.1, .int .i64 p.2.2]] W fun e w' => e = .returned (.agg #[.int .i64 p.1, .int .i64 p.2.1, .int .i64 p.2.2]) ∧ Kp Nw W w' := by
  obtain ⟨a, b, c⟩ := p
  simp only
  go_enter Try.func7, Try.ntmps7
  go_wp2
  refine bodyPost_ret (v := .agg #[.int .i64 a, .int .i64 b, .int .i64 c]) (by simp [results, Try.results7, go_sem]) rfl ⟨rfl, ((Kp.al _ _).nw (.al _ _)).nw (.al _ _)⟩

set_option maxHeartbeats 800000 in
theorem eqClue_same (p : Cu) (W : World) : Calls Try.prog 31 #[.agg #[.int .i64 p.1, .int .i64 p.2.1, .int .i64 p.2.2], .agg #[.int .i64 p.1, .int .i64 p.2.1, .int .i64 p.2.2]] W fun e w' => e = .returned (.bool true) ∧ Kp Nw W w' := by
  obtain ⟨a, b, c⟩ := p
  simp only
  go_enter Try.func31, Try.ntmps31
  go_wp2
  go_ret
  exact ⟨rfl, (Kp.al _ _).nw (.al _ _)⟩

set_option maxRecDepth 100000 in
set_option maxHeartbeats 1600000 in
theorem eqClueS_same (u v : Value) (ps : List Cu) (w : World) (hu : RdC w u ps) (hv : RdC w v ps) (hl : ps.length ≤ maxLen) :
    Calls Try.prog 22 #[u, v] w fun e w' => e = .returned (.bool true) ∧ Kp Nw w w' := by
  obtain ⟨A, c, rfl, hA⟩ := hu
  obtain ⟨A', c', rfl, hA'⟩ := hv
  unfold maxLen at hl
  have HA := Lib.hid hA
  have HA' := Lib.hid hA'
  obtain ⟨n, hn⟩ : ∃ n, ps.length = n := ⟨_, rfl⟩
  rw [hn] at hl ⊢
  have HN := Lib.hid hn
  clear hA hA' hn
  go_enter Try.func22, Try.ntmps22
  go_wp2
  go_loopw [5] (fun i wr => ∃ k : Nat, k ≤ n ∧ i = .int .i64 k ∧ Kp Nw w wr) (fun i _ => n - (intOf i).toNat)
  case atStart => exact ⟨0, Nat.zero_le _, rfl, Kp.refl _ _⟩
  case round =>
    rename_i wr
    obtain ⟨k, hk, rfl, hkw⟩ := hrel
    have HK := Lib.hid hkw
    by_cases hlt : k < n
    · obtain ⟨g, o, rfl, hc⟩ := HA.out k (by rw [HN.out]; exact hlt)
      obtain ⟨g', o', rfl, hc'⟩ := HA'.out k (by rw [HN.out]; exact hlt)
      obtain ⟨p, hp⟩ : ∃ p, ps.getD k (0, 0, 0) = p := ⟨_, rfl⟩
      rw [hp] at hc hc'
      have H1 := Lib.hid (hc.kp hkw (fun h => h))
      have H2 := Lib.hid (hc'.kp hkw (fun h => h))
      obtain ⟨a0, a1, a2⟩ := H1.out
      obtain ⟨b0, b1, b2⟩ := H2.out
      have h0 : (0 : Int) ≤ k := Int.natCast_nonneg _
      have h1 : (k : Int) < n := by omega
      clear hc hc' hp hkw
      go_wp2_with fail
      go_region_held3 (fun w' => Kp Nw wr w' ∧ w'.cell? ⟨g, o + k * 3, none⟩ = some (.int .i64 p.1) ∧ w'.cell? ⟨g, o + k * 3 + 1, none⟩ = some (.int .i64 p.2.1) ∧ w'.cell? ⟨g, o + k * 3 + 2, none⟩ = some (.int .i64 p.2.2) ∧ w'.cell? ⟨g', o' + k * 3, none⟩ = some (.int .i64 p.1) ∧ w'.cell? ⟨g', o' + k * 3 + 1, none⟩ = some (.int .i64 p.2.1) ∧ w'.cell? ⟨g', o' + k * 3 + 2, none⟩ = some (.int .i64 p.2.2))
        (first
          | exact ⟨(Kp.refl _ _).drew, H1.out.1, H1.out.2.1, H1.out.2.2, H2.out.1, H2.out.2.1, H2.out.2.2⟩
          | exact ⟨hkW1, (H1.out.kp hkW1 (fun h => h)).1, (H1.out.kp hkW1 (fun h => h)).2.1, (H1.out.kp hkW1 (fun h => h)).2.2, (H2.out.kp hkW1 (fun h => h)).1, (H2.out.kp hkW1 (fun h => h)).2.1, (H2.out.kp hkW1 (fun h => h)).2.2⟩
          | fail)
        (first
          | (go_at_call 31
             refine (eqClue_same p _).mono ?_
             rintro e w1 ⟨rfl, hk1⟩
             have hkW1 := (‹Kp Nw wr _ ∧ _›.1).nw hk1)
          | fail)
      all_goals
        have HK1 := Lib.hid (HK.out.nw hkW1)
        clear hkW1 hk1
        go_wp2
        go_roundw
        case rel => exact ⟨k + 1, by omega, by go_num, HK1.out⟩
        case measure => simp [intOf]; omega
    · clear hkw
      go_wp2
      go_ret
      exact ⟨rfl, HK.out⟩

/-- what the laws' copy of clues returns -/
def CluCopy (W : World) (n : Nat) (ps : List Cu) (e : Ending) (w' : World) : Prop := ∃ g, e = .returned (.slice (some ⟨g, 0, none⟩) n n) ∧ ClAt w' W.heap.size g n n ps ∧ Kp Nw W w' ∧ W.heap.size ≤ g ∧ g < w'.heap.size

set_option maxRecDepth 100000 in
set_option maxHeartbeats 1600000 in
theorem toClueS_any (A : Option Addr) (n c : Nat) (ps : List Cu) (W : World) (hu : RdC W (.slice A n c) ps) (hn : ps.length = n) (hl : n ≤ 1048576) :
    Calls Try.prog 20 #[.slice A n c] W (CluCopy W n ps) := by
  obtain ⟨i0, hi0, hz0, hz1, hz2⟩ := info_parts clueInfo
  obtain ⟨A', c', hA', hA⟩ := hu
  rw [hn] at hA'
  injection hA' with e1 e2 e3
  subst e1
  have HA := Lib.hid hA
  have HN := Lib.hid hn
  clear hA hn e2 e3
  go_enter Try.func20, Try.ntmps20
  go_wp2_with (first | (at_make; refine wpList_make_full _ rfl _ _ 33 rfl W.heap.size 25 i0 (.agg #[.int .i64 0, .int .i64 0, .int .i64 0]) 3 Try.underlying33 hi0 hz0 hz1 _ _ _ _ n rfl rfl rfl rfl (by rw [hz2]; omega) (by unfold maxLen; omega) (Nat.le_refl _) ?_))
  intro w1 hown hgrow
  have hk1 : Kp Nw W w1 := (Kp.refl _ _).grown hgrow (fun g hg => by cases hg)
  have HS := Lib.hid (Co.made hown)
  have HK := Lib.hid hk1
  have hgw : W.heap.size < w1.heap.size := (World.ownsRow.lt hown _ rfl).2
  clear hown hgrow hk1
  go_wp2
  go_loopw [4] (fun i wr => ∃ j : Nat, j ≤ n ∧ i = .int .i64 j ∧ Hid (ClAt wr W.heap.size W.heap.size n n (fill ps (List.replicate n (0, 0, 0)) j)) ∧ Hid (Kp Nw W wr) ∧ W.heap.size < wr.heap.size) (fun i _ => n - (intOf i).toNat)
  case atStart => exact ⟨0, Nat.zero_le _, rfl, Lib.hid (by rw [fill_zero]; exact HS.out), HK, hgw⟩
  case round =>
    rename_i wr
    obtain ⟨j, hj, rfl, H, HK2, hgr⟩ := hrel
    by_cases hlt : j < n
    · obtain ⟨g, o, rfl, hc⟩ := HA.out j (by rw [HN.out]; exact hlt)
      obtain ⟨p, hp⟩ : ∃ p, ps.getD j (0, 0, 0) = p := ⟨_, rfl⟩
      rw [hp] at hc
      have HP := Lib.hid hp
      obtain ⟨a0, a1, a2⟩ := hc.kp HK2.out (fun h => h)
      have j0 : (0 : Int) ≤ j := Int.natCast_nonneg _
      have j1 : (j : Int) < n := by omega
      clear hc hp
      go_wp2_with fail
      refine (toClue_any p _).mono ?_
      rintro e w2 ⟨rfl, hk2⟩
      have H2 := Lib.hid (H.out.kq hk2 (fun h => h))
      have HK3 := Lib.hid (HK2.out.nw hk2)
      have hg2 : W.heap.size < w2.heap.size := Nat.lt_of_lt_of_le hgr hk2.size
      obtain ⟨s0, s1, s2⟩ := H2.out.at3 j hlt
      have f0 := H2.out.frozen (j * 3)
      have f1 := H2.out.frozen (j * 3 + 1)
      have f2 := H2.out.frozen (j * 3 + 2)
      clear hk2 a0 a1 a2
      go_wp2
      go_roundw
      case rel =>
        refine ⟨j + 1, by omega, by go_num, Lib.hid ?_, Lib.hid (((HK3.out.setCell (.inr (Nat.le_refl _)) _).setCell (.inr (Nat.le_refl _)) _).setCell (.inr (Nat.le_refl _)) _), by simpa [World.setCell] using hg2⟩
        have h2 := H2.out.store j p
        rw [fill_set ps _ j p (by simp [HN.out]) (by rw [HN.out]; exact hlt) (by rw [← HP.out]; simp [HN.out, hlt])] at h2
        exact h2
      case measure => simp [intOf]; omega
    · have e : j = n := by omega
      subst e
      have hn1 := HN.out
      have hs := H.out
      rw [show fill ps (List.replicate j (0, 0, 0)) j = ps by
        have := fill_all ps (List.replicate j (0, 0, 0)) (by simp [hn1])
        rwa [hn1] at this] at hs
      have H3 := Lib.hid hs
      clear hs hn1
      go_wp2
      go_ret
      exact ⟨_, rfl, H3.out, HK2.out, Nat.le_refl _, hgr⟩

/-- a slice value over the head of a block that may be longer, from block B on: the cells there are those of the clues -/
def Cl (w : World) (B : Nat) (v : Value) (ps : List Cu) : Prop := (v = .slice none 0 0 ∧ ps = []) ∨
  ∃ g cap cur t, v = .slice (some ⟨g, 0, none⟩) ps.length cap ∧ B ≤ g ∧ w.heap[g]? = some (.cells cur t (0, 0)) ∧ cur.toList.take (ps.length * 3) = cv ps
theorem Cl.nil (w : World) (B : Nat) : Cl w B (.slice none 0 0) [] := .inl ⟨rfl, rfl⟩
theorem cl_cell {w : World} {g : Nat} {cur : Array Value} {t : TypeId} {xs : List Value} (hb : w.heap[g]? = some (.cells cur t (0, 0))) (ht : cur.toList.take xs.length = xs) (k : Nat) (hk : k < xs.length) : w.cell? ⟨g, k, none⟩ = xs[k]? := by
  rw [cell_of_row w g k _ _ _ hb, ← Array.getElem?_toList, ← List.getElem?_take_of_lt hk, ht]
theorem cl_store {w : World} {g j : Nat} {cur : Array Value} {t : TypeId} {xs : List Value} (hb : w.heap[g]? = some (.cells cur t (0, 0))) (ht : cur.toList.take xs.length = xs) (u : Value) :
    ∃ cur', (w.setCell ⟨g, j, none⟩ u).heap[g]? = some (.cells cur' t (0, 0)) ∧ cur'.toList.take (xs.set j u).length = xs.set j u := by
  refine ⟨_, heap_setCell_same w g j _ _ u hb, ?_⟩
  rw [Array.toList_setIfInBounds, List.length_set, List.take_set, ht]
theorem cl_at3 {w : World} {g : Nat} {cur : Array Value} {t : TypeId} {ps : List Cu} (hb : w.heap[g]? = some (.cells cur t (0, 0))) (ht : cur.toList.take (ps.length * 3) = cv ps) (j : Nat) (hl : j < ps.length) : At3 w g (j * 3) (ps.getD j (0, 0, 0)) := by
  obtain ⟨h0, h1, h2⟩ := cv_get ps j hl
  rw [← cv_length] at ht
  have hcl := cv_length ps
  refine ⟨?_, ?_, ?_⟩
  · rw [cl_cell hb ht _ (by omega)]; exact h0
  · rw [cl_cell hb ht _ (by omega)]; exact h1
  · rw [cl_cell hb ht _ (by omega)]; exact h2
theorem cl_store3 {w : World} {g : Nat} {cur : Array Value} {t : TypeId} {ps : List Cu} (hb : w.heap[g]? = some (.cells cur t (0, 0))) (ht : cur.toList.take (ps.length * 3) = cv ps) (j : Nat) (p : Cu) :
    ∃ cur', (((w.setCell ⟨g, j * 3, none⟩ (.int .i64 p.1)).setCell ⟨g, j * 3 + 1, none⟩ (.int .i64 p.2.1)).setCell ⟨g, j * 3 + 2, none⟩ (.int .i64 p.2.2)).heap[g]? = some (.cells cur' t (0, 0)) ∧ cur'.toList.take ((ps.set j p).length * 3) = cv (ps.set j p) := by
  rw [← cv_length] at ht
  obtain ⟨c1, hb1, ht1⟩ := cl_store (j := j * 3) hb ht (.int .i64 p.1)
  obtain ⟨c2, hb2, ht2⟩ := cl_store (j := j * 3 + 1) hb1 ht1 (.int .i64 p.2.1)
  obtain ⟨c3, hb3, ht3⟩ := cl_store (j := j * 3 + 2) hb2 ht2 (.int .i64 p.2.2)
  refine ⟨c3, hb3, ?_⟩
  rw [cv_set, ← ht3]
  congr 1
  simp [cv_length]
theorem Cl.kp {w w' : World} {B : Nat} {v : Value} {xs : List Cu} {S : Nat → Prop} (h : Cl w B v xs) (hk : Kp S w w') (hs : ∀ g, v.ownBlock = some g → ¬ S g) : Cl w' B v xs := by
  rcases h with h | ⟨g, cap, cur, t, rfl, hB, hb, ht⟩
  · exact .inl h
  · exact .inr ⟨g, cap, cur, t, rfl, hB, (hk.block g (Array.getElem?_eq_some_iff.1 hb).1 (hs g rfl)).trans hb, ht⟩
theorem Cl.nw {w w' : World} {B : Nat} {v : Value} {xs : List Cu} (h : Cl w B v xs) (hk : Kp Nw w w') : Cl w' B v xs := h.kp hk (fun _ _ h => h)
theorem Cl.below {w w' : World} {B : Nat} {v : Value} {xs : List Cu} (h : Cl w B v xs) (hk : Below w.heap.size w w') : Cl w' B v xs :=
  h.kp (S := fun _ => False) (.of_below hk) (fun _ _ hs => hs)
theorem Cl.form {w : World} {B : Nat} {v : Value} {xs : List Cu} (h : Cl w B v xs) :
    (v = .slice none 0 0 ∧ xs = []) ∨ ∃ g cap, v = .slice (some ⟨g, 0, none⟩) xs.length cap ∧ B ≤ g ∧ g < w.heap.size := by
  rcases h with h | ⟨g, cap, cur, t, rfl, hb, hg, _⟩
  · exact .inl h
  · exact .inr ⟨g, cap, rfl, hb, (Array.getElem?_eq_some_iff.1 hg).1⟩
theorem Cl.own_ge {w : World} {B : Nat} {v : Value} {xs : List Cu} (h : Cl w B v xs) : ∀ g, v.ownBlock = some g → B ≤ g ∧ g < w.heap.size := by
  intro g' hg
  rcases h.form with ⟨rfl, rfl⟩ | ⟨g, cap, rfl, hB, hb⟩
  · simp [Value.ownBlock] at hg
  · have e : g' = g := by simp [Value.ownBlock] at hg; omega
    rw [e]
    exact ⟨hB, hb⟩
theorem Cl.from {w : World} {B B' : Nat} {v : Value} {xs : List Cu} (h : Cl w B v xs) (hB : B' ≤ B) : Cl w B' v xs := by
  rcases h with h | ⟨g, cap, cur, t, rfl, hb, r⟩
  · exact .inl h
  · exact .inr ⟨g, cap, cur, t, rfl, by omega, r⟩
theorem Cl.val {w : World} {B : Nat} {v : Value} {xs : List Cu} (h : Cl w B v xs) {n : Nat} (hn : xs.length = n) : ∃ A c, v = .slice A n c := by
  subst hn
  rcases h with ⟨rfl, rfl⟩ | ⟨g, cap, cur, t, rfl, _⟩
  · exact ⟨none, 0, rfl⟩
  · exact ⟨_, cap, rfl⟩
theorem Cl.rd {w : World} {B : Nat} {v : Value} {ps : List Cu} (h : Cl w B v ps) : RdC w v ps := by
  rcases h with ⟨rfl, rfl⟩ | ⟨g, cap, cur, t, rfl, _, hb, ht⟩
  · exact ⟨none, 0, rfl, fun k hk => by simp at hk⟩
  · refine ⟨_, cap, rfl, fun k hk => ⟨g, 0, rfl, ?_⟩⟩
    rw [Nat.zero_add]
    exact cl_at3 hb ht k hk
theorem Co.cl {w : World} {B : Nat} {v : Value} {ps : List Cu} (h : Co w B v ps) : Cl w B v ps := by
  rcases h.2 with ⟨rfl, h0⟩ | ⟨g, cap, cur, rfl, hB, hb, _, _, _, ht⟩
  · exact .inl ⟨rfl, List.eq_nil_of_length_eq_zero h0⟩
  · exact .inr ⟨g, cap, cur, _, rfl, hB, hb, ht⟩
theorem ClAt.cl {w : World} {B g cap n : Nat} {ps : List Cu} (h : ClAt w B g cap n ps) : Cl w B (.slice (some ⟨g, 0, none⟩) n cap) ps := h.co.cl
/-- the head of such a row -/
theorem Cl.take {w : World} {B : Nat} {g n c : Nat} {ps : List Cu} (h : Cl w B (.slice (some ⟨g, 0, none⟩) n c) ps) (k c' : Nat) (hk : k ≤ n) : Cl w B (.slice (some ⟨g, 0, none⟩) k c') (ps.take k) := by
  rcases h with ⟨h, _⟩ | ⟨g', cap, cur, t, hv, hB, hb, ht⟩
  · cases h
  · injection hv with e1 e2 e3
    injection e1 with e1
    injection e1 with e1
    subst e1 e2
    refine .inr ⟨g, c', cur, t, by rw [List.length_take, Nat.min_eq_left hk], hB, hb, ?_⟩
    rw [List.length_take, Nat.min_eq_left hk]
    unfold cv at ht ⊢
    rw [f3_take, List.map_take, ← ht, List.take_take, Nat.min_eq_left (by omega)]

/-- marks on clues -/
def ms (k : Int) (n : Nat) : List Cu := (List.range n).map fun i : Nat => (k + 3 * (i : Int), k + 3 * (i : Int) + 1, k + 3 * (i : Int) + 2)
theorem ms_length (k : Int) (n : Nat) : (ms k n).length = n := by simp [ms]
theorem ms_getD (k : Int) (n j : Nat) (h : j < n) : (ms k n).getD j (0, 0, 0) = (k + 3 * (j : Int), k + 3 * (j : Int) + 1, k + 3 * (j : Int) + 2) := by simp [ms, h]
theorem ms_step (k : Int) (xs : List Cu) (j : Nat) (h : j < xs.length) : (ms k j ++ xs.drop j).set j (k + 3 * (j : Int), k + 3 * (j : Int) + 1, k + 3 * (j : Int) + 2) = ms k (j + 1) ++ xs.drop (j + 1) := by
  have e : xs.drop j = xs[j] :: xs.drop (j + 1) := List.drop_eq_getElem_cons h
  rw [e, List.set_append_right _ _ (by rw [ms_length]; exact Nat.le_refl _), ms_length, Nat.sub_self, List.set_cons_zero]
  simp [ms, List.range_succ]
theorem szClueS_gen (A : Option Addr) (n c : Nat) (l : Int) (W : World) (hn : n ≤ maxLen) (l0 : 0 ≤ l) (l1 : l ≤ 1048576) :
    Calls Try.prog 18 #[.slice A n c, .int .i64 l] W fun e w' => e = .returned (.int .i64 (if (n : Int) ≤ l then l - (n : Int) else -1)) ∧ W = w' := by
  unfold maxLen at hn
  by_cases h : (n : Int) ≤ l
  · rw [if_pos h]
    have h1 : (0 : Int) ≤ l - (n : Int) := by omega
    go_enter Try.func18, Try.ntmps18
    go_wp2
    go_ret
    exact ⟨rfl, rfl⟩
  · rw [if_neg h]
    have h1 : l - (n : Int) < 0 := by omega
    go_enter Try.func18, Try.ntmps18
    go_wp2
    go_ret
    exact ⟨rfl, rfl⟩
end Go.Proofs.Ytcfghaeogbimeaa
