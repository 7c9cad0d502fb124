/- Rows of choices (two numbers each) in memory, and what a choice's methods return; no condition but that the rows have at most a million. -/
import Derived.Test.YtjlbillfbhkamaaDel
import Derived.Test.YtjlbillfbhkamaaLetGo
import Derived.Test.YtjlbillfbhkamaaDeckT
import Derived.Laws.StructEq
namespace Go.Proofs.Ytjlbillfbhkamaa
open Go.ChangeShapes Go.WideShapes Go.ChangeAt Go.RowKit

/-- a slice value at the head of a row of choices of its own, from block B on -/
def Cs (w : World) (B : Nat) (v : Value) (rs : List (Int × Int)) : Prop := w.ownsRow B 44 2 v rs.length (flat rs)
theorem Cs.kp {w w' : World} {B : Nat} {v : Value} {xs : List (Int × Int)} {S : Nat → Prop} (h : Cs w B v xs) (hk : Kp S w w') (hs : ∀ g, v.ownBlock = some g → ¬ S g) : Cs w' B v xs := by
  refine ⟨h.1, ?_⟩
  rcases h.2 with hn | ⟨g, cap, cur, rfl, hb, hgg, rest⟩
  · exact .inl hn
  · exact .inr ⟨g, cap, cur, rfl, hb, (hk.block g (Array.getElem?_eq_some_iff.1 hgg).1 (hs g rfl)).trans hgg, rest⟩
theorem Cs.nw {w w' : World} {B : Nat} {v : Value} {xs : List (Int × Int)} (h : Cs w B v xs) (hk : Kp Nw w w') : Cs w' B v xs := h.kp hk (fun _ _ h => h)
theorem Cs.nil (w : World) (B : Nat) : Cs w B (.slice none 0 0) [] := World.ownsRow_nil _ _ _ _
theorem Cs.own_ge {w : World} {B : Nat} {v : Value} {xs : List (Int × Int)} (h : Cs w B v xs) : ∀ g, v.ownBlock = some g → B ≤ g ∧ g < w.heap.size := World.ownsRow.lt h
theorem Cs.from {w : World} {B B' : Nat} {v : Value} {xs : List (Int × Int)} (h : Cs w B v xs) (hB : B' ≤ B) : Cs w B' v xs := by
  refine ⟨h.1, ?_⟩
  rcases h.2 with hn | ⟨g, cap, cur, rfl, hb, rest⟩
  · exact .inl hn
  · exact .inr ⟨g, cap, cur, rfl, by omega, rest⟩
theorem Cs.val {w : World} {B : Nat} {v : Value} {xs : List (Int × Int)} (h : Cs w B v xs) {n : Nat} (hn : xs.length = n) : ∃ A c, v = .slice A n c := by
  subst hn
  rcases h.2 with ⟨rfl, h0⟩ | ⟨g, cap, cur, rfl, _⟩
  · exact ⟨none, 0, by rw [h0]⟩
  · exact ⟨_, cap, rfl⟩
/-- reading a choice -/
theorem Cs.cell {w : World} {B n c : Nat} {A : Option Addr} {xs : List (Int × Int)} (h : Cs w B (.slice A n c) xs) (j : Nat) (hj : j < xs.length) :
    ∃ g, A = some ⟨g, 0, none⟩ ∧ w.cell? ⟨g, j * 2, none⟩ = some (.int .i64 (xs.getD j (0, 0)).1) ∧ w.cell? ⟨g, j * 2 + 1, none⟩ = some (.int .i64 (xs.getD j (0, 0)).2) := by
  rcases h.2 with ⟨_, h0⟩ | ⟨g, cap, cur, he, _⟩
  · omega
  · injection he with h1 h2 h3
    subst h1
    subst h2
    subst h3
    obtain ⟨f0, f1⟩ := flat_get xs j hj
    refine ⟨g, rfl, ?_, ?_⟩
    · rw [World.ownsRow.cellAt h (j * 2) (by omega)]; exact f0
    · rw [World.ownsRow.cellAt h (j * 2 + 1) (by omega)]; exact f1

theorem choiceInfo : (Try.prog.info? 44).map (fun i => (i.zero, i.size, i.bytes)) = some (some (.agg #[.int .i64 0, .int .i64 0]), 2, 16) := by kernel_rfl
set_option maxRecDepth 100000 in
theorem run_cho (w : World) (ty : TypeId) (B g : Nat) (v : Value) (xs : List (Int × Int)) (x y : Int) (hv : Cs w B v xs) (h0 : w.cell? ⟨g, 0, none⟩ = some (.int .i64 x)) (h1 : w.cell? ⟨g, 1, none⟩ = some (.int .i64 y))
    (hl : xs.length ≤ 1000000) (hB : B ≤ w.heap.size) :
    ∃ v' w', (Builtin.append_ #[41, 41] ty #[v, .slice (some ⟨g, 0, none⟩) 1 1]).run Try.prog w = .ok v' w' ∧ Cs w' B v' (xs ++ [(x, y)]) ∧ Kp (fun b => v.ownBlock = some b) w w' ∧ (v'.ownBlock = v.ownBlock ∨ v'.ownBlock = some w.heap.size) := by
  obtain ⟨i0, hi0, hz0, hz1, hz2⟩ := info_parts choiceInfo
  obtain ⟨v', w', hr, h2, h3, _, h5⟩ := run_append_own_at (P := Try.prog) w B 41 ty 44 i0 _ 2 16 Try.underlying41 hi0 hz0 hz1 hz2 rfl (by omega) v xs.length _ hv ⟨g, 0, none⟩ 1 1 [.int .i64 x, .int .i64 y] rfl
    (fun j u hj => by
      rw [addr_add, Nat.zero_add]
      rcases j with _ | _ | j
      · simp at hj; subst hj; exact h0
      · simp at hj; subst hj; exact h1
      · simp at hj) (fun u hu => by simp at hu; rcases hu with rfl | rfl <;> rfl) (by unfold maxLen; omega) (by omega) hB
  refine ⟨v', w', hr, ?_, ⟨h3.os, h3.tape, h3.output, h3.size, fun k hk hs => h3.block k hk (fun e => hs e.symm)⟩, h5⟩
  unfold Cs
  rw [List.length_append, flat_append]
  exact h2
theorem wpList_cho (w : World) {ops : Array Oper} {rest : List Oper} {o : Oper} {a : Act} {Q : Exit → Act → World → Prop} (hgd : o.guard = none) (s x : Operand)
    (ho : o.op = .call { callee := .builtin .append, args := #[s, x], argTypes := #[41, 41] })
    (B g : Nat) (v : Value) (xs : List (Int × Int)) (p q : Int) (hs : a.eval s = v) (hx : a.eval x = .slice (some ⟨g, 0, none⟩) 1 1) (hv : Cs w B v xs) (h0 : w.cell? ⟨g, 0, none⟩ = some (.int .i64 p)) (h1 : w.cell? ⟨g, 1, none⟩ = some (.int .i64 q))
    (hl : xs.length ≤ 1000000) (hB : B ≤ w.heap.size)
    (h : ∀ v' w', Cs w' B v' (xs ++ [(p, q)]) → Kp (fun b => v.ownBlock = some b) w w' → (v'.ownBlock = v.ownBlock ∨ v'.ownBlock = some w.heap.size) → wpList Try.prog ops Q rest (a.put o.dst v') w') : wpList Try.prog ops Q (o :: rest) a w :=
  wpList_plain hgd fun _ hK => by
    obtain ⟨v', w', hr, h2, h3, h4⟩ := run_cho w o.type B g v xs p q hv h0 h1 hl hB
    unfold Oper.wp execOp
    simp only [ho, resolve, invoke, builtin, Sem.run_bind, Sem.run_pure, Result.andThen_ok, List.map_toArray, List.map_cons, List.map_nil, hs, hx, hr]
    exact hK _ _ (h v' w' h2 h3 h4)

theorem choiceOf_any (x : Int) (W : World) : Calls Try.prog 41 #[.int .i64 x] W fun e w' => e = .returned (.agg #[.int .i64 x, .int .i64 x]) ∧ Kp Nw W w' := by
  go_enter Try.func41, Try.ntmps41
  go_wp2
  refine bodyPost_ret (v := .agg #[.int .i64 x, .int .i64 x]) (by simp [results, Try.results41, go_sem]) rfl ⟨rfl, Kp.al _ _⟩

set_option maxRecDepth 100000 in
theorem isOne_any (a b : Int) (W : World) : Calls Try.prog 33 #[.agg #[.int .i64 a, .int .i64 b]] W fun e w' => e = .returned (.bool (decide (a = b))) ∧ Kp Nw W w' := by
  have c0 : (W.alloc (.cells #[.int .i64 a, .int .i64 b] 44)).cell? ⟨W.heap.size, 0, none⟩ = some (.int .i64 a) := by simp [World.cell?_alloc_at]
  have c1 : (W.alloc (.cells #[.int .i64 a, .int .i64 b] 44)).cell? ⟨W.heap.size, 1, none⟩ = some (.int .i64 b) := by simp [World.cell?_alloc_at]
  have C0 := Lib.hid c0
  have C1 := Lib.hid c1
  clear c0 c1
  by_cases h : a = b
  · subst h
    rw [decide_eq_true rfl]
    go_enter Try.func33, Try.ntmps33
    go_wp2_with fail
    go_region_held3 (fun w' => Kp Nw (W.alloc (.cells #[.int .i64 a, .int .i64 a] 44)) w' ∧ w'.cell? ⟨W.heap.size, 0, none⟩ = some (.int .i64 a) ∧ w'.cell? ⟨W.heap.size, 1, none⟩ = some (.int .i64 a))
      (first
        | exact ⟨(Kp.refl _ _).drew, C0.out, C1.out⟩
        | exact ⟨hkW1, keepc hkW1 C0.out (fun h => h), keepc hkW1 C1.out (fun h => h)⟩)
      (first
        | (go_at_call 41
           refine (choiceOf_any a _).mono ?_
           rintro e w1 ⟨rfl, hk1⟩
           have hkW1 := (‹Kp Nw _ _ ∧ _›.1).nw hk1))
    have HK := Lib.hid ((Kp.al W _).nw hkW1)
    clear hkW1 hk1
    go_wp2
    go_ret
    exact ⟨ret_bool (by simp), HK.out⟩
  · rw [decide_eq_false h]
    have h' : b ≠ a := fun e => h e.symm
    go_enter Try.func33, Try.ntmps33
    go_wp2_with fail
    go_region_held3 (fun w' => Kp Nw (W.alloc (.cells #[.int .i64 a, .int .i64 b] 44)) w' ∧ w'.cell? ⟨W.heap.size, 0, none⟩ = some (.int .i64 a) ∧ w'.cell? ⟨W.heap.size, 1, none⟩ = some (.int .i64 b))
      (first
        | exact ⟨(Kp.refl _ _).drew, C0.out, C1.out⟩
        | exact ⟨hkW1, keepc hkW1 C0.out (fun h => h), keepc hkW1 C1.out (fun h => h)⟩)
      (first
        | (go_at_call 41
           refine (choiceOf_any a _).mono ?_
           rintro e w1 ⟨rfl, hk1⟩
           have hkW1 := (‹Kp Nw _ _ ∧ _›.1).nw hk1))
    have HK := Lib.hid ((Kp.al W _).nw hkW1)
    clear hkW1 hk1
    go_wp2
    go_ret
    exact ⟨ret_bool (by simp), HK.out⟩

/-- who goes in a round -/
def peo (r : Int × Int) : List Int := if r.1 = r.2 then [r.1] else [r.1, r.2]
theorem people_any (a b : Int) (W : World) : Calls Try.prog 31 #[.agg #[.int .i64 a, .int .i64 b]] W (Makes W (peo (a, b))) := by
  by_cases h : a = b
  · subst h
    have hp : peo (a, a) = [a] := if_pos rfl
    rw [hp]
    have HO : Hid (∀ w, Calls Try.prog 33 #[.agg #[.int .i64 a, .int .i64 a]] w fun e w' => e = .returned (.bool true) ∧ Kp Nw w w') := Lib.hid (fun w => by have := isOne_any a a w; rwa [decide_eq_true rfl] at this)
    have c0 : (W.alloc (.cells #[.int .i64 a, .int .i64 a] 44)).cell? ⟨W.heap.size, 0, none⟩ = some (.int .i64 a) := by simp [World.cell?_alloc_at]
    have C0 := Lib.hid c0
    clear hp c0
    go_enter Try.func31, Try.ntmps31
    go_wp2_with fail
    refine (HO.out _).mono ?_
    rintro e w1 ⟨rfl, hk⟩
    have d0 := keepc hk C0.out (fun h => h)
    have HK := Lib.hid ((Kp.al W _).nw hk)
    clear hk
    go_wp2
    go_ret
    exact ⟨_, rfl, (Sl.lit1 w1 a).from (HK.out.size), HK.out.nw (.al _ _)⟩
  · have hp : peo (a, b) = [a, b] := if_neg h
    rw [hp]
    have HO : Hid (∀ w, Calls Try.prog 33 #[.agg #[.int .i64 a, .int .i64 b]] w fun e w' => e = .returned (.bool false) ∧ Kp Nw w w') := Lib.hid (fun w => by have := isOne_any a b w; rwa [decide_eq_false h] at this)
    have c0 : (W.alloc (.cells #[.int .i64 a, .int .i64 b] 44)).cell? ⟨W.heap.size, 0, none⟩ = some (.int .i64 a) := by simp [World.cell?_alloc_at]
    have c1 : (W.alloc (.cells #[.int .i64 a, .int .i64 b] 44)).cell? ⟨W.heap.size, 1, none⟩ = some (.int .i64 b) := by simp [World.cell?_alloc_at]
    have C0 := Lib.hid c0
    have C1 := Lib.hid c1
    clear hp c0 c1
    go_enter Try.func31, Try.ntmps31
    go_wp2_with fail
    refine (HO.out _).mono ?_
    rintro e w1 ⟨rfl, hk⟩
    have d0 := keepc hk C0.out (fun h => h)
    have d1 := keepc hk C1.out (fun h => h)
    have HK := Lib.hid ((Kp.al W _).nw hk)
    clear hk
    go_wp2
    go_ret
    exact ⟨_, rfl, (Sl.lit2 w1 a b).from (HK.out.size), HK.out.nw (.al _ _)⟩

/-- does one go in a round -/
def hasC (x : Int) (r : Int × Int) : Bool := decide (r.1 = x) || decide (r.2 = x)
theorem hasC_any (a b x : Int) (W : World) : Calls Try.prog 39 #[.agg #[.int .i64 a, .int .i64 b], .int .i64 x] W fun e w' => e = .returned (.bool (hasC x (a, b))) ∧ Kp Nw W w' := by
  unfold hasC
  by_cases h : a = x
  · go_enter Try.func39, Try.ntmps39
    go_wp2
    go_ret
    exact ⟨ret_bool (by simp [h]), Kp.al _ _⟩
  · go_enter Try.func39, Try.ntmps39
    go_wp2
    go_ret
    exact ⟨ret_bool (by rw [Bool.eq_iff_iff]; simp), Kp.al _ _⟩
theorem hasCl_any (a b x : Int) (p : Nat) (W : World) (hc : W.cell? ⟨p, 0, none⟩ = some (.int .i64 x)) : Calls Try.prog 38 #[.agg #[.int .i64 a, .int .i64 b], .pointer (some ⟨p, 0, none⟩)] W fun e w' => e = .returned (.bool (hasC x (a, b))) ∧ Kp Nw W w' := by
  have HH := fun w => Lib.hid (hasC_any a b x w)
  obtain ⟨r, hr⟩ : ∃ r, hasC x (a, b) = r := ⟨_, rfl⟩
  rw [hr] at HH ⊢
  have HC := Lib.hid hc
  clear hr hc
  go_enter Try.func38, Try.ntmps38
  have c0 := keepc (Kp.al W (.cells #[.int .i64 a, .int .i64 b] 44)) HC.out (fun h => h)
  go_wp2_with fail
  refine (HH _).out.mono ?_
  rintro e w1 ⟨rfl, hk1⟩
  have HK1 := Lib.hid hk1
  clear hk1
  go_wp2
  go_ret
  exact ⟨rfl, (Kp.al _ _).nw HK1.out⟩

/-- the place of the first round in which one goes -/
def FirstC (x : Int) (rs : List (Int × Int)) (i : Nat) : Prop := i < rs.length ∧ hasC x (rs.getD i (0, 0)) = true ∧ ∀ j, j < i → hasC x (rs.getD j (0, 0)) = false
set_option maxRecDepth 100000 in
set_option maxHeartbeats 1600000 in
theorem indexC_any (B i p n c : Nat) (A : Option Addr) (rs : List (Int × Int)) (x : Int) (W : World) (hr : Cs W B (.slice A n c) rs) (hn : rs.length = n) (hn2 : n ≤ 1000000) (hc : W.cell? ⟨p, 0, none⟩ = some (.int .i64 x)) (hf : FirstC x rs i) :
    Calls Try.prog 37 #[.slice A n c, .func (.func 38) #[] #[.pointer (some ⟨p, 0, none⟩)]] W fun e w' => e = .returned (.int .i64 i) ∧ Kp Nw W w' := by
  have hi : i < n := by rw [← hn]; exact hf.1
  obtain ⟨g, rfl, _⟩ := hr.cell i hf.1
  have HR := Lib.hid hr
  have HN := Lib.hid hn
  have HF := Lib.hid hf
  have HC := Lib.hid hc
  clear hr hn hf hc
  go_enter Try.func37, Try.ntmps37
  go_wp2
  go_loopw [5, 8] (fun _ v wr => ∃ j : Nat, j ≤ i ∧ v = .int .i64 j ∧ Kp Nw W wr) (fun _ v _ => i + 1 - (intOf v).toNat)
  case atStart => exact ⟨0, Nat.zero_le _, rfl, Kp.refl _ _⟩
  case round =>
    obtain ⟨j, hj, rfl, hkk⟩ := hrel
    obtain ⟨g', hg', d0, d1⟩ := HR.out.cell j (by rw [HN.out]; omega)
    injection hg' with hg'
    injection hg' with hg'
    subst hg'
    have c0 := keepc hkk d0 (fun h => h)
    have c1 := keepc hkk d1 (fun h => h)
    obtain ⟨⟨y, z⟩, hy⟩ : ∃ y, rs.getD j (0, 0) = y := ⟨_, rfl⟩
    rw [hy] at c0 c1
    have HY := Lib.hid hy
    have HK := Lib.hid hkk
    have j0 : (0 : Int) ≤ j := Int.natCast_nonneg _
    have j1 : (j : Int) < n := by omega
    clear hkk hy d0 d1
    by_cases e : j < i
    · have HB := HF.out.2.2 j e
      rw [HY.out] at HB
      have CC := Lib.hid (hasCl_any y z x p _ (keepc HK.out HC.out (fun h => h)))
      rw [HB] at CC
      clear HB
      go_wp2_with fail
      refine CC.out.mono ?_
      rintro e w1 ⟨rfl, hk1⟩
      have HK1 := Lib.hid hk1
      clear hk1 c1 c0
      go_wp2
      go_roundw
      case rel => exact ⟨j + 1, by omega, by go_num, HK.out.nw HK1.out⟩
      case measure => simp [intOf]; omega
    · have ej : j = i := by omega
      subst ej
      have HB := HF.out.2.1
      rw [HY.out] at HB
      have CC := Lib.hid (hasCl_any y z x p _ (keepc HK.out HC.out (fun h => h)))
      rw [HB] at CC
      clear HB
      go_wp2_with fail
      refine CC.out.mono ?_
      rintro e w1 ⟨rfl, hk1⟩
      have HK1 := Lib.hid hk1
      clear hk1 c1 c0
      go_wp2
      go_ret
      exact ⟨rfl, HK.out.nw HK1.out⟩

/-- where a choice stands first, or -1 -/
def fndC (x : Int × Int) : List (Int × Int) → Nat → Int
  | [], _ => -1
  | y :: r, j => if y = x then (j : Int) else fndC x r (j + 1)
theorem fndC_drop (x : Int × Int) (xs : List (Int × Int)) (j : Nat) (h : j < xs.length) : fndC x (xs.drop j) j = if xs.getD j (0, 0) = x then (j : Int) else fndC x (xs.drop (j + 1)) (j + 1) := by
  rw [List.drop_eq_getElem_cons h, fndC]
  simp [h]
theorem fndC_mem (x : Int × Int) : ∀ (xs : List (Int × Int)) (j : Nat), (0 ≤ fndC x xs j ↔ x ∈ xs)
  | [], j => by simp [fndC]
  | y :: r, j => by
    unfold fndC
    by_cases e : y = x
    · rw [if_pos e]
      exact ⟨fun _ => by rw [e]; exact List.mem_cons_self, fun _ => Int.natCast_nonneg _⟩
    · rw [if_neg e, fndC_mem x r (j + 1)]
      have e2 : ¬ x = y := fun h => e h.symm
      rw [List.mem_cons]
      exact ⟨.inr, fun h => h.resolve_left e2⟩
set_option maxRecDepth 100000 in
set_option maxHeartbeats 1600000 in
theorem indexCho_any (B n c : Nat) (A : Option Addr) (rs : List (Int × Int)) (x y : Int) (W : World) (hr : Cs W B (.slice A n c) rs) (hn : rs.length = n) (hn2 : n ≤ 1000000) :
    Calls Try.prog 50 #[.slice A n c, .agg #[.int .i64 x, .int .i64 y]] W fun e w' => e = .returned (.int .i64 (fndC (x, y) rs 0)) ∧ Kp Nw W w' := by
  have HR := Lib.hid hr
  have HN := Lib.hid hn
  have b0 : (W.alloc (.cells #[.int .i64 x, .int .i64 y] 44)).cell? ⟨W.heap.size, 0, none⟩ = some (.int .i64 x) := by simp [World.cell?_alloc_at]
  have b1 : (W.alloc (.cells #[.int .i64 x, .int .i64 y] 44)).cell? ⟨W.heap.size, 1, none⟩ = some (.int .i64 y) := by simp [World.cell?_alloc_at]
  have B0 := Lib.hid b0
  have B1 := Lib.hid b1
  clear hr hn b0 b1
  go_enter Try.func50, Try.ntmps50
  go_wp2
  go_loopw [5, 8] (fun _ v wr => ∃ j : Nat, j ≤ n ∧ v = .int .i64 j ∧ fndC (x, y) (rs.drop j) j = fndC (x, y) rs 0 ∧ Kp Nw (W.alloc (.cells #[.int .i64 x, .int .i64 y] 44)) wr) (fun _ v _ => n - (intOf v).toNat)
  case atStart => exact ⟨0, Nat.zero_le _, rfl, rfl, Kp.refl _ _⟩
  case round =>
    rename_i wr
    obtain ⟨j, hj, rfl, hfj, hkk⟩ := hrel
    have j0 : (0 : Int) ≤ j := Int.natCast_nonneg _
    by_cases hlt : j < n
    · obtain ⟨g, rfl, d0, d1⟩ := HR.out.cell j (by rw [HN.out]; omega)
      have kk : Kp Nw W wr := (Kp.al W _).nw hkk
      have c0 : wr.drew.cell? ⟨g, j * 2, none⟩ = _ := keepc kk d0 (fun h => h)
      have c1 : wr.drew.cell? ⟨g, j * 2 + 1, none⟩ = _ := keepc kk d1 (fun h => h)
      have e0 : wr.drew.cell? ⟨W.heap.size, 0, none⟩ = _ := keepc hkk B0.out (fun h => h)
      have e1 : wr.drew.cell? ⟨W.heap.size, 1, none⟩ = _ := keepc hkk B1.out (fun h => h)
      obtain ⟨⟨u, v⟩, hy⟩ : ∃ y, rs.getD j (0, 0) = y := ⟨_, rfl⟩
      rw [hy] at c0 c1
      have HD := fndC_drop (x, y) rs j (by rw [HN.out]; exact hlt)
      rw [hy, hfj] at HD
      have HS : Hid (wr.drew.cell? ⟨g, j * 2, none⟩ = some (.int .i64 u) ∧ wr.drew.cell? ⟨g, j * 2 + 1, none⟩ = some (.int .i64 v) ∧ wr.drew.cell? ⟨W.heap.size, 0, none⟩ = some (.int .i64 x) ∧ wr.drew.cell? ⟨W.heap.size, 1, none⟩ = some (.int .i64 y)) := Lib.hid ⟨c0, c1, e0, e1⟩
      have HK := Lib.hid hkk
      have j1 : (j : Int) < n := by omega
      clear hkk kk hy d0 d1 c0 c1 e0 e1 hfj
      by_cases e : (u, v) = (x, y)
      · rw [if_pos e] at HD
        injection e with e1 e2
        subst e1
        subst e2
        have HE := Lib.hid HD
        clear HD
        go_wp2_with fail
        go_region_held3 (fun w' => w'.cell? ⟨g, j * 2, none⟩ = some (.int .i64 u) ∧ w'.cell? ⟨g, j * 2 + 1, none⟩ = some (.int .i64 v) ∧ w'.cell? ⟨W.heap.size, 0, none⟩ = some (.int .i64 u) ∧ w'.cell? ⟨W.heap.size, 1, none⟩ = some (.int .i64 v)) (exact HS.out) (fail)
        go_wp2
        go_ret
        exact ⟨ret_int HE.out.symm, ((Kp.al W _).nw HK.out).drew⟩
      · rw [if_neg e] at HD
        have HE := Lib.hid HD
        have hne : ¬ (x = u ∧ y = v) := fun h => e (by rw [h.1, h.2])
        clear HD e
        by_cases q1 : x = u
        · have q2 : y ≠ v := fun h => hne ⟨q1, h⟩
          subst q1
          clear hne
          go_wp2_with fail
          go_region_held3 (fun w' => w'.cell? ⟨g, j * 2, none⟩ = some (.int .i64 x) ∧ w'.cell? ⟨g, j * 2 + 1, none⟩ = some (.int .i64 v) ∧ w'.cell? ⟨W.heap.size, 0, none⟩ = some (.int .i64 x) ∧ w'.cell? ⟨W.heap.size, 1, none⟩ = some (.int .i64 y)) (exact HS.out) (fail)
          go_wp2
          go_roundw
          case rel => exact ⟨j + 1, by omega, by go_num, HE.out.symm, HK.out.drew⟩
          case measure => simp [intOf]; omega
        · clear hne
          go_wp2_with fail
          go_region_held3 (fun w' => w'.cell? ⟨g, j * 2, none⟩ = some (.int .i64 u) ∧ w'.cell? ⟨g, j * 2 + 1, none⟩ = some (.int .i64 v) ∧ w'.cell? ⟨W.heap.size, 0, none⟩ = some (.int .i64 x) ∧ w'.cell? ⟨W.heap.size, 1, none⟩ = some (.int .i64 y)) (exact HS.out) (fail)
          go_wp2
          go_roundw
          case rel => exact ⟨j + 1, by omega, by go_num, HE.out.symm, HK.out.drew⟩
          case measure => simp [intOf]; omega
    · have ej : j = n := by omega
      subst ej
      have HE : Hid (fndC (x, y) rs 0 = -1) := Lib.hid (by rw [← hfj, List.drop_eq_nil_of_le (by rw [HN.out]; exact Nat.le_refl _)]; rfl)
      have HK := Lib.hid hkk
      clear hkk hfj
      go_wp2
      go_ret
      exact ⟨ret_int HE.out.symm, (Kp.al W _).nw HK.out⟩
set_option maxRecDepth 100000 in
theorem containsC_any (B n c : Nat) (A : Option Addr) (rs : List (Int × Int)) (x y : Int) (W : World) (hr : Cs W B (.slice A n c) rs) (hn : rs.length = n) (hn2 : n ≤ 1000000) :
    Calls Try.prog 40 #[.slice A n c, .agg #[.int .i64 x, .int .i64 y]] W fun e w' => e = .returned (.bool (decide ((x, y) ∈ rs))) ∧ Kp Nw W w' := by
  obtain ⟨z, hz⟩ : ∃ z, fndC (x, y) rs 0 = z := ⟨_, rfl⟩
  have HZ := Lib.hid hz
  have hm := fndC_mem (x, y) rs 0
  rw [hz] at hm
  have HR := Lib.hid hr
  by_cases h : (x, y) ∈ rs
  · have y0 : 0 ≤ z := hm.2 h
    rw [decide_eq_true h]
    clear hm hz h hr
    go_enter Try.func40, Try.ntmps40
    go_wp2_with fail
    refine (indexCho_any B n c A rs x y _ (HR.out.nw (.al _ _)) hn hn2).mono ?_
    rw [HZ.out]
    rintro e w1 ⟨rfl, hk⟩
    have HK := Lib.hid ((Kp.al W _).nw hk)
    clear hk
    go_wp2
    go_ret
    exact ⟨ret_bool (by simp), HK.out⟩
  · have y0 : ¬ 0 ≤ z := fun h2 => h (hm.1 h2)
    rw [decide_eq_false h]
    clear hm hz h hr
    go_enter Try.func40, Try.ntmps40
    go_wp2_with fail
    refine (indexCho_any B n c A rs x y _ (HR.out.nw (.al _ _)) hn hn2).mono ?_
    rw [HZ.out]
    rintro e w1 ⟨rfl, hk⟩
    have HK := Lib.hid ((Kp.al W _).nw hk)
    clear hk
    go_wp2
    go_ret
    exact ⟨ret_bool (by simp; omega), HK.out⟩
end Go.Proofs.Ytjlbillfbhkamaa
