/- Lists of lists of numbers in memory: a row of slices, each at the head of a row of its own, all apart; appending one; what the laws' own helpers do with them; no condition but that all are at most a million long. -/
import Derived.Test.YtpdnliljpjoejaaMake
namespace Go.Proofs.Ytpdnliljpjoejaa
open Go.ChangeShapes Go.WideShapes Go.ChangeAt Go.RowKit

abbrev nilS : Value := .slice none 0 0
/-- a row of slices, at the head of a block of its own, each slice at the head of a row of its own, all apart, all from block B on and below E -/
def SS (w : World) (B E : Nat) (v : Value) (xss : List (List Int)) : Prop :=
  ∃ vs : List Value, vs.length = xss.length ∧ w.ownsRow B 30 1 v vs.length vs ∧ (∀ g, v.ownBlock = some g → g < E) ∧
    (∀ j, j < xss.length → Sl w B (vs.getD j nilS) (xss.getD j []) ∧ ∀ g, (vs.getD j nilS).ownBlock = some g → g < E ∧ v.ownBlock ≠ some g) ∧
    (∀ i j, i < j → j < xss.length → ∀ g, (vs.getD i nilS).ownBlock = some g → (vs.getD j nilS).ownBlock ≠ some g)
theorem SS.nil (w : World) (B E : Nat) : SS w B E nilS [] := ⟨[], rfl, World.ownsRow_nil _ _ _ _, (fun g hg => by cases hg), (fun j hj => absurd hj (Nat.not_lt_zero j)), (fun i j _ hj => absurd hj (Nat.not_lt_zero j))⟩
theorem SS.kp {w w' : World} {B E : Nat} {v : Value} {xss : List (List Int)} {S : Nat → Prop} (h : SS w B E v xss) (hk : Kp S w w') (hs : ∀ g, B ≤ g → g < E → ¬ S g) : SS w' B E v xss := by
  obtain ⟨vs, hl, ho, hE, hj, hd⟩ := h
  refine ⟨vs, hl, ⟨ho.1, ?_⟩, hE, fun j hlt => ⟨(hj j hlt).1.kp hk (fun g hg => hs g ((hj j hlt).1.own_ge g hg).1 ((hj j hlt).2 g hg).1), (hj j hlt).2⟩, hd⟩
  rcases ho.2 with hn | ⟨g, cap, cur, rfl, hb, hgg, rest⟩
  · exact .inl hn
  · exact .inr ⟨g, cap, cur, rfl, hb, (hk.block g (Array.getElem?_eq_some_iff.1 hgg).1 (hs g hb (hE g rfl))).trans hgg, rest⟩
theorem SS.nw {w w' : World} {B E : Nat} {v : Value} {xss : List (List Int)} (h : SS w B E v xss) (hk : Kp Nw w w') : SS w' B E v xss := h.kp hk (fun _ _ _ h => h)
theorem SS.from {w : World} {B B' E E' : Nat} {v : Value} {xss : List (List Int)} (h : SS w B E v xss) (hB : B' ≤ B) (hE' : E ≤ E') : SS w B' E' v xss := by
  obtain ⟨vs, hl, ho, hE, hj, hd⟩ := h
  have ho' : w.ownsRow B' 30 1 v vs.length vs := by
    refine ⟨ho.1, ?_⟩
    rcases ho.2 with hn | ⟨g, cap, cur, rfl, hb, rest⟩
    · exact .inl hn
    · exact .inr ⟨g, cap, cur, rfl, by omega, rest⟩
  exact ⟨vs, hl, ho', fun g hg => Nat.lt_of_lt_of_le (hE g hg) hE', fun j hlt => ⟨(hj j hlt).1.from hB, fun g hg => ⟨Nat.lt_of_lt_of_le ((hj j hlt).2 g hg).1 hE', ((hj j hlt).2 g hg).2⟩⟩, hd⟩
theorem SS.val {w : World} {B E : Nat} {v : Value} {xss : List (List Int)} (h : SS w B E v xss) {n : Nat} (hn : xss.length = n) : ∃ A c, v = .slice A n c := by
  subst hn
  obtain ⟨vs, hl, ho, _⟩ := h
  rcases ho.2 with ⟨rfl, h0⟩ | ⟨g, cap, cur, rfl, _⟩
  · exact ⟨none, 0, by rw [← hl, h0]⟩
  · exact ⟨_, cap, by rw [hl]⟩
theorem SS.own {w : World} {B E : Nat} {v : Value} {xss : List (List Int)} (h : SS w B E v xss) : ∀ g, v.ownBlock = some g → B ≤ g ∧ g < E := by
  obtain ⟨vs, hl, ho, hE, _⟩ := h
  exact fun g hg => ⟨(World.ownsRow.lt ho g hg).1, hE g hg⟩
/-- reading one of the slices -/
theorem SS.cell {w : World} {B E n c : Nat} {A : Option Addr} {xss : List (List Int)} (h : SS w B E (.slice A n c) xss) (j : Nat) (hj : j < xss.length) :
    ∃ g s, A = some ⟨g, 0, none⟩ ∧ w.cell? ⟨g, j, none⟩ = some s ∧ Sl w B s (xss.getD j []) ∧ ∀ g, s.ownBlock = some g → g < E := by
  obtain ⟨vs, hl, ho, hE, hjj, hd⟩ := h
  rcases ho.2 with ⟨_, h0⟩ | ⟨g, cap, cur, he, _⟩
  · omega
  · injection he with h1 h2 h3
    subst h1
    subst h2
    subst h3
    refine ⟨g, vs.getD j nilS, rfl, ?_, (hjj j hj).1, fun g' hg' => ((hjj j hj).2 g' hg').1⟩
    rw [World.ownsRow.cellAt ho j (by omega)]
    simp [show j < vs.length by omega]

theorem listsInfo : (Try.prog.info? 30).map (fun i => (i.zero, i.size, i.bytes)) = some (some nilS, 1, 24) := by kernel_rfl
theorem getD_snoc {α : Type} (xs : List α) (x d : α) (j : Nat) (h : j < xs.length) : (xs ++ [x]).getD j d = xs.getD j d := by
  simp only [List.getD]
  rw [List.getElem?_append_left h]
theorem getD_last {α : Type} (xs : List α) (x d : α) : (xs ++ [x]).getD xs.length d = x := by simp [List.getD]

set_option maxRecDepth 100000 in
/-- one slice that was made behind a world is appended to a row of slices that was there in that world -/
theorem run_ss (w0 w : World) (ty : TypeId) (B E g : Nat) (v s : Value) (xss : List (List Int)) (xs : List Int) (h : SS w0 B E v xss) (hk : Kp Nw w0 w) (hE : E ≤ w0.heap.size) (hs : Sl w w0.heap.size s xs) (hc : w.cell? ⟨g, 0, none⟩ = some s)
    (hl : xss.length ≤ 1000000) (hB : B ≤ w0.heap.size) :
    ∃ v' w', (Builtin.append_ #[22, 22] ty #[v, .slice (some ⟨g, 0, none⟩) 1 1]).run Try.prog w = .ok v' w' ∧ SS w' B w'.heap.size v' (xss ++ [xs]) ∧ Kp (fun b => v.ownBlock = some b) w w' := by
  obtain ⟨i0, hi0, hz0, hz1, hz2⟩ := info_parts listsInfo
  have hw := hk.size
  have h1 : s.oneCell' = true := by
    rcases hs.form with ⟨rfl, _⟩ | ⟨_, _, rfl, _⟩ <;> rfl
  have hw0 := h.nw hk
  obtain ⟨vs, hvl, ho, hoE, hjj, hd⟩ := hw0
  obtain ⟨v', w', hr, h2, h3, _, h5⟩ := run_append_own_at (P := Try.prog) w B 22 ty 30 i0 _ 1 24 Try.underlying22 hi0 hz0 hz1 hz2 rfl (by omega) v vs.length _ ho ⟨g, 0, none⟩ 1 1 [s] rfl
    (fun j u hj => by
      rw [addr_add, Nat.zero_add]
      rcases j with _ | j
      · simp at hj; subst hj; exact hc
      · simp at hj) (fun u hu => by simp at hu; subst hu; exact h1) (by unfold maxLen; omega) (by omega) (by omega)
  have hkk : Kp (fun b => v.ownBlock = some b) w w' := ⟨h3.os, h3.tape, h3.output, h3.size, fun k hk hs => h3.block k hk (fun e => hs e.symm)⟩
  have hsz := hkk.size
  refine ⟨v', w', hr, ⟨vs ++ [s], by simp [hvl], by rw [List.length_append]; exact h2, ?_, ?_, ?_⟩, hkk⟩
  · intro b hb
    exact (World.ownsRow.lt h2 b hb).2
  · intro j hj
    rw [List.length_append] at hj
    by_cases e : j < xss.length
    · rw [getD_snoc _ _ _ _ (by omega), getD_snoc _ _ _ _ e]
      have hj1 := hjj j e
      refine ⟨hj1.1.kp hkk (fun b hb he => (hj1.2 b hb).2 he), fun b hb => ⟨by have := (hj1.2 b hb).1; omega, ?_⟩⟩
      rcases h5 with h5 | h5
      · rw [h5]; exact (hj1.2 b hb).2
      · rw [h5]; intro e2; have := (hj1.2 b hb).1; injection e2 with e2; omega
    · have ej : j = xss.length := by simp at hj; omega
      subst ej
      rw [getD_last, ← hvl, getD_last]
      refine ⟨(hs.kp hkk (fun b hb he => by have h6 := (hs.own_ge b hb).1; have h7 := hoE b he; omega)).from hB, fun b hb => ⟨by have := (hs.own_ge b hb).2; omega, ?_⟩⟩
      rcases h5 with h5 | h5
      · rw [h5]; intro e2; have h6 := (hs.own_ge b hb).1; have h7 := hoE b e2; omega
      · rw [h5]; intro e2; have := (hs.own_ge b hb).2; injection e2 with e2; omega
  · intro i j hij hj
    rw [List.length_append] at hj
    by_cases e : j < xss.length
    · rw [getD_snoc _ _ _ _ (by omega), getD_snoc _ _ _ _ (by omega)]
      exact hd i j hij e
    · have ej : j = xss.length := by simp at hj; omega
      subst ej
      rw [getD_snoc _ _ _ _ (by omega), ← hvl, getD_last]
      intro b hb e2
      have h6 := ((hjj i hij).2 b hb).1
      have h7 := (hs.own_ge b e2).1
      omega
theorem wpList_ss (w0 w : World) {ops : Array Oper} {rest : List Oper} {o : Oper} {a : Act} {Q : Exit → Act → World → Prop} (hgd : o.guard = none) (x y : Operand)
    (ho : o.op = .call { callee := .builtin .append, args := #[x, y], argTypes := #[22, 22] })
    (B E g : Nat) (v s : Value) (xss : List (List Int)) (xs : List Int) (hx : a.eval x = v) (hy : a.eval y = .slice (some ⟨g, 0, none⟩) 1 1) (h : SS w0 B E v xss) (hk : Kp Nw w0 w) (hE : E ≤ w0.heap.size) (hs : Sl w w0.heap.size s xs) (hc : w.cell? ⟨g, 0, none⟩ = some s)
    (hl : xss.length ≤ 1000000) (hB : B ≤ w0.heap.size)
    (hh : ∀ v' w', SS w' B w'.heap.size v' (xss ++ [xs]) → Kp (fun b => v.ownBlock = some b) w w' → wpList Try.prog ops Q rest (a.put o.dst v') w') : wpList Try.prog ops Q (o :: rest) a w :=
  wpList_plain hgd fun _ hK => by
    obtain ⟨v', w', hr, h2, h3⟩ := run_ss w0 w o.type B E g v s xss xs h hk hE hs hc hl hB
    unfold Oper.wp execOp
    simp only [ho, resolve, invoke, builtin, Sem.run_bind, Sem.run_pure, Result.andThen_ok, List.map_toArray, List.map_cons, List.map_nil, hx, hy, hr]
    exact hK _ _ (hh v' w' h2 h3)
theorem SS.drewN {w : World} {B E : Nat} {v : Value} {xss : List (List Int)} (h : SS w B E v xss) (k : Nat) : SS (w.drewN k) B E v xss := h

theorem eqIntS_kp (u v : Value) (xs : List Int) (w : World) (hu : Rd w u xs) (hv : Rd w v xs) (hl : xs.length ≤ maxLen) :
    Calls Try.prog 20 #[u, v] w fun e w' => e = .returned (.bool true) ∧ Kp Nw w w' :=
  (eqIntS_same u v xs w hu hv hl).mono fun _ _ ⟨he, d, hd⟩ => ⟨he, by rw [hd]; exact (Kp.refl _ _).drewN d⟩

set_option maxHeartbeats 800000 in
theorem eqIntSS_same (u v : Value) (B E B' E' : Nat) (xss : List (List Int)) (w : World) (hu : SS w B E u xss) (hv : SS w B' E' v xss) (hl : xss.length ≤ 1000000) (hl2 : ∀ xs ∈ xss, xs.length ≤ 1000000) :
    Calls Try.prog 6 #[u, v] w fun e w' => e = .returned (.bool true) ∧ Kp Nw w w' := by
  obtain ⟨n, hn⟩ : ∃ n, xss.length = n := ⟨_, rfl⟩
  obtain ⟨A, c, rfl⟩ := hu.val hn
  obtain ⟨A', c', rfl⟩ := hv.val hn
  have HU := Lib.hid hu
  have HV := Lib.hid hv
  have HN := Lib.hid hn
  have HL := Lib.hid hl2
  rw [hn] at hl
  clear hu hv hn hl2
  go_enter Try.func6, Try.ntmps6
  go_wp2
  go_loopw [5] (fun i wr => ∃ k : Nat, k ≤ n ∧ i = .int .i64 k ∧ Kp Nw w wr) (fun i _ => n - (intOf i).toNat)
  case atStart => exact ⟨0, Nat.zero_le _, rfl, Kp.refl _ _⟩
  case round =>
    rename_i wr
    obtain ⟨k, hk, rfl, hkp⟩ := hrel
    by_cases hlt : k < n
    · obtain ⟨g, s, rfl, hc, hs, _⟩ := (HU.out.nw hkp).cell k (by rw [HN.out]; exact hlt)
      obtain ⟨g', s', rfl, hc', hs', _⟩ := (HV.out.nw hkp).cell k (by rw [HN.out]; exact hlt)
      have h0 : (0 : Int) ≤ k := Int.natCast_nonneg _
      have h1 : (k : Int) < n := by omega
      have HS := Lib.hid hs
      have HS' := Lib.hid hs'
      have hm : (xss.getD k []).length ≤ 1000000 := by
        have hkl : k < xss.length := by rw [HN.out]; exact hlt
        have : xss.getD k [] = xss[k] := by simp [List.getD, hkl]
        rw [this]
        exact HL.out _ (List.getElem_mem hkl)
      have HM : Hid ((xss.getD k []).length ≤ maxLen) := Lib.hid (by unfold maxLen; omega)
      have C0 := Lib.hid hc
      have C1 := Lib.hid hc'
      have HK := Lib.hid hkp
      clear hs hs' hm hc hc' hkp
      go_wp2_with fail
      go_region_held3 (fun w' => Kp Nw wr w' ∧ w'.cell? ⟨g, k, none⟩ = some s ∧ w'.cell? ⟨g', k, none⟩ = some s')
        (first
          | exact ⟨(Kp.refl _ _).drew, C0.out, C1.out⟩
          | exact ⟨hkW1, keepc hkW1 C0.out (fun h => h), keepc hkW1 C1.out (fun h => h)⟩)
        (first
          | (go_at_call 20
             refine (eqIntS_kp s s' (xss.getD k []) _ (HS.out.below (‹Kp Nw wr _ ∧ _›.1).below').rd (HS'.out.below (‹Kp Nw wr _ ∧ _›.1).below').rd HM.out).mono ?_
             rintro e w1 ⟨rfl, hk1⟩
             have hkW1 := (‹Kp Nw wr _ ∧ _›.1).nw hk1))
      have HK1 := Lib.hid (HK.out.nw hkW1)
      clear hkW1 hk1
      go_wp2
      go_roundw
      case rel => exact ⟨k + 1, by omega, by go_num, HK1.out⟩
      case measure => simp [intOf]; omega
    · go_wp2
      go_ret
      exact ⟨rfl, hkp⟩

/-- how many numbers the first j lists have -/
def offS (xss : List (List Int)) (j : Nat) : Nat := ((xss.take j).map List.length).sum
theorem offS_zero (xss : List (List Int)) : offS xss 0 = 0 := rfl
theorem offS_succ (xss : List (List Int)) (j : Nat) (h : j < xss.length) : offS xss (j + 1) = offS xss j + (xss.getD j []).length := by
  unfold offS
  rw [List.take_add_one, List.map_append, List.sum_append]
  simp [List.getD, h]
/-- the marks, or what was there -/
def mkS (k : Int) (xss : List (List Int)) (j i : Nat) : List Int := if i < j then marks (k + offS xss i) (xss.getD i []).length else xss.getD i []
/-- a row of slices whose first j lists are marked -/
def SM (w : World) (B E : Nat) (v : Value) (k : Int) (xss : List (List Int)) (j : Nat) : Prop :=
  ∃ vs : List Value, vs.length = xss.length ∧ w.ownsRow B 30 1 v vs.length vs ∧ (∀ g, v.ownBlock = some g → g < E) ∧
    (∀ j', j' < xss.length → Sl w B (vs.getD j' nilS) (mkS k xss j j') ∧ ∀ g, (vs.getD j' nilS).ownBlock = some g → g < E ∧ v.ownBlock ≠ some g) ∧
    (∀ i j, i < j → j < xss.length → ∀ g, (vs.getD i nilS).ownBlock = some g → (vs.getD j nilS).ownBlock ≠ some g)
theorem SM.start {w : World} {B E : Nat} {v : Value} {k : Int} {xss : List (List Int)} (h : SS w B E v xss) : SM w B E v k xss 0 := by
  obtain ⟨vs, hl, ho, hE, hj, hd⟩ := h
  exact ⟨vs, hl, ho, hE, fun j hlt => by unfold mkS; rw [if_neg (Nat.not_lt_zero j)]; exact hj j hlt, hd⟩
theorem SM.kp {w w' : World} {B E : Nat} {v : Value} {k : Int} {j : Nat} {xss : List (List Int)} {S : Nat → Prop} (h : SM w B E v k xss j) (hk : Kp S w w') (hs : ∀ g, B ≤ g → g < E → ¬ S g) : SM w' B E v k xss j := by
  obtain ⟨vs, hl, ho, hE, hj, hd⟩ := h
  refine ⟨vs, hl, ⟨ho.1, ?_⟩, hE, fun j hlt => ⟨(hj j hlt).1.kp hk (fun g hg => hs g ((hj j hlt).1.own_ge g hg).1 ((hj j hlt).2 g hg).1), (hj j hlt).2⟩, hd⟩
  rcases ho.2 with hn | ⟨g, cap, cur, rfl, hb, hgg, rest⟩
  · exact .inl hn
  · exact .inr ⟨g, cap, cur, rfl, hb, (hk.block g (Array.getElem?_eq_some_iff.1 hgg).1 (hs g hb (hE g rfl))).trans hgg, rest⟩
theorem SM.nw {w w' : World} {B E : Nat} {v : Value} {k : Int} {j : Nat} {xss : List (List Int)} (h : SM w B E v k xss j) (hk : Kp Nw w w') : SM w' B E v k xss j := h.kp hk (fun _ _ _ h => h)
theorem SM.val {w : World} {B E : Nat} {v : Value} {k : Int} {j : Nat} {xss : List (List Int)} (h : SM w B E v k xss j) {n : Nat} (hn : xss.length = n) : ∃ A c, v = .slice A n c := by
  subst hn
  obtain ⟨vs, hl, ho, _⟩ := h
  rcases ho.2 with ⟨rfl, h0⟩ | ⟨g, cap, cur, rfl, _⟩
  · exact ⟨none, 0, by rw [← hl, h0]⟩
  · exact ⟨_, cap, by rw [hl]⟩
/-- one more list is marked -/
theorem SM.step {w : World} {B E n c : Nat} {A : Option Addr} {k : Int} {j : Nat} {xss : List (List Int)} (h : SM w B E (.slice A n c) k xss j) (hj : j < xss.length) :
    ∃ g s, A = some ⟨g, 0, none⟩ ∧ w.cell? ⟨g, j, none⟩ = some s ∧ Sl w B s (xss.getD j []) ∧ (∀ b, s.ownBlock = some b → B ≤ b ∧ b < E) ∧
      ∀ w', Sl w' B s (marks (k + offS xss j) (xss.getD j []).length) → Kp (fun b => s.ownBlock = some b) w w' → SM w' B E (.slice A n c) k xss (j + 1) := by
  obtain ⟨vs, hl, ho, hE, hjj, hd⟩ := h
  have hjs := hjj j hj
  have hmj : mkS k xss j j = xss.getD j [] := by unfold mkS; rw [if_neg (Nat.lt_irrefl j)]
  rw [hmj] at hjs
  rcases ho.2 with ⟨_, h0⟩ | ⟨g, cap, cur, he, hb, hgg, rest⟩
  · omega
  · injection he with h1 h2 h3
    subst h1
    subst h2
    subst h3
    refine ⟨g, vs.getD j nilS, rfl, ?_, hjs.1, fun b hb => ⟨(hjs.1.own_ge b hb).1, (hjs.2 b hb).1⟩, fun w' hs' hk' => ⟨vs, hl, ⟨ho.1, .inr ⟨g, _, cur, rfl, hb, ?_, rest⟩⟩, hE, fun i hi => ⟨?_, (hjj i hi).2⟩, hd⟩⟩
    · rw [World.ownsRow.cellAt ho j (by omega)]
      simp [show j < vs.length by omega]
    · exact (hk'.block g (Array.getElem?_eq_some_iff.1 hgg).1 (fun e => (hjs.2 g e).2 rfl)).trans hgg
    · by_cases e : i = j
      · subst e
        unfold mkS
        rw [if_pos (Nat.lt_succ_self i)]
        exact hs'
      · have e2 : mkS k xss (j + 1) i = mkS k xss j i := by
          unfold mkS
          by_cases c : i < j
          · rw [if_pos c, if_pos (by omega)]
          · rw [if_neg c, if_neg (by omega)]
        rw [e2]
        refine (hjj i hi).1.kp hk' (fun b hb he => ?_)
        rcases Nat.lt_or_gt_of_ne e with c | c
        · exact hd i j c hj b hb he
        · exact hd j i c hi b he hb
/-- a marked list, read -/
theorem SM.cell {w : World} {B E n c : Nat} {A : Option Addr} {k : Int} {xss : List (List Int)} (h : SM w B E (.slice A n c) k xss n) (hn : xss.length = n) (j : Nat) (hj : j < n) :
    ∃ g s, A = some ⟨g, 0, none⟩ ∧ w.cell? ⟨g, j, none⟩ = some s ∧ Sl w B s (marks (k + offS xss j) (xss.getD j []).length) := by
  obtain ⟨vs, hl, ho, hE, hjj, hd⟩ := h
  have hjs := (hjj j (by omega)).1
  have hmj : mkS k xss n j = marks (k + offS xss j) (xss.getD j []).length := by unfold mkS; rw [if_pos hj]
  rw [hmj] at hjs
  rcases ho.2 with ⟨_, h0⟩ | ⟨g, cap, cur, he, _⟩
  · omega
  · injection he with h1 h2 h3
    subst h1
    subst h2
    subst h3
    refine ⟨g, vs.getD j nilS, rfl, ?_, hjs⟩
    rw [World.ownsRow.cellAt ho j (by omega)]
    simp [show j < vs.length by omega]

set_option maxRecDepth 100000 in
set_option maxHeartbeats 1600000 in
theorem markIntSS_any (v : Value) (B E n : Nat) (xss : List (List Int)) (k : Int) (w : World) (hv : SS w B E v xss) (hn : xss.length = n) (h0 : 0 ≤ k) (h1 : k + offS xss n ≤ 1000000000) (hl : n ≤ 1000000) (hl2 : ∀ j, j < n → k + offS xss j ≤ 1000000000 ∧ (xss.getD j []).length ≤ 1000000000) :
    Calls Try.prog 7 #[v, .int .i64 k] w fun e w' => e = .returned (.int .i64 (k + offS xss n)) ∧ SM w' B E v k xss n ∧ Kp (fun g => B ≤ g ∧ g < E) w w' := by
  have HS0 := Lib.hid (SM.start (k := k) hv)
  obtain ⟨A, c, rfl⟩ := hv.val hn
  have HN := Lib.hid hn
  have HL := Lib.hid hl2
  clear hv hn hl2
  go_enter Try.func7, Try.ntmps7
  go_wp2
  go_loopw [1, 5] (fun kk i wr => ∃ j : Nat, j ≤ n ∧ i = .int .i64 j ∧ kk = .int .i64 (k + offS xss j) ∧ SM wr B E (.slice A n c) k xss j ∧ Kp (fun g => B ≤ g ∧ g < E) w wr) (fun _ i _ => n - (intOf i).toNat)
  case atStart => exact ⟨0, Nat.zero_le _, rfl, by rw [offS_zero]; simp, HS0.out, Kp.refl _ _⟩
  case round =>
    rename_i wr
    obtain ⟨j, hj, rfl, rfl, hs, hk⟩ := hrel
    have HK := Lib.hid hk
    by_cases hlt : j < n
    · obtain ⟨g, s, rfl, hc, hsl, hown, hstep⟩ := hs.step (by rw [HN.out]; exact hlt)
      have HSL := Lib.hid hsl
      have HST := Lib.hid hstep
      have HOW := Lib.hid hown
      have j0 : (0 : Int) ≤ j := Int.natCast_nonneg _
      have j1 : (j : Int) < n := by omega
      have HO := Lib.hid (offS_succ xss j (by rw [HN.out]; exact hlt))
      obtain ⟨z, hz⟩ : ∃ z, k + (offS xss j : Int) = z := ⟨_, rfl⟩
      have hz2 := HL.out j hlt
      have hz0 : 0 ≤ z := by omega
      rw [hz] at hz2
      have HZ := Lib.hid hz
      rw [hz]
      clear hs hk hsl hstep hown hz
      go_wp2_with fail
      refine (markIntS_any s (xss.getD j []) z _ B HSL.out hz0 hz2.1 hz2.2).mono ?_
      rintro e w1 ⟨rfl, hs1, hk1⟩
      have hs2 := HST.out w1 (by rw [HZ.out]; exact hs1) hk1
      have HS2 := Lib.hid hs2
      have HK2 := Lib.hid (HK.out.trans (hk1.mono (fun b _ hb => HOW.out b hb)))
      clear hs1 hk1 hs2 hc
      go_wp2
      go_roundw
      case rel => exact ⟨j + 1, by omega, by go_num, by rw [HO.out, ← HZ.out]; simp; omega, HS2.out, HK2.out⟩
      case measure => simp [intOf]; omega
    · have e : j = n := by omega
      subst e
      have HS := Lib.hid hs
      clear hs hk
      go_wp2
      go_ret
      exact ⟨rfl, HS.out, HK.out⟩

set_option maxRecDepth 100000 in
set_option maxHeartbeats 1600000 in
theorem heldIntSS_any (v : Value) (B E n : Nat) (xss : List (List Int)) (k : Int) (w : World) (hv : SM w B E v k xss n) (hn : xss.length = n) (h0 : 0 ≤ k) (hl : n ≤ 1000000) (hl2 : ∀ j, j < n → k + offS xss j ≤ 1000000000 ∧ (xss.getD j []).length ≤ 1000000000) :
    Calls Try.prog 8 #[v, .int .i64 k] w fun e w' => e = .returned (.int .i64 (k + offS xss n)) ∧ w = w' := by
  obtain ⟨A, c, rfl⟩ := hv.val hn
  have HV := Lib.hid hv
  have HN := Lib.hid hn
  have HL := Lib.hid hl2
  clear hv hn hl2
  go_enter Try.func8, Try.ntmps8
  go_wp2
  go_loop [1, 5] (fun kk i => ∃ j : Nat, j ≤ n ∧ i = .int .i64 j ∧ kk = .int .i64 (k + offS xss j)) (fun _ i => n - (intOf i).toNat)
  case atStart => exact ⟨0, Nat.zero_le _, rfl, by rw [offS_zero]; simp⟩
  case round =>
    obtain ⟨j, hj, rfl, rfl⟩ := hrel
    by_cases hlt : j < n
    · obtain ⟨g, s, rfl, hc, hs⟩ := HV.out.cell HN.out j hlt
      have HS := Lib.hid hs
      have HO := Lib.hid (offS_succ xss j (by rw [HN.out]; exact hlt))
      have h2 : (0 : Int) ≤ j := Int.natCast_nonneg _
      have h3 : (j : Int) < n := by omega
      obtain ⟨z, hz⟩ : ∃ z, k + (offS xss j : Int) = z := ⟨_, rfl⟩
      have hz2 := HL.out j hlt
      have hz0 : 0 ≤ z := by omega
      rw [hz] at hz2 hs
      have HS := Lib.hid hs
      have HZ := Lib.hid hz
      rw [hz]
      have hnn : ¬ (z + ((xss.getD j []).length : Int)) < 0 := by omega
      clear hs hz
      go_wp2_with fail
      refine (heldIntS_any s z (xss.getD j []).length w HS.out.rd hz0 hz2.1 hz2.2).mono ?_
      rintro e w1 ⟨rfl, rfl⟩
      go_wp2
      go_round
      case rel => exact ⟨j + 1, by omega, by go_num, by rw [HO.out, ← HZ.out]; simp; omega⟩
      case measure => simp [intOf]; omega
    · have e : j = n := by omega
      subst e
      go_wp2
      go_ret
      exact ⟨rfl, rfl⟩
/-- what a call returns that makes lists, or fails -/
def ListSB (W : World) (xss : List (List Int)) (b : Bool) (e : Ending) (w' : World) : Prop := ∃ v, e = .returned (.tuple #[v, .bool b]) ∧ SS w' W.heap.size w'.heap.size v xss ∧ Kp Nw W w'

theorem offS_le (xss : List (List Int)) (c : Nat) (h : ∀ xs ∈ xss, xs.length ≤ c) : ∀ j, j ≤ xss.length → offS xss j ≤ j * c
  | 0, _ => by simp [offS]
  | j + 1, hj => by
    have h1 := offS_le xss c h j (by omega)
    rw [offS_succ xss j (by omega)]
    have h2 : xss.getD j [] ∈ xss := by
      have : xss.getD j [] = xss[j]'(by omega) := by simp [List.getD, show j < xss.length by omega]
      rw [this]; exact List.getElem_mem _
    have h3 := h _ h2
    have h4 : (j + 1) * c = j * c + c := Nat.succ_mul j c
    omega
end Go.Proofs.Ytpdnliljpjoejaa
