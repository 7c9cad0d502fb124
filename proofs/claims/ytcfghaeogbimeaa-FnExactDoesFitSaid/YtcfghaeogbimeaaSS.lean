/- Lists of lists of numbers in memory: a row of slices, each at the head of a row of its own, all apart; appending one; what the laws' own helpers do with them; no condition but that all are at most a million long. -/
import Derived.Test.YtcfghaeogbimeaaMake
namespace Go.Proofs.Ytcfghaeogbimeaa
open Go.ChangeShapes Go.WideShapes Go.ChangeAt Go.RowKit

abbrev nilS : Value := .slice none 0 0
/-- a row of slices, at the head of a block of its own, each slice at the head of a row of its own, all apart, all from block B on and below E -/
def SS (w : World) (B E : Nat) (v : Value) (xss : List (List Int)) : Prop :=
  ∃ vs : List Value, vs.length = xss.length ∧ w.ownsRow B 50 1 v vs.length vs ∧ (∀ g, v.ownBlock = some g → g < E) ∧
    (∀ j, j < xss.length → Sl w B (vs.getD j nilS) (xss.getD j []) ∧ ∀ g, (vs.getD j nilS).ownBlock = some g → g < E ∧ v.ownBlock ≠ some g) ∧
    (∀ i j, i < j → j < xss.length → ∀ g, (vs.getD i nilS).ownBlock = some g → (vs.getD j nilS).ownBlock ≠ some g)
theorem SS.nil (w : World) (B E : Nat) : SS w B E nilS [] := ⟨[], rfl, World.ownsRow_nil _ _ _ _, (fun g hg => by cases hg), (fun j hj => absurd hj (Nat.not_lt_zero j)), (fun i j _ hj => absurd hj (Nat.not_lt_zero j))⟩
theorem SS.kp {w w' : World} {B E : Nat} {v : Value} {xss : List (List Int)} {S : Nat → Prop} (h : SS w B E v xss) (hk : Kp S w w') (hs : ∀ g, B ≤ g → g < E → ¬ S g) : SS w' B E v xss := by
  obtain ⟨vs, hl, ho, hE, hj, hd⟩ := h
  refine ⟨vs, hl, ⟨ho.1, ?_⟩, hE, fun j hlt => ⟨(hj j hlt).1.kp hk (fun g hg => hs g ((hj j hlt).1.own_ge g hg).1 ((hj j hlt).2 g hg).1), (hj j hlt).2⟩, hd⟩
  rcases ho.2 with hn | ⟨g, cap, cur, rfl, hb, hgg, rest⟩
  · exact .inl hn
  · exact .inr ⟨g, cap, cur, rfl, hb, (hk.block g (Array.getElem?_eq_some_iff.1 hgg).1 (hs g hb (hE g rfl))).trans hgg, rest⟩
theorem SS.nw {w w' : World} {B E : Nat} {v : Value} {xss : List (List Int)} (h : SS w B E v xss) (hk : Kp Nw w w') : SS w' B E v xss := h.kp hk (fun _ _ _ h => h)
theorem SS.from {w : World} {B B' E E' : Nat} {v : Value} {xss : List (List Int)} (h : SS w B E v xss) (hB : B' ≤ B) (hE' : E ≤ E') : SS w B' E' v xss := by
  obtain ⟨vs, hl, ho, hE, hj, hd⟩ := h
  have ho' : w.ownsRow B' 50 1 v vs.length vs := by
    refine ⟨ho.1, ?_⟩
    rcases ho.2 with hn | ⟨g, cap, cur, rfl, hb, rest⟩
    · exact .inl hn
    · exact .inr ⟨g, cap, cur, rfl, by omega, rest⟩
  exact ⟨vs, hl, ho', fun g hg => Nat.lt_of_lt_of_le (hE g hg) hE', fun j hlt => ⟨(hj j hlt).1.from hB, fun g hg => ⟨Nat.lt_of_lt_of_le ((hj j hlt).2 g hg).1 hE', ((hj j hlt).2 g hg).2⟩⟩, hd⟩
theorem SS.val {w : World} {B E : Nat} {v : Value} {xss : List (List Int)} (h : SS w B E v xss) {n : Nat} (hn : xss.length = n) : ∃ A c, v = .slice A n c := by
  subst hn
  obtain ⟨vs, hl, ho, _⟩ := h
  rcases ho.2 with ⟨rfl, h0⟩ | ⟨g, cap, cur, rfl, _⟩
  · exact ⟨none, 0, by rw [← hl, h0]⟩
  · exact ⟨_, cap, by rw [hl]⟩
theorem SS.own {w : World} {B E : Nat} {v : Value} {xss : List (List Int)} (h : SS w B E v xss) : ∀ g, v.ownBlock = some g → B ≤ g ∧ g < E := by
  obtain ⟨vs, hl, ho, hE, _⟩ := h
  exact fun g hg => ⟨(World.ownsRow.lt ho g hg).1, hE g hg⟩
/-- reading one of the slices -/
theorem SS.cell {w : World} {B E n c : Nat} {A : Option Addr} {xss : List (List Int)} (h : SS w B E (.slice A n c) xss) (j : Nat) (hj : j < xss.length) :
    ∃ g s, A = some ⟨g, 0, none⟩ ∧ w.cell? ⟨g, j, none⟩ = some s ∧ Sl w B s (xss.getD j []) ∧ ∀ g, s.ownBlock = some g → g < E := by
  obtain ⟨vs, hl, ho, hE, hjj, hd⟩ := h
  rcases ho.2 with ⟨_, h0⟩ | ⟨g, cap, cur, he, _⟩
  · omega
  · injection he with h1 h2 h3
    subst h1
    subst h2
    subst h3
    refine ⟨g, vs.getD j nilS, rfl, ?_, (hjj j hj).1, fun g' hg' => ((hjj j hj).2 g' hg').1⟩
    rw [World.ownsRow.cellAt ho j (by omega)]
    simp [show j < vs.length by omega]

theorem listsInfo : (Try.prog.info? 50).map (fun i => (i.zero, i.size, i.bytes)) = some (some nilS, 1, 24) := by kernel_rfl
theorem getD_snoc {α : Type} (xs : List α) (x d : α) (j : Nat) (h : j < xs.length) : (xs ++ [x]).getD j d = xs.getD j d := by
  simp only [List.getD]
  rw [List.getElem?_append_left h]
theorem getD_last {α : Type} (xs : List α) (x d : α) : (xs ++ [x]).getD xs.length d = x := by simp [List.getD]

theorem SS.drewN {w : World} {B E : Nat} {v : Value} {xss : List (List Int)} (h : SS w B E v xss) (k : Nat) : SS (w.drewN k) B E v xss := h

/-- how many numbers the first j lists have -/
def offS (xss : List (List Int)) (j : Nat) : Nat := ((xss.take j).map List.length).sum
theorem offS_zero (xss : List (List Int)) : offS xss 0 = 0 := rfl
theorem offS_succ (xss : List (List Int)) (j : Nat) (h : j < xss.length) : offS xss (j + 1) = offS xss j + (xss.getD j []).length := by
  unfold offS
  rw [List.take_add_one, List.map_append, List.sum_append]
  simp [List.getD, h]
/-- the marks, or what was there -/
def mkS (k : Int) (xss : List (List Int)) (j i : Nat) : List Int := if i < j then marks (k + offS xss i) (xss.getD i []).length else xss.getD i []
/-- a row of slices whose first j lists are marked -/
def SM (w : World) (B E : Nat) (v : Value) (k : Int) (xss : List (List Int)) (j : Nat) : Prop :=
  ∃ vs : List Value, vs.length = xss.length ∧ w.ownsRow B 50 1 v vs.length vs ∧ (∀ g, v.ownBlock = some g → g < E) ∧
    (∀ j', j' < xss.length → Sl w B (vs.getD j' nilS) (mkS k xss j j') ∧ ∀ g, (vs.getD j' nilS).ownBlock = some g → g < E ∧ v.ownBlock ≠ some g) ∧
    (∀ i j, i < j → j < xss.length → ∀ g, (vs.getD i nilS).ownBlock = some g → (vs.getD j nilS).ownBlock ≠ some g)
theorem SM.start {w : World} {B E : Nat} {v : Value} {k : Int} {xss : List (List Int)} (h : SS w B E v xss) : SM w B E v k xss 0 := by
  obtain ⟨vs, hl, ho, hE, hj, hd⟩ := h
  exact ⟨vs, hl, ho, hE, fun j hlt => by unfold mkS; rw [if_neg (Nat.not_lt_zero j)]; exact hj j hlt, hd⟩
theorem SM.kp {w w' : World} {B E : Nat} {v : Value} {k : Int} {j : Nat} {xss : List (List Int)} {S : Nat → Prop} (h : SM w B E v k xss j) (hk : Kp S w w') (hs : ∀ g, B ≤ g → g < E → ¬ S g) : SM w' B E v k xss j := by
  obtain ⟨vs, hl, ho, hE, hj, hd⟩ := h
  refine ⟨vs, hl, ⟨ho.1, ?_⟩, hE, fun j hlt => ⟨(hj j hlt).1.kp hk (fun g hg => hs g ((hj j hlt).1.own_ge g hg).1 ((hj j hlt).2 g hg).1), (hj j hlt).2⟩, hd⟩
  rcases ho.2 with hn | ⟨g, cap, cur, rfl, hb, hgg, rest⟩
  · exact .inl hn
  · exact .inr ⟨g, cap, cur, rfl, hb, (hk.block g (Array.getElem?_eq_some_iff.1 hgg).1 (hs g hb (hE g rfl))).trans hgg, rest⟩
theorem SM.nw {w w' : World} {B E : Nat} {v : Value} {k : Int} {j : Nat} {xss : List (List Int)} (h : SM w B E v k xss j) (hk : Kp Nw w w') : SM w' B E v k xss j := h.kp hk (fun _ _ _ h => h)
theorem SM.val {w : World} {B E : Nat} {v : Value} {k : Int} {j : Nat} {xss : List (List Int)} (h : SM w B E v k xss j) {n : Nat} (hn : xss.length = n) : ∃ A c, v = .slice A n c := by
  subst hn
  obtain ⟨vs, hl, ho, _⟩ := h
  rcases ho.2 with ⟨rfl, h0⟩ | ⟨g, cap, cur, rfl, _⟩
  · exact ⟨none, 0, by rw [← hl, h0]⟩
  · exact ⟨_, cap, by rw [hl]⟩
/-- one more list is marked -/
theorem SM.step {w : World} {B E n c : Nat} {A : Option Addr} {k : Int} {j : Nat} {xss : List (List Int)} (h : SM w B E (.slice A n c) k xss j) (hj : j < xss.length) :
    ∃ g s, A = some ⟨g, 0, none⟩ ∧ w.cell? ⟨g, j, none⟩ = some s ∧ Sl w B s (xss.getD j []) ∧ (∀ b, s.ownBlock = some b → B ≤ b ∧ b < E) ∧
      ∀ w', Sl w' B s (marks (k + offS xss j) (xss.getD j []).length) → Kp (fun b => s.ownBlock = some b) w w' → SM w' B E (.slice A n c) k xss (j + 1) := by
  obtain ⟨vs, hl, ho, hE, hjj, hd⟩ := h
  have hjs := hjj j hj
  have hmj : mkS k xss j j = xss.getD j [] := by unfold mkS; rw [if_neg (Nat.lt_irrefl j)]
  rw [hmj] at hjs
  rcases ho.2 with ⟨_, h0⟩ | ⟨g, cap, cur, he, hb, hgg, rest⟩
  · omega
  · injection he with h1 h2 h3
    subst h1
    subst h2
    subst h3
    refine ⟨g, vs.getD j nilS, rfl, ?_, hjs.1, fun b hb => ⟨(hjs.1.own_ge b hb).1, (hjs.2 b hb).1⟩, fun w' hs' hk' => ⟨vs, hl, ⟨ho.1, .inr ⟨g, _, cur, rfl, hb, ?_, rest⟩⟩, hE, fun i hi => ⟨?_, (hjj i hi).2⟩, hd⟩⟩
    · rw [World.ownsRow.cellAt ho j (by omega)]
      simp [show j < vs.length by omega]
    · exact (hk'.block g (Array.getElem?_eq_some_iff.1 hgg).1 (fun e => (hjs.2 g e).2 rfl)).trans hgg
    · by_cases e : i = j
      · subst e
        unfold mkS
        rw [if_pos (Nat.lt_succ_self i)]
        exact hs'
      · have e2 : mkS k xss (j + 1) i = mkS k xss j i := by
          unfold mkS
          by_cases c : i < j
          · rw [if_pos c, if_pos (by omega)]
          · rw [if_neg c, if_neg (by omega)]
        rw [e2]
        refine (hjj i hi).1.kp hk' (fun b hb he => ?_)
        rcases Nat.lt_or_gt_of_ne e with c | c
        · exact hd i j c hj b hb he
        · exact hd j i c hi b he hb
/-- a marked list, read -/
theorem SM.cell {w : World} {B E n c : Nat} {A : Option Addr} {k : Int} {xss : List (List Int)} (h : SM w B E (.slice A n c) k xss n) (hn : xss.length = n) (j : Nat) (hj : j < n) :
    ∃ g s, A = some ⟨g, 0, none⟩ ∧ w.cell? ⟨g, j, none⟩ = some s ∧ Sl w B s (marks (k + offS xss j) (xss.getD j []).length) := by
  obtain ⟨vs, hl, ho, hE, hjj, hd⟩ := h
  have hjs := (hjj j (by omega)).1
  have hmj : mkS k xss n j = marks (k + offS xss j) (xss.getD j []).length := by unfold mkS; rw [if_pos hj]
  rw [hmj] at hjs
  rcases ho.2 with ⟨_, h0⟩ | ⟨g, cap, cur, he, _⟩
  · omega
  · injection he with h1 h2 h3
    subst h1
    subst h2
    subst h3
    refine ⟨g, vs.getD j nilS, rfl, ?_, hjs⟩
    rw [World.ownsRow.cellAt ho j (by omega)]
    simp [show j < vs.length by omega]

/-- what a call returns that makes lists, or fails -/
def ListSB (W : World) (xss : List (List Int)) (b : Bool) (e : Ending) (w' : World) : Prop := ∃ v, e = .returned (.tuple #[v, .bool b]) ∧ SS w' W.heap.size w'.heap.size v xss ∧ Kp Nw W w'

theorem offS_le (xss : List (List Int)) (c : Nat) (h : ∀ xs ∈ xss, xs.length ≤ c) : ∀ j, j ≤ xss.length → offS xss j ≤ j * c
  | 0, _ => by simp [offS]
  | j + 1, hj => by
    have h1 := offS_le xss c h j (by omega)
    rw [offS_succ xss j (by omega)]
    have h2 : xss.getD j [] ∈ xss := by
      have : xss.getD j [] = xss[j]'(by omega) := by simp [List.getD, show j < xss.length by omega]
      rw [this]; exact List.getElem_mem _
    have h3 := h _ h2
    have h4 : (j + 1) * c = j * c + c := Nat.succ_mul j c
    omega
end Go.Proofs.Ytcfghaeogbimeaa
