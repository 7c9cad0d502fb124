/- Puzzles: the laws' helpers on them (equal, mark, held, size, copy), puzzles and clues that come in, opened; no condition but that the slices' cells are there. -/
import Derived.Test.YtcfghaeogbimeaaClu
import Derived.Test.YtcfghaeogbimeaaSong
import Derived.Lib.SmallJoins
import Derived.Carry
import Derived.ChangeSlices
import Derived.ChangeSame
import Derived.Deep.Slices
namespace Go.Proofs.Ytcfghaeogbimeaa
open Go.ChangeShapes Go.WideShapes Go.ChangeAt Go.RowKit Go.Joins

theorem szPuzzle_small (A : Option Addr) (n c : Nat) (l : Int) (W : World) (l1 : l ≤ 1048576) (h : (n : Int) ≤ l) :
    Calls Try.prog 9 #[.agg #[.slice A n c], .int .i64 l] W fun e w' => e = .returned (.int .i64 (l - (n : Int))) ∧ Kp Nw W w' := by
  have h1 : (0 : Int) ≤ l - (n : Int) := by omega
  go_enter Try.func9, Try.ntmps9
  go_wp2_with fail
  refine (szClueS_gen A n c l _ (by unfold maxLen; omega) (by omega) l1).mono ?_
  rintro e w' ⟨rfl, rfl⟩
  rw [if_pos h]
  go_wp2
  go_ret
  exact ⟨rfl, Kp.al _ _⟩
theorem szPuzzle_large (A : Option Addr) (n c : Nat) (l : Int) (W : World) (hn : n ≤ maxLen) (l0 : 0 ≤ l) (l1 : l ≤ 1048576) (h : l < (n : Int)) :
    Calls Try.prog 9 #[.agg #[.slice A n c], .int .i64 l] W fun e w' => e = .returned (.int .i64 (-1)) ∧ Kp Nw W w' := by
  go_enter Try.func9, Try.ntmps9
  go_wp2_with fail
  refine (szClueS_gen A n c l _ hn l0 l1).mono ?_
  rintro e w' ⟨rfl, rfl⟩
  rw [if_neg (by omega)]
  go_wp2
  go_ret
  exact ⟨rfl, Kp.al _ _⟩

set_option maxHeartbeats 400000 in
theorem eqPuzzle_same (A A' : Option Addr) (n c c' : Nat) (xs : List Cu) (W : World) (hu : RdC W (.slice A n c) xs) (hv : RdC W (.slice A' n c') xs) (hl : xs.length ≤ maxLen) :
    Calls Try.prog 13 #[.agg #[.slice A n c], .agg #[.slice A' n c']] W fun e w' => e = .returned (.bool true) ∧ Kp Nw W w' := by
  have hu2 := Lib.hid (fun o o' => hu.nw (((Kp.refl Nw W).alloc o).alloc o'))
  have hv2 := Lib.hid (fun o o' => hv.nw (((Kp.refl Nw W).alloc o).alloc o'))
  clear hu hv
  go_enter Try.func13, Try.ntmps13
  go_wp2_with fail
  refine (eqClueS_same _ _ xs _ (hu2.out _ _) (hv2.out _ _) hl).mono ?_
  rintro e w' ⟨rfl, hk⟩
  have HK := Lib.hid hk
  clear hk
  go_wp2
  go_ret
  exact ⟨rfl, (((Kp.refl Nw W).alloc _).alloc _).nw HK.out⟩

/-- what the laws' copy of a puzzle returns -/
def PuzzleCopy (W : World) (n : Nat) (xs : List Cu) (e : Ending) (w' : World) : Prop := ∃ g, e = .returned (.agg #[.slice (some ⟨g, 0, none⟩) n n]) ∧ ClAt w' W.heap.size g n n xs ∧ Kp Nw W w' ∧ W.heap.size ≤ g ∧ g < w'.heap.size

set_option maxHeartbeats 800000 in
theorem toPuzzle_any (A : Option Addr) (n c : Nat) (xs : List Cu) (W : World) (hu : RdC W (.slice A n c) xs) (hn : xs.length = n) (hl : n ≤ 1048576) :
    Calls Try.prog 11 #[.agg #[.slice A n c]] W (PuzzleCopy W n xs) := by
  have HU := Lib.hid hu
  have HN := Lib.hid hn
  clear hu hn
  go_enter Try.func11, Try.ntmps11
  go_wp2_with fail
  refine (toClueS_any _ n _ xs _ (((HU.out.nw (.al _ _)).nw (.al _ _)).nw (.al _ _)) HN.out hl).mono ?_
  rintro e w1 ⟨g, rfl, hs, hk, hg1, hg2⟩
  obtain ⟨a0, a1⟩ := (((Own1.new W (.slice A n c) 30).kp (.al _ (.cells #[.slice none 0 0] 35)) (fun h => h)).kp (.al _ (.cells #[.slice none 0 0] 35)) (fun h => h)).kp hk (fun h => h)
  obtain ⟨r0, r1⟩ := ((Own1.new (W.alloc (.cells #[.slice A n c] 30)) (.slice none 0 0) 35).kp (.al _ (.cells #[.slice none 0 0] 35)) (fun h => h)).kp hk (fun h => h)
  obtain ⟨o0, o1⟩ := (Own1.new ((W.alloc (.cells #[.slice A n c] 30)).alloc (.cells #[.slice none 0 0] 35)) (.slice none 0 0) 35).kp hk (fun h => h)
  simp only [World.size_alloc] at r0 r1 o0 o1 hg1
  have z0 := one_set _ (W.heap.size + 1) (.slice (some ⟨g, 0, none⟩) n n) _ (keepo _ _ ⟨W.heap.size + 1 + 1, 0, none⟩ (.slice (some ⟨g, 0, none⟩) n n) _ r0 (by simp))
  have H := Lib.hid hs
  have HK := Lib.hid hk
  have k1 : Hid (Kp Nw W w1) := Lib.hid ((((Kp.al W _).nw (.al _ _)).nw (.al _ _)).nw hk)
  clear hs hk
  go_wp2
  refine bodyPost_ret (v := .agg #[.slice (some ⟨g, 0, none⟩) n n]) (by simp [results, Try.results11, go_sem, z0]) rfl ⟨g, rfl, ?_, ?_, by omega, by simp [World.setCell]; omega⟩
  · have k2 : Kp (fun b => b = W.heap.size + 1 ∨ b = W.heap.size + 1 + 1) w1 w1 := Kp.refl _ _
    have h := H.out.co.kp ((k2.setCell (p := ⟨W.heap.size + 1 + 1, 0, none⟩) (.inl (.inr rfl)) (.slice (some ⟨g, 0, none⟩) n n)).setCell (p := ⟨W.heap.size + 1, 0, none⟩) (.inl (.inl rfl)) (.slice (some ⟨g, 0, none⟩) n n)) (fun g' hg' => by
      have e : g' = g := by simp [Value.ownBlock] at hg'; omega
      omega)
    exact ⟨H.out.1, by have h3 := (h.from (B' := W.heap.size) (by simp only [World.size_alloc]; omega)); unfold Co at h3; rw [H.out.1] at h3; exact h3⟩
  · exact (k1.out.setCell (.inr (by show W.heap.size ≤ W.heap.size + 1 + 1; omega)) _).setCell (.inr (by show W.heap.size ≤ W.heap.size + 1; omega)) _

theorem cellsPuzzle : Try.prog.cellsOf 30 = 1 := by kernel_rfl
theorem cellsClue : Try.prog.cellsOf 23 = 3 := by kernel_rfl
theorem cellsInt9 : Try.prog.cellsOf 3 = 1 := by kernel_rfl

theorem RdC.nil (w : World) : RdC w (.slice none 0 0) [] := ⟨none, 0, rfl, fun k hk => by simp at hk⟩
/-- a row of clues that comes in -/
theorem open_clues {H : Type} {enc : TypeId × Value → H} {W : World} {base fuel : Nat} {spare : Nat → Bool} {held : Bool} {cs : List Value} {x : DataW H × List MemPlace} (h : DataW.trod enc Try.prog W base spare held fuel 28 cs = some x) :
    ∃ (A : Option Addr) (n c : Nat) (ps : List Cu), cs = [.slice A n c] ∧ RdC W (.slice A n c) ps ∧ ps.length = n ∧ n ≤ maxLen := by
  rcases Go.Deep.open_slice Try.underlying28 h with ⟨rfl, _⟩ | ⟨a, len, cap, m, n, D, Pl, rfl, _, hl, hm, hmm, _, hx⟩
  · exact ⟨none, 0, 0, [], rfl, RdC.nil W, rfl, Nat.zero_le _⟩
  · have hlm : len ≤ m := by rw [hmm]; split <;> omega
    have each : ∀ i, ∃ p : Cu, i < len → W.cell? (a.add (i * 3)) = some (.int .i64 p.1) ∧ W.cell? (a.add (i * 3 + 1)) = some (.int .i64 p.2.1) ∧ W.cell? (a.add (i * 3 + 2)) = some (.int .i64 p.2.2) := by
      intro i
      by_cases hi : i < len
      · obtain ⟨cs', h1, h2⟩ := hx i (by omega)
        rw [cellsClue] at h1
        obtain ⟨_, hlen, hcell⟩ := World.cells?_some h1
        obtain ⟨xs, k, _, _, _, hxl, hf⟩ := DataW.trod_struct Try.underlying23 h2
        match xs, hxl, cs', hlen with
        | [y0, y1, y2], _, [v0, v1, v2], _ =>
          have g0 := hf 0 _ rfl
          have g1 := hf 1 _ rfl
          have g2 := hf 2 _ rfl
          simp [cellsInt9] at g0 g1 g2
          obtain ⟨z0, e0, _, _⟩ := DataW.trod_int Try.underlying3 g0
          obtain ⟨z1, e1, _, _⟩ := DataW.trod_int Try.underlying3 g1
          obtain ⟨z2, e2, _, _⟩ := DataW.trod_int Try.underlying3 g2
          simp only [List.cons.injEq, and_true] at e0 e1 e2
          subst e0 e1 e2
          have c0 := hcell 0 (by omega)
          have c1 := hcell 1 (by omega)
          have c2 := hcell 2 (by omega)
          rw [Go.Deep.add_add] at c0 c1 c2
          exact ⟨(z0, z1, z2), fun _ => ⟨by simpa using c0, by simpa using c1, by simpa using c2⟩⟩
      · exact ⟨(0, 0, 0), fun h => absurd h hi⟩
    let f : Nat → Cu := fun i => Classical.choose (each i)
    have hf : ∀ i, i < len → W.cell? (a.add (i * 3)) = some (.int .i64 (f i).1) ∧ W.cell? (a.add (i * 3 + 1)) = some (.int .i64 (f i).2.1) ∧ W.cell? (a.add (i * 3 + 2)) = some (.int .i64 (f i).2.2) := fun i hi => Classical.choose_spec (each i) hi
    refine ⟨some a, len, cap, (List.range len).map f, rfl, ⟨some a, cap, by simp, fun k hk => ?_⟩, by simp, by omega⟩
    simp only [List.length_map, List.length_range] at hk
    obtain ⟨c0, c1, c2⟩ := hf k hk
    obtain ⟨b, off, spot⟩ := a
    have hspot : spot = none := by simpa [Addr.add] using World.cell?_spot (hf 0 (by omega)).1
    subst hspot
    have e : ((List.range len).map f).getD k (0, 0, 0) = f k := by simp [List.getD, hk]
    rw [e]
    rw [addr_add] at c0 c1 c2
    exact ⟨b, off, rfl, c0, c1, c2⟩

set_option maxRecDepth 100000 in
theorem open_puzzle {H : Type} {enc : TypeId × Value → H} {W : World} {base : Nat} {v : Value} {d : DataW H} {p : List MemPlace} (hv : Value.okWide Try.prog W .any base 30 v) (h : DataW.Trod enc Try.prog W 0 (fun _ => true) true 30 v d p) :
    ∃ (A : Option Addr) (n c : Nat) (ps : List Cu), v = .agg #[.slice A n c] ∧ RdC W (.slice A n c) ps ∧ ps.length = n ∧ n ≤ maxLen := by
  obtain ⟨v0, y0, m, rfl, rfl, rfl, t0⟩ := open_agg1 Try.underlying30 (by kernel_rfl) cellsPuzzle hv h
  obtain ⟨A, n, c, ps, e, h1, h2, h3⟩ := open_clues t0
  simp only [List.cons.injEq, and_true] at e
  subst e
  exact ⟨A, n, c, ps, rfl, h1, h2, h3⟩

set_option maxRecDepth 100000 in
theorem open_clue {H : Type} {enc : TypeId × Value → H} {W : World} {base : Nat} {v : Value} {d : DataW H} {p : List MemPlace} (hv : Value.okWide Try.prog W .any base 23 v) (h : DataW.Trod enc Try.prog W 0 (fun _ => true) true 23 v d p) :
    ∃ q : Cu, v = .agg #[.int .i64 q.1, .int .i64 q.2.1, .int .i64 q.2.2] := by
  obtain ⟨v0, v1, v2, y0, y1, y2, m, rfl, rfl, rfl, t0, t1, t2⟩ := open_agg3 Try.underlying23 (by kernel_rfl) cellsClue hv h
  obtain ⟨k0, h0, _, _⟩ := DataW.trod_int Try.underlying3 t0
  obtain ⟨k1, h1, _, _⟩ := DataW.trod_int Try.underlying3 t1
  obtain ⟨k2, h2, _, _⟩ := DataW.trod_int Try.underlying3 t2
  simp only [List.cons.injEq, and_true] at h0 h1 h2
  subst h0 h1 h2
  exact ⟨(k0, k1, k2), rfl⟩
end Go.Proofs.Ytcfghaeogbimeaa
