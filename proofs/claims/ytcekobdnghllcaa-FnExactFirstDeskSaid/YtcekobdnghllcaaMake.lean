/- The functions of chapter 1 that make the list 0, 1, .., n - 1 (in the program and in its model) and the model's copy of a list; no condition but that n is at most a million. -/
import Derived.Test.YtcekobdnghllcaaApp
namespace Go.Proofs.Ytcekobdnghllcaa
open Go.ChangeShapes Go.WideShapes Go.ChangeAt Go.RowKit

/-- nothing that was there has changed -/
def Nw (_ : Nat) : Prop := False
theorem Kp.after {S T : Nat → Prop} {a b c : World} (h : Kp S a b) (k : Kp T b c) (hT : ∀ g, g < a.heap.size → T g → S g) : Kp S a c :=
  ⟨k.os.trans h.os, k.tape.trans h.tape, k.output.trans h.output, Nat.le_trans h.size k.size, fun i hi hs => (k.block i (Nat.lt_of_lt_of_le hi h.size) (fun ht => hs (hT i hi ht))).trans (h.block i hi hs)⟩
theorem Sl.own_ge {w : World} {B : Nat} {v : Value} {xs : List Int} (h : Sl w B v xs) : ∀ g, v.ownBlock = some g → B ≤ g ∧ g < w.heap.size := World.ownsRow.lt h
theorem Kp.own {W w w' : World} {v : Value} {xs : List Int} (h : Kp Nw W w) (hs : Sl w W.heap.size v xs) (k : Kp (fun b => v.ownBlock = some b) w w') : Kp Nw W w' :=
  h.after k (fun g hg he => by have := (hs.own_ge g he).1; omega)
theorem Kp.below' {w w' : World} (h : Kp Nw w w') : Below w.heap.size w w' := h.below (Nat.le_refl _) (fun _ hk => hk.elim)

theorem Kp.al (w : World) (o : Obj) : Kp Nw w (w.alloc o) := (Kp.refl Nw w).alloc o
theorem Kp.nw {S : Nat → Prop} {a b c : World} (h : Kp S a b) (k : Kp Nw b c) : Kp S a c := h.after k (fun _ _ hs => hs.elim)
theorem keepc {S : Nat → Prop} {w w' : World} (hk : Kp S w w') {a : Addr} {x : Value} (h : w.cell? a = some x) (hs : ¬ S a.block) : w'.cell? a = some x :=
  (hk.cell (World.block_lt_of_cell? w _ h) hs).trans h

/-- what a call returns that makes a list -/
def Makes (W : World) (xs : List Int) (e : Ending) (w' : World) : Prop := ∃ v, e = .returned v ∧ Sl w' W.heap.size v xs ∧ Kp Nw W w'

theorem Sl.val {w : World} {B : Nat} {v : Value} {xs : List Int} (h : Sl w B v xs) {n : Nat} (hn : xs.length = n) : ∃ A c, v = .slice A n c := by
  subst hn
  rcases h.2 with ⟨rfl, h0⟩ | ⟨g, cap, cur, rfl, _⟩
  · exact ⟨none, 0, by rw [h0]⟩
  · exact ⟨_, cap, rfl⟩

theorem nil_one {k : Int} {u : Value} : Vn u [k] := fun h => by cases h

theorem marks_snoc (k : Int) (n : Nat) : marks k (n + 1) = marks k n ++ [k + n] := by simp [marks, List.range_succ]

set_option maxHeartbeats 400000 in
theorem firstNumbers_any (n : Nat) (W : World) (hn : n ≤ 1000000) :
    Calls Try.prog 15 #[.int .i64 n] W (Makes W (marks 0 n)) := by
  obtain ⟨i0, hi0, hz0, hz1, hz2⟩ := info_parts intInfo
  go_enter Try.func15, Try.ntmps15
  go_wp2_with (first | (at_make; refine wpList_make_full _ rfl _ _ 22 rfl W.heap.size 3 i0 (.int .i64 0) 1 Try.underlying22 hi0 hz0 hz1 _ _ _ _ n rfl rfl rfl rfl (by rw [hz2]; omega) (by unfold maxLen; omega) (Nat.le_refl _) ?_))
  intro w1 hown hgrow
  have hs1 := Sl.zeros hown
  have hk1 : Kp Nw W w1 := (Kp.refl _ _).grown hgrow (fun g hg => by cases hg)
  have HS := Lib.hid hs1
  have HK := Lib.hid hk1
  clear hown hgrow hs1 hk1
  go_wp2
  go_loopw [4, 9] (fun _ i wr => ∃ j : Nat, j ≤ n ∧ i = .int .i64 j ∧ SlAt wr W.heap.size W.heap.size n n (marks 0 j ++ (List.replicate n 0).drop j) ∧ Kp Nw W wr) (fun _ i _ => n - (intOf i).toNat)
  case atStart => exact ⟨0, Nat.zero_le _, rfl, by simpa [marks] using HS.out, HK.out⟩
  case round =>
    obtain ⟨j, hj, rfl, hs, hk⟩ := hrel
    by_cases hlt : j < n
    · have c := hs.cell j hlt
      have f := hs.frozen j
      have H := Lib.hid hs
      have h2 : (0 : Int) ≤ j := Int.natCast_nonneg _
      have h3 : (j : Int) < n := by omega
      clear hs HS
      go_wp2
      go_roundw
      case rel =>
        refine ⟨j + 1, by omega, by go_num, ?_, hk.setCell (.inr (Nat.le_refl _)) _⟩
        have := H.out.store j (0 + (j : Int))
        rw [marks_step 0 (List.replicate n 0) j (by simpa using hlt), Int.zero_add] at this
        exact this
      case measure => simp [intOf]; omega
    · have e : j = n := by omega
      have H := Lib.hid hs
      clear hs HS
      go_wp2
      go_ret
      refine ⟨_, rfl, ?_, hk⟩
      have := H.out
      rw [e, List.drop_eq_nil_of_le (by simp), List.append_nil] at this
      exact this.sl

set_option maxHeartbeats 400000 in
theorem ciPeople_any (n : Nat) (W : World) (hn : n ≤ 1000000) :
    Calls Try.prog 14 #[.int .i64 n] W (Makes W (marks 0 n)) := by
  go_enter Try.func14, Try.ntmps14
  go_wp2
  go_loopw [3, 4] (fun s i wr => ∃ (j : Nat) (v : Value), j ≤ n ∧ i = .int .i64 j ∧ v = s ∧ Sl wr W.heap.size v (marks 0 j) ∧ Kp Nw W wr) (fun _ i _ => n - (intOf i).toNat)
  case atStart => exact ⟨0, _, Nat.zero_le _, rfl, rfl, Sl.nil _ _, Kp.refl _ _⟩
  case round =>
    rename_i wr
    obtain ⟨j, v, hj, rfl, rfl, hs, hk⟩ := hrel
    by_cases hlt : j < n
    · have h2 : (0 : Int) ≤ j := Int.natCast_nonneg _
      have h3 : (j : Int) < n := by omega
      have hs' := Lib.hid hs
      have hk' := Lib.hid hk
      clear hs hk
      go_wp2_with (first | (at_builtin; refine wpList_app _ rfl (.tmp 10) (.tmp 12) rfl W.heap.size v _ (marks 0 j) [(j : Int)] rfl rfl (hs'.out.below ((Below.refl _ _).alloc (Nat.le_refl _) _)) (Rd.one (g := wr.heap.size) (by simp)) nil_one (by simp [marks_length]; omega) (by have := hk'.out.size; simp; omega) ?_))
      intro v' w1 hs1 hk1 _
      have HS := Lib.hid hs1
      have HK := Lib.hid hk1
      clear hs1 hk1
      go_wp2
      go_roundw
      case rel => exact ⟨j + 1, v', by omega, by go_num, rfl, by rw [marks_snoc]; simpa using HS.out, (hk'.out.alloc _).own (hs'.out.below ((Below.refl _ _).alloc (Nat.le_refl _) _)) HK.out⟩
      case measure => simp [intOf]; omega
    · have e : j = n := by omega
      subst e
      have H := Lib.hid hs
      clear hs
      go_wp2
      go_ret
      exact ⟨_, rfl, H.out, hk⟩
end Go.Proofs.Ytcekobdnghllcaa
