/- DropClue in the model; results that are puzzles; no condition. -/
import Derived.Test.YtcfghaeogbimeadPuzB
import Derived.Test.YtcfghaeogbimeadMPz
import Derived.Test.YtcfghaeogbimeadWith
namespace Go.Proofs.Ytcfghaeogbimead
open Go.ChangeShapes Go.WideShapes Go.ChangeAt Go.RowKit

/-- a puzzle boxed, a puzzle's cell for the result: both are there behind a call -/
theorem puz_open (x : Value) (W w1 : World) (hk : Kp Nw ((W.alloc (.cells #[x] 28)).alloc (.cells #[.slice none 0 0] 28)) w1) :
    Kp Nw W w1 ∧ W.heap.size + 2 ≤ w1.heap.size ∧ Own1 w1 W.heap.size x ∧ Own1 w1 (W.heap.size + 1) (.slice none 0 0) := by
  refine ⟨((Kp.al W _).nw (.al _ _)).nw hk, by have := hk.size; simp only [World.size_alloc] at this; exact this, ((Own1.new W x 28).kp (.al _ _) (fun h => h)).kp hk (fun h => h), ?_⟩
  have h := (Own1.new (W.alloc (.cells #[x] 28)) (.slice none 0 0) 28).kp hk (fun h => h)
  simpa only [World.size_alloc] using h
/-- the result stored into its cell -/
theorem puz_close {W w1 : World} {v : Value} {xs : List Cu} (b : Nat) (hs : Cl w1 (W.heap.size + b + 1) v xs) (hk : Kp Nw W w1) :
    Cl (w1.setCell ⟨W.heap.size + b, 0, none⟩ v) W.heap.size v xs ∧ Kp Nw W (w1.setCell ⟨W.heap.size + b, 0, none⟩ v) := by
  refine ⟨?_, hk.setCell (.inr (by show W.heap.size ≤ W.heap.size + b; omega)) _⟩
  have k9 : Kp (fun g => g = W.heap.size + b) w1 w1 := Kp.refl _ _
  exact (hs.kp (k9.setCell (p := ⟨W.heap.size + b, 0, none⟩) (.inl rfl) v) (fun gg a b => by have := (hs.own_ge gg a).1; omega)).from (by omega)
theorem puz_none {W w1 : World} (b : Nat) (hz : W.heap.size + b + 1 ≤ w1.heap.size) (hk : Kp Nw W w1) :
    Cl (w1.setCell ⟨W.heap.size + b, 0, none⟩ (.slice none 0 0)) W.heap.size (.slice none 0 0) [] ∧ Kp Nw W (w1.setCell ⟨W.heap.size + b, 0, none⟩ (.slice none 0 0)) :=
  puz_close b ((Cl.nil w1 w1.heap.size).from hz) hk
def vDrop (ps : List Cu) (k : Int) : List Cu × Bool := if puzB ps = true ∧ 0 ≤ k ∧ k ≤ (ps.length : Int) - 1 then (wo ps k.toNat, true) else ([], false)
theorem vDrop_len (ps : List Cu) (k : Int) : (vDrop ps k).1.length ≤ 1000000 := by
  unfold vDrop
  split
  · rename_i h
    have h6 := (puz_parts h.1).1
    have := wo_len ps k.toNat (by omega)
    simp only
    omega
  · exact Nat.zero_le _

set_option maxRecDepth 100000 in
set_option maxHeartbeats 3200000 in
theorem sDropClue_any (g n B : Nat) (ps : List Cu) (k : Int) (W : World) (hs : ClAt W B g n n ps) (hl : n ≤ 1048576) :
    Calls Try.prog 7 #[.agg #[.slice (some ⟨g, 0, none⟩) n n], .int .i64 k] W (PuzB W (vDrop ps k).1 (vDrop ps k).2) := by
  have HS := Lib.hid hs
  have HN : Hid (ps.length = n) := Lib.hid hs.1
  rw [vDrop, hs.1]
  clear hs
  have q9 : IntKind.i64.wrap ((n : Int) - 1) = (n : Int) - 1 := IntWalk.i64_in _ (by omega)
  cases hb : puzB ps
  · rw [if_neg (by simp)]
    have HB := Lib.hid hb
    clear hb
    go_enter Try.func7, Try.ntmps7
    go_wp2_with (first | (refine (pzGood_any _ n n ps _ (HS.out.cl.rd.nw ((Kp.al W _).nw (.al _ _))) HN.out (by unfold maxLen; omega) _ HB.out.symm).mono ?_; rintro e w1 ⟨rfl, hk1⟩; obtain ⟨kk1, hz1, cc1, rr1⟩ := puz_open _ W w1 hk1; have HK1 := Lib.hid kk1; have HC1 := Lib.hid cc1; have HR1 := Lib.hid rr1; have hc1 := cc1.1; have hr1 := rr1.1; have hr2 := rr1.2; clear kk1 cc1 rr1 hk1))
    have z0 := one_set w1 (W.heap.size + 1) (.slice none 0 0) _ HR1.out.1
    have HZ := Lib.hid (puz_none 1 hz1 HK1.out)
    go_wp2
    refine bodyPost_ret (v := .tuple #[.agg #[.slice none 0 0], .bool false]) (by simp [results, Try.results7, go_sem, z0]) rfl ⟨_, rfl, HZ.out.1, HZ.out.2⟩
  · have HB := Lib.hid hb
    obtain ⟨n2, hall⟩ := puz_parts hb
    rw [HN.out] at n2
    clear hb hall
    by_cases hk : 0 ≤ k ∧ k ≤ (n : Int) - 1
    · rw [if_pos ⟨rfl, hk⟩]
      obtain ⟨k0, k1⟩ := hk
      obtain ⟨t, ht⟩ : ∃ t, k.toNat = t := ⟨_, rfl⟩
      obtain rfl : k = (t : Int) := by omega
      rw [Int.toNat_natCast]
      clear ht
      go_enter Try.func7, Try.ntmps7
      go_wp2_with (first | (refine (pzGood_any _ n n ps _ (HS.out.cl.rd.nw ((Kp.al W _).nw (.al _ _))) HN.out (by unfold maxLen; omega) _ HB.out.symm).mono ?_; rintro e w1 ⟨rfl, hk1⟩; obtain ⟨kk1, hz1, cc1, rr1⟩ := puz_open _ W w1 hk1; have HK1 := Lib.hid kk1; have HC1 := Lib.hid cc1; have HR1 := Lib.hid rr1; have hc1 := cc1.1; have hr1 := rr1.1; have hr2 := rr1.2; clear kk1 cc1 rr1 hk1) | ((with_reducible refine (l1In_yes _ _ _ _ k0 k1).mono ?_); rintro e w' ⟨rfl, rfl⟩))
      refine (pzWithout_any g n n t ps _ (HS.out.cl.rd.nw HK1.out) HN.out (Nat.le_refl _) (by omega) (by omega)).mono ?_
      rintro e w2 ⟨v2, rfl, hs2, hk2⟩
      obtain ⟨A2, c2, rfl⟩ := hs2.val (n := n - 1) (by have := wo_len ps t (by rw [HN.out]; omega); rw [HN.out] at this; omega)
      obtain ⟨r0, r1⟩ := HR1.out.kp hk2 (fun h => h)
      have z0 := one_set w2 (W.heap.size + 1) (.slice A2 (n - 1) c2) _ r0
      have HZ := Lib.hid (puz_close 1 (hs2.cl.from (by omega)) (HK1.out.nw hk2))
      clear hs2 hk2
      go_wp2
      refine bodyPost_ret (v := .tuple #[.agg #[.slice A2 (n - 1) c2], .bool true]) (by simp [results, Try.results7, go_sem, z0]) rfl ⟨_, rfl, HZ.out.1, HZ.out.2⟩
    · rw [if_neg (fun h => hk h.2)]
      have hk' : k < 0 ∨ (n : Int) - 1 < k := by omega
      clear hk
      go_enter Try.func7, Try.ntmps7
      go_wp2_with (first | (refine (pzGood_any _ n n ps _ (HS.out.cl.rd.nw ((Kp.al W _).nw (.al _ _))) HN.out (by unfold maxLen; omega) _ HB.out.symm).mono ?_; rintro e w1 ⟨rfl, hk1⟩; obtain ⟨kk1, hz1, cc1, rr1⟩ := puz_open _ W w1 hk1; have HK1 := Lib.hid kk1; have HC1 := Lib.hid cc1; have HR1 := Lib.hid rr1; have hc1 := cc1.1; have hr1 := rr1.1; have hr2 := rr1.2; clear kk1 cc1 rr1 hk1) | ((with_reducible refine (l1In_no _ _ _ _ hk').mono ?_); rintro e w' ⟨rfl, rfl⟩))
      have z0 := one_set w1 (W.heap.size + 1) (.slice none 0 0) _ HR1.out.1
      have HZ := Lib.hid (puz_none 1 hz1 HK1.out)
      go_wp2
      refine bodyPost_ret (v := .tuple #[.agg #[.slice none 0 0], .bool false]) (by simp [results, Try.results7, go_sem, z0]) rfl ⟨_, rfl, HZ.out.1, HZ.out.2⟩
end Go.Proofs.Ytcfghaeogbimead
