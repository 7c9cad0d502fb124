/- The texts ISong, RotM, JoinS, ISongJ, as one. -/
import Derived.Test.YtpajmgonceepoabDoorSingI
import Derived.Test.YtpajmgonceepoabDoorSoM
import Derived.Test.YtpajmgonceepoabDoorRot
import Derived.Test.YtpajmgonceepoabDoorGive
import Derived.Test.YtpajmgonceepoabDoorSoJ
namespace Go.Proofs.YtpajmgonceepoabDoor
open Go.ChangeShapes Go.WideShapes Go.ChangeAt Go.RowKit
end Go.Proofs.YtpajmgonceepoabDoor
namespace Go.Proofs.YtpajmgonceepoabDoor
open Go.ChangeShapes Go.WideShapes Go.ChangeAt Go.RowKit

/-- turned by k the list reads the same -/
def rtP (xs : List Int) (k : Nat) : Prop := ∀ i, i < xs.length → xs.getD ((i + k) % xs.length) 0 = xs.getD i 0
theorem rotS_rt (xs : List Int) (k : Nat) (hk : k < xs.length) : rotS xs k = xs ↔ rtP xs k := by
  have hg : ∀ i, i < xs.length → (rotS xs k).getD i 0 = xs.getD ((i + k) % xs.length) 0 := fun i hi => by
    have := rot_getD xs k i 0 hk hi
    rw [Nat.add_comm] at this
    exact this
  constructor
  · intro h i hi
    rw [← hg i hi, h]
  · intro h
    apply List.ext_getElem (rotS_length xs k)
    intro i h1 h2
    have := (hg i h2).trans (h i h2)
    simpa [List.getD, h1, h2] using this
theorem rtP_add {xs : List Int} {a b : Nat} (ha : rtP xs a) (hb : rtP xs b) : rtP xs (a + b) := by
  intro i hi
  have h1 := hb ((i + a) % xs.length) (Nat.mod_lt _ (by omega))
  rw [Nat.mod_add_mod, ha i hi, Nat.add_assoc] at h1
  exact h1
theorem rtP_mul {xs : List Int} {a : Nat} (ha : rtP xs a) : ∀ q, rtP xs (q * a)
  | 0 => fun i hi => by rw [Nat.zero_mul, Nat.add_zero, Nat.mod_eq_of_lt hi]
  | q + 1 => by rw [Nat.succ_mul]; exact rtP_add (rtP_mul ha q) ha
theorem rtP_sub {xs : List Int} {a b : Nat} (h : rtP xs (a + b)) (ha : rtP xs a) : rtP xs b := by
  intro i hi
  have h1 := ha ((i + b) % xs.length) (Nat.mod_lt _ (by omega))
  rw [Nat.mod_add_mod, Nat.add_assoc, Nat.add_comm b a] at h1
  rw [← h1]
  exact h i hi
theorem rtP_all (xs : List Int) : rtP xs xs.length := fun i hi => by rw [Nat.add_mod_right, Nat.mod_eq_of_lt hi]

theorem perB_of {xs : List Int} {k : Nat} (h1 : 1 ≤ k) (h2 : k < xs.length) (hk : rtP xs k) (hmin : ∀ j, 1 ≤ j → j < k → ¬ rtP xs j) : perB xs k (xs.length - k) = true := by
  unfold perB shB
  rw [Bool.and_eq_true]
  refine ⟨decide_eq_true ?_, List.all_eq_true.2 fun e he => ?_⟩
  · have hr : rtP xs (xs.length % k) := by
      have h := rtP_all xs
      rw [← Nat.div_add_mod xs.length k, Nat.mul_comm] at h
      have e : xs.length / k * k + xs.length % k = xs.length := by rw [Nat.mul_comm]; exact Nat.div_add_mod _ _
      have h' : rtP xs (xs.length / k * k + xs.length % k) := by rw [e]; exact rtP_all xs
      exact rtP_sub h' (rtP_mul hk _)
    have hlt := Nat.mod_lt xs.length (show k > 0 by omega)
    rcases Nat.eq_zero_or_pos (xs.length % k) with h | h
    · exact h
    · exact absurd hr (hmin _ h hlt)
  · have he' := List.mem_range.1 he
    have := hk e (by omega)
    rw [Nat.mod_eq_of_lt (by omega), Nat.add_comm] at this
    rw [this]
    simp
theorem rtP_of {xs : List Int} {k : Nat} (h1 : 1 ≤ k) (h2 : k < xs.length) (h : perB xs k (xs.length - k) = true) : rtP xs k := by
  unfold perB shB at h
  rw [Bool.and_eq_true] at h
  obtain ⟨hd, hs⟩ := h
  have hd := of_decide_eq_true hd
  have hsh : ∀ e, e + k < xs.length → xs.getD (e + k) 0 = xs.getD e 0 := fun e he => by
    have := List.all_eq_true.1 hs e (List.mem_range.2 (by omega))
    rw [Nat.add_comm]
    simpa using this
  have hm : ∀ (j m : Nat), j + m * k < xs.length → xs.getD (j + m * k) 0 = xs.getD j 0 := by
    intro j m
    induction m with
    | zero => intro _; rw [Nat.zero_mul, Nat.add_zero]
    | succ m ih =>
      intro hl
      rw [Nat.succ_mul] at hl ⊢
      rw [← Nat.add_assoc] at hl ⊢
      rw [hsh _ hl]
      exact ih (by omega)
  intro i hi
  by_cases hlt : i + k < xs.length
  · rw [Nat.mod_eq_of_lt hlt]; exact hsh i hlt
  · obtain ⟨q, hq⟩ : ∃ q, xs.length = k * q := ⟨xs.length / k, by have := Nat.div_add_mod xs.length k; omega⟩
    have q1 : 1 ≤ q := by
      rcases Nat.eq_zero_or_pos q with h | h
      · rw [h, Nat.mul_zero] at hq; omega
      · exact h
    obtain ⟨p, rfl⟩ : ∃ p, q = p + 1 := ⟨q - 1, by omega⟩
    rw [Nat.mul_succ, Nat.mul_comm] at hq
    have e : (i + k) % xs.length = i + k - xs.length := by rw [Nat.mod_eq_sub_mod (by omega), Nat.mod_eq_of_lt (by omega)]
    have := hm (i + k - xs.length) p (by omega)
    rw [e, ← this]
    congr 1
    omega

theorem lsN_found (xs : List Int) (t : Nat) (ht : t < xs.length) (hp : perB xs t (xs.length - t) = true) : ∀ (m k : Nat), k + m = xs.length → k ≤ t → (∀ j, k ≤ j → j < t → perB xs j (xs.length - j) = false) → lsN xs k m = t
  | 0, k, h, hk, _ => by omega
  | m + 1, k, h, hk, hno => by
    unfold lsN
    by_cases e : k = t
    · subst e; rw [if_pos hp]
    · rw [if_neg (by rw [hno k (Nat.le_refl _) (by omega)]; simp)]
      exact lsN_found xs t ht hp m (k + 1) (by omega) (by omega) (fun j h1 h2 => hno j (by omega) h2)
theorem lsN_none (xs : List Int) : ∀ (m k : Nat), k + m = xs.length → (∀ j, k ≤ j → j < xs.length → perB xs j (xs.length - j) = false) → lsN xs k m = xs.length
  | 0, k, h, _ => rfl
  | m + 1, k, h, hno => by
    unfold lsN
    rw [if_neg (by rw [hno k (Nat.le_refl _) (by omega)]; simp)]
    exact lsN_none xs m (k + 1) (by omega) (fun j h1 h2 => hno j (by omega) h2)
theorem perB_no {xs : List Int} {j : Nat} (h1 : 1 ≤ j) (h2 : j < xs.length) (h : rotS xs j ≠ xs) : perB xs j (xs.length - j) = false := by
  cases hb : perB xs j (xs.length - j) with
  | false => rfl
  | true => exact absurd ((rotS_rt xs j h2).2 (rtP_of h1 h2 hb)) h
theorem leastS_found {xs : List Int} {k : Nat} (h1 : 1 ≤ k) (h2 : k < xs.length) (hk : rotS xs k = xs) (hmin : ∀ j, 1 ≤ j → j < k → rotS xs j ≠ xs) : leastS xs = k :=
  lsN_found xs k h2 (perB_of h1 h2 ((rotS_rt xs k h2).1 hk) (fun j a b h => hmin j a b ((rotS_rt xs j (by omega)).2 h))) _ 1 (by omega) h1 (fun j a b => perB_no a (by omega) (hmin j a b))
theorem leastS_none {xs : List Int} (h1 : 1 ≤ xs.length) (hmin : ∀ j, 1 ≤ j → j < xs.length → rotS xs j ≠ xs) : leastS xs = xs.length :=
  lsN_none xs _ 1 (by omega) (fun j a b => perB_no a b (hmin j a b))
end Go.Proofs.YtpajmgonceepoabDoor
namespace Go.Proofs.YtpajmgonceepoabDoor
open Go.ChangeShapes Go.WideShapes Go.ChangeAt Go.RowKit

theorem two_new (w : World) (x y : Value) (t : TypeId) (b : Nat) (hb : b = w.heap.size) (j : Nat) : (w.alloc (.cells #[x, y] t)).cell? ⟨b, j, none⟩ = #[x, y][j]? := by
  subst hb
  have hn := heap_alloc_new w (.cells #[x, y] t)
  unfold World.cell?
  rw [hn]
  rfl
theorem song_counts (A : Option Addr) (n c : Nat) : ∀ w : World, (Instr.field 24 (.agg #[.slice A n c]) 0).run Tryd.prog w = .ok (.slice A n c) w := fun _ => by kernel_rfl
/-- what is joined so far -/
def accS (zs : Nat → List Int) : Nat → List Int
  | 0 => []
  | j + 1 => accS zs j ++ zs j
theorem accS_len (zs : Nat → List Int) (h : ∀ j, j < 2 → (zs j).length ≤ 1000) : ∀ j, j ≤ 2 → (accS zs j).length ≤ j * 1000
  | 0, _ => by simp [accS]
  | j + 1, hj => by
    have h1 := accS_len zs h j (by omega)
    have h2 := h j (by omega)
    rw [accS, List.length_append]
    omega

theorem iIsSong_b (A : Option Addr) (n c : Nat) (xs : List Int) (W : World) (hu : Rd W (.slice A n c) xs) (hn : xs.length = n) (hl : n ≤ 2000000) (b : Bool) (hb : b = sgB xs) :
    Calls Tryd.prog 26 #[.agg #[.slice A n c]] W fun e w' => e = .returned (.bool b) ∧ Kp Nw W w' := by
  subst hb
  exact iIsSong_is A n c xs W hu hn hl

end Go.Proofs.YtpajmgonceepoabDoor
namespace Go.Proofs.YtpajmgonceepoabDoor
open Go.ChangeShapes Go.WideShapes Go.ChangeAt Go.RowKit
/-- what it gives if there is a song -/
def ifS (A : Option Addr) (n c : Nat) : Bool → Value
  | true => .slice A n c
  | false => .slice none 0 0

set_option maxHeartbeats 800000 in
theorem ifSong_any (A : Option Addr) (n c : Nat) (xs : List Int) (W : World) (hu : Rd W (.slice A n c) xs) (hn : xs.length = n) (hl : n ≤ 2000000) (b : Bool) (hb : b = sgB xs) :
    Calls Tryd.prog 17 #[.agg #[.slice A n c]] W fun e w' => e = .returned (.tuple #[.agg #[ifS A n c b], .bool b]) ∧ Kp Nw W w' := by
  have HU := Lib.hid hu
  have HN := Lib.hid hn
  have HB := Lib.hid hb
  clear hu hn hb
  cases b
  · go_enter Tryd.func17, Tryd.ntmps17
    go_wp2_with (first | (refine (iIsSong_b _ n c xs _ (HU.out.nw ((Kp.al W _).nw (.al _ _))) HN.out hl _ HB.out).mono ?_; rintro e w1 ⟨rfl, hk1⟩; obtain ⟨kk1, hz1, cc1, rr1⟩ := song_open _ W w1 hk1; have HK1 := Lib.hid kk1; have HC1 := Lib.hid cc1; have HR1 := Lib.hid rr1; have hc1 := cc1.1; have hr1 := rr1.1; have hr2 := rr1.2; clear hk1 kk1 cc1 rr1))
    have z0 := one_set w1 (W.heap.size + 1) (.slice none 0 0) _ HR1.out.1
    refine bodyPost_ret (v := .tuple #[.agg #[.slice none 0 0], .bool false]) (by simp [results, Tryd.results17, go_sem, z0]) rfl ⟨rfl, HK1.out.setCell (.inr (by show W.heap.size ≤ W.heap.size + 1; omega)) _⟩
  · go_enter Tryd.func17, Tryd.ntmps17
    go_wp2_with (first | (refine (iIsSong_b _ n c xs _ (HU.out.nw ((Kp.al W _).nw (.al _ _))) HN.out hl _ HB.out).mono ?_; rintro e w1 ⟨rfl, hk1⟩; obtain ⟨kk1, hz1, cc1, rr1⟩ := song_open _ W w1 hk1; have HK1 := Lib.hid kk1; have HC1 := Lib.hid cc1; have HR1 := Lib.hid rr1; have hc1 := cc1.1; have hr1 := rr1.1; have hr2 := rr1.2; clear hk1 kk1 cc1 rr1))
    have z0 := one_set w1 (W.heap.size + 1) (.slice A n c) _ HR1.out.1
    refine bodyPost_ret (v := .tuple #[.agg #[.slice A n c], .bool true]) (by simp [results, Tryd.results17, go_sem, z0]) rfl ⟨rfl, HK1.out.setCell (.inr (by show W.heap.size ≤ W.heap.size + 1; omega)) _⟩

theorem sgB_append {xs ys : List Int} (hx : sgB xs = true) (hy : sgB ys = true) : sgB (xs ++ ys) = decide (xs.length + ys.length ≤ 20) := by
  have h1 := sgB_len hx
  have h2 := sgB_len hy
  have a1 : xs.all (okR 1 1000000) = true := by unfold sgB at hx; rw [Bool.and_eq_true] at hx; exact hx.2
  have a2 : ys.all (okR 1 1000000) = true := by unfold sgB at hy; rw [Bool.and_eq_true] at hy; exact hy.2
  unfold sgB
  rw [List.all_append, a1, a2, List.length_append]
  simp
  omega

end Go.Proofs.YtpajmgonceepoabDoor
