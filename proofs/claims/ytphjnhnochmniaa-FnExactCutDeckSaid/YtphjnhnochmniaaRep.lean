/- Cats with as many lives each (EvenCats), in the program and in the model, and slices.Repeat of one element; no condition but that there are at most a thousand. -/
import Derived.Test.YtphjnhnochmniaaCats
import Derived.Test.YtphjnhnochmniaaShelf
import Derived.Laws.CopyOwn
import Derived.Deep.RegionLaw
namespace Go.Proofs.Ytphjnhnochmniaa
open Go.ChangeShapes Go.WideShapes Go.ChangeAt Go.RowKit

/-- a row of n cells of which the first j hold x, the others 0 -/
def rp (x : Int) (j n : Nat) : List Value := List.replicate j (Value.int .i64 x) ++ List.replicate (n - j) (Value.int .i64 0)
theorem rp_length (x : Int) (j n : Nat) (h : j ≤ n) : (rp x j n).length = n := by simp [rp]; omega
theorem splice_rp (x : Int) (j n m : Nat) (h : j + m ≤ n) : splice (rp x j n) j (List.replicate m (Value.int .i64 x)) = rp x (j + m) n := by
  have h1 : (rp x j n).take j = List.replicate j (Value.int .i64 x) := by
    unfold rp
    rw [List.take_append_of_le_length (by simp), List.take_of_length_le (by simp)]
  have h2 : (rp x j n).drop (j + m) = List.replicate (n - (j + m)) (Value.int .i64 0) := by
    unfold rp
    rw [List.drop_append, List.drop_eq_nil_of_le (by simp), List.nil_append, List.length_replicate, List.drop_replicate]
    congr 1
    omega
  unfold splice
  rw [List.length_replicate, h1, h2, ← List.append_assoc, List.replicate_append_replicate]
  rfl
theorem rp_get (x : Int) (j n i : Nat) (h : i < j) : (rp x j n)[i]? = some (.int .i64 x) := by
  unfold rp
  rw [List.getElem?_append_left (by simpa using h)]
  simp [h]
theorem slAt_rp {w : World} {B g n : Nat} {x : Int} (hg : w.heap[g]? = some (.cells (rp x n n).toArray 3 (0, 0))) (hB : B ≤ g) (hn : n ≤ 1000) : SlAt w B g n n (List.replicate n x) := by
  have e : rp x n n = List.replicate n (Value.int .i64 x) := by simp [rp]
  rw [e] at hg
  exact ⟨by simp, by simp, .inr ⟨g, n, _, rfl, hB, hg, Nat.le_refl _, by unfold maxLen; omega, by simp, by simp⟩⟩
theorem rp_made {w : World} {B g n : Nat} (x : Int) (h : w.ownsRow B 3 1 (.slice (some ⟨g, 0, none⟩) n n) n (madeCells #[Value.int .i64 0] n).toList) : w.heap[g]? = some (.cells (rp x 0 n).toArray 3 (0, 0)) := by
  have hs := (Sl.zeros h)
  rcases hs.2.2 with ⟨h', _⟩ | ⟨g', cap, cur, h', _, hg, _, _, hsz, ht⟩
  · simp at h'
  · simp only [Value.slice.injEq, Option.some.injEq, Addr.mk.injEq, and_true, true_and] at h'
    obtain ⟨rfl, rfl⟩ := h'
    have e : cur = (rp x 0 n).toArray := by
      have h3 : cur.toList = rp x 0 n := by
        rw [Nat.mul_one] at ht hsz
        rw [List.take_of_length_le (by simp [hsz])] at ht
        rw [ht]; simp [rp]
      rw [← h3]
    rw [hg, e]

theorem mul_as (n : Nat) (w : World) (h : n ≤ 1000) :
    Calls Try.prog 89 #[.int .u64 1, .int .u64 n] w fun e w' => e = .returned (.tuple #[.int .u64 0, .int .u64 n]) ∧ w' = w := by
  have h1 := Try.bits_Mul 1 n (by omega) (by omega) w
  rw [show (1 * n / 18446744073709551616 : Nat) = 0 by omega, show (1 * n % 18446744073709551616 : Nat) = n by omega] at h1
  exact h1

set_option maxRecDepth 100000 in
set_option maxHeartbeats 1600000 in
theorem repeat_any (b n : Nat) (x : Int) (W : World) (hc : W.cell? ⟨b, 0, none⟩ = some (.int .i64 x)) (n1 : 1 ≤ n) (n2 : n ≤ 1000) :
    Calls Try.prog 79 #[.slice (some ⟨b, 0, none⟩) 1 1, .int .i64 n] W fun e w' => ∃ g, e = .returned (.slice (some ⟨g, 0, none⟩) n n) ∧ SlAt w' W.heap.size g n n (List.replicate n x) ∧ Kp Nw W w' ∧ W.heap.size ≤ g ∧ g < w'.heap.size := by
  obtain ⟨i0, hi0, hz0, hz1, hz2⟩ := info_parts intInfo
  have hsz : (Try.prog.info? 3).map (·.size) = some 1 := by kernel_rfl
  have HC := Lib.hid hc
  have c0 : (0 : Int) ≤ n := Int.natCast_nonneg _
  have c1 : ¬ (n : Int) < 0 := by omega
  have c2 : IntKind.u64.wrap (n : Int) = n := by rw [IntKind.wrap_u64]; omega
  have c3 : IntKind.i64.wrap (n : Int) = n := IntWalk.i64_in _ (by omega)
  have c4 : ¬ (9223372036854775807 : Int) < n := by omega
  have c5 : (n : Int) ≤ 9223372036854775807 := by omega
  clear hc
  go_enter Try.func79, Try.ntmps79
  go_wp2_with fail
  refine (mul_as n W n2).mono ?_
  rintro e w' ⟨rfl, rfl⟩
  go_wp2_with (first | (at_make; refine wpList_make_full _ rfl _ _ 22 rfl w'.heap.size 3 i0 (.int .i64 0) 1 Try.underlying22 hi0 hz0 hz1 _ _ _ _ n rfl rfl rfl rfl (by rw [hz2]; omega) (by unfold maxLen; omega) (Nat.le_refl _) ?_))
  intro w1 hown hgrow
  have hk1 : Kp Nw w' w1 := (Kp.refl _ _).grown hgrow (fun g hg => by cases hg)
  have hgl : w'.heap.size < w1.heap.size := (World.ownsRow.lt hown w'.heap.size rfl).2
  have HG := Lib.hid (rp_made x hown)
  have HK := Lib.hid hk1
  have HB := Lib.hid (keepc hk1 HC.out (fun h => h))
  have HP1 : Hid (0 < [Value.int .i64 x].length → some (⟨w'.heap.size, 0, none⟩ : Addr) = some ⟨w'.heap.size, 0, none⟩ ∧ ∃ ad, some (⟨b, 0, none⟩ : Addr) = some ad ∧ ∀ j v, [Value.int .i64 x][j]? = some v → w1.cell? (ad.add j) = some v) := Lib.hid (fun _ => ⟨rfl, _, rfl, fun j v hj => by
    rcases j with _ | j
    · simp at hj
      subst hj
      simpa [addr_add] using HB.out
    · simp at hj⟩)
  clear hown hgrow hk1
  go_wp2_with (first | (refine wpList_copy_splice rfl (.tmp 31) (.tmp 32) 22 22 rfl 3 Try.underlying22 hsz (some ⟨w'.heap.size, 0, none⟩) (some ⟨b, 0, none⟩) n n 1 1 rfl rfl w'.heap.size 0 (rp x 0 n) 3 HG.out [.int .i64 x] (by show 1 = min 1 n; omega) HP1.out (by rw [rp_length x 0 n (by omega)]; show 0 + 1 ≤ n; omega) (fun v hv => by rw [List.mem_singleton.1 hv]; rfl) w'.heap.size w' HK.out.below' (Nat.le_refl _) ?_))
  intro w2 hg2 hb2
  have HG2 : Hid (w2.heap[w'.heap.size]? = some (.cells (rp x 1 n).toArray 3 (0, 0))) := Lib.hid (by
    have h := hg2.out
    rw [show ([Value.int .i64 x] : List Value) = List.replicate 1 (Value.int .i64 x) from rfl, splice_rp x 0 n 1 (by omega)] at h
    exact h)
  have HK2 : Hid (Kp Nw w' w2) := Lib.hid (Kp.of_below hb2)
  clear hg2 hb2 HG HK
  go_wp2
  go_loopw [8] (fun v wr => ∃ j : Nat, 1 ≤ j ∧ j ≤ n ∧ v = .int .i64 j ∧ wr.heap[w'.heap.size]? = some (.cells (rp x j n).toArray 3 (0, 0)) ∧ Kp Nw w' wr) (fun v _ => n - (intOf v).toNat)
  case atStart => exact ⟨1, Nat.le_refl _, n1, rfl, HG2.out, HK2.out⟩
  case round =>
    rename_i wr
    obtain ⟨j, hj1, hj2, rfl, hg, hk⟩ := hrel
    have HG := Lib.hid hg
    have HK := Lib.hid hk
    clear hg hk HG2 HK2
    have j0 : (0 : Int) ≤ j := Int.natCast_nonneg _
    by_cases hlt : j < n
    · have j1 : (j : Int) < n := by omega
      have j2 : (j : Int) ≤ n := by omega
      obtain ⟨m, hm⟩ : ∃ m, Nat.min j (n - j) = m := ⟨_, rfl⟩
      have m1 : 1 ≤ m := by rw [← hm]; simp [Nat.min_def]; split <;> omega
      have m2 : m ≤ j := by rw [← hm]; exact Nat.min_le_left _ _
      have m3 : j + m ≤ n := by have h3 : Nat.min j (n - j) ≤ n - j := Nat.min_le_right _ _; rw [hm] at h3; omega
      have HM := Lib.hid hm
      have q0 : IntKind.i64.wrap ((j : Int) + m) = (j : Int) + m := IntWalk.i64_in _ (by omega)
      have q6 := cut_to w'.heap.size n n j hj2
      obtain ⟨Ad, had, q7⟩ := cut_from w'.heap.size n n j hj2 (Nat.le_refl _)
      have eA : Ad = ⟨w'.heap.size, j, none⟩ := by
        rcases had with h | h
        · exact h
        · omega
      subst eA
      clear had hm
      obtain ⟨cs, hcs⟩ : ∃ cs, cs = List.replicate m (Value.int .i64 x) := ⟨_, rfl⟩
      have hcl : cs.length = m := by rw [hcs, List.length_replicate]
      subst hcl
      have CS := Lib.hid hcs
      have HP2 : Hid (∀ i v, cs[i]? = some v → wr.drew.cell? ((⟨w'.heap.size, 0, none⟩ : Addr).add i) = some v) := Lib.hid (fun i v hi => by
        have hi' : i < cs.length := by
          have := (List.getElem?_eq_some_iff.1 hi).1
          exact this
        have hv : v = .int .i64 x := by
          have h9 := hcs
          rw [h9, List.getElem?_replicate, if_pos hi'] at hi
          injection hi with hi
          exact hi.symm
        subst hv
        rw [addr_add]
        show wr.cell? ⟨w'.heap.size, 0 + i, none⟩ = _
        simp only [World.cell?, HG.out, Nat.zero_add]
        simp [rp_get x j n i (by omega)])
      clear hcs
      go_wp2
      go_region_law (refine step_copy_splice rfl (.tmp 41) (.tmp 44) 22 22 rfl 3 Try.underlying22 hsz (some ⟨w'.heap.size, j, none⟩) (some ⟨w'.heap.size, 0, none⟩) (n - j) (n - j) j n (by simp [Act.eval, Act.put]) (by simp [Act.eval, Act.put]) w'.heap.size j (rp x j n) 3 HG.out cs HM.out.symm (fun _ => ⟨rfl, _, rfl, HP2.out⟩) (by rw [rp_length x j n hj2]; exact m3) (fun v hv => by have h9 := CS.out; rw [h9] at hv; rw [List.eq_of_mem_replicate hv]; rfl) w'.heap.size w' HK.out.drew.below' (Nat.le_refl _) ?_; intro w4 hg4 hb4)
      have HG4 : Hid (w4.heap[w'.heap.size]? = some (.cells (rp x (j + cs.length) n).toArray 3 (0, 0))) := Lib.hid (by
        have h := hg4.out
        have h9 := splice_rp x j n cs.length m3
        rw [← CS.out] at h9
        rw [h9] at h
        exact h)
      have HK4 : Hid (Kp Nw w' w4) := Lib.hid (Kp.of_below hb4)
      clear hg4 hb4
      go_simp
      go_wp2
      go_roundw
      case rel => exact ⟨j + cs.length, by omega, m3, by simp, HG4.out, HK4.out⟩
      case measure => simp [intOf]; omega
    · have e : j = n := by omega
      subst e
      have hw := HK.out.size
      have hl := (Array.getElem?_eq_some_iff.1 HG.out).1
      go_wp2
      go_ret
      exact ⟨w'.heap.size, rfl, slAt_rp HG.out (Nat.le_refl _) n2, HK.out, Nat.le_refl _, hl⟩
end Go.Proofs.Ytphjnhnochmniaa
