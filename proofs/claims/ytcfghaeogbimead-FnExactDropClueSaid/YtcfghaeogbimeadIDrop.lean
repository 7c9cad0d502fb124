/- DropClue in the program; no condition. -/
import Derived.Test.YtcfghaeogbimeadPzG
import Derived.Test.YtcfghaeogbimeadMIn
namespace Go.Proofs.Ytcfghaeogbimead
open Go.ChangeShapes Go.WideShapes Go.ChangeAt Go.RowKit

set_option maxRecDepth 100000 in
set_option maxHeartbeats 3200000 in
theorem iDropClue_any (g n B : Nat) (ps : List Cu) (k : Int) (W : World) (hs : ClAt W B g n n ps) (hl : n ≤ 1048576) :
    Calls Try.prog 9 #[.agg #[.slice (some ⟨g, 0, none⟩) n n], .int .i64 k] W (PuzB W (vDrop ps k).1 (vDrop ps k).2) := by
  have HS := Lib.hid hs
  have HN : Hid (ps.length = n) := Lib.hid hs.1
  have HC0 := Lib.hid (fun b hb => cluesOf_any (some ⟨g, 0, none⟩) n n ps _ (hs.cl.rd.nw ((Kp.al W (.cells #[.slice (some ⟨g, 0, none⟩) n n] 28)).nw (.al _ (.cells #[.slice none 0 0] 28)))) hs.1 (by unfold maxLen; omega) b hb)
  rw [vDrop, hs.1]
  clear hs
  have q9 : IntKind.i64.wrap ((n : Int) - 1) = (n : Int) - 1 := IntWalk.i64_in _ (by omega)
  cases hb : puzB ps
  · rw [if_neg (by simp)]
    have HCL := HC0.out false hb
    simp only [Bool.false_eq_true, if_false] at HCL
    have HCL := Lib.hid HCL
    clear hb
    go_enter Try.func9, Try.ntmps9
    go_wp2_with fail
    refine HCL.out.mono ?_
    rintro e w1 ⟨rfl, hk1⟩
    obtain ⟨kk1, hz1, cc1, rr1⟩ := puz_open _ W w1 hk1
    have HK1 := Lib.hid kk1
    have HR1 := Lib.hid rr1
    have hr1 := rr1.1
    have hr2 := rr1.2
    clear kk1 cc1 rr1 hk1
    have z0 := one_set w1 (W.heap.size + 1) (.slice none 0 0) _ HR1.out.1
    have HZ := Lib.hid (puz_none 1 hz1 HK1.out)
    go_wp2
    refine bodyPost_ret (v := .tuple #[.agg #[.slice none 0 0], .bool false]) (by simp [results, Try.results9, go_sem, z0]) rfl ⟨_, rfl, HZ.out.1, HZ.out.2⟩
  · have HCL := HC0.out true hb
    simp only [if_true] at HCL
    have HCL := Lib.hid HCL
    obtain ⟨n2, hall⟩ := puz_parts hb
    rw [HN.out] at n2
    clear hb hall
    by_cases hk : 0 ≤ k ∧ k ≤ (n : Int) - 1
    · rw [if_pos ⟨rfl, hk⟩]
      obtain ⟨k0, k1⟩ := hk
      obtain ⟨t, ht⟩ : ∃ t, k.toNat = t := ⟨_, rfl⟩
      obtain rfl : k = (t : Int) := by omega
      rw [Int.toNat_natCast]
      have hn1 : 1 ≤ n := by omega
      clear ht
      go_enter Try.func9, Try.ntmps9
      go_wp2_with fail
      refine HCL.out.mono ?_
      rintro e w1 ⟨v1, rfl, hs1, hk1⟩
      obtain ⟨g1, c1, rfl, hat⟩ : ∃ g1 c1, v1 = .slice (some ⟨g1, 0, none⟩) n c1 ∧ n ≤ c1 := by
        rcases hs1.2 with ⟨_, h0⟩ | ⟨g1, cap, cur, he, _, _, h1, _⟩
        · have := HN.out; omega
        · rw [HN.out] at he h1; exact ⟨g1, cap, he, h1⟩
      obtain ⟨kk1, hz1, cc1, rr1⟩ := puz_open _ W w1 hk1
      have HK1 := Lib.hid kk1
      have HR1 := Lib.hid rr1
      have HS1 := Lib.hid hs1.cl
      have hs1z : (((W.alloc (.cells #[.slice (some ⟨g, 0, none⟩) n n] 28)).alloc (.cells #[.slice none 0 0] 28))).heap.size ≤ w1.heap.size := hk1.size
      have HZ1 := Lib.hid hs1z
      clear kk1 cc1 rr1 hk1 hs1 hs1z
      go_wp2_with (first | ((with_reducible refine (within_yes _ _ _ _ k0 k1).mono ?_); rintro e w' ⟨rfl, rfl⟩))
      refine (withoutClue_any _ g1 n c1 t ps _ HS1.out HN.out hat (by omega) (by omega) HZ1.out).mono ?_
      rintro e w2 ⟨g2, c2, rfl, hat2, hs2, hk2⟩
      obtain ⟨r0, r1⟩ := HR1.out.kp hk2 (fun h => h)
      have z0 := one_set w2 (W.heap.size + 1) (.slice (some ⟨g2, 0, none⟩) (n - 1) c2) _ r0
      have HZ := Lib.hid (puz_close 1 (hs2.from (by simp)) (HK1.out.nw hk2))
      clear hs2 hk2
      go_wp2
      refine bodyPost_ret (v := .tuple #[.agg #[.slice (some ⟨g2, 0, none⟩) (n - 1) c2], .bool true]) (by simp [results, Try.results9, go_sem, z0]) rfl ⟨_, rfl, HZ.out.1, HZ.out.2⟩
    · rw [if_neg (fun h => hk h.2)]
      have hk' : k < 0 ∨ (n : Int) - 1 < k := by omega
      clear hk
      go_enter Try.func9, Try.ntmps9
      go_wp2_with fail
      refine HCL.out.mono ?_
      rintro e w1 ⟨v1, rfl, hs1, hk1⟩
      obtain ⟨A1, c1, rfl⟩ := hs1.val HN.out
      obtain ⟨kk1, hz1, cc1, rr1⟩ := puz_open _ W w1 hk1
      have HK1 := Lib.hid kk1
      have HR1 := Lib.hid rr1
      have hr1 := rr1.1
      have hr2 := rr1.2
      clear kk1 cc1 rr1 hk1 hs1
      go_wp2_with (first | ((with_reducible refine (within_no _ _ _ _ hk').mono ?_); rintro e w' ⟨rfl, rfl⟩))
      have z0 := one_set w1 (W.heap.size + 1) (.slice none 0 0) _ HR1.out.1
      have HZ := Lib.hid (puz_none 1 hz1 HK1.out)
      go_wp2
      refine bodyPost_ret (v := .tuple #[.agg #[.slice none 0 0], .bool false]) (by simp [results, Try.results9, go_sem, z0]) rfl ⟨_, rfl, HZ.out.1, HZ.out.2⟩
end Go.Proofs.Ytcfghaeogbimead
