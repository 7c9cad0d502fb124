/- AddClue in the program; no condition. -/
import Derived.Test.YtcekobdnghllcabPzAd
import Derived.Test.YtcekobdnghllcabMIn
import Derived.Test.YtcekobdnghllcabWith
namespace Go.Proofs.Ytcekobdnghllcab
open Go.ChangeShapes Go.WideShapes Go.ChangeAt Go.RowKit

set_option maxRecDepth 100000 in
set_option maxHeartbeats 6400000 in
theorem iAddClue_any (g n B : Nat) (ps : List Cu) (u : Cu) (W : World) (hs : ClAt W B g n n ps) (hl : n ≤ 1048576) :
    Calls Try.prog 8 #[.agg #[.slice (some ⟨g, 0, none⟩) n n], .agg #[.int .i64 u.1, .int .i64 u.2.1, .int .i64 u.2.2]] W (PuzB W (vAdd ps u).1 (vAdd ps u).2) := by
  have HN : Hid (ps.length = n) := Lib.hid hs.1
  have HO := Lib.hid (add_open (.slice (some ⟨g, 0, none⟩) n n) u W)
  rw [vAdd_puz]
  obtain ⟨b, hb⟩ : ∃ b, puzB (ps ++ [u]) = b := ⟨_, rfl⟩
  rw [hb]
  have HR : Hid (∀ (A : Option Addr) (c : Nat) (w : World), RdC w (.slice A (n + 1) c) (ps ++ [u]) → Calls Try.prog 16 #[.slice A (n + 1) c, .func (.func 18) #[] #[]] w (if b = true then CluesB w (ps ++ [u]) else NoCluesB w)) := Lib.hid fun A c w hu => by
    have hn : (ps ++ [u]).length = n + 1 := by simp [HN.out]
    by_cases h6 : n + 1 ≤ 6
    · exact readClues_any A (n + 1) c (ps ++ [u]) w hu hn h6 b (by rw [← hb]; unfold puzB; rw [hn, decide_eq_true h6, Bool.true_and])
    · have e : b = false := by rw [← hb]; unfold puzB; rw [hn, decide_eq_false h6, Bool.false_and]
      rw [e]
      exact readClues_long A (n + 1) c _ _ (by omega) (by unfold maxLen; omega)
  have HL : Hid (ps.length + [u].length ≤ 1048577) := Lib.hid (by rw [HN.out]; simp; omega)
  obtain ⟨x, y, z⟩ := u
  simp only at HO HR ⊢
  have HP9 : Hid (RdC ((((W.alloc (.cells #[.slice (some ⟨g, 0, none⟩) n n] 30)).alloc (.cells #[.int .i64 x, .int .i64 y, .int .i64 z] 34)).alloc (.cells #[.slice none 0 0] 30)).alloc (.cells #[.int .i64 x, .int .i64 y, .int .i64 z] 34)) (.slice (some ⟨g, 0, none⟩) n n) ps) := Lib.hid (hs.cl.rd.nw ((((Kp.al W _).nw (.al _ _)).nw (.al _ _)).nw (.al _ _)))
  have HC9 : Hid (RdC ((((W.alloc (.cells #[.slice (some ⟨g, 0, none⟩) n n] 30)).alloc (.cells #[.int .i64 x, .int .i64 y, .int .i64 z] 34)).alloc (.cells #[.slice none 0 0] 30)).alloc (.cells #[.int .i64 x, .int .i64 y, .int .i64 z] 34)) (.slice (some ⟨W.heap.size + 1 + 1 + 1, 0, none⟩) 1 1) [(x, y, z)]) := Lib.hid (by
    have h := (Own3.new (((W.alloc (.cells #[.slice (some ⟨g, 0, none⟩) n n] 30)).alloc (.cells #[.int .i64 x, .int .i64 y, .int .i64 z] 34)).alloc (.cells #[.slice none 0 0] 30)) (x, y, z) 34).one
    simp only [World.size_alloc] at h
    exact h)
  obtain ⟨_, _, cc, uu, rr⟩ := HO.out _ (Kp.refl Nw _)
  have hcc := cc.1
  obtain ⟨⟨u0, u1, u2⟩, _⟩ := uu
  simp only at u0 u1 u2
  clear hs hb cc rr
  cases b
  · simp only [Bool.false_eq_true, if_false] at HR ⊢
    go_enter Try.func8, Try.ntmps8
    go_wp2_with fail
    first
    | (go_region_law (first
      | (go_simp
         go_at_call 17
         refine (firstClues_any g n n n _ (Nat.le_refl _)).mono ?_
         rintro e w6 ⟨rfl, rfl⟩)
      | (refine step_cgrow _ (by rfl) (.tmp 14) (.tmp 16) (by rfl) ⟨g, 0, none⟩ n (.slice (some ⟨W.heap.size + 1 + 1 + 1, 0, none⟩) 1 1) ps [(x, y, z)] (by rfl) (by rfl) (by first | exact HP9.out | exact HP9.out.nw ((Kp.refl Nw _).drew)) HN.out (by first | exact HC9.out | exact HC9.out.nw ((Kp.refl Nw _).drew)) (Nat.zero_lt_succ 0) HL.out ?_
         intro v7 w7 hs7 hk7
         obtain ⟨A7, c7, rfl⟩ := hs7.val (n := n + 1) (by rw [List.length_append, HN.out]; rfl)
         have k7 : Kp Nw (((W.alloc (.cells #[.slice (some ⟨g, 0, none⟩) n n] 30)).alloc (.cells #[.int .i64 x, .int .i64 y, .int .i64 z] 34)).alloc (.cells #[.slice none 0 0] 30)) w7 := by first | exact (Kp.al _ _).nw hk7 | exact ((Kp.al _ _).nw ((Kp.refl Nw _).drew)).nw hk7
         clear hk7)
      | (go_simp
         go_at_call 16
         refine (HR.out A7 c7 w7 hs7.cl.rd).mono ?_
         rintro e w8 ⟨rfl, hk8⟩)
      | fail))
    | trivial
    all_goals
      obtain ⟨kk, hz, _, _, rr⟩ := HO.out w8 (k7.nw hk8)
      obtain ⟨r0, r1⟩ := rr
      have z9 := one_set w8 (W.heap.size + 2) (.slice none 0 0) _ r0
      have HZ := Lib.hid (puz_none (W := W) 2 hz kk)
      clear hs7 k7 hk8 kk
      go_wp2
      exact bodyPost_ret (v := .tuple #[.agg #[.slice none 0 0], .bool false]) (by simp [results, Try.results8, go_sem, z9]) rfl ⟨_, rfl, HZ.out.1, HZ.out.2⟩
  · simp only [if_true] at HR ⊢
    go_enter Try.func8, Try.ntmps8
    go_wp2_with fail
    first
    | (go_region_law (first
      | (go_simp
         go_at_call 17
         refine (firstClues_any g n n n _ (Nat.le_refl _)).mono ?_
         rintro e w6 ⟨rfl, rfl⟩)
      | (refine step_cgrow _ (by rfl) (.tmp 14) (.tmp 16) (by rfl) ⟨g, 0, none⟩ n (.slice (some ⟨W.heap.size + 1 + 1 + 1, 0, none⟩) 1 1) ps [(x, y, z)] (by rfl) (by rfl) (by first | exact HP9.out | exact HP9.out.nw ((Kp.refl Nw _).drew)) HN.out (by first | exact HC9.out | exact HC9.out.nw ((Kp.refl Nw _).drew)) (Nat.zero_lt_succ 0) HL.out ?_
         intro v7 w7 hs7 hk7
         obtain ⟨A7, c7, rfl⟩ := hs7.val (n := n + 1) (by rw [List.length_append, HN.out]; rfl)
         have k7 : Kp Nw (((W.alloc (.cells #[.slice (some ⟨g, 0, none⟩) n n] 30)).alloc (.cells #[.int .i64 x, .int .i64 y, .int .i64 z] 34)).alloc (.cells #[.slice none 0 0] 30)) w7 := by first | exact (Kp.al _ _).nw hk7 | exact ((Kp.al _ _).nw ((Kp.refl Nw _).drew)).nw hk7
         clear hk7)
      | (go_simp
         go_at_call 16
         refine (HR.out A7 c7 w7 hs7.cl.rd).mono ?_
         rintro e w8 ⟨v8, rfl, hs8, hk8⟩
         obtain ⟨A8, c8, rfl⟩ := hs8.val (n := n + 1) (by rw [List.length_append, HN.out]; rfl))
      | fail))
    | trivial
    all_goals
      have hz7 : W.heap.size + 2 + 1 ≤ w7.heap.size := by have := k7.size; simp only [World.size_alloc] at this; exact this
      obtain ⟨kk, hz, _, _, rr⟩ := HO.out w8 (k7.nw hk8)
      obtain ⟨r0, r1⟩ := rr
      have z9 := one_set w8 (W.heap.size + 2) (.slice A8 (n + 1) c8) _ r0
      have HZ := Lib.hid (puz_close (W := W) 2 (hs8.cl.from hz7) kk)
      clear hs7 hs8 k7 hk8 kk
      go_wp2
      exact bodyPost_ret (v := .tuple #[.agg #[.slice A8 (n + 1) c8], .bool true]) (by simp [results, Try.results8, go_sem, z9]) rfl ⟨_, rfl, HZ.out.1, HZ.out.2⟩
end Go.Proofs.Ytcekobdnghllcab
