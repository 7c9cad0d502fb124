/- AddClue in the model; no condition. -/
import Derived.Test.YtcekobdnghllcabPzG
import Derived.Deep.RegionLaw
namespace Go.Proofs.Ytcekobdnghllcab
open Go.ChangeShapes Go.WideShapes Go.ChangeAt Go.RowKit

def vAdd (ps : List Cu) (u : Cu) : List Cu × Bool := if puzB ps = true ∧ cluB u = true ∧ ps.length ≠ 6 then (ps ++ [u], true) else ([], false)
theorem vAdd_len (ps : List Cu) (u : Cu) : (vAdd ps u).1.length ≤ 1000000 := by
  unfold vAdd
  split
  · rename_i h
    have := (puz_parts h.1).1
    simp only [List.length_append, List.length_singleton]
    omega
  · exact Nat.zero_le _
theorem vAdd_puz (ps : List Cu) (u : Cu) : vAdd ps u = if puzB (ps ++ [u]) = true then (ps ++ [u], true) else ([], false) := by
  have e : puzB (ps ++ [u]) = true ↔ (puzB ps = true ∧ cluB u = true ∧ ps.length ≠ 6) := by
    unfold puzB
    simp only [List.length_append, List.length_singleton, List.all_append, List.all_cons, List.all_nil, Bool.and_true, Bool.and_eq_true, decide_eq_true_eq]
    constructor
    · rintro ⟨h1, h2, h3⟩
      exact ⟨⟨by omega, h2⟩, h3, by omega⟩
    · rintro ⟨⟨h1, h2⟩, h3, h4⟩
      exact ⟨by omega, h2, h3⟩
  unfold vAdd
  by_cases h : puzB (ps ++ [u]) = true
  · rw [if_pos h, if_pos (e.1 h)]
  · rw [if_neg h, if_neg (fun h2 => h (e.2 h2))]
/-- a puzzle and a clue boxed, a puzzle's cell for the result: all are there behind a call -/
theorem add_open (x : Value) (u : Cu) (W w1 : World) (hk : Kp Nw (((W.alloc (.cells #[x] 30)).alloc (.cells #[.int .i64 u.1, .int .i64 u.2.1, .int .i64 u.2.2] 34)).alloc (.cells #[.slice none 0 0] 30)) w1) :
    Kp Nw W w1 ∧ W.heap.size + 3 ≤ w1.heap.size ∧ Own1 w1 W.heap.size x ∧ Own3 w1 (W.heap.size + 1) u ∧ Own1 w1 (W.heap.size + 2) (.slice none 0 0) := by
  refine ⟨(((Kp.al W _).nw (.al _ _)).nw (.al _ _)).nw hk, by have := hk.size; simp only [World.size_alloc] at this; exact this, (((Own1.new W x 30).kp (.al _ _) (fun h => h)).kp (.al _ _) (fun h => h)).kp hk (fun h => h), ?_, ?_⟩
  · have h := ((Own3.new (W.alloc (.cells #[x] 30)) u 34).kp (.al _ (.cells #[.slice none 0 0] 30)) (fun h => h)).kp hk (fun h => h)
    simpa only [World.size_alloc] using h
  · have h := (Own1.new ((W.alloc (.cells #[x] 30)).alloc (.cells #[.int .i64 u.1, .int .i64 u.2.1, .int .i64 u.2.2] 34)) (.slice none 0 0) 30).kp hk (fun h => h)
    simpa only [World.size_alloc] using h

set_option maxRecDepth 100000 in
set_option maxHeartbeats 6400000 in
theorem sAddClue_any (g n B : Nat) (ps : List Cu) (u : Cu) (W : World) (hs : ClAt W B g n n ps) (hl : n ≤ 1048576) :
    Calls Try.prog 5 #[.agg #[.slice (some ⟨g, 0, none⟩) n n], .agg #[.int .i64 u.1, .int .i64 u.2.1, .int .i64 u.2.2]] W (PuzB W (vAdd ps u).1 (vAdd ps u).2) := by
  have HS := Lib.hid hs
  have HN : Hid (ps.length = n) := Lib.hid hs.1
  have HO := Lib.hid (add_open (.slice (some ⟨g, 0, none⟩) n n) u W)
  have HCC := Lib.hid (pzClue_any u)
  have HG0 := Lib.hid (fun b hb => pzGood_any (some ⟨g, 0, none⟩) n n ps (((W.alloc (.cells #[.slice (some ⟨g, 0, none⟩) n n] 30)).alloc (.cells #[.int .i64 u.1, .int .i64 u.2.1, .int .i64 u.2.2] 34)).alloc (.cells #[.slice none 0 0] 30)) (hs.cl.rd.nw (((Kp.al W _).nw (.al _ _)).nw (.al _ _))) hs.1 (by unfold maxLen; omega) b hb)
  obtain ⟨bu, hbu⟩ : ∃ b, cluB u = b := ⟨_, rfl⟩
  rw [vAdd, hs.1, hbu]
  rw [hbu] at HCC
  clear hs
  cases hb : puzB ps
  · rw [if_neg (by simp)]
    have HG := Lib.hid (HG0.out false hb.symm)
    obtain ⟨x, y, z⟩ := u
    simp only at HO HG ⊢
    clear hb hbu
    go_enter Try.func5, Try.ntmps5
    go_wp2_with fail
    refine HG.out.mono ?_
    rintro e w1 ⟨rfl, hk1⟩
    obtain ⟨kk, hz, cc, uu, rr⟩ := HO.out w1 hk1
    have HZ := Lib.hid (puz_none 2 (by omega) kk)
    obtain ⟨rr0, rr1⟩ := rr
    have z0 := one_set _ (W.heap.size + 2) (.slice none 0 0) _ rr0
    go_wp2
    refine bodyPost_ret (v := .tuple #[.agg #[.slice none 0 0], .bool false]) (by simp [results, Try.results5, go_sem, z0]) rfl ⟨_, rfl, HZ.out.1, HZ.out.2⟩
  · have HG := Lib.hid (HG0.out true hb.symm)
    obtain ⟨n2, hall⟩ := puz_parts hb
    rw [HN.out] at n2
    clear hb hall
    cases bu
    · rw [if_neg (by simp)]
      obtain ⟨x, y, z⟩ := u
      simp only at HO HG HCC ⊢
      clear hbu
      go_enter Try.func5, Try.ntmps5
      go_wp2_with fail
      refine HG.out.mono ?_
      rintro e w1 ⟨rfl, hk1⟩
      obtain ⟨_, _, _, ⟨⟨u0, u1, u2⟩, _⟩, _⟩ := HO.out w1 hk1
      have HQ := Lib.hid hk1
      clear hk1
      go_wp2_with fail
      refine (HCC.out _).mono ?_
      rintro e w2 ⟨rfl, hk2⟩
      obtain ⟨kk, hz, cc, uu, rr⟩ := HO.out w2 (HQ.out.nw hk2)
      clear hk2 u0 u1 u2
      have HZ := Lib.hid (puz_none 2 (by omega) kk)
      obtain ⟨rr0, rr1⟩ := rr
      have z0 := one_set _ (W.heap.size + 2) (.slice none 0 0) _ rr0
      go_wp2
      refine bodyPost_ret (v := .tuple #[.agg #[.slice none 0 0], .bool false]) (by simp [results, Try.results5, go_sem, z0]) rfl ⟨_, rfl, HZ.out.1, HZ.out.2⟩
    · by_cases h6 : n = 6
      · rw [if_neg (fun h => h.2.2 h6)]
        obtain ⟨x, y, z⟩ := u
        simp only at HO HG HCC ⊢
        clear hbu
        subst h6
        go_enter Try.func5, Try.ntmps5
        go_wp2_with fail
        refine HG.out.mono ?_
        rintro e w1 ⟨rfl, hk1⟩
        obtain ⟨_, _, _, ⟨⟨u0, u1, u2⟩, _⟩, _⟩ := HO.out w1 hk1
        have HQ := Lib.hid hk1
        clear hk1
        go_wp2_with fail
        refine (HCC.out _).mono ?_
        rintro e w2 ⟨rfl, hk2⟩
        obtain ⟨kk, hz, cc, uu, rr⟩ := HO.out w2 (HQ.out.nw hk2)
        have hcc := cc.1
        clear hk2 u0 u1 u2
        have HZ := Lib.hid (puz_none 2 (by omega) kk)
        obtain ⟨rr0, rr1⟩ := rr
        have z0 := one_set _ (W.heap.size + 2) (.slice none 0 0) _ rr0
        go_wp2
        refine bodyPost_ret (v := .tuple #[.agg #[.slice none 0 0], .bool false]) (by simp [results, Try.results5, go_sem, z0]) rfl ⟨_, rfl, HZ.out.1, HZ.out.2⟩
      · rw [if_pos ⟨rfl, rfl, h6⟩]
        have z1 : ¬ (n : Int) = 6 := by omega
        have z2 : ((n : Int) == 6) = false := by simpa using z1
        have HL1 : Hid (([] : List Cu).length + ps.length ≤ 1000000) := Lib.hid (by rw [HN.out]; simp; omega)
        have HL2 : Hid (([] ++ ps : List Cu).length + [u].length ≤ 1000000) := Lib.hid (by simp [HN.out]; omega)
        have HU9 := Lib.hid (fun w => (Own3.new w u 34).one)
        obtain ⟨x, y, z⟩ := u
        simp only at HO HG HCC HU9 ⊢
        clear hbu
        go_enter Try.func5, Try.ntmps5
        go_wp2_with fail
        refine HG.out.mono ?_
        rintro e w1 ⟨rfl, hk1⟩
        obtain ⟨_, _, _, ⟨⟨u0, u1, u2⟩, _⟩, _⟩ := HO.out w1 hk1
        have HQ := Lib.hid hk1
        clear hk1
        go_wp2_with fail
        refine (HCC.out _).mono ?_
        rintro e w2 ⟨rfl, hk2⟩
        have HQ2 := Lib.hid (HQ.out.nw hk2)
        obtain ⟨kk, hz, cc, uu, rr⟩ := HO.out w2 HQ2.out
        have hcc := cc.1
        have HKK := Lib.hid kk
        have HCC2 := Lib.hid cc
        have HUU := Lib.hid uu
        have HRR := Lib.hid rr
        clear hk2 u0 u1 u2 kk cc uu rr
        have hb0 : W.heap.size < w2.heap.size := by omega
        have hb1 : W.heap.size + 1 < w2.heap.size := by omega
        have hb2 : W.heap.size + 2 < w2.heap.size := by omega
        have hb0s : W.heap.size < w2.heap.size + 1 := by omega
        have hb1s : W.heap.size + 1 < w2.heap.size + 1 := by omega
        obtain ⟨⟨u0, u1, u2⟩, _⟩ := HUU.out
        simp only at u0 u1 u2
        have HS9 := Lib.hid (fun w (hk : Kp Nw w2 w) => HS.out.cl.rd.nw (HKK.out.nw hk))
        go_wp2_with fail
        go_region_law (first
          | (refine step_clus _ (by rfl) (.tmp 21) (.tmp 23) (by rfl) w2.heap.size (.slice (some ⟨w2.heap.size, 0, none⟩) 0 0) (.slice (some ⟨g, 0, none⟩) n n) [] ps (by rfl) (by rfl) (Co.empty w2.drew _ (Nat.le_refl _)) (HS9.out _ ((Kp.refl Nw w2).drew.nw (.al w2.drew (.cells #[] 34)))) (VnC.some_ _ _ n _ HN.out) HL1.out (by first | (simp; done) | (simp only [World.size_alloc]; omega) | (have := w2.drew; simp only [World.size_alloc, World.drew]; omega)) ?_
             intro v6 w6 hs6 hk6
             have k6 : Kp Nw w2 w6 := ((Kp.refl Nw w2).drew.nw (.al w2.drew (.cells #[] 34))).after hk6 (fun b hb e => by simp [Value.ownBlock] at e; omega)
             obtain ⟨⟨y0, y1, y2⟩, _⟩ := HUU.out.kp k6 (fun h => h)
             simp only at y0 y1 y2)
          | (refine step_clus _ (by rfl) (.tmp 21) (.tmp 23) (by rfl) w2.heap.size (.slice (some ⟨w2.heap.size, 0, none⟩) 0 0) (.slice (some ⟨g, 0, none⟩) n n) [] ps (by rfl) (by rfl) ((Co.empty w2.drew _ (Nat.le_refl _)).nw (.al _ (.cells #[.int .i64 x, .int .i64 y, .int .i64 z] 34))) (HS9.out _ (((Kp.refl Nw w2).drew.nw (.al w2.drew (.cells #[] 34))).nw (.al _ (.cells #[.int .i64 x, .int .i64 y, .int .i64 z] 34)))) (VnC.some_ _ _ n _ HN.out) HL1.out (by first | (simp; done) | (simp only [World.size_alloc]; omega) | (have := w2.drew; simp only [World.size_alloc, World.drew]; omega)) ?_
             intro v6 w6 hs6 hk6
             have k6 : Kp Nw w2 w6 := (((Kp.refl Nw w2).drew.nw (.al w2.drew (.cells #[] 34))).nw (.al _ (.cells #[.int .i64 x, .int .i64 y, .int .i64 z] 34))).after hk6 (fun b hb e => by simp [Value.ownBlock] at e; omega)
             obtain ⟨⟨y0, y1, y2⟩, _⟩ := HUU.out.kp k6 (fun h => h)
             simp only at y0 y1 y2
             have hC9 := (Own3.new (w2.drew.alloc (.cells #[] 34)) (x, y, z) 34).kp hk6 (fun e => by simp [Value.ownBlock] at e)
             have hC8 : RdC w6 (.slice (some ⟨w2.heap.size + 1, 0, none⟩) 1 1) [(x, y, z)] := by simpa using hC9.one)
          | (refine step_clus _ (by rfl) (.tmp 21) (.tmp 23) (by rfl) w2.heap.size (.slice (some ⟨w2.heap.size + 1, 0, none⟩) 0 0) (.slice (some ⟨g, 0, none⟩) n n) [] ps (by rfl) (by rfl) (by have h := Co.empty (w2.drew.alloc (.cells #[.int .i64 x, .int .i64 y, .int .i64 z] 34)) w2.heap.size (by simp); rw [World.size_alloc] at h; exact h) (HS9.out _ (((Kp.refl Nw w2).drew.nw (.al w2.drew (.cells #[.int .i64 x, .int .i64 y, .int .i64 z] 34))).nw (.al _ (.cells #[] 34)))) (VnC.some_ _ _ n _ HN.out) HL1.out (by first | (simp; done) | (simp only [World.size_alloc]; omega) | (have := w2.drew; simp only [World.size_alloc, World.drew]; omega)) ?_
             intro v6 w6 hs6 hk6
             have k6 : Kp Nw w2 w6 := (((Kp.refl Nw w2).drew.nw (.al w2.drew (.cells #[.int .i64 x, .int .i64 y, .int .i64 z] 34))).nw (.al _ (.cells #[] 34))).after hk6 (fun b hb e => by simp [Value.ownBlock] at e; omega)
             obtain ⟨⟨y0, y1, y2⟩, _⟩ := HUU.out.kp k6 (fun h => h)
             simp only at y0 y1 y2
             have hC9 := ((Own3.new w2.drew (x, y, z) 34).kp (Kp.al _ (.cells #[] 34)) (fun h => h)).kp hk6 (fun e => by simp [Value.ownBlock] at e)
             have hC8 : RdC w6 (.slice (some ⟨w2.heap.size, 0, none⟩) 1 1) [(x, y, z)] := by simpa using hC9.one)
          | (refine step_clus _ (by rfl) (.tmp 24) (.tmp 26) (by rfl) w2.heap.size v6 (.slice (some ⟨w6.heap.size, 0, none⟩) 1 1) ([] ++ ps) [(x, y, z)] (by rfl) (by rfl) (hs6.nw (.al _ _)) (HU9.out w6) (VnC.some_ _ _ 1 _ rfl) HL2.out (by have := k6.size; first | exact this | (simp only [World.size_alloc]; omega)) ?_
             intro v7 w7 hs7 hk7
             obtain ⟨A7, c7, rfl⟩ := hs7.val (n := n + 1) (by simp [HN.out])
             have hvb : ∀ b, v6.ownBlock = some b → w2.heap.size ≤ b := fun b hb => (World.ownsRow.lt hs6 b hb).1
             have k7 : Kp Nw w2 w7 := (k6.nw (.al w6 (.cells #[.int .i64 x, .int .i64 y, .int .i64 z] 34))).after hk7 (fun b hb e => by have := hvb b e; omega)
             obtain ⟨r0, r1⟩ := HRR.out.kp k7 (fun h => h))
          | (refine step_clus _ (by rfl) (.tmp 24) (.tmp 26) (by rfl) w2.heap.size v6 (.slice (some ⟨w2.heap.size + 1, 0, none⟩) 1 1) ([] ++ ps) [(x, y, z)] (by rfl) (by rfl) (hs6) (hC8) (VnC.some_ _ _ 1 _ rfl) HL2.out (by have := k6.size; first | exact this | (simp only [World.size_alloc]; omega)) ?_
             intro v7 w7 hs7 hk7
             obtain ⟨A7, c7, rfl⟩ := hs7.val (n := n + 1) (by simp [HN.out])
             have hvb : ∀ b, v6.ownBlock = some b → w2.heap.size ≤ b := fun b hb => (World.ownsRow.lt hs6 b hb).1
             have k7 : Kp Nw w2 w7 := (k6).after hk7 (fun b hb e => by have := hvb b e; omega)
             obtain ⟨r0, r1⟩ := HRR.out.kp k7 (fun h => h))
          | (refine step_clus _ (by rfl) (.tmp 24) (.tmp 26) (by rfl) w2.heap.size v6 (.slice (some ⟨w2.heap.size, 0, none⟩) 1 1) ([] ++ ps) [(x, y, z)] (by rfl) (by rfl) (hs6) (hC8) (VnC.some_ _ _ 1 _ rfl) HL2.out (by have := k6.size; first | exact this | (simp only [World.size_alloc]; omega)) ?_
             intro v7 w7 hs7 hk7
             obtain ⟨A7, c7, rfl⟩ := hs7.val (n := n + 1) (by simp [HN.out])
             have hvb : ∀ b, v6.ownBlock = some b → w2.heap.size ≤ b := fun b hb => (World.ownsRow.lt hs6 b hb).1
             have k7 : Kp Nw w2 w7 := (k6).after hk7 (fun b hb e => by have := hvb b e; omega)
             obtain ⟨r0, r1⟩ := HRR.out.kp k7 (fun h => h))
          | fail)
        all_goals
          have hs8 : Co w7 w2.heap.size (.slice A7 (n + 1) c7) (ps ++ [(x, y, z)]) := by simpa using hs7
          have z9 := one_set w7 (W.heap.size + 2) (.slice A7 (n + 1) c7) _ r0
          have HZ := Lib.hid (puz_close (W := W) 2 (hs8.cl.from (by omega)) (HKK.out.nw k7))
          clear hs7 hs8 hk7 k7 k6 hs6 hk6 hvb r0 r1
          go_wp2
          exact bodyPost_ret (v := .tuple #[.agg #[.slice A7 (n + 1) c7], .bool true]) (by simp [results, Try.results5, go_sem, z9]) rfl ⟨_, rfl, HZ.out.1, HZ.out.2⟩
end Go.Proofs.Ytcekobdnghllcab
