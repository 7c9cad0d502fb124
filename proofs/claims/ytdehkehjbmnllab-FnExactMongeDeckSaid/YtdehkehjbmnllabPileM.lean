/- What the program does with a pile of cards: take, putOn, putUnder, list, pileOf; no condition but on how many cards there are. -/
import Derived.Test.YtdehkehjbmnllabPile
import Derived.Test.YtdehkehjbmnllabGive
namespace Go.Proofs.Ytdehkehjbmnllab
open Go.ChangeShapes Go.WideShapes Go.ChangeAt Go.RowKit

theorem arr104 : Try.prog.underlying 36 = some (.array (Try.prog.arrayLen 36) (Try.prog.elem 36)) := by kernel_rfl
theorem len104 : Try.prog.arrayLen 36 = 104 := by kernel_rfl
theorem size104 (w : World) : (sizeOf (Try.prog.elem 36)).run Try.prog w = .ok 1 w := by kernel_rfl
/-- a slice of a pile's places, from one on -/
theorem acut_from (b p : Nat) (h : p ≤ 104) : ∃ Ad : Addr, (Ad = ⟨b, p, none⟩ ∨ p = 104) ∧
    ∀ w, (Instr.sliceAt 36 (.pointer (some ⟨b, 0, none⟩)) (some (.int .i64 (p : Int))) none none).run Try.prog w = .ok (.slice (some Ad) (104 - p) (104 - p)) w := by
  by_cases e : 104 = p
  · refine ⟨⟨b, 0, none⟩, .inr (by omega), fun w => ?_⟩
    rw [run_sliceAt_array_l _ _ _ arr104 _ _ (by omega) (by rw [len104]; omega), size104, len104]
    simp [slicedAt, Result.andThen, e]
  · refine ⟨⟨b, p, none⟩, .inl rfl, fun w => ?_⟩
    rw [run_sliceAt_array_l _ _ _ arr104 _ _ (by omega) (by rw [len104]; omega), size104, len104]
    simp [slicedAt, Result.andThen, e, addr_add]
theorem acut_to (b n : Nat) (h : n ≤ 104) (w : World) :
    (Instr.sliceAt 36 (.pointer (some ⟨b, 0, none⟩)) none (some (.int .i64 (n : Int))) none).run Try.prog w = .ok (.slice (some ⟨b, 0, none⟩) n 104) w := by
  rw [run_sliceAt_array_h _ _ _ arr104 _ _ (by omega) (by rw [len104]; omega), size104, len104]
  simp [slicedAt, Result.andThen, addr_add]
theorem acut_all (b : Nat) (w : World) :
    (Instr.sliceAt 36 (.pointer (some ⟨b, 0, none⟩)) none none none).run Try.prog w = .ok (.slice (some ⟨b, 0, none⟩) 104 104) w := by
  rw [run_sliceAt_array_all _ _ _ arr104, size104, len104]
  simp [slicedAt, Result.andThen, addr_add]
theorem acut_mid (b p n : Nat) (h : p ≤ n) (hn : n ≤ 104) : ∃ Ad : Addr, (Ad = ⟨b, p, none⟩ ∨ p = 104) ∧
    ∀ w, (Instr.sliceAt 36 (.pointer (some ⟨b, 0, none⟩)) (some (.int .i64 (p : Int))) (some (.int .i64 (n : Int))) none).run Try.prog w = .ok (.slice (some Ad) (n - p) (104 - p)) w := by
  by_cases e : 104 = p
  · refine ⟨⟨b, 0, none⟩, .inr (by omega), fun w => ?_⟩
    rw [run_sliceAt_array_lh _ _ _ arr104 _ _ _ _ (by omega) (by omega) (by rw [len104]; omega), size104, len104]
    simp [slicedAt, Result.andThen, e]
  · refine ⟨⟨b, p, none⟩, .inl rfl, fun w => ?_⟩
    rw [run_sliceAt_array_lh _ _ _ arr104 _ _ _ _ (by omega) (by omega) (by rw [len104]; omega), size104, len104]
    simp [slicedAt, Result.andThen, e, addr_add]

set_option maxRecDepth 100000 in
set_option maxHeartbeats 1600000 in
theorem putUnder_any (b : Nat) (xs : List Int) (x : Int) (W : World) (hp : Pile W b xs) (hl : xs.length ≤ 103) :
    Calls Try.prog 46 #[.pointer (some ⟨b, 0, none⟩), .int .i64 x] W fun e w' => e = .returned (.tuple #[]) ∧ Pile w' b (xs ++ [x]) ∧ Kp (fun g => g = b) W w' := by
  obtain ⟨c, hg, hb⟩ := hp
  obtain ⟨n, hn⟩ : ∃ n, xs.length = n := ⟨_, rfl⟩
  rw [hn] at hb hl
  have hc := hg.1
  have s0 := hb.size hc
  have s1 := hb.cell n (by omega)
  have f0 := hb.frozen 104
  have f1 := hb.frozen n
  have n0 : (0 : Int) ≤ n := Int.natCast_nonneg _
  have n1 : (n : Int) < 104 := by omega
  have w1 : IntKind.i64.wrap ((n : Int) + 1) = ((n + 1 : Nat) : Int) := by rw [IntWalk.i64_in _ (by omega)]; omega
  have hk1 := Lib.hid ((((Kp.refl (fun g => g = b) W).setCell (p := ⟨b, n, none⟩) (.inl rfl) (.int .i64 x)).setCell (p := ⟨b, 104, none⟩) (.inl rfl) (.int .i64 ((n + 1 : Nat) : Int))).drew)
  have hb1 := Lib.hid ((hb.set n (by omega) x).resize (by rw [List.length_set]; exact hc) (n + 1)).drew
  have HG1 : Hid (Cds (c.set n x) (xs ++ [x])) := Lib.hid (by rw [← hn]; exact hg.under x (by omega))
  have EL : Hid ((xs ++ [x]).length = n + 1) := Lib.hid (by simp [hn])
  have hne : (⟨b, n, none⟩ : Addr) ≠ ⟨b, 104, none⟩ := fun e => by injection e with _ e; omega
  clear hg hb hc hn
  go_enter Try.func46, Try.ntmps46
  go_wp2
  go_region
  all_goals go_wp2
  all_goals
    go_end0
    exact ⟨rfl, ⟨_, HG1.out, by rw [EL.out]; exact hb1.out⟩, hk1.out⟩

set_option maxRecDepth 100000 in
set_option maxHeartbeats 3200000 in
theorem take_any (b p : Nat) (xs : List Int) (W : World) (hp : Pile W b xs) (hl : p < xs.length) :
    Calls Try.prog 44 #[.pointer (some ⟨b, 0, none⟩), .int .i64 p] W fun e w' => e = .returned (.int .i64 (xs.getD p 0)) ∧ Pile w' b (xs.eraseIdx p) ∧ Kp (fun g => g = b) W w' := by
  obtain ⟨c, hg, hb⟩ := hp
  obtain ⟨n, hn⟩ : ∃ n, xs.length = n := ⟨_, rfl⟩
  have hn4 := hg.2.1
  rw [hn] at hb hl hn4
  have hc := hg.1
  have s0 := hb.size hc
  have s1 := hb.cell p (by omega)
  rw [hg.get p (by omega)] at s1
  obtain ⟨x, hx⟩ : ∃ x, xs.getD p 0 = x := ⟨_, rfl⟩
  rw [hx] at s1 ⊢
  have f0 := hb.frozen 104
  have n0 : (0 : Int) ≤ n := Int.natCast_nonneg _
  have p0 : (0 : Int) ≤ p := Int.natCast_nonneg _
  have n1 : (n : Int) ≤ 104 := by omega
  have p1 : (p : Int) < n := by omega
  have p2 : (p : Int) < 104 := by omega
  have q1 : IntKind.i64.wrap ((p : Int) + 1) = ((p + 1 : Nat) : Int) := by rw [IntWalk.i64_in _ (by omega)]; omega
  have q2 : IntKind.i64.wrap ((n : Int) - 1) = ((n - 1 : Nat) : Int) := by rw [IntWalk.i64_in _ (by omega)]; omega
  obtain ⟨A1, a1, r1⟩ := acut_from b p (by omega)
  obtain ⟨A2, a2, r2'⟩ := acut_mid b (p + 1) n (by omega) (by omega)
  have r2 : ∀ w, (Instr.sliceAt 36 (.pointer (some ⟨b, 0, none⟩)) (some (.int .i64 ((p : Int) + 1))) (some (.int .i64 (n : Int))) none).run Try.prog w = .ok (.slice (some A2) (n - (p + 1)) (104 - (p + 1))) w := r2'
  clear r2'
  have e1 : A1 = ⟨b, p, none⟩ := by
    rcases a1 with h | h
    · exact h
    · omega
  subst e1
  clear a1
  obtain ⟨X, hX⟩ : ∃ X, X = (c.take n).drop (p + 1) := ⟨_, rfl⟩
  obtain ⟨cs, hcs⟩ : ∃ cs, cs = X.map (Value.int .i64) := ⟨_, rfl⟩
  have hXl : X.length = n - (p + 1) := by rw [hX, List.length_drop, List.length_take]; omega
  have hcl : cs.length = n - (p + 1) := by rw [hcs, List.length_map, hXl]
  have HM : Hid (cs.length = Nat.min (n - (p + 1)) (104 - p)) := Lib.hid (by rw [hcl]; simp [Nat.min_def]; omega)
  have HP : Hid (0 < cs.length → ∃ ad, some A2 = some ad ∧ ∀ j v, cs[j]? = some v → W.drew.cell? (ad.add j) = some v) := Lib.hid (fun h0 => ⟨A2, rfl, fun j v hj => by
    have e2 : A2 = ⟨b, p + 1, none⟩ := by
      rcases a2 with h | h
      · exact h
      · omega
    subst e2
    have hj' : j < cs.length := (List.getElem?_eq_some_iff.1 hj).1
    rw [addr_add]
    show W.cell? ⟨b, p + 1 + j, none⟩ = _
    rw [hb.cell (p + 1 + j) (by omega), ← hj, hcs, List.getElem?_map, hX, List.getElem?_drop, List.getElem?_take, if_pos (by omega), List.getElem?_eq_getElem (by omega)]
    simp [List.getElem?_eq_getElem (show p + 1 + j < c.length by omega)]⟩)
  have HF : Hid (p + cs.length ≤ (plc c n).length) := Lib.hid (by rw [plc_length, hcl]; omega)
  have H1 : Hid (∀ v ∈ cs, v.oneCell' = true) := Lib.hid (fun v hv => by
    rw [hcs] at hv
    obtain ⟨x, _, rfl⟩ := List.mem_map.1 hv
    rfl)
  have HS : Hid (splice (plc c n) p cs = plc (splice c p X) n) := Lib.hid (by rw [hcs]; exact plc_splice c n p X (by omega))
  have HG1 : Hid (Cds (splice c p X) (xs.eraseIdx p)) := Lib.hid (by rw [hX, ← hn]; exact hg.take p (by omega))
  have EL : Hid ((xs.eraseIdx p).length = n - 1) := Lib.hid (by rw [List.length_eraseIdx_of_lt (by omega), hn])
  have CL : Hid ((splice c p X).length = 104) := Lib.hid HG1.out.1
  have HB := Lib.hid hb
  have HK0 : Hid (Kp (fun g => g = b) W W.drew) := Lib.hid (Kp.refl _ W).drew
  have hsz : (Try.prog.info? 3).map (·.size) = some 1 := by kernel_rfl
  clear hg hb hc hn hX hcs hXl hcl a2 hx
  go_enter Try.func44, Try.ntmps44
  go_wp2
  go_region_law (refine step_copy_kp rfl (.tmp 16) (.tmp 26) 22 22 rfl 3 Try.underlying22 hsz (some ⟨b, p, none⟩) (some A2) (104 - p) (104 - p) (n - (p + 1)) (104 - (p + 1)) (by simp [Act.eval, Act.put]) (by simp [Act.eval, Act.put]) b p (plc c n) 38 HB.out cs HM.out (fun h => ⟨rfl, HP.out h⟩) HF.out H1.out (fun g => g = b) W HK0.out (.inl rfl) ?_; intro w4 hg4 hk4)
  have hb4 : Pb w4 b (splice c p X) n := by
    have h := hg4.out
    rw [HS.out] at h
    exact h
  have t0 := hb4.size CL.out
  have t1 := hb4.frozen 104
  have hk5 := Lib.hid (hk4.out.setCell (p := ⟨b, 104, none⟩) (.inl rfl) (.int .i64 ((n - 1 : Nat) : Int)))
  have hb5 := Lib.hid (hb4.resize CL.out (n - 1))
  clear hb4 hg4 hk4
  go_wp2
  go_ret
  exact ⟨rfl, ⟨_, HG1.out, by rw [EL.out]; exact hb5.out⟩, hk5.out⟩

set_option maxRecDepth 100000 in
set_option maxHeartbeats 3200000 in
theorem putOn_any (b : Nat) (xs : List Int) (x : Int) (W : World) (hp : Pile W b xs) (hl : xs.length ≤ 103) :
    Calls Try.prog 45 #[.pointer (some ⟨b, 0, none⟩), .int .i64 x] W fun e w' => e = .returned (.tuple #[]) ∧ Pile w' b (x :: xs) ∧ Kp (fun g => g = b) W w' := by
  obtain ⟨c, hg, hb⟩ := hp
  obtain ⟨n, hn⟩ : ∃ n, xs.length = n := ⟨_, rfl⟩
  rw [hn] at hb hl
  have hc := hg.1
  have s0 := hb.size hc
  have n0 : (0 : Int) ≤ n := Int.natCast_nonneg _
  have n1 : (n : Int) ≤ 103 := by omega
  have q1 : IntKind.i64.wrap ((n : Int) + 1) = ((n + 1 : Nat) : Int) := by rw [IntWalk.i64_in _ (by omega)]; omega
  obtain ⟨A1, a1, r1'⟩ := acut_from b 1 (by omega)
  have r1 : ∀ w, (Instr.sliceAt 36 (.pointer (some ⟨b, 0, none⟩)) (some (.int .i64 1)) none none).run Try.prog w = .ok (.slice (some A1) 103 103) w := r1'
  have r2 := acut_to b n (by omega)
  have e1 : A1 = ⟨b, 1, none⟩ := by
    rcases a1 with h | h
    · exact h
    · omega
  subst e1
  clear a1 r1'
  obtain ⟨X, hX⟩ : ∃ X, X = c.take n := ⟨_, rfl⟩
  obtain ⟨cs, hcs⟩ : ∃ cs, cs = X.map (Value.int .i64) := ⟨_, rfl⟩
  have hXl : X.length = n := by rw [hX, List.length_take]; omega
  have hcl : cs.length = n := by rw [hcs, List.length_map, hXl]
  have HM : Hid (cs.length = Nat.min n 103) := Lib.hid (by rw [hcl]; simp [Nat.min_def]; omega)
  have HP : Hid (0 < cs.length → ∃ ad, some (⟨b, 0, none⟩ : Addr) = some ad ∧ ∀ j v, cs[j]? = some v → W.drew.cell? (ad.add j) = some v) := Lib.hid (fun h0 => ⟨_, rfl, fun j v hj => by
    have hj' : j < cs.length := (List.getElem?_eq_some_iff.1 hj).1
    rw [addr_add]
    show W.cell? ⟨b, 0 + j, none⟩ = _
    rw [Nat.zero_add, hb.cell j (by omega), ← hj, hcs, List.getElem?_map, hX, List.getElem?_take, if_pos (by omega), List.getElem?_eq_getElem (by omega)]
    simp [List.getElem?_eq_getElem (show j < c.length by omega)]⟩)
  have HF : Hid (1 + cs.length ≤ (plc c n).length) := Lib.hid (by rw [plc_length, hcl]; omega)
  have H1 : Hid (∀ v ∈ cs, v.oneCell' = true) := Lib.hid (fun v hv => by
    rw [hcs] at hv
    obtain ⟨x, _, rfl⟩ := List.mem_map.1 hv
    rfl)
  have HS : Hid (splice (plc c n) 1 cs = plc (splice c 1 X) n) := Lib.hid (by rw [hcs]; exact plc_splice c n 1 X (by omega))
  have HG1 : Hid (Cds ((splice c 1 X).set 0 x) (x :: xs)) := Lib.hid (by rw [hX, ← hn]; exact hg.on x (by omega))
  have EL : Hid ((x :: xs).length = n + 1) := Lib.hid (by simp [hn])
  have CL : Hid ((splice c 1 X).length = 104) := Lib.hid (by rw [splice_length _ _ _ (by omega)]; exact hc)
  have HB := Lib.hid hb
  have HK0 : Hid (Kp (fun g => g = b) W W.drew) := Lib.hid (Kp.refl _ W).drew
  have hsz : (Try.prog.info? 3).map (·.size) = some 1 := by kernel_rfl
  have hne : (⟨b, 0, none⟩ : Addr) ≠ ⟨b, 104, none⟩ := fun e => by injection e with _ e; omega
  clear hg hb hc hn hX hcs hXl hcl
  go_enter Try.func45, Try.ntmps45
  go_wp2
  go_region_law (refine step_copy_kp rfl (.tmp 7) (.tmp 15) 22 22 rfl 3 Try.underlying22 hsz (some ⟨b, 1, none⟩) (some ⟨b, 0, none⟩) 103 103 n 104 (by simp [Act.eval, Act.put]) (by simp [Act.eval, Act.put]) b 1 (plc c n) 38 HB.out cs HM.out (fun h => ⟨rfl, HP.out h⟩) HF.out H1.out (fun g => g = b) W HK0.out (.inl rfl) ?_; intro w4 hg4 hk4)
  have hb4 : Pb w4 b (splice c 1 X) n := by
    have h := hg4.out
    rw [HS.out] at h
    exact h
  have t0 := hb4.size CL.out
  have t1 := hb4.frozen 104
  have t2 := hb4.frozen 0
  have t3 := hb4.cell 0 (by rw [CL.out]; omega)
  have hk5 := Lib.hid ((hk4.out.setCell (p := ⟨b, 0, none⟩) (.inl rfl) (.int .i64 x)).setCell (p := ⟨b, 104, none⟩) (.inl rfl) (.int .i64 ((n + 1 : Nat) : Int)))
  have hb5 := Lib.hid ((hb4.set 0 (by rw [CL.out]; omega) x).resize (by rw [List.length_set]; exact CL.out) (n + 1))
  clear hb4 hg4 hk4
  go_wp2
  go_end0
  exact ⟨rfl, ⟨_, HG1.out, by rw [EL.out]; exact hb5.out⟩, hk5.out⟩

set_option maxRecDepth 100000 in
set_option maxHeartbeats 1600000 in
theorem list_any (b : Nat) (xs : List Int) (W : World) (hp : Pile W b xs) (hl : 1 ≤ xs.length) :
    Calls Try.prog 36 #[.pointer (some ⟨b, 0, none⟩)] W (Makes W xs) := by
  obtain ⟨c, hg, hb⟩ := hp
  obtain ⟨n, hn⟩ : ∃ n, xs.length = n := ⟨_, rfl⟩
  have hn4 := hg.2.1
  have hr := Lib.hid (hb.rd hg 104)
  rw [hn] at hb hl hn4 hr
  have S0 := Lib.hid (hb.size hg.1)
  have HN := Lib.hid hn
  have n0 : (0 : Int) ≤ n := Int.natCast_nonneg _
  have n1 : (n : Int) ≤ 104 := by omega
  have r2 := acut_to b n (by omega)
  have HK0 : Hid (Kp Nw W W.drew) := Lib.hid (Kp.refl _ W).drew
  clear hg hb hn
  go_enter Try.func36, Try.ntmps36
  go_wp2_with fail
  go_region_held3 (fun w' => Kp Nw W w' ∧ w'.cell? ⟨b, 104, none⟩ = some (.int .i64 n))
    (first
      | exact ⟨HK0.out, S0.out⟩
      | exact ⟨hkW1, keepc hkW1 S0.out (fun h => h)⟩
      | fail)
    (first
      | (go_at_call 43
         refine (clone_any (some ⟨b, 0, none⟩) n 104 xs _ (hr.out.nw (‹Kp Nw _ _ ∧ _›.1)) HN.out hl (by omega)).mono ?_
         rintro e w1 ⟨v, rfl, hs1, hk1⟩
         have hkW0 := (‹Kp Nw _ _ ∧ _›.1).size
         have hkW1 := (‹Kp Nw _ _ ∧ _›.1).nw hk1)
      | fail)
  have HS := Lib.hid (hs1.from hkW0)
  have HK := Lib.hid hkW1
  clear hs1 hk1 hkW1 hkW0
  go_wp2
  go_ret
  exact ⟨_, rfl, HS.out, HK.out⟩
end Go.Proofs.Ytdehkehjbmnllab
