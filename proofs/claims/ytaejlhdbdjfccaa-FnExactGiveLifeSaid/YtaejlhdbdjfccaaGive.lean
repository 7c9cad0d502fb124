/- Cats that are given a life (GiveLife), and a copy of cats in which one has other lives (withLives), in the program and in the model; no condition but that the cats' slice can be read. -/
import Derived.Test.YtaejlhdbdjfccaaCats
import Derived.Test.YtaejlhdbdjfccaaLetGo
import Derived.Lib.SliceRun
namespace Go.Proofs.Ytaejlhdbdjfccaa
open Go.ChangeShapes Go.WideShapes Go.ChangeAt Go.RowKit

theorem SlAt.kpX {w w' : World} {B g cap n : Nat} {xs : List Int} {S : Nat → Prop} (h : SlAt w B g cap n xs) (hk : Kp S w w') (hs : ¬ S g) : SlAt w' B g cap n xs := by
  have h1 := h.sl.kp hk (fun g' e => by
    have e' : g' = g := by simp [Value.ownBlock] at e; omega
    rw [e']; exact hs)
  refine ⟨h.1, ?_⟩
  unfold Sl at h1
  rw [h.1] at h1
  exact h1

set_option maxRecDepth 100000 in
set_option maxHeartbeats 400000 in
theorem clone_any (A : Option Addr) (n c : Nat) (xs : List Int) (W : World) (hu : Rd W (.slice A n c) xs) (hn : xs.length = n) (hp : 0 < n) (hl : n ≤ 1000000) :
    Calls Try.prog 70 #[.slice A n c] W (Makes W xs) := by
  obtain ⟨A', c', hA, hr⟩ := id hu
  obtain ⟨g, o, hg, hc⟩ := hr 0 (by omega)
  have eA : A = A' := by injection hA
  subst eA
  subst hg
  have HU := Lib.hid hu
  have HN := Lib.hid hn
  have hv : Vn (.slice (some ⟨g, o, none⟩) n c) xs := fun h => by rw [h] at hn; simp at hn; omega
  have HVN := Lib.hid hv
  have hnil := fun w => Go.Lib.run_eql_slice_nil (P := Try.prog) w 22 3 (some ⟨g, o, none⟩) n c 0 0 Try.underlying22
  clear hu hn hA hr hc hv
  go_enter Try.func70, Try.ntmps70
  go_wp2_with (first | (at_builtin; refine wpList_app _ rfl (.tmp 5) (.tmp 6) rfl W.heap.size _ _ [] xs rfl rfl (Sl.empty W W.heap.size (Nat.le_refl _)) (HU.out.nw' ((Kp.refl Nw W).alloc _)) HVN.out (by have := HN.out; simp; omega) (by simp) ?_))
  intro v' w1 hs1 hk1 _
  have HS := Lib.hid hs1
  have HK := Lib.hid hk1
  clear hs1 hk1
  go_wp2
  go_ret
  exact ⟨_, rfl, HS.out, ((Kp.refl Nw W).alloc _).own (Sl.empty W W.heap.size (Nat.le_refl _)) HK.out⟩

set_option maxHeartbeats 800000 in
theorem haveCat_any (A : Option Addr) (cap n : Nat) (xs : List Int) (k p : Int) (W : World) (hu : Rd W (.slice A n cap) xs) (hn' : xs.length = n) (hl : n ≤ 2000000) (b : Bool) (hb : b = (catB xs k && decide (0 ≤ p ∧ p ≤ (n : Int) - 1))) :
    Calls Try.prog 73 #[.agg #[.slice A n cap, .int .i64 k], .int .i64 p] W fun e w' => e = .returned (.bool b) ∧ Kp Nw W w' := by
  have HB := Lib.hid hb
  have HR := Lib.hid hu
  have HN := Lib.hid hn'
  clear hu hb
  by_cases hc : catB xs k = true
  · obtain ⟨n1, n2, _, _, _⟩ := catB_parts hc
    obtain ⟨m, hm⟩ : ∃ m, n = m + 1 := ⟨n - 1, by omega⟩
    subst hm
    have HC := Lib.hid hc.symm
    have m0 : (0 : Int) ≤ m := Int.natCast_nonneg _
    have m2 : m ≤ 40 := by omega
    have q0 : IntKind.i64.wrap (m : Int) = m := IntWalk.i64_in _ (by omega)
    have q1 : IntKind.i64.wrap ((m : Int) + 1 - 1) = m := by rw [show (m : Int) + 1 - 1 = m by omega]; exact q0
    clear hc hn' n1 n2
    by_cases hp : p < 0 ∨ (m : Int) < p
    · have HF : Hid (b = false) := Lib.hid (by rw [HB.out, decide_eq_false (by omega), Bool.and_false])
      go_enter Try.func73, Try.ntmps73
      go_wp2_with fail
      refine (iAreCats_any A cap (m + 1) xs k _ (HR.out.nw (.al _ _)) HN.out hl true HC.out).mono ?_
      rintro e w1 ⟨rfl, hk1⟩
      obtain ⟨t0, t1⟩ := (Two.new W (.slice A (m + 1) cap) (.int .i64 k) 27).nw hk1
      have HK := Lib.hid ((Kp.al _ _).nw hk1)
      clear hk1
      go_wp2_with (first | ((with_reducible refine (within_no p _ _ _ hp).mono ?_); rintro e w' ⟨rfl, rfl⟩))
      go_ret
      exact ⟨ret_bool HF.out.symm, HK.out⟩
    · have HF : Hid (b = true) := Lib.hid (by rw [HB.out, decide_eq_true (by omega), HC.out.symm]; rfl)
      have p0 : 0 ≤ p := by omega
      have p1 : p ≤ (m : Int) := by omega
      clear hp
      go_enter Try.func73, Try.ntmps73
      go_wp2_with fail
      refine (iAreCats_any A cap (m + 1) xs k _ (HR.out.nw (.al _ _)) HN.out hl true HC.out).mono ?_
      rintro e w1 ⟨rfl, hk1⟩
      obtain ⟨t0, t1⟩ := (Two.new W (.slice A (m + 1) cap) (.int .i64 k) 27).nw hk1
      have HK := Lib.hid ((Kp.al _ _).nw hk1)
      clear hk1
      go_wp2_with (first | ((with_reducible refine (within_yes p _ _ _ p0 p1).mono ?_); rintro e w' ⟨rfl, rfl⟩))
      go_ret
      exact ⟨ret_bool HF.out.symm, HK.out⟩
  · have hc' : catB xs k = false := by simpa using hc
    have HC := Lib.hid hc'.symm
    have HF : Hid (b = false) := Lib.hid (by rw [HB.out, hc']; rfl)
    clear hc hc' hn'
    go_enter Try.func73, Try.ntmps73
    go_wp2_with fail
    refine (iAreCats_any A cap n xs k _ (HR.out.nw (.al _ _)) HN.out hl false HC.out).mono ?_
    rintro e w1 ⟨rfl, hk1⟩
    have HK := Lib.hid ((Kp.al _ _).nw hk1)
    clear hk1
    go_wp2
    go_ret
    exact ⟨ret_bool HF.out.symm, HK.out⟩

set_option maxHeartbeats 800000 in
theorem liPerson_any (A : Option Addr) (cap n : Nat) (xs : List Int) (k p : Int) (W : World) (hu : Rd W (.slice A n cap) xs) (hn' : xs.length = n) (hl : n ≤ 2000000) (b : Bool) (hb : b = (catB xs k && decide (0 ≤ p ∧ p ≤ (n : Int) - 1))) :
    Calls Try.prog 71 #[.agg #[.slice A n cap, .int .i64 k], .int .i64 p] W fun e w' => e = .returned (.bool b) ∧ Kp Nw W w' := by
  have HB := Lib.hid hb
  have HR := Lib.hid hu
  have HN := Lib.hid hn'
  clear hu hb
  by_cases hc : catB xs k = true
  · obtain ⟨n1, n2, _, _, _⟩ := catB_parts hc
    obtain ⟨m, hm⟩ : ∃ m, n = m + 1 := ⟨n - 1, by omega⟩
    subst hm
    have HC := Lib.hid hc.symm
    have m0 : (0 : Int) ≤ m := Int.natCast_nonneg _
    have m2 : m ≤ 40 := by omega
    have q0 : IntKind.i64.wrap (m : Int) = m := IntWalk.i64_in _ (by omega)
    have q1 : IntKind.i64.wrap ((m : Int) + 1 - 1) = m := by rw [show (m : Int) + 1 - 1 = m by omega]; exact q0
    clear hc hn' n1 n2
    by_cases hp : p < 0 ∨ (m : Int) < p
    · have HF : Hid (b = false) := Lib.hid (by rw [HB.out, decide_eq_false (by omega), Bool.and_false])
      go_enter Try.func71, Try.ntmps71
      go_wp2_with fail
      refine (liGood_any A cap (m + 1) xs k _ (HR.out.nw (.al _ _)) HN.out hl true HC.out).mono ?_
      rintro e w1 ⟨rfl, hk1⟩
      obtain ⟨t0, t1⟩ := (Two.new W (.slice A (m + 1) cap) (.int .i64 k) 27).nw hk1
      have HK := Lib.hid ((Kp.al _ _).nw hk1)
      clear hk1
      go_wp2_with (first | ((with_reducible refine (l1In_no p _ _ _ hp).mono ?_); rintro e w' ⟨rfl, rfl⟩))
      go_ret
      exact ⟨ret_bool HF.out.symm, HK.out⟩
    · have HF : Hid (b = true) := Lib.hid (by rw [HB.out, decide_eq_true (by omega), HC.out.symm]; rfl)
      have p0 : 0 ≤ p := by omega
      have p1 : p ≤ (m : Int) := by omega
      clear hp
      go_enter Try.func71, Try.ntmps71
      go_wp2_with fail
      refine (liGood_any A cap (m + 1) xs k _ (HR.out.nw (.al _ _)) HN.out hl true HC.out).mono ?_
      rintro e w1 ⟨rfl, hk1⟩
      obtain ⟨t0, t1⟩ := (Two.new W (.slice A (m + 1) cap) (.int .i64 k) 27).nw hk1
      have HK := Lib.hid ((Kp.al _ _).nw hk1)
      clear hk1
      go_wp2_with (first | ((with_reducible refine (l1In_yes p _ _ _ p0 p1).mono ?_); rintro e w' ⟨rfl, rfl⟩))
      go_ret
      exact ⟨ret_bool HF.out.symm, HK.out⟩
  · have hc' : catB xs k = false := by simpa using hc
    have HC := Lib.hid hc'.symm
    have HF : Hid (b = false) := Lib.hid (by rw [HB.out, hc']; rfl)
    clear hc hc' hn'
    go_enter Try.func71, Try.ntmps71
    go_wp2_with fail
    refine (liGood_any A cap n xs k _ (HR.out.nw (.al _ _)) HN.out hl false HC.out).mono ?_
    rintro e w1 ⟨rfl, hk1⟩
    have HK := Lib.hid ((Kp.al _ _).nw hk1)
    clear hk1
    go_wp2
    go_ret
    exact ⟨ret_bool HF.out.symm, HK.out⟩

set_option maxRecDepth 100000 in
set_option maxHeartbeats 800000 in
theorem withLives_any (A : Option Addr) (cap n p : Nat) (xs : List Int) (k l : Int) (W : World) (hu : Rd W (.slice A n cap) xs) (hn : xs.length = n) (hpn : p < n) (hl : n ≤ 1000) :
    Calls Try.prog 75 #[.agg #[.slice A n cap, .int .i64 k], .int .i64 p, .int .i64 l] W fun e w' => ∃ g c, e = .returned (.agg #[.slice (some ⟨g, 0, none⟩) n c, .int .i64 k]) ∧ Sl w' W.heap.size (.slice (some ⟨g, 0, none⟩) n c) (xs.set p l) ∧ Kp Nw W w' := by
  have HR := Lib.hid hu
  have HN := Lib.hid hn
  have hp : 0 < n := by omega
  have HVN : Hid (Vn (.slice A n cap) xs) := Lib.hid (fun h => by rw [h] at hn; simp at hn; omega)
  have p0 : (0 : Int) ≤ p := Int.natCast_nonneg _
  have p1 : (p : Int) < n := by omega
  clear hu hn
  have T0 := Lib.hid ((Own2.new W (.slice A n cap) (.int .i64 k) 27).kp (.al _ (.cells #[.slice none 0 0, .int .i64 0] 27)) (fun h => h))
  have T1 := Lib.hid (T0.out.kp (.al _ (.cells #[.slice none 0 0, .int .i64 0] 27)) (fun h => h))
  have D0 := Lib.hid (Own2.new ((W.alloc (.cells #[.slice A n cap, .int .i64 k] 27)).alloc (.cells #[.slice none 0 0, .int .i64 0] 27)) (.slice none 0 0) (.int .i64 0) 27)
  have R0 : Hid (Own2 ((W.alloc (.cells #[.slice A n cap, .int .i64 k] 27)).alloc (.cells #[.slice none 0 0, .int .i64 0] 27)) (W.heap.size + 1) (.slice none 0 0) (.int .i64 0)) := Lib.hid (by have h := Own2.new (W.alloc (.cells #[.slice A n cap, .int .i64 k] 27)) (.slice none 0 0) (.int .i64 0) 27; rw [World.size_alloc] at h; exact h)
  have K2 : Hid (Kp Nw W (((W.alloc (.cells #[.slice A n cap, .int .i64 k] 27)).alloc (.cells #[.slice none 0 0, .int .i64 0] 27)).drew)) := Lib.hid ((Kp.al W _).nw (.al _ _)).drew
  have K3 : Hid (Kp Nw W ((((W.alloc (.cells #[.slice A n cap, .int .i64 k] 27)).alloc (.cells #[.slice none 0 0, .int .i64 0] 27)).alloc (.cells #[.slice none 0 0, .int .i64 0] 27)).drew)) := Lib.hid (((Kp.al W _).nw (.al _ _)).nw (.al _ _)).drew
  go_enter Try.func75, Try.ntmps75
  go_wp2_with fail
  go_region_held3 (fun w' => Kp Nw ((W.alloc (.cells #[.slice A n cap, .int .i64 k] 27)).alloc (.cells #[.slice none 0 0, .int .i64 0] 27)) w' ∧ w'.cell? ⟨W.heap.size, 0, none⟩ = some (.slice A n cap) ∧ w'.cell? ⟨W.heap.size, 1, none⟩ = some (.int .i64 k))
    (first
      | exact ⟨(Kp.refl _ _).drew, T0.out.1, T0.out.2.1⟩
      | exact ⟨((Kp.refl _ _).alloc _).drew, T1.out.1, T1.out.2.1⟩
      | exact ⟨hkW1, keepc hkW1 T0.out.1 (fun h => h), keepc hkW1 T0.out.2.1 (fun h => h)⟩
      | exact ⟨(hkW1.setCell (.inr (by simp)) _).setCell (.inr (by simp)) _, keepc ((hkW1.setCell (.inr (by simp)) _).setCell (.inr (by simp)) _) T0.out.1 (fun h => h), keepc ((hkW1.setCell (.inr (by simp)) _).setCell (.inr (by simp)) _) T0.out.2.1 (fun h => h)⟩
      | exact ⟨hkW1.alloc _, keepc (hkW1.alloc _) T0.out.1 (fun h => h), keepc (hkW1.alloc _) T0.out.2.1 (fun h => h)⟩
      | exact ⟨(‹Kp Nw _ _ ∧ _›.1).alloc _, keepc ((‹Kp Nw _ _ ∧ _›.1).alloc _) T0.out.1 (fun h => h), keepc ((‹Kp Nw _ _ ∧ _›.1).alloc _) T0.out.2.1 (fun h => h)⟩
      | fail)
    (first
      | (go_at_call 70
         refine (clone_any A n cap xs ((((W.alloc (.cells #[.slice A n cap, .int .i64 k] 27)).alloc (.cells #[.slice none 0 0, .int .i64 0] 27)).alloc (.cells #[.slice none 0 0, .int .i64 0] 27)).drew) (HR.out.nw K3.out) HN.out hp (by omega)).mono ?_
         rintro e w1 ⟨v, rfl, hs1, hk1⟩
         obtain ⟨g, c1, hv, hsa, hc1, hc2, hB, hg⟩ := hs1.at_ (by rw [HN.out]; exact hp)
         rw [HN.out] at hv hsa hc1
         subst hv
         obtain ⟨d0, d1, d2, d3⟩ := D0.out.kp ((Kp.refl Nw _).drew.nw hk1) (fun h => h)
         simp only [World.size_alloc] at d0 d1 d2 d3
         have hkW1 := (‹Kp Nw _ _ ∧ _›.1).nw hk1)
      | (go_at_call 70
         refine (clone_any A n cap xs (((W.alloc (.cells #[.slice A n cap, .int .i64 k] 27)).alloc (.cells #[.slice none 0 0, .int .i64 0] 27)).drew) (HR.out.nw K2.out) HN.out hp (by omega)).mono ?_
         rintro e w1 ⟨v, rfl, hs1, hk1⟩
         obtain ⟨g, c1, hv, hsa, hc1, hc2, hB, hg⟩ := hs1.at_ (by rw [HN.out]; exact hp)
         rw [HN.out] at hv hsa hc1
         subst hv
         have hkW1 := (‹Kp Nw _ _ ∧ _›.1).nw hk1)
      | fail)
  · simp only [World.size_alloc, World.size_drew] at hB
    have HS := Lib.hid (show SlAt (w1.alloc (.cells #[.slice (some ⟨g, 0, none⟩) n c1, .int .i64 k] 27)) _ g c1 n xs from ⟨hsa.1, hsa.2.alloc _⟩)
    have DZ := Lib.hid (Two.new w1 (.slice (some ⟨g, 0, none⟩) n c1) (.int .i64 k) 27)
    have RZ := Lib.hid (R0.out.kp (hkW1.alloc (.cells #[.slice (some ⟨g, 0, none⟩) n c1, .int .i64 k] 27)) (fun h => h))
    have KZ := Lib.hid (((Kp.al W _).nw (.al _ _)).nw (hkW1.alloc (.cells #[.slice (some ⟨g, 0, none⟩) n c1, .int .i64 k] 27)))
    have z1 : W.heap.size + 2 ≤ w1.heap.size := by have := hkW1.size; simp at this; omega
    have hcb : ¬ w1.heap.size = g := by omega
    obtain ⟨cb, hcbe⟩ : ∃ cb, cb = w1.heap.size := ⟨_, rfl⟩
    obtain ⟨wz, hwz⟩ : ∃ wz, wz = w1.alloc (.cells #[.slice (some ⟨g, 0, none⟩) n c1, .int .i64 k] 27) := ⟨_, rfl⟩
    rw [← hwz] at HS DZ RZ KZ ⊢
    rw [← hcbe] at DZ hcb ⊢
    clear hwz hcbe hs1 hk1 hsa hkW1
    have cc := HS.out.cell p hpn
    have ff := HS.out.frozen p
    have K4 : Kp (fun b => b = g) wz (wz.setCell ⟨g, p, none⟩ (.int .i64 l)) := (Kp.refl (fun b => b = g) wz).setCell (p := ⟨g, p, none⟩) (.inl rfl) _
    obtain ⟨e0, e1⟩ := DZ.out.kp K4 hcb
    obtain ⟨r0, r1, r2, r3⟩ := RZ.out.kp K4 (by omega)
    obtain ⟨c0, c1'⟩ := DZ.out
    obtain ⟨z0, z1⟩ := two_set (wz.setCell ⟨g, p, none⟩ (.int .i64 l)) (W.heap.size + 1) (.slice (some ⟨g, 0, none⟩) n c1) (.int .i64 k) _ _ r0 r1
    have HS5 := Lib.hid ((HS.out.store p l).kpX (((Kp.refl (fun b => b = W.heap.size + 1) _).setCell (p := ⟨W.heap.size + 1, 0, none⟩) (.inl rfl) (.slice (some ⟨g, 0, none⟩) n c1)).setCell (p := ⟨W.heap.size + 1, 1, none⟩) (.inl rfl) (.int .i64 k)) (by omega))
    have HK5 := Lib.hid (((KZ.out.setCell (p := ⟨g, p, none⟩) (.inr (by show W.heap.size ≤ g; omega)) (.int .i64 l)).setCell (p := ⟨W.heap.size + 1, 0, none⟩) (.inr (by show W.heap.size ≤ W.heap.size + 1; omega)) (.slice (some ⟨g, 0, none⟩) n c1)).setCell (p := ⟨W.heap.size + 1, 1, none⟩) (.inr (by show W.heap.size ≤ W.heap.size + 1; omega)) (.int .i64 k))
    clear K4
    go_wp2
    exact bodyPost_ret (v := .agg #[.slice (some ⟨g, 0, none⟩) n c1, .int .i64 k]) (by simp [results, Try.results75, go_sem, z0, z1]) rfl ⟨g, c1, rfl, (SlAt.sl HS5.out).from (by simp only [World.size_alloc, World.size_drew]; omega), HK5.out⟩
  · simp only [World.size_alloc, World.size_drew] at hB
    have KX : Kp (fun b => b = W.heap.size + 1 + 1) w1 ((w1.setCell ⟨W.heap.size + 1 + 1, 0, none⟩ (.slice (some ⟨g, 0, none⟩) n c1)).setCell ⟨W.heap.size + 1 + 1, 1, none⟩ (.int .i64 k)) := ((Kp.refl (fun b => b = W.heap.size + 1 + 1) w1).setCell (p := ⟨W.heap.size + 1 + 1, 0, none⟩) (.inl rfl) _).setCell (p := ⟨W.heap.size + 1 + 1, 1, none⟩) (.inl rfl) _
    have HS := Lib.hid (SlAt.kpX hsa KX (by omega))
    have DZ : Hid (Two ((w1.setCell ⟨W.heap.size + 1 + 1, 0, none⟩ (.slice (some ⟨g, 0, none⟩) n c1)).setCell ⟨W.heap.size + 1 + 1, 1, none⟩ (.int .i64 k)) (W.heap.size + 1 + 1) (.slice (some ⟨g, 0, none⟩) n c1) (.int .i64 k)) := Lib.hid (two_set w1 _ _ _ _ _ d0 d1)
    have RZ := Lib.hid ((R0.out.kp hkW1 (fun h => h)).kp KX (by simp))
    have KZ := Lib.hid ((((Kp.al W _).nw (.al _ _)).nw hkW1).after KX (fun g hg h => by have : g = W.heap.size + 1 + 1 := h; omega))
    have z1 : W.heap.size + 2 ≤ w1.heap.size := by have := hkW1.size; simp at this; omega
    have hcb : ¬ W.heap.size + 1 + 1 = g := by omega
    obtain ⟨cb, hcbe⟩ : ∃ cb, cb = W.heap.size + 1 + 1 := ⟨_, rfl⟩
    obtain ⟨wz, hwz⟩ : ∃ wz, wz = (w1.setCell ⟨W.heap.size + 1 + 1, 0, none⟩ (.slice (some ⟨g, 0, none⟩) n c1)).setCell ⟨W.heap.size + 1 + 1, 1, none⟩ (.int .i64 k) := ⟨_, rfl⟩
    rw [← hwz] at HS DZ RZ KZ ⊢
    rw [← hcbe] at DZ hcb ⊢
    clear hwz hcbe hs1 hk1 hsa hkW1 KX d0 d1 d2 d3
    have cc := HS.out.cell p hpn
    have ff := HS.out.frozen p
    have K4 : Kp (fun b => b = g) wz (wz.setCell ⟨g, p, none⟩ (.int .i64 l)) := (Kp.refl (fun b => b = g) wz).setCell (p := ⟨g, p, none⟩) (.inl rfl) _
    obtain ⟨e0, e1⟩ := DZ.out.kp K4 hcb
    obtain ⟨r0, r1, r2, r3⟩ := RZ.out.kp K4 (by omega)
    obtain ⟨c0, c1'⟩ := DZ.out
    obtain ⟨z0, z1⟩ := two_set (wz.setCell ⟨g, p, none⟩ (.int .i64 l)) (W.heap.size + 1) (.slice (some ⟨g, 0, none⟩) n c1) (.int .i64 k) _ _ r0 r1
    have HS5 := Lib.hid ((HS.out.store p l).kpX (((Kp.refl (fun b => b = W.heap.size + 1) _).setCell (p := ⟨W.heap.size + 1, 0, none⟩) (.inl rfl) (.slice (some ⟨g, 0, none⟩) n c1)).setCell (p := ⟨W.heap.size + 1, 1, none⟩) (.inl rfl) (.int .i64 k)) (by omega))
    have HK5 := Lib.hid (((KZ.out.setCell (p := ⟨g, p, none⟩) (.inr (by show W.heap.size ≤ g; omega)) (.int .i64 l)).setCell (p := ⟨W.heap.size + 1, 0, none⟩) (.inr (by show W.heap.size ≤ W.heap.size + 1; omega)) (.slice (some ⟨g, 0, none⟩) n c1)).setCell (p := ⟨W.heap.size + 1, 1, none⟩) (.inr (by show W.heap.size ≤ W.heap.size + 1; omega)) (.int .i64 k))
    clear K4
    go_wp2
    exact bodyPost_ret (v := .agg #[.slice (some ⟨g, 0, none⟩) n c1, .int .i64 k]) (by simp [results, Try.results75, go_sem, z0, z1]) rfl ⟨g, c1, rfl, (SlAt.sl HS5.out).from (by simp only [World.size_alloc, World.size_drew]; omega), HK5.out⟩

set_option maxRecDepth 100000 in
set_option maxHeartbeats 800000 in
theorem liWith_any (A : Option Addr) (cap n p : Nat) (xs : List Int) (k l : Int) (W : World) (hu : Rd W (.slice A n cap) xs) (hn : xs.length = n) (hpn : p < n) (hl : n ≤ 1000) :
    Calls Try.prog 74 #[.agg #[.slice A n cap, .int .i64 k], .int .i64 p, .int .i64 l] W fun e w' => ∃ g c, e = .returned (.agg #[.slice (some ⟨g, 0, none⟩) n c, .int .i64 k]) ∧ Sl w' W.heap.size (.slice (some ⟨g, 0, none⟩) n c) (xs.set p l) ∧ Kp Nw W w' := by
  have HR := Lib.hid hu
  have HN := Lib.hid hn
  have hp : 0 < n := by omega
  have HVN : Hid (Vn (.slice A n cap) xs) := Lib.hid (fun h => by rw [h] at hn; simp at hn; omega)
  have p0 : (0 : Int) ≤ p := Int.natCast_nonneg _
  have p1 : (p : Int) < n := by omega
  clear hu hn
  have T0 := Lib.hid ((Own2.new W (.slice A n cap) (.int .i64 k) 27).kp (.al _ (.cells #[.slice none 0 0, .int .i64 0] 27)) (fun h => h))
  have T1 := Lib.hid (T0.out.kp (.al _ (.cells #[.slice none 0 0, .int .i64 0] 27)) (fun h => h))
  have D0 := Lib.hid (Own2.new ((W.alloc (.cells #[.slice A n cap, .int .i64 k] 27)).alloc (.cells #[.slice none 0 0, .int .i64 0] 27)) (.slice none 0 0) (.int .i64 0) 27)
  have R0 : Hid (Own2 ((W.alloc (.cells #[.slice A n cap, .int .i64 k] 27)).alloc (.cells #[.slice none 0 0, .int .i64 0] 27)) (W.heap.size + 1) (.slice none 0 0) (.int .i64 0)) := Lib.hid (by have h := Own2.new (W.alloc (.cells #[.slice A n cap, .int .i64 k] 27)) (.slice none 0 0) (.int .i64 0) 27; rw [World.size_alloc] at h; exact h)
  have K2 : Hid (Kp Nw W (((W.alloc (.cells #[.slice A n cap, .int .i64 k] 27)).alloc (.cells #[.slice none 0 0, .int .i64 0] 27)).drew)) := Lib.hid ((Kp.al W _).nw (.al _ _)).drew
  have K3 : Hid (Kp Nw W ((((W.alloc (.cells #[.slice A n cap, .int .i64 k] 27)).alloc (.cells #[.slice none 0 0, .int .i64 0] 27)).alloc (.cells #[.slice none 0 0, .int .i64 0] 27)).drew)) := Lib.hid (((Kp.al W _).nw (.al _ _)).nw (.al _ _)).drew
  go_enter Try.func74, Try.ntmps74
  go_wp2_with fail
  go_region_held3 (fun w' => Kp Nw ((W.alloc (.cells #[.slice A n cap, .int .i64 k] 27)).alloc (.cells #[.slice none 0 0, .int .i64 0] 27)) w' ∧ w'.cell? ⟨W.heap.size, 0, none⟩ = some (.slice A n cap) ∧ w'.cell? ⟨W.heap.size, 1, none⟩ = some (.int .i64 k))
    (first
      | exact ⟨(Kp.refl _ _).drew, T0.out.1, T0.out.2.1⟩
      | exact ⟨((Kp.refl _ _).alloc _).drew, T1.out.1, T1.out.2.1⟩
      | exact ⟨hkW1, keepc hkW1 T0.out.1 (fun h => h), keepc hkW1 T0.out.2.1 (fun h => h)⟩
      | exact ⟨(hkW1.setCell (.inr (by simp)) _).setCell (.inr (by simp)) _, keepc ((hkW1.setCell (.inr (by simp)) _).setCell (.inr (by simp)) _) T0.out.1 (fun h => h), keepc ((hkW1.setCell (.inr (by simp)) _).setCell (.inr (by simp)) _) T0.out.2.1 (fun h => h)⟩
      | exact ⟨hkW1.alloc _, keepc (hkW1.alloc _) T0.out.1 (fun h => h), keepc (hkW1.alloc _) T0.out.2.1 (fun h => h)⟩
      | exact ⟨(‹Kp Nw _ _ ∧ _›.1).alloc _, keepc ((‹Kp Nw _ _ ∧ _›.1).alloc _) T0.out.1 (fun h => h), keepc ((‹Kp Nw _ _ ∧ _›.1).alloc _) T0.out.2.1 (fun h => h)⟩
      | fail)
    (first
      | (go_at_call 88
         refine (l1Own_any (.slice A n cap) xs ((((W.alloc (.cells #[.slice A n cap, .int .i64 k] 27)).alloc (.cells #[.slice none 0 0, .int .i64 0] 27)).alloc (.cells #[.slice none 0 0, .int .i64 0] 27)).drew) (HR.out.nw K3.out) HVN.out (by have := HN.out; omega)).mono ?_
         rintro e w1 ⟨v, rfl, hs1, hk1⟩
         obtain ⟨g, c1, hv, hsa, hc1, hc2, hB, hg⟩ := hs1.at_ (by rw [HN.out]; exact hp)
         rw [HN.out] at hv hsa hc1
         subst hv
         obtain ⟨d0, d1, d2, d3⟩ := D0.out.kp ((Kp.refl Nw _).drew.nw hk1) (fun h => h)
         simp only [World.size_alloc] at d0 d1 d2 d3
         have hkW1 := (‹Kp Nw _ _ ∧ _›.1).nw hk1)
      | (go_at_call 88
         refine (l1Own_any (.slice A n cap) xs (((W.alloc (.cells #[.slice A n cap, .int .i64 k] 27)).alloc (.cells #[.slice none 0 0, .int .i64 0] 27)).drew) (HR.out.nw K2.out) HVN.out (by have := HN.out; omega)).mono ?_
         rintro e w1 ⟨v, rfl, hs1, hk1⟩
         obtain ⟨g, c1, hv, hsa, hc1, hc2, hB, hg⟩ := hs1.at_ (by rw [HN.out]; exact hp)
         rw [HN.out] at hv hsa hc1
         subst hv
         have hkW1 := (‹Kp Nw _ _ ∧ _›.1).nw hk1)
      | fail)
  · simp only [World.size_alloc, World.size_drew] at hB
    have HS := Lib.hid (show SlAt (w1.alloc (.cells #[.slice (some ⟨g, 0, none⟩) n c1, .int .i64 k] 27)) _ g c1 n xs from ⟨hsa.1, hsa.2.alloc _⟩)
    have DZ := Lib.hid (Two.new w1 (.slice (some ⟨g, 0, none⟩) n c1) (.int .i64 k) 27)
    have RZ := Lib.hid (R0.out.kp (hkW1.alloc (.cells #[.slice (some ⟨g, 0, none⟩) n c1, .int .i64 k] 27)) (fun h => h))
    have KZ := Lib.hid (((Kp.al W _).nw (.al _ _)).nw (hkW1.alloc (.cells #[.slice (some ⟨g, 0, none⟩) n c1, .int .i64 k] 27)))
    have z1 : W.heap.size + 2 ≤ w1.heap.size := by have := hkW1.size; simp at this; omega
    have hcb : ¬ w1.heap.size = g := by omega
    obtain ⟨cb, hcbe⟩ : ∃ cb, cb = w1.heap.size := ⟨_, rfl⟩
    obtain ⟨wz, hwz⟩ : ∃ wz, wz = w1.alloc (.cells #[.slice (some ⟨g, 0, none⟩) n c1, .int .i64 k] 27) := ⟨_, rfl⟩
    rw [← hwz] at HS DZ RZ KZ ⊢
    rw [← hcbe] at DZ hcb ⊢
    clear hwz hcbe hs1 hk1 hsa hkW1
    have cc := HS.out.cell p hpn
    have ff := HS.out.frozen p
    have K4 : Kp (fun b => b = g) wz (wz.setCell ⟨g, p, none⟩ (.int .i64 l)) := (Kp.refl (fun b => b = g) wz).setCell (p := ⟨g, p, none⟩) (.inl rfl) _
    obtain ⟨e0, e1⟩ := DZ.out.kp K4 hcb
    obtain ⟨r0, r1, r2, r3⟩ := RZ.out.kp K4 (by omega)
    obtain ⟨c0, c1'⟩ := DZ.out
    obtain ⟨z0, z1⟩ := two_set (wz.setCell ⟨g, p, none⟩ (.int .i64 l)) (W.heap.size + 1) (.slice (some ⟨g, 0, none⟩) n c1) (.int .i64 k) _ _ r0 r1
    have HS5 := Lib.hid ((HS.out.store p l).kpX (((Kp.refl (fun b => b = W.heap.size + 1) _).setCell (p := ⟨W.heap.size + 1, 0, none⟩) (.inl rfl) (.slice (some ⟨g, 0, none⟩) n c1)).setCell (p := ⟨W.heap.size + 1, 1, none⟩) (.inl rfl) (.int .i64 k)) (by omega))
    have HK5 := Lib.hid (((KZ.out.setCell (p := ⟨g, p, none⟩) (.inr (by show W.heap.size ≤ g; omega)) (.int .i64 l)).setCell (p := ⟨W.heap.size + 1, 0, none⟩) (.inr (by show W.heap.size ≤ W.heap.size + 1; omega)) (.slice (some ⟨g, 0, none⟩) n c1)).setCell (p := ⟨W.heap.size + 1, 1, none⟩) (.inr (by show W.heap.size ≤ W.heap.size + 1; omega)) (.int .i64 k))
    clear K4
    go_wp2
    exact bodyPost_ret (v := .agg #[.slice (some ⟨g, 0, none⟩) n c1, .int .i64 k]) (by simp [results, Try.results74, go_sem, z0, z1]) rfl ⟨g, c1, rfl, (SlAt.sl HS5.out).from (by simp only [World.size_alloc, World.size_drew]; omega), HK5.out⟩
  · simp only [World.size_alloc, World.size_drew] at hB
    have KX : Kp (fun b => b = W.heap.size + 1 + 1) w1 ((w1.setCell ⟨W.heap.size + 1 + 1, 0, none⟩ (.slice (some ⟨g, 0, none⟩) n c1)).setCell ⟨W.heap.size + 1 + 1, 1, none⟩ (.int .i64 k)) := ((Kp.refl (fun b => b = W.heap.size + 1 + 1) w1).setCell (p := ⟨W.heap.size + 1 + 1, 0, none⟩) (.inl rfl) _).setCell (p := ⟨W.heap.size + 1 + 1, 1, none⟩) (.inl rfl) _
    have HS := Lib.hid (SlAt.kpX hsa KX (by omega))
    have DZ : Hid (Two ((w1.setCell ⟨W.heap.size + 1 + 1, 0, none⟩ (.slice (some ⟨g, 0, none⟩) n c1)).setCell ⟨W.heap.size + 1 + 1, 1, none⟩ (.int .i64 k)) (W.heap.size + 1 + 1) (.slice (some ⟨g, 0, none⟩) n c1) (.int .i64 k)) := Lib.hid (two_set w1 _ _ _ _ _ d0 d1)
    have RZ := Lib.hid ((R0.out.kp hkW1 (fun h => h)).kp KX (by simp))
    have KZ := Lib.hid ((((Kp.al W _).nw (.al _ _)).nw hkW1).after KX (fun g hg h => by have : g = W.heap.size + 1 + 1 := h; omega))
    have z1 : W.heap.size + 2 ≤ w1.heap.size := by have := hkW1.size; simp at this; omega
    have hcb : ¬ W.heap.size + 1 + 1 = g := by omega
    obtain ⟨cb, hcbe⟩ : ∃ cb, cb = W.heap.size + 1 + 1 := ⟨_, rfl⟩
    obtain ⟨wz, hwz⟩ : ∃ wz, wz = (w1.setCell ⟨W.heap.size + 1 + 1, 0, none⟩ (.slice (some ⟨g, 0, none⟩) n c1)).setCell ⟨W.heap.size + 1 + 1, 1, none⟩ (.int .i64 k) := ⟨_, rfl⟩
    rw [← hwz] at HS DZ RZ KZ ⊢
    rw [← hcbe] at DZ hcb ⊢
    clear hwz hcbe hs1 hk1 hsa hkW1 KX d0 d1 d2 d3
    have cc := HS.out.cell p hpn
    have ff := HS.out.frozen p
    have K4 : Kp (fun b => b = g) wz (wz.setCell ⟨g, p, none⟩ (.int .i64 l)) := (Kp.refl (fun b => b = g) wz).setCell (p := ⟨g, p, none⟩) (.inl rfl) _
    obtain ⟨e0, e1⟩ := DZ.out.kp K4 hcb
    obtain ⟨r0, r1, r2, r3⟩ := RZ.out.kp K4 (by omega)
    obtain ⟨c0, c1'⟩ := DZ.out
    obtain ⟨z0, z1⟩ := two_set (wz.setCell ⟨g, p, none⟩ (.int .i64 l)) (W.heap.size + 1) (.slice (some ⟨g, 0, none⟩) n c1) (.int .i64 k) _ _ r0 r1
    have HS5 := Lib.hid ((HS.out.store p l).kpX (((Kp.refl (fun b => b = W.heap.size + 1) _).setCell (p := ⟨W.heap.size + 1, 0, none⟩) (.inl rfl) (.slice (some ⟨g, 0, none⟩) n c1)).setCell (p := ⟨W.heap.size + 1, 1, none⟩) (.inl rfl) (.int .i64 k)) (by omega))
    have HK5 := Lib.hid (((KZ.out.setCell (p := ⟨g, p, none⟩) (.inr (by show W.heap.size ≤ g; omega)) (.int .i64 l)).setCell (p := ⟨W.heap.size + 1, 0, none⟩) (.inr (by show W.heap.size ≤ W.heap.size + 1; omega)) (.slice (some ⟨g, 0, none⟩) n c1)).setCell (p := ⟨W.heap.size + 1, 1, none⟩) (.inr (by show W.heap.size ≤ W.heap.size + 1; omega)) (.int .i64 k))
    clear K4
    go_wp2
    exact bodyPost_ret (v := .agg #[.slice (some ⟨g, 0, none⟩) n c1, .int .i64 k]) (by simp [results, Try.results74, go_sem, z0, z1]) rfl ⟨g, c1, rfl, (SlAt.sl HS5.out).from (by simp only [World.size_alloc, World.size_drew]; omega), HK5.out⟩

set_option maxHeartbeats 800000 in
theorem iGive_no (A : Option Addr) (cap n : Nat) (xs : List Int) (k p l : Int) (W : World) (hu : Rd W (.slice A n cap) xs) (hn : xs.length = n) (hl : n ≤ 2000000) (h : (catB xs k && decide (0 ≤ p ∧ p ≤ (n : Int) - 1)) = false) :
    Calls Try.prog 47 #[.agg #[.slice A n cap, .int .i64 k], .int .i64 p, .int .i64 l] W (CatsRes0 W [] 0 false) := by
  have HR := Lib.hid hu
  have HN := Lib.hid hn
  have HB := Lib.hid h.symm
  have T0 := Lib.hid ((Own2.new W (.slice A n cap) (.int .i64 k) 27).kp (.al _ (.cells #[.slice none 0 0, .int .i64 0] 27)) (fun h => h))
  have R0 : Hid (Own2 ((W.alloc (.cells #[.slice A n cap, .int .i64 k] 27)).alloc (.cells #[.slice none 0 0, .int .i64 0] 27)) (W.heap.size + 1) (.slice none 0 0) (.int .i64 0)) := Lib.hid (by have h := Own2.new (W.alloc (.cells #[.slice A n cap, .int .i64 k] 27)) (.slice none 0 0) (.int .i64 0) 27; rw [World.size_alloc] at h; exact h)
  clear hu hn h
  go_enter Try.func47, Try.ntmps47
  go_wp2_with fail
  refine (haveCat_any A cap n xs k p _ (HR.out.nw ((Kp.al _ _).nw (.al _ _))) HN.out hl false HB.out).mono ?_
  rintro e w1 ⟨rfl, hk1⟩
  obtain ⟨t0, t1, t2, t3⟩ := (T0.out).kp hk1 (fun h => h)
  obtain ⟨r0, r1, r2, r3⟩ := (R0.out).kp hk1 (fun h => h)
  have zz : W.heap.size + 2 ≤ w1.heap.size := by have := hk1.size; simp at this; omega
  have HK := Lib.hid (((Kp.al W _).nw (.al _ _)).nw hk1)
  obtain ⟨z0, z1⟩ := two_set w1 (W.heap.size + 1) (.slice none 0 0) (.int .i64 0) _ _ r0 r1
  clear hk1 zz
  go_wp2
  refine bodyPost_ret (v := .tuple #[.agg #[.slice none 0 0, .int .i64 0], .bool false]) (by simp [results, Try.results47, go_sem, z0, z1]) rfl ⟨_, rfl, Sl.nil _ _, ?_⟩
  exact (HK.out.setCell (.inr (by show W.heap.size ≤ W.heap.size + 1; omega)) _).setCell (.inr (by show W.heap.size ≤ W.heap.size + 1; omega)) _

set_option maxHeartbeats 800000 in
theorem iGive_off (A : Option Addr) (cap n p : Nat) (xs : List Int) (k l : Int) (W : World) (hu : Rd W (.slice A n cap) xs) (hn : xs.length = n) (hl : n ≤ 2000000) (hg : catB xs k = true) (hpn : p < n) (h : l < 0 ∨ 9 - xs.getD p 0 < l) :
    Calls Try.prog 47 #[.agg #[.slice A n cap, .int .i64 k], .int .i64 p, .int .i64 l] W (CatsRes0 W [] 0 false) := by
  obtain ⟨x1, x2⟩ := lifeB_get (catB_parts hg).2.2.2.2 p (by omega)
  have hb : true = (catB xs k && decide (0 ≤ (p : Int) ∧ (p : Int) ≤ (n : Int) - 1)) := by rw [hg, decide_eq_true (by omega)]; rfl
  obtain ⟨A', c', hA, hr⟩ := id hu
  obtain ⟨g, o, hgo, hc⟩ := hr p (by omega)
  have eA : A = A' := by injection hA
  subst eA
  subst hgo
  obtain ⟨x, hx⟩ : ∃ x, xs.getD p 0 = x := ⟨_, rfl⟩
  rw [hx] at hc x1 x2 h
  have HX := Lib.hid hx
  have HR := Lib.hid hu
  have HN := Lib.hid hn
  have HB := Lib.hid hb
  have HCC := Lib.hid hc
  have p0 : (0 : Int) ≤ p := Int.natCast_nonneg _
  have p1 : (p : Int) < n := by omega
  have q0 : IntKind.i64.wrap (9 - x) = 9 - x := IntWalk.i64_in _ (by omega)
  skip
  obtain ⟨A, hAA⟩ : ∃ A, A = some (⟨g, o, none⟩ : Addr) := ⟨_, rfl⟩
  have T0 := Lib.hid ((Own2.new W (.slice (some ⟨g, o, none⟩) n cap) (.int .i64 k) 27).kp (.al _ (.cells #[.slice none 0 0, .int .i64 0] 27)) (fun h => h))
  have R0 : Hid (Own2 ((W.alloc (.cells #[.slice (some ⟨g, o, none⟩) n cap, .int .i64 k] 27)).alloc (.cells #[.slice none 0 0, .int .i64 0] 27)) (W.heap.size + 1) (.slice none 0 0) (.int .i64 0)) := Lib.hid (by have h := Own2.new (W.alloc (.cells #[.slice (some ⟨g, o, none⟩) n cap, .int .i64 k] 27)) (.slice none 0 0) (.int .i64 0) 27; rw [World.size_alloc] at h; exact h)
  clear hu hn hb hg hA hr hc hx hAA A
  go_enter Try.func47, Try.ntmps47
  go_wp2_with fail
  refine (haveCat_any (some ⟨g, o, none⟩) cap n xs k p _ (HR.out.nw ((Kp.al _ _).nw (.al _ _))) HN.out hl true HB.out).mono ?_
  rintro e w1 ⟨rfl, hk1⟩
  obtain ⟨t0, t1, t2, t3⟩ := (T0.out).kp hk1 (fun h => h)
  obtain ⟨r0, r1, r2, r3⟩ := (R0.out).kp hk1 (fun h => h)
  have zz : W.heap.size + 2 ≤ w1.heap.size := by have := hk1.size; simp at this; omega
  have HK := Lib.hid (((Kp.al W _).nw (.al _ _)).nw hk1)
  obtain ⟨z0, z1⟩ := two_set w1 (W.heap.size + 1) (.slice none 0 0) (.int .i64 0) _ _ r0 r1
  have cc := keepc HK.out HCC.out (fun h => h)
  clear hk1 zz
  go_wp2_with (first | ((with_reducible refine (within_no l _ _ _ h).mono ?_); rintro e w' ⟨rfl, rfl⟩))
  refine bodyPost_ret (v := .tuple #[.agg #[.slice none 0 0, .int .i64 0], .bool false]) (by simp [results, Try.results47, go_sem, z0, z1]) rfl ⟨_, rfl, Sl.nil _ _, ?_⟩
  exact (HK.out.setCell (.inr (by show W.heap.size ≤ W.heap.size + 1; omega)) _).setCell (.inr (by show W.heap.size ≤ W.heap.size + 1; omega)) _

set_option maxRecDepth 100000 in
set_option maxHeartbeats 1600000 in
theorem iGive_yes (A : Option Addr) (cap n p : Nat) (xs : List Int) (k l : Int) (W : World) (hu : Rd W (.slice A n cap) xs) (hn : xs.length = n) (hl : n ≤ 1000) (hg : catB xs k = true) (hpn : p < n) (l0 : 0 ≤ l) (h : xs.getD p 0 + l ≤ 9) :
    Calls Try.prog 47 #[.agg #[.slice A n cap, .int .i64 k], .int .i64 p, .int .i64 l] W (CatsRes0 W (xs.set p (xs.getD p 0 + l)) k true) := by
  obtain ⟨x1, x2⟩ := lifeB_get (catB_parts hg).2.2.2.2 p (by omega)
  have hb : true = (catB xs k && decide (0 ≤ (p : Int) ∧ (p : Int) ≤ (n : Int) - 1)) := by rw [hg, decide_eq_true (by omega)]; rfl
  obtain ⟨A', c', hA, hr⟩ := id hu
  obtain ⟨g, o, hgo, hc⟩ := hr p (by omega)
  have eA : A = A' := by injection hA
  subst eA
  subst hgo
  obtain ⟨x, hx⟩ : ∃ x, xs.getD p 0 = x := ⟨_, rfl⟩
  rw [hx] at hc x1 x2 h ⊢
  have HX := Lib.hid hx
  have HR := Lib.hid hu
  have HN := Lib.hid hn
  have HB := Lib.hid hb
  have HCC := Lib.hid hc
  have p0 : (0 : Int) ≤ p := Int.natCast_nonneg _
  have p1 : (p : Int) < n := by omega
  have l9 : l ≤ 9 - x := by omega
  have l1 : l ≤ 9 := by omega
  have q0 : IntKind.i64.wrap (9 - x) = 9 - x := IntWalk.i64_in _ (by omega)
  have q1 : IntKind.i64.wrap (x + l) = x + l := IntWalk.i64_in _ (by omega)
  have hl2 : n ≤ 2000000 := by omega
  have T0 := Lib.hid ((Own2.new W (.slice (some ⟨g, o, none⟩) n cap) (.int .i64 k) 27).kp (.al _ (.cells #[.slice none 0 0, .int .i64 0] 27)) (fun h => h))
  have R0 : Hid (Own2 ((W.alloc (.cells #[.slice (some ⟨g, o, none⟩) n cap, .int .i64 k] 27)).alloc (.cells #[.slice none 0 0, .int .i64 0] 27)) (W.heap.size + 1) (.slice none 0 0) (.int .i64 0)) := Lib.hid (by have h := Own2.new (W.alloc (.cells #[.slice (some ⟨g, o, none⟩) n cap, .int .i64 k] 27)) (.slice none 0 0) (.int .i64 0) 27; rw [World.size_alloc] at h; exact h)
  clear hu hn hb hg hA hr hc hx
  go_enter Try.func47, Try.ntmps47
  go_wp2_with fail
  refine (haveCat_any (some ⟨g, o, none⟩) cap n xs k p _ (HR.out.nw ((Kp.al _ _).nw (.al _ _))) HN.out hl2 true HB.out).mono ?_
  rintro e w1 ⟨rfl, hk1⟩
  obtain ⟨t0, t1, t2, t3⟩ := (T0.out).kp hk1 (fun h => h)
  obtain ⟨r0, r1, r2, r3⟩ := (R0.out).kp hk1 (fun h => h)
  have zz : W.heap.size + 2 ≤ w1.heap.size := by have := hk1.size; simp at this; omega
  have HK := Lib.hid (((Kp.al W _).nw (.al _ _)).nw hk1)
  have cc := keepc HK.out HCC.out (fun h => h)
  have WZ := Lib.hid zz
  have R1 := Lib.hid ((R0.out).kp hk1 (fun h => h))
  clear hk1 zz r0 r1 r2 r3
  go_wp2_with (first | ((with_reducible refine (within_yes l _ _ _ l0 l9).mono ?_); rintro e w' ⟨rfl, rfl⟩))
  have hgl : g < W.heap.size := World.block_lt_of_cell? W _ HCC.out
  have ng : ¬ g = W.heap.size + 1 := by omega
  have nw0 : ¬ W.heap.size = W.heap.size + 1 := by omega
  go_region_held3 (fun w' => Kp (fun b => b = W.heap.size + 1) w1 w' ∧ w'.cell? ⟨W.heap.size, 0, none⟩ = some (.slice (some ⟨g, o, none⟩) n cap) ∧ w'.cell? ⟨W.heap.size, 1, none⟩ = some (.int .i64 k) ∧ w'.cell? ⟨g, o + p, none⟩ = some (.int .i64 x))
    (first
      | exact ⟨(Kp.refl _ _).drew, t0, t1, cc⟩
      | exact ⟨(hkW2.setCell (p := ⟨W.heap.size + 1, 0, none⟩) (.inl rfl) _).setCell (p := ⟨W.heap.size + 1, 1, none⟩) (.inl rfl) _, keepc ((hkW2.setCell (p := ⟨W.heap.size + 1, 0, none⟩) (.inl rfl) _).setCell (p := ⟨W.heap.size + 1, 1, none⟩) (.inl rfl) _) t0 nw0, keepc ((hkW2.setCell (p := ⟨W.heap.size + 1, 0, none⟩) (.inl rfl) _).setCell (p := ⟨W.heap.size + 1, 1, none⟩) (.inl rfl) _) t1 nw0, keepc ((hkW2.setCell (p := ⟨W.heap.size + 1, 0, none⟩) (.inl rfl) _).setCell (p := ⟨W.heap.size + 1, 1, none⟩) (.inl rfl) _) cc ng⟩
      | exact ⟨hkW2, keepc hkW2 t0 nw0, keepc hkW2 t1 nw0, keepc hkW2 cc ng⟩
      | fail)
    (first
      | (go_at_call 75
         refine (withLives_any (some ⟨g, o, none⟩) cap n p xs k (x + l) w1.drew (HR.out.nw HK.out.drew) HN.out hpn hl).mono ?_
         rintro e w2 ⟨g2, c2, rfl, hs2, hk2⟩
         have hkW2 : Kp (fun b => b = W.heap.size + 1) w1 w2 := (Kp.refl _ w1).drew.nw hk2
         obtain ⟨r0, r1, r2, r3⟩ := (R1.out).kp (show Kp Nw w1 w2 from (Kp.refl Nw w1).drew.nw hk2) (fun h => h))
      | fail)
  have HS2 := Lib.hid hs2
  have HK2 := Lib.hid (HK.out.drew.nw hk2)
  obtain ⟨z0, z1⟩ := two_set w2 (W.heap.size + 1) (.slice (some ⟨g2, 0, none⟩) n c2) (.int .i64 k) _ _ r0 r1
  clear hs2 hk2 hkW2
  go_wp2
  refine bodyPost_ret (v := .tuple #[.agg #[.slice (some ⟨g2, 0, none⟩) n c2, .int .i64 k], .bool true]) (by simp [results, Try.results47, go_sem, z0, z1]) rfl ⟨_, rfl, ?_, ?_⟩
  · have z9 := HK.out.size
    have ge := HS2.out.own_ge
    exact (HS2.out.kp (((Kp.refl (fun b => b = W.heap.size + 1) w2).setCell (p := ⟨W.heap.size + 1, 0, none⟩) (.inl rfl) (.slice (some ⟨g2, 0, none⟩) n c2)).setCell (p := ⟨W.heap.size + 1, 1, none⟩) (.inl rfl) (.int .i64 k)) (fun g h1 h2 => by have := (ge g h1).1; have h3 : W.heap.size + 2 ≤ w1.heap.size := WZ.out; have h4 : g = W.heap.size + 1 := h2; simp at this; omega)).from (by simpa using z9)
  · exact (HK2.out.setCell (.inr (by show W.heap.size ≤ W.heap.size + 1; omega)) _).setCell (.inr (by show W.heap.size ≤ W.heap.size + 1; omega)) _

set_option maxHeartbeats 800000 in
theorem sGive_no (A : Option Addr) (cap n : Nat) (xs : List Int) (k p l : Int) (W : World) (hu : Rd W (.slice A n cap) xs) (hn : xs.length = n) (hl : n ≤ 2000000) (h : (catB xs k && decide (0 ≤ p ∧ p ≤ (n : Int) - 1)) = false) :
    Calls Try.prog 46 #[.agg #[.slice A n cap, .int .i64 k], .int .i64 p, .int .i64 l] W (CatsRes0 W [] 0 false) := by
  have HR := Lib.hid hu
  have HN := Lib.hid hn
  have HB := Lib.hid h.symm
  have T0 := Lib.hid ((Own2.new W (.slice A n cap) (.int .i64 k) 27).kp (.al _ (.cells #[.slice none 0 0, .int .i64 0] 27)) (fun h => h))
  have R0 : Hid (Own2 ((W.alloc (.cells #[.slice A n cap, .int .i64 k] 27)).alloc (.cells #[.slice none 0 0, .int .i64 0] 27)) (W.heap.size + 1) (.slice none 0 0) (.int .i64 0)) := Lib.hid (by have h := Own2.new (W.alloc (.cells #[.slice A n cap, .int .i64 k] 27)) (.slice none 0 0) (.int .i64 0) 27; rw [World.size_alloc] at h; exact h)
  clear hu hn h
  go_enter Try.func46, Try.ntmps46
  go_wp2_with fail
  refine (liPerson_any A cap n xs k p _ (HR.out.nw ((Kp.al _ _).nw (.al _ _))) HN.out hl false HB.out).mono ?_
  rintro e w1 ⟨rfl, hk1⟩
  obtain ⟨t0, t1, t2, t3⟩ := (T0.out).kp hk1 (fun h => h)
  obtain ⟨r0, r1, r2, r3⟩ := (R0.out).kp hk1 (fun h => h)
  have zz : W.heap.size + 2 ≤ w1.heap.size := by have := hk1.size; simp at this; omega
  have HK := Lib.hid (((Kp.al W _).nw (.al _ _)).nw hk1)
  obtain ⟨z0, z1⟩ := two_set w1 (W.heap.size + 1) (.slice none 0 0) (.int .i64 0) _ _ r0 r1
  clear hk1 zz
  go_wp2
  refine bodyPost_ret (v := .tuple #[.agg #[.slice none 0 0, .int .i64 0], .bool false]) (by simp [results, Try.results46, go_sem, z0, z1]) rfl ⟨_, rfl, Sl.nil _ _, ?_⟩
  exact (HK.out.setCell (.inr (by show W.heap.size ≤ W.heap.size + 1; omega)) _).setCell (.inr (by show W.heap.size ≤ W.heap.size + 1; omega)) _

set_option maxHeartbeats 800000 in
theorem sGive_off1 (A : Option Addr) (cap n p : Nat) (xs : List Int) (k l : Int) (W : World) (hu : Rd W (.slice A n cap) xs) (hn : xs.length = n) (hl : n ≤ 2000000) (hg : catB xs k = true) (hpn : p < n) (h : l < 0 ∨ 9 < l) :
    Calls Try.prog 46 #[.agg #[.slice A n cap, .int .i64 k], .int .i64 p, .int .i64 l] W (CatsRes0 W [] 0 false) := by
  obtain ⟨x1, x2⟩ := lifeB_get (catB_parts hg).2.2.2.2 p (by omega)
  have hb : true = (catB xs k && decide (0 ≤ (p : Int) ∧ (p : Int) ≤ (n : Int) - 1)) := by rw [hg, decide_eq_true (by omega)]; rfl
  obtain ⟨A', c', hA, hr⟩ := id hu
  obtain ⟨g, o, hgo, hc⟩ := hr p (by omega)
  have eA : A = A' := by injection hA
  subst eA
  subst hgo
  obtain ⟨x, hx⟩ : ∃ x, xs.getD p 0 = x := ⟨_, rfl⟩
  rw [hx] at hc x1 x2
  have HX := Lib.hid hx
  have HR := Lib.hid hu
  have HN := Lib.hid hn
  have HB := Lib.hid hb
  have HCC := Lib.hid hc
  have p0 : (0 : Int) ≤ p := Int.natCast_nonneg _
  have p1 : (p : Int) < n := by omega
  have q0 : IntKind.i64.wrap (9 - x) = 9 - x := IntWalk.i64_in _ (by omega)
  skip
  obtain ⟨A, hAA⟩ : ∃ A, A = some (⟨g, o, none⟩ : Addr) := ⟨_, rfl⟩
  have T0 := Lib.hid ((Own2.new W (.slice (some ⟨g, o, none⟩) n cap) (.int .i64 k) 27).kp (.al _ (.cells #[.slice none 0 0, .int .i64 0] 27)) (fun h => h))
  have R0 : Hid (Own2 ((W.alloc (.cells #[.slice (some ⟨g, o, none⟩) n cap, .int .i64 k] 27)).alloc (.cells #[.slice none 0 0, .int .i64 0] 27)) (W.heap.size + 1) (.slice none 0 0) (.int .i64 0)) := Lib.hid (by have h := Own2.new (W.alloc (.cells #[.slice (some ⟨g, o, none⟩) n cap, .int .i64 k] 27)) (.slice none 0 0) (.int .i64 0) 27; rw [World.size_alloc] at h; exact h)
  clear hu hn hb hg hA hr hc hx hAA A
  go_enter Try.func46, Try.ntmps46
  go_wp2_with fail
  refine (liPerson_any (some ⟨g, o, none⟩) cap n xs k p _ (HR.out.nw ((Kp.al _ _).nw (.al _ _))) HN.out hl true HB.out).mono ?_
  rintro e w1 ⟨rfl, hk1⟩
  obtain ⟨t0, t1, t2, t3⟩ := (T0.out).kp hk1 (fun h => h)
  obtain ⟨r0, r1, r2, r3⟩ := (R0.out).kp hk1 (fun h => h)
  have zz : W.heap.size + 2 ≤ w1.heap.size := by have := hk1.size; simp at this; omega
  have HK := Lib.hid (((Kp.al W _).nw (.al _ _)).nw hk1)
  obtain ⟨z0, z1⟩ := two_set w1 (W.heap.size + 1) (.slice none 0 0) (.int .i64 0) _ _ r0 r1
  have cc := keepc HK.out HCC.out (fun h => h)
  clear hk1 zz
  go_wp2_with (first | ((with_reducible refine (l1In_no l _ _ _ h).mono ?_); rintro e w' ⟨rfl, rfl⟩))
  refine bodyPost_ret (v := .tuple #[.agg #[.slice none 0 0, .int .i64 0], .bool false]) (by simp [results, Try.results46, go_sem, z0, z1]) rfl ⟨_, rfl, Sl.nil _ _, ?_⟩
  exact (HK.out.setCell (.inr (by show W.heap.size ≤ W.heap.size + 1; omega)) _).setCell (.inr (by show W.heap.size ≤ W.heap.size + 1; omega)) _

set_option maxHeartbeats 800000 in
theorem sGive_off2 (A : Option Addr) (cap n p : Nat) (xs : List Int) (k l : Int) (W : World) (hu : Rd W (.slice A n cap) xs) (hn : xs.length = n) (hl : n ≤ 2000000) (hg : catB xs k = true) (hpn : p < n) (l0 : 0 ≤ l) (l1 : l ≤ 9) (h : 9 < xs.getD p 0 + l) :
    Calls Try.prog 46 #[.agg #[.slice A n cap, .int .i64 k], .int .i64 p, .int .i64 l] W (CatsRes0 W [] 0 false) := by
  obtain ⟨x1, x2⟩ := lifeB_get (catB_parts hg).2.2.2.2 p (by omega)
  have hb : true = (catB xs k && decide (0 ≤ (p : Int) ∧ (p : Int) ≤ (n : Int) - 1)) := by rw [hg, decide_eq_true (by omega)]; rfl
  obtain ⟨A', c', hA, hr⟩ := id hu
  obtain ⟨g, o, hgo, hc⟩ := hr p (by omega)
  have eA : A = A' := by injection hA
  subst eA
  subst hgo
  obtain ⟨x, hx⟩ : ∃ x, xs.getD p 0 = x := ⟨_, rfl⟩
  rw [hx] at hc x1 x2 h
  have HX := Lib.hid hx
  have HR := Lib.hid hu
  have HN := Lib.hid hn
  have HB := Lib.hid hb
  have HCC := Lib.hid hc
  have p0 : (0 : Int) ≤ p := Int.natCast_nonneg _
  have p1 : (p : Int) < n := by omega
  have q0 : IntKind.i64.wrap (9 - x) = 9 - x := IntWalk.i64_in _ (by omega)
  have q1 : IntKind.i64.wrap (x + l) = x + l := IntWalk.i64_in _ (by omega)
  obtain ⟨A, hAA⟩ : ∃ A, A = some (⟨g, o, none⟩ : Addr) := ⟨_, rfl⟩
  have T0 := Lib.hid ((Own2.new W (.slice (some ⟨g, o, none⟩) n cap) (.int .i64 k) 27).kp (.al _ (.cells #[.slice none 0 0, .int .i64 0] 27)) (fun h => h))
  have R0 : Hid (Own2 ((W.alloc (.cells #[.slice (some ⟨g, o, none⟩) n cap, .int .i64 k] 27)).alloc (.cells #[.slice none 0 0, .int .i64 0] 27)) (W.heap.size + 1) (.slice none 0 0) (.int .i64 0)) := Lib.hid (by have h := Own2.new (W.alloc (.cells #[.slice (some ⟨g, o, none⟩) n cap, .int .i64 k] 27)) (.slice none 0 0) (.int .i64 0) 27; rw [World.size_alloc] at h; exact h)
  clear hu hn hb hg hA hr hc hx hAA A
  go_enter Try.func46, Try.ntmps46
  go_wp2_with fail
  refine (liPerson_any (some ⟨g, o, none⟩) cap n xs k p _ (HR.out.nw ((Kp.al _ _).nw (.al _ _))) HN.out hl true HB.out).mono ?_
  rintro e w1 ⟨rfl, hk1⟩
  obtain ⟨t0, t1, t2, t3⟩ := (T0.out).kp hk1 (fun h => h)
  obtain ⟨r0, r1, r2, r3⟩ := (R0.out).kp hk1 (fun h => h)
  have zz : W.heap.size + 2 ≤ w1.heap.size := by have := hk1.size; simp at this; omega
  have HK := Lib.hid (((Kp.al W _).nw (.al _ _)).nw hk1)
  obtain ⟨z0, z1⟩ := two_set w1 (W.heap.size + 1) (.slice none 0 0) (.int .i64 0) _ _ r0 r1
  have cc := keepc HK.out HCC.out (fun h => h)
  clear hk1 zz
  go_wp2_with (first | ((with_reducible refine (l1In_yes l _ _ _ l0 l1).mono ?_); rintro e w' ⟨rfl, rfl⟩))
  refine bodyPost_ret (v := .tuple #[.agg #[.slice none 0 0, .int .i64 0], .bool false]) (by simp [results, Try.results46, go_sem, z0, z1]) rfl ⟨_, rfl, Sl.nil _ _, ?_⟩
  exact (HK.out.setCell (.inr (by show W.heap.size ≤ W.heap.size + 1; omega)) _).setCell (.inr (by show W.heap.size ≤ W.heap.size + 1; omega)) _

set_option maxRecDepth 100000 in
set_option maxHeartbeats 1600000 in
theorem sGive_yes (A : Option Addr) (cap n p : Nat) (xs : List Int) (k l : Int) (W : World) (hu : Rd W (.slice A n cap) xs) (hn : xs.length = n) (hl : n ≤ 1000) (hg : catB xs k = true) (hpn : p < n) (l0 : 0 ≤ l) (h : xs.getD p 0 + l ≤ 9) :
    Calls Try.prog 46 #[.agg #[.slice A n cap, .int .i64 k], .int .i64 p, .int .i64 l] W (CatsRes0 W (xs.set p (xs.getD p 0 + l)) k true) := by
  obtain ⟨x1, x2⟩ := lifeB_get (catB_parts hg).2.2.2.2 p (by omega)
  have hb : true = (catB xs k && decide (0 ≤ (p : Int) ∧ (p : Int) ≤ (n : Int) - 1)) := by rw [hg, decide_eq_true (by omega)]; rfl
  obtain ⟨A', c', hA, hr⟩ := id hu
  obtain ⟨g, o, hgo, hc⟩ := hr p (by omega)
  have eA : A = A' := by injection hA
  subst eA
  subst hgo
  obtain ⟨x, hx⟩ : ∃ x, xs.getD p 0 = x := ⟨_, rfl⟩
  rw [hx] at hc x1 x2 h ⊢
  have HX := Lib.hid hx
  have HR := Lib.hid hu
  have HN := Lib.hid hn
  have HB := Lib.hid hb
  have HCC := Lib.hid hc
  have p0 : (0 : Int) ≤ p := Int.natCast_nonneg _
  have p1 : (p : Int) < n := by omega
  have l9 : l ≤ 9 - x := by omega
  have l1 : l ≤ 9 := by omega
  have q0 : IntKind.i64.wrap (9 - x) = 9 - x := IntWalk.i64_in _ (by omega)
  have q1 : IntKind.i64.wrap (x + l) = x + l := IntWalk.i64_in _ (by omega)
  have hl2 : n ≤ 2000000 := by omega
  have T0 := Lib.hid ((Own2.new W (.slice (some ⟨g, o, none⟩) n cap) (.int .i64 k) 27).kp (.al _ (.cells #[.slice none 0 0, .int .i64 0] 27)) (fun h => h))
  have R0 : Hid (Own2 ((W.alloc (.cells #[.slice (some ⟨g, o, none⟩) n cap, .int .i64 k] 27)).alloc (.cells #[.slice none 0 0, .int .i64 0] 27)) (W.heap.size + 1) (.slice none 0 0) (.int .i64 0)) := Lib.hid (by have h := Own2.new (W.alloc (.cells #[.slice (some ⟨g, o, none⟩) n cap, .int .i64 k] 27)) (.slice none 0 0) (.int .i64 0) 27; rw [World.size_alloc] at h; exact h)
  clear hu hn hb hg hA hr hc hx
  go_enter Try.func46, Try.ntmps46
  go_wp2_with fail
  refine (liPerson_any (some ⟨g, o, none⟩) cap n xs k p _ (HR.out.nw ((Kp.al _ _).nw (.al _ _))) HN.out hl2 true HB.out).mono ?_
  rintro e w1 ⟨rfl, hk1⟩
  obtain ⟨t0, t1, t2, t3⟩ := (T0.out).kp hk1 (fun h => h)
  obtain ⟨r0, r1, r2, r3⟩ := (R0.out).kp hk1 (fun h => h)
  have zz : W.heap.size + 2 ≤ w1.heap.size := by have := hk1.size; simp at this; omega
  have HK := Lib.hid (((Kp.al W _).nw (.al _ _)).nw hk1)
  have cc := keepc HK.out HCC.out (fun h => h)
  have WZ := Lib.hid zz
  have R1 := Lib.hid ((R0.out).kp hk1 (fun h => h))
  clear hk1 zz r0 r1 r2 r3
  go_wp2_with (first | ((with_reducible refine (l1In_yes l _ _ _ l0 l1).mono ?_); rintro e w' ⟨rfl, rfl⟩))
  have hgl : g < W.heap.size := World.block_lt_of_cell? W _ HCC.out
  have ng : ¬ g = W.heap.size + 1 := by omega
  have nw0 : ¬ W.heap.size = W.heap.size + 1 := by omega
  go_region_held3 (fun w' => Kp (fun b => b = W.heap.size + 1) w1 w' ∧ w'.cell? ⟨W.heap.size, 0, none⟩ = some (.slice (some ⟨g, o, none⟩) n cap) ∧ w'.cell? ⟨W.heap.size, 1, none⟩ = some (.int .i64 k) ∧ w'.cell? ⟨g, o + p, none⟩ = some (.int .i64 x))
    (first
      | exact ⟨(Kp.refl _ _).drew, t0, t1, cc⟩
      | exact ⟨(hkW2.setCell (p := ⟨W.heap.size + 1, 0, none⟩) (.inl rfl) _).setCell (p := ⟨W.heap.size + 1, 1, none⟩) (.inl rfl) _, keepc ((hkW2.setCell (p := ⟨W.heap.size + 1, 0, none⟩) (.inl rfl) _).setCell (p := ⟨W.heap.size + 1, 1, none⟩) (.inl rfl) _) t0 nw0, keepc ((hkW2.setCell (p := ⟨W.heap.size + 1, 0, none⟩) (.inl rfl) _).setCell (p := ⟨W.heap.size + 1, 1, none⟩) (.inl rfl) _) t1 nw0, keepc ((hkW2.setCell (p := ⟨W.heap.size + 1, 0, none⟩) (.inl rfl) _).setCell (p := ⟨W.heap.size + 1, 1, none⟩) (.inl rfl) _) cc ng⟩
      | exact ⟨hkW2, keepc hkW2 t0 nw0, keepc hkW2 t1 nw0, keepc hkW2 cc ng⟩
      | fail)
    (first
      | (go_at_call 74
         refine (liWith_any (some ⟨g, o, none⟩) cap n p xs k (x + l) w1.drew (HR.out.nw HK.out.drew) HN.out hpn hl).mono ?_
         rintro e w2 ⟨g2, c2, rfl, hs2, hk2⟩
         have hkW2 : Kp (fun b => b = W.heap.size + 1) w1 w2 := (Kp.refl _ w1).drew.nw hk2
         obtain ⟨r0, r1, r2, r3⟩ := (R1.out).kp (show Kp Nw w1 w2 from (Kp.refl Nw w1).drew.nw hk2) (fun h => h))
      | fail)
  have HS2 := Lib.hid hs2
  have HK2 := Lib.hid (HK.out.drew.nw hk2)
  obtain ⟨z0, z1⟩ := two_set w2 (W.heap.size + 1) (.slice (some ⟨g2, 0, none⟩) n c2) (.int .i64 k) _ _ r0 r1
  clear hs2 hk2 hkW2
  go_wp2
  refine bodyPost_ret (v := .tuple #[.agg #[.slice (some ⟨g2, 0, none⟩) n c2, .int .i64 k], .bool true]) (by simp [results, Try.results46, go_sem, z0, z1]) rfl ⟨_, rfl, ?_, ?_⟩
  · have z9 := HK.out.size
    have ge := HS2.out.own_ge
    exact (HS2.out.kp (((Kp.refl (fun b => b = W.heap.size + 1) w2).setCell (p := ⟨W.heap.size + 1, 0, none⟩) (.inl rfl) (.slice (some ⟨g2, 0, none⟩) n c2)).setCell (p := ⟨W.heap.size + 1, 1, none⟩) (.inl rfl) (.int .i64 k)) (fun g h1 h2 => by have := (ge g h1).1; have h3 : W.heap.size + 2 ≤ w1.heap.size := WZ.out; have h4 : g = W.heap.size + 1 := h2; simp at this; omega)).from (by simpa using z9)
  · exact (HK2.out.setCell (.inr (by show W.heap.size ≤ W.heap.size + 1; omega)) _).setCell (.inr (by show W.heap.size ≤ W.heap.size + 1; omega)) _
end Go.Proofs.Ytaejlhdbdjfccaa
