/- Rounds that are looked for: a round's methods (has, turnOf, at), the first round with a property (findRound); no condition but that the numbers are in the chapter's range. -/
import Derived.Test.YteodhoekkeelcaaColl
import Derived.Test.YteodhoekkeelcaaMany
import Derived.Test.YteodhoekkeelcaaSizes
namespace Go.Proofs.Yteodhoekkeelcaa
open Go.ChangeShapes Go.WideShapes Go.ChangeAt Go.RowKit Go.IntWalk

set_option maxRecDepth 100000 in
set_option maxHeartbeats 1600000 in
theorem has_any (x : Rnd) (k : Nat) (w : World) (hg : 1 ≤ x.g) (hg2 : x.g ≤ 4000000000000) (hk : k ≤ 1000000000000) :
    Calls Try.prog 37 #[rndV x, .int .i64 k] w fun e w' => e = .returned (.bool (decide (k % x.g = x.f))) ∧ Kp Nw w w' := by
  obtain ⟨f, g, s, b⟩ := x
  simp only at hg hg2 ⊢
  unfold rndV rndC
  have m1 : ((k : Int)).tmod (g : Int) = ((k % g : Nat) : Int) := by rw [Int.tmod_eq_emod_of_nonneg (by omega)]; simp
  have m2 : k % g < g := Nat.mod_lt _ (by omega)
  obtain ⟨r, hr⟩ : ∃ r, k % g = r := ⟨_, rfl⟩
  rw [hr] at m1 m2
  have m3 : IntKind.i64.wrap (r : Int) = r := i64_in _ (by omega)
  have g0 : (g : Int) ≠ 0 := by omega
  have g1 : ¬ (g : Int) = 0 := by omega
  have g2 : ((g : Int) == 0) = false := by simp; omega
  rw [hr]
  clear hr
  go_enter Try.func37, Try.ntmps37
  go_wp2
  go_quiet (fail)
  go_wp2
  go_ret
  exact ⟨ret_bool (by rw [Bool.eq_iff_iff]; simp; omega), (Kp.al _ _).drewN _⟩

set_option maxRecDepth 100000 in
set_option maxHeartbeats 1600000 in
theorem turnOf_any (x : Rnd) (k : Nat) (w : World) (hg : 1 ≤ x.g) (hf : x.f ≤ k) (hb : x.b ≤ 1000000000000) (hk : k ≤ 1000000000000) :
    Calls Try.prog 38 #[rndV x, .int .i64 k] w fun e w' => e = .returned (.int .i64 (x.b + (k - x.f) / x.g : Nat)) ∧ Kp Nw w w' := by
  obtain ⟨f, g, s, b⟩ := x
  simp only at hg hf hb ⊢
  unfold rndV rndC
  obtain ⟨d, hd⟩ : ∃ d, k = f + d := ⟨k - f, by omega⟩
  have e0 : (k : Int) - f = d := by omega
  have m0 : IntKind.i64.wrap ((k : Int) - f) = (k : Int) - f := i64_in _ (by omega)
  have q2 : d / g ≤ d := Nat.div_le_self _ _
  have m1 : ((k : Int) - f).tdiv (g : Int) = ((d / g : Nat) : Int) := by rw [e0, Int.tdiv_eq_ediv_of_nonneg (by omega)]; simp
  have HD : Hid (k - f = d) := Lib.hid (by omega)
  rw [HD.out]
  obtain ⟨r, hr⟩ : ∃ r, d / g = r := ⟨_, rfl⟩
  rw [hr] at m1 q2 ⊢
  have hdk : d ≤ k := by omega
  have m3 : IntKind.i64.wrap (r : Int) = r := i64_in _ (by omega)
  have m4 : IntKind.i64.wrap ((b : Int) + r) = (b : Int) + r := i64_in _ (by omega)
  have g0 : (g : Int) ≠ 0 := by omega
  have g1 : ¬ (g : Int) = 0 := by omega
  have g2 : ((g : Int) == 0) = false := by simp; omega
  clear hr hd e0
  go_enter Try.func38, Try.ntmps38
  go_wp2
  go_quiet (fail)
  go_wp2
  go_ret
  exact ⟨ret_int (by omega), (Kp.al _ _).drewN _⟩

set_option maxRecDepth 100000 in
set_option maxHeartbeats 1600000 in
theorem at_any (x : Rnd) (k d y : Nat) (w : World) (hd : k = x.b + d) (hy : y = d * x.g) (hy2 : y ≤ 1000000000000) (hf : x.f ≤ 4000000000000) (hk : k ≤ 1000000000000) :
    Calls Try.prog 41 #[rndV x, .int .i64 k] w fun e w' => e = .returned (.int .i64 (x.f + y : Nat)) ∧ Kp Nw w w' := by
  obtain ⟨f, g, s, b⟩ := x
  simp only at hd hy hf ⊢
  unfold rndV rndC
  have e0 : (k : Int) - b = d := by omega
  have e1 : (d : Int) * g = y := by rw [hy]; simp
  have m0 : IntKind.i64.wrap ((k : Int) - b) = d := by rw [e0]; exact i64_in _ (by omega)
  have m1 : IntKind.i64.wrap ((d : Int) * g) = y := by rw [e1]; exact i64_in _ (by omega)
  have HE1 := Lib.hid e1
  clear e1 hy hd
  go_enter Try.func41, Try.ntmps41
  go_wp2
  go_ret
  exact ⟨ret_int (by omega), Kp.al _ _⟩

/-- the place of the first round with a property -/
structure First (P : Rnd → Bool) (xs : List Rnd) (i : Nat) (x : Rnd) : Prop where
  get : xs[i]? = some x
  yes : P x = true
  no : ∀ j y, j < i → xs[j]? = some y → P y = false
theorem row_cells {w : World} {base G n cap : Nat} {xs : List Rnd} (h : w.ownsRow base 40 4 (.slice (some ⟨G, 0, none⟩) n cap) n (rcells xs)) (j : Nat) (x : Rnd) (hx : xs[j]? = some x) :
    w.cell? ⟨G, j * 4, none⟩ = some (.int .i64 x.f) ∧ w.cell? ⟨G, j * 4 + 1, none⟩ = some (.int .i64 x.g) ∧ w.cell? ⟨G, j * 4 + 2, none⟩ = some (.int .i64 x.s) ∧ w.cell? ⟨G, j * 4 + 3, none⟩ = some (.int .i64 x.b) := by
  have key : ∀ (ys : List Rnd) (j : Nat), ys[j]? = some x → ∀ t, t < 4 → (rcells ys)[j * 4 + t]? = (rndC x).toList[t]? := by
    intro ys
    induction ys with
    | nil => intro j hj; simp at hj
    | cons y r ih =>
      intro j hj t ht
      have e : rcells (y :: r) = (rndC y).toList ++ rcells r := by simp [rcells]
      have l4 : (rndC y).toList.length = 4 := rfl
      rw [e]
      cases j with
      | zero =>
        simp only [List.getElem?_cons_zero, Option.some.injEq] at hj
        subst hj
        rw [List.getElem?_append_left (by rw [l4]; omega), Nat.zero_mul, Nat.zero_add]
      | succ j =>
        rw [List.getElem?_append_right (by rw [l4]; omega), l4, show (j + 1) * 4 + t - 4 = j * 4 + t by omega]
        exact ih j (by simpa using hj) t ht
  have c := fun t (ht : t < 4) u (hu : (rndC x).toList[t]? = some u) => h.cells (g := G) rfl (j * 4 + t) u ((key xs j hx t ht).trans hu)
  have c0 := c 0 (by omega) _ rfl
  have c1 := c 1 (by omega) _ rfl
  have c2 := c 2 (by omega) _ rfl
  have c3 := c 3 (by omega) _ rfl
  rw [addr_at] at c0 c1 c2 c3
  exact ⟨c0, c1, c2, c3⟩
/-- a block of one round -/
def Bk4 (w : World) (b : Nat) (cs : Array Value) : Prop := w.heap[b]? = some (.cells cs 40 (0, 0))
theorem Bk4.set {w : World} {b : Nat} {cs : Array Value} (h : Bk4 w b cs) (j : Nat) (u : Value) : Bk4 (w.setCell ⟨b, j, none⟩ u) b (cs.setIfInBounds j u) := heap_setCell_same w b j cs _ u h
theorem Bk4.cell {w : World} {b : Nat} {cs : Array Value} (h : Bk4 w b cs) (j : Nat) : w.cell? ⟨b, j, none⟩ = cs[j]? := cell_of_row w b j cs _ (0, 0) h
theorem Bk4.frozen {w : World} {b : Nat} {cs : Array Value} (h : Bk4 w b cs) (j : Nat) : w.frozen? ⟨b, j, none⟩ = false := by simp [World.frozen?, show w.heap[b]? = _ from h]
theorem Bk4.nw {w w' : World} {b : Nat} {cs : Array Value} (h : Bk4 w b cs) (hk : Kp Nw w w') : Bk4 w' b cs := (hk.block b (Array.getElem?_eq_some_iff.1 h).1 (fun h => h)).trans h

/-- the person goes in this round; the turn is told by this round's end -/
def hasB (k : Nat) (x : Rnd) : Bool := decide (k % x.g = x.f)
def ltB (k : Nat) (x : Rnd) : Bool := decide (k < x.b + x.s)

set_option maxRecDepth 100000 in
set_option maxHeartbeats 1600000 in
theorem tt_any (x : Rnd) (k b : Nat) (w : World) (hc : w.cell? ⟨b, 0, none⟩ = some (.int .i64 k)) (hk : k ≤ 1000000000000) (hx : 1 ≤ x.g ∧ x.g ≤ 4000000000000) :
    Calls Try.prog 36 #[rndV x, .pointer (some ⟨b, 0, none⟩)] w fun e w' => e = .returned (.bool (hasB k x)) ∧ Kp Nw w w' := by
  unfold hasB
  obtain ⟨f, g, s, b'⟩ := x
  simp only at hx ⊢
  have HH := fun w => Lib.hid (has_any ⟨f, g, s, b'⟩ k w hx.1 hx.2 hk)
  unfold rndV rndC at HH ⊢
  simp only at HH
  obtain ⟨r, hr⟩ : ∃ r, decide (k % g = f) = r := ⟨_, rfl⟩
  rw [hr] at HH ⊢
  have HC := Lib.hid hc
  clear hr hx
  go_enter Try.func36, Try.ntmps36
  have c0 := keepc (Kp.al w (.cells #[.int .i64 (f : Int), .int .i64 (g : Int), .int .i64 (s : Int), .int .i64 (b' : Int)] 40)) HC.out (fun h => h)
  clear hc
  go_wp2_with fail
  refine (HH _).out.mono ?_
  rintro e w1 ⟨rfl, hk1⟩
  have HK1 := Lib.hid hk1
  clear hk1
  go_wp2
  go_ret
  exact ⟨rfl, (Kp.al _ _).nw HK1.out⟩

set_option maxRecDepth 100000 in
set_option maxHeartbeats 1600000 in
theorem tt_index (base G n cap i k b : Nat) (xs : List Rnd) (x : Rnd) (W : World) (hr : W.ownsRow base 40 4 (.slice (some ⟨G, 0, none⟩) n cap) n (rcells xs)) (hn : xs.length = n) (hn2 : n ≤ 1000) (hc : W.cell? ⟨b, 0, none⟩ = some (.int .i64 k)) (hk : k ≤ 1000000000000)
    (hall : ∀ x ∈ xs, 1 ≤ x.g ∧ x.g ≤ 4000000000000 ∧ x.b ≤ 1000000000000 ∧ x.s ≤ 1000000000000) (hf : First (hasB k) xs i x) :
    Calls Try.prog 47 #[.slice (some ⟨G, 0, none⟩) n cap, .func (.func 36) #[] #[.pointer (some ⟨b, 0, none⟩)]] W fun e w' => e = .returned (.int .i64 i) ∧ Kp Nw W w' := by
  have hi : i < n := by rw [← hn]; exact (List.getElem?_eq_some_iff.1 hf.get).1
  have HR := Lib.hid hr
  have HN := Lib.hid hn
  have HA := Lib.hid hall
  have HF := Lib.hid hf
  have HC := Lib.hid hc
  clear hr hn hall hf hc
  go_enter Try.func47, Try.ntmps47
  go_wp2
  go_loopw [5, 8] (fun _ v wr => ∃ j : Nat, j ≤ i ∧ v = .int .i64 j ∧ Kp Nw W wr) (fun _ v _ => i + 1 - (intOf v).toNat)
  case atStart => exact ⟨0, Nat.zero_le _, rfl, Kp.refl _ _⟩
  case round =>
    obtain ⟨j, hj, rfl, hkk⟩ := hrel
    have hjn : j < xs.length := by rw [HN.out]; omega
    obtain ⟨y, hy⟩ : ∃ y, xs[j]? = some y := ⟨xs[j], List.getElem?_eq_getElem hjn⟩
    obtain ⟨d0, d1, d2, d3⟩ := row_cells HR.out j y hy
    have c0 := keepc hkk d0 (fun h => h)
    have c1 := keepc hkk d1 (fun h => h)
    have c2 := keepc hkk d2 (fun h => h)
    have c3 := keepc hkk d3 (fun h => h)
    have HY := Lib.hid hy
    have HK := Lib.hid hkk
    have HM := Lib.hid (HA.out y (List.mem_of_getElem? hy))
    have j0 : (0 : Int) ≤ j := Int.natCast_nonneg _
    have j1 : (j : Int) < n := by omega
    clear hkk hjn hy d0 d1 d2 d3
    by_cases e : j < i
    · have HB := Lib.hid (HF.out.no j y e HY.out)
      have CC := Lib.hid (tt_any y k b _ (keepc HK.out HC.out (fun h => h)) hk (by first | exact ⟨HM.out.1, HM.out.2.1⟩ | exact ⟨HM.out.2.2.1, HM.out.2.2.2⟩))
      rw [HB.out] at CC
      unfold rndV rndC at CC
      go_wp2_with fail
      refine CC.out.mono ?_
      rintro e w1 ⟨rfl, hk1⟩
      have HK1 := Lib.hid hk1
      clear hk1 c1 c2
      go_wp2
      go_roundw
      case rel => exact ⟨j + 1, by omega, by go_num, HK.out.nw HK1.out⟩
      case measure => simp [intOf]; omega
    · have ej : j = i := by omega
      subst ej
      have exy : y = x := by
        have := HY.out.symm.trans HF.out.get
        injection this
      subst exy
      have HB := Lib.hid HF.out.yes
      have CC := Lib.hid (tt_any y k b _ (keepc HK.out HC.out (fun h => h)) hk (by first | exact ⟨HM.out.1, HM.out.2.1⟩ | exact ⟨HM.out.2.2.1, HM.out.2.2.2⟩))
      rw [HB.out] at CC
      unfold rndV rndC at CC
      go_wp2_with fail
      refine CC.out.mono ?_
      rintro e w1 ⟨rfl, hk1⟩
      have HK1 := Lib.hid hk1
      clear hk1 c1 c2
      go_wp2
      go_ret
      exact ⟨rfl, HK.out.nw HK1.out⟩

set_option maxRecDepth 100000 in
set_option maxHeartbeats 1600000 in
theorem tr_any (x : Rnd) (k b : Nat) (w : World) (hc : w.cell? ⟨b, 0, none⟩ = some (.int .i64 k)) (hk : k ≤ 1000000000000) (hx : 1 ≤ x.g ∧ x.g ≤ 4000000000000) :
    Calls Try.prog 42 #[rndV x, .pointer (some ⟨b, 0, none⟩)] w fun e w' => e = .returned (.bool (hasB k x)) ∧ Kp Nw w w' := by
  unfold hasB
  obtain ⟨f, g, s, b'⟩ := x
  simp only at hx ⊢
  have HH := fun w => Lib.hid (has_any ⟨f, g, s, b'⟩ k w hx.1 hx.2 hk)
  unfold rndV rndC at HH ⊢
  simp only at HH
  obtain ⟨r, hr⟩ : ∃ r, decide (k % g = f) = r := ⟨_, rfl⟩
  rw [hr] at HH ⊢
  have HC := Lib.hid hc
  clear hr hx
  go_enter Try.func42, Try.ntmps42
  have c0 := keepc (Kp.al w (.cells #[.int .i64 (f : Int), .int .i64 (g : Int), .int .i64 (s : Int), .int .i64 (b' : Int)] 40)) HC.out (fun h => h)
  clear hc
  go_wp2_with fail
  refine (HH _).out.mono ?_
  rintro e w1 ⟨rfl, hk1⟩
  have HK1 := Lib.hid hk1
  clear hk1
  go_wp2
  go_ret
  exact ⟨rfl, (Kp.al _ _).nw HK1.out⟩

set_option maxRecDepth 100000 in
set_option maxHeartbeats 1600000 in
theorem tr_index (base G n cap i k b : Nat) (xs : List Rnd) (x : Rnd) (W : World) (hr : W.ownsRow base 40 4 (.slice (some ⟨G, 0, none⟩) n cap) n (rcells xs)) (hn : xs.length = n) (hn2 : n ≤ 1000) (hc : W.cell? ⟨b, 0, none⟩ = some (.int .i64 k)) (hk : k ≤ 1000000000000)
    (hall : ∀ x ∈ xs, 1 ≤ x.g ∧ x.g ≤ 4000000000000 ∧ x.b ≤ 1000000000000 ∧ x.s ≤ 1000000000000) (hf : First (hasB k) xs i x) :
    Calls Try.prog 47 #[.slice (some ⟨G, 0, none⟩) n cap, .func (.func 42) #[] #[.pointer (some ⟨b, 0, none⟩)]] W fun e w' => e = .returned (.int .i64 i) ∧ Kp Nw W w' := by
  have hi : i < n := by rw [← hn]; exact (List.getElem?_eq_some_iff.1 hf.get).1
  have HR := Lib.hid hr
  have HN := Lib.hid hn
  have HA := Lib.hid hall
  have HF := Lib.hid hf
  have HC := Lib.hid hc
  clear hr hn hall hf hc
  go_enter Try.func47, Try.ntmps47
  go_wp2
  go_loopw [5, 8] (fun _ v wr => ∃ j : Nat, j ≤ i ∧ v = .int .i64 j ∧ Kp Nw W wr) (fun _ v _ => i + 1 - (intOf v).toNat)
  case atStart => exact ⟨0, Nat.zero_le _, rfl, Kp.refl _ _⟩
  case round =>
    obtain ⟨j, hj, rfl, hkk⟩ := hrel
    have hjn : j < xs.length := by rw [HN.out]; omega
    obtain ⟨y, hy⟩ : ∃ y, xs[j]? = some y := ⟨xs[j], List.getElem?_eq_getElem hjn⟩
    obtain ⟨d0, d1, d2, d3⟩ := row_cells HR.out j y hy
    have c0 := keepc hkk d0 (fun h => h)
    have c1 := keepc hkk d1 (fun h => h)
    have c2 := keepc hkk d2 (fun h => h)
    have c3 := keepc hkk d3 (fun h => h)
    have HY := Lib.hid hy
    have HK := Lib.hid hkk
    have HM := Lib.hid (HA.out y (List.mem_of_getElem? hy))
    have j0 : (0 : Int) ≤ j := Int.natCast_nonneg _
    have j1 : (j : Int) < n := by omega
    clear hkk hjn hy d0 d1 d2 d3
    by_cases e : j < i
    · have HB := Lib.hid (HF.out.no j y e HY.out)
      have CC := Lib.hid (tr_any y k b _ (keepc HK.out HC.out (fun h => h)) hk (by first | exact ⟨HM.out.1, HM.out.2.1⟩ | exact ⟨HM.out.2.2.1, HM.out.2.2.2⟩))
      rw [HB.out] at CC
      unfold rndV rndC at CC
      go_wp2_with fail
      refine CC.out.mono ?_
      rintro e w1 ⟨rfl, hk1⟩
      have HK1 := Lib.hid hk1
      clear hk1 c1 c2
      go_wp2
      go_roundw
      case rel => exact ⟨j + 1, by omega, by go_num, HK.out.nw HK1.out⟩
      case measure => simp [intOf]; omega
    · have ej : j = i := by omega
      subst ej
      have exy : y = x := by
        have := HY.out.symm.trans HF.out.get
        injection this
      subst exy
      have HB := Lib.hid HF.out.yes
      have CC := Lib.hid (tr_any y k b _ (keepc HK.out HC.out (fun h => h)) hk (by first | exact ⟨HM.out.1, HM.out.2.1⟩ | exact ⟨HM.out.2.2.1, HM.out.2.2.2⟩))
      rw [HB.out] at CC
      unfold rndV rndC at CC
      go_wp2_with fail
      refine CC.out.mono ?_
      rintro e w1 ⟨rfl, hk1⟩
      have HK1 := Lib.hid hk1
      clear hk1 c1 c2
      go_wp2
      go_ret
      exact ⟨rfl, HK.out.nw HK1.out⟩

set_option maxRecDepth 100000 in
set_option maxHeartbeats 1600000 in
theorem ta_any (x : Rnd) (k b : Nat) (w : World) (hc : w.cell? ⟨b, 0, none⟩ = some (.int .i64 k)) (_hk : k ≤ 1000000000000) (hx : x.b ≤ 1000000000000 ∧ x.s ≤ 1000000000000) :
    Calls Try.prog 40 #[rndV x, .pointer (some ⟨b, 0, none⟩)] w fun e w' => e = .returned (.bool (ltB k x)) ∧ Kp Nw w w' := by
  unfold ltB
  obtain ⟨f, g, s, b'⟩ := x
  simp only at hx ⊢
  obtain ⟨h1, h2⟩ := hx
  unfold rndV rndC
  have HC := Lib.hid hc
  clear hc
  go_enter Try.func40, Try.ntmps40
  have c0 := keepc (Kp.al w (.cells #[.int .i64 (f : Int), .int .i64 (g : Int), .int .i64 (s : Int), .int .i64 (b' : Int)] 40)) HC.out (fun h => h)
  go_wp2
  go_ret
  exact ⟨ret_bool (by rw [Bool.eq_iff_iff]; simp; omega), Kp.al _ _⟩

set_option maxRecDepth 100000 in
set_option maxHeartbeats 1600000 in
theorem ta_index (base G n cap i k b : Nat) (xs : List Rnd) (x : Rnd) (W : World) (hr : W.ownsRow base 40 4 (.slice (some ⟨G, 0, none⟩) n cap) n (rcells xs)) (hn : xs.length = n) (hn2 : n ≤ 1000) (hc : W.cell? ⟨b, 0, none⟩ = some (.int .i64 k)) (hk : k ≤ 1000000000000)
    (hall : ∀ x ∈ xs, 1 ≤ x.g ∧ x.g ≤ 4000000000000 ∧ x.b ≤ 1000000000000 ∧ x.s ≤ 1000000000000) (hf : First (ltB k) xs i x) :
    Calls Try.prog 47 #[.slice (some ⟨G, 0, none⟩) n cap, .func (.func 40) #[] #[.pointer (some ⟨b, 0, none⟩)]] W fun e w' => e = .returned (.int .i64 i) ∧ Kp Nw W w' := by
  have hi : i < n := by rw [← hn]; exact (List.getElem?_eq_some_iff.1 hf.get).1
  have HR := Lib.hid hr
  have HN := Lib.hid hn
  have HA := Lib.hid hall
  have HF := Lib.hid hf
  have HC := Lib.hid hc
  clear hr hn hall hf hc
  go_enter Try.func47, Try.ntmps47
  go_wp2
  go_loopw [5, 8] (fun _ v wr => ∃ j : Nat, j ≤ i ∧ v = .int .i64 j ∧ Kp Nw W wr) (fun _ v _ => i + 1 - (intOf v).toNat)
  case atStart => exact ⟨0, Nat.zero_le _, rfl, Kp.refl _ _⟩
  case round =>
    obtain ⟨j, hj, rfl, hkk⟩ := hrel
    have hjn : j < xs.length := by rw [HN.out]; omega
    obtain ⟨y, hy⟩ : ∃ y, xs[j]? = some y := ⟨xs[j], List.getElem?_eq_getElem hjn⟩
    obtain ⟨d0, d1, d2, d3⟩ := row_cells HR.out j y hy
    have c0 := keepc hkk d0 (fun h => h)
    have c1 := keepc hkk d1 (fun h => h)
    have c2 := keepc hkk d2 (fun h => h)
    have c3 := keepc hkk d3 (fun h => h)
    have HY := Lib.hid hy
    have HK := Lib.hid hkk
    have HM := Lib.hid (HA.out y (List.mem_of_getElem? hy))
    have j0 : (0 : Int) ≤ j := Int.natCast_nonneg _
    have j1 : (j : Int) < n := by omega
    clear hkk hjn hy d0 d1 d2 d3
    by_cases e : j < i
    · have HB := Lib.hid (HF.out.no j y e HY.out)
      have CC := Lib.hid (ta_any y k b _ (keepc HK.out HC.out (fun h => h)) hk (by first | exact ⟨HM.out.1, HM.out.2.1⟩ | exact ⟨HM.out.2.2.1, HM.out.2.2.2⟩))
      rw [HB.out] at CC
      unfold rndV rndC at CC
      go_wp2_with fail
      refine CC.out.mono ?_
      rintro e w1 ⟨rfl, hk1⟩
      have HK1 := Lib.hid hk1
      clear hk1 c1 c2
      go_wp2
      go_roundw
      case rel => exact ⟨j + 1, by omega, by go_num, HK.out.nw HK1.out⟩
      case measure => simp [intOf]; omega
    · have ej : j = i := by omega
      subst ej
      have exy : y = x := by
        have := HY.out.symm.trans HF.out.get
        injection this
      subst exy
      have HB := Lib.hid HF.out.yes
      have CC := Lib.hid (ta_any y k b _ (keepc HK.out HC.out (fun h => h)) hk (by first | exact ⟨HM.out.1, HM.out.2.1⟩ | exact ⟨HM.out.2.2.1, HM.out.2.2.2⟩))
      rw [HB.out] at CC
      unfold rndV rndC at CC
      go_wp2_with fail
      refine CC.out.mono ?_
      rintro e w1 ⟨rfl, hk1⟩
      have HK1 := Lib.hid hk1
      clear hk1 c1 c2
      go_wp2
      go_ret
      exact ⟨rfl, HK.out.nw HK1.out⟩
end Go.Proofs.Yteodhoekkeelcaa
