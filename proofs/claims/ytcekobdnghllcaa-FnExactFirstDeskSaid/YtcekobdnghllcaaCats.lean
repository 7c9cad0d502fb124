/- Cats: the laws' helpers on them (equal, mark, held, size, copy), cats that come in, opened, and whether there are cats, in the program and in its model; no condition but that the slices' cells are there. -/
import Derived.Test.YtcekobdnghllcaaGoodS
import Derived.Test.YtcekobdnghllcaaRingFn
import Derived.Test.YtcekobdnghllcaaOpen
namespace Go.Proofs.Ytcekobdnghllcaa
open Go.ChangeShapes Go.WideShapes Go.ChangeAt Go.RowKit Go.Joins

set_option maxHeartbeats 400000 in
theorem eqCats_same (A A' : Option Addr) (n c c' : Nat) (k : Int) (xs : List Int) (W : World) (hu : Rd W (.slice A n c) xs) (hv : Rd W (.slice A' n c') xs) (hl : xs.length ≤ maxLen) :
    Calls Try.prog 17 #[.agg #[.slice A n c, .int .i64 k], .agg #[.slice A' n c', .int .i64 k]] W fun e w' => e = .returned (.bool true) ∧ Kp Nw W w' := by
  have hu2 := Lib.hid (fun o o' => hu.nw (((Kp.refl Nw W).alloc o).alloc o'))
  have hv2 := Lib.hid (fun o o' => hv.nw (((Kp.refl Nw W).alloc o).alloc o'))
  clear hu hv
  go_enter Try.func17, Try.ntmps17
  go_wp2_with fail
  refine (eqIntS_same _ _ xs _ (hu2.out _ _) (hv2.out _ _) hl).mono ?_
  rintro e w' ⟨rfl, m, rfl⟩
  go_wp2
  go_ret
  exact ⟨rfl, (((Kp.refl Nw W).alloc _).alloc _).drewN _⟩

set_option maxHeartbeats 400000 in
theorem markCats_any (A : Option Addr) (n c : Nat) (k s : Int) (xs : List Int) (W : World) (B : Nat) (hu : Sl W B (.slice A n c) xs) (hn : xs.length = n) (h0 : 0 ≤ k) (h1 : k ≤ 1000000000) (hl : xs.length ≤ 1000000000) :
    Calls Try.prog 19 #[.agg #[.slice A n c, .int .i64 s], .int .i64 k] W fun e w' => e = .returned (.int .i64 (k + n)) ∧ Sl w' B (.slice A n c) (marks k n) ∧ Kp (fun g => (Value.slice A n c).ownBlock = some g) W w' := by
  have hu2 := Lib.hid (fun o => hu.kp ((Kp.refl Nw W).alloc o) (fun _ _ hs => hs))
  subst hn
  clear hu
  go_enter Try.func19, Try.ntmps19
  go_wp2_with fail
  refine (markIntS_any _ xs k _ B (hu2.out _) h0 h1 hl).mono ?_
  rintro e w' ⟨rfl, hs, hk⟩
  have HS := Lib.hid hs
  have HK := Lib.hid hk
  clear hs hk
  go_wp2
  go_ret
  exact ⟨rfl, HS.out, ((Kp.refl _ W).alloc _).trans HK.out⟩

set_option maxHeartbeats 400000 in
theorem heldCats_any (A : Option Addr) (n c : Nat) (k s : Int) (W : World) (hu : Rd W (.slice A n c) (marks k n)) (h0 : 0 ≤ k) (h1 : k ≤ 1000000000) (hl : n ≤ 1000000000) :
    Calls Try.prog 21 #[.agg #[.slice A n c, .int .i64 s], .int .i64 k] W fun e w' => e = .returned (.int .i64 (k + n)) ∧ Kp Nw W w' := by
  have hu2 := Lib.hid (fun o => hu.nw ((Kp.refl Nw W).alloc o))
  have h2 : (0 : Int) ≤ n := Int.natCast_nonneg _
  clear hu
  go_enter Try.func21, Try.ntmps21
  go_wp2_with fail
  refine (heldIntS_any _ k n _ (hu2.out _) h0 h1 hl).mono ?_
  rintro e w' ⟨rfl, rfl⟩
  go_wp2
  go_ret
  exact ⟨rfl, (Kp.refl _ W).alloc _⟩

theorem szCats_small (A : Option Addr) (n c : Nat) (k : Int) (W : World) (h : n ≤ 1048576) :
    Calls Try.prog 23 #[.agg #[.slice A n c, .int .i64 k], .int .i64 1048576] W fun e w' => e = .returned (.int .i64 (1048576 - (n : Int))) ∧ Kp Nw W w' := by
  have h1 : (0 : Int) ≤ 1048576 - (n : Int) := by omega
  go_enter Try.func23, Try.ntmps23
  go_wp2_with fail
  refine (szIntS_any A n c _ (by unfold maxLen; omega)).mono ?_
  rintro e w' ⟨rfl, rfl⟩
  rw [if_pos h]
  go_wp2
  go_ret
  exact ⟨rfl, Kp.al _ _⟩

theorem szCats_large (A : Option Addr) (n c : Nat) (k : Int) (W : World) (hn : n ≤ maxLen) (h : 1048576 < n) :
    Calls Try.prog 23 #[.agg #[.slice A n c, .int .i64 k], .int .i64 1048576] W fun e w' => e = .returned (.int .i64 (-1)) ∧ Kp Nw W w' := by
  go_enter Try.func23, Try.ntmps23
  go_wp2_with fail
  refine (szIntS_any A n c _ hn).mono ?_
  rintro e w' ⟨rfl, rfl⟩
  rw [if_neg (by omega)]
  go_wp2
  go_ret
  exact ⟨rfl, Kp.al _ _⟩

set_option maxHeartbeats 800000 in
theorem toCats_any (A : Option Addr) (n c : Nat) (k : Int) (xs : List Int) (W : World) (hu : Rd W (.slice A n c) xs) (hn : xs.length = n) (hl : n ≤ 1048576) :
    Calls Try.prog 26 #[.agg #[.slice A n c, .int .i64 k]] W (CopyRes W n xs k) := by
  have HU := Lib.hid hu
  have HN := Lib.hid hn
  clear hu hn
  go_enter Try.func26, Try.ntmps26
  go_wp2_with fail
  refine (toIntS_any _ n xs _ (((HU.out.nw (.al _ _)).nw (.al _ _)).nw (.al _ _)) HN.out hl).mono ?_
  rintro e w1 ⟨g, rfl, hs, hk, hg1, hg2⟩
  obtain ⟨a0, a1, a2, a3⟩ := (((Own2.new W (.slice A n c) (.int .i64 k) 34).kp (.al _ (.cells #[.slice none 0 0, .int .i64 0] 26)) (fun h => h)).kp (.al _ (.cells #[.slice none 0 0, .int .i64 0] 26)) (fun h => h)).kp hk (fun h => h)
  obtain ⟨r0, r1, r2, r3⟩ := ((Own2.new (W.alloc (.cells #[.slice A n c, .int .i64 k] 34)) (.slice none 0 0) (.int .i64 0) 26).kp (.al _ (.cells #[.slice none 0 0, .int .i64 0] 26)) (fun h => h)).kp hk (fun h => h)
  obtain ⟨o0, o1, o2, o3⟩ := (Own2.new ((W.alloc (.cells #[.slice A n c, .int .i64 k] 34)).alloc (.cells #[.slice none 0 0, .int .i64 0] 26)) (.slice none 0 0) (.int .i64 0) 26).kp hk (fun h => h)
  simp only [World.size_alloc] at r0 r1 r2 r3 o0 o1 o2 o3 hg1
  obtain ⟨z0, z1⟩ := two_set _ (W.heap.size + 1) (.slice (some ⟨g, 0, none⟩) n n) (.int .i64 k) _ _
    (keeps _ _ ⟨W.heap.size + 1 + 1, 1, none⟩ (.int .i64 k) _ (keeps _ _ ⟨W.heap.size + 1 + 1, 0, none⟩ (.slice (some ⟨g, 0, none⟩) n n) _ r0 (by simp)) (by simp))
    (keeps _ _ ⟨W.heap.size + 1 + 1, 1, none⟩ (.int .i64 k) _ (keeps _ _ ⟨W.heap.size + 1 + 1, 0, none⟩ (.slice (some ⟨g, 0, none⟩) n n) _ r1 (by simp)) (by simp))
  have H := Lib.hid hs
  have HK := Lib.hid hk
  have k1 : Hid (Kp Nw W w1) := Lib.hid ((((Kp.al W _).nw (.al _ _)).nw (.al _ _)).nw hk)
  clear hs hk
  go_wp2
  refine bodyPost_ret (v := .agg #[.slice (some ⟨g, 0, none⟩) n n, .int .i64 k]) (by simp [results, Try.results26, go_sem, z0, z1]) rfl ⟨g, rfl, ?_, ?_, by omega, by simp [World.setCell]; omega⟩
  · have k2 : Kp (fun b => b = W.heap.size + 1 ∨ b = W.heap.size + 1 + 1) w1 w1 := Kp.refl _ _
    have h := H.out.sl.kp ((((k2.setCell (p := ⟨W.heap.size + 1 + 1, 0, none⟩) (.inl (.inr rfl)) (.slice (some ⟨g, 0, none⟩) n n)).setCell (p := ⟨W.heap.size + 1 + 1, 1, none⟩) (.inl (.inr rfl)) (.int .i64 k)).setCell (p := ⟨W.heap.size + 1, 0, none⟩) (.inl (.inl rfl)) (.slice (some ⟨g, 0, none⟩) n n)).setCell (p := ⟨W.heap.size + 1, 1, none⟩) (.inl (.inl rfl)) (.int .i64 k)) (fun g' hg' => by
      have e : g' = g := by simp [Value.ownBlock] at hg'; omega
      omega)
    exact ⟨H.out.1, by have h3 := (h.from (B' := W.heap.size) (by simp only [World.size_alloc]; omega)); unfold Sl at h3; rw [H.out.1] at h3; exact h3⟩
  · exact (((k1.out.setCell (.inr (by show W.heap.size ≤ W.heap.size + 1 + 1; omega)) _).setCell (.inr (by show W.heap.size ≤ W.heap.size + 1 + 1; omega)) _).setCell (.inr (by show W.heap.size ≤ W.heap.size + 1; omega)) _).setCell (.inr (by show W.heap.size ≤ W.heap.size + 1; omega)) _

theorem cellsCats : Try.prog.cellsOf 34 = 2 := by kernel_rfl

set_option maxRecDepth 100000 in
theorem open_cats {H : Type} {enc : TypeId × Value → H} {W : World} {base : Nat} {v : Value} {d : DataW H} {p : List MemPlace} (hv : Value.okWide Try.prog W .any base 34 v) (h : DataW.Trod enc Try.prog W 0 (fun _ => true) true 34 v d p) :
    ∃ (A : Option Addr) (n c : Nat) (k : Int) (xs : List Int), v = .agg #[.slice A n c, .int .i64 k] ∧ Rd W (.slice A n c) xs ∧ xs.length = n ∧ n ≤ maxLen := by
  obtain ⟨v0, v1, y0, y1, m, rfl, rfl, rfl, t0, t1⟩ := open_agg2 Try.underlying34 (by kernel_rfl) cellsCats hv h
  obtain ⟨k, hk, _, _⟩ := DataW.trod_int Try.underlying3 t1
  simp only [List.cons.injEq, and_true] at hk
  subst hk
  rcases open_ints Try.underlying22 Try.underlying3 cellsInt t0 with ⟨hcs, _⟩ | ⟨a, len, cap, zs, hcs, _, hl, hm, hz, _, hcell, _⟩
  · simp only [List.cons.injEq, and_true] at hcs
    subst hcs
    exact ⟨none, 0, 0, k, [], rfl, ⟨none, 0, rfl, fun j hj => by simp at hj⟩, rfl, Nat.zero_le _⟩
  · simp only [List.cons.injEq, and_true] at hcs
    subst hcs
    simp only [if_true] at hz
    have hlen : (zs.take len).length = len := by rw [List.length_take]; omega
    refine ⟨some a, len, cap, k, zs.take len, rfl, ⟨some a, cap, by rw [hlen], fun j hj => ?_⟩, hlen, by omega⟩
    rw [hlen] at hj
    have hc := hcell j (by omega)
    obtain ⟨b, off, spot⟩ := a
    have hspot : spot = none := by simpa [Addr.add] using World.cell?_spot (hcell 0 (by omega))
    subst hspot
    refine ⟨b, off, rfl, ?_⟩
    rw [← addr_add, hc]
    simp [List.getD, hj]

def CatsRes0 (W : World) (zs : List Int) (kk : Int) (b : Bool) (e : Ending) (w' : World) : Prop := ∃ v, e = .returned (.tuple #[.agg #[v, .int .i64 kk], .bool b]) ∧ Sl w' W.heap.size v zs ∧ Kp Nw W w'

/-- a number of lives that a cat may have -/
def lifeB (x : Int) : Bool := decide (1 ≤ x ∧ x ≤ 9)
/-- do lives and a step make cats? -/
def catB (xs : List Int) (k : Int) : Bool := decide (1 ≤ xs.length ∧ xs.length ≤ 40 ∧ 1 ≤ k ∧ k ≤ 1000000) && xs.all lifeB
theorem catB_parts {xs : List Int} {k : Int} (h : catB xs k = true) : 1 ≤ xs.length ∧ xs.length ≤ 40 ∧ 1 ≤ k ∧ k ≤ 1000000 ∧ xs.all lifeB = true := by
  unfold catB at h
  rw [Bool.and_eq_true, decide_eq_true_eq] at h
  exact ⟨h.1.1, h.1.2.1, h.1.2.2.1, h.1.2.2.2, h.2⟩
theorem catB_off {xs : List Int} {k : Int} (h : ¬ (1 ≤ xs.length ∧ xs.length ≤ 40 ∧ 1 ≤ k ∧ k ≤ 1000000)) : catB xs k = false := by
  unfold catB; rw [decide_eq_false h]; rfl
theorem catB_on {xs : List Int} {k : Int} (h : 1 ≤ xs.length ∧ xs.length ≤ 40 ∧ 1 ≤ k ∧ k ≤ 1000000) : catB xs k = xs.all lifeB := by
  unfold catB; rw [decide_eq_true h]; rfl
theorem lifeB_get {xs : List Int} (h : xs.all lifeB = true) (j : Nat) (hj : j < xs.length) : 1 ≤ xs.getD j 0 ∧ xs.getD j 0 ≤ 9 := by
  have := List.all_eq_true.1 h (xs[j]) (List.getElem_mem _)
  simp [lifeB] at this
  simpa [hj] using this

set_option maxHeartbeats 400000 in
theorem l1All_lives (v : Value) (xs : List Int) (W : World) (hv : Rd W v xs) (hl : xs.length ≤ 2000000) :
    Calls Try.prog 39 #[v, .int .i64 1, .int .i64 9] W fun e w' => e = .returned (.bool (xs.all lifeB)) ∧ W = w' := by
  obtain ⟨n, hn⟩ : ∃ n, xs.length = n := ⟨_, rfl⟩
  obtain ⟨A, c, rfl, hA⟩ := hv
  rw [hn] at hl ⊢
  have HN := Lib.hid hn
  have HA := Lib.hid hA
  clear hn hA
  go_enter Try.func39, Try.ntmps39
  go_wp2
  go_loop [8, 11] (fun _ i => ∃ j : Nat, j ≤ n ∧ i = .int .i64 j ∧ (xs.take j).all lifeB = true) (fun _ i => n - (intOf i).toNat)
  case atStart => exact ⟨0, Nat.zero_le _, rfl, by simp⟩
  case round =>
    obtain ⟨j, hj, rfl, hf⟩ := hrel
    have HF := Lib.hid hf
    clear hf
    by_cases hlt : j < n
    · obtain ⟨g, o, rfl, hc⟩ := HA.out j (by rw [HN.out]; exact hlt)
      have hl' : j < xs.length := by rw [HN.out]; exact hlt
      obtain ⟨y, hy⟩ : ∃ y, xs.getD j 0 = y := ⟨_, rfl⟩
      have hx : xs[j] = y := by rw [← hy]; simp [hl']
      rw [hy] at hc
      have HT : Hid ((xs.take (j + 1)).all lifeB = ((xs.take j).all lifeB && lifeB y)) := Lib.hid (by rw [List.take_succ_eq_append_getElem hl', List.all_append, hx]; simp)
      have HM : Hid (y ∈ xs) := Lib.hid (by rw [← hx]; exact List.getElem_mem _)
      have h2 : (0 : Int) ≤ j := Int.natCast_nonneg _
      have h3 : (j : Int) < n := by omega
      clear hy hx hl'
      by_cases e : 1 ≤ y ∧ y ≤ 9
      · obtain ⟨e1, e2⟩ := e
        have HY : Hid (lifeB y = true) := Lib.hid (decide_eq_true ⟨e1, e2⟩)
        go_wp2_with (first | ((with_reducible refine (l1In_yes _ _ _ _ e1 e2).mono ?_); rintro e w' ⟨rfl, rfl⟩))
        go_round
        case rel => exact ⟨j + 1, by omega, by go_num, by rw [HT.out, HF.out, HY.out]; rfl⟩
        case measure => simp [intOf]; omega
      · have e' : y < 1 ∨ 9 < y := by omega
        have HY : Hid (xs.all lifeB = false) := Lib.hid (by
          rw [List.all_eq_false]
          exact ⟨y, HM.out, by simp [lifeB]; omega⟩)
        go_wp2_with (first | ((with_reducible refine (l1In_no _ _ _ _ e').mono ?_); rintro e w' ⟨rfl, rfl⟩))
        go_ret
        exact ⟨ret_bool HY.out.symm, rfl⟩
    · have e : j = n := by omega
      subst e
      have HY : Hid (xs.all lifeB = true) := Lib.hid (by have := HF.out; rwa [List.take_of_length_le (by rw [HN.out]; exact Nat.le_refl _)] at this)
      go_wp2
      go_ret
      exact ⟨ret_bool HY.out.symm, rfl⟩

theorem l1All_las (v : Value) (xs : List Int) (b : Bool) (W : World) (hv : Rd W v xs) (hl : xs.length ≤ 2000000) (hb : xs.all lifeB = b) :
    Calls Try.prog 39 #[v, .int .i64 1, .int .i64 9] W fun e w' => e = .returned (.bool b) ∧ W = w' := by
  subst hb
  exact l1All_lives v xs W hv hl

set_option maxHeartbeats 1600000 in
theorem liGood_any (A : Option Addr) (cap n : Nat) (xs : List Int) (k : Int) (W : World) (hu : Rd W (.slice A n cap) xs) (hn' : xs.length = n) (hl : n ≤ 2000000) (b : Bool) (hb : b = catB xs k) :
    Calls Try.prog 34 #[.agg #[.slice A n cap, .int .i64 k]] W fun e w' => e = .returned (.bool b) ∧ Kp Nw W w' := by
  have HB := Lib.hid hb
  have HR := Lib.hid hu
  have HN := Lib.hid hn'
  have HLE : Hid (xs.length ≤ 2000000) := Lib.hid (by omega)
  clear hu hb hn'
  by_cases hn : (n : Int) < 1 ∨ 40 < (n : Int)
  · have HF : Hid (b = false) := Lib.hid (by rw [HB.out]; exact catB_off (fun h => by have := HN.out; omega))
    go_enter Try.func34, Try.ntmps34
    go_wp2_with (first | ((with_reducible refine (l1In_no (n : Int) _ _ _ hn).mono ?_); rintro e w' ⟨rfl, rfl⟩))
    go_ret
    exact ⟨ret_bool HF.out.symm, Kp.al _ _⟩
  · have n1 : 1 ≤ (n : Int) := by omega
    have n2 : (n : Int) ≤ 40 := by omega
    clear hn
    by_cases hok : xs.all lifeB = true
    · have HOK := Lib.hid hok
      clear hok
      by_cases hk : k < 1 ∨ 1000000 < k
      · have HF : Hid (b = false) := Lib.hid (by rw [HB.out]; exact catB_off (fun h => by omega))
        go_enter Try.func34, Try.ntmps34
        go_wp2_with (first | ((with_reducible refine (l1In_yes (n : Int) _ _ _ n1 n2).mono ?_); rintro e w' ⟨rfl, rfl⟩) | ((with_reducible refine (l1In_no k _ _ _ hk).mono ?_); rintro e w' ⟨rfl, rfl⟩) | ((with_reducible refine (l1All_las _ xs true _ (HR.out.nw (.al _ _)) HLE.out HOK.out).mono ?_); rintro e w' ⟨rfl, rfl⟩))
        go_ret
        exact ⟨ret_bool HF.out.symm, Kp.al _ _⟩
      · have k1 : 1 ≤ k := by omega
        have k2 : k ≤ 1000000 := by omega
        clear hk
        have HF : Hid (b = true) := Lib.hid (by rw [HB.out, catB_on (by have := HN.out; omega)]; exact HOK.out)
        go_enter Try.func34, Try.ntmps34
        go_wp2_with (first | ((with_reducible refine (l1In_yes (n : Int) _ _ _ n1 n2).mono ?_); rintro e w' ⟨rfl, rfl⟩) | ((with_reducible refine (l1In_yes k _ _ _ k1 k2).mono ?_); rintro e w' ⟨rfl, rfl⟩) | ((with_reducible refine (l1All_las _ xs true _ (HR.out.nw (.al _ _)) HLE.out HOK.out).mono ?_); rintro e w' ⟨rfl, rfl⟩))
        go_ret
        exact ⟨ret_bool HF.out.symm, Kp.al _ _⟩
    · have hok' : xs.all lifeB = false := by simpa using hok
      have HOK := Lib.hid hok'
      have HF : Hid (b = false) := Lib.hid (by rw [HB.out]; unfold catB; rw [hok']; simp)
      clear hok hok'
      go_enter Try.func34, Try.ntmps34
      go_wp2_with (first | ((with_reducible refine (l1In_yes (n : Int) _ _ _ n1 n2).mono ?_); rintro e w' ⟨rfl, rfl⟩) | ((with_reducible refine (l1All_las _ xs false _ (HR.out.nw (.al _ _)) HLE.out HOK.out).mono ?_); rintro e w' ⟨rfl, rfl⟩))
      go_ret
      exact ⟨ret_bool HF.out.symm, Kp.al _ _⟩

set_option maxHeartbeats 1600000 in
theorem iAreCats_any (A : Option Addr) (cap n : Nat) (xs : List Int) (k : Int) (W : World) (hu : Rd W (.slice A n cap) xs) (hn' : xs.length = n) (hl : n ≤ 2000000) (b : Bool) (hb : b = catB xs k) :
    Calls Try.prog 28 #[.agg #[.slice A n cap, .int .i64 k]] W fun e w' => e = .returned (.bool b) ∧ Kp Nw W w' := by
  have HB := Lib.hid hb
  have HR := Lib.hid hu
  have HN := Lib.hid hn'
  clear hu hb hn'
  by_cases hn : (n : Int) < 1 ∨ 40 < (n : Int)
  · have HF : Hid (b = false) := Lib.hid (by rw [HB.out]; exact catB_off (fun h => by have := HN.out; omega))
    go_enter Try.func28, Try.ntmps28
    go_wp2_with (first | ((with_reducible refine (within_no (n : Int) _ _ _ hn).mono ?_); rintro e w' ⟨rfl, rfl⟩))
    go_ret
    exact ⟨ret_bool HF.out.symm, Kp.al _ _⟩
  · have n1 : 1 ≤ (n : Int) := by omega
    have n2 : (n : Int) ≤ 40 := by omega
    clear hn
    by_cases hk : k < 1 ∨ 1000000 < k
    · have HF : Hid (b = false) := Lib.hid (by rw [HB.out]; exact catB_off (fun h => by omega))
      go_enter Try.func28, Try.ntmps28
      go_wp2_with (first | ((with_reducible refine (within_yes (n : Int) _ _ _ n1 n2).mono ?_); rintro e w' ⟨rfl, rfl⟩) | ((with_reducible refine (within_no k _ _ _ hk).mono ?_); rintro e w' ⟨rfl, rfl⟩))
      go_ret
      exact ⟨ret_bool HF.out.symm, Kp.al _ _⟩
    · have k1 : 1 ≤ k := by omega
      have k2 : k ≤ 1000000 := by omega
      clear hk
      have HG : Hid (b = xs.all lifeB) := Lib.hid (by rw [HB.out, catB_on (by have := HN.out; omega)])
      obtain ⟨A', c', hAc, hA⟩ := HR.out
      have eA : A = A' := by injection hAc
      subst eA
      have HA := Lib.hid hA
      clear hA hAc
      go_enter Try.func28, Try.ntmps28
      go_wp2_with (first | ((with_reducible refine (within_yes (n : Int) _ _ _ n1 n2).mono ?_); rintro e w' ⟨rfl, rfl⟩) | ((with_reducible refine (within_yes k _ _ _ k1 k2).mono ?_); rintro e w' ⟨rfl, rfl⟩))
      go_loop [4, 19] (fun _ i => ∃ j : Nat, j ≤ n ∧ i = .int .i64 j ∧ (xs.take j).all lifeB = true) (fun _ i => n - (intOf i).toNat)
      case atStart => exact ⟨0, Nat.zero_le _, rfl, by simp⟩
      case round =>
        obtain ⟨j, hj, rfl, hf⟩ := hrel
        have HF := Lib.hid hf
        clear hf
        by_cases hlt : j < n
        · obtain ⟨g, o, rfl, hc⟩ := HA.out j (by rw [HN.out]; exact hlt)
          have hl' : j < xs.length := by rw [HN.out]; exact hlt
          obtain ⟨y, hy⟩ : ∃ y, xs.getD j 0 = y := ⟨_, rfl⟩
          have hx : xs[j] = y := by rw [← hy]; simp [hl']
          rw [hy] at hc
          have hc2 := keepc (.al W (.cells #[.slice (some ⟨g, o, none⟩) n cap, .int .i64 k] 26)) hc (fun h => h)
          have HT : Hid ((xs.take (j + 1)).all lifeB = ((xs.take j).all lifeB && lifeB y)) := Lib.hid (by rw [List.take_succ_eq_append_getElem hl', List.all_append, hx]; simp)
          have HM : Hid (y ∈ xs) := Lib.hid (by rw [← hx]; exact List.getElem_mem _)
          have h2 : (0 : Int) ≤ j := Int.natCast_nonneg _
          have h3 : (j : Int) < n := by omega
          clear hy hx hl' hc
          by_cases e : 1 ≤ y ∧ y ≤ 9
          · obtain ⟨e1, e2⟩ := e
            have HY : Hid (lifeB y = true) := Lib.hid (decide_eq_true ⟨e1, e2⟩)
            go_wp2_with (first | ((with_reducible refine (within_yes y _ _ _ e1 e2).mono ?_); rintro e w' ⟨rfl, rfl⟩))
            go_round
            case rel => exact ⟨j + 1, by omega, by go_num, by rw [HT.out, HF.out, HY.out]; rfl⟩
            case measure => simp [intOf]; omega
          · have e' : y < 1 ∨ 9 < y := by omega
            have HY : Hid (b = false) := Lib.hid (by
              rw [HG.out, List.all_eq_false]
              exact ⟨y, HM.out, by simp [lifeB]; omega⟩)
            go_wp2_with (first | ((with_reducible refine (within_no y _ _ _ e').mono ?_); rintro e w' ⟨rfl, rfl⟩))
            go_ret
            exact ⟨ret_bool HY.out.symm, Kp.al _ _⟩
        · have e : j = n := by omega
          subst e
          have HY : Hid (b = true) := Lib.hid (by have := HF.out; rw [List.take_of_length_le (by rw [HN.out]; exact Nat.le_refl _)] at this; rw [HG.out]; exact this)
          go_wp2
          go_ret
          exact ⟨ret_bool HY.out.symm, Kp.al _ _⟩
end Go.Proofs.Ytcekobdnghllcaa
