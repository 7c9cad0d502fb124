/- The texts Deck, DeckF, as one. -/
import Derived.Test.YtpajmgonceepoacDoorGoodS
import Derived.Test.YtpajmgonceepoacDoorTurn
namespace Go.Proofs.YtpajmgonceepoacDoor
open Go.ChangeShapes Go.WideShapes Go.ChangeAt Go.RowKit

/-- a number in a range -/
def okR (lo hi x : Int) : Bool := decide (lo ≤ x ∧ x ≤ hi)
set_option maxHeartbeats 400000 in
theorem l1All_rng (lo hi : Int) (v : Value) (xs : List Int) (W : World) (hv : Rd W v xs) (hl : xs.length ≤ 2000000) :
    Calls Tryd.prog 17 #[v, .int .i64 lo, .int .i64 hi] W fun e w' => e = .returned (.bool (xs.all (okR lo hi))) ∧ W = w' := by
  obtain ⟨n, hn⟩ : ∃ n, xs.length = n := ⟨_, rfl⟩
  obtain ⟨A, c, rfl, hA⟩ := hv
  rw [hn] at hl ⊢
  have HN := Lib.hid hn
  have HA := Lib.hid hA
  clear hn hA
  go_enter Tryd.func17, Tryd.ntmps17
  go_wp2
  go_loop [8, 11] (fun _ i => ∃ j : Nat, j ≤ n ∧ i = .int .i64 j ∧ (xs.take j).all (okR lo hi) = true) (fun _ i => n - (intOf i).toNat)
  case atStart => exact ⟨0, Nat.zero_le _, rfl, by simp⟩
  case round =>
    obtain ⟨j, hj, rfl, hf⟩ := hrel
    have HF := Lib.hid hf
    clear hf
    by_cases hlt : j < n
    · obtain ⟨g, o, rfl, hc⟩ := HA.out j (by rw [HN.out]; exact hlt)
      have hl' : j < xs.length := by rw [HN.out]; exact hlt
      obtain ⟨y, hy⟩ : ∃ y, xs.getD j 0 = y := ⟨_, rfl⟩
      have hx : xs[j] = y := by rw [← hy]; simp [hl']
      rw [hy] at hc
      have HT : Hid ((xs.take (j + 1)).all (okR lo hi) = ((xs.take j).all (okR lo hi) && okR lo hi y)) := Lib.hid (by rw [List.take_succ_eq_append_getElem hl', List.all_append, hx]; simp)
      have HM : Hid (y ∈ xs) := Lib.hid (by rw [← hx]; exact List.getElem_mem _)
      have h2 : (0 : Int) ≤ j := Int.natCast_nonneg _
      have h3 : (j : Int) < n := by omega
      clear hy hx hl'
      by_cases e : lo ≤ y ∧ y ≤ hi
      · obtain ⟨e1, e2⟩ := e
        have HY : Hid (okR lo hi y = true) := Lib.hid (decide_eq_true ⟨e1, e2⟩)
        go_wp2_with (first | ((with_reducible refine (l1In_yes _ _ _ _ e1 e2).mono ?_); rintro e w' ⟨rfl, rfl⟩))
        go_round
        case rel => exact ⟨j + 1, by omega, by go_num, by rw [HT.out, HF.out, HY.out]; rfl⟩
        case measure => simp [intOf]; omega
      · have e' : y < lo ∨ hi < y := by omega
        have HY : Hid (xs.all (okR lo hi) = false) := Lib.hid (by
          rw [List.all_eq_false]
          exact ⟨y, HM.out, by simp [okR]; omega⟩)
        go_wp2_with (first | ((with_reducible refine (l1In_no _ _ _ _ e').mono ?_); rintro e w' ⟨rfl, rfl⟩))
        go_ret
        exact ⟨ret_bool HY.out.symm, rfl⟩
    · have e : j = n := by omega
      subst e
      have HY : Hid (xs.all (okR lo hi) = true) := Lib.hid (by have := HF.out; rwa [List.take_of_length_le (by rw [HN.out]; exact Nat.le_refl _)] at this)
      go_wp2
      go_ret
      exact ⟨ret_bool HY.out.symm, rfl⟩

theorem l1All_rng_as (lo hi : Int) (v : Value) (xs : List Int) (b : Bool) (W : World) (hv : Rd W v xs) (hl : xs.length ≤ 2000000) (hb : xs.all (okR lo hi) = b) :
    Calls Tryd.prog 17 #[v, .int .i64 lo, .int .i64 hi] W fun e w' => e = .returned (.bool b) ∧ W = w' := by
  subst hb
  exact l1All_rng lo hi v xs W hv hl
theorem okR_get {lo hi : Int} {xs : List Int} (h : xs.all (okR lo hi) = true) (j : Nat) (hj : j < xs.length) : lo ≤ xs.getD j 0 ∧ xs.getD j 0 ≤ hi := by
  have := List.all_eq_true.1 h (xs[j]) (List.getElem_mem _)
  simp [okR] at this
  simpa [hj] using this

/-- is a list a deck? -/
def deckB (xs : List Int) : Bool := decide (1 ≤ xs.length ∧ xs.length ≤ 104) && decide (xs.all okB = true ∧ xs.Nodup)
theorem deckB_parts {xs : List Int} (h : deckB xs = true) : 1 ≤ xs.length ∧ xs.length ≤ 104 ∧ xs.all okB = true ∧ xs.Nodup := by
  unfold deckB at h
  rw [Bool.and_eq_true, decide_eq_true_eq, decide_eq_true_eq] at h
  exact ⟨h.1.1, h.1.2, h.2.1, h.2.2⟩
theorem deckB_off {xs : List Int} (h : ¬ (1 ≤ xs.length ∧ xs.length ≤ 104)) : deckB xs = false := by
  unfold deckB; rw [decide_eq_false h]; rfl
theorem deckB_on {xs : List Int} (h : 1 ≤ xs.length ∧ xs.length ≤ 104) : deckB xs = decide (xs.all okB = true ∧ xs.Nodup) := by
  unfold deckB; rw [decide_eq_true h]; rfl

set_option maxRecDepth 100000 in
set_option maxHeartbeats 1600000 in
theorem caGood_any (g cap n : Nat) (xs : List Int) (B : Nat) (W : World) (hs : SlAt W B g cap n xs) (hcap : n ≤ cap) (hl : n ≤ 2000000) (b : Bool) (hb : b = deckB xs) :
    Calls Tryd.prog 11 #[.slice (some ⟨g, 0, none⟩) n cap] W fun e w' => e = .returned (.bool b) ∧ W = w' := by
  have HS := Lib.hid hs
  have HB := Lib.hid hb
  have HR : Hid (Rd W (.slice (some ⟨g, 0, none⟩) n cap) xs) := Lib.hid hs.sl.rd
  have HLE : Hid (xs.length ≤ 2000000) := Lib.hid (by rw [hs.1]; exact hl)
  clear hs hb
  by_cases hn : (n : Int) < 1 ∨ 104 < (n : Int)
  · have HF : Hid (b = false) := Lib.hid (by rw [HB.out]; exact deckB_off (fun h => by have := HS.out.1; omega))
    go_enter Tryd.func11, Tryd.ntmps11
    go_wp2_with (first | ((with_reducible refine (l1In_no (n : Int) _ _ _ hn).mono ?_); rintro e w' ⟨rfl, rfl⟩))
    go_ret
    exact ⟨ret_bool HF.out.symm, rfl⟩
  · have n1 : 1 ≤ (n : Int) := by omega
    have n2 : (n : Int) ≤ 104 := by omega
    clear hn
    by_cases hok : xs.all okB = true
    · have HOK := Lib.hid hok
      clear hok
      have HG : Hid (deckB xs = decide (xs.all okB = true ∧ xs.Nodup)) := Lib.hid (deckB_on (by have := HS.out.1; omega))
      go_enter Tryd.func11, Tryd.ntmps11
      go_wp2_with (first | ((with_reducible refine (l1In_yes (n : Int) _ _ _ n1 n2).mono ?_); rintro e w' ⟨rfl, rfl⟩) | ((with_reducible refine (l1All_as _ xs true _ HR.out HLE.out HOK.out).mono ?_); rintro e w' ⟨rfl, rfl⟩))
      go_loop [3, 4, 16] (fun _ _ i => ∃ j : Nat, j ≤ n ∧ i = .int .i64 j ∧ (xs.take j).Nodup) (fun _ _ i => n - (intOf i).toNat)
      case atStart => exact ⟨0, Nat.zero_le _, rfl, by simp⟩
      case round =>
        obtain ⟨j, hj, rfl, hn⟩ := hrel
        have HND := Lib.hid hn
        clear hn
        by_cases hlt : j < n
        · have hl' : j < xs.length := by rw [HS.out.1]; exact hlt
          have c2 := HS.out.cell j hlt
          obtain ⟨y, hy⟩ : ∃ y, xs.getD j 0 = y := ⟨_, rfl⟩
          have hx : xs[j] = y := by rw [← hy]; simp [hl']
          rw [hy] at c2
          have HN : Hid ((xs.take (j + 1)).Nodup ↔ (xs.take j).Nodup ∧ y ∉ xs.take j) := Lib.hid (by rw [nodup_take hl', hx])
          have q6 := cut_to g n cap j (by omega)
          have h3 : (0 : Int) ≤ j := Int.natCast_nonneg _
          have h4 : (j : Int) < n := by omega
          have h5 : (j : Int) ≤ cap := by omega
          clear hy hx hl'
          go_wp2_with fail
          refine (l1Has_any _ (xs.take j) y _ (HS.out.take j (by omega)) (by have := HS.out.1; simp; omega)).mono ?_
          rintro e w' ⟨rfl, rfl⟩
          by_cases hin : y ∈ xs.take j
          · rw [decide_eq_true hin]
            have HF : Hid (b = false) := Lib.hid (by
              rw [HB.out, HG.out, decide_eq_false_iff_not]
              rintro ⟨_, hnd⟩
              exact (HN.out.1 (nodup_of_take (j + 1) hnd)).2 hin)
            clear hin
            go_wp2
            go_ret
            exact ⟨ret_bool HF.out.symm, rfl⟩
          · rw [decide_eq_false hin]
            have HIN := Lib.hid hin
            clear hin
            go_wp2
            go_round
            case rel => exact ⟨j + 1, by omega, by go_num, HN.out.2 ⟨HND.out, HIN.out⟩⟩
            case measure => simp [intOf]; omega
        · have e : j = n := by omega
          subst e
          have ht : xs.take j = xs := List.take_of_length_le (by rw [HS.out.1]; exact Nat.le_refl _)
          have HF : Hid (b = true) := Lib.hid (by
            have h6 := HND.out
            rw [ht] at h6
            rw [HB.out, HG.out]; exact decide_eq_true ⟨HOK.out, h6⟩)
          clear ht
          go_wp2
          go_ret
          exact ⟨ret_bool HF.out.symm, rfl⟩
    · have hok' : xs.all okB = false := by simpa using hok
      have HOK := Lib.hid hok'
      have HF : Hid (b = false) := Lib.hid (by rw [HB.out]; unfold deckB; rw [hok']; simp)
      clear hok hok'
      go_enter Tryd.func11, Tryd.ntmps11
      go_wp2_with (first | ((with_reducible refine (l1In_yes (n : Int) _ _ _ n1 n2).mono ?_); rintro e w' ⟨rfl, rfl⟩) | ((with_reducible refine (l1All_as _ xs false _ HR.out HLE.out HOK.out).mono ?_); rintro e w' ⟨rfl, rfl⟩))
      go_ret
      exact ⟨ret_bool HF.out.symm, rfl⟩

/-- are numbers counts for so many cards? -/
def countsB (n : Nat) (us : List Int) : Bool := decide (us.length = n) && us.all (okR 0 1000)
/-- the order of dealing with counts -/
def deal : List Int → List Int → List Int
  | _, [] => []
  | l, u :: us => who (u + 1) l :: deal (rest (u + 1) l) us
theorem deal_length : ∀ (us l : List Int), (deal l us).length = us.length
  | [], l => rfl
  | u :: us, l => by rw [deal, List.length_cons, deal_length us, List.length_cons]
theorem deal_same (u : Int) : ∀ (n : Nat) (l : List Int), deal l (List.replicate n u) = outs (u + 1) n l
  | 0, l => rfl
  | n + 1, l => by rw [List.replicate_succ, deal, outs, deal_same u n]
theorem rest_memD (k : Int) (l : List Int) (x : Int) (h : x ∈ rest k l) : x ∈ l := by
  unfold rest at h
  rcases List.mem_append.1 h with h | h
  · exact List.mem_of_mem_drop h
  · exact List.mem_of_mem_take h
theorem who_memD (k : Int) (l : List Int) (h : 0 < l.length) : who k l ∈ l := by
  have hp := place_lt k l.length h
  unfold who
  simp only [List.getD, List.getElem?_eq_getElem hp, Option.getD_some]
  exact List.getElem_mem _
theorem deal_mem : ∀ (us l : List Int), us.length ≤ l.length → ∀ x ∈ deal l us, x ∈ l
  | [], l, _, x, h => by simp [deal] at h
  | u :: us, l, hl, x, h => by
    rw [List.length_cons] at hl
    rw [deal] at h
    rcases List.mem_cons.1 h with rfl | h
    · exact who_memD _ _ (by omega)
    · have := rest_length (u + 1) l (by omega)
      exact rest_memD _ _ _ (deal_mem us _ (by omega) x h)

set_option maxRecDepth 100000 in
set_option maxHeartbeats 3200000 in
theorem caDeal_any (v : Value) (A : Option Addr) (m c : Nat) (xs us : List Int) (W : World) (hv : Rd W v xs) (hvn : Vn v xs) (hu : Rd W (.slice A m c) us) (hm : us.length = m) (hl : xs.length ≤ 1000) (hmu : m ≤ xs.length) (hok : us.all (okR 0 1000) = true) :
    Calls Tryd.prog 19 #[v, .slice A m c] W (Makes W (deal xs us)) := by
  have HV := Lib.hid hv
  have HVN := Lib.hid hvn
  have HM := Lib.hid hm
  have HOK := Lib.hid hok
  have HLX := Lib.hid hl
  have HMU := Lib.hid hmu
  have hm1 : m ≤ 1000 := by omega
  obtain ⟨A', c', hAc, hA⟩ := hu
  have eA : A = A' := by injection hAc
  subst eA
  have HA := Lib.hid hA
  clear hv hvn hm hok hA hAc hl hmu
  go_enter Tryd.func19, Tryd.ntmps19
  go_wp2_with fail
  refine (l1Own_any v xs W HV.out HVN.out (by have := HLX.out; omega)).mono ?_
  rintro e w1 ⟨v1, rfl, hs1, hk1⟩
  have HS1 := Lib.hid (hs1.from (Nat.zero_le _))
  have HK1 := Lib.hid hk1
  clear hs1 hk1
  go_wp2
  go_loopw [0, 5, 13] (fun s' o i wr => ∃ (j : Nat) (u r : Value) (ys zs : List Int), j ≤ m ∧ i = .int .i64 j ∧ u = s' ∧ r = o ∧ ys.length + j = xs.length ∧ zs.length = j ∧ zs ++ deal ys (us.drop j) = deal xs us ∧ Sl wr 0 u ys ∧ Sl wr W.heap.size r zs ∧ Kp Nw W wr ∧ (∀ g, u.ownBlock = some g → ¬ r.ownBlock = some g)) (fun _ _ i _ => m - (intOf i).toNat)
  case atStart => exact ⟨0, _, _, xs, [], Nat.zero_le _, rfl, rfl, rfl, rfl, rfl, by rw [List.drop_zero]; rfl, HS1.out, Sl.nil _ _, HK1.out, fun _ _ h => by cases h⟩
  case round =>
    rename_i wr
    obtain ⟨j, u, r, ys, zs, hj, rfl, rfl, rfl, hy, hz, ho, hu, hr, hk, hdj⟩ := hrel
    obtain ⟨q, hq⟩ : ∃ q, ys.length = q := ⟨_, rfl⟩
    have HQ := Lib.hid hq
    have HY := Lib.hid hy
    have HZ := Lib.hid hz
    have HO := Lib.hid ho
    have HU := Lib.hid hu
    have HR := Lib.hid hr
    have HK := Lib.hid hk
    have HDJ := Lib.hid hdj
    have j0 : (0 : Int) ≤ j := Int.natCast_nonneg _
    have zl : zs.length ≤ 1000 := by omega
    clear hq hy hz ho hu hr hk hdj HS1 HK1
    by_cases hlt : j < m
    · have hl' : j < us.length := by rw [HM.out]; exact hlt
      obtain ⟨g0, o0, rfl, hc⟩ := HA.out j hl'
      obtain ⟨x, hx⟩ : ∃ x, us.getD j 0 = x := ⟨_, rfl⟩
      obtain ⟨x0, x1⟩ := okR_get HOK.out j hl'
      rw [hx] at hc x0 x1
      have hxx : us[j] = x := by rw [← hx]; simp [hl']
      have HD : Hid (us.drop j = x :: us.drop (j + 1)) := Lib.hid (by rw [List.drop_eq_getElem_cons hl', hxx])
      have cu := keepc HK.out hc (fun h => h)
      have qp : 0 < q := by have := HQ.out; have := HY.out; have := HMU.out; omega
      have q9 : q ≤ 1000 := by have := HQ.out; have := HY.out; have := HLX.out; omega
      have j1 : (j : Int) < m := by omega
      obtain ⟨g, cap, hv', hsa, hc1, hc2, _, _⟩ := HU.out.at_ (by rw [HQ.out]; exact qp)
      rw [HQ.out] at hv' hsa hc1
      subst hv'
      unfold maxLen at hc2
      obtain ⟨p, hpp⟩ : ∃ p, p = place (x + 1) q := ⟨_, rfl⟩
      have p1 : p < q := by rw [hpp]; exact place_lt (x + 1) q qp
      have p2 : x % (q : Int) = (p : Int) := by rw [hpp, place_int (x + 1) q qp]; congr 1; omega
      have t1 : x.tmod (q : Int) = (p : Int) := by rw [Int.tmod_eq_emod_of_nonneg x0]; exact p2
      have t2 : IntKind.i64.wrap (p : Int) = p := IntWalk.i64_in _ (by omega)
      have g0' : (q : Int) ≠ 0 := by omega
      have g1' : ¬ (q : Int) = 0 := by omega
      have g2' : ((q : Int) == 0) = false := by simp; omega
      have p0 : (0 : Int) ≤ p := Int.natCast_nonneg _
      have p3 : (p : Int) < q := by omega
      have p4 : (p : Int) ≤ cap := by omega
      have q1 : IntKind.i64.wrap ((p : Int) + 1) = (p : Int) + 1 := IntWalk.i64_in _ (by omega)
      have q2 : (0 : Int) ≤ (p : Int) + 1 := by omega
      have q3 : (p : Int) + 1 ≤ q := by omega
      have q4 : ((p : Int) + 1).toNat = p + 1 := by omega
      have q6 := cut_to g q cap p (by omega)
      obtain ⟨Ad, had, q7⟩ := cut_from g q cap (p + 1) (by omega) hc1
      rw [show ((p + 1 : Nat) : Int) = (p : Int) + 1 from rfl] at q7
      have AD := Lib.hid had
      have HP := Lib.hid hpp
      have cd := hsa.cell p p1
      obtain ⟨y, hy⟩ : ∃ y, ys.getD p 0 = y := ⟨_, rfl⟩
      rw [hy] at cd
      have HW : Hid (who (x + 1) ys = y) := Lib.hid (by unfold who; rw [HQ.out, ← hpp]; exact hy)
      have HSA := Lib.hid hsa
      have gl : g < wr.heap.size := World.block_lt_of_cell? wr _ cd
      clear had hpp hx hxx hl' hc hy hsa p2
      go_wp2_with (first | (at_builtin; refine wpList_app _ rfl (.tmp 21) (.tmp 26) rfl W.heap.size r _ zs [y] rfl rfl (HR.out.below ((Kp.refl Nw wr).alloc _).below') (Rd.one (g := wr.heap.size) (by simp)) nil_one (by simp; omega) (by have := HK.out.size; simp; omega) ?_))
      intro r' w3 hs3 hk3 hat
      have HS3 := Lib.hid hs3
      have HK3 := Lib.hid ((HK.out.nw (.al _ _)).own (HR.out.below (Kp.al _ _).below') hk3)
      have HU3 := Lib.hid ((HU.out.below (Kp.al wr (.cells #[.int .i64 y] 3)).below').kp hk3 (fun g h1 h2 => HDJ.out g h1 h2))
      have HSB : Hid (SlAt w3 0 g cap q ys) := Lib.hid ⟨HQ.out, by have h := HU3.out; unfold Sl at h; rw [HQ.out] at h; exact h⟩
      have yl : ys.length ≤ 1000 := by rw [HQ.out]; exact q9
      have z3 : Hid (W.heap.size ≤ w3.heap.size) := Lib.hid HK3.out.size
      clear hs3 hk3 hat cd
      go_wp2_with fail
      go_region_held3 (fun w' => Kp Nw w3 w' ∧ True)
        (first
          | exact ⟨(Kp.refl _ _).drew, trivial⟩
          | exact ⟨hkW5, trivial⟩
          | exact ⟨hkW4, trivial⟩
          | fail)
        (first
          | (go_at_call 26
             refine (l1Own_any _ (ys.drop (p + 1)) _ (Rd.nw' (HSB.out.drop (p + 1) (by omega) _ _ AD.out) (‹Kp Nw w3 _ ∧ True›.1)) (HSB.out.drop_vn _ _ _) (by simp; omega)).mono ?_
             rintro e w4 ⟨v4, rfl, hs4, hk4⟩
             have hkW4 := (‹Kp Nw w3 _ ∧ True›.1).nw hk4)
          | (refine step_app _ (by rfl) (.tmp 32) (.tmp 35) (by rfl) w3.heap.size v4 _ (ys.drop (p + 1)) (ys.take p) (by rfl) (by rfl) hs4 (Rd.nw' (HSB.out.take p (by omega)) hkW4) (HSB.out.take_vn p (by omega) _) (by simp; omega) hkW4.size ?_
             intro v5 w5 hs5 hk5 _
             have hkW5 := hkW4.own hs4 hk5)
          | fail)
      have E5 := Lib.hid (show ys.drop (p + 1) ++ ys.take p = rest (x + 1) ys by rw [rest, HQ.out, ← HP.out])
      have HS5 := Lib.hid hs5
      have HK5 := Lib.hid hkW5
      clear hs5 hkW5 hkW4 hs4 hk4 hk5
      go_wp2
      go_roundw
      case rel =>
        have er := rest_length (x + 1) ys (by rw [HQ.out]; exact qp)
        have ey := HY.out
        have ez := HZ.out
        refine ⟨j + 1, v5, r', rest (x + 1) ys, zs ++ [y], by omega, by go_num, rfl, rfl, by omega, by simp; omega, ?_, by rw [← E5.out]; exact HS5.out.from (Nat.zero_le _), HS3.out.below HK5.out.below', HK3.out.nw HK5.out, fun g h1 h2 => ?_⟩
        · rw [← HO.out, HD.out, deal, HW.out]
          simp
        · have h3 := (HS5.out.own_ge g h1).1
          have h4 := (HS3.out.own_ge g h2).2
          omega
      case measure => simp [intOf]; omega
    · have e : j = m := by omega
      subst e
      have hd : us.drop j = [] := List.drop_eq_nil_of_le (by have := HM.out; omega)
      have R := HR.out
      have eo := HO.out
      rw [hd] at eo
      simp only [deal, List.append_nil] at eo
      rw [eo] at R
      have R' := Lib.hid R
      clear R eo hd
      go_wp2
      go_ret
      exact ⟨r, rfl, R'.out, HK.out⟩
end Go.Proofs.YtpajmgonceepoacDoor
namespace Go.Proofs.YtpajmgonceepoacDoor
open Go.ChangeShapes Go.WideShapes Go.ChangeAt Go.RowKit

theorem SlAt.kd {w w' : World} {B g cap n : Nat} {xs : List Int} {S : Nat → Prop} (h : SlAt w B g cap n xs) (hk : Kp S w w') (hs : ¬ S g) : SlAt w' B g cap n xs := by
  have h1 := h.sl.kp hk (fun g' e => by
    have e' : g' = g := by simp [Value.ownBlock] at e; omega
    rw [e']; exact hs)
  refine ⟨h.1, ?_⟩
  unfold Sl at h1
  rw [h.1] at h1
  exact h1
theorem marks_mem (n : Nat) (x : Int) (h : x ∈ marks 0 n) : 0 ≤ x ∧ x < n := by
  unfold marks at h
  simp at h
  omega
/-- cards laid at places, one after the other -/
def scatN (os ps : List Int) : Nat → List Int
  | 0 => List.replicate os.length 0
  | j + 1 => (scatN os ps j).set (ps.getD j 0).toNat (os.getD j 0)
theorem scatN_length (os ps : List Int) : ∀ j, (scatN os ps j).length = os.length
  | 0 => by simp [scatN]
  | j + 1 => by rw [scatN, List.length_set, scatN_length os ps j]
def scat (os ps : List Int) : List Int := scatN os ps ps.length
theorem scat_length (os ps : List Int) : (scat os ps).length = os.length := scatN_length _ _ _

set_option maxRecDepth 100000 in
set_option maxHeartbeats 3200000 in
theorem caFor_any (A : Option Addr) (n c : Nat) (A2 : Option Addr) (c2 : Nat) (os us : List Int) (W : World) (hv : Rd W (.slice A n c) os) (hn : os.length = n) (hu : Rd W (.slice A2 n c2) us) (hm : us.length = n) (hl : n ≤ 1000) (hok : us.all (okR 0 1000) = true) :
    Calls Tryd.prog 12 #[.slice A n c, .slice A2 n c2] W (Makes W (scat os (deal (marks 0 n) us))) := by
  obtain ⟨i0, hi0, hz0, hz1, hz2⟩ := info_parts intInfo
  have HU := Lib.hid hu
  have HM := Lib.hid hm
  have HN := Lib.hid hn
  have HOK := Lib.hid hok
  obtain ⟨A', c', hAc, hA⟩ := id hv
  have eA : A = A' := by injection hAc
  subst eA
  have HA := Lib.hid hA
  clear hv hu hm hn hok hA hAc
  go_enter Tryd.func12, Tryd.ntmps12
  go_wp2
  go_loopw [5, 12] (fun o i wr => ∃ (j : Nat) (r : Value), j ≤ n ∧ i = .int .i64 j ∧ r = o ∧ Sl wr W.heap.size r (marks 0 j) ∧ Kp Nw W wr) (fun _ i _ => n - (intOf i).toNat)
  case atStart => exact ⟨0, _, Nat.zero_le _, rfl, rfl, Sl.nil _ _, Kp.refl _ _⟩
  case round =>
    obtain ⟨j, r, hj, rfl, rfl, hr, hk⟩ := hrel
    have HR := Lib.hid hr
    have HK := Lib.hid hk
    have j0 : (0 : Int) ≤ j := Int.natCast_nonneg _
    clear hr hk
    by_cases hlt : j < n
    · have j1 : (j : Int) < n := by omega
      go_wp2_with (first | (at_builtin; refine wpList_app _ rfl (.tmp 15) (.tmp 17) rfl W.heap.size r _ (marks 0 j) [(j : Int)] rfl rfl (HR.out.below ((Kp.refl Nw wr).alloc _).below') (Rd.one (g := wr.heap.size) (by simp)) nil_one (by simp [marks_length]; omega) (by have := HK.out.size; simp; omega) ?_))
      intro r' w3 hs3 hk3 hat
      have HS3 : Hid (Sl w3 W.heap.size r' (marks 0 (j + 1))) := Lib.hid (by rw [marks_snoc]; simpa using hs3)
      have HK3 := Lib.hid ((HK.out.nw (.al _ _)).own (HR.out.below (Kp.al _ _).below') hk3)
      clear hs3 hk3 hat
      go_wp2
      go_roundw
      case rel => exact ⟨j + 1, r', by omega, by go_num, rfl, HS3.out, HK3.out⟩
      case measure => simp [intOf]; omega
    · have e : j = n := by omega
      subst e
      have hzz : W.heap.size ≤ wr.heap.size := HK.out.size
      go_wp2_with (first | (at_make; refine wpList_make_full _ rfl _ _ 22 rfl wr.heap.size 3 i0 (.int .i64 0) 1 Tryd.underlying22 hi0 hz0 hz1 _ _ _ _ j rfl rfl rfl rfl (by rw [hz2]; omega) (by unfold maxLen; omega) (Nat.le_refl _) ?_))
      intro w3 hown hgrow
      have hk3 : Kp Nw wr w3 := (Kp.refl Nw _).grown hgrow (fun g hg => by cases hg)
      have HS := Lib.hid (Sl.zeros hown)
      have hl3 : wr.heap.size < w3.heap.size := (World.ownsRow.lt hown _ rfl).2
      have HR3 := Lib.hid (HR.out.below hk3.below')
      have HK3 := Lib.hid (HK.out.nw hk3)
      obtain ⟨gm, hgm⟩ : ∃ gm, gm = wr.heap.size := ⟨_, rfl⟩
      rw [← hgm] at HS hl3 hzz ⊢
      obtain ⟨Ar, cr, rfl⟩ := HR3.out.val (marks_length 0 j)
      clear hown hgrow hk3 hgm HR HK
      go_wp2_with fail
      refine (caDeal_any (.slice Ar j cr) A2 j c2 (marks 0 j) us w3 HR3.out.rd HR3.out.vn (HU.out.nw HK3.out) HM.out (by rw [marks_length]; omega) (by rw [marks_length]; exact Nat.le_refl _) HOK.out).mono ?_
      rintro e w4 ⟨v4, rfl, hs4, hk4⟩
      obtain ⟨ps, hps⟩ : ∃ ps, ps = deal (marks 0 j) us := ⟨_, rfl⟩
      have hpl : ps.length = j := by rw [hps, deal_length]; exact HM.out
      have hpm : ∀ x ∈ ps, 0 ≤ x ∧ x < (j : Int) := fun x hx => by rw [hps] at hx; exact marks_mem j x (deal_mem us _ (by have := HM.out; rw [marks_length]; omega) x hx)
      rw [← hps] at hs4 ⊢
      obtain ⟨A4, c4, rfl⟩ := hs4.val hpl
      have HPS := Lib.hid hps
      have HPL := Lib.hid hpl
      have HPM := Lib.hid hpm
      have HP := Lib.hid hs4
      have HS4 : Hid (SlAt w4 gm gm j j (scatN os ps 0)) := Lib.hid (by rw [scatN, HN.out]; exact HS.out.kd hk4 (fun h => h))
      have HK4 := Lib.hid (HK3.out.nw hk4)
      have hl4 : gm < w4.heap.size := by have := hk4.size; omega
      obtain ⟨AP, cP, hPe, hPc⟩ := HP.out.rd
      have eP : A4 = AP := by injection hPe
      subst eP
      have HPC := Lib.hid hPc
      have HPO := Lib.hid HP.out.own_ge
      clear hs4 hk4 hps hpl hpm HS HR3 HK3 hPe hPc
      go_wp2
      go_loopw [27] (fun i wx => ∃ t : Nat, t ≤ j ∧ i = .int .i64 t ∧ SlAt wx gm gm j j (scatN os ps t) ∧ Kp (fun b => b = gm) w4 wx) (fun i _ => j - (intOf i).toNat)
      case atStart => exact ⟨0, Nat.zero_le _, rfl, HS4.out, Kp.refl _ _⟩
      case round =>
        obtain ⟨t, ht, rfl, hs, hk⟩ := hrel
        have HSX := Lib.hid hs
        have HKX := Lib.hid hk
        have t0 : (0 : Int) ≤ t := Int.natCast_nonneg _
        by_cases htl : t < j
        · have t1 : (t : Int) < j := by omega
          obtain ⟨g1, o1, rfl, hc1⟩ := HPC.out t (by rw [HPL.out]; exact htl)
          obtain ⟨g0, o0, rfl, hc0⟩ := HA.out t (by rw [HN.out]; exact htl)
          have l0 : g0 < W.heap.size := World.block_lt_of_cell? W _ hc0
          have l1 := (HPO.out g1 rfl).1
          have c1 := keepc hk hc1 (show ¬ g1 = gm by omega)
          have c0 := keepc hk (keepc HK4.out hc0 (fun h => h)) (show ¬ g0 = gm by omega)
          obtain ⟨p, hp⟩ : ∃ p, ps.getD t 0 = p := ⟨_, rfl⟩
          obtain ⟨x, hx⟩ : ∃ x, os.getD t 0 = x := ⟨_, rfl⟩
          have hpm := HPM.out p (by rw [← hp, List.getD_eq_getElem?_getD, List.getElem?_eq_getElem (show t < ps.length by rw [HPL.out]; exact htl)]; exact List.getElem_mem _)
          obtain ⟨q, rfl⟩ : ∃ q : Nat, p = q := ⟨p.toNat, by omega⟩
          rw [hp] at c1
          rw [hx] at c0
          have ql : q < j := by omega
          have q1 : (q : Int) < j := hpm.2
          have q0 : (0 : Int) ≤ q := Int.natCast_nonneg _
          have HSC : Hid (scatN os ps (t + 1) = (scatN os ps t).set q x) := Lib.hid (by rw [scatN, hp, hx]; simp)
          have cs := hs.cell q ql
          have fs := hs.frozen q
          clear hs hk hc1 hc0 hp hx hpm
          go_wp2
          go_roundw
          case rel => exact ⟨t + 1, by omega, by go_num, by rw [HSC.out]; exact HSX.out.store q x, HKX.out.setCell (.inl rfl) _⟩
          case measure => simp [intOf]; omega
        · have e : t = j := by omega
          subst e
          have e2 : scatN os ps t = scat os ps := by unfold scat; rw [HPL.out]
          rw [e2] at hs
          have HSF := Lib.hid (hs.sl.from hzz)
          have HKF := Lib.hid (HK4.out.after hk (fun g hg h => by have h9 : g = gm := h; omega))
          clear hs hk e2
          go_wp2
          go_ret
          exact ⟨.slice (some ⟨gm, 0, none⟩) t t, rfl, by rw [← HPS.out]; exact HSF.out, HKF.out⟩
end Go.Proofs.YtpajmgonceepoacDoor
