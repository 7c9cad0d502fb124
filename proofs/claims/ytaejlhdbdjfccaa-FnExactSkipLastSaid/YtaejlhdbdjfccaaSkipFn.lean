/- SkipOrder and SkipLast, in the program and in the model: both are the same plain list; no condition but that people, step and skip are those that the chapter allows. -/
import Derived.Test.YtaejlhdbdjfccaaSkip
import Derived.Test.YtaejlhdbdjfccaaRes
namespace Go.Proofs.Ytaejlhdbdjfccaa
open Go.ChangeShapes Go.WideShapes Go.ChangeAt Go.RowKit

theorem restS_nil (k : Int) (s : Nat) (l : List Int) (h : (rest k l).length = 0) : restS k s l = rest k l := by
  unfold restS
  rw [List.eq_nil_of_length_eq_zero h]
  simp [rot]
theorem outsS_succ (k : Int) (s t : Nat) (l : List Int) : outsS k s (t + 1) l = who k l :: outsS k s t (restS k s l) := rfl

theorem liSkipped_yes (p k s : Int) (w : World) (h : Asked p k) (s0 : 0 ≤ s) (s1 : s ≤ 200) :
    Calls Try.prog 76 #[.int .i64 p, .int .i64 k, .int .i64 s] w fun e w' => e = .returned (.bool true) ∧ w = w' := by
  go_enter Try.func76, Try.ntmps76
  go_wp2_with (first | ((with_reducible refine (ciAsked_yes p k _ h).mono ?_); rintro e w' ⟨rfl, rfl⟩) | ((with_reducible refine (l1In_yes s _ _ _ s0 s1).mono ?_); rintro e w' ⟨rfl, rfl⟩))
  go_ret
  exact ⟨rfl, rfl⟩
theorem liSkipped_no1 (p k s : Int) (w : World) (h : ¬ Asked p k) :
    Calls Try.prog 76 #[.int .i64 p, .int .i64 k, .int .i64 s] w fun e w' => e = .returned (.bool false) ∧ w = w' := by
  go_enter Try.func76, Try.ntmps76
  go_wp2_with (first | ((with_reducible refine (ciAsked_no p k _ h).mono ?_); rintro e w' ⟨rfl, rfl⟩))
  go_ret
  exact ⟨rfl, rfl⟩
theorem liSkipped_no2 (p k s : Int) (w : World) (h : Asked p k) (hs : s < 0 ∨ 200 < s) :
    Calls Try.prog 76 #[.int .i64 p, .int .i64 k, .int .i64 s] w fun e w' => e = .returned (.bool false) ∧ w = w' := by
  go_enter Try.func76, Try.ntmps76
  go_wp2_with (first | ((with_reducible refine (ciAsked_yes p k _ h).mono ?_); rintro e w' ⟨rfl, rfl⟩) | ((with_reducible refine (l1In_no s _ _ _ hs).mono ?_); rintro e w' ⟨rfl, rfl⟩))
  go_ret
  exact ⟨rfl, rfl⟩

set_option maxRecDepth 100000 in
set_option maxHeartbeats 3200000 in
theorem liSkip_any (n s : Nat) (k : Int) (W : World) (h : Asked n k) (hs : s ≤ 200) :
    Calls Try.prog 77 #[.int .i64 n, .int .i64 k, .int .i64 s] W (Makes W (outsS k s n (marks 0 n))) := by
  have h1 := h.p1; have h2 := h.p2; have k1 := h.k1; have k2 := h.k2
  go_enter Try.func77, Try.ntmps77
  go_wp2_with fail
  refine (ciPeople_any n W (by omega)).mono ?_
  rintro e w1 ⟨v, rfl, hsl, hk⟩
  have HV := Lib.hid (hsl.from (Nat.zero_le _))
  have HK := Lib.hid hk
  have ML := Lib.hid (marks_length 0 n)
  clear hsl hk
  go_wp2
  go_loopw [7, 8] (fun s' o wr => ∃ (u r : Value) (ys zs : List Int), u = s' ∧ r = o ∧ ys.length ≤ n ∧ zs.length + ys.length = n ∧ zs ++ outsS k s ys.length ys = outsS k s n (marks 0 n) ∧ Sl wr 0 u ys ∧ Sl wr W.heap.size r zs ∧ Kp Nw W wr) (fun s' _ _ => lenOf s')
  case atStart => exact ⟨_, _, marks 0 n, [], rfl, rfl, by rw [ML.out]; exact Nat.le_refl _, by simp [ML.out], by rw [ML.out]; rfl, HV.out, Sl.nil _ _, HK.out⟩
  case round =>
    rename_i wr
    obtain ⟨u, r, ys, zs, rfl, rfl, hy, hz, ho, hu, hr, hk⟩ := hrel
    obtain ⟨m, hm⟩ : ∃ m, ys.length = m := ⟨_, rfl⟩
    obtain ⟨A, c, rfl⟩ := hu.val hm
    have HM := Lib.hid hm
    have HO := Lib.hid ho
    have HU := Lib.hid hu
    have HR := Lib.hid hr
    have HKR := Lib.hid hk
    have hz' : zs.length + m ≤ 1000000 := by omega
    have HZ := Lib.hid hz
    clear hm ho hu hr hk hz HV HK
    by_cases hp : 0 < m
    · obtain ⟨q, hq⟩ : ∃ q, m = q + 1 := ⟨m - 1, by omega⟩
      have HQ := Lib.hid hq
      have RL := Lib.hid (show (rest k ys).length = q by have := rest_length k ys (by rw [HM.out]; exact hp); have := HM.out; omega)
      clear hq
      go_wp2_with fail
      refine (ciTurn_any _ k ys 0 wr HU.out (by rw [HM.out]; exact hp) (by rw [HM.out]; omega) k1 k2).mono ?_
      rintro e w2 ⟨v', rfl, hs', hk'⟩
      obtain ⟨A', c', rfl⟩ := hs'.val RL.out
      have HS := Lib.hid hs'
      have HK' := Lib.hid hk'
      clear hs' hk'
      go_wp2_with (first | (at_builtin; refine wpList_app _ rfl (.tmp 23) (.tmp 25) rfl W.heap.size r _ zs [who k ys] rfl rfl ((HR.out.below HK'.out.below').below ((Kp.refl Nw w2).alloc _).below') (Rd.one (g := w2.heap.size) (by simp)) nil_one (by simp; omega) (by have := HKR.out.size; have := HK'.out.size; simp; omega) ?_))
      intro r' w3 hs3 hk3 hat
      have HS3 := Lib.hid hs3
      have HK3 := Lib.hid (((HKR.out.nw HK'.out).nw (.al _ _)).own ((HR.out.below HK'.out.below').below (Kp.al _ _).below') hk3)
      have HU3 := Lib.hid ((HS.out.below (Kp.al w2 _).below').kp hk3 (fun g a b => by have := (HS.out.own_ge g a).1; have := (HR.out.own_ge g b).2; omega))
      have z3 : Hid (W.heap.size ≤ w3.heap.size) := Lib.hid HK3.out.size
      clear hs3 hk3 hat
      by_cases q0 : 0 < q
      · obtain ⟨g, cap, hv, hsa, hc1, hc2, _, _⟩ := HU3.out.at_ (by rw [RL.out]; exact q0)
        rw [RL.out] at hv hsa hc1
        injection hv with hv1 hv2 hv3
        subst hv1 hv3
        clear hv2
        unfold maxLen at hc2
        obtain ⟨a, ha⟩ : ∃ a, s % q = a := ⟨_, rfl⟩
        have a1 : a < q := by rw [← ha]; exact Nat.mod_lt _ q0
        have HA := Lib.hid ha
        have HSA := Lib.hid hsa
        have rl : (rest k ys).length ≤ 1000000 := by rw [RL.out]; have := HQ.out; omega
        have t1 : ((s : Int)).tmod (q : Int) = (a : Int) := by rw [Int.tmod_eq_emod_of_nonneg (by omega), ← ha]; simp
        have t2 : IntKind.i64.wrap (a : Int) = a := IntWalk.i64_in _ (by omega)
        have g0 : (q : Int) ≠ 0 := by omega
        have g1 : ¬ (q : Int) = 0 := by omega
        have g2 : ((q : Int) == 0) = false := by simp; omega
        have a2 : (0 : Int) ≤ a := Int.natCast_nonneg _
        have a3 : (a : Int) ≤ q := by omega
        have a4 : (a : Int) ≤ c' := by omega
        have q5 : (0 : Int) < q := by omega
        have q6 := cut_to g q c' a (by omega)
        obtain ⟨Ad, had, q7⟩ := cut_from g q c' a (by omega) hc1
        have AD := Lib.hid had
        clear had ha hsa
        go_wp2_with fail
        go_region_held3 (fun w' => Kp Nw w3 w' ∧ True)
          (first
            | exact ⟨(Kp.refl _ _).drew, trivial⟩
            | exact ⟨hkW5, trivial⟩
            | exact ⟨hkW4, trivial⟩
            | fail)
          (first
            | (go_at_call 88
               refine (l1Own_any _ ((rest k ys).drop a) _ (Rd.nw' (HSA.out.drop a (by omega) _ _ AD.out) (‹Kp Nw w3 _ ∧ True›.1)) (HSA.out.drop_vn _ _ _) (by simp; omega)).mono ?_
               rintro e w4 ⟨v4, rfl, hs4, hk4⟩
               have hkW4 := (‹Kp Nw w3 _ ∧ True›.1).nw hk4)
            | (refine step_app _ (by rfl) (.tmp 37) (.tmp 40) (by rfl) w3.heap.size v4 _ ((rest k ys).drop a) ((rest k ys).take a) (by rfl) (by rfl) hs4 (Rd.nw' (HSA.out.take a (by omega)) hkW4) (HSA.out.take_vn a (by omega) _) (by simp; omega) hkW4.size ?_
               intro v5 w5 hs5 hk5 _
               have hkW5 := hkW4.own hs4 hk5)
            | fail)
        have E5 := Lib.hid (show (rest k ys).drop a ++ (rest k ys).take a = restS k s ys by rw [restS, rot, RL.out, HA.out])
        have HS5 := Lib.hid hs5
        have HK5 := Lib.hid hkW5
        obtain ⟨A5, c5, rfl⟩ := hs5.val (n := q) (by rw [E5.out]; have := restS_length k s ys (by rw [HM.out]; exact hp); have := HM.out; have := HQ.out; omega)
        clear hs5 hkW5 hkW4 hs4 hk4 hk5
        go_wp2
        go_roundw
        case rel =>
          have e := restS_length k s ys (by rw [HM.out]; exact hp)
          have eo := HO.out
          have em := HM.out
          have ez := HZ.out
          refine ⟨_, r', restS k s ys, zs ++ [who k ys], rfl, rfl, by omega, by simp; omega, ?_, by rw [← E5.out]; exact HS5.out.from (Nat.zero_le _), (by simpa using HS3.out.below HK5.out.below'), HK3.out.nw HK5.out⟩
          rw [← eo, show ys.length = (restS k s ys).length + 1 by omega, outsS_succ]
          simp
        case measure => have := HQ.out; simp [lenOf]; omega
      · have e0 : q = 0 := by omega
        subst e0
        have ER := Lib.hid (restS_nil k s ys RL.out)
        go_wp2
        go_roundw
        case rel =>
          have e := restS_length k s ys (by rw [HM.out]; exact hp)
          have eo := HO.out
          have em := HM.out
          have ez := HZ.out
          refine ⟨_, r', restS k s ys, zs ++ [who k ys], rfl, rfl, by omega, by simp; omega, ?_, by rw [ER.out]; exact HU3.out.from (Nat.zero_le _), by simpa using HS3.out, HK3.out⟩
          rw [← eo, show ys.length = (restS k s ys).length + 1 by omega, outsS_succ]
          simp
        case measure => have := HQ.out; simp [lenOf]; omega
    · have e : m = 0 := by omega
      subst e
      have e0 := List.eq_nil_of_length_eq_zero HM.out
      have R := HR.out
      rw [e0] at HO
      have eo := HO.out
      simp only [List.length_nil, outsS, List.append_nil] at eo
      rw [eo] at R
      have R' := Lib.hid R
      clear e0 R eo
      go_wp2
      go_ret
      exact ⟨r, rfl, R'.out, HKR.out⟩

theorem Skp.start {C L n s b : Nat} {k : Int} {w : World} {xs : List Int} (hb : w.cell? ⟨b, 0, none⟩ = some (.int .i64 s)) (h : Ci w C L n (num xs) (0, xs.getD 0 0) k) (hp : 0 < xs.length) : Skp (num xs) C L n k s b w 0 :=
  ⟨hb, num xs, 0, _, h, rfl, num_diff xs, fun _ => ⟨by rw [num_length]; exact hp, num_getD xs 0 hp⟩, by simp [rot, leftsS]⟩

set_option maxRecDepth 100000 in
set_option maxHeartbeats 1600000 in
theorem iSkipOrder_yes (n s : Nat) (k : Int) (W : World) (h : Asked n k) (hs : s ≤ 200) :
    Calls Try.prog 53 #[.int .i64 n, .int .i64 k, .int .i64 s] W (ListB W (outsS k s n (marks 0 n)) true) := by
  have h1 := h.p1; have h2 := h.p2; have h3 := h.k1; have h4 := h.k2
  have hmf : ∀ (fn : Fn) (first cap : Array Value) (w : World), (Instr.makeFunc fn first cap).run Try.prog w = .ok (.func fn first cap) w := fun _ _ _ _ => rfl
  have s0 : (0 : Int) ≤ s := Int.natCast_nonneg _
  have s1 : (s : Int) ≤ 200 := by omega
  have HB : Hid ((W.alloc (.cells #[.int .i64 s] 3)).cell? ⟨W.heap.size, 0, none⟩ = some (.int .i64 s)) := Lib.hid (by simp [World.cell?_alloc_at])
  go_enter Try.func53, Try.ntmps53
  go_wp2_with (first | ((with_reducible refine (isCount_yes _ _ _ h).mono ?_); rintro e w' ⟨rfl, rfl⟩) | ((with_reducible refine (within_yes (s : Int) _ _ _ s0 s1).mono ?_); rintro e w' ⟨rfl, rfl⟩))
  refine (firstNumbers_any n _ (by omega)).mono ?_
  rintro e w1 ⟨v, rfl, hs', hk⟩
  obtain ⟨A, c, rfl⟩ := hs'.val (marks_length 0 n)
  have HS := Lib.hid hs'
  have HK := Lib.hid ((Kp.al W _).nw hk)
  have z1 : W.heap.size + 1 ≤ w1.heap.size := by have := hk.size; simp at this; omega
  have HB1 := Lib.hid (keepc hk HB.out (fun h => h))
  clear hs' hk
  go_wp2_with fail
  refine (circleOf_any _ (marks 0 n) k _ HS.out.rd (by rw [marks_length]; omega) (by rw [marks_length]; omega)).mono ?_
  rintro e w2 ⟨C, L, rfl, hC, hk, hC1, hL1⟩
  rw [marks_length] at hC
  have HC := Lib.hid hC
  have HB2 := Lib.hid (keepc hk HB1.out (fun h => h))
  have z2 : w1.heap.size ≤ w2.heap.size := hk.size
  have HK2 := Lib.hid (HK.out.nw hk)
  clear hk hC
  go_wp2_with fail
  refine (countSkip C L W.heap.size n (outsPS k s n (num (marks 0 n))) (Skp (num (marks 0 n)) C L n k s W.heap.size) w2 (by rw [outsPS_length]) HC.out.lt HC.out.2.lt (by omega) (Lib.hid Skp.kp)
    (Lib.hid fun r w hr hst => skip_step (num (marks 0 n)) C L n s W.heap.size (by omega) (by omega) (by omega) k h3 h4 n (by rw [num_length, marks_length]; exact Nat.le_refl _) (by rw [num_length, marks_length]; omega) r w hr hst)
    (Skp.start HB2.out HC.out (by rw [marks_length]; omega)) (by omega)).mono ?_
  rintro e w3 ⟨G, rfl, hP, _, hk3, hG⟩
  have HP := Lib.hid hP
  have HK3 := Lib.hid (HK2.out.after hk3 (fun g hg h => by rcases h with h | h <;> omega))
  clear hP hk3
  go_wp2_with fail
  refine (numbersOf_any ⟨G, 0, none⟩ n n _ _ HP.out.rdp (by rw [outsPS_length]) (by omega)).mono ?_
  rintro e w4 ⟨v, rfl, hs4, hk4⟩
  rw [← outsS_map, num_snd] at hs4
  have HS4 := Lib.hid (hs4.from HK3.out.size)
  have HK4 := Lib.hid (HK3.out.nw hk4)
  clear hs4 hk4
  go_wp2
  go_ret2
  exact ⟨v, rfl, HS4.out, HK4.out⟩

theorem iSkipOrder_no1 (p k s : Int) (W : World) (h : ¬ Asked p k) :
    Calls Try.prog 53 #[.int .i64 p, .int .i64 k, .int .i64 s] W (ListB W [] false) := by
  go_enter Try.func53, Try.ntmps53
  go_wp2_with (first | ((with_reducible refine (isCount_no _ _ _ h).mono ?_); rintro e w' ⟨rfl, rfl⟩))
  go_ret2
  exact ⟨_, rfl, Sl.nil _ _, Kp.al _ _⟩
theorem iSkipOrder_no2 (p k s : Int) (W : World) (h : Asked p k) (hs : s < 0 ∨ 200 < s) :
    Calls Try.prog 53 #[.int .i64 p, .int .i64 k, .int .i64 s] W (ListB W [] false) := by
  go_enter Try.func53, Try.ntmps53
  go_wp2_with (first | ((with_reducible refine (isCount_yes _ _ _ h).mono ?_); rintro e w' ⟨rfl, rfl⟩) | ((with_reducible refine (within_no s _ _ _ hs).mono ?_); rintro e w' ⟨rfl, rfl⟩))
  go_ret2
  exact ⟨_, rfl, Sl.nil _ _, Kp.al _ _⟩

theorem sSkipOrder_yes (n s : Nat) (k : Int) (W : World) (h : Asked n k) (hs : s ≤ 200) :
    Calls Try.prog 52 #[.int .i64 n, .int .i64 k, .int .i64 s] W (ListB W (outsS k s n (marks 0 n)) true) := by
  have s0 : (0 : Int) ≤ s := Int.natCast_nonneg _
  have s1 : (s : Int) ≤ 200 := by omega
  go_enter Try.func52, Try.ntmps52
  go_wp2_with (first | ((with_reducible refine (liSkipped_yes _ _ _ _ h s0 s1).mono ?_); rintro e w' ⟨rfl, rfl⟩))
  refine (liSkip_any n s k _ h hs).mono ?_
  rintro e w1 ⟨v, rfl, hs1, hk1⟩
  have HS := Lib.hid hs1
  have HK := Lib.hid hk1
  clear hs1 hk1
  go_wp2
  go_ret2
  exact ⟨v, rfl, HS.out, HK.out⟩

theorem liSkip_as (m s : Nat) (k : Int) (W : World) (h : Asked ((m : Int) + 1) k) (hs : s ≤ 200) :
    Calls Try.prog 77 #[.int .i64 ((m : Int) + 1), .int .i64 k, .int .i64 s] W (Makes W (outsS k s (m + 1) (marks 0 (m + 1)))) := liSkip_any (m + 1) s k W h hs
theorem iSkipOrder_as (m s : Nat) (k : Int) (W : World) (h : Asked ((m : Int) + 1) k) (hs : s ≤ 200) :
    Calls Try.prog 53 #[.int .i64 ((m : Int) + 1), .int .i64 k, .int .i64 s] W (ListB W (outsS k s (m + 1) (marks 0 (m + 1))) true) := iSkipOrder_yes (m + 1) s k W h hs

set_option maxHeartbeats 800000 in
theorem sSkipLast_yes (m s : Nat) (k : Int) (W : World) (h : Asked ((m : Int) + 1) k) (hs : s ≤ 200) :
    Calls Try.prog 54 #[.int .i64 ((m : Int) + 1), .int .i64 k, .int .i64 s] W (IntB W ((outsS k s (m + 1) (marks 0 (m + 1))).getD m 0) true) := by
  have s0 : (0 : Int) ≤ s := Int.natCast_nonneg _
  have s1 : (s : Int) ≤ 200 := by omega
  have h2 := h.p2
  have m0 : (0 : Int) ≤ m := Int.natCast_nonneg _
  have q0 : IntKind.i64.wrap (m : Int) = m := IntWalk.i64_in _ (by omega)
  have q1 : IntKind.i64.wrap ((m : Int) + 1 - 1) = m := by rw [show (m : Int) + 1 - 1 = m by omega]; exact q0
  obtain ⟨x, hx⟩ : ∃ x, (outsS k s (m + 1) (marks 0 (m + 1))).getD m 0 = x := ⟨_, rfl⟩
  rw [hx]
  have HX := Lib.hid hx
  clear hx
  go_enter Try.func54, Try.ntmps54
  go_wp2_with (first | ((with_reducible refine (liSkipped_yes _ _ _ _ h s0 s1).mono ?_); rintro e w' ⟨rfl, rfl⟩))
  refine (liSkip_as m s k _ h hs).mono ?_
  rintro e w1 ⟨v, rfl, hs1, hk1⟩
  obtain ⟨g, cap, rfl, hsa, hc1, hc2, _, _⟩ := hs1.at_ (by rw [outsS_length]; omega)
  rw [outsS_length] at hsa hc1 ⊢
  have c := hsa.cell m (by omega)
  have m1 : (m : Int) < (m : Int) + 1 := by omega
  have HK := Lib.hid hk1
  rw [HX.out] at c
  clear hs1 hk1 hsa
  go_wp2
  go_ret2
  exact ⟨rfl, HK.out⟩

set_option maxHeartbeats 800000 in
theorem iSkipLast_yes (m s : Nat) (k : Int) (W : World) (h : Asked ((m : Int) + 1) k) (hs : s ≤ 200) :
    Calls Try.prog 55 #[.int .i64 ((m : Int) + 1), .int .i64 k, .int .i64 s] W (IntB W ((outsS k s (m + 1) (marks 0 (m + 1))).getD m 0) true) := by
  have h2 := h.p2
  have m0 : (0 : Int) ≤ m := Int.natCast_nonneg _
  have q0 : IntKind.i64.wrap (m : Int) = m := IntWalk.i64_in _ (by omega)
  have q1 : IntKind.i64.wrap ((m : Int) + 1 - 1) = m := by rw [show (m : Int) + 1 - 1 = m by omega]; exact q0
  obtain ⟨x, hx⟩ : ∃ x, (outsS k s (m + 1) (marks 0 (m + 1))).getD m 0 = x := ⟨_, rfl⟩
  rw [hx]
  have HX := Lib.hid hx
  clear hx
  go_enter Try.func55, Try.ntmps55
  go_wp2_with fail
  refine (iSkipOrder_as m s k _ h hs).mono ?_
  rintro e w1 ⟨v, rfl, hs1, hk1⟩
  obtain ⟨g, cap, rfl, hsa, hc1, hc2, _, _⟩ := hs1.at_ (by rw [outsS_length]; omega)
  rw [outsS_length] at hsa hc1 ⊢
  have c := hsa.cell m (by omega)
  have m1 : (m : Int) < (m : Int) + 1 := by omega
  have HK := Lib.hid hk1
  rw [HX.out] at c
  clear hs1 hk1 hsa
  go_wp2
  go_ret2
  exact ⟨rfl, HK.out⟩

theorem sSkipOrder_no1 (p k s : Int) (W : World) (h : ¬ Asked p k) :
    Calls Try.prog 52 #[.int .i64 p, .int .i64 k, .int .i64 s] W (ListB W [] false) := by
  go_enter Try.func52, Try.ntmps52
  go_wp2_with (first | ((with_reducible refine (liSkipped_no1 _ _ _ _ h).mono ?_); rintro e w' ⟨rfl, rfl⟩))
  go_ret2
  exact ⟨_, rfl, Sl.nil _ _, Kp.refl _ _⟩

theorem sSkipOrder_no2 (p k s : Int) (W : World) (h : Asked p k) (hs : s < 0 ∨ 200 < s) :
    Calls Try.prog 52 #[.int .i64 p, .int .i64 k, .int .i64 s] W (ListB W [] false) := by
  go_enter Try.func52, Try.ntmps52
  go_wp2_with (first | ((with_reducible refine (liSkipped_no2 _ _ _ _ h hs).mono ?_); rintro e w' ⟨rfl, rfl⟩))
  go_ret2
  exact ⟨_, rfl, Sl.nil _ _, Kp.refl _ _⟩

theorem sSkipLast_no1 (p k s : Int) (W : World) (h : ¬ Asked p k) :
    Calls Try.prog 54 #[.int .i64 p, .int .i64 k, .int .i64 s] W (IntB W 0 false) := by
  go_enter Try.func54, Try.ntmps54
  go_wp2_with (first | ((with_reducible refine (liSkipped_no1 _ _ _ _ h).mono ?_); rintro e w' ⟨rfl, rfl⟩))
  go_ret2
  exact ⟨rfl, Kp.refl _ _⟩

theorem sSkipLast_no2 (p k s : Int) (W : World) (h : Asked p k) (hs : s < 0 ∨ 200 < s) :
    Calls Try.prog 54 #[.int .i64 p, .int .i64 k, .int .i64 s] W (IntB W 0 false) := by
  go_enter Try.func54, Try.ntmps54
  go_wp2_with (first | ((with_reducible refine (liSkipped_no2 _ _ _ _ h hs).mono ?_); rintro e w' ⟨rfl, rfl⟩))
  go_ret2
  exact ⟨rfl, Kp.refl _ _⟩

theorem iSkipLast_no1 (p k s : Int) (W : World) (h : ¬ Asked p k) :
    Calls Try.prog 55 #[.int .i64 p, .int .i64 k, .int .i64 s] W (IntB W 0 false) := by
  go_enter Try.func55, Try.ntmps55
  go_wp2_with fail
  refine (iSkipOrder_no1 p k s _ h).mono ?_
  rintro e w1 ⟨v, rfl, hs1, hk1⟩
  have HK := Lib.hid hk1
  obtain ⟨A, c, rfl⟩ := hs1.val (n := 0) rfl
  clear hs1 hk1
  go_wp2
  go_ret2
  exact ⟨rfl, HK.out⟩

theorem iSkipLast_no2 (p k s : Int) (W : World) (h : Asked p k) (hs : s < 0 ∨ 200 < s) :
    Calls Try.prog 55 #[.int .i64 p, .int .i64 k, .int .i64 s] W (IntB W 0 false) := by
  go_enter Try.func55, Try.ntmps55
  go_wp2_with fail
  refine (iSkipOrder_no2 p k s _ h hs).mono ?_
  rintro e w1 ⟨v, rfl, hs1, hk1⟩
  have HK := Lib.hid hk1
  obtain ⟨A, c, rfl⟩ := hs1.val (n := 0) rfl
  clear hs1 hk1
  go_wp2
  go_ret2
  exact ⟨rfl, HK.out⟩
end Go.Proofs.Ytaejlhdbdjfccaa
