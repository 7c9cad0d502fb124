/- The texts PzB, PzC, PzD, as one. -/
import Derived.Test.YtcfghaeogbimeaeMCl
import Derived.Test.YtcfghaeogbimeaeAt
import Derived.Test.YtcfghaeogbimeaeMTw
import Derived.Test.YtcfghaeogbimeaeLwO7
import Derived.Test.YtcfghaeogbimeaeRes
namespace Go.Proofs.Ytcfghaeogbimeae
open Go.ChangeShapes Go.WideShapes Go.ChangeAt Go.RowKit

/-- does a circle of so many people, counted with that step, fit a clue? -/
def fitB (p : Cu) (n : Nat) (k : Int) : Bool :=
  if p.1 = 0 then decide ((n : Int) % p.2.1 = p.2.2)
  else if p.1 = 1 then decide (k % p.2.1 = p.2.2)
  else if p.1 = 2 then decide (lastN k (n - 1) = p.2.1)
  else if p.1 = 3 then decide ((k - 1) % (n : Int) = p.2.1)
  else if p.1 = 4 then decide (fndD p.2.1 (outs k n (marks 0 n)) 0 = p.2.2)
  else decide (p.2.1 ≤ (n : Int))
theorem clu_kind {k a b : Int} (h : cluB (k, a, b) = true) : (k = 0 ∧ 2 ≤ a ∧ a ≤ 5) ∨ (k = 1 ∧ 2 ≤ a ∧ a ≤ 5) ∨ (k = 2 ∧ 0 ≤ a ∧ a ≤ 9) ∨ (k = 3 ∧ 0 ≤ a ∧ a ≤ 9) ∨ (k = 4 ∧ 0 ≤ a ∧ a ≤ 9) ∨ (k = 5 ∧ 1 ≤ a ∧ a ≤ 10) := by
  unfold cluB at h
  simp only at h
  split at h
  · simp only [Bool.and_eq_true, decide_eq_true_eq] at h; omega
  · split at h
    · simp only [Bool.and_eq_true, decide_eq_true_eq] at h; omega
    · split at h
      · simp only [Bool.and_eq_true, decide_eq_true_eq] at h; omega
      · split at h
        · simp only [Bool.and_eq_true, decide_eq_true_eq] at h; omega
        · cases h

set_option maxRecDepth 100000 in
set_option maxHeartbeats 6400000 in
theorem pzFits_any (p : Cu) (n : Nat) (k : Int) (W : World) (hc : cluB p = true) (n1 : 1 ≤ n) (n2 : n ≤ 10) (k1 : 1 ≤ k) (k2 : k ≤ 12) :
    Calls Try.prog 44 #[.agg #[.int .i64 p.1, .int .i64 p.2.1, .int .i64 p.2.2], .int .i64 n, .int .i64 k] W fun e w' => e = .returned (.bool (fitB p n k)) ∧ Kp Nw W w' := by
  obtain ⟨q, a, b⟩ := p
  simp only
  have n0 : (0 : Int) ≤ n := Int.natCast_nonneg _
  obtain ⟨r, hr⟩ : ∃ r, fitB (q, a, b) n k = r := ⟨_, rfl⟩
  rw [hr]
  have C1 : Hid ((W.alloc (.cells #[.int .i64 q, .int .i64 a, .int .i64 b] 49)).cell? ⟨W.heap.size, 1, none⟩ = some (.int .i64 a)) := Lib.hid (by simp [World.cell?_alloc_at])
  have C2 : Hid ((W.alloc (.cells #[.int .i64 q, .int .i64 a, .int .i64 b] 49)).cell? ⟨W.heap.size, 2, none⟩ = some (.int .i64 b)) := Lib.hid (by simp [World.cell?_alloc_at])
  rcases clu_kind hc with ⟨rfl, a1, a2⟩ | ⟨rfl, a1, a2⟩ | ⟨rfl, a1, a2⟩ | ⟨rfl, a1, a2⟩ | ⟨rfl, a1, a2⟩ | ⟨rfl, a1, a2⟩
  · obtain ⟨m, hm⟩ : ∃ m, (n : Int) % a = m := ⟨_, rfl⟩
    have m1 : 0 ≤ m := by rw [← hm]; exact Int.emod_nonneg _ (by omega)
    have m2 : m ≤ 12 := by rw [← hm]; have := Int.emod_lt_of_pos ((n : Int)) (show 0 < a by omega); omega
    have m3 : ((n : Int)).tmod a = m := by rw [Int.tmod_eq_emod_of_nonneg (by omega)]; exact hm
    have m4 : IntKind.i64.wrap m = m := IntWalk.i64_in _ (by omega)
    have m5 : ¬ a = 0 := by omega
    have m6 : (a == 0) = false := by simpa using m5
    have HM := Lib.hid hm
    have HR : Hid (decide (m = b) = r) := Lib.hid (by rw [← hr, ← hm]; simp [fitB])
    clear hr hm hc
    go_enter Try.func44, Try.ntmps44
    go_wp2_with fail
    go_region_held3 (fun w' => Kp Nw (W.alloc (.cells #[.int .i64 0, .int .i64 a, .int .i64 b] 49)) w' ∧ w'.cell? ⟨W.heap.size, 1, none⟩ = some (.int .i64 a) ∧ w'.cell? ⟨W.heap.size, 2, none⟩ = some (.int .i64 b))
      (first
        | exact ⟨(Kp.refl _ _).drew, C1.out, C2.out⟩
        | assumption)
      (fail)
    go_wp2
    go_ret
    exact ⟨ret_bool HR.out, by first | exact Kp.al _ _ | exact (Kp.al _ _).drew⟩
  · obtain ⟨m, hm⟩ : ∃ m, k % a = m := ⟨_, rfl⟩
    have m1 : 0 ≤ m := by rw [← hm]; exact Int.emod_nonneg _ (by omega)
    have m2 : m ≤ 12 := by rw [← hm]; have := Int.emod_lt_of_pos (k) (show 0 < a by omega); omega
    have m3 : (k).tmod a = m := by rw [Int.tmod_eq_emod_of_nonneg (by omega)]; exact hm
    have m4 : IntKind.i64.wrap m = m := IntWalk.i64_in _ (by omega)
    have m5 : ¬ a = 0 := by omega
    have m6 : (a == 0) = false := by simpa using m5
    have HM := Lib.hid hm
    have HR : Hid (decide (m = b) = r) := Lib.hid (by rw [← hr, ← hm]; simp [fitB])
    clear hr hm hc
    go_enter Try.func44, Try.ntmps44
    go_wp2_with fail
    go_region_held3 (fun w' => Kp Nw (W.alloc (.cells #[.int .i64 1, .int .i64 a, .int .i64 b] 49)) w' ∧ w'.cell? ⟨W.heap.size, 1, none⟩ = some (.int .i64 a) ∧ w'.cell? ⟨W.heap.size, 2, none⟩ = some (.int .i64 b))
      (first
        | exact ⟨(Kp.refl _ _).drew, C1.out, C2.out⟩
        | assumption)
      (fail)
    go_wp2
    go_ret
    exact ⟨ret_bool HR.out, by first | exact Kp.al _ _ | exact (Kp.al _ _).drew⟩
  · obtain ⟨m, hm⟩ : ∃ m, lastN k (n - 1) = m := ⟨_, rfl⟩
    have HL := Lib.hid hm
    have HR : Hid (decide (m = a) = r) := Lib.hid (by rw [← hr, ← hm]; simp [fitB])
    clear hr hc hm
    go_enter Try.func44, Try.ntmps44
    go_wp2_with fail
    go_region_held3 (fun w' => Kp Nw (W.alloc (.cells #[.int .i64 2, .int .i64 a, .int .i64 b] 49)) w' ∧ w'.cell? ⟨W.heap.size, 1, none⟩ = some (.int .i64 a) ∧ w'.cell? ⟨W.heap.size, 2, none⟩ = some (.int .i64 b))
      (first
        | exact ⟨(Kp.refl _ _).drew, C1.out, C2.out⟩
        | assumption)
      (first
        | (go_at_call 51
           refine (ciLast_any n k _ n1 (by omega) k1 (by omega)).mono ?_
           rw [HL.out]
           rintro e w1 ⟨rfl, rfl⟩)
        | fail)
    go_wp2
    go_ret
    exact ⟨ret_bool HR.out, by first | exact Kp.al _ _ | exact (Kp.al _ _).drew⟩
  · obtain ⟨m, hm⟩ : ∃ m, (k - 1) % (n : Int) = m := ⟨_, rfl⟩
    have m1 : 0 ≤ m := by rw [← hm]; exact Int.emod_nonneg _ (by omega)
    have m2 : m ≤ 12 := by rw [← hm]; have := Int.emod_lt_of_pos ((k - 1)) (show 0 < (n : Int) by omega); omega
    have m3 : ((k - 1)).tmod (n : Int) = m := by rw [Int.tmod_eq_emod_of_nonneg (by omega)]; exact hm
    have m4 : IntKind.i64.wrap m = m := IntWalk.i64_in _ (by omega)
    have m5 : ¬ (n : Int) = 0 := by omega
    have m6 : ((n : Int) == 0) = false := by simpa using m5
    have HM := Lib.hid hm
    have q1 : IntKind.i64.wrap (k - 1) = k - 1 := IntWalk.i64_in _ (by omega)
    have m8 : ¬ n = 0 := by omega
    have HR : Hid (decide (m = a) = r) := Lib.hid (by rw [← hr, ← hm]; simp [fitB])
    clear hr hm hc
    go_enter Try.func44, Try.ntmps44
    go_wp2_with fail
    go_region_held3 (fun w' => Kp Nw (W.alloc (.cells #[.int .i64 3, .int .i64 a, .int .i64 b] 49)) w' ∧ w'.cell? ⟨W.heap.size, 1, none⟩ = some (.int .i64 a) ∧ w'.cell? ⟨W.heap.size, 2, none⟩ = some (.int .i64 b))
      (first
        | exact ⟨(Kp.refl _ _).drew, C1.out, C2.out⟩
        | assumption)
      (fail)
    go_wp2
    go_ret
    exact ⟨ret_bool HR.out, by first | exact Kp.al _ _ | exact (Kp.al _ _).drew⟩
  · obtain ⟨m, hm⟩ : ∃ m, fndD a (outs k n (marks 0 n)) 0 = m := ⟨_, rfl⟩
    have HL := Lib.hid hm
    have HR : Hid (decide (m = b) = r) := Lib.hid (by rw [← hr, ← hm]; simp [fitB])
    clear hr hc hm
    go_enter Try.func44, Try.ntmps44
    go_wp2_with fail
    go_region_held3 (fun w' => Kp Nw (W.alloc (.cells #[.int .i64 4, .int .i64 a, .int .i64 b] 49)) w' ∧ w'.cell? ⟨W.heap.size, 1, none⟩ = some (.int .i64 a) ∧ w'.cell? ⟨W.heap.size, 2, none⟩ = some (.int .i64 b))
      (first
        | exact ⟨(Kp.refl _ _).drew, C1.out, C2.out⟩
        | exact ⟨hkW2, keepc hkW2 C1.out (fun h => h), keepc hkW2 C2.out (fun h => h)⟩
        | exact ⟨hkW1, keepc hkW1 C1.out (fun h => h), keepc hkW1 C2.out (fun h => h)⟩
        | assumption)
      (first
        | (go_at_call 54
           refine (ciPeople_any n _ (by omega)).mono ?_
           rintro e w1 ⟨v1, rfl, hs1, hk1⟩
           have hkW1 := (‹Kp Nw (W.alloc (.cells #[.int .i64 4, .int .i64 a, .int .i64 b] 49)) _ ∧ _›.1).nw hk1)
        | (go_at_call 53
           refine (ciOrder_any v1 k (marks 0 n) _ _ hs1 (by rw [marks_length]; omega) k1 (by omega)).mono ?_
           rw [marks_length]
           rintro e w2 ⟨v2, rfl, hs2, hk2⟩
           have hkW2 := (‹Kp Nw (W.alloc (.cells #[.int .i64 4, .int .i64 a, .int .i64 b] 49)) _ ∧ _›.1).nw hk2)
        | (go_at_call 52
           refine (ciFind_any v2 _ a _ hs2.rd (by rw [outs_length]; omega)).mono ?_
           rw [HL.out]
           rintro e w3 ⟨rfl, rfl⟩)
        | fail)
    go_wp2
    go_ret
    exact ⟨ret_bool HR.out, (Kp.al W _).nw hkW2⟩
  · have HR : Hid (decide (a ≤ (n : Int)) = r) := Lib.hid (by rw [← hr]; simp [fitB])
    clear hr hc
    go_enter Try.func44, Try.ntmps44
    go_wp2
    go_ret
    exact ⟨ret_bool HR.out, by first | exact Kp.al _ _ | exact (Kp.al _ _).drew⟩

/-- is a circle hidden? -/
def hidB (n k : Int) : Bool := decide (1 ≤ n ∧ n ≤ 10) && decide (1 ≤ k ∧ k ≤ 12)
theorem pzHidden_any (n k : Int) (W : World) : Calls Try.prog 34 #[.int .i64 n, .int .i64 k] W fun e w' => e = .returned (.bool (hidB n k)) ∧ W = w' := by
  by_cases hA : 1 ≤ n ∧ n ≤ 10
  · obtain ⟨y1, y2⟩ := hA
    by_cases hB : 1 ≤ k ∧ k ≤ 12
    · obtain ⟨y3, y4⟩ := hB
      have hr : hidB n k = true := by simp [hidB]; omega
      rw [hr]
      clear hr
      go_enter Try.func34, Try.ntmps34
      go_wp2_with (first | ((with_reducible refine (l1In_yes k 1 12 _ y3 y4).mono ?_); rintro e w' ⟨rfl, rfl⟩) | ((with_reducible refine (l1In_yes n 1 10 _ y1 y2).mono ?_); rintro e w' ⟨rfl, rfl⟩))
      go_ret
      exact ⟨rfl, rfl⟩
    · have y3 : k < 1 ∨ 12 < k := by omega
      have hr : hidB n k = false := by simp [hidB]; omega
      rw [hr]
      clear hr hB
      go_enter Try.func34, Try.ntmps34
      go_wp2_with (first | ((with_reducible refine (l1In_no k 1 12 _ y3).mono ?_); rintro e w' ⟨rfl, rfl⟩) | ((with_reducible refine (l1In_yes n 1 10 _ y1 y2).mono ?_); rintro e w' ⟨rfl, rfl⟩))
      go_ret
      exact ⟨rfl, rfl⟩
  · have y1 : n < 1 ∨ 10 < n := by omega
    have hr : hidB n k = false := by simp [hidB]; omega
    rw [hr]
    clear hr hA
    go_enter Try.func34, Try.ntmps34
    go_wp2_with (first | ((with_reducible refine (l1In_no n 1 10 _ y1).mono ?_); rintro e w' ⟨rfl, rfl⟩))
    go_ret
    exact ⟨rfl, rfl⟩

/-- what DoesFit gives -/
def vDoesFit (p : Cu) (n k : Int) : Bool × Bool := if cluB p = true ∧ hidB n k = true then (fitB p n.toNat k, true) else (false, false)
end Go.Proofs.Ytcfghaeogbimeae
namespace Go.Proofs.Ytcfghaeogbimeae
open Go.ChangeShapes Go.WideShapes Go.ChangeAt Go.RowKit

def fitA (ps : List Cu) (n : Nat) (k : Int) : Bool := ps.all fun c => fitB c n k
/-- those of so many people that fit, of the first steps -/
def solN (ps : List Cu) (n : Nat) : Nat → List (List Int)
  | 0 => []
  | s + 1 => solN ps n s ++ if fitA ps n ((s : Int) + 1) = true then [[(n : Int), (s : Int) + 1]] else []
def solA (ps : List Cu) : Nat → List (List Int)
  | 0 => []
  | n + 1 => solA ps n ++ solN ps (n + 1) 12
theorem solN_len (ps : List Cu) (n : Nat) : ∀ s, (solN ps n s).length ≤ s
  | 0 => Nat.le_refl _
  | s + 1 => by
    have := solN_len ps n s
    rw [solN, List.length_append]
    split <;> simp <;> omega
theorem solA_len (ps : List Cu) : ∀ n, (solA ps n).length ≤ n * 12
  | 0 => Nat.zero_le _
  | n + 1 => by
    have := solA_len ps n
    have := solN_len ps (n + 1) 12
    rw [solA, List.length_append]
    omega
set_option maxRecDepth 100000 in
set_option maxHeartbeats 12800000 in
theorem pzAll_any (A : Option Addr) (m c : Nat) (ps : List Cu) (W : World) (hu : RdC W (.slice A m c) ps) (hn : ps.length = m) (hm : m ≤ 6) (hg : ps.all cluB = true) :
    Calls Try.prog 19 #[.slice A m c] W (MakesS W (solA ps 10)) := by
  obtain ⟨A', c', hA', hA⟩ := hu
  rw [hn] at hA'
  injection hA' with e1 e2 e3
  subst e1
  have HA := Lib.hid hA
  have HN := Lib.hid hn
  have HGD : Hid (∀ j, j < m → cluB (ps.getD j (0, 0, 0)) = true) := Lib.hid (fun j hj => by
    have := List.all_eq_true.1 hg (ps[j]'(by omega)) (List.getElem_mem _)
    have e : ps.getD j (0, 0, 0) = ps[j]'(by omega) := by simp [List.getD, show j < ps.length by omega]
    rw [e]; exact this)
  have m0 : (0 : Int) ≤ m := Int.natCast_nonneg _
  clear hA hn hg e2 e3
  go_enter Try.func19, Try.ntmps19
  go_wp2
  go_loopw [3, 4] (fun o i wr => ∃ (n : Nat) (v : Value), n ≤ 10 ∧ i = .int .i64 ((n : Int) + 1) ∧ v = o ∧ Hid (SS wr W.heap.size wr.heap.size v (solA ps n)) ∧ Hid (Kp Nw W wr)) (fun _ i _ => 11 - (intOf i).toNat)
  case atStart => exact ⟨0, _, Nat.zero_le _, rfl, rfl, Lib.hid (SS.nil _ _ _), Lib.hid (Kp.refl _ _)⟩
  case round =>
    rename_i wr
    obtain ⟨n, v, hn10, rfl, rfl, HS, HK⟩ := hrel
    have n0 : (0 : Int) ≤ n := Int.natCast_nonneg _
    by_cases hlt : n < 10
    · have j1 : (n : Int) + 1 ≤ 10 := by omega
      go_wp2
      go_loopw [3, 5] (fun o i wy => ∃ (s : Nat) (v : Value) (wz : World), s ≤ 12 ∧ i = .int .i64 ((s : Int) + 1) ∧ v = o ∧ wz = wy ∧ Hid (SS wz W.heap.size wz.heap.size v (solA ps n ++ solN ps (n + 1) s)) ∧ Hid (Kp Nw W wz)) (fun _ i _ => 13 - (intOf i).toNat)
      case atStart => exact ⟨0, _, _, Nat.zero_le _, rfl, rfl, rfl, Lib.hid (by simpa [solN] using HS.out), HK⟩
      case round =>
        obtain ⟨s, v, wz, hs12, rfl, rfl, rfl, HSS, HKZ⟩ := hrel
        have s0 : (0 : Int) ≤ s := Int.natCast_nonneg _
        by_cases hlt2 : s < 12
        · have j2 : (s : Int) + 1 ≤ 12 := by omega
          have j3 : (1 : Int) ≤ (s : Int) + 1 := by omega
          go_wp2
          go_loopw [6, 19] (fun fl i wu => ∃ (q : Nat) (wt : World), q ≤ m ∧ i = .int .i64 q ∧ fl = .bool ((ps.take q).all fun c => fitB c (n + 1) ((s : Int) + 1)) ∧ wt = wu ∧ Hid (Kp Nw wz wt)) (fun _ i _ => m - (intOf i).toNat)
          case atStart => exact ⟨0, _, Nat.zero_le _, rfl, rfl, rfl, Lib.hid (Kp.refl _ _)⟩
          case round =>
            obtain ⟨q, wt, hqm, rfl, rfl, rfl, HKT⟩ := hrel
            have q0 : (0 : Int) ≤ q := Int.natCast_nonneg _
            by_cases hq : q < m
            · have q1 : (q : Int) < m := by omega
              have hql : q < ps.length := by rw [HN.out]; exact hq
              obtain ⟨g, o, rfl, hc⟩ := HA.out q hql
              have hcl := HGD.out q hq
              obtain ⟨p, hp⟩ : ∃ p, ps.getD q (0, 0, 0) = p := ⟨_, rfl⟩
              rw [hp] at hc hcl
              have hx : ps[q] = p := by rw [← hp]; simp [hql]
              obtain ⟨a0, a1, a2⟩ := hc.kp (HKZ.out.nw HKT.out) (fun h => h)
              have HX : Hid (((ps.take (q + 1)).all fun c => fitB c (n + 1) ((s : Int) + 1)) = (((ps.take q).all fun c => fitB c (n + 1) ((s : Int) + 1)) && fitB p (n + 1) ((s : Int) + 1))) := Lib.hid (by rw [List.take_succ_eq_append_getElem hql, List.all_append, hx]; simp)
              obtain ⟨b, hb⟩ : ∃ b, ((ps.take q).all fun c => fitB c (n + 1) ((s : Int) + 1)) = b := ⟨_, rfl⟩
              rw [hb] at HX ⊢
              have HF := Lib.hid (fun w => pzFits_any p (n + 1) ((s : Int) + 1) w hcl (by omega) (by omega) j3 j2)
              obtain ⟨d, hd⟩ : ∃ d, fitB p (n + 1) ((s : Int) + 1) = d := ⟨_, rfl⟩
              rw [hd] at HX HF
              clear hc hp hx hb hd hql hcl
              cases b
              · go_wp2
                go_roundw
                case rel => exact ⟨q + 1, _, by omega, by go_num, by rw [HX.out]; rfl, rfl, Lib.hid (HKT.out.nw (.al _ _))⟩
                case measure => simp [intOf]; omega
              · go_wp2_with fail
                refine (HF.out _).mono ?_
                rintro e w5 ⟨rfl, hk5⟩
                have HK5 := Lib.hid ((HKT.out.nw (.al _ _)).nw hk5)
                clear hk5
                go_wp2
                go_roundw
                case rel => exact ⟨q + 1, _, by omega, by go_num, by rw [HX.out]; rfl, rfl, HK5⟩
                case measure => simp [intOf]; omega
            · have e : q = m := by omega
              subst e
              have HFA : Hid (((ps.take q).all fun c => fitB c (n + 1) ((s : Int) + 1)) = fitA ps (n + 1) ((s : Int) + 1)) := Lib.hid (by rw [List.take_of_length_le (by rw [HN.out]; exact Nat.le_refl _)]; rfl)
              rw [HFA.out]
              have HSN : Hid (solN ps (n + 1) (s + 1) = solN ps (n + 1) s ++ if fitA ps (n + 1) ((s : Int) + 1) = true then [[((n + 1 : Nat) : Int), (s : Int) + 1]] else []) := Lib.hid rfl
              have HLL : (solA ps n ++ solN ps (n + 1) s).length ≤ 1000 := by
                have := solA_len ps n
                have := solN_len ps (n + 1) s
                rw [List.length_append]
                omega
              obtain ⟨acc, hacc⟩ : ∃ acc, solA ps n ++ solN ps (n + 1) s = acc := ⟨_, rfl⟩
              have HAC : Hid (solA ps n ++ solN ps (n + 1) (s + 1) = acc ++ if fitA ps (n + 1) ((s : Int) + 1) = true then [[(n : Int) + 1, (s : Int) + 1]] else []) := Lib.hid (by rw [HSN.out, ← List.append_assoc, hacc]; push_cast; rfl)
              rw [hacc] at HSS HLL
              obtain ⟨b, hb⟩ : ∃ b, fitA ps (n + 1) ((s : Int) + 1) = b := ⟨_, rfl⟩
              rw [hb] at HAC ⊢
              have HST := Lib.hid (HSS.out.nw HKT.out)
              have HKW := Lib.hid (HKZ.out.nw HKT.out)
              have hzt : wz.heap.size ≤ wt.heap.size := HKT.out.size
              have HST := Lib.hid (HST.out.from (Nat.le_refl _) hzt)
              have hzW : W.heap.size ≤ wt.heap.size := HKW.out.size
              clear hacc hb HFA HSN
              cases b
              · go_wp2
                go_roundw
                case rel => exact ⟨s + 1, _, _, by omega, by go_num, rfl, rfl, Lib.hid (by rw [HAC.out]; simpa using HST.out), HKW⟩
                case measure => simp [intOf]; omega
              · have HRO := Lib.hid (Sl.lit2 wt ((n : Int) + 1) ((s : Int) + 1))
                have k1 : Kp Nw wt (wt.alloc (.cells #[.int .i64 ((n : Int) + 1), .int .i64 ((s : Int) + 1)] 3)) := .al _ _
                have c1 : ((wt.alloc (.cells #[.int .i64 ((n : Int) + 1), .int .i64 ((s : Int) + 1)] 3)).alloc (.cells #[.slice (some ⟨wt.heap.size, 0, none⟩) 2 2] 46)).cell? ⟨wt.heap.size + 1, 0, none⟩ = some (.slice (some ⟨wt.heap.size, 0, none⟩) 2 2) := by simp [World.cell?_alloc_at]
                have HC1 := Lib.hid c1
                clear c1
                go_wp2_with (first | (at_builtin; refine wpList_ss wt _ rfl (.tmp 32) (.tmp 36) rfl W.heap.size wt.heap.size (wt.heap.size + 1) v (.slice (some ⟨wt.heap.size, 0, none⟩) 2 2) acc [(n : Int) + 1, (s : Int) + 1] rfl rfl HST.out (k1.alloc _) (Nat.le_refl _) ((HRO.out.below (Kp.al _ _).below')) HC1.out (by omega) hzW ?_))
                intro v5 w5 hs5 hk5
                have kk : Kp (fun b => v.ownBlock = some b) wt w5 := ((k1.alloc _).mono (fun _ _ h => h.elim)).trans hk5
                have hown : ∀ g, v.ownBlock = some g → W.heap.size ≤ g := fun g hg => (HST.out.own g hg).1
                have HK5 := Lib.hid (HKW.out.after kk (fun g hg e => by have := hown g e; omega))
                have HS5 := Lib.hid hs5
                clear hs5 hk5 kk
                go_wp2
                go_roundw
                case rel => exact ⟨s + 1, _, _, by omega, by go_num, rfl, rfl, Lib.hid (by rw [HAC.out]; simpa using HS5.out), HK5⟩
                case measure => simp [intOf]; omega
        · have e : s = 12 := by omega
          subst e
          have HSA : Hid (solA ps (n + 1) = solA ps n ++ solN ps (n + 1) 12) := Lib.hid rfl
          go_wp2
          go_roundw
          case rel => exact ⟨n + 1, _, by omega, by go_num, rfl, Lib.hid (by rw [HSA.out]; exact HSS.out), HKZ⟩
          case measure => simp [intOf]; omega
    · have e : n = 10 := by omega
      subst e
      go_wp2
      go_ret
      exact ⟨_, rfl, HS.out, HK.out⟩
end Go.Proofs.Ytcfghaeogbimeae
namespace Go.Proofs.Ytcfghaeogbimeae
open Go.ChangeShapes Go.WideShapes Go.ChangeAt Go.RowKit

theorem puz_parts {ps : List Cu} (h : puzB ps = true) : ps.length ≤ 6 ∧ ps.all cluB = true := by
  unfold puzB at h
  rw [Bool.and_eq_true, decide_eq_true_eq] at h
  exact h
theorem box3 (W : World) (p : Cu) {w' : World} (hk : Kp Nw (W.alloc (.cells #[.int .i64 p.1, .int .i64 p.2.1, .int .i64 p.2.2] 49)) w') : At3 w' W.heap.size 0 p := by
  have h : At3 (W.alloc (.cells #[.int .i64 p.1, .int .i64 p.2.1, .int .i64 p.2.2] 49)) W.heap.size 0 p := by
    refine ⟨?_, ?_, ?_⟩ <;> simp [World.cell?_alloc_at]
  exact h.kp hk (fun h => h)

theorem pzSolved_any (A : Option Addr) (n c : Nat) (ps : List Cu) (W : World) (hu : RdC W (.slice A n c) ps) (hn : ps.length = n) (hg : puzB ps = true) :
    Calls Try.prog 28 #[.slice A n c] W (BoolB W (decide ((solA ps 10).length = 1))) := by
  obtain ⟨h1, h2⟩ := puz_parts hg
  have HP := Lib.hid (pzAll_any A n c ps W hu hn (by omega) h2)
  obtain ⟨m, hm⟩ : ∃ m, (solA ps 10).length = m := ⟨_, rfl⟩
  have HM := Lib.hid hm
  rw [hm]
  clear hu hn hg h1 h2 hm
  go_enter Try.func28, Try.ntmps28
  go_wp2_with fail
  refine HP.out.mono ?_
  rintro e w1 ⟨v, rfl, hs, hk⟩
  obtain ⟨A1, c1, rfl⟩ := hs.val HM.out
  have HK := Lib.hid hk
  clear hs hk
  by_cases h : m = 1
  · subst h
    go_wp2
    go_ret
    exact ⟨rfl, HK.out⟩
  · have y1 : ¬ (m : Int) = 1 := by omega
    have y2 : ((m : Int) == 1) = false := by simpa using y1
    have HD : Hid (decide (m = 1) = false) := Lib.hid (decide_eq_false h)
    go_wp2
    go_ret
    exact ⟨by rw [HD.out] <;> rfl, HK.out⟩

def vCountSol (ps : List Cu) : Int × Bool := if puzB ps = true then ((solA ps 10).length, true) else (0, false)
def vSolutions (ps : List Cu) : List (List Int) × Bool := if puzB ps = true then (solA ps 10, true) else ([], false)
def vIsSolved (ps : List Cu) : Bool × Bool := if puzB ps = true then (decide ((solA ps 10).length = 1), true) else (false, false)

end Go.Proofs.Ytcfghaeogbimeae
