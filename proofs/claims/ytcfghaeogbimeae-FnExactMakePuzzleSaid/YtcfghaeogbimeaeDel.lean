/- The library's Delete and IndexFunc on a row of people, and the comparison of two people; no condition but that the row has at most a thousand places. -/
import Derived.Test.YtcfghaeogbimeaePeople
import Derived.Laws.StructEq
import Derived.Deep.RegionHeld3
namespace Go.Proofs.Ytcfghaeogbimeae
open Go.ChangeShapes Go.WideShapes Go.ChangeAt Go.RowKit

theorem step_append_run (w w' : World) {ops : Array Oper} {o : Oper} {a : Act} {K : Act → World → Prop} {Q : Exit → Act → World → Prop} {E : Prop} (hgd : o.guard = none) (s x : Operand) (t : TypeId)
    (ho : o.op = .call { callee := .builtin .append, args := #[s, x], argTypes := #[t, t] }) (u y r : Value) (hs : a.eval s = u) (hx : a.eval x = y)
    (hr : (Builtin.append_ #[t, t] o.type #[u, y]).run Try.prog w = .ok r w') (h : K (a.put o.dst r) w') :
    if Region.wanted o (yielded ops a.tmps) = true then Oper.wp Try.prog o a w K Q else E := by
  have hw : Region.wanted o (yielded ops a.tmps) = true := by simp [Region.wanted, hgd]
  rw [if_pos hw]
  unfold Oper.wp execOp
  simp only [ho, resolve, invoke, builtin, Sem.run_bind, Sem.run_pure, Result.andThen_ok, List.map_toArray, List.map_cons, List.map_nil, hs, hx, hr]
  exact h

theorem is_yes (a b : Int) (W : World) :
    Calls Try.prog 75 #[.agg #[.int .i64 a, .int .i64 b], .agg #[.int .i64 a, .int .i64 b]] W fun e w' => e = .returned (.bool true) ∧ Kp Nw W w' := by
  go_enter Try.func75, Try.ntmps75
  go_wp2
  go_ret
  exact ⟨rfl, (Kp.al _ _).nw (.al _ _)⟩

theorem is_no (a b c d : Int) (h : a ≠ c) (W : World) :
    Calls Try.prog 75 #[.agg #[.int .i64 a, .int .i64 b], .agg #[.int .i64 c, .int .i64 d]] W fun e w' => e = .returned (.bool false) ∧ Kp Nw W w' := by
  go_enter Try.func75, Try.ntmps75
  go_wp2
  go_ret
  exact ⟨rfl, (Kp.al _ _).nw (.al _ _)⟩

set_option maxHeartbeats 800000 in
theorem delete_any (L cap i : Nat) (ps : List (Int × Int)) (W : World) (hP : Ps W L cap ps) (hi : i < ps.length) :
    Calls Try.prog 72 #[.slice (some ⟨L, 0, none⟩) ps.length cap, .int .i64 i, .int .i64 ((i : Int) + 1)] W fun e w' => e = .returned (.slice (some ⟨L, 0, none⟩) (ps.length - 1) cap) ∧ Ps w' L cap (ps.eraseIdx i) ∧ Kp (fun b => b = L) W w' := by
  obtain ⟨n, hn⟩ : ∃ n, ps.length = n := ⟨_, rfl⟩
  have hb : n ≤ cap ∧ cap ≤ 1000000 := by
    obtain ⟨_, _, _, h1, h2, _⟩ := hP
    omega
  obtain ⟨hb1, hb2⟩ := hb
  rw [hn] at hi
  have c1 := pcut_to L n cap i (by omega)
  obtain ⟨Ad, had, c2⟩ := pcut_from L n cap (i + 1) (by omega) (by omega)
  rw [show ((i + 1 : Nat) : Int) = (i : Int) + 1 from rfl] at c2
  obtain ⟨w1, hr1, hP1, hk1⟩ := run_del W.drew 79 L cap i ps hP (by omega) Ad (cap - (i + 1)) (by rw [hn]; exact had)
  rw [hn] at hr1
  have HP1 := Lib.hid hP1
  have HK1 := Lib.hid hk1
  have HN := Lib.hid hn
  have i0 : (0 : Int) ≤ i := Int.natCast_nonneg _
  have i1 : (i : Int) + 1 ≤ n := by omega
  have i2 : (n : Int) ≤ cap := by omega
  have i3 : (0 : Int) ≤ (i : Int) + 1 := by omega
  have i4 : ((i : Int) + 1).toNat = i + 1 := by omega
  have i5 : (i : Int) ≤ (i : Int) + 1 := by omega
  have i6 : ((i : Int) == (i : Int) + 1) = false := by simp; omega
  have HR := Lib.hid hr1
  have hAD := Lib.hid had
  rw [hn]
  clear hn hP1 hk1 hP had hr1
  go_enter Try.func72, Try.ntmps72
  go_wp2_with fail
  go_region_held3 (fun w' => Kp (fun b => b = L) W w') (first | exact (Kp.refl _ _).drew | exact ((Kp.refl _ _).drew).trans HK1.out)
    ((refine step_append_run W.drew w1 (by rfl) (.tmp 22) (.tmp 25) _ (by rfl) _ _ _ (by rfl) (by rfl) HR.out ?_))
  have el : (ps.eraseIdx i).length = n - 1 := by rw [List.length_eraseIdx, if_pos (by rw [HN.out]; exact hi), HN.out]
  have c3 := pcut_mid L (n - 1) cap (n - 1) n (by omega) (by omega) (by omega)
  obtain ⟨w2, hr2, hP2, hk2⟩ := run_clr w1 0 L cap n (cap - (n - 1)) (ps.eraseIdx i) HP1.out (by omega) (by omega)
  rw [el] at hr2
  rw [show n - (n - 1) = 1 by omega] at c3
  have HP2 := Lib.hid hP2
  have HK2 := Lib.hid ((((Kp.refl _ W).drew).trans HK1.out).trans hk2)
  clear hP2 hk2 el
  go_wp2
  go_ret
  exact ⟨rfl, HP2.out, HK2.out⟩

set_option maxHeartbeats 1600000 in
theorem indexFunc_any (L cap i : Nat) (ps : List (Int × Int)) (W : World) (hP : Ps W L cap ps) (hi : i < ps.length) (q : Int × Int) (hq : ps.getD i (0, 0) = q) (hne : ∀ j, j < i → (ps.getD j (0, 0)).1 ≠ q.1) :
    Calls Try.prog 74 #[.slice (some ⟨L, 0, none⟩) ps.length cap, .func (.func 75) #[.agg #[.int .i64 q.1, .int .i64 q.2]] #[]] W fun e w' => e = .returned (.int .i64 i) ∧ Kp Nw W w' := by
  obtain ⟨n, hn⟩ : ∃ n, ps.length = n := ⟨_, rfl⟩
  have hb : n ≤ cap ∧ cap ≤ 1000000 := by
    obtain ⟨_, _, _, h1, h2, _⟩ := hP
    omega
  obtain ⟨hb1, hb2⟩ := hb
  obtain ⟨q1, q2⟩ := q
  rw [hn] at hi ⊢
  have HN := Lib.hid hn
  have HP := Lib.hid hP
  have HQ := Lib.hid hq
  have HE := Lib.hid hne
  clear hn hP hq hne
  go_enter Try.func74, Try.ntmps74
  go_wp2
  go_loopw [5, 8] (fun _ k wr => ∃ j : Nat, j ≤ i ∧ k = .int .i64 j ∧ Kp Nw W wr) (fun _ k _ => i + 1 - (intOf k).toNat)
  case atStart => exact ⟨0, Nat.zero_le _, rfl, Kp.refl _ _⟩
  case round =>
    rename_i wr
    obtain ⟨j, hj, rfl, hk⟩ := hrel
    have hjn : j < ps.length := by rw [HN.out]; omega
    obtain ⟨c1, c2⟩ := (HP.out.kp hk (fun h => h)).cell j hjn
    obtain ⟨⟨x, y⟩, hx⟩ : ∃ x, ps.getD j (0, 0) = x := ⟨_, rfl⟩
    rw [hx] at c1 c2
    have HX := Lib.hid hx
    have HK := Lib.hid hk
    have j0 : (0 : Int) ≤ j := Int.natCast_nonneg _
    have j1 : (j : Int) < n := by omega
    clear hx hk hjn
    by_cases e : j < i
    · have hxq := HE.out j e
      rw [HX.out] at hxq
      have HXQ := Lib.hid hxq
      clear hxq
      go_wp2_with fail
      refine (is_no _ _ _ _ (fun h => HXQ.out h.symm) _).mono ?_
      rintro e w1 ⟨rfl, hk1⟩
      have HK1 := Lib.hid hk1
      clear hk1 c1 c2
      go_wp2
      go_roundw
      case rel => exact ⟨j + 1, by omega, by go_num, HK.out.nw HK1.out⟩
      case measure => simp [intOf]; omega
    · have ej : j = i := by omega
      subst ej
      have hxq := HX.out.symm.trans HQ.out
      injection hxq with e1 e2
      subst e1
      subst e2
      go_wp2_with fail
      refine (is_yes _ _ _).mono ?_
      rintro e w1 ⟨rfl, hk1⟩
      have HK1 := Lib.hid hk1
      clear hk1 c1 c2
      go_wp2
      go_ret
      exact ⟨rfl, HK.out.nw HK1.out⟩
end Go.Proofs.Ytcfghaeogbimeae
