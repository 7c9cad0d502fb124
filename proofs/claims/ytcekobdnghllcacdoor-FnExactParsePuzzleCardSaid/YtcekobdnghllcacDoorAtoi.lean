/- The program's reading of a number (parseNumber): exactly the numerals without superfluous zeros up to a bound; in a world that holds the library's table of the powers of ten and its two errors. -/
import Derived.Test.YtcekobdnghllcacDoorItoa
import Derived.Test.YtcekobdnghllcacDoorCanon
import Derived.Lib.SmallJoins
namespace Go.Proofs.YtcekobdnghllcacDoor
open Go.ChangeShapes Go.WideShapes Go.ChangeAt Go.RowKit Go.Joins

theorem parseUint_digits : ∀ (l : List UInt8) (acc : Nat), l.all isDig = true → l.foldl (fun a b => 10 * a + (b.toNat - 48)) acc < 9223372036854775808 → Lib.parseUint10 acc l = .ok (l.foldl (fun a b => 10 * a + (b.toNat - 48)) acc) := by
  intro l
  induction l with
  | nil => intro acc _ _; rfl
  | cons c r ih =>
    intro acc h hb
    rw [List.all_cons, Bool.and_eq_true] at h
    have hc := of_decide_eq_true h.1
    rw [List.foldl_cons] at hb ⊢
    have mono : ∀ (l : List UInt8) (a : Nat), a ≤ l.foldl (fun a b => 10 * a + (b.toNat - 48)) a := by
      intro l
      induction l with
      | nil => intro a; exact Nat.le_refl _
      | cons x s ih => intro a; rw [List.foldl_cons]; have := ih (10 * a + (x.toNat - 48)); omega
    have hm := mono r (10 * acc + (c.toNat - 48))
    rw [Lib.parseUint10, if_pos hc, if_neg (by omega), if_neg (by omega), Nat.mul_comm acc 10]
    exact ih _ h.2 hb
theorem atoi_canon (l : List UInt8) (h : canon l = true) (hb : val l < 9223372036854775808) : Lib.atoiAll l = .ok (val l : Int) := by
  cases l with
  | nil => simp [canon] at h
  | cons c r =>
    have hall : (c :: r).all isDig = true := by unfold canon at h; simp only [Bool.and_eq_true] at h; exact h.1.2
    have hc : isDig c = true := by rw [List.all_cons, Bool.and_eq_true] at hall; exact hall.1
    have hc' := of_decide_eq_true hc
    have e1 : ¬ (c.toNat = 43) := by omega
    have e2 : ¬ (c.toNat = 45) := by omega
    have e3 : Lib.parseUint10 0 (c :: r) = .ok (val (c :: r)) := parseUint_digits _ 0 hall hb
    unfold Lib.atoiAll
    simp only [e1, e2, or_self, if_false]
    have e4 : Lib.parseMag (c :: r) = .ok (val (c :: r)) := by unfold Lib.parseMag; rw [if_neg (by simp)]; exact e3
    rw [e4]
    simp only [not_false_eq_true, true_and, false_and, if_false]
    rw [if_neg (by omega)]

/-- the world holds the library's table and its two errors -/
structure Tabs (W : World) : Prop where
  tab : Tab W
  syn : ∃ tp p, W.var? Tryd.prog "strconv.ErrSyntax" = some #[.iface tp p]
  rng : ∃ tp p, W.var? Tryd.prog "strconv.ErrRange" = some #[.iface tp p]
theorem gSyn : Tryd.prog.globalNamed "strconv.ErrSyntax" = some 3 := by kernel_rfl
theorem gRng : Tryd.prog.globalNamed "strconv.ErrRange" = some 4 := by kernel_rfl
theorem var_nw {w w' : World} {n : String} {g : Nat} {x : Array Value} (hg : Tryd.prog.globalNamed n = some g) (h : w.var? Tryd.prog n = some x) (hk : Kp Nw w w') : w'.var? Tryd.prog n = some x := by
  unfold World.var? at h ⊢
  rw [hg, Option.bind_some] at h ⊢
  have hl : g < w.heap.size := by
    rcases Nat.lt_or_ge g w.heap.size with a | a
    · exact a
    · rw [Array.getElem?_eq_none a] at h; cases h
  rw [hk.block _ hl (fun h => h)]
  exact h
theorem Tabs.nw {w w' : World} (h : Tabs w) (hk : Kp Nw w w') : Tabs w' := by
  obtain ⟨h1, ⟨a, b, h2⟩, ⟨c, d, h3⟩⟩ := h
  exact ⟨h1.nw hk, ⟨a, b, var_nw gSyn h2 hk⟩, ⟨c, d, var_nw gRng h3 hk⟩⟩

theorem atoi_ok (l : List UInt8) (v : Int) (W : World) (hl : l.length ≤ 140737488355328) (h : Lib.atoiAll l = .ok v) :
    Calls Tryd.prog 37 #[.string ⟨l.toArray⟩] W fun e w' => e = .returned (.tuple #[.int .i64 v, .nilIface]) ∧ Kp Nw W w' := by
  refine (Tryd.strconv_Atoi_ok ⟨l.toArray⟩ (by show l.toArray.size ≤ _; rw [List.size_toArray]; omega) v h W).mono ?_
  rintro e w' ⟨rfl, hw⟩
  refine ⟨rfl, ?_⟩
  rcases hw with rfl | ⟨t, rfl⟩
  · exact Kp.refl _ _
  · exact Kp.of_below (below_bytesWorld _ _ _ _ (Nat.le_refl _))
theorem atoi_bad (l : List UInt8) (W : World) (hT : Tabs W) (hl : l.length ≤ 140737488355328) (h : ∀ v, Lib.atoiAll l ≠ .ok v) :
    Calls Tryd.prog 37 #[.string ⟨l.toArray⟩] W fun e w' => (∃ v t p, e = .returned (.tuple #[.int .i64 v, .iface t p])) ∧ Kp Nw W w' := by
  have hl' : (ByteArray.mk l.toArray).size ≤ 281474976710656 := by show l.toArray.size ≤ _; rw [List.size_toArray]; omega
  obtain ⟨_, ⟨a, b, h2⟩, ⟨c, d, h3⟩⟩ := hT
  rcases e : Lib.atoiAll l with v | _ | _
  · exact absurd e (h v)
  · refine (Tryd.strconv_Atoi_syntax_var ⟨l.toArray⟩ hl' e a b W h2).mono ?_
    rintro e w' ⟨N, rfl, _, _, hb⟩
    exact ⟨⟨_, _, _, rfl⟩, Kp.of_below hb⟩
  · refine (Tryd.strconv_Atoi_range_var ⟨l.toArray⟩ hl' e c d W h3).mono ?_
    rintro e w' ⟨N, rfl, _, _, hb⟩
    exact ⟨⟨_, _, _, rfl⟩, Kp.of_below hb⟩

theorem parseNumber_yes (l : List UInt8) (most : Nat) (W : World) (hT : Tabs W) (hm : most ≤ 1000000) (hl : l.length ≤ 140737488355328) (hc : canon l = true) (hv : val l ≤ most) :
    Calls Tryd.prog 31 #[.string ⟨l.toArray⟩, .int .i64 most] W fun e w' => e = .returned (.tuple #[.int .i64 (val l), .bool true]) ∧ Kp Nw W w' := by
  have HA := Lib.hid (atoi_canon l hc (by omega))
  have HD := Lib.hid ((canon_iff l).1 hc)
  have HT := Lib.hid hT
  obtain ⟨v, hv'⟩ : ∃ v, val l = v := ⟨_, rfl⟩
  rw [hv'] at HA HD hv ⊢
  clear hc hT hv'
  go_enter Tryd.func31, Tryd.ntmps31
  go_wp2_with fail
  refine (atoi_ok l v _ hl HA.out).mono ?_
  rintro e w1 ⟨rfl, hk1⟩
  have HK1 := Lib.hid hk1
  clear hk1
  go_wp2_with fail
  refine (within_yes v 0 most _ (by omega) (by omega)).mono ?_
  rintro e w2 ⟨rfl, rfl⟩
  go_wp2_with fail
  refine (itoa_any v _ (HT.out.nw HK1.out).tab (by omega)).mono ?_
  rintro e w3 ⟨rfl, hk3⟩
  rw [HD.out]
  have HK3 := Lib.hid (HK1.out.nw hk3)
  clear hk3
  go_wp2
  go_ret2
  exact ⟨rfl, HK3.out⟩

set_option maxHeartbeats 800000 in
theorem parseNumber_no (l : List UInt8) (most : Nat) (W : World) (hT : Tabs W) (hm : most ≤ 1000000) (hl : l.length ≤ 140737488355328) (hc : ¬ (canon l = true ∧ val l ≤ most)) :
    Calls Tryd.prog 31 #[.string ⟨l.toArray⟩, .int .i64 most] W fun e w' => e = .returned (.tuple #[.int .i64 0, .bool false]) ∧ Kp Nw W w' := by
  have HT := Lib.hid hT
  clear hT
  by_cases hv : ∃ v, Lib.atoiAll l = .ok v
  · obtain ⟨v, hv⟩ := hv
    by_cases hr : 0 ≤ v ∧ v ≤ most
    · obtain ⟨n, rfl⟩ : ∃ n : Nat, v = n := ⟨v.toNat, by omega⟩
      have hd : Lib.decDigits n ≠ l := by
        intro e
        apply hc
        have h1 := (digits_canon n).1
        have h2 := (digits_canon n).2.1
        rw [e] at h1 h2
        exact ⟨h1, by omega⟩
      have HD : Hid ((Lib.decDigits n == l) = false) := Lib.hid (by simpa using hd)
      obtain ⟨d, hd2⟩ : ∃ d, Lib.decDigits n = d := ⟨_, rfl⟩
      have HD2 := Lib.hid hd2
      rw [hd2] at HD
      clear hd hc hd2
      go_enter Tryd.func31, Tryd.ntmps31
      go_wp2_with fail
      refine (atoi_ok l n _ hl hv).mono ?_
      rintro e w1 ⟨rfl, hk1⟩
      have HK1 := Lib.hid hk1
      clear hk1
      go_wp2_with fail
      refine (within_yes n 0 most _ (by omega) (by omega)).mono ?_
      rintro e w2 ⟨rfl, rfl⟩
      go_wp2_with fail
      refine (itoa_any n _ (HT.out.nw HK1.out).tab (by omega)).mono ?_
      rintro e w3 ⟨rfl, hk3⟩
      rw [HD2.out]
      have HK3 := Lib.hid (HK1.out.nw hk3)
      have hne := HD.out
      clear hk3
      go_wp2
      go_ret2
      exact ⟨rfl, HK3.out⟩
    · have hr' : v < 0 ∨ (most : Int) < v := by omega
      clear hc hr
      go_enter Tryd.func31, Tryd.ntmps31
      go_wp2_with fail
      refine (atoi_ok l v _ hl hv).mono ?_
      rintro e w1 ⟨rfl, hk1⟩
      have HK1 := Lib.hid hk1
      clear hk1
      go_wp2_with fail
      refine (within_no v 0 most _ hr').mono ?_
      rintro e w2 ⟨rfl, rfl⟩
      go_wp2
      go_ret2
      exact ⟨rfl, HK1.out⟩
  · have hb : ∀ v, Lib.atoiAll l ≠ .ok v := fun v e => hv ⟨v, e⟩
    clear hc hv
    go_enter Tryd.func31, Tryd.ntmps31
    go_wp2_with fail
    refine (atoi_bad l _ HT.out hl hb).mono ?_
    rintro e w1 ⟨⟨v, t, p, rfl⟩, hk1⟩
    have HK1 := Lib.hid hk1
    clear hk1 hb
    go_wp2
    go_ret2
    exact ⟨rfl, HK1.out⟩
end Go.Proofs.YtcekobdnghllcacDoor
