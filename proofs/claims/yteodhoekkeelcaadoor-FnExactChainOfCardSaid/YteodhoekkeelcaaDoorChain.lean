/- Chains of numbers (ChainOf), in the program and in its model: both are the same; no condition but that the world holds the table of powers. -/
import Derived.Test.YteodhoekkeelcaaDoorTwo
import Derived.Deep.WholeRow
namespace Go.Proofs.YteodhoekkeelcaaDoor
open Go.ChangeShapes Go.WideShapes Go.ChangeAt Go.RowKit

/-- the next number of a chain -/
def nxt (p : Nat) : Nat := tl p + 1
theorem nxt_le (p : Nat) (h : 1 ≤ p) : nxt p ≤ p := by
  have h1 := gp_le p h
  have h2 := lt_gp p
  unfold nxt tl
  omega
/-- the chain from a number on -/
def chain (p : Nat) : List Int := if _h : nxt p < p then (p : Int) :: chain (nxt p) else [(p : Int)]
termination_by p
theorem chain_go (p : Nat) (h : nxt p < p) : chain p = (p : Int) :: chain (nxt p) := by rw [chain, dif_pos h]
theorem chain_end (p : Nat) (h : ¬ nxt p < p) : chain p = [(p : Int)] := by rw [chain, dif_neg h]
/-- behind j steps the last j digits are 1 -/
theorem ones (q j : Nat) (h1 : 1 ≤ q) (h : pw j ∣ q + 1) (hn : nxt q < q) : pw (j + 1) ∣ nxt q + 1 := by
  have g1 := gp_le q h1
  have g2 := lt_gp q
  have e : nxt q + 1 = 2 * (q + 1 - gp q) := by unfold nxt tl; omega
  have hl : pw j ≤ q + 1 := Nat.le_of_dvd (by omega) h
  have hj : j ≤ Nat.log2 q := by
    rcases Nat.lt_or_ge (Nat.log2 q) j with a | a
    · exfalso
      have hm : 2 * gp q ≤ pw j := by unfold gp; rw [← pw_succ]; exact Nat.pow_le_pow_right (by omega) a
      have : q + 1 = 2 * gp q := by omega
      unfold nxt tl at hn
      omega
    · exact a
  have hg : pw j ∣ gp q := Nat.pow_dvd_pow 2 hj
  rw [e, pw_succ]
  exact Nat.mul_dvd_mul_left 2 (Nat.dvd_sub h hg)
theorem ones_le (q j : Nat) (h : pw j ∣ q + 1) (hq : q ≤ 1000000000000) : j ≤ 40 := by
  have hl : pw j ≤ q + 1 := Nat.le_of_dvd (by omega) h
  rcases Nat.lt_or_ge 40 j with a | a
  · exfalso
    have : pw 40 ≤ pw j := Nat.pow_le_pow_right (by omega) (Nat.le_of_lt a)
    have e : pw 40 = 1099511627776 := by simp [pw]
    omega
  · exact a
theorem chain_len (p : Nat) : ∀ j, 1 ≤ p → p ≤ 1000000000000 → pw j ∣ p + 1 → j + (chain p).length ≤ 42 := by
  induction p using Nat.strongRecOn with
  | ind p ih =>
    intro j h1 h2 h3
    have := ones_le p j h3 h2
    by_cases hn : nxt p < p
    · have := ih (nxt p) hn (j + 1) (by unfold nxt; omega) (by omega) (ones p j h1 h3 hn)
      rw [chain_go p hn, List.length_cons]
      omega
    · rw [chain_end p hn]
      simp; omega
theorem chain_le (p : Nat) (h1 : 1 ≤ p) (h2 : p ≤ 1000000000000) : (chain p).length ≤ 42 := by
  have := chain_len p 0 h1 h2 (by simp [pw])
  omega

/-- a list of one number in a block of its own -/
theorem oneSl (W : World) (p : Int) : Sl (W.alloc (.cells #[.int .i64 p] 3)) W.heap.size (.slice (some ⟨W.heap.size, 0, none⟩) 1 1) ([] ++ [p]) := by
  refine ⟨rfl, .inr ⟨W.heap.size, 1, #[.int .i64 p], rfl, Nat.le_refl _, heap_alloc_last W _, by simp, by unfold maxLen; omega, by simp, by simp⟩⟩

set_option maxRecDepth 100000 in
set_option maxHeartbeats 1600000 in
theorem sChainOf_yes (p : Nat) (W : World) (h : In p 1 1000000000000) :
    Calls Tryd.prog 23 #[.int .i64 p] W (ListB W (chain p) true) := by
  have h1 := h.lo; have h2 := h.hi
  have HL := Lib.hid (chain_le p (by omega) (by omega))
  have b0 : ((tl p : Nat) : Int) + 1 ≤ p := by have := nxt_le p (by omega); unfold nxt at this; omega
  go_enter Tryd.func23, Tryd.ntmps23
  go_wp2_with (first | ((with_reducible refine (twGood_yes _ _ h).mono ?_); rintro e w' ⟨rfl, rfl⟩))
  go_loopw [0, 4, 5] (fun x s _ wr => ∃ (q : Nat) (v : Value) (pre : List Int), 1 ≤ q ∧ q ≤ p ∧ x = .int .i64 q ∧ v = s ∧ Sl wr W.heap.size v (pre ++ [(q : Int)]) ∧ Hid (pre ++ chain q = chain p) ∧ Kp Nw W wr) (fun x _ _ _ => (intOf x).toNat)
  case atStart => exact ⟨p, _, [], by omega, Nat.le_refl _, rfl, rfl, (oneSl W p), Lib.hid rfl, (Kp.refl _ _).alloc _⟩
  case round =>
    skip
    obtain ⟨q, v, pre, q1, q2, rfl, rfl, hs, he, hk⟩ := hrel
    have HS := Lib.hid hs
    have HK := Lib.hid hk
    clear hs hk
    have hle := nxt_le q q1
    have plen : pre.length + 1 ≤ 42 := by
      have := HL.out
      rw [← he.out, List.length_append] at this
      have c1 : 1 ≤ (chain q).length := by
        rw [chain]; split <;> simp
      omega
    by_cases hn : nxt q < q
    · have HE : Hid ((pre ++ [(q : Int)]) ++ chain (nxt q) = chain p) := Lib.hid (by rw [← he.out, chain_go q hn]; simp)
      have e : (((tl q : Nat) : Int) + 1 == (q : Int)) = false := by simp; unfold nxt at hn; omega
      have b1 : ((tl q : Nat) : Int) + 1 ≤ q := by unfold nxt at hle; omega
      clear he
      go_wp2_with (first | ((with_reducible refine (sTl_any q _ (by constructor <;> omega)).mono ?_); rintro e w' ⟨rfl, rfl⟩) | (at_builtin; refine wpList_app _ rfl (.tmp 18) (.tmp 20) rfl W.heap.size v _ (pre ++ [(q : Int)]) [((tl q : Nat) : Int) + 1] rfl rfl (HS.out.below (Kp.al _ _).below') (Rd.one (g := wr.heap.size) (by simp)) nil_one (by simp; omega) (by have := HK.out.size; simp; omega) ?_))
      intro v' w4 hs4 hk4 _
      have HS4 := Lib.hid hs4
      have HK4 := Lib.hid ((HK.out.nw (.al _ _)).own (HS.out.below (Kp.al _ _).below') hk4)
      clear hs4 hk4
      go_wp2
      go_roundw
      case rel => exact ⟨nxt q, v', pre ++ [(q : Int)], by unfold nxt; omega, by omega, by unfold nxt; go_num, rfl, by unfold nxt; simpa using HS4.out, HE, HK4.out⟩
      case measure => simp [intOf]; unfold nxt at hn; omega
    · have HE : Hid (pre ++ [(q : Int)] = chain p) := Lib.hid (by rw [← he.out, chain_end q hn])
      have e : (((tl q : Nat) : Int) + 1 == (q : Int)) = true := by simp; unfold nxt at hn hle; omega
      have b1 : ((tl q : Nat) : Int) + 1 ≤ q := by unfold nxt at hle; omega
      clear he
      go_wp2_with (first | ((with_reducible refine (sTl_any q _ (by constructor <;> omega)).mono ?_); rintro e w' ⟨rfl, rfl⟩))
      go_ret2
      exact ⟨v, rfl, by rw [← HE.out]; exact HS.out, HK.out⟩

set_option maxRecDepth 100000 in
set_option maxHeartbeats 1600000 in
theorem iChainOf_yes (p : Nat) (W : World) (hP : Pow W) (h : In p 1 1000000000000) :
    Calls Tryd.prog 24 #[.int .i64 p] W (ListB W (chain p) true) := by
  have h1 := h.lo; have h2 := h.hi
  have HL := Lib.hid (chain_le p (by omega) (by omega))
  have b0 : ((tl p : Nat) : Int) + 1 ≤ p := by have := nxt_le p (by omega); unfold nxt at this; omega
  go_enter Tryd.func24, Tryd.ntmps24
  go_wp2_with (first | ((with_reducible refine (isMany_yes _ _ h).mono ?_); rintro e w' ⟨rfl, rfl⟩) | ((with_reducible refine (iTl_any p _ (hP.nw (.al _ _)) h).mono ?_); rintro e w' ⟨rfl, rfl⟩))
  go_loopw [4, 5, 6] (fun s x y wr => ∃ (q : Nat) (v : Value) (pre : List Int), 1 ≤ q ∧ q ≤ p ∧ x = .int .i64 q ∧ y = .int .i64 (nxt q : Nat) ∧ v = s ∧ Sl wr W.heap.size v (pre ++ [(q : Int)]) ∧ Hid (pre ++ chain q = chain p) ∧ Kp Nw W wr) (fun _ x _ _ => (intOf x).toNat)
  case atStart => exact ⟨p, _, [], by omega, Nat.le_refl _, rfl, by unfold nxt; go_num, rfl, (oneSl W p), Lib.hid rfl, (Kp.refl _ _).alloc _⟩
  case round =>
    rename_i wr
    obtain ⟨q, v, pre, q1, q2, rfl, rfl, rfl, hs, he, hk⟩ := hrel
    have HS := Lib.hid hs
    have HK := Lib.hid hk
    clear hs hk
    have hle := nxt_le q q1
    have plen : pre.length + 1 ≤ 42 := by
      have := HL.out
      rw [← he.out, List.length_append] at this
      have c1 : 1 ≤ (chain q).length := by
        rw [chain]; split <;> simp
      omega
    by_cases hn : nxt q < q
    · have HE : Hid ((pre ++ [(q : Int)]) ++ chain (nxt q) = chain p) := Lib.hid (by rw [← he.out, chain_go q hn]; simp)
      have e : (((nxt q : Nat) : Int) != (q : Int)) = true := by simp; omega
      have n1 : 1 ≤ nxt q := by unfold nxt; omega
      have hle2 := nxt_le (nxt q) n1
      have b1 : ((tl (nxt q) : Nat) : Int) + 1 ≤ q := by unfold nxt at hle2 ⊢; unfold nxt at hn; omega
      clear he
      go_wp2_with (first | (at_builtin; refine wpList_app _ rfl (.tmp 23) (.tmp 25) rfl W.heap.size v _ (pre ++ [(q : Int)]) [((nxt q : Nat) : Int)] rfl rfl (HS.out.below (Kp.al _ _).below') (Rd.one (g := wr.heap.size) (by simp)) nil_one (by simp; omega) (by have := HK.out.size; simp; omega) ?_))
      intro v' w4 hs4 hk4 _
      have HS4 := Lib.hid hs4
      have HK4 := Lib.hid ((HK.out.nw (.al _ _)).own (HS.out.below (Kp.al _ _).below') hk4)
      clear hs4 hk4
      go_wp2_with (first | ((with_reducible refine (iTl_any (nxt q) _ (hP.nw HK4.out) (by constructor <;> omega)).mono ?_); rintro e w' ⟨rfl, rfl⟩))
      go_roundw
      case rel => exact ⟨nxt q, v', pre ++ [(q : Int)], by unfold nxt; omega, by omega, by go_num, by rw [show nxt (nxt q) = tl (nxt q) + 1 from rfl]; go_num, rfl, by simpa using HS4.out, HE, HK4.out⟩
      case measure => simp [intOf]; omega
    · have HE : Hid (pre ++ [(q : Int)] = chain p) := Lib.hid (by rw [← he.out, chain_end q hn])
      have e : (((nxt q : Nat) : Int) != (q : Int)) = false := by simp; omega
      clear he
      go_wp2
      go_ret2
      exact ⟨v, rfl, by rw [← HE.out]; exact HS.out, HK.out⟩

theorem sChainOf_no (p : Int) (W : World) (h : ¬ In p 1 1000000000000) : Calls Tryd.prog 23 #[.int .i64 p] W (ListB W [] false) := by
  go_enter Tryd.func23, Tryd.ntmps23
  go_wp2_with (first | ((with_reducible refine (twGood_no _ _ h).mono ?_); rintro e w' ⟨rfl, rfl⟩))
  go_ret2
  exact listB_nil _ _

theorem iChainOf_no (p : Int) (W : World) (h : ¬ In p 1 1000000000000) : Calls Tryd.prog 24 #[.int .i64 p] W (ListB W [] false) := by
  go_enter Tryd.func24, Tryd.ntmps24
  go_wp2_with (first | ((with_reducible refine (isMany_no _ _ h).mono ?_); rintro e w' ⟨rfl, rfl⟩))
  go_ret2
  exact listB_nil _ _

set_option maxHeartbeats 1600000 in
theorem lawChainOf_of (p : Int) (xs : List Int) (b : Bool) (W : World) (hlen : xs.length ≤ 1000000)
    (hS : Hid (∀ w, Kp Nw W w → Calls Tryd.prog 23 #[.int .i64 p] w (ListB w xs b))) (hI : Hid (∀ w, Kp Nw W w → Calls Tryd.prog 24 #[.int .i64 p] w (ListB w xs b))) :
    Calls Tryd.prog 7 #[.int .i64 p] W fun e w' => e = .returned (.bool true) ∧ Kp Nw W w' := by
  obtain ⟨n, hn⟩ : ∃ n, xs.length = n := ⟨_, rfl⟩
  have HL : Hid (xs.length ≤ maxLen) := Lib.hid (by unfold maxLen; omega)
  have hlen : n ≤ 1000000 := by omega
  have hn0 : (0 : Int) ≤ n := Int.natCast_nonneg _
  have HN := Lib.hid hn
  clear hn
  go_enter Tryd.func7, Tryd.ntmps7
  go_wp2_with fail
  refine (hS.out _ (.refl _ _)).mono ?_
  rintro e w1 ⟨v1, rfl, hs1, hk1⟩
  obtain ⟨A1, c1, rfl⟩ := hs1.val HN.out
  have HS1 := Lib.hid hs1; have HK1 := Lib.hid hk1; clear hs1 hk1
  go_wp2_with fail
  refine (hI.out _ HK1.out).mono ?_
  rintro e w2 ⟨v2, rfl, hs2, hk2⟩
  obtain ⟨A2, c2, rfl⟩ := hs2.val HN.out
  have O1 := Lib.hid HS1.out.own_ge
  have O2 := Lib.hid hs2.own_ge
  have HS1 := Lib.hid (HS1.out.below hk2.below')
  have HS2 := Lib.hid hs2; have HK2 := Lib.hid (HK1.out.nw hk2); have z2 := hk2.size; clear hs2 hk2
  go_wp2_with fail
  refine (eqIntS_same _ _ xs _ HS2.out.rd HS1.out.rd HL.out).mono ?_
  rintro e w3 ⟨rfl, d1, rfl⟩
  go_wp2_with fail
  refine (markIntS_any _ xs 1 _ _ (HS2.out.drewN d1) (by omega) (by omega) (by rw [HN.out]; omega)).mono ?_
  rintro e w4 ⟨rfl, hs4, hk4⟩
  rw [HN.out] at hs4 ⊢
  have HS1 := Lib.hid ((HS1.out.drewN d1).kp hk4 (fun g a b => by have := (O1.out g a).2; have := (O2.out g b).1; omega))
  have HS4 := Lib.hid hs4
  have HK4 := Lib.hid ((HK2.out.drewN d1).after hk4 (fun g hg b => by have := (O2.out g b).1; have := HK1.out.size; omega))
  clear hs4 hk4
  go_wp2_with fail
  refine (heldIntS_any _ 1 n _ HS4.out.rd (by omega) (by omega) (by omega)).mono ?_
  rintro e w5 ⟨rfl, rfl⟩
  go_wp2_with fail
  refine (hI.out _ HK4.out).mono ?_
  rintro e w6 ⟨v6, rfl, hs6, hk6⟩
  obtain ⟨A6, c6, rfl⟩ := hs6.val HN.out
  have HS4 := Lib.hid (HS4.out.below hk6.below')
  have HS1 := Lib.hid (HS1.out.below hk6.below')
  have HK6 := Lib.hid (HK4.out.nw hk6)
  have HS6 := Lib.hid hs6
  clear hs6 hk6
  go_wp2_with fail
  refine (eqIntS_same _ _ xs _ HS6.out.rd HS1.out.rd HL.out).mono ?_
  rintro e w7 ⟨rfl, d2, rfl⟩
  go_wp2_with fail
  refine (heldIntS_any _ 1 n _ (HS4.out.drewN d2).rd (by omega) (by omega) (by omega)).mono ?_
  rintro e w8 ⟨rfl, rfl⟩
  go_wp2
  go_ret
  exact ⟨rfl, HK6.out.drewN d2⟩

theorem lawChainOf (p : Int) (W : World) (hP : Pow W) :
    Calls Tryd.prog 7 #[.int .i64 p] W fun e w' => e = .returned (.bool true) ∧ Kp Nw W w' := by
  by_cases h : In p 1 1000000000000
  · have h1 := h.lo; have h2 := h.hi
    obtain ⟨n, rfl⟩ : ∃ n : Nat, p = n := ⟨p.toNat, by omega⟩
    exact lawChainOf_of n (chain n) true W (by have := chain_le n (by omega) (by omega); omega) (Lib.hid fun w _ => sChainOf_yes n w h) (Lib.hid fun w hk => iChainOf_yes n w (hP.nw hk) h)
  · exact lawChainOf_of p [] false W (by simp) (Lib.hid fun w _ => sChainOf_no p w h) (Lib.hid fun w hk => iChainOf_no p w h)
end Go.Proofs.YteodhoekkeelcaaDoor
