/- The model's reading of a number below a million (l1Read): exactly the numerals without superfluous zeros of at most six digits; no condition. -/
import Derived.Test.YtcekobdnghllcacDoorNumS
import Derived.Test.YtcekobdnghllcacDoorCanon
import Derived.IntWalk
namespace Go.Proofs.YtcekobdnghllcacDoor
open Go.ChangeShapes Go.WideShapes Go.ChangeAt Go.RowKit Go.IntWalk

/-- the value of a numeral of one to six digits, else -1 -/
def rd6 (l : List UInt8) : Int := if 1 ≤ l.length ∧ l.length ≤ 6 ∧ canon l = true then (val l : Int) else -1

theorem bget (l : List UInt8) (i : Nat) (h : i < l.length) (h' : i < (ByteArray.mk l.toArray).size) : (ByteArray.mk l.toArray)[i]'h' = l[i]'h := by
  show (l.toArray)[i]'_ = _
  simp

theorem val_lt : ∀ (k : Nat) (l : List UInt8), l.length ≤ k → l.all isDig = true → val l < 10 ^ l.length := by
  intro k
  induction k with
  | zero => intro l hl _; cases l with
    | nil => simp [val]
    | cons x r => simp at hl
  | succ k ih =>
    intro l hl h
    rcases List.eq_nil_or_concat l with rfl | ⟨r, b, rfl⟩
    · simp [val]
    · rw [List.concat_eq_append] at hl h ⊢
      simp only [List.all_append, List.all_cons, List.all_nil, Bool.and_true, Bool.and_eq_true] at h
      have hb := of_decide_eq_true h.2
      have hr := ih r (by simp at hl; omega) h.1
      rw [val_snoc, List.length_append, List.length_cons, List.length_nil, Nat.pow_succ]
      omega
theorem rd6_all (l : List UInt8) (h1 : 1 ≤ l.length) (h6 : l.length ≤ 6) (hz : ¬ (l[0] = 48 ∧ 1 < l.length)) (h : l.all isDig = true) : rd6 l = val l := by
  have hc : canon l = true := ?_
  · unfold rd6
    rw [if_pos ⟨h1, h6, hc⟩]
  unfold canon
  rw [h]
  cases l with
  | nil => simp at h1
  | cons c r =>
    simp only [List.getElem_cons_zero, List.length_cons] at hz
    simp only [List.isEmpty_cons, List.head?_cons, List.length_cons]
    by_cases e : c = 48
    · have : r.length = 0 := by
        have : ¬ (1 < r.length + 1) := fun g => hz ⟨e, g⟩
        omega
      simp [this]
    · simp [e]
theorem rd6_not (l : List UInt8) (h : l.all isDig = false) : rd6 l = -1 := by
  unfold rd6
  rw [if_neg]
  rintro ⟨_, _, hc⟩
  unfold canon at hc
  rw [h] at hc
  simp at hc
theorem all_step (l : List UInt8) (j : Nat) (h : j < l.length) (hd : (l.take j).all isDig = true) (hb : isDig l[j] = true) : (l.take (j + 1)).all isDig = true := by
  rw [List.take_succ_eq_append_getElem h, List.all_append, hd]
  simp [hb]
theorem not_all (l : List UInt8) (j : Nat) (h : j < l.length) (hb : isDig l[j] = false) : l.all isDig = false := by
  rw [List.all_eq_false]
  exact ⟨l[j], List.getElem_mem _, by simp [hb]⟩

set_option maxRecDepth 100000 in
set_option maxHeartbeats 1600000 in
theorem l1Read_digits (l : List UInt8) (W : World) (h1 : 1 ≤ l.length) (h6 : l.length ≤ 6) (hz : ¬ (l[0] = 48 ∧ 1 < l.length)) :
    Calls Tryd.prog 17 #[.string ⟨l.toArray⟩] W fun e w' => e = .returned (.int .i64 (rd6 l)) ∧ Kp Nw W w' := by
  obtain ⟨n, hn⟩ : ∃ n, l.length = n := ⟨_, rfl⟩
  have hsz : (ByteArray.mk l.toArray).size = n := by rw [← hn]; rfl
  have b0 := bget l 0 (by omega) (by rw [hsz]; omega)
  obtain ⟨c, hc⟩ : ∃ c, l[0] = c := ⟨_, rfl⟩
  rw [hc] at hz b0
  have HN := Lib.hid hn
  have HZ := Lib.hid hz
  have HC := Lib.hid hc
  have key : c.toNat ≠ 48 ∨ (c.toNat = 48 ∧ n = 1) := by
    by_cases h : c.toNat = 48
    · right
      refine ⟨h, ?_⟩
      have : c = 48 := UInt8.toNat_inj.1 (by rw [h]; rfl)
      rw [hn] at hz
      have : ¬ (1 < n) := fun g => hz ⟨this, g⟩
      omega
    · exact .inl h
  rw [hn] at h1 h6
  clear hz hc
  rcases key with k0 | ⟨k0, rfl⟩
  all_goals (
    go_enter Tryd.func17, Tryd.ntmps17
    go_wp2)
  all_goals (
    go_loopw [3, 4] (fun v i wr => ∃ j : Nat, j ≤ l.length ∧ i = .int .i64 j ∧ v = .int .i64 (val (l.take j)) ∧ (l.take j).all isDig = true ∧ Kp Nw W wr) (fun _ i _ => l.length - (intOf i).toNat)
    case atStart => exact ⟨0, Nat.zero_le _, rfl, rfl, rfl, Kp.refl _ _⟩
    case round =>
      rename_i wr
      obtain ⟨j, hj, rfl, rfl, hd, hk⟩ := hrel
      by_cases hlt : j < l.length
      · have bj := bget l j hlt (by rw [hsz]; omega)
        obtain ⟨b, hb⟩ : ∃ b, l[j] = b := ⟨_, rfl⟩
        rw [hb] at bj
        have HB := Lib.hid hb
        have HD := Lib.hid hd
        have HK := Lib.hid hk
        have j0 : (0 : Int) ≤ j := Int.natCast_nonneg _
        have hv : val (l.take j) < 1000000 := by
          have := val_lt _ (l.take j) (Nat.le_refl _) hd
          have h2 : (l.take j).length ≤ 6 := by rw [List.length_take]; omega
          have h3 : 10 ^ (l.take j).length ≤ 10 ^ 6 := Nat.pow_le_pow_right (by omega) h2
          omega
        have HV : Hid (val (l.take (j + 1)) = 10 * val (l.take j) + (b.toNat - 48)) := Lib.hid (by rw [List.take_succ_eq_append_getElem hlt, val_snoc, hb])
        obtain ⟨x, hx⟩ : ∃ x, val (l.take j) = x := ⟨_, rfl⟩
        rw [hx] at hv HV ⊢
        clear hd hk hb hx
        by_cases q0 : b.toNat < 48
        · have HR := Lib.hid (rd6_not l (not_all l j hlt (by rw [HB.out]; simp [isDig]; omega)))
          have q1 : (b.toNat : Int) < 48 := by omega
          go_wp2
          go_ret
          exact ⟨ret_int' HR.out.symm, HK.out⟩
        · by_cases q9 : 57 < b.toNat
          · have HR := Lib.hid (rd6_not l (not_all l j hlt (by rw [HB.out]; simp [isDig]; omega)))
            have q1 : ¬ (b.toNat : Int) < 48 := by omega
            have q2 : (57 : Int) < b.toNat := by omega
            go_wp2
            go_ret
            exact ⟨ret_int' HR.out.symm, HK.out⟩
          · have HA := Lib.hid (all_step l j hlt HD.out (by rw [HB.out]; simp [isDig]; omega))
            have q1 : ¬ (b.toNat : Int) < 48 := by omega
            have q2 : ¬ (57 : Int) < b.toNat := by omega
            have w1 : IntKind.i64.wrap (10 * (x : Int)) = 10 * x := i64_in _ (by omega)
            have w2 : IntKind.u8.wrap ((b.toNat : Int) - 48) = b.toNat - 48 := u8_in _ (by omega)
            have w3 : IntKind.i64.wrap ((b.toNat : Int) - 48) = b.toNat - 48 := i64_in _ (by omega)
            have w4 : IntKind.i64.wrap (10 * (x : Int) + ((b.toNat : Int) - 48)) = 10 * x + (b.toNat - 48) := i64_in _ (by omega)
            go_wp2
            go_roundw
            case rel => exact ⟨j + 1, by omega, by go_num, by rw [HV.out]; congr 1; omega, HA.out, HK.out⟩
            case measure => simp [intOf]; omega
      · have e : j = l.length := by omega
        have HR : Hid (rd6 l = val (l.take j)) := Lib.hid (by
          rw [List.take_of_length_le (by omega)] at hd ⊢
          exact rd6_all l (by omega) (by omega) (by rw [HC.out]; exact HZ.out) hd)
        have HK := Lib.hid hk
        clear hd hk
        go_wp2
        go_ret
        exact ⟨ret_int' HR.out.symm, HK.out⟩)

set_option maxRecDepth 100000 in
theorem l1Read_off (l : List UInt8) (W : World) (hl : l.length ≤ 140737488355328) (h : l.length < 1 ∨ 6 < l.length) :
    Calls Tryd.prog 17 #[.string ⟨l.toArray⟩] W fun e w' => e = .returned (.int .i64 (rd6 l)) ∧ Kp Nw W w' := by
  have hr : rd6 l = -1 := by unfold rd6; rw [if_neg]; rintro ⟨a, b, _⟩; omega
  rw [hr]
  obtain ⟨n, hn⟩ : ∃ n, l.length = n := ⟨_, rfl⟩
  have hsz : (ByteArray.mk l.toArray).size = n := by rw [← hn]; rfl
  rw [hn] at h hl
  clear hn hr
  rcases h with h | h
  · obtain rfl : n = 0 := by omega
    clear h
    go_enter Tryd.func17, Tryd.ntmps17
    go_wp2
    go_ret
    exact ⟨rfl, Kp.refl _ _⟩
  · have h1 : (1 : Int) ≤ n := by omega
    have h6 : (6 : Int) < n := by omega
    go_enter Tryd.func17, Tryd.ntmps17
    go_wp2
    go_ret
    exact ⟨rfl, Kp.refl _ _⟩

set_option maxRecDepth 100000 in
theorem l1Read_zero (l : List UInt8) (W : World) (h1 : 1 ≤ l.length) (h6 : l.length ≤ 6) (hz : l[0] = 48) (hl : 1 < l.length) :
    Calls Tryd.prog 17 #[.string ⟨l.toArray⟩] W fun e w' => e = .returned (.int .i64 (rd6 l)) ∧ Kp Nw W w' := by
  have hr : rd6 l = -1 := by
    unfold rd6
    rw [if_neg]
    rintro ⟨_, _, hc⟩
    unfold canon at hc
    cases l with
    | nil => simp at h1
    | cons c r =>
      simp only [List.getElem_cons_zero] at hz
      subst hz
      simp at hc
      simp only [List.length_cons] at hl
      have := hc.2
      simp [this] at hl
  rw [hr]
  obtain ⟨n, hn⟩ : ∃ n, l.length = n := ⟨_, rfl⟩
  have hsz : (ByteArray.mk l.toArray).size = n := by rw [← hn]; rfl
  have b0 := bget l 0 (by omega) (by rw [hsz]; omega)
  rw [hz] at b0
  rw [hn] at h1 h6 hl
  have h1' : (1 : Int) ≤ n := by omega
  have h6' : (n : Int) ≤ 6 := by omega
  have hl' : (1 : Int) < n := by omega
  have HN := Lib.hid hn
  clear hr
  go_enter Tryd.func17, Tryd.ntmps17
  go_wp2
  go_ret
  exact ⟨rfl, Kp.refl _ _⟩

theorem l1Read_any (l : List UInt8) (W : World) (hl : l.length ≤ 140737488355328) :
    Calls Tryd.prog 17 #[.string ⟨l.toArray⟩] W fun e w' => e = .returned (.int .i64 (rd6 l)) ∧ Kp Nw W w' := by
  by_cases h : l.length < 1 ∨ 6 < l.length
  · exact l1Read_off l W hl h
  · by_cases hz : l[0]'(by omega) = 48 ∧ 1 < l.length
    · exact l1Read_zero l W (by omega) (by omega) hz.1 hz.2
    · exact l1Read_digits l W (by omega) (by omega) hz
end Go.Proofs.YtcekobdnghllcacDoor
