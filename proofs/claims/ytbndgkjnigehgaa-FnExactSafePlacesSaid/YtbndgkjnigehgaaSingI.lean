/- Songs in the program: counting out by one, the order out, the last one; whether there is a song; no condition but that there are a song and people. -/
import Derived.Test.YtbndgkjnigehgaaSing
namespace Go.Proofs.Ytbndgkjnigehgaa
open Go.ChangeShapes Go.WideShapes Go.ChangeAt Go.RowKit Go.Conc

theorem sgB_of {xs : List Int} (h1 : 1 ≤ xs.length) (h2 : xs.length ≤ 20) (h : ∀ j, j < xs.length → 1 ≤ xs.getD j 0 ∧ xs.getD j 0 ≤ 1000000) : sgB xs = true := by
  unfold sgB
  rw [Bool.and_eq_true]
  refine ⟨decide_eq_true ⟨h1, h2⟩, List.all_eq_true.2 fun x hx => ?_⟩
  obtain ⟨i, hi, rfl⟩ := List.getElem_of_mem hx
  have := h i hi
  simp [List.getD, hi] at this
  simp [okR]
  exact this

set_option maxHeartbeats 1600000 in
theorem iIsSong_is (A : Option Addr) (n c : Nat) (xs : List Int) (W : World) (hu : Rd W (.slice A n c) xs) (hn : xs.length = n) (hl : n ≤ 2000000) :
    Calls Try.prog 32 #[.agg #[.slice A n c]] W (BoolB W (sgB xs)) := by
  by_cases hlen : (n : Int) < 1 ∨ 20 < (n : Int)
  · have HF : Hid (sgB xs = false) := Lib.hid (by unfold sgB; rw [decide_eq_false (by omega)]; rfl)
    go_enter Try.func32, Try.ntmps32
    go_wp2_with (first | ((with_reducible refine (within_no (n : Int) _ _ _ hlen).mono ?_); rintro e w' ⟨rfl, rfl⟩))
    go_ret
    exact ⟨ret_bool HF.out.symm, Kp.al _ _⟩
  · have n1 : 1 ≤ (n : Int) := by omega
    have n2 : (n : Int) ≤ 20 := by omega
    clear hlen
    have HN := Lib.hid hn
    obtain ⟨A', c', e', hA⟩ := hu
    rw [hn] at e'
    injection e' with e1 e2 e3
    subst e1 e3
    obtain ⟨g, o, rfl, -⟩ := hA 0 (by omega)
    have HA : Hid (∀ i, i < n → W.cell? ⟨g, o + i, none⟩ = some (.int .i64 (xs.getD i 0))) := Lib.hid (fun i hi => by
      obtain ⟨g', o', e, hc⟩ := hA i (by omega)
      injection e with e
      injection e with e1 e2
      rw [e1, e2]; exact hc)
    clear hA hn
    go_enter Try.func32, Try.ntmps32
    go_wp2_with (first | ((with_reducible refine (within_yes (n : Int) _ _ _ n1 n2).mono ?_); rintro e w' ⟨rfl, rfl⟩))
    go_loopw [13] (fun i wr => ∃ j : Nat, j ≤ n ∧ i = .int .i64 j ∧ Hid (∀ q, q < j → 1 ≤ xs.getD q 0 ∧ xs.getD q 0 ≤ 1000000) ∧ wr = (W.alloc (.cells #[.slice (some ⟨g, o, none⟩) n c] 28))) (fun i _ => n - (intOf i).toNat)
    case atStart => exact ⟨0, Nat.zero_le _, rfl, Lib.hid (fun q hq => absurd hq (by omega)), by first | trivial | rfl⟩
    case round =>
      rename_i wr
      obtain ⟨j, hj, rfl, HALL, hwr⟩ := hrel
      subst hwr
      by_cases hp : j < n
      · obtain ⟨x, hx⟩ : ∃ x, xs.getD j 0 = x := ⟨_, rfl⟩
        have hc := keepc (.al W (.cells #[.slice (some ⟨g, o, none⟩) n c] 28)) (HA.out j hp) (fun h => h)
        rw [hx] at hc
        have HX := Lib.hid hx
        have j0 : (0 : Int) ≤ j := Int.natCast_nonneg _
        have j1 : (j : Int) < n := by omega
        clear hx
        by_cases hok : 1 ≤ x ∧ x ≤ 1000000
        · obtain ⟨x1, x2⟩ := hok
          go_wp2_with (first | ((with_reducible refine (within_yes x _ _ _ x1 x2).mono ?_); rintro e w' ⟨rfl, rfl⟩))
          go_roundw
          case rel =>
            refine ⟨j + 1, by omega, by go_num, Lib.hid (fun q hq => ?_), by first | trivial | rfl⟩
            by_cases h : q < j
            · exact HALL.out q h
            · have e : q = j := by omega
              subst e
              rw [HX.out]
              exact ⟨x1, x2⟩
          case measure => simp [intOf]; omega
        · have HF : Hid (sgB xs = false) := Lib.hid (by
            cases h : sgB xs with
            | false => rfl
            | true =>
              have := sgB_get h j (by rw [HN.out]; exact hp)
              rw [HX.out] at this
              exact absurd this hok)
          have hno : x < 1 ∨ 1000000 < x := by omega
          clear hok
          go_wp2_with (first | ((with_reducible refine (within_no x _ _ _ hno).mono ?_); rintro e w' ⟨rfl, rfl⟩))
          go_ret
          exact ⟨ret_bool HF.out.symm, Kp.al _ _⟩
      · have e : j = n := by omega
        subst e
        have HT : Hid (sgB xs = true) := Lib.hid (sgB_of (by have := HN.out; omega) (by have := HN.out; omega) (fun q hq => HALL.out q (by rw [HN.out] at hq; exact hq)))
        go_wp2
        go_ret
        exact ⟨ret_bool HT.out.symm, Kp.al _ _⟩

set_option maxHeartbeats 800000 in
theorem canSing_any (A : Option Addr) (n c : Nat) (xs : List Int) (p : Int) (W : World) (hu : Rd W (.slice A n c) xs) (hn : xs.length = n) (hl : n ≤ 2000000) (b : Bool) (hb : b = asB xs p) :
    Calls Try.prog 20 #[.agg #[.slice A n c], .int .i64 p] W fun e w' => e = .returned (.bool b) ∧ Kp Nw W w' := by
  have HR := Lib.hid hu
  have HN := Lib.hid hn
  have HB := Lib.hid hb
  clear hu hn hb
  obtain ⟨d, hd⟩ : ∃ d, sgB xs = d := ⟨_, rfl⟩
  have HD := Lib.hid hd
  clear hd
  by_cases ha : 1 ≤ p ∧ p ≤ 200
  · have HF : Hid (b = d) := Lib.hid (by rw [HB.out, asB, decide_eq_true ha, HD.out, Bool.and_true])
    obtain ⟨a1, a2⟩ := ha
    cases d
    all_goals
      go_enter Try.func20, Try.ntmps20
      go_wp2_with (first | (refine (iIsSong_is A n c xs _ (HR.out.nw (.al _ _)) HN.out hl).mono ?_; rintro e w1 ⟨he, hk⟩; rw [HD.out] at he; subst he; have HK := Lib.hid ((Kp.al _ _).nw hk); clear hk) | ((with_reducible refine (within_yes p _ _ _ a1 a2).mono ?_); rintro e w' ⟨rfl, rfl⟩))
      go_ret
      exact ⟨ret_bool HF.out.symm, HK.out⟩
  · have HF : Hid (b = false) := Lib.hid (by rw [HB.out, asB, decide_eq_false ha, Bool.and_false])
    have hno : p < 1 ∨ 200 < p := by omega
    clear ha
    cases d
    all_goals
      go_enter Try.func20, Try.ntmps20
      go_wp2_with (first | (refine (iIsSong_is A n c xs _ (HR.out.nw (.al _ _)) HN.out hl).mono ?_; rintro e w1 ⟨he, hk⟩; rw [HD.out] at he; subst he; have HK := Lib.hid ((Kp.al _ _).nw hk); clear hk) | ((with_reducible refine (within_no p _ _ _ hno).mono ?_); rintro e w' ⟨rfl, rfl⟩))
      go_ret
      exact ⟨ret_bool HF.out.symm, HK.out⟩

/-- what counting out by a song returns -/
def SingRes (W : World) (xs : List Int) (p t : Nat) (e : Ending) (w' : World) : Prop :=
  ∃ C L G, e = .returned (.tuple #[.pointer (some ⟨C, 0, none⟩), .slice (some ⟨G, 0, none⟩) t t]) ∧ Ps w' G t (soTP xs (num (marks 0 p)) t) ∧ (∃ k, Fwd (soLP xs (num (marks 0 p)) t) C L p k w' 0) ∧ Kp Nw W w' ∧ W.heap.size ≤ C ∧ W.heap.size ≤ L ∧ W.heap.size ≤ G

set_option maxRecDepth 100000 in
set_option maxHeartbeats 3200000 in
theorem sing_any (A : Option Addr) (n c : Nat) (xs : List Int) (p t : Nat) (W : World) (hu : Rd W (.slice A n c) xs) (hn : xs.length = n) (hg : sgB xs = true) (p1 : 1 ≤ p) (p2 : p ≤ 200) (ht : t ≤ p) :
    Calls Try.prog 39 #[.agg #[.slice A n c], .int .i64 p, .int .i64 t] W (SingRes W xs p t) := by
  have n1 : 1 ≤ n := by have := sgB_len hg; omega
  have HU := Lib.hid hu
  have HN := Lib.hid hn
  have HG := Lib.hid hg
  obtain ⟨A', c', e', hA⟩ := hu
  rw [hn] at e'
  injection e' with e1 e2 e3
  subst e1 e3
  obtain ⟨g, o, rfl, -⟩ := hA 0 (by omega)
  have HA : Hid (∀ i, i < n → W.cell? ⟨g, o + i, none⟩ = some (.int .i64 (xs.getD i 0))) := Lib.hid (fun i hi => by
    obtain ⟨g', o', e, hc⟩ := hA i (by omega)
    injection e with e
    injection e with e1 e2
    rw [e1, e2]; exact hc)
  have HC0 := Lib.hid (HA.out 0 (by omega))
  obtain ⟨x0, hx0⟩ : ∃ x, xs.getD 0 0 = x := ⟨_, rfl⟩
  rw [hx0] at HC0
  have HB := Lib.hid (Own1.new W (.slice (some ⟨g, o, none⟩) n c) 28)
  have hcb := HB.out.1
  have n0 : (0 : Int) < n := by omega
  have n0' : 0 < n := by omega
  clear hA hn hg hx0
  go_enter Try.func39, Try.ntmps39
  go_wp2_with fail
  refine (countsIn_any _ n c xs t _ (HU.out.nw (.al _ _)) HN.out HG.out (by omega)).mono ?_
  rintro e w1 ⟨cc, rfl, hch, hk1, hc1⟩
  have HCH := Lib.hid hch
  have HK1 := Lib.hid hk1
  have hcl := hch.lt
  simp only [World.size_alloc] at hc1
  clear hk1 hch
  go_wp2_with fail
  have HX1 : Hid (Kp Nw W (w1.alloc (.cells #[.chan (some cc)] 72))) := Lib.hid (((Kp.al W _).nw HK1.out).nw (.al _ _))
  have HB2 : Hid ((w1.alloc (.cells #[.chan (some cc)] 72)).cell? ⟨W.heap.size, 0, none⟩ = some (.slice (some ⟨g, o, none⟩) n c)) := Lib.hid (keepc (.al w1 _) (keepc HK1.out HB.out.1 (fun h => h)) (fun h => h))
  have HC2 : Hid ((w1.alloc (.cells #[.chan (some cc)] 72)).cell? ⟨g, o, none⟩ = some (.int .i64 x0)) := Lib.hid (keepc HX1.out HC0.out (fun h => h))
  have HD2 : Hid ((w1.alloc (.cells #[.chan (some cc)] 72)).cell? ⟨w1.heap.size, 0, none⟩ = some (.chan (some cc))) := Lib.hid (Own1.new w1 _ _).1
  have HE2 : Hid (Chn (w1.alloc (.cells #[.chan (some cc)] 72)) cc t (cntL xs t)) := Lib.hid (HCH.out.kp (.al w1 _) (fun h => h))
  have HZ2 : Hid (W.heap.size ≤ cc ∧ cc < w1.heap.size ∧ w1.heap.size < (w1.alloc (.cells #[.chan (some cc)] 72)).heap.size) := Lib.hid ⟨by omega, hcl, by simp⟩
  have hmf : ∀ (fn : Fn) (first cap : Array Value) (w : World), (Instr.makeFunc fn first cap).run Try.prog w = .ok (.func fn first cap) w := fun _ _ _ _ => rfl
  obtain ⟨b, hb⟩ : ∃ b, w1.heap.size = b := ⟨_, rfl⟩
  rw [hb] at HD2 HZ2 ⊢
  generalize w1.alloc (.cells #[.chan (some cc)] 72) = w2 at HX1 HB2 HC2 HD2 HE2 HZ2 ⊢
  clear hb hcb hcl hc1 HB HCH HK1
  have hcb := HB2.out
  have hc0 := HC2.out
  go_region_held3 (fun w' => Kp Nw w2 w' ∧ w'.cell? ⟨W.heap.size, 0, none⟩ = some (.slice (some ⟨g, o, none⟩) n c) ∧ w'.cell? ⟨g, o, none⟩ = some (.int .i64 x0))
    (first
      | exact ⟨(Kp.refl _ _).drew, HB2.out, HC2.out⟩
      | exact ⟨hkW4, keepc hkW4 HB2.out (fun h => h), keepc hkW4 HC2.out (fun h => h)⟩
      | exact ⟨hkW3, keepc hkW3 HB2.out (fun h => h), keepc hkW3 HC2.out (fun h => h)⟩)
    (first
      | (go_at_call 24
         refine (firstNumbers_any p _ (by omega)).mono ?_
         rintro e w3 ⟨v1, rfl, hs1, hk1⟩
         have hkW3 := (‹Kp Nw w2 _ ∧ _›.1).nw hk1)
      | (go_at_call 53
         refine (circleOf_any v1 (marks 0 p) x0 _ hs1.rd (by rw [marks_length]; omega) (by rw [marks_length]; omega)).mono ?_
         rintro e w4 ⟨C, L, rfl, hC, hk2, hC1, hL1⟩
         have hkW4 := (‹Kp Nw w2 _ ∧ _›.1).nw hk2)
      | fail)
  rw [marks_length] at hC
  have HC := Lib.hid hC
  have HK4 := Lib.hid hkW4
  have hz3 := hkW3.size
  have hz4 := hkW4.size
  have hz0 := HX1.out.size
  have HSZ : Hid (w2.heap.size ≤ C ∧ w2.heap.size ≤ L ∧ W.heap.size ≤ w2.heap.size) := Lib.hid ⟨by omega, by omega, hz0⟩
  clear hC hkW4 hkW3 hk1 hk2 hs1 hC1 hL1 hcb hc0 hz3 hz4 hz0
  go_wp2_with fail
  refine (countSing C L b cc t (soTP xs (num (marks 0 p)) t) (Sg xs (num (marks 0 p)) C L p cc b t) w4 (by rw [soTP_length]) HC.out.lt HC.out.2.lt (by have := HZ2.out; have := HK4.out.size; omega) (by have := HZ2.out; have := HK4.out.size; omega) (Lib.hid Sg.kp)
    (Lib.hid fun r w hr hst => singOne xs HG.out (num (marks 0 p)) C L p cc b t (by rw [num_length, marks_length]; exact ht) r w hr hst)
    ⟨⟨x0, Fwd.start HC.out (by rw [marks_length]; omega)⟩, by rw [List.drop_zero]; exact HE2.out.kp HK4.out (fun h => h), keepc HK4.out HD2.out (fun h => h), by have := HZ2.out; have := HSZ.out; omega, by have := HZ2.out; have := HSZ.out; omega, by have := HZ2.out; have := HSZ.out; omega, by have := HZ2.out; have := HSZ.out; omega, by have := HZ2.out; omega⟩ (by omega)).mono ?_
  rintro e w5 ⟨G, rfl, hP, hSg, hk5, hG⟩
  have HP := Lib.hid hP
  have HSG := Lib.hid hSg.1
  have HK5 := Lib.hid (Kp.after (HX1.out.nw HK4.out) hk5 (fun gg hlt h => by have := HZ2.out; have := HSZ.out; omega))
  have HGG : Hid (W.heap.size ≤ G) := Lib.hid (by have := HK4.out.size; have := HSZ.out; omega)
  clear hP hSg hk5 hG
  go_wp2
  go_ret2
  exact ⟨C, L, G, rfl, HP.out, HSG.out, HK5.out, by have := HSZ.out; omega, by have := HSZ.out; omega, HGG.out⟩

set_option maxHeartbeats 800000 in
theorem sungOut_any (A : Option Addr) (n c : Nat) (xs : List Int) (p : Nat) (W : World) (hu : Rd W (.slice A n c) xs) (hn : xs.length = n) (hg : sgB xs = true) (p1 : 1 ≤ p) (p2 : p ≤ 200) :
    Calls Try.prog 33 #[.agg #[.slice A n c], .int .i64 p] W (Makes W (soO xs p)) := by
  have HU := Lib.hid hu
  clear hu
  go_enter Try.func33, Try.ntmps33
  go_wp2_with fail
  refine (sing_any A n c xs p p _ (HU.out.nw (.al _ _)) hn hg p1 p2 (Nat.le_refl _)).mono ?_
  rintro e w1 ⟨C, L, G, rfl, hP, hF, hk, hz1, hz2, hz3⟩
  have HP := Lib.hid hP
  have HK := Lib.hid ((Kp.al W _).nw hk)
  clear hP hF hk
  go_wp2_with fail
  refine (numbersOf_any ⟨G, 0, none⟩ p p _ _ HP.out.rdp (by rw [soTP_length]) (by omega)).mono ?_
  rintro e w2 ⟨v, rfl, hs, hk2⟩
  rw [← soT_map, num_snd] at hs
  have HS := Lib.hid (hs.from HK.out.size)
  have HK2 := Lib.hid (HK.out.nw hk2)
  clear hs hk2
  go_wp2
  go_ret
  exact ⟨v, rfl, HS.out, HK2.out⟩

set_option maxHeartbeats 800000 in
theorem lastSung_any (A : Option Addr) (n c : Nat) (xs : List Int) (p : Nat) (W : World) (hu : Rd W (.slice A n c) xs) (hn : xs.length = n) (hg : sgB xs = true) (p1 : 1 ≤ p) (p2 : p ≤ 200) :
    Calls Try.prog 22 #[.agg #[.slice A n c], .int .i64 p] W fun e w' => e = .returned (.int .i64 ((soO xs p).getD (p - 1) 0)) ∧ Kp Nw W w' := by
  obtain ⟨m, rfl⟩ : ∃ m, p = m + 1 := ⟨p - 1, by omega⟩
  have HU := Lib.hid hu
  obtain ⟨x, hx⟩ : ∃ x, (soO xs (m + 1)).getD (m + 1 - 1) 0 = x := ⟨_, rfl⟩
  have HX := Lib.hid hx
  rw [hx]
  clear hu hx
  go_enter Try.func22, Try.ntmps22
  go_wp2_with fail
  refine (sungOut_any A n c xs (m + 1) _ (HU.out.nw (.al _ _)) hn hg p1 p2).mono ?_
  rintro e w1 ⟨v, rfl, hs, hk⟩
  obtain ⟨G, cap, rfl, hat, hc1, hc2, hg1, hg2⟩ := hs.at_ (by rw [soO_length]; omega)
  have hcell := hat.cell m (by rw [soO_length]; omega)
  have e0 : (soO xs (m + 1)).getD m 0 = x := HX.out
  rw [e0] at hcell
  rw [soO_length]
  have HK := Lib.hid ((Kp.al W _).nw hk)
  have m0 : (0 : Int) ≤ m := Int.natCast_nonneg _
  have m1 : (m : Int) < (m : Int) + 1 := by omega
  clear hk hs hat hc1 hc2 e0
  go_wp2
  go_ret
  exact ⟨rfl, HK.out⟩
end Go.Proofs.Ytbndgkjnigehgaa
