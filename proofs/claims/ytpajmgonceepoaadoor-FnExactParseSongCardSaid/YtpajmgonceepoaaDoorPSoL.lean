/- The texts PSoP, PSoN, PSoI, PSoS, PSoL, as one. -/
import Derived.Test.YtpajmgonceepoaaDoorSoTx
import Derived.Test.YtpajmgonceepoaaDoorPure
import Derived.Laws.RangeAny
import Derived.Test.YtpajmgonceepoaaDoorISongJ
import Derived.Test.YtpajmgonceepoaaDoorNums
import Derived.Test.YtpajmgonceepoaaDoorParseS
import Derived.Deep.RegionLaw
namespace Go.Proofs.YtpajmgonceepoaaDoor

/-- a numeral up to a million -/
def ok8 (p : List UInt8) : Bool := canon p && decide (val p ≤ 1000000)
/-- what the model reads of a piece -/
def so7 (p : List UInt8) : Int := if 1 ≤ p.length ∧ p.length ≤ 7 ∧ p.all isDig = true then (val p : Int) else -1
def lst8 (ps : List (List UInt8)) : Bool := decide (ps.length ≤ 20) && ps.all ok8
/-- what the program takes for a song -/
def pgS (l : List UInt8) : Bool := lst8 (sp 45 [] l) && sgB (nums (sp 45 [] l))
theorem ok8_iff (p : List UInt8) : ok8 p = true ↔ canon p = true ∧ val p ≤ 1000000 := by
  unfold ok8
  rw [Bool.and_eq_true, decide_eq_true_eq]
theorem ok8_so7 (p : List UInt8) (h : ok8 p = true) : so7 p = val p := by
  obtain ⟨h1, h2⟩ := (ok8_iff p).1 h
  have := canon_len p 6 h1 (by omega)
  obtain ⟨h3, h4⟩ := canon_dig p h1
  unfold so7
  rw [if_pos ⟨h4, by omega, h3⟩]
theorem so7_all (l : List UInt8) (h1 : 1 ≤ l.length) (h7 : l.length ≤ 7) (h : l.all isDig = true) : so7 l = val l := by
  unfold so7
  rw [if_pos ⟨h1, h7, h⟩]
theorem so7_not (l : List UInt8) (h : l.all isDig = false) : so7 l = -1 := by
  unfold so7
  rw [if_neg]
  rintro ⟨_, _, hc⟩
  rw [h] at hc
  simp at hc
theorem join_cons2 (a x : List UInt8) (r : List (List UInt8)) (sep : List UInt8) : Lib.join (a :: x :: r) sep = a ++ (sep ++ Lib.join (x :: r) sep) := by
  rw [Lib.join_cons, Lib.join_cons]
  simp [Lib.joinTail]
/-- the pieces, with signs between them, are the text -/
theorem join_sp (b : UInt8) : ∀ (l cur : List UInt8), Lib.join (sp b cur l) [b] = cur ++ l
  | [], cur => by rw [sp, Lib.join_one]; simp
  | c :: r, cur => by
    rw [sp]
    split
    · rename_i e
      subst e
      have hp := sp_pos c r []
      have ih := join_sp c r []
      cases h : sp c [] r with
      | nil => rw [h] at hp; simp at hp
      | cons x t =>
        rw [h] at ih
        rw [join_cons2, ih]
        simp
    · rw [join_sp b r _]
      simp
theorem sp_app (b : UInt8) : ∀ (q cur r : List UInt8), (∀ x ∈ q, x ≠ b) → sp b cur (q ++ r) = sp b (cur ++ q) r
  | [], cur, r, _ => by simp
  | x :: q, cur, r, h => by
    rw [List.cons_append, sp, if_neg (h x (by simp)), sp_app b q _ r (fun y hy => h y (by simp [hy]))]
    simp
/-- what is joined of pieces without the sign has these pieces -/
theorem sp_join (b : UInt8) : ∀ (qs : List (List UInt8)), qs ≠ [] → (∀ q ∈ qs, ∀ x ∈ q, x ≠ b) → sp b [] (Lib.join qs [b]) = qs
  | [], h, _ => absurd rfl h
  | [q], _, h => by
    have := sp_app b q [] [] (h q (by simp))
    rw [List.append_nil] at this
    rw [Lib.join_one, this, sp]
    simp
  | q :: x :: r, _, h => by
    rw [join_cons2, sp_app b q [] _ (h q (by simp)), List.cons_append, sp, if_pos rfl, List.nil_append, List.nil_append, sp_join b (x :: r) (by simp) (fun y hy => h y (by simp [hy]))]
theorem dgs_val (p : List UInt8) (h : canon p = true) : dgs (val p : Int) = p := by
  unfold dgs
  rw [Int.toNat_natCast]
  exact (canon_iff p).1 h
theorem dgs_no (x : Int) : ∀ c ∈ dgs x, c ≠ 45 := by
  intro c hc e
  subst e
  have := List.all_eq_true.1 (canon_dig _ (digits_canon x.toNat).1).1 45 hc
  simp [isDig] at this
theorem dgs_back (x : Int) (h : 0 ≤ x) : canon (dgs x) = true ∧ (val (dgs x) : Int) = x := by
  obtain ⟨h1, h2, _⟩ := digits_canon x.toNat
  refine ⟨h1, ?_⟩
  unfold dgs
  rw [h2]
  omega
theorem lst8_iff (ps : List (List UInt8)) : lst8 ps = true ↔ ps.length ≤ 20 ∧ ps.all ok8 = true := by
  unfold lst8
  rw [Bool.and_eq_true, decide_eq_true_eq]
theorem nums_same8 (ps : List (List UInt8)) (h : ps.all ok8 = true) : ps.map so7 = nums ps := by
  unfold nums
  exact List.map_congr_left fun p hp => ok8_so7 p (List.all_eq_true.1 h p hp)
/-- what the program takes for a song is one in the model, of the same counts, and its text is that text -/
theorem pgS_yes (l : List UInt8) (h : pgS l = true) : l.length ≤ 300 ∧ (sp 45 [] l).map so7 = nums (sp 45 [] l) ∧ sgB ((sp 45 [] l).map so7) = true ∧ songTx ((sp 45 [] l).map so7) = l := by
  unfold pgS at h
  rw [Bool.and_eq_true, lst8_iff] at h
  obtain ⟨⟨h1, h2⟩, h3⟩ := h
  have e := nums_same8 _ h2
  refine ⟨?_, e, by rw [e]; exact h3, ?_⟩
  · have e2 := sp_len 45 l []
    have s := sum_le 7 (sp 45 [] l) (fun p hp => by
      obtain ⟨c1, c2⟩ := (ok8_iff p).1 (List.all_eq_true.1 h2 p hp)
      exact canon_len p 6 c1 (by omega))
    simp only [List.length_nil] at e2
    omega
  · rw [e]
    unfold songTx nums
    rw [List.map_map]
    have : (sp 45 [] l).map (dgs ∘ fun p => (val p : Int)) = sp 45 [] l := by
      have h9 : ∀ p ∈ sp 45 [] l, (dgs ∘ fun p => (val p : Int)) p = id p := fun p hp => dgs_val p ((ok8_iff p).1 (List.all_eq_true.1 h2 p hp)).1
      rw [List.map_congr_left h9]
      simp
    rw [this, join_sp]
    rfl
/-- what is a song in the model, its text being that text, is taken by the program -/
theorem pgS_of (l : List UInt8) (hg : sgB ((sp 45 [] l).map so7) = true) (ht : songTx ((sp 45 [] l).map so7) = l) : pgS l = true := by
  obtain ⟨n1, n2⟩ := sgB_len hg
  rw [List.length_map] at n1 n2
  have hall := sg_all hg
  have hps : sp 45 [] l = ((sp 45 [] l).map so7).map dgs := by
    have h1 := sp_join 45 (((sp 45 [] l).map so7).map dgs) (by intro h; have := congrArg List.length h; simp at this; rw [this] at n1; simp at n1) (by
      intro q hq
      obtain ⟨x, _, rfl⟩ := List.mem_map.1 hq
      exact dgs_no x)
    have h2 : Lib.join (((sp 45 [] l).map so7).map dgs) [45] = l := ht
    rw [h2] at h1
    exact h1
  have hok : (sp 45 [] l).all ok8 = true := by
    rw [List.all_eq_true]
    intro p hp
    rw [hps] at hp
    obtain ⟨x, hx, rfl⟩ := List.mem_map.1 hp
    obtain ⟨h0, h1⟩ := hall x hx
    obtain ⟨c1, c2⟩ := dgs_back x h0
    rw [ok8_iff]
    exact ⟨c1, by omega⟩
  unfold pgS
  rw [Bool.and_eq_true, lst8_iff]
  refine ⟨⟨n2, hok⟩, ?_⟩
  rw [← nums_same8 _ hok]
  exact hg
theorem pgS_no (l : List UInt8) (h : pgS l = false) (hg : sgB ((sp 45 [] l).map so7) = true) : songTx ((sp 45 [] l).map so7) ≠ l := fun ht => by
  rw [pgS_of l hg ht] at h
  cases h
end Go.Proofs.YtpajmgonceepoaaDoor
namespace Go.Proofs.YtpajmgonceepoaaDoor
open Go.ChangeShapes Go.WideShapes Go.ChangeAt Go.RowKit Go.IntWalk

set_option maxRecDepth 100000 in
set_option maxHeartbeats 1600000 in
theorem soNumber_off (l : List UInt8) (W : World) (hl : l.length ≤ 1048576) (h : l.length < 1 ∨ 7 < l.length) :
    Calls Tryd.prog 33 #[.string ⟨l.toArray⟩] W fun e w' => e = .returned (.int .i64 (so7 l)) ∧ Kp Nw W w' := by
  have hr : so7 l = -1 := by unfold so7; rw [if_neg]; rintro ⟨a, b, _⟩; omega
  rw [hr]
  obtain ⟨n, hn⟩ : ∃ n, l.length = n := ⟨_, rfl⟩
  have hsz : (ByteArray.mk l.toArray).size = n := by rw [← hn]; rfl
  rw [hn] at h hl
  have y1 : (n : Int) < 1 ∨ (7 : Int) < n := by omega
  clear hn hr h
  go_enter Tryd.func33, Tryd.ntmps33
  go_wp2_with (first | ((with_reducible refine (l1In_no (n : Int) 1 7 _ y1).mono ?_); rintro e w' ⟨rfl, rfl⟩))
  go_ret
  exact ⟨rfl, Kp.refl _ _⟩

set_option maxRecDepth 100000 in
set_option maxHeartbeats 3200000 in
theorem soNumber_on (l : List UInt8) (W : World) (h1 : 1 ≤ l.length) (h7 : l.length ≤ 7) :
    Calls Tryd.prog 33 #[.string ⟨l.toArray⟩] W fun e w' => e = .returned (.int .i64 (so7 l)) ∧ Kp Nw W w' := by
  obtain ⟨n, hn⟩ : ∃ n, l.length = n := ⟨_, rfl⟩
  have hsz : (ByteArray.mk l.toArray).size = n := by rw [← hn]; rfl
  have HN := Lib.hid hn
  rw [hn] at h1 h7
  have y1 : (1 : Int) ≤ n := by omega
  have y2 : (n : Int) ≤ 7 := by omega
  clear hn
  · go_enter Tryd.func33, Tryd.ntmps33
    go_wp2_with (first | ((with_reducible refine (l1In_yes (n : Int) 1 7 _ y1 y2).mono ?_); rintro e w' ⟨rfl, rfl⟩))
    go_loopw [3, 4] (fun v u wx => ∃ (j : Nat) (z : Value), j ≤ n ∧ z = u ∧ v = .int .i64 (val (l.take j)) ∧ (l.take j).all isDig = true ∧ wx = W.iter ⟨l.toArray⟩ j) (fun _ _ wx => n - wx.iterPos W.heap.size)
    case atStart => exact ⟨0, _, Nat.zero_le _, rfl, rfl, rfl, rfl⟩
    case round =>
      obtain ⟨j, z, hj, rfl, rfl, hd, rfl⟩ := hrel
      have j0 : (0 : Int) ≤ j := Int.natCast_nonneg _
      have HD := Lib.hid hd
      by_cases hp : j < n
      · have hlt : j < l.length := by rw [HN.out]; exact hp
        have hqs : j < (ByteArray.mk l.toArray).size := by rw [hsz]; exact hp
        have bj := bget l j hlt hqs
        obtain ⟨b, hb⟩ : ∃ b, l[j]'hlt = b := ⟨_, rfl⟩
        rw [hb] at bj
        have HB := Lib.hid hb
        have p1 : (j : Int) < n := by omega
        have hv : val (l.take j) < 10000000 := by
          have := val_lt _ (l.take j) (Nat.le_refl _) hd
          have h2 : (l.take j).length ≤ 7 := by rw [List.length_take]; omega
          have h3 : 10 ^ (l.take j).length ≤ 10 ^ 7 := Nat.pow_le_pow_right (by omega) h2
          omega
        have HV : Hid (val (l.take (j + 1)) = 10 * val (l.take j) + (b.toNat - 48)) := Lib.hid (by rw [List.take_succ_eq_append_getElem hlt, val_snoc, hb])
        obtain ⟨x, hx⟩ : ∃ x, val (l.take j) = x := ⟨_, rfl⟩
        rw [hx] at hv HV ⊢
        clear hd hb hx
        by_cases hgo : 48 ≤ b.toNat ∧ b.toNat ≤ 57
        · have HA := Lib.hid (all_step l j hlt HD.out (by rw [HB.out]; simp [isDig]; omega))
          have hnx : ∀ ty, (Instr.next (.pointer (some ⟨W.heap.size, 0, none⟩)) true ty).run Tryd.prog (W.iter ⟨l.toArray⟩ j) = .ok (.tuple #[.bool true, .int .i64 j, .int .i32 (b.toNat)]) (W.iter ⟨l.toArray⟩ (j + 1)) := fun ty => by
            have := run_next_ascii (P := Tryd.prog) W ⟨l.toArray⟩ j ty hqs (by rw [bj]; omega)
            rw [bj] at this
            exact this
          have q1 : ¬ (b.toNat : Int) < 48 := by omega
          have q2 : ¬ (57 : Int) < b.toNat := by omega
          have w1 : IntKind.i64.wrap (10 * (x : Int)) = 10 * x := i64_in _ (by omega)
          have w2 : IntKind.u8.wrap ((b.toNat : Int) - 48) = b.toNat - 48 := u8_in _ (by omega)
          have w3 : IntKind.i64.wrap ((b.toNat : Int) - 48) = b.toNat - 48 := i64_in _ (by omega)
          have w4 : IntKind.i64.wrap (10 * (x : Int) + ((b.toNat : Int) - 48)) = 10 * x + (b.toNat - 48) := i64_in _ (by omega)
          go_wp2
          go_roundw
          case rel => exact ⟨j + 1, _, by omega, rfl, by rw [HV.out]; congr 1; omega, HA.out, rfl⟩
          case measure => simp [World.iterPos_iter] <;> omega
        · have HR := Lib.hid (so7_not l (not_all l j hlt (by rw [HB.out]; simp [isDig]; omega)))
          have hnx := fun ty => run_next_any (P := Tryd.prog) W ⟨l.toArray⟩ j ty hqs
          have hkf : ∀ d, Kp Nw W (W.iter ⟨l.toArray⟩ d) := fun d => Kp.al W _
          obtain ⟨D, hD⟩ : ∃ D, (Utf8.decode ⟨l.toArray⟩ j).1 = D := ⟨_, rfl⟩
          obtain ⟨E, hE⟩ : ∃ E, j + (Utf8.decode ⟨l.toArray⟩ j).2 = E := ⟨_, rfl⟩
          simp only [hD, hE] at hnx
          clear hD hE
          by_cases q0 : b.toNat < 48
          · have q1 : (b.toNat : Int) < 48 := by omega
            go_wp2
            go_ret
            exact ⟨ret_int' HR.out.symm, hkf _⟩
          · have q1 : ¬ (b.toNat : Int) < 48 := by omega
            have q2 : (57 : Int) < b.toNat := by omega
            go_wp2
            go_ret
            exact ⟨ret_int' HR.out.symm, hkf _⟩
      · have e : j = n := by omega
        subst e
        have hnx := fun ty => run_next_end (P := Tryd.prog) W ⟨l.toArray⟩ j ty (by rw [hsz]; omega)
        have HR : Hid (so7 l = val (l.take j)) := Lib.hid (by
          rw [List.take_of_length_le (by rw [HN.out]; exact Nat.le_refl _)] at hd ⊢
          exact so7_all l (by rw [HN.out]; exact h1) (by rw [HN.out]; exact h7) hd)
        have hkf : Kp Nw W (W.iter ⟨l.toArray⟩ j) := Kp.al W _
        clear hd
        go_wp2
        go_ret
        exact ⟨ret_int' HR.out.symm, hkf⟩
theorem soNumber_any (l : List UInt8) (W : World) (hl : l.length ≤ 1048576) :
    Calls Tryd.prog 33 #[.string ⟨l.toArray⟩] W fun e w' => e = .returned (.int .i64 (so7 l)) ∧ Kp Nw W w' := by
  by_cases h : 1 ≤ l.length ∧ l.length ≤ 7
  · exact soNumber_on l W h.1 h.2
  · exact soNumber_off l W hl (by omega)

set_option maxRecDepth 100000 in
set_option maxHeartbeats 1600000 in
theorem soText_cap (g n cp : Nat) (xs : List Int) (B : Nat) (W : World) (hs : SlAt W B g cp n xs) (hb : sgB xs = true) :
    Calls Tryd.prog 16 #[.agg #[.slice (some ⟨g, 0, none⟩) n cp]] W fun e w' => e = .returned (.string ⟨(songTx xs).toArray⟩) ∧ Kp Nw W w' := by
  obtain ⟨n1, n2⟩ := sgB_len hb
  have hall := sg_all hb
  have hn := hs.1
  have HS := Lib.hid hs
  have HALL := Lib.hid hall
  have HN := Lib.hid hn
  rw [hn] at n1 n2
  have T0 := Lib.hid (Own1.new W (.slice (some ⟨g, 0, none⟩) n cp) 28).1
  have t0 := T0.out
  clear hs hb hn hall
  go_enter Tryd.func16, Tryd.ntmps16
  go_wp2
  go_loopw [3, 4, 5, 9] (fun s _ _ i wr => ∃ (j : Nat) (l : List UInt8), j ≤ n ∧ i = .int .i64 j ∧ s = .string ⟨l.toArray⟩ ∧ l = songTx (xs.take j) ∧ Kp Nw (W.alloc (.cells #[.slice (some ⟨g, 0, none⟩) n cp] 28)) wr) (fun _ _ _ i _ => n - (intOf i).toNat)
  case atStart => exact ⟨0, [], Nat.zero_le _, rfl, rfl, by simp [songTx_nil], Kp.refl _ _⟩
  case round =>
    rename_i wr
    obtain ⟨j, l, hj, rfl, rfl, hl, hk⟩ := hrel
    have HL := Lib.hid hl
    have HK := Lib.hid hk
    by_cases hlt : j < n
    · have hl' : j < xs.length := by rw [HN.out]; exact hlt
      have c := keepc hk (keepc (.al W (.cells #[.slice (some ⟨g, 0, none⟩) n cp] 28)) (HS.out.cell j hlt) (fun h => h)) (fun h => h)
      obtain ⟨y, hy⟩ : ∃ y, xs.getD j 0 = y := ⟨_, rfl⟩
      have hx : xs[j] = y := by rw [← hy]; simp [hl']
      rw [hy] at c
      have hb := HALL.out y (by rw [← hx]; exact List.getElem_mem _)
      obtain ⟨m, rfl⟩ : ∃ m : Nat, y = m := ⟨y.toNat, by omega⟩
      have HT : Hid (xs.take (j + 1) = xs.take j ++ [(m : Int)]) := Lib.hid (by rw [List.take_succ_eq_append_getElem hl', hx])
      have hlm := digits_length m (by omega)
      have hnl := songTx_length (xs.take j) (fun x hx => by have := (HALL.out x (List.mem_of_mem_take hx)).2; omega)
      have htl : (xs.take j).length ≤ 20 := by rw [List.length_take]; omega
      have hll : l.length ≤ 5000 := by rw [hl]; omega
      obtain ⟨dm, hdm⟩ : ∃ dm, Lib.decDigits m = dm := ⟨_, rfl⟩
      rw [hdm] at hlm
      have HDM := Lib.hid hdm
      have HDG : Hid (dgs (m : Int) = dm) := Lib.hid (by rw [← hdm]; simp [dgs])
      have j0 : (0 : Int) ≤ j := Int.natCast_nonneg _
      have j1 : (j : Int) < n := by omega
      have m9 : (m : Int) ≤ 1000000 := hb.2
      have m10 : m ≤ 1000000 := by omega
      have s2 : ¬ (9223372036854775807 : Nat) < l.length + 1 := by omega
      have s3 : ¬ (9223372036854775807 : Nat) < l.length + dm.length := by omega
      have s4 : ¬ (9223372036854775807 : Nat) < l.length + 1 + dm.length := by omega
      clear hl hk hx hb hy hnl htl hl' hdm
      by_cases e : j = 0
      · subst e
        have HE : Hid (songTx (xs.take (0 + 1)) = l ++ dm) := Lib.hid (by rw [HT.out, HL.out]; simp [songTx_one, songTx_nil, HDG.out])
        go_wp2_with fail
        refine (l1Num_any (m + 1) m _ (by omega) (by omega)).mono ?_
        rintro e w2 ⟨rfl, hk2⟩
        rw [HDM.out]
        have HK2 := Lib.hid (HK.out.nw hk2)
        clear hk2
        go_wp2
        go_roundw
        case rel => exact ⟨1, l ++ dm, by omega, by go_num, by first | rfl | exact str_app l dm, HE.out.symm, HK2.out⟩
        case measure => simp [intOf]; omega
      · have e1 : (0 : Int) < j := by omega
        have hne : xs.take j ≠ [] := by
          intro h
          have := congrArg List.length h
          rw [List.length_take, HN.out] at this
          simp at this
          omega
        have HE : Hid (songTx (xs.take (j + 1)) = l ++ [45] ++ dm) := Lib.hid (by rw [HT.out, songTx_snoc _ _ hne, HL.out, HDG.out])
        clear hne e
        go_wp2_with fail
        refine (l1Num_any (m + 1) m _ (by omega) (by omega)).mono ?_
        rintro e w2 ⟨rfl, hk2⟩
        rw [HDM.out]
        have HK2 := Lib.hid (HK.out.nw hk2)
        clear hk2
        go_wp2
        go_roundw
        case rel => exact ⟨j + 1, l ++ [45] ++ dm, by omega, by go_num, by first | rfl | (rw [← str_app (l ++ [45]) dm, ← ByteArray.mk_append_mk l [45]]), HE.out.symm, HK2.out⟩
        case measure => simp [intOf]; omega
    · have e : j = n := by omega
      subst e
      have HF : Hid (l = songTx xs) := Lib.hid (by rw [HL.out, List.take_of_length_le (by rw [HN.out]; exact Nat.le_refl _)])
      clear hl hk
      go_wp2
      go_ret
      exact ⟨ret_string (by rw [HF.out]), (Kp.al W _).nw HK.out⟩

end Go.Proofs.YtpajmgonceepoaaDoor
namespace Go.Proofs.YtpajmgonceepoaaDoor
open Go.ChangeShapes Go.WideShapes Go.ChangeAt Go.RowKit

/-- SplitN at a comma: the pieces, as texts, in a row of their own -/
theorem splitN8_any (l : List UInt8) (n : Nat) (W : World) (hM : Mx W) (hl : l.length < 2000000) (hn : 1 ≤ n) (hn2 : n ≤ 1000) :
    Calls Tryd.prog 34 #[.string ⟨l.toArray⟩, .string ⟨#[45]⟩, .int .i64 n] W fun e w' =>
      ∃ c, (Lib.splitK [45] 0 (min n (l.length + 1) - 1) l).length ≤ c ∧ c ≤ 1000 ∧ e = .returned (.slice (some ⟨W.heap.size, 0, none⟩) (Lib.splitK [45] 0 (min n (l.length + 1) - 1) l).length c) ∧ Kp Nw W w' ∧
        ∀ j : Nat, j < (Lib.splitK [45] 0 (min n (l.length + 1) - 1) l).length → w'.cell? ⟨W.heap.size, j, none⟩ = some (strV ((Lib.splitK [45] 0 (min n (l.length + 1) - 1) l).getD j [])) := by
  obtain ⟨m, hm⟩ := hM
  have es : (ByteArray.mk l.toArray).size = l.length := rfl
  obtain ⟨k, hk⟩ : ∃ k, min n (l.length + 1) - 1 = k := ⟨_, rfl⟩
  have hd := Lib.splitB_data ⟨#[45]⟩ 0 k ⟨l.toArray⟩
  have hlen := Lib.splitB_length_le ⟨#[45]⟩ 0 k ⟨l.toArray⟩
  refine (Tryd.strings_SplitN ⟨l.toArray⟩ ⟨#[45]⟩ n m W (by rw [es]; omega) hm (by decide) hn (by omega)).mono ?_
  rintro e w' ⟨rfl, rfl⟩
  rw [es, hk]
  obtain ⟨ps, hps⟩ : ∃ ps, Lib.splitB ⟨#[45]⟩ 0 k ⟨l.toArray⟩ = ps := ⟨_, rfl⟩
  rw [hps] at hd hlen ⊢
  have e1 : Lib.splitK [45] 0 k l = ps.map (·.data.toList) := hd.symm
  rw [e1, List.length_map]
  refine ⟨_, ?_, by omega, rfl, Kp.al _ _, fun j hj => ?_⟩
  · omega
  · rw [World.cell?_alloc_new]
    simp only [Lib.cellsOf]
    rw [← Array.getElem?_toList, List.toList_toArray, List.getElem?_append_left (by simpa using hj)]
    simp [strV, hj]

/-- what parseNumbers returns -/
def NumsRes8 (W : World) (ps : List (List UInt8)) (e : Ending) (w' : World) : Prop := ListRes W (if ps.all ok8 then nums ps else []) (ps.all ok8) e w'

set_option maxRecDepth 100000 in
set_option maxHeartbeats 1600000 in
theorem parseNums8_any (l : List UInt8) (W : World) (ps : List (List UInt8)) (hps : ps = Lib.splitK [45] 0 (min 21 (l.length + 1) - 1) l) (hT : Tabs W) (hM : Mx W) (hl : l.length < 2000000) (hlen : ∀ p ∈ ps, p.length ≤ 2000000) (n1 : ps.length ≤ 20) :
    Calls Tryd.prog 22 #[.string ⟨l.toArray⟩, .string ⟨#[45]⟩, .int .i64 20, .int .i64 1000000] W (NumsRes8 W ps) := by
  obtain ⟨i0, hi0, hz0, hz1, hz2⟩ := info_parts intInfo
  have HT := Lib.hid hT
  have HLEN := Lib.hid hlen
  obtain ⟨n, hn⟩ : ∃ n, ps.length = n := ⟨_, rfl⟩
  have HN := Lib.hid hn
  have hc := splitN8_any l 21 W hM hl (by omega) (by omega)
  rw [← hps, hn] at hc
  rw [hn] at n1
  have HC := Lib.hid hc
  have n2 : (n : Int) ≤ 20 := by omega
  clear hT hlen hn hc hps
  go_enter Tryd.func22, Tryd.ntmps22
  go_wp2_with fail
  refine HC.out.mono ?_
  rintro e w1 ⟨c, hc1, hc2, rfl, hk1, hcell⟩
  have HK1 := Lib.hid hk1
  have HP := Lib.hid hcell
  clear hk1 hcell
  go_wp2_with (first | (at_make; refine wpList_make_full _ rfl _ _ 22 rfl w1.heap.size 3 i0 (.int .i64 0) 1 Tryd.underlying22 hi0 hz0 hz1 _ _ _ _ n rfl rfl rfl rfl (by rw [hz2]; omega) (by unfold maxLen; omega) (Nat.le_refl _) ?_))
  intro w2 hown hgrow
  have hk2 : Kp Nw w1 w2 := (Kp.refl _ _).grown hgrow (fun g hg => by cases hg)
  have HS := Lib.hid (Sl.zeros hown)
  have HK := Lib.hid hk2
  clear hown hgrow hk2
  go_wp2
  go_loopw [12, 13, 14, 15, 30] (fun _ _ _ _ i wr => ∃ j : Nat, j ≤ n ∧ i = .int .i64 j ∧ SlAt wr w1.heap.size w1.heap.size n n (fill (nums ps) (List.replicate n 0) j) ∧ (ps.take j).all ok8 = true ∧ Kp Nw w1 wr) (fun _ _ _ _ i _ => n - (intOf i).toNat)
  case atStart => exact ⟨0, Nat.zero_le _, rfl, by rw [fill_zero]; exact HS.out, rfl, HK.out⟩
  case round =>
    rename_i wr
    obtain ⟨j, hj, rfl, hs, ha, hk⟩ := hrel
    have j0 : (0 : Int) ≤ j := Int.natCast_nonneg _
    by_cases hlt : j < n
    · have hl' : j < ps.length := by rw [HN.out]; exact hlt
      obtain ⟨p, hp⟩ : ∃ p, ps.getD j [] = p := ⟨_, rfl⟩
      have c0 := keepc hk (HP.out j hlt) (fun h => h)
      rw [hp] at c0
      have hx : ps[j] = p := by rw [← hp]; simp [hl']
      have hpl := HLEN.out p (by rw [← hx]; exact List.getElem_mem _)
      have j1 : (j : Int) < n := by omega
      have f0 := hs.frozen j
      have s0 := hs.cell j hlt
      have H := Lib.hid hs
      have HK2 := Lib.hid hk
      unfold strV at c0
      by_cases ok : ok8 p = true
      · have HA : Hid ((ps.take (j + 1)).all ok8 = true) := Lib.hid (by rw [List.take_succ_eq_append_getElem hl', List.all_append, ha, hx]; simp [ok])
        have HX := Lib.hid hp
        unfold ok8 at ok
        rw [Bool.and_eq_true] at ok
        have ok1 := Lib.hid ok.1
        have ok2 := Lib.hid (of_decide_eq_true ok.2)
        clear hs hk ha ok hp hx hl' s0 f0
        go_wp2_with fail
        refine (parseNumber_yes p 1000000 _ ((HT.out.nw HK1.out).nw HK2.out) (by omega) (by omega) ok1.out ok2.out).mono ?_
        rintro e w5 ⟨rfl, hk5⟩
        have H5 := Lib.hid (H.out.nw hk5)
        have HK5 := Lib.hid (HK2.out.nw hk5)
        have f0 := H5.out.frozen j
        have s0 := H5.out.cell j hlt
        clear hk5
        go_wp2
        go_roundw
        case rel =>
          refine ⟨j + 1, by omega, by go_num, ?_, HA.out, HK5.out.setCell (.inr (Nat.le_refl _)) _⟩
          have h2 := H5.out.store j (val p : Int)
          rw [fill_set (nums ps) _ j (val p : Int) (by simp [nums, HN.out]) (by simp [nums, HN.out]; exact hlt) (by rw [nums_get ps j (by rw [HN.out]; exact hlt), HX.out])] at h2
          exact h2
        case measure => simp [intOf]; omega
      · have HA : Hid (ps.all ok8 = false) := Lib.hid (by rw [List.all_eq_false]; exact ⟨ps[j], List.getElem_mem _, by rw [hx]; exact ok⟩)
        have no : ¬ (canon p = true ∧ val p ≤ 1000000) := by
          rintro ⟨a, b⟩
          apply ok
          unfold ok8
          rw [a]
          simp [b]
        have NO := Lib.hid no
        clear hs hk ha ok hp hx hl' s0 f0 no
        go_wp2_with fail
        refine (parseNumber_no p 1000000 _ ((HT.out.nw HK1.out).nw HK2.out) (by omega) (by omega) NO.out).mono ?_
        rintro e w5 ⟨rfl, hk5⟩
        have HK5 := Lib.hid (HK1.out.nw (HK2.out.nw hk5))
        clear hk5
        go_wp2
        go_ret2
        unfold NumsRes8
        rw [HA.out]
        exact ⟨_, rfl, Sl.nil _ _, HK5.out⟩
    · have e : j = n := by omega
      subst e
      have hn1 := HN.out
      have HA : Hid (ps.all ok8 = true) := Lib.hid (by rw [List.take_of_length_le (by omega)] at ha; exact ha)
      rw [show fill (nums ps) (List.replicate j 0) j = nums ps by
        have := fill_all (nums ps) (List.replicate j 0) (by simp [nums, hn1])
        rwa [show (nums ps).length = j by simp [nums, hn1]] at this] at hs
      have H := Lib.hid hs
      have HK2 := Lib.hid (HK1.out.nw hk)
      clear hs hk ha
      go_wp2
      go_ret2
      unfold NumsRes8
      rw [HA.out]
      exact ⟨_, rfl, H.out.sl.from HK1.out.size, HK2.out⟩

/-- more than 200 pieces are refused -/
theorem parseNums8_many (l : List UInt8) (W : World) (ps : List (List UInt8)) (hps : ps = Lib.splitK [45] 0 (min 21 (l.length + 1) - 1) l) (hM : Mx W) (hl : l.length < 2000000) (n1 : 20 < ps.length) :
    Calls Tryd.prog 22 #[.string ⟨l.toArray⟩, .string ⟨#[45]⟩, .int .i64 20, .int .i64 1000000] W (ListRes W [] false) := by
  obtain ⟨n, hn⟩ : ∃ n, ps.length = n := ⟨_, rfl⟩
  have hc := splitN8_any l 21 W hM hl (by omega) (by omega)
  rw [← hps, hn] at hc
  rw [hn] at n1
  have HC := Lib.hid hc
  have n2 : 20 < (n : Int) := by omega
  clear hn hc hps
  go_enter Tryd.func22, Tryd.ntmps22
  go_wp2_with fail
  refine HC.out.mono ?_
  rintro e w1 ⟨c, hc1, hc2, rfl, hk1, hcell⟩
  have HK1 := Lib.hid hk1
  clear hk1 hcell
  go_wp2
  go_ret2
  exact ⟨_, rfl, Sl.nil _ _, HK1.out⟩

/-- parseNumbers at any text -/
theorem parseNums8_all (l : List UInt8) (W : World) (hT : Tabs W) (hM : Mx W) (hl : l.length < 2000000) :
    Calls Tryd.prog 22 #[.string ⟨l.toArray⟩, .string ⟨#[45]⟩, .int .i64 20, .int .i64 1000000] W (ListRes W (if lst8 (sp 45 [] l) then nums (sp 45 [] l) else []) (lst8 (sp 45 [] l))) := by
  obtain ⟨k, hk⟩ : ∃ k, min 21 (l.length + 1) - 1 = k := ⟨_, rfl⟩
  have hc := sp_count 45 l []
  have no : 20 < (sp 45 [] l).length → lst8 (sp 45 [] l) = false := fun h => by
    unfold lst8
    rw [decide_eq_false (by omega), Bool.false_and]
  rcases splitK_sp 45 k l with ⟨e1, e2⟩ | ⟨e1, e2⟩
  · by_cases h2 : (sp 45 [] l).length ≤ 20
    · have e : lst8 (sp 45 [] l) = (sp 45 [] l).all ok8 := by
        unfold lst8
        rw [decide_eq_true h2, Bool.true_and]
      rw [e]
      exact parseNums8_any l W _ (by rw [hk, e1]) hT hM hl (fun p hp => by have := sp_piece 45 l [] p hp; simp at this; omega) h2
    · rw [no (by omega)]
      exact parseNums8_many l W _ (by rw [hk, e1]) hM (by omega) (by omega)
  · rw [no (by omega)]
    exact parseNums8_many l W _ rfl hM (by omega) (by rw [hk, e1]; omega)

set_option maxRecDepth 100000 in
set_option maxHeartbeats 1600000 in
theorem iParseSong_any (l : List UInt8) (W : World) (hT : Tabs W) (hM : Mx W) (hl : l.length < 2000000) (zs : List Int) (b : Bool) (hb : pgS l = b) (hz : zs = if b = true then nums (sp 45 [] l) else []) :
    Calls Tryd.prog 11 #[.string ⟨l.toArray⟩] W (SongB W zs b) := by
  have hc := sp_count 45 l []
  obtain ⟨xs, hxs⟩ : ∃ xs, (if lst8 (sp 45 [] l) then nums (sp 45 [] l) else []) = xs := ⟨_, rfl⟩
  obtain ⟨q, hq⟩ : ∃ q, lst8 (sp 45 [] l) = q := ⟨_, rfl⟩
  have HP := Lib.hid (parseNums8_all l (W.alloc (.cells #[.slice none 0 0] 28)) (hT.nw (.al _ _)) (hM.nw (.al _ _)) hl)
  rw [hxs, hq] at HP
  have HXB : Hid (b = sgB xs) := Lib.hid (by
    rw [← hb, ← hxs]
    unfold pgS
    rw [hq]
    cases q
    · rfl
    · rw [Bool.true_and]; rfl)
  have HZ : Hid (b = true → zs = xs) := Lib.hid (fun h => by
    rw [hz, if_pos h, ← hxs]
    have : q = true := by
      rw [h] at hb
      unfold pgS at hb
      rw [Bool.and_eq_true, hq] at hb
      exact hb.1
    rw [hq, this]
    rfl)
  have HZ0 : Hid (b = false → zs = []) := Lib.hid (fun h => by rw [hz, h]; rfl)
  obtain ⟨n, hn⟩ : ∃ n, xs.length = n := ⟨_, rfl⟩
  have HN := Lib.hid hn
  have hn2 : n ≤ 2000000 := by
    rw [← hn, ← hxs]
    cases lst8 (sp 45 [] l)
    · simp
    · simp [nums] at hc ⊢; omega
  clear hT hM hc hxs hq hb hz hn
  go_enter Tryd.func11, Tryd.ntmps11
  go_wp2_with fail
  refine HP.out.mono ?_
  rintro e w1 ⟨v1, rfl, hs1, hk1⟩
  obtain ⟨A1, c1, rfl⟩ := hs1.val HN.out
  have T1 := Lib.hid ((Own1.new W (.slice none 0 0) 28).kp hk1 (fun h => h))
  have HK1 := Lib.hid ((Kp.al W (.cells #[.slice none 0 0] 28)).nw hk1)
  have HS1 := Lib.hid hs1
  clear hs1 hk1
  have t1 := T1.out.1
  go_wp2_with fail
  refine (ifSong_any A1 n c1 xs _ HS1.out.rd HN.out hn2 b HXB.out).mono ?_
  rintro e w2 ⟨rfl, hk2⟩
  have T2 := Lib.hid (T1.out.kp hk2 (fun h => h))
  have HK2 := Lib.hid (HK1.out.nw hk2)
  have HS2 := Lib.hid (HS1.out.below hk2.below')
  have hz2 : W.heap.size + 1 ≤ w2.heap.size := World.block_lt_of_cell? w2 _ T2.out.1
  clear hk2 t1
  obtain ⟨t2, t2'⟩ := T2.out
  simp only [World.size_alloc] at HS2
  cases b
  · have ez : zs = [] := HZ0.out rfl
    subst ez
    simp only [ifS]
    have z0 := one_set w2 W.heap.size (.slice none 0 0) _ t2
    have HR := Lib.hid (song_none 0 hz2 HK2.out)
    simp only [Nat.add_zero] at HR
    go_wp2
    refine bodyPost_ret (v := .tuple #[.agg #[.slice none 0 0], .bool false]) (by simp [results, Tryd.results11, go_sem, z0]) rfl ⟨_, rfl, HR.out.1, HR.out.2⟩
  · have ez : zs = xs := HZ.out rfl
    subst ez
    simp only [ifS]
    have z0 := one_set w2 W.heap.size (.slice A1 n c1) _ t2
    have HR := Lib.hid (song_close 0 HS2.out HK2.out)
    simp only [Nat.add_zero] at HR
    go_wp2
    refine bodyPost_ret (v := .tuple #[.agg #[.slice A1 n c1], .bool true]) (by simp [results, Tryd.results11, go_sem, z0]) rfl ⟨_, rfl, HR.out.1, HR.out.2⟩
end Go.Proofs.YtpajmgonceepoaaDoor
namespace Go.Proofs.YtpajmgonceepoaaDoor
open Go.ChangeShapes Go.WideShapes Go.ChangeAt Go.RowKit

set_option maxRecDepth 100000 in
set_option maxHeartbeats 1600000 in
theorem soParse_off (l : List UInt8) (W : World) (hl : l.length ≤ 1048576) (h : 300 < l.length) :
    Calls Tryd.prog 21 #[.string ⟨l.toArray⟩] W (SongB W [] false) := by
  have h2 : (300 : Int) < (l.length : Int) := by omega
  have hll : (l.length : Int) ≤ 1048576 := by omega
  go_enter Tryd.func21, Tryd.ntmps21
  go_wp2
  refine bodyPost_ret (v := .tuple #[.agg #[.slice none 0 0], .bool false]) (by simp [results, Tryd.results21, go_sem]) rfl ⟨_, rfl, (Sl.nil _ _).from (by first | exact Nat.le_refl _ | exact Nat.le_succ _ | (simp only [World.size_alloc]; omega)), Kp.al _ _⟩

set_option maxRecDepth 100000 in
set_option maxHeartbeats 6400000 in
theorem soParse_on (l : List UInt8) (W : World) (hl : l.length ≤ 300) (ys : List Int) (hys : (sp 45 [] l).map so7 = ys) (G : Bool) (hG : sgB ys = G) (tx : List UInt8) (htx : songTx ys = tx) (b : Bool) (hb : b = (G && decide (tx = l))) :
    Calls Tryd.prog 21 #[.string ⟨l.toArray⟩] W (SongB W ys b) := by
  have hll : (l.length : Int) ≤ 300 := by omega
  have h6 : ¬ (300 : Int) < (l.length : Int) := by omega
  have HP : Hid (0 < (sp 45 [] l).length) := Lib.hid (sp_pos 45 l [])
  obtain ⟨n, hn⟩ : ∃ n, (sp 45 [] l).length = n := ⟨_, rfl⟩
  have HN := Lib.hid hn
  have hn1 : n ≤ 301 := by have := sp_count 45 l []; omega
  have HPL : Hid (∀ p ∈ (sp 45 [] l), p.length ≤ 300) := Lib.hid (fun p hp => by have := sp_piece 45 l [] p hp; simp at this; omega)
  have HYS := Lib.hid hys
  have HYN : Hid (ys.length = n) := Lib.hid (by rw [← hys, List.length_map, hn])
  have HG := Lib.hid hG
  have HTX := Lib.hid htx
  have HB := Lib.hid hb
  have hl : l.length ≤ 1048576 := by omega
  clear hn hys hG htx hb
  · go_enter Tryd.func21, Tryd.ntmps21
    go_wp2_with fail
    refine (l1Split_any l 45 _ hl).mono ?_
    rintro e w1 ⟨v, rfl, hs1, hk1⟩
    obtain ⟨g, cap, rfl, hc1, hg1, hg2, hcell⟩ := hs1.at_ HP.out
    rw [HN.out] at hc1 hcell ⊢
    have HT1 := Lib.hid (((Own1.new W (.slice none 0 0) 28).kp (.al _ (.cells #[.slice none 0 0] 28)) (fun h => h)).kp hk1 (fun h => h))
    have HR1 := Lib.hid ((Own1.new (W.alloc (.cells #[.slice none 0 0] 28)) (.slice none 0 0) 28).kp hk1 (fun h => h))
    have HK1 := Lib.hid (((Kp.al W (.cells #[.slice none 0 0] 28)).nw (.al _ (.cells #[.slice none 0 0] 28))).nw hk1)
    simp only [World.size_alloc] at hg1 HR1
    have HC1 := Lib.hid hcell
    have hR : W.heap.size + 1 < w1.heap.size := World.block_lt_of_cell? w1 _ HR1.out.1
    have hgR : ¬ g = W.heap.size + 1 := by omega
    clear hs1 hk1 hcell
    go_wp2
    go_loopw [6, 14] (fun _ i wr => ∃ (j : Nat) (v : Value), j ≤ n ∧ i = .int .i64 j ∧ Hid (Own1 wr (W.heap.size + 1) v) ∧ Hid (Sl wr w1.heap.size v (((sp 45 [] l).take j).map so7)) ∧ Hid (Kp (fun b => b = W.heap.size + 1) w1 wr)) (fun _ i _ => n - (intOf i).toNat)
    case atStart => exact ⟨0, _, Nat.zero_le _, rfl, HR1, Lib.hid (by simpa using Sl.nil _ _), Lib.hid (Kp.refl _ _)⟩
    case round =>
      rename_i wr
      obtain ⟨j, v, hj, rfl, HR, HS, HK⟩ := hrel
      have j0 : (0 : Int) ≤ j := Int.natCast_nonneg _
      by_cases hlt : j < n
      · have j1 : (j : Int) < n := by omega
        have hl' : j < (sp 45 [] l).length := by rw [HN.out]; exact hlt
        obtain ⟨p, hp⟩ : ∃ p, (sp 45 [] l).getD j [] = p := ⟨_, rfl⟩
        have cp := keepc HK.out (HC1.out j hlt) (show ¬ g = W.heap.size + 1 from hgR)
        rw [hp] at cp
        have hx : (sp 45 [] l)[j] = p := by rw [← hp]; simp [hl']
        have hpl := HPL.out p (by rw [← hx]; exact List.getElem_mem _)
        have HX : Hid (((sp 45 [] l).take (j + 1)).map so7 = ((sp 45 [] l).take j).map so7 ++ [so7 p]) := Lib.hid (by rw [List.take_succ_eq_append_getElem hl', hx]; simp)
        have HLJ : Hid ((((sp 45 [] l).take j).map so7).length = j) := Lib.hid (by simp; omega)
        have HTL : Hid ((((sp 45 [] l).take j).map so7).length ≤ 1001) := Lib.hid (by simp; omega)
        obtain ⟨Av, cv, rfl⟩ := HS.out.val (n := j) (by simp; omega)
        have r0 := HR.out.1
        have hsz := HK.out.size
        have hvo : Hid (∀ q, (Value.slice Av j cv).ownBlock = some q → w1.heap.size ≤ q) := Lib.hid (fun q hq => (HS.out.own_ge q hq).1)
        have hrr : ∀ q, w1.heap.size ≤ q → ¬ q = W.heap.size + 1 := fun q hq => by omega
        unfold sval at cp
        clear hp hx hl'
        go_wp2_with fail
        go_region_law (first
          | (go_simp
             go_at_call 33
             refine (soNumber_any p _ (by omega)).mono ?_
             rintro e w5b ⟨rfl, hk⟩
             have kk : Kp Nw wr w5b := (Kp.refl Nw _).drew.nw hk
             have u0 := keepc kk r0 (fun h => h)
             have u1 := keepc (.al w5b (.cells #[.int .i64 (so7 p)] 3)) u0 (fun h => h))
          | (refine step_app _ (by rfl) (.tmp 19) (.tmp 22) (by rfl) w1.heap.size (.slice Av j cv) _ (((sp 45 [] l).take j).map so7) [so7 p] (by rfl) (by rfl) ((HS.out.below kk.below').below (Kp.al _ _).below') (Rd.one (by simp)) nil_one (by have := HTL.out; simp only [List.length_singleton]; omega) (by have := kk.size; simp; omega) ?_
             intro v6 w6 hs6 hk6 ho6
             obtain ⟨A6, c6, rfl⟩ := hs6.val (n := j + 1) (by rw [List.length_append, HLJ.out]; rfl)
             have hk6w := ((HK.out.nw kk).nw (.al _ _)).after hk6 (fun q hq e => by have := hvo.out q e; omega)
             have hk6' := (((Kp.refl (fun b => (Value.slice Av j cv).ownBlock = some b) wr).nw kk).nw (.al _ _)).after hk6 (fun q hq e => e)
             have x6 := HR.out.kp hk6' (fun e => hrr _ (hvo.out _ e) rfl)
             obtain ⟨x0, x1⟩ := x6))
        all_goals
          rw [← HX.out] at hs6
          have kS : Kp (fun b => b = W.heap.size + 1) w6 (w6.setCell ⟨W.heap.size + 1, 0, none⟩ (.slice A6 (j + 1) c6)) := (Kp.refl (fun b => b = W.heap.size + 1) w6).setCell (p := ⟨W.heap.size + 1, 0, none⟩) (.inl rfl) _
          have HR7 := Lib.hid (show Own1 (w6.setCell ⟨W.heap.size + 1, 0, none⟩ (.slice A6 (j + 1) c6)) (W.heap.size + 1) (.slice A6 (j + 1) c6) from ⟨World.cell?_setCell_same _ _ _ x0, by simpa using x1⟩)
          have HS7 := Lib.hid (hs6.kp kS (fun q hq e => hrr q (hs6.own_ge q hq).1 e))
          have HK7 := Lib.hid (hk6w.setCell (p := ⟨W.heap.size + 1, 0, none⟩) (.inl rfl) (.slice A6 (j + 1) c6))
          clear kS hs6 hk6 hk6' hk6w x0 x1 u0 u1 kk hk
          go_wp2
          go_roundw
          case rel => exact ⟨j + 1, _, by omega, by go_num, HR7, HS7, HK7⟩
          case measure => simp [intOf]; omega
      · obtain rfl : j = n := by omega
        have hE : ((sp 45 [] l).take j).map so7 = ys := by rw [List.take_of_length_le (by have := HN.out; omega)]; exact HYS.out
        rw [hE] at HS
        obtain ⟨g7, cap7, rfl, hat, hcap, hcap2, hge, hgl⟩ := HS.out.at_ (by rw [HYN.out, ← HN.out]; exact HP.out)
        rw [HYN.out] at hat hcap HR
        have HS7 := Lib.hid hat
        have HR7 := HR
        have HT7 := Lib.hid (HT1.out.kp HK.out (show ¬ W.heap.size = W.heap.size + 1 by omega))
        have HKW := Lib.hid (HK1.out.after HK.out (fun q hq e => by have : q = W.heap.size + 1 := e; omega))
        have hg7n : ¬ g7 = W.heap.size := by omega
        have hR8 : ¬ W.heap.size + 1 = W.heap.size := by omega
        have hzr := HK.out.size
        clear hat hE hge hgl hlt HS HR
        cases G
        · obtain rfl : b = false := by rw [HB.out]; rfl
          have HG : Hid (sgB ys = false) := HG
          have hr70 := HR7.out.1
          go_wp2_with fail
          first
            | (go_region_law (first
                | (go_simp
                   go_at_call 15
                   refine (soGood_any (some ⟨g7, 0, none⟩) j cap7 ys _ ((HS7.out.kq8 (S := Nw) ((Kp.refl Nw _).drew) (fun h => h)).sl.rd) HYN.out (by omega) false HG.out.symm).mono ?_
                   rintro e w8 ⟨rfl, hk8⟩
                   have hkW8 : Kp (fun b => b = W.heap.size) wr w8 := (Kp.refl _ _).drew.nw hk8
                   have hr78 := keepc hkW8 HR7.out.1 hR8
                   have HT8 := Lib.hid ((HT7.out.kp (S := Nw) ((Kp.refl Nw _).drew) (fun h => h)).kp hk8 (fun h => h))
                   have hr8 := HT8.out.1
                   have hf8 := HT8.out.2)))
            | trivial
          all_goals
            have z0 := one_set w8 W.heap.size (.slice (some ⟨g7, 0, none⟩) j cap7) _ hr8
            have hsz9 := hkW8.size
            have HZ := Lib.hid (song_close (W := W) 0 ((HS7.out.kq8 hkW8 hg7n).sl.from (by omega)) (HKW.out.after hkW8 (fun q hq e => by have : q = W.heap.size := e; omega)))
            simp only [Nat.add_zero] at HZ
            clear hkW8 hk8
            go_wp2
            refine bodyPost_ret (v := .tuple #[.agg #[.slice (some ⟨g7, 0, none⟩) j cap7], .bool false]) (by simp [results, Tryd.results21, go_sem, z0]) rfl ⟨_, rfl, HZ.out.1, HZ.out.2⟩
        · by_cases hne : tx = l
          · subst hne
            obtain rfl : b = true := by rw [HB.out]; simp
            have hbe : (tx == tx) = true := by simp
            have hr70 := HR7.out.1
            go_wp2_with fail
            go_region_held3 (fun w' => Kp (fun b => b = W.heap.size) wr w' ∧ w'.cell? ⟨W.heap.size + 1, 0, none⟩ = some (.slice (some ⟨g7, 0, none⟩) j cap7))
               (first
                 | exact ⟨(Kp.refl _ _).drew, HR7.out.1⟩
                 | exact ⟨hkW9.setCell (.inl rfl) _, keepo _ _ _ _ _ (keepc hkW9 HR7.out.1 hR8) (by simp)⟩
                 | exact ⟨hkW9, keepc hkW9 HR7.out.1 hR8⟩
                 | exact ⟨hkW8, keepc hkW8 HR7.out.1 hR8⟩
                 | fail)
               (first
                 | (go_at_call 15
                    refine (soGood_any (some ⟨g7, 0, none⟩) j cap7 ys _ ((HS7.out.kq8 (‹Kp (fun b => b = W.heap.size) wr _ ∧ _›.1) hg7n).sl.rd) HYN.out (by omega) true HG.out.symm).mono ?_
                    rintro e w8 ⟨rfl, hk8⟩
                    have hkW8 := (‹Kp (fun b => b = W.heap.size) wr _ ∧ _›.1).nw hk8
                    have HT8 := Lib.hid ((HT7.out.kp (S := Nw) ((Kp.refl Nw _).drew) (fun h => h)).kp hk8 (fun h => h))
                    have hr8 := HT8.out.1
                    have hf8 := HT8.out.2)
                 | (go_at_call 16
                    refine (soText_cap g7 j cap7 ys w1.heap.size _ (HS7.out.kq8 hkW8 hg7n) HG.out).mono ?_
                    rw [HTX.out]
                    rintro e w9 ⟨rfl, hk9⟩
                    have hkW9 := hkW8.nw hk9
                    have HT9 := Lib.hid (HT8.out.kp hk9 (fun h => h))
                    have hr9 := HT9.out.1
                    have hf9 := HT9.out.2))
            have z0 := one_set w9 W.heap.size (.slice (some ⟨g7, 0, none⟩) j cap7) _ hr9
            have hsz9 := hkW9.size
            have HZ := Lib.hid (song_close (W := W) 0 ((HS7.out.kq8 hkW9 hg7n).sl.from (by omega)) (HKW.out.after hkW9 (fun q hq e => by have : q = W.heap.size := e; omega)))
            simp only [Nat.add_zero] at HZ
            clear hkW8 hk8 hkW9 hk9
            go_wp2
            refine bodyPost_ret (v := .tuple #[.agg #[.slice (some ⟨g7, 0, none⟩) j cap7], .bool true]) (by simp [results, Tryd.results21, go_sem, z0]) rfl ⟨_, rfl, HZ.out.1, HZ.out.2⟩
          · obtain rfl : b = false := by rw [HB.out]; simp [hne]
            have hbe : (tx == l) = false := by simpa using hne
            have hr70 := HR7.out.1
            go_wp2_with fail
            go_region_held3 (fun w' => Kp (fun b => b = W.heap.size) wr w' ∧ w'.cell? ⟨W.heap.size + 1, 0, none⟩ = some (.slice (some ⟨g7, 0, none⟩) j cap7))
               (first
                 | exact ⟨(Kp.refl _ _).drew, HR7.out.1⟩
                 | exact ⟨hkW9.setCell (.inl rfl) _, keepo _ _ _ _ _ (keepc hkW9 HR7.out.1 hR8) (by simp)⟩
                 | exact ⟨hkW9, keepc hkW9 HR7.out.1 hR8⟩
                 | exact ⟨hkW8, keepc hkW8 HR7.out.1 hR8⟩
                 | fail)
               (first
                 | (go_at_call 15
                    refine (soGood_any (some ⟨g7, 0, none⟩) j cap7 ys _ ((HS7.out.kq8 (‹Kp (fun b => b = W.heap.size) wr _ ∧ _›.1) hg7n).sl.rd) HYN.out (by omega) true HG.out.symm).mono ?_
                    rintro e w8 ⟨rfl, hk8⟩
                    have hkW8 := (‹Kp (fun b => b = W.heap.size) wr _ ∧ _›.1).nw hk8
                    have HT8 := Lib.hid ((HT7.out.kp (S := Nw) ((Kp.refl Nw _).drew) (fun h => h)).kp hk8 (fun h => h))
                    have hr8 := HT8.out.1
                    have hf8 := HT8.out.2)
                 | (go_at_call 16
                    refine (soText_cap g7 j cap7 ys w1.heap.size _ (HS7.out.kq8 hkW8 hg7n) HG.out).mono ?_
                    rw [HTX.out]
                    rintro e w9 ⟨rfl, hk9⟩
                    have hkW9 := hkW8.nw hk9
                    have HT9 := Lib.hid (HT8.out.kp hk9 (fun h => h))
                    have hr9 := HT9.out.1
                    have hf9 := HT9.out.2))
            have z0 := one_set w9 W.heap.size (.slice (some ⟨g7, 0, none⟩) j cap7) _ hr9
            have hsz9 := hkW9.size
            have HZ := Lib.hid (song_close (W := W) 0 ((HS7.out.kq8 hkW9 hg7n).sl.from (by omega)) (HKW.out.after hkW9 (fun q hq e => by have : q = W.heap.size := e; omega)))
            simp only [Nat.add_zero] at HZ
            clear hkW8 hk8 hkW9 hk9
            go_wp2
            refine bodyPost_ret (v := .tuple #[.agg #[.slice (some ⟨g7, 0, none⟩) j cap7], .bool false]) (by simp [results, Tryd.results21, go_sem, z0]) rfl ⟨_, rfl, HZ.out.1, HZ.out.2⟩

theorem soParse_any (l : List UInt8) (W : World) (hl : l.length ≤ 1048576) : ∃ ys, (pgS l = true → ys = nums (sp 45 [] l)) ∧ ys.length ≤ 1000000 ∧ Calls Tryd.prog 21 #[.string ⟨l.toArray⟩] W (SongB W ys (pgS l)) := by
  by_cases h : l.length ≤ 300
  · refine ⟨(sp 45 [] l).map so7, fun hp => (pgS_yes l hp).2.1, by have := sp_count 45 l []; simp at this ⊢; omega, soParse_on l W h _ rfl _ rfl _ rfl _ ?_⟩
    by_cases hp : pgS l = true
    · obtain ⟨_, _, h3, h4⟩ := pgS_yes l hp
      rw [hp, h3, h4]
      simp
    · have hp : pgS l = false := by simpa using hp
      rw [hp]
      by_cases hg : sgB ((sp 45 [] l).map so7) = true
      · rw [hg, decide_eq_false (pgS_no l hp hg)]
        rfl
      · have hg : sgB ((sp 45 [] l).map so7) = false := by simpa using hg
        rw [hg]
        rfl
  · have hp : pgS l = false := by
      by_cases hp : pgS l = true
      · exact absurd (pgS_yes l hp).1 h
      · simpa using hp
    rw [hp]
    exact ⟨[], (fun h => by cases h), by simp, soParse_off l W hl (by omega)⟩

set_option maxRecDepth 100000 in
set_option maxHeartbeats 1600000 in
theorem sParseSong_any (l : List UInt8) (W : World) (hl : l.length ≤ 1048576) (zs : List Int) (b : Bool) (hb : pgS l = b) (hz : zs = if b = true then nums (sp 45 [] l) else []) :
    Calls Tryd.prog 10 #[.string ⟨l.toArray⟩] W (SongB W zs b) := by
  obtain ⟨ys, h1, h2, h3⟩ := soParse_any l (W.alloc (.cells #[.slice none 0 0] 28)) hl
  rw [hb] at h1 h3
  obtain ⟨n, hn⟩ : ∃ n, ys.length = n := ⟨_, rfl⟩
  have HN := Lib.hid hn
  have HP := Lib.hid h3
  have HZ : Hid (zs = if b = true then ys else []) := Lib.hid (by
    rw [hz]
    by_cases h : b = true
    · rw [if_pos h, if_pos h, h1 h]
    · rw [if_neg h, if_neg h])
  clear h1 h2 h3 hn hz hb
  go_enter Tryd.func10, Tryd.ntmps10
  go_wp2_with fail
  refine HP.out.mono ?_
  rintro e w1 ⟨v1, rfl, hs1, hk1⟩
  obtain ⟨A1, c1, rfl⟩ := hs1.val HN.out
  have T1 := Lib.hid (((Own1.new W (.slice none 0 0) 28).kp hk1 (fun h => h)).kp (.al _ (.cells #[.slice A1 n c1] 28)) (fun h => h))
  have U1 := Lib.hid (Own1.new w1 (.slice A1 n c1) 28)
  have HK1 := Lib.hid (((Kp.al W (.cells #[.slice none 0 0] 28)).nw hk1).nw (.al _ (.cells #[.slice A1 n c1] 28)))
  have HS1 := Lib.hid (hs1.below (Kp.al _ (.cells #[.slice A1 n c1] 28)).below')
  simp only [World.size_alloc] at HS1
  have hz1 : W.heap.size + 1 ≤ (w1.alloc (.cells #[.slice A1 n c1] 28)).heap.size := World.block_lt_of_cell? _ _ T1.out.1
  clear hs1 hk1
  obtain ⟨t1, t2⟩ := T1.out
  obtain ⟨u1, u2⟩ := U1.out
  cases b
  · obtain rfl : zs = [] := by rw [HZ.out]; rfl
    have z0 := one_set _ W.heap.size (.slice none 0 0) _ t1
    have HR := Lib.hid (song_none (W := W) 0 hz1 HK1.out)
    simp only [Nat.add_zero] at HR
    go_wp2
    refine bodyPost_ret (v := .tuple #[.agg #[.slice none 0 0], .bool false]) (by simp [results, Tryd.results10, go_sem, z0]) rfl ⟨_, rfl, HR.out.1, HR.out.2⟩
  · obtain rfl : zs = ys := by rw [HZ.out]; rfl
    have z0 := one_set _ W.heap.size (.slice A1 n c1) _ t1
    have HR := Lib.hid (song_close (W := W) 0 HS1.out HK1.out)
    simp only [Nat.add_zero] at HR
    go_wp2
    refine bodyPost_ret (v := .tuple #[.agg #[.slice A1 n c1], .bool true]) (by simp [results, Tryd.results10, go_sem, z0]) rfl ⟨_, rfl, HR.out.1, HR.out.2⟩
end Go.Proofs.YtpajmgonceepoaaDoor
namespace Go.Proofs.YtpajmgonceepoaaDoor
open Go.ChangeShapes Go.WideShapes Go.ChangeAt Go.RowKit

set_option maxHeartbeats 800000 in
theorem lawParseSong_bigt (t : ByteArray) (W : World) (hm : t.size ≤ maxLen) (hb : (1048576 : Int) < t.size) :
    Calls Tryd.prog 4 #[.string t] W fun e w' => e = .returned (.bool true) ∧ Kp Nw W w' := by
  have hb3 : (t.size : Int) ≤ 9223372036854775807 := by unfold maxLen at hm; omega
  go_enter Tryd.func4, Tryd.ntmps4
  go_wp2
  go_ret
  exact ⟨rfl, Kp.refl _ _⟩

set_option maxHeartbeats 3200000 in
set_option maxRecDepth 100000 in
theorem lawParseSong_of (t : ByteArray) (zs : List Int) (b : Bool) (W : World) (ht : (t.size : Int) ≤ 1048576) (hlen : zs.length ≤ 1000000)
    (hS : Hid (∀ (W : World), Calls Tryd.prog 10 #[.string t] W (SongB W zs b))) (hI : Hid (∀ (V : World), Kp Nw W V → Calls Tryd.prog 11 #[.string t] V (SongB V zs b))) :
    Calls Tryd.prog 4 #[.string t] W fun e w' => e = .returned (.bool true) ∧ Kp Nw W w' := by
  obtain ⟨m, hm⟩ : ∃ m, zs.length = m := ⟨_, rfl⟩
  have HL : Hid (zs.length ≤ maxLen) := Lib.hid (by unfold maxLen; omega)
  have hlen : m ≤ 1000000 := by omega
  have hm0 : (0 : Int) ≤ m := Int.natCast_nonneg _
  have HM := Lib.hid hm
  clear hm
  have HK := Lib.hid (Kp.refl Nw W)
  go_enter Tryd.func4, Tryd.ntmps4
  go_wp2_with fail
  refine (hS.out _ ).mono ?_
  rintro e w1 ⟨v1, rfl, hs1, hk1⟩
  obtain ⟨A1, c1, rfl⟩ := hs1.val HM.out
  have HV1 := Lib.hid hs1
  have O1 : Hid (∀ g, (Value.slice A1 m c1).ownBlock = some g → W.heap.size ≤ g ∧ g < w1.heap.size) := Lib.hid (fun g hg => by have := hs1.own_ge g hg; omega)
  have HK := Lib.hid (HK.out.nw hk1)
  have z1 : W.heap.size ≤ w1.heap.size := hk1.size
  clear hs1 hk1
  go_wp2_with fail
  have hkp := Kp.al w1 (.cells #[.slice A1 m c1] 28)
  have HV1 := Lib.hid (HV1.out.below hkp.below')
  have HK := Lib.hid (HK.out.nw hkp)
  clear hkp
  have TV1 : Hid ((w1.alloc (.cells #[.slice A1 m c1] 28)).cell? ⟨w1.heap.size, 0, none⟩ = some (.slice A1 m c1)) := Lib.hid (Own1.new w1 (.slice A1 m c1) 28).1
  refine (hI.out _ HK.out).mono ?_
  rintro e w2 ⟨v2, rfl, hs2, hk2⟩
  obtain ⟨A2, c2, rfl⟩ := hs2.val HM.out
  have HV2 := Lib.hid hs2
  have O2 : Hid (∀ g, (Value.slice A2 m c2).ownBlock = some g → w1.heap.size + 1 ≤ g ∧ g < w2.heap.size) := Lib.hid (fun g hg => by have := hs2.own_ge g hg; simp only [World.size_alloc] at this; omega)
  have HV1 := Lib.hid (HV1.out.below hk2.below')
  have TV1 := Lib.hid (keepc hk2 TV1.out (fun h => h))
  have HK := Lib.hid (HK.out.nw hk2)
  have z2 : w1.heap.size + 1 ≤ w2.heap.size := by have := hk2.size; simp only [World.size_alloc] at this; omega
  clear hs2 hk2
  have tTV1 := TV1.out
  have yTV1 : w1.heap.size < w2.heap.size := by omega
  go_wp2_with fail
  have hkp := Kp.al w2 (.cells #[.slice A2 m c2] 28)
  have HV1 := Lib.hid (HV1.out.below hkp.below')
  have TV1 := Lib.hid (keepc hkp TV1.out (fun h => h))
  have HV2 := Lib.hid (HV2.out.below hkp.below')
  have HK := Lib.hid (HK.out.nw hkp)
  clear hkp
  have TV2 : Hid ((w2.alloc (.cells #[.slice A2 m c2] 28)).cell? ⟨w2.heap.size, 0, none⟩ = some (.slice A2 m c2)) := Lib.hid (Own1.new w2 (.slice A2 m c2) 28).1
  refine (eqSong_same A2 A1 m c2 c1 zs _ HV2.out.rd HV1.out.rd HL.out).mono ?_
  rintro e w3 ⟨rfl, hk3⟩
  have HV1 := Lib.hid (HV1.out.below hk3.below')
  have TV1 := Lib.hid (keepc hk3 TV1.out (fun h => h))
  have HV2 := Lib.hid (HV2.out.below hk3.below')
  have TV2 := Lib.hid (keepc hk3 TV2.out (fun h => h))
  have HK := Lib.hid (HK.out.nw hk3)
  have z3 : w2.heap.size + 1 ≤ w3.heap.size := by have := hk3.size; simp only [World.size_alloc] at this; omega
  clear tTV1 yTV1
  clear hk3
  have tTV2 := TV2.out
  have yTV2 : w2.heap.size < w3.heap.size := by omega
  go_wp2_with fail
  refine (markSong_any A2 m c2 1 zs _ _ HV2.out HM.out (by omega) (by omega) (by rw [HM.out]; omega)).mono ?_
  rintro e w4 ⟨rfl, hs4, hk4⟩
  have HV1 := Lib.hid (HV1.out.kp hk4 (fun g a b => by have := O1.out g a; have := O2.out g b; omega))
  have TV1 := Lib.hid (keepc hk4 TV1.out (fun hg => by have := O2.out _ hg; simp only [] at this; omega))
  have TV2 := Lib.hid (keepc hk4 TV2.out (fun hg => by have := O2.out _ hg; simp only [] at this; omega))
  have HK := Lib.hid (HK.out.after hk4 (fun g hg h2 => by have := O2.out g h2; omega))
  have z4 : w3.heap.size ≤ w4.heap.size := hk4.size
  have HV2 := Lib.hid hs4
  clear hs4 hk4
  clear tTV2 yTV2
  have tTV2 := TV2.out
  have yTV2 : w2.heap.size < w4.heap.size := by omega
  go_wp2_with fail
  refine (heldSong_any A2 m c2 1 _ HV2.out.rd (by omega) (by omega) (by omega)).mono ?_
  rintro e w5 ⟨rfl, hk5⟩
  have HV1 := Lib.hid (HV1.out.below hk5.below')
  have TV1 := Lib.hid (keepc hk5 TV1.out (fun h => h))
  have HV2 := Lib.hid (HV2.out.below hk5.below')
  have TV2 := Lib.hid (keepc hk5 TV2.out (fun h => h))
  have HK := Lib.hid (HK.out.nw hk5)
  have z5 : w4.heap.size ≤ w5.heap.size := hk5.size
  clear tTV2 yTV2
  clear hk5
  go_wp2_with fail
  refine (hI.out _ HK.out).mono ?_
  rintro e w6 ⟨v6, rfl, hs6, hk6⟩
  obtain ⟨A6, c6, rfl⟩ := hs6.val HM.out
  have HV6 := Lib.hid hs6
  have O6 : Hid (∀ g, (Value.slice A6 m c6).ownBlock = some g → w5.heap.size ≤ g ∧ g < w6.heap.size) := Lib.hid (fun g hg => by have := hs6.own_ge g hg; omega)
  have HV1 := Lib.hid (HV1.out.below hk6.below')
  have TV1 := Lib.hid (keepc hk6 TV1.out (fun h => h))
  have HV2 := Lib.hid (HV2.out.below hk6.below')
  have TV2 := Lib.hid (keepc hk6 TV2.out (fun h => h))
  have HK := Lib.hid (HK.out.nw hk6)
  have z6 : w5.heap.size ≤ w6.heap.size := hk6.size
  clear hs6 hk6
  have tTV1 := TV1.out
  have yTV1 : w1.heap.size < w6.heap.size := by omega
  go_wp2_with fail
  have hkp := Kp.al w6 (.cells #[.slice A6 m c6] 28)
  have HV1 := Lib.hid (HV1.out.below hkp.below')
  have TV1 := Lib.hid (keepc hkp TV1.out (fun h => h))
  have HV2 := Lib.hid (HV2.out.below hkp.below')
  have TV2 := Lib.hid (keepc hkp TV2.out (fun h => h))
  have HV6 := Lib.hid (HV6.out.below hkp.below')
  have HK := Lib.hid (HK.out.nw hkp)
  clear hkp
  have TV6 : Hid ((w6.alloc (.cells #[.slice A6 m c6] 28)).cell? ⟨w6.heap.size, 0, none⟩ = some (.slice A6 m c6)) := Lib.hid (Own1.new w6 (.slice A6 m c6) 28).1
  refine (eqSong_same A6 A1 m c6 c1 zs _ HV6.out.rd HV1.out.rd HL.out).mono ?_
  rintro e w7 ⟨rfl, hk7⟩
  have HV1 := Lib.hid (HV1.out.below hk7.below')
  have TV1 := Lib.hid (keepc hk7 TV1.out (fun h => h))
  have HV2 := Lib.hid (HV2.out.below hk7.below')
  have TV2 := Lib.hid (keepc hk7 TV2.out (fun h => h))
  have HV6 := Lib.hid (HV6.out.below hk7.below')
  have TV6 := Lib.hid (keepc hk7 TV6.out (fun h => h))
  have HK := Lib.hid (HK.out.nw hk7)
  have z7 : w6.heap.size + 1 ≤ w7.heap.size := by have := hk7.size; simp only [World.size_alloc] at this; omega
  clear tTV1 yTV1
  clear hk7
  have tTV2 := TV2.out
  have yTV2 : w2.heap.size < w7.heap.size := by omega
  go_wp2_with fail
  refine (heldSong_any A2 m c2 1 _ HV2.out.rd (by omega) (by omega) (by omega)).mono ?_
  rintro e w8 ⟨rfl, hk8⟩
  have HV1 := Lib.hid (HV1.out.below hk8.below')
  have TV1 := Lib.hid (keepc hk8 TV1.out (fun h => h))
  have HV2 := Lib.hid (HV2.out.below hk8.below')
  have TV2 := Lib.hid (keepc hk8 TV2.out (fun h => h))
  have HV6 := Lib.hid (HV6.out.below hk8.below')
  have TV6 := Lib.hid (keepc hk8 TV6.out (fun h => h))
  have HK := Lib.hid (HK.out.nw hk8)
  have z8 : w7.heap.size ≤ w8.heap.size := hk8.size
  clear tTV2 yTV2
  clear hk8
  go_wp2
  go_ret
  exact ⟨rfl, HK.out⟩

theorem lawParseSong (s : ByteArray) (W : World) (hT : Tabs W) (hM : Mx W) (hm : s.size ≤ maxLen) :
    Calls Tryd.prog 4 #[.string s] W fun e w' => e = .returned (.bool true) ∧ Kp Nw W w' := by
  obtain ⟨l, rfl⟩ : ∃ l : List UInt8, s = ⟨l.toArray⟩ := ⟨s.data.toList, rfl⟩
  by_cases h : (1048576 : Int) < (ByteArray.mk l.toArray).size
  · exact lawParseSong_bigt _ W hm h
  · have hs : l.length ≤ 1048576 := by
      have e : (ByteArray.mk l.toArray).size = l.length := rfl
      omega
    have hc := sp_count 45 l []
    refine lawParseSong_of _ (if pgS l = true then nums (sp 45 [] l) else []) (pgS l) W (by omega) ?_ (Lib.hid fun w => sParseSong_any l w hs _ _ rfl rfl) (Lib.hid fun w hk => iParseSong_any l w (hT.nw hk) (hM.nw hk) (by omega) _ _ rfl rfl)
    by_cases hp : pgS l = true
    · rw [if_pos hp]
      unfold pgS at hp
      rw [Bool.and_eq_true, lst8_iff] at hp
      have := hp.1.1
      simp [nums]
      omega
    · rw [if_neg hp]; simp
end Go.Proofs.YtpajmgonceepoaaDoor
