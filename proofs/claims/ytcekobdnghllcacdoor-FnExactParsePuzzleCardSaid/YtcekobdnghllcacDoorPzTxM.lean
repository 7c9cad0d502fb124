/- PuzzleText: the text of a puzzle, in the program and in its model; in a world that holds the table of the powers of ten; no other condition. -/
import Derived.Test.YtcekobdnghllcacDoorText
import Derived.Test.YtcekobdnghllcacDoorMCl
import Derived.Test.YtcekobdnghllcacDoorNumS
namespace Go.Proofs.YtcekobdnghllcacDoor
open Go.ChangeShapes Go.WideShapes Go.ChangeAt Go.RowKit

theorem cluB_small {p : Cu} (h : cluB p = true) : (0 ≤ p.1 ∧ p.1 ≤ 10) ∧ (0 ≤ p.2.1 ∧ p.2.1 ≤ 10) ∧ (0 ≤ p.2.2 ∧ p.2.2 ≤ 10) := by
  obtain ⟨k, a, b⟩ := p
  unfold cluB at h
  simp only at h ⊢
  split at h
  · simp at h; omega
  · split at h
    · simp at h; omega
    · split at h
      · simp at h; omega
      · split at h
        · simp at h; omega
        · cases h
/-- the numbers' digits with dots between them -/
def dotTx (xs : List Int) : List UInt8 := Lib.join (xs.map dgs) [46]

theorem dotTx_nil : dotTx [] = [] := rfl

theorem dotTx_one (x : Int) : dotTx [x] = dgs x := Lib.join_one _ _

theorem dotTx_snoc (xs : List Int) (x : Int) (h : xs ≠ []) : dotTx (xs ++ [x]) = dotTx xs ++ [46] ++ dgs x := by
  cases xs with
  | nil => exact absurd rfl h
  | cons y r =>
    unfold dotTx
    simp only [List.map_append, List.map_cons, List.map_nil, List.cons_append]
    rw [Lib.join_cons, Lib.join_cons]
    simp [Lib.joinTail]

theorem dotTx_length : ∀ (xs : List Int), (∀ x ∈ xs, x ≤ 1000) → (dotTx xs).length ≤ xs.length * 21 := by
  intro xs h
  unfold dotTx
  cases xs with
  | nil => simp [Lib.join_nil]
  | cons y r =>
    rw [List.map_cons, Lib.join_cons, List.length_append]
    have hy := dgs_length y (by have := h y (by simp); omega)
    have key : ∀ (r : List Int), (∀ x ∈ r, x ≤ 1000) → (Lib.joinTail [46] (r.map dgs)).length ≤ r.length * 21 := by
      intro r
      induction r with
      | nil => intro _; simp [Lib.joinTail]
      | cons z s ih =>
        intro hz
        have h1 := ih (fun x hx => hz x (by simp [hx]))
        have h2 := dgs_length z (by have := hz z (by simp); omega)
        simp only [Lib.joinTail, List.map_cons, List.flatten_cons, List.length_append, List.length_cons, List.length_nil] at h1 ⊢
        omega
    have := key r (fun x hx => h x (by simp [hx]))
    simp only [List.length_cons]
    omega

/-- a clue's text -/
def tx3 (p : Cu) : List UInt8 := dotTx [p.1, p.2.1, p.2.2]
/-- a puzzle's text -/
def puzTx (ps : List Cu) : List UInt8 := Lib.join (ps.map tx3) [44]
theorem tx3_eq (p : Cu) : tx3 p = dgs p.1 ++ [46] ++ dgs p.2.1 ++ [46] ++ dgs p.2.2 := by
  unfold tx3 dotTx
  simp [Lib.join_cons, Lib.joinTail]
theorem puzTx_nil : puzTx [] = [] := rfl
theorem puzTx_one (p : Cu) : puzTx [p] = tx3 p := Lib.join_one _ _
theorem puzTx_snoc (xs : List Cu) (x : Cu) (h : xs ≠ []) : puzTx (xs ++ [x]) = puzTx xs ++ [44] ++ tx3 x := by
  cases xs with
  | nil => exact absurd rfl h
  | cons y r =>
    unfold puzTx
    simp only [List.map_append, List.map_cons, List.map_nil, List.cons_append]
    rw [Lib.join_cons, Lib.join_cons]
    simp [Lib.joinTail]
theorem tx3_length (p : Cu) (h : cluB p = true) : (tx3 p).length ≤ 62 := by
  obtain ⟨⟨_, h1⟩, ⟨_, h2⟩, ⟨_, h3⟩⟩ := cluB_small h
  have a := dgs_length p.1 (by omega)
  have b := dgs_length p.2.1 (by omega)
  have c := dgs_length p.2.2 (by omega)
  rw [tx3_eq]
  simp only [List.length_append, List.length_cons, List.length_nil]
  omega
theorem puzTx_length : ∀ (xs : List Cu), xs.all cluB = true → (puzTx xs).length ≤ xs.length * 63 := by
  intro xs
  unfold puzTx
  cases xs with
  | nil => intro _; simp [Lib.join_nil]
  | cons y r =>
    intro h
    rw [List.all_cons, Bool.and_eq_true] at h
    rw [List.map_cons, Lib.join_cons, List.length_append]
    have hy := tx3_length y h.1
    have key : ∀ (r : List Cu), r.all cluB = true → (Lib.joinTail [44] (r.map tx3)).length ≤ r.length * 63 := by
      intro r
      induction r with
      | nil => intro _; simp [Lib.joinTail]
      | cons z s ih =>
        intro hz
        rw [List.all_cons, Bool.and_eq_true] at hz
        have h1 := ih hz.2
        have h2 := tx3_length z hz.1
        simp only [Lib.joinTail, List.map_cons, List.flatten_cons, List.length_append, List.length_cons, List.length_nil] at h1 ⊢
        omega
    have := key r h.2
    simp only [List.length_cons]
    omega
theorem puzB_parts {ps : List Cu} (h : puzB ps = true) : ps.length ≤ 6 ∧ ps.all cluB = true := by
  unfold puzB at h
  rw [Bool.and_eq_true, decide_eq_true_eq] at h
  exact h
theorem clu_get {ps : List Cu} (h : ps.all cluB = true) (j : Nat) (hj : j < ps.length) : cluB (ps.getD j (0, 0, 0)) = true := by
  have := List.all_eq_true.1 h (ps[j]) (List.getElem_mem _)
  simpa [hj] using this

theorem l1Num_as (m : Nat) (dm : List UInt8) (W : World) (hm : m ≤ 10) (hd : Lib.decDigits m = dm) :
    Calls Tryd.prog 27 #[.int .i64 (m : Int)] W fun e w' => e = .returned (.string ⟨dm.toArray⟩) ∧ Kp Nw W w' := by
  subst hd
  exact l1Num_any (m + 1) m W (by omega) (by omega)

set_option maxRecDepth 100000 in
set_option maxHeartbeats 3200000 in
theorem pzText_any (A : Option Addr) (n c : Nat) (ps : List Cu) (W : World) (hu : RdC W (.slice A n c) ps) (hn : ps.length = n) (hb : puzB ps = true) :
    Calls Tryd.prog 19 #[.agg #[.slice A n c]] W fun e w' => e = .returned (.string ⟨(puzTx ps).toArray⟩) ∧ Kp Nw W w' := by
  obtain ⟨n6, hall⟩ := puzB_parts hb
  obtain ⟨A', c', hA', hA⟩ := hu
  rw [hn] at hA' n6
  injection hA' with e1 e2 e3
  subst e1
  have HA := Lib.hid hA
  have HN := Lib.hid hn
  have HALL := Lib.hid hall
  clear hA hn hb hall e2 e3
  go_enter Tryd.func19, Tryd.ntmps19
  go_wp2
  go_loopw [3, 9] (fun s i wr => ∃ (j : Nat) (l : List UInt8), j ≤ n ∧ i = .int .i64 j ∧ s = .string ⟨l.toArray⟩ ∧ l = puzTx (ps.take j) ∧ Kp Nw W wr) (fun _ i _ => n - (intOf i).toNat)
  case atStart => exact ⟨0, [], Nat.zero_le _, rfl, rfl, by simp [puzTx_nil], Kp.al _ _⟩
  case round =>
    rename_i wr
    obtain ⟨j, l, hj, rfl, rfl, hl, hk⟩ := hrel
    have HL := Lib.hid hl
    have HK := Lib.hid hk
    by_cases hlt : j < n
    · have hl' : j < ps.length := by rw [HN.out]; exact hlt
      obtain ⟨g, o, rfl, hc⟩ := HA.out j hl'
      obtain ⟨p, hp⟩ : ∃ p, ps.getD j (0, 0, 0) = p := ⟨_, rfl⟩
      have hcl := clu_get HALL.out j hl'
      rw [hp] at hc hcl
      have hx : ps[j] = p := by rw [← hp]; simp [hl']
      obtain ⟨a0, a1, a2⟩ := hc.kp hk (fun h => h)
      obtain ⟨⟨k0, k9⟩, ⟨x0, x9⟩, ⟨y0, y9⟩⟩ := cluB_small hcl
      have HT : Hid (ps.take (j + 1) = ps.take j ++ [p]) := Lib.hid (by rw [List.take_succ_eq_append_getElem hl', hx])
      have hnl := puzTx_length (ps.take j) (List.all_eq_true.2 fun x hx => List.all_eq_true.1 HALL.out x (List.mem_of_mem_take hx))
      have htl : (ps.take j).length ≤ 6 := by rw [List.length_take]; omega
      have hll : l.length ≤ 500 := by rw [hl]; omega
      have HX := Lib.hid (tx3_eq p)
      obtain ⟨kk, aa, bb⟩ := p
      simp only at a0 a1 a2 k0 k9 x0 x9 y0 y9 HX
      obtain ⟨k, rfl⟩ : ∃ k : Nat, kk = k := ⟨kk.toNat, by omega⟩
      obtain ⟨a, rfl⟩ : ∃ a : Nat, aa = a := ⟨aa.toNat, by omega⟩
      obtain ⟨b, rfl⟩ : ∃ b : Nat, bb = b := ⟨bb.toNat, by omega⟩
      obtain ⟨dk, hdk⟩ : ∃ dk, Lib.decDigits k = dk := ⟨_, rfl⟩
      obtain ⟨da, hda⟩ : ∃ da, Lib.decDigits a = da := ⟨_, rfl⟩
      obtain ⟨db, hdb⟩ : ∃ db, Lib.decDigits b = db := ⟨_, rfl⟩
      have lk := digits_length k (by omega)
      have la := digits_length a (by omega)
      have lb := digits_length b (by omega)
      rw [hdk] at lk
      rw [hda] at la
      rw [hdb] at lb
      have HX : Hid (tx3 ((k : Int), (a : Int), (b : Int)) = dk ++ [46] ++ da ++ [46] ++ db) := Lib.hid (by rw [HX.out]; simp [dgs, hdk, hda, hdb])
      have HNk := Lib.hid (fun w => l1Num_as k dk w (by omega) hdk)
      have HNa := Lib.hid (fun w => l1Num_as a da w (by omega) hda)
      have HNb := Lib.hid (fun w => l1Num_as b db w (by omega) hdb)
      have B0 := Lib.hid (show (wr.alloc (.cells #[.int .i64 (k : Int), .int .i64 (a : Int), .int .i64 (b : Int)] 40)).cell? ⟨wr.heap.size, 0, none⟩ = some (.int .i64 (k : Int)) by simp [World.cell?_alloc_at])
      have B1 := Lib.hid (show (wr.alloc (.cells #[.int .i64 (k : Int), .int .i64 (a : Int), .int .i64 (b : Int)] 40)).cell? ⟨wr.heap.size, 1, none⟩ = some (.int .i64 (a : Int)) by simp [World.cell?_alloc_at])
      have B2 := Lib.hid (show (wr.alloc (.cells #[.int .i64 (k : Int), .int .i64 (a : Int), .int .i64 (b : Int)] 40)).cell? ⟨wr.heap.size, 2, none⟩ = some (.int .i64 (b : Int)) by simp [World.cell?_alloc_at])
      have s1 : ¬ (9223372036854775807 : Nat) < l.length + 1 := by omega
      have s2 : ¬ (9223372036854775807 : Nat) < dk.length + 1 := by omega
      have s3 : ¬ (9223372036854775807 : Nat) < dk.length + 1 + da.length := by omega
      have s4 : ¬ (9223372036854775807 : Nat) < dk.length + 1 + da.length + 1 := by omega
      have s5 : ¬ (9223372036854775807 : Nat) < dk.length + 1 + da.length + 1 + db.length := by omega
      have s6 : ¬ (9223372036854775807 : Nat) < l.length + (dk.length + 1 + da.length + 1 + db.length) := by omega
      have s7 : ¬ (9223372036854775807 : Nat) < l.length + 1 + (dk.length + 1 + da.length + 1 + db.length) := by omega
      have j0 : (0 : Int) ≤ j := Int.natCast_nonneg _
      have j1 : (j : Int) < n := by omega
      clear hl hk hx hp hcl hc hnl htl hl' hdk hda hdb k0 k9 x0 x9 y0 y9
      by_cases e : j = 0
      · subst e
        simp only [Nat.zero_mul, Nat.add_zero] at a0 a1 a2
        have HE : Hid (puzTx (ps.take (0 + 1)) = l ++ (dk ++ [46] ++ da ++ [46] ++ db)) := Lib.hid (by rw [HT.out, HL.out]; simp [puzTx_one, puzTx_nil, HX.out])
        go_wp2_with fail
        go_region_held3 (fun w' => Kp Nw (wr.alloc (.cells #[.int .i64 (k : Int), .int .i64 (a : Int), .int .i64 (b : Int)] 40)) w' ∧ w'.cell? ⟨wr.heap.size, 0, none⟩ = some (.int .i64 (k : Int)) ∧ w'.cell? ⟨wr.heap.size, 1, none⟩ = some (.int .i64 (a : Int)) ∧ w'.cell? ⟨wr.heap.size, 2, none⟩ = some (.int .i64 (b : Int)))
          (first
            | exact ⟨(Kp.refl _ _).drew, B0.out, B1.out, B2.out⟩
            | exact ⟨hk5, keepc hk5 B0.out (fun h => h), keepc hk5 B1.out (fun h => h), keepc hk5 B2.out (fun h => h)⟩)
          (first
            | (go_at_call 27
               ((with_reducible refine (HNk.out _).mono ?_); rintro e w5 ⟨rfl, hk5⟩)
               replace hk5 := (‹Kp Nw (wr.alloc (.cells #[.int .i64 (k : Int), .int .i64 (a : Int), .int .i64 (b : Int)] 40)) _ ∧ _›.1).nw hk5)
            | (go_at_call 27
               ((with_reducible refine (HNa.out _).mono ?_); rintro e w5 ⟨rfl, hk5⟩)
               replace hk5 := (‹Kp Nw (wr.alloc (.cells #[.int .i64 (k : Int), .int .i64 (a : Int), .int .i64 (b : Int)] 40)) _ ∧ _›.1).nw hk5)
            | (go_at_call 27
               ((with_reducible refine (HNb.out _).mono ?_); rintro e w5 ⟨rfl, hk5⟩)
               replace hk5 := (‹Kp Nw (wr.alloc (.cells #[.int .i64 (k : Int), .int .i64 (a : Int), .int .i64 (b : Int)] 40)) _ ∧ _›.1).nw hk5)
            | fail)
        have HK5 := Lib.hid (HK.out.nw ((Kp.al wr (.cells #[.int .i64 (k : Int), .int .i64 (a : Int), .int .i64 (b : Int)] 40)).nw hk5))
        clear hk5
        go_wp2
        go_roundw
        case rel => exact ⟨1, l ++ (dk ++ [46] ++ da ++ [46] ++ db), by omega, by go_num, by simp only [← ByteArray.mk_append_mk], HE.out.symm, HK5.out⟩
        case measure => simp [intOf]; omega
      · have e1 : (0 : Int) < j := by omega
        have hne : ps.take j ≠ [] := by
          intro h
          have := congrArg List.length h
          rw [List.length_take, HN.out] at this
          simp at this
          omega
        have HE : Hid (puzTx (ps.take (j + 1)) = l ++ [44] ++ (dk ++ [46] ++ da ++ [46] ++ db)) := Lib.hid (by rw [HT.out, puzTx_snoc _ _ hne, HL.out, HX.out])
        clear hne e
        go_wp2_with fail
        go_region_held3 (fun w' => Kp Nw (wr.alloc (.cells #[.int .i64 (k : Int), .int .i64 (a : Int), .int .i64 (b : Int)] 40)) w' ∧ w'.cell? ⟨wr.heap.size, 0, none⟩ = some (.int .i64 (k : Int)) ∧ w'.cell? ⟨wr.heap.size, 1, none⟩ = some (.int .i64 (a : Int)) ∧ w'.cell? ⟨wr.heap.size, 2, none⟩ = some (.int .i64 (b : Int)))
          (first
            | exact ⟨(Kp.refl _ _).drew, B0.out, B1.out, B2.out⟩
            | exact ⟨hk5, keepc hk5 B0.out (fun h => h), keepc hk5 B1.out (fun h => h), keepc hk5 B2.out (fun h => h)⟩)
          (first
            | (go_at_call 27
               ((with_reducible refine (HNk.out _).mono ?_); rintro e w5 ⟨rfl, hk5⟩)
               replace hk5 := (‹Kp Nw (wr.alloc (.cells #[.int .i64 (k : Int), .int .i64 (a : Int), .int .i64 (b : Int)] 40)) _ ∧ _›.1).nw hk5)
            | (go_at_call 27
               ((with_reducible refine (HNa.out _).mono ?_); rintro e w5 ⟨rfl, hk5⟩)
               replace hk5 := (‹Kp Nw (wr.alloc (.cells #[.int .i64 (k : Int), .int .i64 (a : Int), .int .i64 (b : Int)] 40)) _ ∧ _›.1).nw hk5)
            | (go_at_call 27
               ((with_reducible refine (HNb.out _).mono ?_); rintro e w5 ⟨rfl, hk5⟩)
               replace hk5 := (‹Kp Nw (wr.alloc (.cells #[.int .i64 (k : Int), .int .i64 (a : Int), .int .i64 (b : Int)] 40)) _ ∧ _›.1).nw hk5)
            | fail)
        have HK5 := Lib.hid (HK.out.nw ((Kp.al wr (.cells #[.int .i64 (k : Int), .int .i64 (a : Int), .int .i64 (b : Int)] 40)).nw hk5))
        clear hk5
        go_wp2
        go_roundw
        case rel => exact ⟨j + 1, l ++ [44] ++ (dk ++ [46] ++ da ++ [46] ++ db), by omega, by go_num, by simp only [← ByteArray.mk_append_mk], HE.out.symm, HK5.out⟩
        case measure => simp [intOf]; omega
    · have e : j = n := by omega
      subst e
      have HF : Hid (l = puzTx ps) := Lib.hid (by rw [HL.out, List.take_of_length_le (by rw [HN.out]; exact Nat.le_refl _)])
      clear hl hk
      go_wp2
      go_ret
      exact ⟨ret_string (by rw [HF.out]), HK.out⟩

end Go.Proofs.YtcekobdnghllcacDoor
