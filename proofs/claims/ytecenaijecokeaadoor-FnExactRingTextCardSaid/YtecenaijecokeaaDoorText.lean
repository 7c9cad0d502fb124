/- The text of a ring in the model (ciText, RingText): the step's digits, an at sign, the numbers' digits with commas between them; no condition but that the ring's slice is at the head of a row of its own. -/
import Derived.Test.YtecenaijecokeaaDoorNumS
import Derived.Test.YtecenaijecokeaaDoorRingFn
import Derived.Lib.Join
namespace Go.Proofs.YtecenaijecokeaaDoor
open Go.ChangeShapes Go.WideShapes Go.ChangeAt Go.RowKit

/-- the digits of a number that is not negative -/
def dgs (x : Int) : List UInt8 := Lib.decDigits x.toNat
/-- the numbers' digits with commas between them -/
def numsText (xs : List Int) : List UInt8 := Lib.join (xs.map dgs) [44]
/-- a ring's text -/
def ringText (xs : List Int) (k : Int) : List UInt8 := dgs k ++ [64] ++ numsText xs

theorem numsText_nil : numsText [] = [] := rfl
theorem numsText_one (x : Int) : numsText [x] = dgs x := Lib.join_one _ _
theorem numsText_snoc (xs : List Int) (x : Int) (h : xs ≠ []) : numsText (xs ++ [x]) = numsText xs ++ [44] ++ dgs x := by
  cases xs with
  | nil => exact absurd rfl h
  | cons y r =>
    unfold numsText
    simp only [List.map_append, List.map_cons, List.map_nil, List.cons_append]
    rw [Lib.join_cons, Lib.join_cons]
    simp [Lib.joinTail]
theorem dgs_length (x : Int) (h : x ≤ 100000000) : (dgs x).length ≤ 20 := digits_length _ (by omega)
theorem numsText_length : ∀ (xs : List Int), (∀ x ∈ xs, x ≤ 1000) → (numsText xs).length ≤ xs.length * 21 := by
  intro xs h
  unfold numsText
  cases xs with
  | nil => simp [Lib.join_nil]
  | cons y r =>
    rw [List.map_cons, Lib.join_cons, List.length_append]
    have hy := dgs_length y (by have := h y (by simp); omega)
    have key : ∀ (r : List Int), (∀ x ∈ r, x ≤ 1000) → (Lib.joinTail [44] (r.map dgs)).length ≤ r.length * 21 := by
      intro r
      induction r with
      | nil => intro _; simp [Lib.joinTail]
      | cons z s ih =>
        intro hz
        have h1 := ih (fun x hx => hz x (by simp [hx]))
        have h2 := dgs_length z (by have := hz z (by simp); omega)
        simp only [Lib.joinTail, List.map_cons, List.flatten_cons, List.length_append, List.length_cons, List.length_nil] at h1 ⊢
        omega
    have := key r (fun x hx => h x (by simp [hx]))
    simp only [List.length_cons]
    omega

theorem str_app (a b : List UInt8) : Value.string (ByteArray.mk a.toArray ++ ByteArray.mk b.toArray) = .string ⟨(a ++ b).toArray⟩ := by rw [ByteArray.mk_append_mk]

theorem good_all {xs : List Int} {k : Int} (h : goodB xs k = true) : ∀ x ∈ xs, 0 ≤ x ∧ x ≤ 999 := by
  unfold goodB at h
  rw [Bool.and_eq_true] at h
  have h2 := (of_decide_eq_true h.2).1
  intro x hx
  have := List.all_eq_true.1 h2 x hx
  simpa [okB] using this

set_option maxRecDepth 100000 in
set_option maxHeartbeats 1600000 in
theorem ciText_any (g n : Nat) (xs : List Int) (k : Int) (B : Nat) (W : World) (hs : SlAt W B g n n xs) (hb : goodB xs k = true) :
    Calls Tryd.prog 16 #[.agg #[.slice (some ⟨g, 0, none⟩) n n, .int .i64 k]] W fun e w' => e = .returned (.string ⟨(ringText xs k).toArray⟩) ∧ Kp Nw W w' := by
  obtain ⟨n1, n2, k1, k2⟩ := goodB_parts hb
  have hall := good_all hb
  have hn := hs.1
  have HS := Lib.hid hs
  have HALL := Lib.hid hall
  have HN := Lib.hid hn
  rw [hn] at n1 n2
  obtain ⟨kn, rfl⟩ : ∃ kn : Nat, k = kn := ⟨k.toNat, by omega⟩
  have hlk := digits_length kn (by omega)
  have HD : Hid (dgs (kn : Int) = Lib.decDigits kn) := Lib.hid (by simp [dgs])
  obtain ⟨dk, hdk⟩ : ∃ dk, Lib.decDigits kn = dk := ⟨_, rfl⟩
  rw [hdk] at hlk
  have HDK := Lib.hid hdk
  have s1 : ¬ (9223372036854775807 : Nat) < dk.length + 1 := by omega
  clear hs hb hn hall hdk
  go_enter Tryd.func16, Tryd.ntmps16
  go_wp2_with fail
  refine (l1Num_any (kn + 1) kn _ (by omega) (by omega)).mono ?_
  rintro e w1 ⟨rfl, hk1⟩
  rw [HDK.out]
  obtain ⟨t0, t1⟩ := (Two.new W (.slice (some ⟨g, 0, none⟩) n n) (.int .i64 kn) 28).nw hk1
  have HK1 := Lib.hid ((Kp.al _ _).nw hk1)
  clear hk1
  go_wp2
  go_loopw [3, 4, 5, 13] (fun s _ _ i wr => ∃ (j : Nat) (l : List UInt8), j ≤ n ∧ i = .int .i64 j ∧ s = .string ⟨l.toArray⟩ ∧ l = dk ++ [64] ++ numsText (xs.take j) ∧ Kp Nw w1 wr) (fun _ _ _ i _ => n - (intOf i).toNat)
  case atStart => exact ⟨0, dk ++ [64], Nat.zero_le _, rfl, by first | rfl | exact str_app dk [64], by simp [numsText_nil], Kp.refl _ _⟩
  case round =>
    rename_i wr
    obtain ⟨j, l, hj, rfl, rfl, hl, hk⟩ := hrel
    have HL := Lib.hid hl
    have HK := Lib.hid hk
    by_cases hlt : j < n
    · have hl' : j < xs.length := by rw [HN.out]; exact hlt
      have c := keepc hk (keepc HK1.out (HS.out.cell j hlt) (fun h => h)) (fun h => h)
      obtain ⟨y, hy⟩ : ∃ y, xs.getD j 0 = y := ⟨_, rfl⟩
      have hx : xs[j] = y := by rw [← hy]; simp [hl']
      rw [hy] at c
      have hb := HALL.out y (by rw [← hx]; exact List.getElem_mem _)
      obtain ⟨m, rfl⟩ : ∃ m : Nat, y = m := ⟨y.toNat, by omega⟩
      have HT : Hid (xs.take (j + 1) = xs.take j ++ [(m : Int)]) := Lib.hid (by rw [List.take_succ_eq_append_getElem hl', hx])
      have hlm := digits_length m (by omega)
      have hnl := numsText_length (xs.take j) (fun x hx => by have := (HALL.out x (List.mem_of_mem_take hx)).2; omega)
      have htl : (xs.take j).length ≤ 200 := by rw [List.length_take]; omega
      have hll : l.length ≤ 5000 := by rw [hl]; simp only [List.length_append, List.length_cons, List.length_nil]; omega
      obtain ⟨dm, hdm⟩ : ∃ dm, Lib.decDigits m = dm := ⟨_, rfl⟩
      rw [hdm] at hlm
      have HDM := Lib.hid hdm
      have HDG : Hid (dgs (m : Int) = dm) := Lib.hid (by rw [← hdm]; simp [dgs])
      have j0 : (0 : Int) ≤ j := Int.natCast_nonneg _
      have j1 : (j : Int) < n := by omega
      have m9 : (m : Int) ≤ 999 := hb.2
      have m10 : m ≤ 999 := by omega
      have s2 : ¬ (9223372036854775807 : Nat) < l.length + 1 := by omega
      have s3 : ¬ (9223372036854775807 : Nat) < l.length + dm.length := by omega
      have s4 : ¬ (9223372036854775807 : Nat) < l.length + 1 + dm.length := by omega
      clear hl hk hx hb hy hnl htl hl' hdm
      by_cases e : j = 0
      · subst e
        have HE : Hid (dk ++ [64] ++ numsText (xs.take (0 + 1)) = l ++ dm) := Lib.hid (by rw [HT.out, HL.out]; simp [numsText_one, numsText_nil, HDG.out])
        go_wp2_with fail
        refine (l1Num_any (m + 1) m _ (by omega) (by omega)).mono ?_
        rintro e w2 ⟨rfl, hk2⟩
        rw [HDM.out]
        have HK2 := Lib.hid (HK.out.nw hk2)
        clear hk2
        go_wp2
        go_roundw
        case rel => exact ⟨1, l ++ dm, by omega, by go_num, by first | rfl | exact str_app l dm, HE.out.symm, HK2.out⟩
        case measure => simp [intOf]; omega
      · have e1 : (0 : Int) < j := by omega
        have hne : xs.take j ≠ [] := by
          intro h
          have := congrArg List.length h
          rw [List.length_take, HN.out] at this
          simp at this
          omega
        have HE : Hid (dk ++ [64] ++ numsText (xs.take (j + 1)) = l ++ [44] ++ dm) := Lib.hid (by rw [HT.out, numsText_snoc _ _ hne, HL.out, HDG.out]; simp)
        clear hne e
        go_wp2_with fail
        refine (l1Num_any (m + 1) m _ (by omega) (by omega)).mono ?_
        rintro e w2 ⟨rfl, hk2⟩
        rw [HDM.out]
        have HK2 := Lib.hid (HK.out.nw hk2)
        clear hk2
        go_wp2
        go_roundw
        case rel => exact ⟨j + 1, l ++ [44] ++ dm, by omega, by go_num, by first | rfl | (rw [← str_app (l ++ [44]) dm, ← ByteArray.mk_append_mk l [44]]), HE.out.symm, HK2.out⟩
        case measure => simp [intOf]; omega
    · have e : j = n := by omega
      subst e
      have HF : Hid (l = ringText xs (kn : Int)) := Lib.hid (by
        rw [HL.out, List.take_of_length_le (by rw [HN.out]; exact Nat.le_refl _)]
        unfold ringText
        rw [HD.out, HDK.out])
      clear hl hk
      go_wp2
      go_ret
      exact ⟨ret_string (by rw [HF.out]), HK1.out.nw HK.out⟩
end Go.Proofs.YtecenaijecokeaaDoor
