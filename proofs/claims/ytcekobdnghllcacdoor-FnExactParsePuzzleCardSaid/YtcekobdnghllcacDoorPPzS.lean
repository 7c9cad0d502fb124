/- The model's reading of a puzzle's text (ParsePuzzle): pieces between commas of three parts between dots each, their values, whether these make a puzzle, and whether its text is that text; no condition. -/
import Derived.Test.YtcekobdnghllcacDoorPPzP
import Derived.Test.YtcekobdnghllcacDoorRdN
import Derived.Test.YtcekobdnghllcacDoorSplit
import Derived.Test.YtcekobdnghllcacDoorSplitK
import Derived.Test.YtcekobdnghllcacDoorMCl
import Derived.Test.YtcekobdnghllcacDoorPuzB
import Derived.Deep.RegionLaw
import Derived.Test.YtcekobdnghllcacDoorHeldL
namespace Go.Proofs.YtcekobdnghllcacDoor
open Go.ChangeShapes Go.WideShapes Go.ChangeAt Go.RowKit Go.IntWalk
set_option linter.unusedSimpArgs false

theorem puz_close8 {W w1 : World} {v : Value} {xs : List Cu} (b : Nat) (hs : Cl w1 (W.heap.size + b + 1) v xs) (hk : Kp Nw W w1) :
    Cl (w1.setCell ⟨W.heap.size + b, 0, none⟩ v) W.heap.size v xs ∧ Kp Nw W (w1.setCell ⟨W.heap.size + b, 0, none⟩ v) := by
  refine ⟨?_, hk.setCell (.inr (by show W.heap.size ≤ W.heap.size + b; omega)) _⟩
  have k9 : Kp (fun g => g = W.heap.size + b) w1 w1 := Kp.refl _ _
  exact (hs.kp (k9.setCell (p := ⟨W.heap.size + b, 0, none⟩) (.inl rfl) v) (fun gg a b => by have := (hs.own_ge gg a).1; omega)).from (by omega)
theorem puz_none8 {W w1 : World} (b : Nat) (hz : W.heap.size + b + 1 ≤ w1.heap.size) (hk : Kp Nw W w1) :
    Cl (w1.setCell ⟨W.heap.size + b, 0, none⟩ (.slice none 0 0)) W.heap.size (.slice none 0 0) [] ∧ Kp Nw W (w1.setCell ⟨W.heap.size + b, 0, none⟩ (.slice none 0 0)) :=
  puz_close8 b ((Cl.nil w1 w1.heap.size).from hz) hk
/-- a list of texts that is not empty: its slice and its cells -/
theorem SlT.at9 {w : World} {B : Nat} {v : Value} {ls : List (List UInt8)} (h : SlT w B v ls) (hp : 0 < ls.length) :
    ∃ g cap, v = .slice (some ⟨g, 0, none⟩) ls.length cap ∧ ls.length ≤ cap ∧ B ≤ g ∧ g < w.heap.size ∧ ∀ j, j < ls.length → w.cell? ⟨g, j, none⟩ = some (sval (ls.getD j [])) := by
  rcases h.2 with ⟨rfl, hn⟩ | ⟨g, cap, cur, rfl, hb, hg, h1, h2, h3, h4⟩
  · omega
  · refine ⟨g, cap, rfl, h1, hb, (Array.getElem?_eq_some_iff.1 hg).1, fun j hj => ?_⟩
    have e : cur.toList[j]? = (ls.map sval)[j]? := by
      rw [← h4, List.getElem?_take_of_lt (by omega)]
    simp only [World.cell?, hg]
    rw [← Array.getElem?_toList, e]
    simp [hj]
set_option maxRecDepth 100000 in
set_option maxHeartbeats 1600000 in
theorem l1Read_digitsS (l : List UInt8) (W : World) (h1 : 1 ≤ l.length) (h6 : l.length ≤ 6) (hz : ¬ (l[0] = 48 ∧ 1 < l.length)) :
    Calls Tryd.prog 17 #[.string ⟨l.toArray⟩] W fun e w' => e = .returned (.int .i64 (rd6 l)) ∧ W = w' := by
  obtain ⟨n, hn⟩ : ∃ n, l.length = n := ⟨_, rfl⟩
  have hsz : (ByteArray.mk l.toArray).size = n := by rw [← hn]; rfl
  have b0 := bget l 0 (by omega) (by rw [hsz]; omega)
  obtain ⟨c, hc⟩ : ∃ c, l[0] = c := ⟨_, rfl⟩
  rw [hc] at hz b0
  have HN := Lib.hid hn
  have HZ := Lib.hid hz
  have HC := Lib.hid hc
  have key : c.toNat ≠ 48 ∨ (c.toNat = 48 ∧ n = 1) := by
    by_cases h : c.toNat = 48
    · right
      refine ⟨h, ?_⟩
      have : c = 48 := UInt8.toNat_inj.1 (by rw [h]; rfl)
      rw [hn] at hz
      have : ¬ (1 < n) := fun g => hz ⟨this, g⟩
      omega
    · exact .inl h
  rw [hn] at h1 h6
  clear hz hc
  rcases key with k0 | ⟨k0, rfl⟩
  all_goals (
    go_enter Tryd.func17, Tryd.ntmps17
    go_wp2)
  all_goals (
    go_loopw [3, 4] (fun v i wr => ∃ j : Nat, j ≤ l.length ∧ i = .int .i64 j ∧ v = .int .i64 (val (l.take j)) ∧ (l.take j).all isDig = true ∧ W = wr) (fun _ i _ => l.length - (intOf i).toNat)
    case atStart => exact ⟨0, Nat.zero_le _, rfl, rfl, rfl, rfl⟩
    case round =>
      rename_i wr
      obtain ⟨j, hj, rfl, rfl, hd, hk⟩ := hrel
      by_cases hlt : j < l.length
      · have bj := bget l j hlt (by rw [hsz]; omega)
        obtain ⟨b, hb⟩ : ∃ b, l[j] = b := ⟨_, rfl⟩
        rw [hb] at bj
        have HB := Lib.hid hb
        have HD := Lib.hid hd
        have HK := Lib.hid hk
        have j0 : (0 : Int) ≤ j := Int.natCast_nonneg _
        have hv : val (l.take j) < 1000000 := by
          have := val_lt _ (l.take j) (Nat.le_refl _) hd
          have h2 : (l.take j).length ≤ 6 := by rw [List.length_take]; omega
          have h3 : 10 ^ (l.take j).length ≤ 10 ^ 6 := Nat.pow_le_pow_right (by omega) h2
          omega
        have HV : Hid (val (l.take (j + 1)) = 10 * val (l.take j) + (b.toNat - 48)) := Lib.hid (by rw [List.take_succ_eq_append_getElem hlt, val_snoc, hb])
        obtain ⟨x, hx⟩ : ∃ x, val (l.take j) = x := ⟨_, rfl⟩
        rw [hx] at hv HV ⊢
        clear hd hk hb hx
        by_cases q0 : b.toNat < 48
        · have HR := Lib.hid (rd6_not l (not_all l j hlt (by rw [HB.out]; simp [isDig]; omega)))
          have q1 : (b.toNat : Int) < 48 := by omega
          go_wp2
          go_ret
          exact ⟨ret_int' HR.out.symm, HK.out⟩
        · by_cases q9 : 57 < b.toNat
          · have HR := Lib.hid (rd6_not l (not_all l j hlt (by rw [HB.out]; simp [isDig]; omega)))
            have q1 : ¬ (b.toNat : Int) < 48 := by omega
            have q2 : (57 : Int) < b.toNat := by omega
            go_wp2
            go_ret
            exact ⟨ret_int' HR.out.symm, HK.out⟩
          · have HA := Lib.hid (all_step l j hlt HD.out (by rw [HB.out]; simp [isDig]; omega))
            have q1 : ¬ (b.toNat : Int) < 48 := by omega
            have q2 : ¬ (57 : Int) < b.toNat := by omega
            have w1 : IntKind.i64.wrap (10 * (x : Int)) = 10 * x := i64_in _ (by omega)
            have w2 : IntKind.u8.wrap ((b.toNat : Int) - 48) = b.toNat - 48 := u8_in _ (by omega)
            have w3 : IntKind.i64.wrap ((b.toNat : Int) - 48) = b.toNat - 48 := i64_in _ (by omega)
            have w4 : IntKind.i64.wrap (10 * (x : Int) + ((b.toNat : Int) - 48)) = 10 * x + (b.toNat - 48) := i64_in _ (by omega)
            go_wp2
            go_roundw
            case rel => exact ⟨j + 1, by omega, by go_num, by rw [HV.out]; congr 1; omega, HA.out, HK.out⟩
            case measure => simp [intOf]; omega
      · have e : j = l.length := by omega
        have HR : Hid (rd6 l = val (l.take j)) := Lib.hid (by
          rw [List.take_of_length_le (by omega)] at hd ⊢
          exact rd6_all l (by omega) (by omega) (by rw [HC.out]; exact HZ.out) hd)
        have HK := Lib.hid hk
        clear hd hk
        go_wp2
        go_ret
        exact ⟨ret_int' HR.out.symm, HK.out⟩)

set_option maxRecDepth 100000 in
theorem l1Read_offS (l : List UInt8) (W : World) (hl : l.length ≤ 140737488355328) (h : l.length < 1 ∨ 6 < l.length) :
    Calls Tryd.prog 17 #[.string ⟨l.toArray⟩] W fun e w' => e = .returned (.int .i64 (rd6 l)) ∧ W = w' := by
  have hr : rd6 l = -1 := by unfold rd6; rw [if_neg]; rintro ⟨a, b, _⟩; omega
  rw [hr]
  obtain ⟨n, hn⟩ : ∃ n, l.length = n := ⟨_, rfl⟩
  have hsz : (ByteArray.mk l.toArray).size = n := by rw [← hn]; rfl
  rw [hn] at h hl
  clear hn hr
  rcases h with h | h
  · obtain rfl : n = 0 := by omega
    clear h
    go_enter Tryd.func17, Tryd.ntmps17
    go_wp2
    go_ret
    exact ⟨rfl, rfl⟩
  · have h1 : (1 : Int) ≤ n := by omega
    have h6 : (6 : Int) < n := by omega
    go_enter Tryd.func17, Tryd.ntmps17
    go_wp2
    go_ret
    exact ⟨rfl, rfl⟩

set_option maxRecDepth 100000 in
theorem l1Read_zeroS (l : List UInt8) (W : World) (h1 : 1 ≤ l.length) (h6 : l.length ≤ 6) (hz : l[0] = 48) (hl : 1 < l.length) :
    Calls Tryd.prog 17 #[.string ⟨l.toArray⟩] W fun e w' => e = .returned (.int .i64 (rd6 l)) ∧ W = w' := by
  have hr : rd6 l = -1 := by
    unfold rd6
    rw [if_neg]
    rintro ⟨_, _, hc⟩
    unfold canon at hc
    cases l with
    | nil => simp at h1
    | cons c r =>
      simp only [List.getElem_cons_zero] at hz
      subst hz
      simp at hc
      simp only [List.length_cons] at hl
      have := hc.2
      simp [this] at hl
  rw [hr]
  obtain ⟨n, hn⟩ : ∃ n, l.length = n := ⟨_, rfl⟩
  have hsz : (ByteArray.mk l.toArray).size = n := by rw [← hn]; rfl
  have b0 := bget l 0 (by omega) (by rw [hsz]; omega)
  rw [hz] at b0
  rw [hn] at h1 h6 hl
  have h1' : (1 : Int) ≤ n := by omega
  have h6' : (n : Int) ≤ 6 := by omega
  have hl' : (1 : Int) < n := by omega
  have HN := Lib.hid hn
  clear hr
  go_enter Tryd.func17, Tryd.ntmps17
  go_wp2
  go_ret
  exact ⟨rfl, rfl⟩

theorem l1Read_anyS (l : List UInt8) (W : World) (hl : l.length ≤ 140737488355328) :
    Calls Tryd.prog 17 #[.string ⟨l.toArray⟩] W fun e w' => e = .returned (.int .i64 (rd6 l)) ∧ W = w' := by
  by_cases h : l.length < 1 ∨ 6 < l.length
  · exact l1Read_offS l W hl h
  · by_cases hz : l[0]'(by omega) = 48 ∧ 1 < l.length
    · exact l1Read_zeroS l W (by omega) (by omega) hz.1 hz.2
    · exact l1Read_digitsS l W (by omega) (by omega) hz


theorem own1_put9 {w : World} {b : Nat} {x : Value} (h : Own1 w b x) (y : Value) : Own1 (w.setCell ⟨b, 0, none⟩ y) b y := ⟨one_set w b y _ h.1, by rw [World.frozen?_setCell]; exact h.2⟩
/-- the model's reading leaves a puzzle: which one where it fails does not matter -/
def ParsedP (W : World) (l : List UInt8) (e : Ending) (w' : World) : Prop := ∃ zs, (pgP l = true → zs = (pcs l).map rdC) ∧ zs.length ≤ 1000 ∧ PuzB W zs (pgP l) e w'

set_option maxRecDepth 100000 in
set_option maxHeartbeats 1600000 in
theorem pzParse_off (l : List UInt8) (W : World) (hl : l.length ≤ 1048576) (h : 100 < l.length) :
    Calls Tryd.prog 9 #[.string ⟨l.toArray⟩] W (ParsedP W l) := by
  have h2 : (100 : Int) < (l.length : Int) := by omega
  have hll : (l.length : Int) ≤ 1048576 := by omega
  have hp : pgP l = false := by
    by_cases hp : pgP l = true
    · have := pgP_len hp; omega
    · simpa using hp
  go_enter Tryd.func9, Tryd.ntmps9
  go_wp2
  refine bodyPost_ret (v := .tuple #[.agg #[.slice none 0 0], .bool false]) (by simp [results, Tryd.results9, go_sem]) rfl ⟨[], (fun h => by rw [hp] at h; cases h), by simp, ?_⟩
  rw [hp]
  exact ⟨_, rfl, Cl.nil _ _, (Kp.al W _).nw (.al _ _)⟩

set_option maxRecDepth 100000 in
set_option maxHeartbeats 6400000 in
theorem pzParse_nil (W : World) : Calls Tryd.prog 9 #[.string ⟨([] : List UInt8).toArray⟩] W (ParsedP W []) := by
  obtain ⟨ys, hys⟩ : ∃ ys, ys = ([] : List Cu) := ⟨_, rfl⟩
  have HYS := Lib.hid hys
  have HY0 : Hid (pgP [] = true → ys = (pcs []).map rdC) := Lib.hid (fun _ => by rw [HYS.out]; rfl)
  have HYL : Hid (ys.length ≤ 1000) := Lib.hid (by rw [HYS.out]; simp)
  have HYN : Hid (ys.length = 0) := Lib.hid (by rw [HYS.out]; rfl)
  have HG : Hid (puzB ys = true) := Lib.hid (by rw [HYS.out]; rfl)
  have HGP : Hid (pgP [] = true) := Lib.hid rfl
  have HTX : Hid (puzTx ys = []) := Lib.hid (by rw [HYS.out]; rfl)
  have hm7 : (0 : Nat) ≤ maxLen := by unfold maxLen; omega
  have hbe : (([] : List UInt8) == []) = true := by rfl
  have HT7 := Lib.hid ((Own1.new W (.slice none 0 0) 24).kp (.al _ (.cells #[.slice none 0 0] 24)) (fun h => h))
  have HR7 := Lib.hid (Own1.new (W.alloc (.cells #[.slice none 0 0] 24)) (.slice none 0 0) 24)
  simp only [World.size_alloc] at HR7
  have HV7 : Hid (Co ((W.alloc (.cells #[.slice none 0 0] 24)).alloc (.cells #[.slice none 0 0] 24)) (W.heap.size + 2) (.slice none 0 0) ys) := Lib.hid (by rw [HYS.out]; exact World.ownsRow_nil _ _ _ _)
  have HVN : Hid (∀ g, (Value.slice none 0 0).ownBlock = some g → ¬ g = W.heap.size) := Lib.hid (fun g hg => by cases hg)
  have HKW := Lib.hid ((Kp.al W (.cells #[.slice none 0 0] 24)).nw (.al _ (.cells #[.slice none 0 0] 24)))
  have hR8 : ¬ W.heap.size + 1 = W.heap.size := by omega
  have hzr : ((W.alloc (.cells #[.slice none 0 0] 24)).alloc (.cells #[.slice none 0 0] 24)).heap.size = W.heap.size + 2 := by simp
  show Calls Tryd.prog 9 #[.string ⟨#[]⟩] W _
  clear hys
  go_enter Tryd.func9, Tryd.ntmps9
  have hr70 := HR7.out.1
  go_wp2_with fail
  go_region_held3 (fun w' => Kp (fun b => b = W.heap.size) ((W.alloc (.cells #[.slice none 0 0] 24)).alloc (.cells #[.slice none 0 0] 24)) w' ∧ w'.cell? ⟨W.heap.size + 1, 0, none⟩ = some (.slice none 0 0))
    (first
      | exact ⟨(Kp.refl _ _).drew, HR7.out.1⟩
      | exact ⟨hkW9.setCell (.inl rfl) _, keepo _ _ _ _ _ (keepc hkW9 HR7.out.1 hR8) (by simp)⟩
      | exact ⟨hkW9, keepc hkW9 HR7.out.1 hR8⟩
      | exact ⟨hkW8, keepc hkW8 HR7.out.1 hR8⟩
      | fail)
    (first
      | (go_at_call 18
         refine (pzGood_any none 0 0 ys _ ((HV7.out.kp (‹Kp (fun b => b = W.heap.size) ((W.alloc (.cells #[.slice none 0 0] 24)).alloc (.cells #[.slice none 0 0] 24)) _ ∧ _›.1) HVN.out).rd) HYN.out hm7 true HG.out.symm).mono ?_
         rintro e w8 ⟨rfl, hk8⟩
         have hkW8 := (‹Kp (fun b => b = W.heap.size) ((W.alloc (.cells #[.slice none 0 0] 24)).alloc (.cells #[.slice none 0 0] 24)) _ ∧ _›.1).nw hk8
         have HT8 := Lib.hid ((HT7.out.kp (S := Nw) ((Kp.refl Nw _).drew) (fun h => h)).kp hk8 (fun h => h))
         have hr8 := HT8.out.1
         have hf8 := HT8.out.2)
      | (go_at_call 19
         refine (pzText_any none 0 0 ys _ ((HV7.out.kp hkW8 HVN.out).rd) HYN.out HG.out).mono ?_
         rw [HTX.out]
         rintro e w9 ⟨rfl, hk9⟩
         have hkW9 := hkW8.nw hk9
         have HT9 := Lib.hid (HT8.out.kp hk9 (fun h => h))
         have hr9 := HT9.out.1
         have hf9 := HT9.out.2)
      | fail)
  have z0 := one_set w9 W.heap.size (.slice none 0 0) _ hr9
  have hsz9 := hkW9.size
  have HZ := Lib.hid (puz_close8 (W := W) 0 ((HV7.out.kp hkW9 HVN.out).cl.from (by omega)) (HKW.out.after hkW9 (fun q hq e => by have : q = W.heap.size := e; omega)))
  simp only [Nat.add_zero] at HZ
  clear hkW8 hk8 hkW9 hk9
  go_wp2
  refine bodyPost_ret (v := .tuple #[.agg #[.slice none 0 0], .bool true]) (by simp [results, Tryd.results9, go_sem, z0]) rfl ⟨_, HY0.out, HYL.out, ?_⟩
  rw [HGP.out]
  exact ⟨_, rfl, HZ.out.1, HZ.out.2⟩

set_option maxRecDepth 100000 in
set_option maxHeartbeats 12800000 in
theorem pzParse_on (l : List UInt8) (W : World) (hl : l.length ≤ 100) (he : ¬ l = []) :
    Calls Tryd.prog 9 #[.string ⟨l.toArray⟩] W (ParsedP W l) := by
  have hll : (l.length : Int) ≤ 100 := by omega
  have h6 : ¬ (100 : Int) < (l.length : Int) := by omega
  have h7 : (0 : Int) < (l.length : Int) := by
    have : l.length ≠ 0 := fun h => he (List.eq_nil_of_length_eq_zero h)
    omega
  have hpc : pcs l = sp 44 [] l := by unfold pcs; rw [if_neg he]
  have HPC := Lib.hid hpc
  have HP : Hid (0 < (sp 44 [] l).length) := Lib.hid (sp_pos 44 l [])
  obtain ⟨n, hn⟩ : ∃ n, (sp 44 [] l).length = n := ⟨_, rfl⟩
  have HN := Lib.hid hn
  have hn1 : n ≤ 101 := by have := sp_count 44 l []; omega
  have HPL : Hid (∀ p ∈ sp 44 [] l, p.length ≤ 100) := Lib.hid (fun p hp => by have := sp_piece 44 l [] p hp; simp at this; omega)
  have hl : l.length ≤ 1048576 := by omega
  have hbe : (l == l) = true := by simp
  clear hn hpc he
  · go_enter Tryd.func9, Tryd.ntmps9
    go_wp2_with fail
    refine (l1Split_any l 44 _ hl).mono ?_
    rintro e w1 ⟨v, rfl, hs1, hk1⟩
    obtain ⟨g, cap, rfl, hc1, hg1, hg2, hcell⟩ := hs1.at9 HP.out
    rw [HN.out] at hc1 hcell ⊢
    have HT1 := Lib.hid (((Own1.new W (.slice none 0 0) 24).kp (.al _ (.cells #[.slice none 0 0] 24)) (fun h => h)).kp hk1 (fun h => h))
    have HR1 := Lib.hid ((Own1.new (W.alloc (.cells #[.slice none 0 0] 24)) (.slice none 0 0) 24).kp hk1 (fun h => h))
    have HK1 := Lib.hid (((Kp.al W (.cells #[.slice none 0 0] 24)).nw (.al _ (.cells #[.slice none 0 0] 24))).nw hk1)
    simp only [World.size_alloc] at hg1 HR1
    have HC1 := Lib.hid hcell
    have hR : W.heap.size + 1 < w1.heap.size := World.block_lt_of_cell? w1 _ HR1.out.1
    have hgR : ¬ g = W.heap.size + 1 := by omega
    clear hs1 hk1 hcell
    go_wp2
    go_loopw [18] (fun i wy => ∃ (j : Nat) (v : Value) (wr : World), j ≤ n ∧ i = .int .i64 j ∧ wr = wy ∧ Hid (∀ p ∈ (sp 44 [] l).take j, (sp 46 [] p).length = 3) ∧ Hid (Own1 wr (W.heap.size + 1) v) ∧ Hid (Co wr w1.heap.size v (((sp 44 [] l).take j).map rdC)) ∧ Hid (Kp (fun b => b = W.heap.size + 1) w1 wr)) (fun i _ => n - (intOf i).toNat)
    case atStart => exact ⟨0, _, _, Nat.zero_le _, rfl, rfl, Lib.hid (fun p hp => by simp at hp), HR1, Lib.hid (by rw [List.take_zero, List.map_nil]; exact World.ownsRow_nil _ _ _ _), Lib.hid (Kp.refl _ _)⟩
    case round =>
      obtain ⟨j, v, wr, hj, rfl, rfl, H3, HR, HS, HK⟩ := hrel
      have j0 : (0 : Int) ≤ j := Int.natCast_nonneg _
      by_cases hlt : j < n
      · have j1 : (j : Int) < n := by omega
        have hl' : j < (sp 44 [] l).length := by rw [HN.out]; exact hlt
        obtain ⟨p, hp⟩ : ∃ p, (sp 44 [] l).getD j [] = p := ⟨_, rfl⟩
        have cp := keepc HK.out (HC1.out j hlt) (show ¬ g = W.heap.size + 1 from hgR)
        rw [hp] at cp
        have hx : (sp 44 [] l)[j] = p := by rw [← hp]; simp [hl']
        have hpm : p ∈ sp 44 [] l := by rw [← hx]; exact List.getElem_mem _
        have hpl := HPL.out p hpm
        have hsp := l1Split_any p 46 wr (by omega)
        obtain ⟨m, hm⟩ : ∃ m, (sp 46 [] p).length = m := ⟨_, rfl⟩
        have hm0 : 0 < m := by rw [← hm]; exact sp_pos 46 p []
        have hm1 : m ≤ 101 := by have := sp_count 46 p []; omega
        have HSP := Lib.hid hsp
        have HM := Lib.hid hm
        have r0 := HR.out.1
        have hsz := HK.out.size
        unfold sval at cp
        by_cases m3 : m = 3
        · subst m3
          obtain ⟨x, y, z, hq⟩ := list3 _ hm
          have hrd : rdC p = (rd6 x, rd6 y, rd6 z) := by unfold rdC; rw [hq]; rfl
          have HX : Hid (((sp 44 [] l).take (j + 1)).map rdC = ((sp 44 [] l).take j).map rdC ++ [(rd6 x, rd6 y, rd6 z)]) := Lib.hid (by rw [List.take_succ_eq_append_getElem hl', hx, List.map_append, List.map_cons, List.map_nil, hrd])
          have H31 : Hid (∀ p ∈ (sp 44 [] l).take (j + 1), (sp 46 [] p).length = 3) := Lib.hid (by
            intro q hq'
            rw [List.take_succ_eq_append_getElem hl', hx, List.mem_append] at hq'
            rcases hq' with h | h
            · exact H3.out q h
            · simp only [List.mem_singleton] at h; rw [h]; exact hm)
          have HLJ : Hid ((((sp 44 [] l).take j).map rdC).length = j) := Lib.hid (by rw [List.length_map, List.length_take]; omega)
          have hxl : x.length ≤ 140737488355328 := by have := sp_piece 46 p [] x (by rw [hq]; simp); simp at this; omega
          have hyl : y.length ≤ 140737488355328 := by have := sp_piece 46 p [] y (by rw [hq]; simp); simp at this; omega
          have hzl : z.length ≤ 140737488355328 := by have := sp_piece 46 p [] z (by rw [hq]; simp); simp at this; omega
          have HLT : Hid ((((sp 44 [] l).take j).map rdC).length + [((rd6 x, rd6 y, rd6 z) : Cu)].length ≤ 1000000) := Lib.hid (by simp; omega)
          have HNx := Lib.hid (fun w => l1Read_anyS x w hxl)
          have HNy := Lib.hid (fun w => l1Read_anyS y w hyl)
          have HNz := Lib.hid (fun w => l1Read_anyS z w hzl)
          obtain ⟨rx, hrx⟩ : ∃ rx, rd6 x = rx := ⟨_, rfl⟩
          obtain ⟨ry, hry⟩ : ∃ ry, rd6 y = ry := ⟨_, rfl⟩
          obtain ⟨rz, hrz⟩ : ∃ rz, rd6 z = rz := ⟨_, rfl⟩
          rw [hrx, hry, hrz] at HX HLT
          rw [hrx] at HNx
          rw [hry] at HNy
          rw [hrz] at HNz
          have HQ := Lib.hid hq
          clear hp hx hl' hpm hsp hm hq hrd hrx hry hrz hxl hyl hzl
          go_wp2_with fail
          refine HSP.out.mono ?_
          rintro e w2 ⟨v2, rfl, hs2, hk2⟩
          obtain ⟨g2, cap2, rfl, hc2, hg3, hg4, hcell2⟩ := hs2.at9 (by rw [HM.out]; omega)
          rw [HM.out, HQ.out] at hcell2
          rw [HM.out] at hc2 ⊢
          have x0 := hcell2 0 (by omega)
          have x1 := hcell2 1 (by omega)
          have x2 := hcell2 2 (by omega)
          simp only [List.getD_cons_zero, List.getD_cons_succ] at x0 x1 x2
          unfold sval at x0 x1 x2
          have u0 := keepc hk2 r0 (fun h => h)
          have HK2 := Lib.hid hk2
          have hc3 : (3 : Int) ≤ cap2 := by omega
          clear hs2 hk2 hcell2
          have KPd : Kp Nw wr w2 := HK2.out
          have hvb : ∀ b, v.ownBlock = some b → w1.heap.size ≤ b := fun b hb => (World.ownsRow.lt HS.out b hb).1
          have hvo : ∀ b, v.ownBlock = some b → b < wr.heap.size := fun b hb => (World.ownsRow.lt HS.out b hb).2
          have u6 := keepc (Kp.al w2 (.cells #[.int .i64 rx, .int .i64 ry, .int .i64 rz] 40)) u0 (fun h => h)
          have HX0 := Lib.hid x0
          have HX1 := Lib.hid x1
          have HX2 := Lib.hid x2
          have kA : Kp (fun b => b = W.heap.size + 1 ∨ v.ownBlock = some b) w2 (w2.alloc (.cells #[.int .i64 rx, .int .i64 ry, .int .i64 rz] 40)) := (Kp.refl _ _).alloc _
          have ng : ¬ (fun b => b = W.heap.size + 1 ∨ v.ownBlock = some b) g2 := fun e => by
            have h9 : g2 = W.heap.size + 1 ∨ v.ownBlock = some g2 := e
            rcases h9 with h | h
            · omega
            · have := hvo g2 h; omega
          have HA0 := Lib.hid (keepc kA x0 ng)
          have HA1 := Lib.hid (keepc kA x1 ng)
          have HA2 := Lib.hid (keepc kA x2 ng)
          have HSQ : (fun w' : World => Kp (fun b => b = W.heap.size + 1 ∨ v.ownBlock = some b) w2 w' ∧ w'.cell? ⟨g2, 0, none⟩ = some (.string ⟨x.toArray⟩) ∧ w'.cell? ⟨g2, 1, none⟩ = some (.string ⟨y.toArray⟩) ∧ w'.cell? ⟨g2, 2, none⟩ = some (.string ⟨z.toArray⟩) ∧ w'.cell? ⟨W.heap.size + 1, 0, none⟩ = some v) w2.drew := ⟨(Kp.refl _ _).drew, HX0.out, HX1.out, HX2.out, u0⟩
          have HSA : (fun w' : World => Kp (fun b => b = W.heap.size + 1 ∨ v.ownBlock = some b) w2 w' ∧ w'.cell? ⟨g2, 0, none⟩ = some (.string ⟨x.toArray⟩) ∧ w'.cell? ⟨g2, 1, none⟩ = some (.string ⟨y.toArray⟩) ∧ w'.cell? ⟨g2, 2, none⟩ = some (.string ⟨z.toArray⟩) ∧ w'.cell? ⟨W.heap.size + 1, 0, none⟩ = some v) (w2.drew.alloc (.cells #[.int .i64 rx, .int .i64 ry, .int .i64 rz] 40)) := ⟨(Kp.refl _ _).drew.alloc _, HA0.out, HA1.out, HA2.out, u6⟩
          go_wp2_with fail
          refine HeldL.region (S := (fun w' : World => Kp (fun b => b = W.heap.size + 1 ∨ v.ownBlock = some b) w2 w' ∧ w'.cell? ⟨g2, 0, none⟩ = some (.string ⟨x.toArray⟩) ∧ w'.cell? ⟨g2, 1, none⟩ = some (.string ⟨y.toArray⟩) ∧ w'.cell? ⟨g2, 2, none⟩ = some (.string ⟨z.toArray⟩) ∧ w'.cell? ⟨W.heap.size + 1, 0, none⟩ = some v)) (L := 18) (by kernel_rfl) ?_
          refine HeldL.take (i := 0) (v := ?_) rfl (by kernel_rfl) (by kernel_rfl) (by kernel_rfl) (by kernel_rfl) (fun _ _ _ h => h) (by rfl) ?_ HSQ ?_
          rotate_left
          · intro w ⟨hsk, hs0, hs1, hs2, hs3⟩
            go_simp
            first | done | with_reducible rfl
          try simp only [Act.put, List.setIfInBounds_toArray, List.set_cons_zero, List.set_cons_succ]
          refine HeldL.take (i := 1) (v := ?_) rfl (by kernel_rfl) (by kernel_rfl) (by kernel_rfl) (by kernel_rfl) (fun _ _ _ h => h) (by rfl) ?_ HSQ ?_
          rotate_left
          · intro w ⟨hsk, hs0, hs1, hs2, hs3⟩
            go_simp
            first | done | with_reducible rfl
          try simp only [Act.put, List.setIfInBounds_toArray, List.set_cons_zero, List.set_cons_succ]
          refine HeldL.take (i := 2) (v := ?_) rfl (by kernel_rfl) (by kernel_rfl) (by kernel_rfl) (by kernel_rfl) (fun _ _ _ h => h) (by rfl) ?_ HSQ ?_
          rotate_left
          · intro w ⟨hsk, hs0, hs1, hs2, hs3⟩
            go_simp
            first | done | with_reducible rfl
          try simp only [Act.put, List.setIfInBounds_toArray, List.set_cons_zero, List.set_cons_succ]
          refine HeldL.take (i := 3) (v := ?_) rfl (by kernel_rfl) (by kernel_rfl) (by kernel_rfl) (by kernel_rfl) (fun _ _ _ h => h) (by rfl) ?_ HSQ ?_
          rotate_left
          · intro w ⟨hsk, hs0, hs1, hs2, hs3⟩
            go_simp
            first | done | with_reducible rfl
          try simp only [Act.put, List.setIfInBounds_toArray, List.set_cons_zero, List.set_cons_succ]
          refine HeldL.take (i := 4) (v := ?_) rfl (by kernel_rfl) (by kernel_rfl) (by kernel_rfl) (by kernel_rfl) (fun _ _ _ h => h) (by rfl) ?_ HSQ ?_
          rotate_left
          · intro w ⟨hsk, hs0, hs1, hs2, hs3⟩
            go_simp
            first | done | with_reducible rfl
          try simp only [Act.put, List.setIfInBounds_toArray, List.set_cons_zero, List.set_cons_succ]
          refine HeldL.take (i := 6) (v := ?_) rfl (by kernel_rfl) (by kernel_rfl) (by kernel_rfl) (by kernel_rfl) (fun _ _ _ h => h) (by rfl) ?_ HSQ ?_
          rotate_left
          · intro w ⟨hsk, hs0, hs1, hs2, hs3⟩
            go_simp
            first | done | with_reducible rfl
          try simp only [Act.put, List.setIfInBounds_toArray, List.set_cons_zero, List.set_cons_succ]
          refine HeldL.take (i := 7) (v := ?_) rfl (by kernel_rfl) (by kernel_rfl) (by kernel_rfl) (by kernel_rfl) (fun _ _ _ h => h) (by rfl) ?_ HSQ ?_
          rotate_left
          · intro w ⟨hsk, hs0, hs1, hs2, hs3⟩
            go_simp
            first | done | with_reducible rfl
          try simp only [Act.put, List.setIfInBounds_toArray, List.set_cons_zero, List.set_cons_succ]
          refine HeldL.take (i := 8) (v := ?_) rfl (by kernel_rfl) (by kernel_rfl) (by kernel_rfl) (by kernel_rfl) (fun _ _ _ h => h) (by rfl) ?_ HSQ ?_
          rotate_left
          · intro w ⟨hsk, hs0, hs1, hs2, hs3⟩
            go_simp
            first | done | with_reducible rfl
          try simp only [Act.put, List.setIfInBounds_toArray, List.set_cons_zero, List.set_cons_succ]
          refine HeldL.take (i := 10) (v := ?_) rfl (by kernel_rfl) (by kernel_rfl) (by kernel_rfl) (by kernel_rfl) (fun _ _ _ h => h) (by rfl) ?_ HSQ ?_
          rotate_left
          · intro w ⟨hsk, hs0, hs1, hs2, hs3⟩
            go_simp
            first | done | with_reducible rfl
          try simp only [Act.put, List.setIfInBounds_toArray, List.set_cons_zero, List.set_cons_succ]
          refine HeldL.take (i := 11) (v := ?_) rfl (by kernel_rfl) (by kernel_rfl) (by kernel_rfl) (by kernel_rfl) (fun _ _ _ h => h) (by rfl) ?_ HSQ ?_
          rotate_left
          · intro w ⟨hsk, hs0, hs1, hs2, hs3⟩
            go_simp
            first | done | with_reducible rfl
          try simp only [Act.put, List.setIfInBounds_toArray, List.set_cons_zero, List.set_cons_succ]
          refine HeldL.take (i := 12) (v := ?_) rfl (by kernel_rfl) (by kernel_rfl) (by kernel_rfl) (by kernel_rfl) (fun _ _ _ h => h) (by rfl) ?_ HSQ ?_
          rotate_left
          · intro w ⟨hsk, hs0, hs1, hs2, hs3⟩
            go_simp
            first | done | with_reducible rfl
          try simp only [Act.put, List.setIfInBounds_toArray, List.set_cons_zero, List.set_cons_succ]
          refine HeldL.one (i := 5) rfl (by kernel_rfl) (fun K hK => ?_)
          go_simp
          go_at_call 17
          refine (HNx.out _).mono ?_
          rintro e9 w9 ⟨rfl, rfl⟩
          refine hK.out _ _ (.inr HSQ) ?_
          clear hK K
          try simp only [Act.put, List.setIfInBounds_toArray, List.set_cons_zero, List.set_cons_succ]
          refine HeldL.one (i := 9) rfl (by kernel_rfl) (fun K hK => ?_)
          go_simp
          go_at_call 17
          refine (HNy.out _).mono ?_
          rintro e9 w9 ⟨rfl, rfl⟩
          refine hK.out _ _ (.inr HSQ) ?_
          clear hK K
          try simp only [Act.put, List.setIfInBounds_toArray, List.set_cons_zero, List.set_cons_succ]
          refine HeldL.one (i := 13) rfl (by kernel_rfl) (fun K hK => ?_)
          go_simp
          go_at_call 17
          refine (HNz.out _).mono ?_
          rintro e9 w9 ⟨rfl, rfl⟩
          refine hK.out _ _ (.inr HSQ) ?_
          clear hK K
          try simp only [Act.put, List.setIfInBounds_toArray, List.set_cons_zero, List.set_cons_succ]
          refine HeldL.take (i := 14) (v := ?_) rfl (by kernel_rfl) (by kernel_rfl) (by kernel_rfl) (by kernel_rfl) (fun _ _ _ h => h) (by rfl) ?_ HSQ ?_
          rotate_left
          · intro w ⟨hsk, hs0, hs1, hs2, hs3⟩
            go_simp
            first | done | with_reducible rfl
          try simp only [Act.put, List.setIfInBounds_toArray, List.set_cons_zero, List.set_cons_succ]
          refine HeldL.one (i := 15) rfl (by kernel_rfl) (fun K hK => ?_)
          go_simp
          refine hK.out _ _ (.inr HSA) ?_
          clear hK K
          try simp only [Act.put, List.setIfInBounds_toArray, List.set_cons_zero, List.set_cons_succ]
          refine HeldL.one (i := 16) rfl (by kernel_rfl) (fun K hK => ?_)
          refine step_clus _ (by rfl) (.tmp 29) (.tmp 43) (by rfl) w1.heap.size v (.slice (some ⟨w2.heap.size, 0, none⟩) 1 1) (((sp 44 [] l).take j).map rdC) [(rx, ry, rz)] (by rfl) (by rfl) ((HS.out.nw HK2.out).nw ((Kp.refl Nw _).drew.nw (.al _ (.cells #[.int .i64 rx, .int .i64 ry, .int .i64 rz] 40)))) (Own3.new w2 (rx, ry, rz) 40).one (VnC.some_ _ _ 1 _ rfl) HLT.out (by have h2 := KPd.size; show w1.heap.size ≤ (w2.drew.alloc (.cells #[.int .i64 rx, .int .i64 ry, .int .i64 rz] 40)).heap.size; simp only [World.size_alloc]; show w1.heap.size ≤ w2.heap.size + 1; omega) ?_
          intro v6 w6 hs6 hk6
          obtain ⟨A6, c6, rfl⟩ := hs6.val (n := j + 1) (by rw [List.length_append, HLJ.out]; rfl)
          have k6 : Kp (fun b => v.ownBlock = some b) w2 w6 := ((Kp.refl (fun b => v.ownBlock = some b) w2).drew.alloc (.cells #[.int .i64 rx, .int .i64 ry, .int .i64 rz] 40)).trans hk6
          have k6S : Kp (fun b => b = W.heap.size + 1 ∨ v.ownBlock = some b) w2 w6 := k6.mono (fun _ _ h => .inr h)
          obtain ⟨y4, y5⟩ := (HR.out.kp HK2.out (fun h => h)).kp k6 (fun e => by have := hvb _ e; omega)
          have HS6 : (fun w' : World => Kp (fun b => b = W.heap.size + 1 ∨ v.ownBlock = some b) w2 w' ∧ w'.cell? ⟨g2, 0, none⟩ = some (.string ⟨x.toArray⟩) ∧ w'.cell? ⟨g2, 1, none⟩ = some (.string ⟨y.toArray⟩) ∧ w'.cell? ⟨g2, 2, none⟩ = some (.string ⟨z.toArray⟩) ∧ w'.cell? ⟨W.heap.size + 1, 0, none⟩ = some v) w6 := ⟨k6S, keepc k6S HX0.out ng, keepc k6S HX1.out ng, keepc k6S HX2.out ng, y4⟩
          refine hK.out _ _ (.inr HS6) ?_
          clear hK K
          try simp only [Act.put, List.setIfInBounds_toArray, List.set_cons_zero, List.set_cons_succ]
          refine HeldL.take (i := 17) (v := ?_) rfl (by kernel_rfl) (by kernel_rfl) (by kernel_rfl) (by kernel_rfl) (fun _ _ _ h => h) (by rfl) ?_ HS6 ?_
          rotate_left
          · intro w ⟨hsk, hs0, hs1, hs2, hs3⟩
            go_simp
            first | done | with_reducible rfl
          try simp only [Act.put, List.setIfInBounds_toArray, List.set_cons_zero, List.set_cons_succ]
          refine HeldL.one (i := 18) rfl (by kernel_rfl) (fun K hK => ?_)
          go_simp
          refine hK.out _ _ (.inl rfl) ?_
          clear hK K
          try simp only [Act.put, List.setIfInBounds_toArray, List.set_cons_zero, List.set_cons_succ]
          refine HeldL.done (by kernel_rfl) ?_ _
          clear HSQ HSA HS6 HX0 HX1 HX2 HA0 HA1 HA2
          have kS : Kp (fun b => b = W.heap.size + 1) w6 (w6.setCell ⟨W.heap.size + 1, 0, none⟩ (.slice A6 (j + 1) c6)) := (Kp.refl (fun b => b = W.heap.size + 1) w6).setCell (p := ⟨W.heap.size + 1, 0, none⟩) (.inl rfl) _
          have HR6 := Lib.hid (own1_put9 (show Own1 w6 (W.heap.size + 1) _ from ⟨y4, y5⟩) (.slice A6 (j + 1) c6))
          have HS6 := Lib.hid (hs6.kp kS (fun g hg e => by have := (World.ownsRow.lt hs6 g hg).1; omega))
          have HK6 := Lib.hid (((HK.out.nw HK2.out).after k6 (fun g hg e => by have := hvb _ e; omega)).setCell (p := ⟨W.heap.size + 1, 0, none⟩) (.inl rfl) (.slice A6 (j + 1) c6))
          rw [← HX.out] at HS6
          clear hs6 hk6 k6 k6S kS kA ng y4 y5 u0 u6 x0 x1 x2 hvb hvo
          go_wp2
          go_roundw
          case rel => exact ⟨j + 1, _, _, by omega, by go_num, rfl, H31, HR6, HS6, HK6⟩
          case measure => simp [intOf]; omega
        · have m4 : ¬ (m : Int) = 3 := by omega
          have hf : pgP l = false := by
            by_cases hpp : pgP l = true
            · exact absurd (hm.symm.trans (pgP_three hpp p (by rw [HPC.out]; exact hpm))) m3
            · simpa using hpp
          have HF := Lib.hid hf
          clear hp hx hl' hpm hsp hm hf
          go_wp2_with fail
          refine HSP.out.mono ?_
          rintro e w2 ⟨v2, rfl, hs2, hk2⟩
          obtain ⟨g2, cap2, rfl, hc2, hg3, hg4, hcell2⟩ := hs2.at9 (by rw [HM.out]; omega)
          rw [HM.out]
          have HT2 := (HT1.out.kp HK.out (show ¬ W.heap.size = W.heap.size + 1 by omega)).kp hk2 (fun h => h)
          have hz2 : W.heap.size + 1 ≤ w2.heap.size := World.block_lt_of_cell? w2 _ HT2.1
          have HKW := (HK1.out.after HK.out (fun q hq e => by have : q = W.heap.size + 1 := e; omega)).nw hk2
          have HZ := Lib.hid (puz_none8 (W := W) 0 hz2 HKW)
          simp only [Nat.add_zero] at HZ
          obtain ⟨o0, o1⟩ := HT2
          have z0 := one_set w2 W.heap.size (.slice none 0 0) _ o0
          clear hs2 hk2 hcell2 HKW
          go_wp2
          refine bodyPost_ret (v := .tuple #[.agg #[.slice none 0 0], .bool false]) (by simp [results, Tryd.results9, go_sem, z0]) rfl ⟨[], (fun h => by rw [HF.out] at h; cases h), by simp, ?_⟩
          rw [HF.out]
          exact ⟨_, rfl, HZ.out.1, HZ.out.2⟩
      · obtain rfl : j = n := by omega
        obtain ⟨ys, hys⟩ : ∃ ys, (sp 44 [] l).map rdC = ys := ⟨_, rfl⟩
        have hE : ((sp 44 [] l).take j).map rdC = ys := by rw [List.take_of_length_le (by have := HN.out; omega)]; exact hys
        rw [hE] at HS
        have hmod : puzB ys = pgP l := by
          rw [← hys, ← HPC.out]
          refine pgP_model l (fun p hp => ?_)
          rw [HPC.out] at hp
          exact H3.out p (by rw [List.take_of_length_le (by have := HN.out; omega)]; exact hp)
        have HYN : Hid (ys.length = j) := Lib.hid (by rw [← hys, List.length_map]; exact HN.out)
        have HY0 : Hid (pgP l = true → ys = (pcs l).map rdC) := Lib.hid (fun _ => by rw [HPC.out]; exact hys.symm)
        have HYL : Hid (ys.length ≤ 1000) := Lib.hid (by rw [HYN.out]; omega)
        have HTX : Hid (pgP l = true → puzTx ys = l) := Lib.hid (fun h => by rw [HY0.out h]; exact pgP_text h)
        obtain ⟨A7, c7, rfl⟩ := HS.out.val HYN.out
        have hm7 : j ≤ maxLen := by unfold maxLen; omega
        have hsz := HK.out.size
        have HV7 := HS
        have HR7 := HR
        have HVN : Hid (∀ g, (Value.slice A7 j c7).ownBlock = some g → ¬ g = W.heap.size) := Lib.hid (fun g hg => by have := (World.ownsRow.lt HS.out g hg).1; omega)
        have HV8 : Hid (Co wr (W.heap.size + 1) (.slice A7 j c7) ys) := Lib.hid (HS.out.from (by omega))
        have HT7 := Lib.hid (HT1.out.kp HK.out (show ¬ W.heap.size = W.heap.size + 1 by omega))
        have HKW := Lib.hid (HK1.out.after HK.out (fun q hq e => by have : q = W.heap.size + 1 := e; omega))
        have hR8 : ¬ W.heap.size + 1 = W.heap.size := by omega
        obtain ⟨G, hG⟩ : ∃ G, pgP l = G := ⟨_, rfl⟩
        rw [hG] at hmod
        have HGP := Lib.hid hG
        have HG := Lib.hid hmod
        clear hE hys hmod hlt HS HR H3 hG
        cases G
        · have hr70 := HR7.out.1
          go_wp2_with fail
          first
            | (go_region_law (first
                | (go_simp
                   go_at_call 18
                   refine (pzGood_any A7 j c7 ys _ ((HV7.out.kp (S := Nw) ((Kp.refl Nw _).drew) (fun _ _ h => h)).rd) HYN.out hm7 false HG.out.symm).mono ?_
                   rintro e w8 ⟨rfl, hk8⟩
                   have hkW8 : Kp (fun b => b = W.heap.size) (wr) w8 := (Kp.refl _ _).drew.nw hk8
                   have hr78 := keepc hkW8 HR7.out.1 hR8
                   have HT8 := Lib.hid ((HT7.out.kp (S := Nw) ((Kp.refl Nw _).drew) (fun h => h)).kp hk8 (fun h => h))
                   have hr8 := HT8.out.1
                   have hf8 := HT8.out.2)))
            | trivial
          all_goals
            have z0 := one_set w8 W.heap.size (.slice A7 j c7) _ hr8
            have hsz9 := hkW8.size
            have HZ := Lib.hid (puz_close8 (W := W) 0 ((HV7.out.kp hkW8 HVN.out).cl.from (by omega)) (HKW.out.after hkW8 (fun q hq e => by have : q = W.heap.size := e; omega)))
            simp only [Nat.add_zero] at HZ
            clear hkW8 hk8
            go_wp2
            refine bodyPost_ret (v := .tuple #[.agg #[.slice A7 j c7], .bool false]) (by simp [results, Tryd.results9, go_sem, z0]) rfl ⟨_, HY0.out, HYL.out, ?_⟩
            rw [HGP.out]
            exact ⟨_, rfl, HZ.out.1, HZ.out.2⟩
        · have HTX := Lib.hid (HTX.out HGP.out)
          have hr70 := HR7.out.1
          go_wp2_with fail
          go_region_held3 (fun w' => Kp (fun b => b = W.heap.size) (wr) w' ∧ w'.cell? ⟨W.heap.size + 1, 0, none⟩ = some (.slice A7 j c7))
            (first
              | exact ⟨(Kp.refl _ _).drew, HR7.out.1⟩
              | exact ⟨hkW9.setCell (.inl rfl) _, keepo _ _ _ _ _ (keepc hkW9 HR7.out.1 hR8) (by simp)⟩
              | exact ⟨hkW9, keepc hkW9 HR7.out.1 hR8⟩
              | exact ⟨hkW8, keepc hkW8 HR7.out.1 hR8⟩
              | fail)
            (first
              | (go_at_call 18
                 refine (pzGood_any A7 j c7 ys _ ((HV7.out.kp (‹Kp (fun b => b = W.heap.size) (wr) _ ∧ _›.1) HVN.out).rd) HYN.out hm7 true HG.out.symm).mono ?_
                 rintro e w8 ⟨rfl, hk8⟩
                 have hkW8 := (‹Kp (fun b => b = W.heap.size) (wr) _ ∧ _›.1).nw hk8
                 have HT8 := Lib.hid ((HT7.out.kp (S := Nw) ((Kp.refl Nw _).drew) (fun h => h)).kp hk8 (fun h => h))
                 have hr8 := HT8.out.1
                 have hf8 := HT8.out.2)
              | (go_at_call 19
                 refine (pzText_any A7 j c7 ys _ ((HV7.out.kp hkW8 HVN.out).rd) HYN.out HG.out).mono ?_
                 rw [HTX.out]
                 rintro e w9 ⟨rfl, hk9⟩
                 have hkW9 := hkW8.nw hk9
                 have HT9 := Lib.hid (HT8.out.kp hk9 (fun h => h))
                 have hr9 := HT9.out.1
                 have hf9 := HT9.out.2)
              | fail)
          have z0 := one_set w9 W.heap.size (.slice A7 j c7) _ hr9
          have hsz9 := hkW9.size
          have HZ := Lib.hid (puz_close8 (W := W) 0 ((HV7.out.kp hkW9 HVN.out).cl.from (by omega)) (HKW.out.after hkW9 (fun q hq e => by have : q = W.heap.size := e; omega)))
          simp only [Nat.add_zero] at HZ
          clear hkW8 hk8 hkW9 hk9
          go_wp2
          refine bodyPost_ret (v := .tuple #[.agg #[.slice A7 j c7], .bool true]) (by simp [results, Tryd.results9, go_sem, z0]) rfl ⟨_, HY0.out, HYL.out, ?_⟩
          rw [HGP.out]
          exact ⟨_, rfl, HZ.out.1, HZ.out.2⟩

theorem pzParse_any (l : List UInt8) (W : World) (hl : l.length ≤ 1048576) : Calls Tryd.prog 9 #[.string ⟨l.toArray⟩] W (ParsedP W l) := by
  by_cases h : l.length ≤ 100
  · by_cases he : l = []
    · subst he; exact pzParse_nil W
    · exact pzParse_on l W h he
  · exact pzParse_off l W hl (by omega)

set_option maxRecDepth 100000 in
set_option maxHeartbeats 1600000 in
theorem sParsePuzzle_any (l : List UInt8) (W : World) (hl : l.length ≤ 1048576) (zs : List Cu) (b : Bool) (hb : pgP l = b) (hz : zs = if b = true then (pcs l).map rdC else []) :
    Calls Tryd.prog 4 #[.string ⟨l.toArray⟩] W (PuzB W zs b) := by
  have HP := Lib.hid (pzParse_any l (W.alloc (.cells #[.slice none 0 0] 24)) hl)
  have HB := Lib.hid hb
  have HZ := Lib.hid hz
  clear hb hz
  go_enter Tryd.func4, Tryd.ntmps4
  go_wp2_with fail
  refine HP.out.mono ?_
  rintro e w1 ⟨ys, hy, hyl, v1, he, hs1, hk1⟩
  rw [HB.out] at he hy
  subst he
  obtain ⟨n, hn⟩ : ∃ n, ys.length = n := ⟨_, rfl⟩
  obtain ⟨A1, c1, rfl⟩ := hs1.val hn
  have T1 := Lib.hid (((Own1.new W (.slice none 0 0) 24).kp hk1 (fun h => h)).kp (.al _ (.cells #[.slice A1 n c1] 24)) (fun h => h))
  have U1 := Lib.hid (Own1.new w1 (.slice A1 n c1) 24)
  have HK1 := Lib.hid (((Kp.al W (.cells #[.slice none 0 0] 24)).nw hk1).nw (.al _ (.cells #[.slice A1 n c1] 24)))
  have HS1 := Lib.hid (hs1.nw (Kp.al _ (.cells #[.slice A1 n c1] 24)))
  simp only [World.size_alloc] at HS1
  have hz1 : W.heap.size + 1 ≤ (w1.alloc (.cells #[.slice A1 n c1] 24)).heap.size := World.block_lt_of_cell? _ _ T1.out.1
  have HY := Lib.hid hy
  clear hs1 hk1 hy hn hyl
  obtain ⟨t1, t2⟩ := T1.out
  obtain ⟨u1, u2⟩ := U1.out
  cases b
  · obtain rfl : zs = [] := by rw [HZ.out]; rfl
    have z0 := one_set _ W.heap.size (.slice none 0 0) _ t1
    have HR := Lib.hid (puz_none8 (W := W) 0 hz1 HK1.out)
    simp only [Nat.add_zero] at HR
    go_wp2
    exact bodyPost_ret (v := .tuple #[.agg #[.slice none 0 0], .bool false]) (by simp [results, Tryd.results4, go_sem, z0]) rfl ⟨_, rfl, HR.out.1, HR.out.2⟩
  · obtain rfl : zs = ys := by rw [HZ.out, HY.out rfl]; rfl
    have z0 := one_set _ W.heap.size (.slice A1 n c1) _ t1
    have HR := Lib.hid (puz_close8 (W := W) 0 HS1.out HK1.out)
    simp only [Nat.add_zero] at HR
    go_wp2
    exact bodyPost_ret (v := .tuple #[.agg #[.slice A1 n c1], .bool true]) (by simp [results, Tryd.results4, go_sem, z0]) rfl ⟨_, rfl, HR.out.1, HR.out.2⟩
end Go.Proofs.YtcekobdnghllcacDoor
