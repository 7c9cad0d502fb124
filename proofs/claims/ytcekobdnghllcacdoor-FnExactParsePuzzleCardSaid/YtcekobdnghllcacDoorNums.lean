/- The program's reading of a list of numbers (parseNumbers): the pieces between commas, each a numeral up to a bound, at most so many. -/
import Derived.Test.YtcekobdnghllcacDoorAtoi
import Derived.Test.YtcekobdnghllcacDoorSplitK
namespace Go.Proofs.YtcekobdnghllcacDoor
open Go.ChangeShapes Go.WideShapes Go.ChangeAt Go.RowKit

/-- the cell of the library's variable MaxLen holds some int -/
def Mx (W : World) : Prop := ∃ m : Int, W.cell? ⟨0, 0, none⟩ = some (.int .i64 m)
theorem Mx.nw {w w' : World} (h : Mx w) (hk : Kp Nw w w') : Mx w' := by
  obtain ⟨m, h⟩ := h
  exact ⟨m, keepc hk h (fun h => h)⟩

/-- SplitN at a comma: the pieces, as texts, in a row of their own -/
theorem splitN_any (l : List UInt8) (n : Nat) (W : World) (hM : Mx W) (hl : l.length < 2000000) (hn : 1 ≤ n) (hn2 : n ≤ 1000) :
    Calls Tryd.prog 10 #[.string ⟨l.toArray⟩, .string ⟨#[44]⟩, .int .i64 n] W fun e w' =>
      ∃ c, (Lib.splitK [44] 0 (min n (l.length + 1) - 1) l).length ≤ c ∧ c ≤ 1000 ∧ e = .returned (.slice (some ⟨W.heap.size, 0, none⟩) (Lib.splitK [44] 0 (min n (l.length + 1) - 1) l).length c) ∧ Kp Nw W w' ∧
        ∀ j : Nat, j < (Lib.splitK [44] 0 (min n (l.length + 1) - 1) l).length → w'.cell? ⟨W.heap.size, j, none⟩ = some (strV ((Lib.splitK [44] 0 (min n (l.length + 1) - 1) l).getD j [])) := by
  obtain ⟨m, hm⟩ := hM
  have es : (ByteArray.mk l.toArray).size = l.length := rfl
  obtain ⟨k, hk⟩ : ∃ k, min n (l.length + 1) - 1 = k := ⟨_, rfl⟩
  have hd := Lib.splitB_data ⟨#[44]⟩ 0 k ⟨l.toArray⟩
  have hlen := Lib.splitB_length_le ⟨#[44]⟩ 0 k ⟨l.toArray⟩
  refine (Tryd.strings_SplitN ⟨l.toArray⟩ ⟨#[44]⟩ n m W (by rw [es]; omega) hm (by decide) hn (by omega)).mono ?_
  rintro e w' ⟨rfl, rfl⟩
  rw [es, hk]
  obtain ⟨ps, hps⟩ : ∃ ps, Lib.splitB ⟨#[44]⟩ 0 k ⟨l.toArray⟩ = ps := ⟨_, rfl⟩
  rw [hps] at hd hlen ⊢
  have e1 : Lib.splitK [44] 0 k l = ps.map (·.data.toList) := hd.symm
  rw [e1, List.length_map]
  refine ⟨_, ?_, by omega, rfl, Kp.al _ _, fun j hj => ?_⟩
  · omega
  · rw [World.cell?_alloc_new]
    simp only [Lib.cellsOf]
    rw [← Array.getElem?_toList, List.toList_toArray, List.getElem?_append_left (by simpa using hj)]
    simp [strV, hj]

/-- a numeral up to a bound -/
def okN (p : List UInt8) : Bool := canon p && decide (val p ≤ 999)
def nums (ps : List (List UInt8)) : List Int := ps.map fun p => (val p : Int)
theorem nums_get (ps : List (List UInt8)) (j : Nat) (h : j < ps.length) : (nums ps)[j]? = some (val (ps.getD j []) : Int) := by simp [nums, h]

/-- what parseNumbers returns -/
def NumsRes (W : World) (ps : List (List UInt8)) (e : Ending) (w' : World) : Prop := ListRes W (if ps.all okN then nums ps else []) (ps.all okN) e w'

set_option maxRecDepth 100000 in
set_option maxHeartbeats 1600000 in
theorem parseNumbers_any (l : List UInt8) (W : World) (ps : List (List UInt8)) (hps : ps = Lib.splitK [44] 0 (min 201 (l.length + 1) - 1) l) (hT : Tabs W) (hM : Mx W) (hl : l.length < 2000000) (hlen : ∀ p ∈ ps, p.length ≤ 2000000) (n1 : ps.length ≤ 200) :
    Calls Tryd.prog 22 #[.string ⟨l.toArray⟩, .string ⟨#[44]⟩, .int .i64 200, .int .i64 999] W (NumsRes W ps) := by
  obtain ⟨i0, hi0, hz0, hz1, hz2⟩ := info_parts intInfo
  have HT := Lib.hid hT
  have HLEN := Lib.hid hlen
  obtain ⟨n, hn⟩ : ∃ n, ps.length = n := ⟨_, rfl⟩
  have HN := Lib.hid hn
  have hc := splitN_any l 201 W hM hl (by omega) (by omega)
  rw [← hps, hn] at hc
  rw [hn] at n1
  have HC := Lib.hid hc
  have n2 : (n : Int) ≤ 200 := by omega
  clear hT hlen hn hc hps
  go_enter Tryd.func22, Tryd.ntmps22
  go_wp2_with fail
  refine HC.out.mono ?_
  rintro e w1 ⟨c, hc1, hc2, rfl, hk1, hcell⟩
  have HK1 := Lib.hid hk1
  have HP := Lib.hid hcell
  clear hk1 hcell
  go_wp2_with (first | (at_make; refine wpList_make_full _ rfl _ _ 47 rfl w1.heap.size 3 i0 (.int .i64 0) 1 Tryd.underlying47 hi0 hz0 hz1 _ _ _ _ n rfl rfl rfl rfl (by rw [hz2]; omega) (by unfold maxLen; omega) (Nat.le_refl _) ?_))
  intro w2 hown hgrow
  have hk2 : Kp Nw w1 w2 := (Kp.refl _ _).grown hgrow (fun g hg => by cases hg)
  have HS := Lib.hid (Sl.zeros hown)
  have HK := Lib.hid hk2
  clear hown hgrow hk2
  go_wp2
  go_loopw [12, 13, 14, 15, 30] (fun _ _ _ _ i wr => ∃ j : Nat, j ≤ n ∧ i = .int .i64 j ∧ SlAt wr w1.heap.size w1.heap.size n n (fill (nums ps) (List.replicate n 0) j) ∧ (ps.take j).all okN = true ∧ Kp Nw w1 wr) (fun _ _ _ _ i _ => n - (intOf i).toNat)
  case atStart => exact ⟨0, Nat.zero_le _, rfl, by rw [fill_zero]; exact HS.out, rfl, HK.out⟩
  case round =>
    rename_i wr
    obtain ⟨j, hj, rfl, hs, ha, hk⟩ := hrel
    have j0 : (0 : Int) ≤ j := Int.natCast_nonneg _
    by_cases hlt : j < n
    · have hl' : j < ps.length := by rw [HN.out]; exact hlt
      obtain ⟨p, hp⟩ : ∃ p, ps.getD j [] = p := ⟨_, rfl⟩
      have c0 := keepc hk (HP.out j hlt) (fun h => h)
      rw [hp] at c0
      have hx : ps[j] = p := by rw [← hp]; simp [hl']
      have hpl := HLEN.out p (by rw [← hx]; exact List.getElem_mem _)
      have j1 : (j : Int) < n := by omega
      have f0 := hs.frozen j
      have s0 := hs.cell j hlt
      have H := Lib.hid hs
      have HK2 := Lib.hid hk
      unfold strV at c0
      by_cases ok : okN p = true
      · have HA : Hid ((ps.take (j + 1)).all okN = true) := Lib.hid (by rw [List.take_succ_eq_append_getElem hl', List.all_append, ha, hx]; simp [ok])
        have HX := Lib.hid hp
        unfold okN at ok
        rw [Bool.and_eq_true] at ok
        have ok1 := Lib.hid ok.1
        have ok2 := Lib.hid (of_decide_eq_true ok.2)
        clear hs hk ha ok hp hx hl' s0 f0
        go_wp2_with fail
        refine (parseNumber_yes p 999 _ ((HT.out.nw HK1.out).nw HK2.out) (by omega) (by omega) ok1.out ok2.out).mono ?_
        rintro e w5 ⟨rfl, hk5⟩
        have H5 := Lib.hid (H.out.nw hk5)
        have HK5 := Lib.hid (HK2.out.nw hk5)
        have f0 := H5.out.frozen j
        have s0 := H5.out.cell j hlt
        clear hk5
        go_wp2
        go_roundw
        case rel =>
          refine ⟨j + 1, by omega, by go_num, ?_, HA.out, HK5.out.setCell (.inr (Nat.le_refl _)) _⟩
          have h2 := H5.out.store j (val p : Int)
          rw [fill_set (nums ps) _ j (val p : Int) (by simp [nums, HN.out]) (by simp [nums, HN.out]; exact hlt) (by rw [nums_get ps j (by rw [HN.out]; exact hlt), HX.out])] at h2
          exact h2
        case measure => simp [intOf]; omega
      · have HA : Hid (ps.all okN = false) := Lib.hid (by rw [List.all_eq_false]; exact ⟨ps[j], List.getElem_mem _, by rw [hx]; exact ok⟩)
        have no : ¬ (canon p = true ∧ val p ≤ 999) := by
          rintro ⟨a, b⟩
          apply ok
          unfold okN
          rw [a]
          simp [b]
        have NO := Lib.hid no
        clear hs hk ha ok hp hx hl' s0 f0 no
        go_wp2_with fail
        refine (parseNumber_no p 999 _ ((HT.out.nw HK1.out).nw HK2.out) (by omega) (by omega) NO.out).mono ?_
        rintro e w5 ⟨rfl, hk5⟩
        have HK5 := Lib.hid (HK1.out.nw (HK2.out.nw hk5))
        clear hk5
        go_wp2
        go_ret2
        unfold NumsRes
        rw [HA.out]
        exact ⟨_, rfl, Sl.nil _ _, HK5.out⟩
    · have e : j = n := by omega
      subst e
      have hn1 := HN.out
      have HA : Hid (ps.all okN = true) := Lib.hid (by rw [List.take_of_length_le (by omega)] at ha; exact ha)
      rw [show fill (nums ps) (List.replicate j 0) j = nums ps by
        have := fill_all (nums ps) (List.replicate j 0) (by simp [nums, hn1])
        rwa [show (nums ps).length = j by simp [nums, hn1]] at this] at hs
      have H := Lib.hid hs
      have HK2 := Lib.hid (HK1.out.nw hk)
      clear hs hk ha
      go_wp2
      go_ret2
      unfold NumsRes
      rw [HA.out]
      exact ⟨_, rfl, H.out.sl.from HK1.out.size, HK2.out⟩
end Go.Proofs.YtcekobdnghllcacDoor
