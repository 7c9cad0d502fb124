/- Is a list a deck (IsDeck, by a map of its own), and can it be dealt with counts (canDeal), in the program; no condition but that the list's slice can be read. -/
import Derived.Test.YtpajmgonceepoacDoorPileE
import Derived.Maps.Own
import Derived.Maps.Views
namespace Go.Proofs.YtpajmgonceepoacDoor
open Go.ChangeShapes Go.WideShapes Go.ChangeAt Go.RowKit Go.Maps

theorem isUnder_yes (u : Int) (w : World) (h0 : 0 ≤ u) (h1 : u ≤ 1000) : Calls Tryd.prog 29 #[.int .i64 u] w fun e w' => e = .returned (.bool true) ∧ w = w' := by
  go_enter Tryd.func29, Tryd.ntmps29
  go_wp2_with (first | ((with_reducible refine (within_yes u _ _ _ h0 h1).mono ?_); rintro e w' ⟨rfl, rfl⟩))
  go_ret
  exact ⟨rfl, rfl⟩
theorem isUnder_no (u : Int) (w : World) (h : u < 0 ∨ 1000 < u) : Calls Tryd.prog 29 #[.int .i64 u] w fun e w' => e = .returned (.bool false) ∧ w = w' := by
  go_enter Tryd.func29, Tryd.ntmps29
  go_wp2_with (first | ((with_reducible refine (within_no u _ _ _ h).mono ?_); rintro e w' ⟨rfl, rfl⟩))
  go_ret
  exact ⟨rfl, rfl⟩
theorem isCards_yes (u : Int) (w : World) (h0 : 1 ≤ u) (h1 : u ≤ 104) : Calls Tryd.prog 36 #[.int .i64 u] w fun e w' => e = .returned (.bool true) ∧ w = w' := by
  go_enter Tryd.func36, Tryd.ntmps36
  go_wp2_with (first | ((with_reducible refine (within_yes u _ _ _ h0 h1).mono ?_); rintro e w' ⟨rfl, rfl⟩))
  go_ret
  exact ⟨rfl, rfl⟩
theorem isCards_no (u : Int) (w : World) (h : u < 1 ∨ 104 < u) : Calls Tryd.prog 36 #[.int .i64 u] w fun e w' => e = .returned (.bool false) ∧ w = w' := by
  go_enter Tryd.func36, Tryd.ntmps36
  go_wp2_with (first | ((with_reducible refine (within_no u _ _ _ h).mono ?_); rintro e w' ⟨rfl, rfl⟩))
  go_ret
  exact ⟨rfl, rfl⟩

theorem seenKey : Keyed Tryd.prog 3 := int_keyed Tryd.underlying3
theorem zeroB (w : World) : (zeroValue 4).run Tryd.prog w = .ok (.bool false) w := by kernel_rfl
theorem makeSeen (n : Nat) (w : World) : (Instr.makeMap 52 (some (.int .i64 n))).run Tryd.prog w = .ok (.map (some w.heap.size)) (w.alloc (.map #[] 0)) := by rfl
theorem bool_inv {v : Value} {b : Bool} {ps : List MemPlace} (h : plainElem (H := Unit) Tryd.prog 4 v = some (.lit (.bool b), ps)) : v = .bool b := by
  unfold plainElem at h
  rw [Tryd.underlying4] at h
  cases v <;> simp at h
  exact congrArg _ h.1
/-- the cards that were seen, as the map holds them -/
def Seen (D : DataW Unit) (xs : List Int) : Prop := ∀ y : Int, D.atKey (.int .i64 y) (.lit (.bool false)) = .lit (.bool (decide (y ∈ xs)))
theorem Seen.put {D : DataW Unit} {xs : List Int} (h : Seen D xs) (hD : IsMap D) (x : Int) : Seen (D.put (.int .i64 x) (.lit (.bool true))) (xs ++ [x]) := fun y => by
  by_cases e : y = x
  · subst e
    rw [atKey_put_same (k := Lit.int .i64 y) hD True.intro]
    simp
  · rw [atKey_put_other (fun h => e (by injection h)), h y]
    simp [e]
theorem Own.isMap {w : World} {b n : Nat} {D : DataW Unit} (h : w.ownsMap Tryd.prog 3 (plainElem Tryd.prog 4) b n D) : IsMap D := by
  obtain ⟨es, clock, _, _, _, rfl⟩ := h
  exact ⟨_, rfl⟩

set_option maxRecDepth 100000 in
set_option maxHeartbeats 3200000 in
theorem isDeck_any (A : Option Addr) (n c : Nat) (xs : List Int) (W : World) (hu : Rd W (.slice A n c) xs) (hn : xs.length = n) (hl : n ≤ 2000000) :
    Calls Tryd.prog 28 #[.slice A n c] W (BoolB W (deckB xs)) := by
  have n0 : (0 : Int) ≤ n := Int.natCast_nonneg _
  by_cases hb : 1 ≤ n ∧ n ≤ 104
  · obtain ⟨A', c', hAc, hA⟩ := hu
    have eA : A = A' := by injection hAc
    subst eA
    obtain ⟨g0, o0, rfl, _⟩ := hA 0 (by omega)
    have HA : Hid (∀ k, k < n → W.cell? ⟨g0, o0 + k, none⟩ = some (.int .i64 (xs.getD k 0))) := Lib.hid (fun k hk => by
      obtain ⟨g, o, e, hc⟩ := hA k (by omega)
      injection e with e
      injection e with e1 e2
      subst e1 e2
      exact hc)
    obtain ⟨r, hr⟩ : ∃ r, deckB xs = r := ⟨_, rfl⟩
    rw [hr]
    have HR : Hid (r = decide (xs.all okB = true ∧ xs.Nodup)) := Lib.hid (by rw [← hr]; exact deckB_on (by rw [hn]; exact hb))
    have HN := Lib.hid hn
    obtain ⟨b1, b2⟩ := hb
    have hmm := makeSeen n
    clear hA hAc hr hn
    go_enter Tryd.func28, Tryd.ntmps28
    go_wp2_with (first | ((with_reducible refine (isCards_yes n _ (by omega) (by omega)).mono ?_); rintro e w' ⟨rfl, rfl⟩))
    go_loopw [15] (fun i wr => ∃ (j : Nat) (D : DataW Unit), j ≤ n ∧ i = .int .i64 j ∧ (xs.take j).all okB = true ∧ (xs.take j).Nodup ∧ wr.ownsMap Tryd.prog 3 (plainElem Tryd.prog 4) W.heap.size j D ∧ Seen D (xs.take j) ∧ Kp Nw W wr) (fun i _ => n - (intOf i).toNat)
    case atStart =>
      exact ⟨0, _, Nat.zero_le _, rfl, rfl, List.Pairwise.nil, World.ownsMap_made _ _ _ _, fun y => by simp [DataW.atKey], Kp.al _ _⟩
    case round =>
      obtain ⟨j, D, hj, rfl, ha, hd, hw, hs, hk⟩ := hrel
      have j0 : (0 : Int) ≤ j := Int.natCast_nonneg _
      by_cases hlt : j < n
      · have j1 : (j : Int) < n := by omega
        have c0 := keepc hk (HA.out j hlt) (fun h => h)
        obtain ⟨x, hx⟩ : ∃ x, xs.getD j 0 = x := ⟨_, rfl⟩
        rw [hx] at c0
        have ht : xs.take (j + 1) = xs.take j ++ [x] := by
          rw [List.take_add_one, ← hx, List.getD_eq_getElem?_getD, List.getElem?_eq_getElem (by rw [HN.out]; exact hlt)]; rfl
        have hmem : x ∈ xs := by
          rw [← hx, List.getD_eq_getElem?_getD, List.getElem?_eq_getElem (by rw [HN.out]; exact hlt)]; exact List.getElem_mem _
        have w2 : IntKind.i64.wrap ((j : Int) + 1) = ((j + 1 : Nat) : Int) := by rw [IntWalk.i64_in _ (by omega)]; omega
        have HT := Lib.hid ht
        have HK := Lib.hid hk
        have HD := Lib.hid hd
        have HAL := Lib.hid ha
        have HS := Lib.hid hs
        have HW := Lib.hid hw
        by_cases hin : 0 ≤ x ∧ x ≤ 999
        · obtain ⟨i1, i2⟩ := hin
          have hwf : (Lit.int .i64 x).wf = true := WalkArith.wf_i64 (by omega)
          have hkey := keyOf_int_mk (P := Tryd.prog) Tryd.underlying3 hwf
          obtain ⟨v, ps, hrun, hv⟩ := hw.lookup seenKey Tryd.underlying52 (zeroB _) (plainElem_bool Tryd.underlying4 false) hkey
          rw [hs x] at hv
          have ev := bool_inv hv
          subst ev
          by_cases hse : x ∈ xs.take j
          · have ed : decide (x ∈ xs.take j) = true := decide_eq_true hse
            rw [ed] at hrun
            have HF : Hid (r = false) := Lib.hid (by
              rw [HR.out]
              apply decide_eq_false
              rintro ⟨_, h2⟩
              have h3 : (xs.take (j + 1)).Nodup := h2.sublist (List.take_sublist _ _)
              rw [ht] at h3
              have h4 := (List.nodup_append.1 h3).2.2 x hse x (by simp)
              exact h4 rfl)
            clear hx ht hmem hk hd ha hs hw hv ed hse hkey
            go_wp2_with (first | ((with_reducible refine (within_yes x _ _ _ i1 i2).mono ?_); rintro e w' ⟨rfl, rfl⟩))
            go_ret
            exact ⟨ret_bool HF.out.symm, HK.out⟩
          · have ed : decide (x ∈ xs.take j) = false := decide_eq_false hse
            rw [ed] at hrun
            obtain ⟨w1, hup, hown1, hgr⟩ := hw.update seenKey Tryd.underlying52 (by unfold maxLen; omega) hkey (plainElem_bool Tryd.underlying4 true)
            have HO1 := Lib.hid hown1
            have HS1 : Hid (Seen (D.put (.int .i64 x) (.lit (.bool true))) (xs.take (j + 1))) := Lib.hid (by rw [ht]; exact hs.put (Own.isMap hw) x)
            have HK1 := Lib.hid (hk.grown hgr (fun g hg => .inr (by injection hg with hg; omega)))
            have HA1 : Hid ((xs.take (j + 1)).all okB = true) := Lib.hid (by
              rw [ht, List.all_append, ha]
              simp [okB]
              omega)
            have HD1 : Hid ((xs.take (j + 1)).Nodup) := Lib.hid (by
              rw [ht]
              exact List.nodup_append.2 ⟨hd, by simp, fun a ha b hb e => by
                rw [List.mem_singleton.1 hb] at e
                rw [e] at ha
                exact hse ha⟩)
            clear hx ht hmem hk hd ha hs hw hv ed hse hkey hown1 hgr
            go_wp2_with (first | ((with_reducible refine (within_yes x _ _ _ i1 i2).mono ?_); rintro e w' ⟨rfl, rfl⟩))
            go_roundw
            case rel => exact ⟨j + 1, _, by omega, rfl, HA1.out, HD1.out, HO1.out, HS1.out, HK1.out⟩
            case measure => simp [intOf] <;> omega
        · have HF : Hid (r = false) := Lib.hid (by
            rw [HR.out]
            apply decide_eq_false
            rintro ⟨h1, _⟩
            have h2 := List.all_eq_true.1 h1 x hmem
            simp [okB] at h2
            omega)
          clear hx ht hmem hk hd ha hs hw
          go_wp2_with (first | ((with_reducible refine (within_no x _ _ _ (by omega)).mono ?_); rintro e w' ⟨rfl, rfl⟩))
          go_ret
          exact ⟨ret_bool HF.out.symm, HK.out⟩
      · have e : j = n := by omega
        subst e
        have HT : Hid (r = true) := Lib.hid (by
          rw [HR.out]
          apply decide_eq_true
          rw [List.take_of_length_le (by rw [HN.out]; exact Nat.le_refl _)] at ha hd
          exact ⟨ha, hd⟩)
        have HK := Lib.hid hk
        clear hk ha hd hw hs
        go_wp2
        go_ret
        exact ⟨ret_bool HT.out.symm, HK.out⟩
  · have HF : Hid (deckB xs = false) := Lib.hid (deckB_off (by rw [hn]; exact hb))
    clear hu hn
    go_enter Tryd.func28, Tryd.ntmps28
    go_wp2_with (first | ((with_reducible refine (isCards_no n _ (by omega)).mono ?_); rintro e w' ⟨rfl, rfl⟩))
    go_ret
    exact ⟨ret_bool HF.out.symm, Kp.refl _ _⟩
end Go.Proofs.YtpajmgonceepoacDoor
