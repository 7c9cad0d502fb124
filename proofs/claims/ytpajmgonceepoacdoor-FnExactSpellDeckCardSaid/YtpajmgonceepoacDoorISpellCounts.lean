/- What SpellCounts gives in the program, told by plain lists: as the model; no condition but on lengths, and that the library's variable MaxLen holds some int. -/
import Derived.Test.YtpajmgonceepoacDoorSpellI
namespace Go.Proofs.YtpajmgonceepoacDoor
open Go.ChangeShapes Go.WideShapes Go.ChangeAt Go.RowKit

theorem lens_get (ws : List (List UInt8)) (j : Nat) (h : j < ws.length) : (lens ws)[j]? = some ((ws.getD j []).length : Int) := by simp [lens, h]

set_option maxRecDepth 100000 in
set_option maxHeartbeats 3200000 in
theorem iSpellCounts_list (l : List UInt8) (W : World) (hM : MxL W) (hl : l.length ≤ 1048576) :
    Calls Tryd.prog 13 #[.string ⟨l.toArray⟩] W (ListB W (vSpellCounts l).1 (vSpellCounts l).2) := by
  obtain ⟨i0, hi0, hz0, hz1, hz2⟩ := info_parts intInfo
  have hc := splitW_any l W hM (by omega)
  obtain ⟨r, hr⟩ : ∃ r, vSpellCounts l = r := ⟨_, rfl⟩
  rw [hr]
  have HR := Lib.hid hr
  have HC := Lib.hid hc
  have HSH : Hid (∀ w ∈ sp 32 [] l, w.length ≤ 2000000) := Lib.hid (sp_short 32 2000000 l [] (by simp; omega))
  clear hr hc
  go_enter Tryd.func13, Tryd.ntmps13
  go_wp2_with fail
  refine HC.out.mono ?_
  rintro e w1 ⟨ps, c, hc1, hc2, rfl, hk1, hcell, hor⟩
  have HK1 := Lib.hid hk1
  obtain ⟨n, hn⟩ : ∃ n, ps.length = n := ⟨_, rfl⟩
  rw [hn] at hc1 hcell ⊢
  have HP := Lib.hid hcell
  have HN := Lib.hid hn
  have n0 : (0 : Int) ≤ n := Int.natCast_nonneg _
  clear hk1 hcell
  by_cases hbig : 104 < n
  · have b1 : (104 : Int) < n := by omega
    have HE : Hid (r = ([], false)) := Lib.hid (by
      rw [← HR.out]
      unfold vSpellCounts
      have h2 : ¬ (sp 32 [] l).length ≤ 104 := by
        rcases hor with h | h
        · rw [← h, hn]; omega
        · omega
      rw [spell_iff, decide_eq_false h2, Bool.and_false, if_neg (fun h => by cases h)])
    clear hor hn
    go_wp2
    go_ret2
    rw [HE.out]
    exact ⟨_, rfl, Sl.nil _ _, HK1.out⟩
  · have b1 : ¬ (104 : Int) < n := by omega
    have hps : ps = sp 32 [] l := by
      rcases hor with h | h
      · exact h
      · omega
    have HPS : Hid (spellB l = ps.all okWord) := Lib.hid (by
      rw [spell_iff, ← hps, hn, decide_eq_true (by omega), Bool.and_true])
    have HPE := Lib.hid hps
    have hn2 : n ≤ 1000 := by omega
    clear hor hn hps
    go_wp2_with (first | (at_make; refine wpList_make_full _ rfl _ _ 22 rfl w1.heap.size 3 i0 (.int .i64 0) 1 Tryd.underlying22 hi0 hz0 hz1 _ _ _ _ n rfl rfl rfl rfl (by rw [hz2]; omega) (by unfold maxLen; omega) (Nat.le_refl _) ?_))
    intro w2 hown hgrow
    have hk2 : Kp Nw w1 w2 := (Kp.refl _ _).grown hgrow (fun g hg => by cases hg)
    have HS := Lib.hid (Sl.zeros hown)
    have HK := Lib.hid hk2
    clear hown hgrow hk2
    go_wp2
    go_loopw [18] (fun i wr => ∃ j : Nat, j ≤ n ∧ i = .int .i64 j ∧ SlAt wr w1.heap.size w1.heap.size n n (fill (lens ps) (List.replicate n 0) j) ∧ (ps.take j).all okWord = true ∧ Kp Nw w1 wr) (fun i _ => n - (intOf i).toNat)
    case atStart => exact ⟨0, Nat.zero_le _, rfl, by rw [fill_zero]; exact HS.out, rfl, HK.out⟩
    case round =>
      rename_i wr
      obtain ⟨j, hj, rfl, hs, ha, hk⟩ := hrel
      have j0 : (0 : Int) ≤ j := Int.natCast_nonneg _
      have HA0 := Lib.hid ha
      by_cases hlt : j < n
      · have hl' : j < ps.length := by rw [HN.out]; exact hlt
        obtain ⟨p, hp⟩ : ∃ p, ps.getD j [] = p := ⟨_, rfl⟩
        have c0 := keepc hk (HP.out j hlt) (fun h => h)
        rw [hp] at c0
        have hx : ps[j] = p := by rw [← hp]; simp [hl']
        have hpl := HSH.out p (by rw [← HPE.out, ← hx]; exact List.getElem_mem _)
        have j1 : (j : Int) < n := by omega
        have H := Lib.hid hs
        have HK2 := Lib.hid hk
        replace c0 : wr.cell? ⟨W.heap.size, j, none⟩ = some (.string ⟨p.toArray⟩) := c0
        obtain ⟨k, hkl⟩ : ∃ k, p.length = k := ⟨_, rfl⟩
        have hsw : (ByteArray.mk p.toArray).size = k := by rw [← hkl]; rfl
        have HX := Lib.hid hp
        have HXL := Lib.hid hkl
        have hw := isWord_any p
        have hokl := okWord_let p
        rw [hkl] at hokl
        by_cases ok : okWord p = true
        · have HA : Hid ((ps.take (j + 1)).all okWord = true) := Lib.hid (by rw [List.take_succ_eq_append_getElem hl', List.all_append, ha, hx]; simp [ok])
          rw [ok] at hokl
          have hoo : decide (k ≤ 20) = true ∧ okLet p = true := by rw [← Bool.and_eq_true]; exact hokl.symm
          have k20 : ¬ (20 : Int) < k := by have := of_decide_eq_true hoo.1; omega
          rw [hoo.2] at hw
          have HW := Lib.hid hw
          clear hs hk ha ok hp hx hl' hw hkl hokl hoo
          go_wp2_with fail
          refine (HW.out _ hpl).mono ?_
          rintro e w5 ⟨rfl, hk5⟩
          have H5 := Lib.hid (H.out.nw hk5)
          have HK5 := Lib.hid (HK2.out.nw hk5)
          have f0 := H5.out.frozen j
          have s0 := H5.out.cell j hlt
          clear hk5
          go_wp2
          go_roundw
          case rel =>
            refine ⟨j + 1, by omega, by go_num, ?_, HA.out, HK5.out.setCell (.inr (Nat.le_refl _)) _⟩
            have h2 := H5.out.store j (k : Int)
            rw [fill_set (lens ps) _ j (k : Int) (by rw [lens_length, HN.out, List.length_replicate]) (by rw [lens_length, HN.out]; exact hlt) (by rw [lens_get ps j (by rw [HN.out]; exact hlt), HX.out, HXL.out])] at h2
            exact h2
          case measure => simp [intOf]; omega
        · have okf : okWord p = false := by simpa using ok
          have HE : Hid (r = ([], false)) := Lib.hid (by
            have hf : ps.all okWord = false := by rw [List.all_eq_false]; exact ⟨ps[j], List.getElem_mem _, by rw [hx]; exact ok⟩
            rw [← HR.out]
            unfold vSpellCounts
            rw [HPS.out, hf, if_neg (fun h => by cases h)])
          rw [okf] at hokl
          by_cases k20 : k ≤ 20
          · have k20 : ¬ (20 : Int) < k := by omega
            rw [decide_eq_true (by omega), Bool.true_and] at hokl
            rw [← hokl] at hw
            have HW := Lib.hid hw
            clear hs hk ha ok okf hp hx hl' hw hkl hokl
            go_wp2_with fail
            refine (HW.out _ hpl).mono ?_
            rintro e w5 ⟨rfl, hk5⟩
            have HK5 := Lib.hid (HK1.out.nw (HK2.out.nw hk5))
            clear hk5
            go_wp2
            go_ret2
            rw [HE.out]
            exact ⟨_, rfl, Sl.nil _ _, HK5.out⟩
          · have k20 : (20 : Int) < k := by omega
            have HK5 := Lib.hid (HK1.out.nw HK2.out)
            clear hs hk ha ok okf hp hx hl' hw hkl hokl
            go_wp2
            go_ret2
            rw [HE.out]
            exact ⟨_, rfl, Sl.nil _ _, HK5.out⟩
      · have e : j = n := by omega
        subst e
        have hn1 := HN.out
        have HE : Hid (r = (lens ps, true)) := Lib.hid (by
          rw [List.take_of_length_le (by omega)] at ha
          rw [← HR.out]
          unfold vSpellCounts
          rw [HPS.out, ha, if_pos rfl, ← HPE.out])
        rw [show fill (lens ps) (List.replicate j 0) j = lens ps by
          have := fill_all (lens ps) (List.replicate j 0) (by rw [lens_length, hn1, List.length_replicate])
          rwa [show (lens ps).length = j by rw [lens_length, hn1]] at this] at hs
        have H := Lib.hid hs
        have HK2 := Lib.hid (HK1.out.nw hk)
        clear hs hk ha
        go_wp2
        go_ret2
        rw [HE.out]
        exact ⟨_, rfl, H.out.sl.from HK1.out.size, HK2.out⟩
theorem iSpellCounts_all (s : ByteArray) (W : World) (hM : MxL W) (hl : s.size ≤ 1048576) :
    Calls Tryd.prog 13 #[.string s] W (ListB W (vSpellCounts s.data.toList).1 (vSpellCounts s.data.toList).2) := by
  have h := iSpellCounts_list s.data.toList W hM (by rw [Array.length_toList]; exact hl)
  rw [← str_list] at h
  exact h
end Go.Proofs.YtpajmgonceepoacDoor
