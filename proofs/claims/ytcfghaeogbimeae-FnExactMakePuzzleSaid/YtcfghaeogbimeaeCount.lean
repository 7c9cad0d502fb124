/- The program's countOut: it notes who goes at each turn, whatever one turn is; no condition but that there are at most a million turns. -/
import Derived.Test.YtcfghaeogbimeaeMakeC
import Derived.Test.YtcfghaeogbimeaeGo
namespace Go.Proofs.Ytcfghaeogbimeae
open Go.ChangeShapes Go.WideShapes Go.ChangeAt Go.RowKit

def CountRes (W : World) (turns : Nat) (os : List (Int × Int)) (St : World → Nat → Prop) (S : Nat → Prop) (e : Ending) (w' : World) : Prop :=
  ∃ G, e = .returned (.slice (some ⟨G, 0, none⟩) turns turns) ∧ Ps w' G turns os ∧ St w' turns ∧ Kp S W w' ∧ W.heap.size ≤ G

set_option maxHeartbeats 1600000 in
theorem countForward (C L turns : Nat) (os : List (Int × Int)) (St : World → Nat → Prop) (W : World) (hos : os.length = turns) (hC : C < W.heap.size) (hL : L < W.heap.size)
    (hst : Hid (∀ (r : Nat) (w w' : World) (S : Nat → Prop), St w r → Kp S w w' → ¬ S C → ¬ S L → St w' r))
    (hstep : Hid (∀ (r : Nat) (w : World), r < turns → St w r → Calls Try.prog 65 #[.pointer (some ⟨C, 0, none⟩)] w fun e w' =>
      e = .returned (.agg #[.int .i64 (os.getD r (0, 0)).1, .int .i64 (os.getD r (0, 0)).2]) ∧ St w' (r + 1) ∧ Kp (fun b => b = C ∨ b = L) w w'))
    (h0 : St W 0) (ht : turns ≤ 1000000) :
    Calls Try.prog 62 #[.pointer (some ⟨C, 0, none⟩), .int .i64 turns, .func (.func 65) #[] #[]] W (CountRes W turns os St (fun b => b = C ∨ b = L)) := by
  obtain ⟨i0, hi0, hz0, hz1, hz2⟩ := info_parts personInfo
  have H0 := Lib.hid h0
  have HOS := Lib.hid hos
  clear h0 hos
  go_enter Try.func62, Try.ntmps62
  go_wp2_with (first | (at_make; refine wpList_make_full _ rfl _ _ 79 rfl W.heap.size 87 i0 (.agg #[.int .i64 0, .int .i64 0]) 2 Try.underlying79 hi0 hz0 hz1 _ _ _ _ turns rfl rfl rfl rfl (by rw [hz2]; omega) (by unfold maxLen; omega) (Nat.le_refl _) ?_))
  intro w1 hown hgrow
  have hk1 : Kp Nw W w1 := (Kp.refl _ _).grown hgrow (fun g hg => by cases hg)
  have HS := Lib.hid (Ps.made hown ht)
  have HST := Lib.hid (hst.out 0 W w1 Nw H0.out hk1 (fun h => h) (fun h => h))
  have HK := Lib.hid (hk1.mono (T := fun b => b = C ∨ b = L) (fun _ _ h => h.elim))
  clear hown hgrow hk1
  go_wp2
  go_loopw [8, 13] (fun _ i wr => ∃ j : Nat, j ≤ turns ∧ i = .int .i64 j ∧ Ps wr W.heap.size turns (fill os (List.replicate turns (0, 0)) j) ∧ St wr j ∧ Kp (fun b => b = C ∨ b = L) W wr) (fun _ i _ => turns - (intOf i).toNat)
  case atStart => exact ⟨0, Nat.zero_le _, rfl, by rw [fill_zero]; exact HS.out, HST.out, HK.out⟩
  case round =>
    rename_i wr
    obtain ⟨j, hj, rfl, hs, hst1, hk⟩ := hrel
    by_cases hlt : j < turns
    · have H := Lib.hid hs
      have HT := Lib.hid hst1
      have HK2 := Lib.hid hk
      have j0 : (0 : Int) ≤ j := Int.natCast_nonneg _
      have j1 : (j : Int) < turns := by omega
      clear hs HS hk HK hst1 HST
      go_wp2_with fail
      refine (hstep.out j wr hlt HT.out).mono ?_
      rintro e w2 ⟨rfl, hst2, hk2⟩
      have hs2 := H.out.kp hk2 (by omega)
      have fl : (fill os (List.replicate turns (0, 0)) j).length = turns := by rw [fill_length _ _ _ (by rw [List.length_replicate, HOS.out]) (by rw [HOS.out]; exact hj), HOS.out]
      obtain ⟨c0, c1⟩ := hs2.cell j (by rw [fl]; exact hlt)
      have f0 := hs2.frozen (j * 2)
      have f1 := hs2.frozen (j * 2 + 1)
      obtain ⟨⟨x, y⟩, hx⟩ : ∃ x, os.getD j (0, 0) = x := ⟨_, rfl⟩
      rw [hx]
      have HX := Lib.hid hx
      have H2 := Lib.hid hs2
      have HT2 := Lib.hid hst2
      have HK3 := Lib.hid (HK2.out.trans hk2)
      clear hs2 hst2 hk2 hx fl
      go_wp2
      go_roundw
      case rel =>
        refine ⟨j + 1, by omega, by go_num, ?_, ?_, (HK3.out.setCell (.inr (Nat.le_refl _)) _).setCell (.inr (Nat.le_refl _)) _⟩
        · have := H2.out.store j x y
          rw [fill_set os _ j (x, y) (by rw [List.length_replicate, HOS.out]) (by rw [HOS.out]; exact hlt) (by have h3 := HX.out; have h4 := HOS.out; rw [← h3]; simp [List.getElem?_eq_getElem (show j < os.length by omega)])] at this
          exact this
        · have k1 : Kp (fun b => b = W.heap.size) w2 w2 := Kp.refl _ _
          exact hst.out _ _ _ _ HT2.out ((k1.setCell (.inl rfl) _).setCell (.inl rfl) _) (by omega) (by omega)
      case measure => simp [intOf]; omega
    · have e : j = turns := by omega
      subst e
      have ho := HOS.out
      rw [show fill os (List.replicate j (0, 0)) j = os by
        have := fill_all os (List.replicate j (0, 0)) (by rw [List.length_replicate, ho])
        rwa [ho] at this] at hs
      have H := Lib.hid hs
      have HT := Lib.hid hst1
      have HK2 := Lib.hid hk
      clear hs HS hk HK ho hst1 HST
      go_wp2
      go_ret
      exact ⟨_, rfl, H.out, HT.out, HK2.out, Nat.le_refl _⟩

end Go.Proofs.Ytcfghaeogbimeae
