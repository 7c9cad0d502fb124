/- What SpellDeck gives in the program, told by plain lists: as the model; no condition but on lengths, and that the library's variable MaxLen holds some int. -/
import Derived.Test.YtpajmgonceepoacDoorISpellCounts
import Derived.Test.YtpajmgonceepoacDoorIDeckForCounts
namespace Go.Proofs.YtpajmgonceepoacDoor
open Go.ChangeShapes Go.WideShapes Go.ChangeAt Go.RowKit

theorem vSpell_deck (xs : List Int) (l : List UInt8) (h : spellB l = true) : vDeckForCounts xs (lens (sp 32 [] l)) = vSpellDeck xs l := by
  unfold vDeckForCounts vSpellDeck countsB
  rw [(spell_parts h).2, Bool.and_true, lens_length]
  simp only [h, true_and, decide_eq_true_eq]
  by_cases hd : deckB xs = true
  · by_cases he : (sp 32 [] l).length = xs.length
    · rw [if_pos ⟨hd, he⟩, if_pos ⟨hd, he.symm⟩]
    · rw [if_neg (fun h => he h.2), if_neg (fun h => he h.2.symm)]
  · rw [if_neg (fun h => hd h.1), if_neg (fun h => hd h.1)]

set_option maxRecDepth 100000 in
set_option maxHeartbeats 1600000 in
theorem iSpellDeck_all (g n B : Nat) (xs : List Int) (s : ByteArray) (W : World) (hs : SlAt W B g n n xs) (hM : MxL W) (hl : n ≤ 1048576) (ht : s.size ≤ 1048576) :
    Calls Tryd.prog 6 #[.slice (some ⟨g, 0, none⟩) n n, .string s] W (ListB W (vSpellDeck xs s.data.toList).1 (vSpellDeck xs s.data.toList).2) := by
  obtain ⟨l, hll⟩ : ∃ l, s.data.toList = l := ⟨_, rfl⟩
  have hc := iSpellCounts_all s W hM ht
  rw [hll] at hc ⊢
  have HS := Lib.hid hs
  obtain ⟨r, hr⟩ : ∃ r, vSpellDeck xs l = r := ⟨_, rfl⟩
  rw [hr]
  have HR := Lib.hid hr
  have HC := Lib.hid hc
  clear hs hr hc hll
  by_cases hb : spellB l = true
  · have HV : Hid (vSpellCounts l = (lens (sp 32 [] l), true)) := Lib.hid (by unfold vSpellCounts; rw [if_pos hb])
    have HVD : Hid (vDeckForCounts xs (lens (sp 32 [] l)) = r) := Lib.hid (by rw [vSpell_deck xs l hb, HR.out])
    have hlen : (sp 32 [] l).length ≤ 104 := (spell_parts hb).1
    obtain ⟨us, hus⟩ : ∃ us, lens (sp 32 [] l) = us := ⟨_, rfl⟩
    have hul : us.length = (sp 32 [] l).length := by rw [← hus, lens_length]
    obtain ⟨m, hm⟩ : ∃ m, us.length = m := ⟨_, rfl⟩
    have hm4 : m ≤ 1048576 := by omega
    rw [hus] at HV HVD
    have HM := Lib.hid hm
    clear hb hus hul hm hlen
    go_enter Tryd.func6, Tryd.ntmps6
    go_wp2_with fail
    refine HC.out.mono ?_
    rw [HV.out]
    rintro e w1 ⟨v, rfl, hs1, hk1⟩
    obtain ⟨A1, c1, rfl⟩ := hs1.val HM.out
    have HU := Lib.hid hs1.rd
    have HK1 := Lib.hid hk1
    have HS1 := Lib.hid (HS.out.nw hk1)
    clear hs1 hk1
    have hd := iDeckForCounts_rd g n B xs A1 m c1 us w1 HS1.out hl HU.out HM.out hm4
    rw [HVD.out] at hd
    have HD := Lib.hid hd
    clear hd
    go_wp2_with fail
    refine HD.out.mono ?_
    rintro e w2 ⟨v2, rfl, hs2, hk2⟩
    have HS2 := Lib.hid (hs2.from HK1.out.size)
    have HK2 := Lib.hid (HK1.out.nw hk2)
    clear hs2 hk2
    go_wp2
    go_ret2
    exact ⟨v2, rfl, HS2.out, HK2.out⟩
  · have HV : Hid (vSpellCounts l = ([], false)) := Lib.hid (by unfold vSpellCounts; rw [if_neg hb])
    have HE : Hid (r = ([], false)) := Lib.hid (by rw [← HR.out]; unfold vSpellDeck; rw [if_neg (fun h => hb h.1)])
    clear hb
    go_enter Tryd.func6, Tryd.ntmps6
    go_wp2_with fail
    refine HC.out.mono ?_
    rw [HV.out]
    rintro e w1 ⟨v, rfl, hs1, hk1⟩
    have HK1 := Lib.hid hk1
    clear hs1 hk1
    go_wp2
    go_ret2
    rw [HE.out]
    exact ⟨_, rfl, Sl.nil _ _, HK1.out⟩
end Go.Proofs.YtpajmgonceepoacDoor
