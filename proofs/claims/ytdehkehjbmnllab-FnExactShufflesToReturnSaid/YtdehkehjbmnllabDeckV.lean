/- The model's BackDeck, MilkDeck and MongeDeck, told by plain lists; no condition but what the chapter asks. -/
import Derived.Test.YtdehkehjbmnllabDeckU
namespace Go.Proofs.Ytdehkehjbmnllab
open Go.ChangeShapes Go.WideShapes Go.ChangeAt Go.RowKit

set_option maxRecDepth 100000 in
set_option maxHeartbeats 1600000 in
theorem sBackDeck_no (g n B : Nat) (xs : List Int) (W : World) (hs : SlAt W B g n n xs) (hl : n ≤ 1048576) (hb : deckB xs = false) :
    Calls Try.prog 15 #[.slice (some ⟨g, 0, none⟩) n n] W (ListB W [] false) := by
  have HS := Lib.hid hs
  have HB : Hid (false = deckB xs) := Lib.hid hb.symm
  have hln : n ≤ n := Nat.le_refl _
  have hl2 : n ≤ 2000000 := by omega
  clear hs hb
  go_enter Try.func15, Try.ntmps15
  go_wp2_with (first | ((with_reducible refine (caGood_any g n n xs B _ HS.out hln hl2 false HB.out).mono ?_); rintro e w' ⟨rfl, rfl⟩))
  go_ret2
  exact ⟨_, rfl, Sl.nil _ _, Kp.refl _ _⟩

set_option maxRecDepth 100000 in
set_option maxHeartbeats 1600000 in
theorem sBackDeck_yes (g n B : Nat) (xs : List Int) (W : World) (hs : SlAt W B g n n xs) (hl : n ≤ 1048576) (hb : deckB xs = true) :
    Calls Try.prog 15 #[.slice (some ⟨g, 0, none⟩) n n] W (ListB W xs.reverse true) := by
  have HS := Lib.hid hs
  have HB : Hid (true = deckB xs) := Lib.hid hb.symm
  have hln : n ≤ n := Nat.le_refl _
  have hl2 : n ≤ 2000000 := by omega
  obtain ⟨d1, d2, _, _⟩ := deckB_parts hb
  have hn := hs.1
  rw [hn] at d1 d2
  have HN := Lib.hid hn
  have HL : Hid (n ≤ 1000) := Lib.hid (by omega)
  have HP : Hid (1 ≤ n) := Lib.hid (by omega)
  clear hs hb hn d1 d2
  go_enter Try.func15, Try.ntmps15
  go_wp2_with (first | ((with_reducible refine (caGood_any g n n xs B _ HS.out hln hl2 true HB.out).mono ?_); rintro e w' ⟨rfl, rfl⟩))
  refine (caBack_any (some ⟨g, 0, none⟩) n n xs _ HS.out.sl.rd HN.out HL.out).mono ?_
  rintro e w3 ⟨v3, rfl, hs3, hk3⟩
  have HS3 := Lib.hid hs3
  have HK3 := Lib.hid hk3
  clear hs3 hk3
  go_wp2
  go_ret2
  exact ⟨v3, rfl, HS3.out, HK3.out⟩

set_option maxRecDepth 100000 in
set_option maxHeartbeats 1600000 in
theorem sMilkDeck_no (g n B : Nat) (xs : List Int) (W : World) (hs : SlAt W B g n n xs) (hl : n ≤ 1048576) (hb : deckB xs = false) :
    Calls Try.prog 7 #[.slice (some ⟨g, 0, none⟩) n n] W (ListB W [] false) := by
  have HS := Lib.hid hs
  have HB : Hid (false = deckB xs) := Lib.hid hb.symm
  have hln : n ≤ n := Nat.le_refl _
  have hl2 : n ≤ 2000000 := by omega
  clear hs hb
  go_enter Try.func7, Try.ntmps7
  go_wp2_with (first | ((with_reducible refine (caGood_any g n n xs B _ HS.out hln hl2 false HB.out).mono ?_); rintro e w' ⟨rfl, rfl⟩))
  go_ret2
  exact ⟨_, rfl, Sl.nil _ _, Kp.refl _ _⟩

set_option maxRecDepth 100000 in
set_option maxHeartbeats 1600000 in
theorem sMilkDeck_yes (g n B : Nat) (xs : List Int) (W : World) (hs : SlAt W B g n n xs) (hl : n ≤ 1048576) (hb : deckB xs = true) :
    Calls Try.prog 7 #[.slice (some ⟨g, 0, none⟩) n n] W (ListB W (milk xs) true) := by
  have HS := Lib.hid hs
  have HB : Hid (true = deckB xs) := Lib.hid hb.symm
  have hln : n ≤ n := Nat.le_refl _
  have hl2 : n ≤ 2000000 := by omega
  obtain ⟨d1, d2, _, _⟩ := deckB_parts hb
  have hn := hs.1
  rw [hn] at d1 d2
  have HN := Lib.hid hn
  have HL : Hid (n ≤ 1000) := Lib.hid (by omega)
  have HP : Hid (1 ≤ n) := Lib.hid (by omega)
  clear hs hb hn d1 d2
  go_enter Try.func7, Try.ntmps7
  go_wp2_with (first | ((with_reducible refine (caGood_any g n n xs B _ HS.out hln hl2 true HB.out).mono ?_); rintro e w' ⟨rfl, rfl⟩))
  refine (caMilk_any (some ⟨g, 0, none⟩) n n xs _ HS.out.sl.rd HN.out HP.out HL.out).mono ?_
  rintro e w3 ⟨v3, rfl, hs3, hk3⟩
  have HS3 := Lib.hid hs3
  have HK3 := Lib.hid hk3
  clear hs3 hk3
  go_wp2
  go_ret2
  exact ⟨v3, rfl, HS3.out, HK3.out⟩

set_option maxRecDepth 100000 in
set_option maxHeartbeats 1600000 in
theorem sMongeDeck_no (g n B : Nat) (xs : List Int) (W : World) (hs : SlAt W B g n n xs) (hl : n ≤ 1048576) (hb : deckB xs = false) :
    Calls Try.prog 17 #[.slice (some ⟨g, 0, none⟩) n n] W (ListB W [] false) := by
  have HS := Lib.hid hs
  have HB : Hid (false = deckB xs) := Lib.hid hb.symm
  have hln : n ≤ n := Nat.le_refl _
  have hl2 : n ≤ 2000000 := by omega
  clear hs hb
  go_enter Try.func17, Try.ntmps17
  go_wp2_with (first | ((with_reducible refine (caGood_any g n n xs B _ HS.out hln hl2 false HB.out).mono ?_); rintro e w' ⟨rfl, rfl⟩))
  go_ret2
  exact ⟨_, rfl, Sl.nil _ _, Kp.refl _ _⟩

set_option maxRecDepth 100000 in
set_option maxHeartbeats 1600000 in
theorem sMongeDeck_yes (g n B : Nat) (xs : List Int) (W : World) (hs : SlAt W B g n n xs) (hl : n ≤ 1048576) (hb : deckB xs = true) :
    Calls Try.prog 17 #[.slice (some ⟨g, 0, none⟩) n n] W (ListB W (monge xs) true) := by
  have HS := Lib.hid hs
  have HB : Hid (true = deckB xs) := Lib.hid hb.symm
  have hln : n ≤ n := Nat.le_refl _
  have hl2 : n ≤ 2000000 := by omega
  obtain ⟨d1, d2, _, _⟩ := deckB_parts hb
  have hn := hs.1
  rw [hn] at d1 d2
  have HN := Lib.hid hn
  have HL : Hid (n ≤ 1000) := Lib.hid (by omega)
  have HP : Hid (1 ≤ n) := Lib.hid (by omega)
  clear hs hb hn d1 d2
  go_enter Try.func17, Try.ntmps17
  go_wp2_with (first | ((with_reducible refine (caGood_any g n n xs B _ HS.out hln hl2 true HB.out).mono ?_); rintro e w' ⟨rfl, rfl⟩))
  refine (caMonge_any (some ⟨g, 0, none⟩) n n xs _ HS.out.sl.rd HN.out HP.out HL.out).mono ?_
  rintro e w3 ⟨v3, rfl, hs3, hk3⟩
  have HS3 := Lib.hid hs3
  have HK3 := Lib.hid hk3
  clear hs3 hk3
  go_wp2
  go_ret2
  exact ⟨v3, rfl, HS3.out, HK3.out⟩
end Go.Proofs.Ytdehkehjbmnllab
