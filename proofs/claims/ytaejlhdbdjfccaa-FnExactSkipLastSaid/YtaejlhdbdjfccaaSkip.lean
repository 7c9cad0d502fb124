/- Counting with a skip (SkipOrder): the mathematics of turns behind which so many are passed over, the program's way to count, and what it notes; no condition but that there are at most a million people, the step is at least 1 and at most a million, and the skip is at most a thousand. -/
import Derived.Test.YtaejlhdbdjfccaaFwd
import Derived.Test.YtaejlhdbdjfccaaOrder
namespace Go.Proofs.Ytaejlhdbdjfccaa
open Go.ChangeShapes Go.WideShapes Go.ChangeAt Go.RowKit

theorem rot_rot {α : Type} (l : List α) (a b : Nat) (ha : a < l.length) (hb : b < l.length) : rot (rot l a) b = rot l ((a + b) % l.length) := by
  unfold rot
  by_cases h : a + b < l.length
  · rw [Nat.mod_eq_of_lt h, List.drop_append_of_le_length (by simp; omega), List.take_append_of_le_length (by simp; omega), List.drop_drop, List.append_assoc, List.take_add]
  · have e : (a + b) % l.length = a + b - l.length := by rw [Nat.mod_eq_sub_mod (by omega), Nat.mod_eq_of_lt (by omega)]
    rw [e, List.drop_append, List.take_append]
    have e1 : (l.drop a).drop b = [] := List.drop_eq_nil_of_le (by simp; omega)
    have e2 : (l.drop a).take b = l.drop a := List.take_of_length_le (by simp; omega)
    rw [e1, e2, List.nil_append, List.length_drop, ← List.append_assoc, List.take_take, Nat.min_eq_left (by omega)]
    rw [show b - (l.length - a) = a + b - l.length by omega]
    congr 1
    rw [List.drop_take]
    have h3 := List.take_append_drop (a - (a + b - l.length)) (l.drop (a + b - l.length))
    rw [List.drop_drop, show a + b - l.length + (a - (a + b - l.length)) = a by omega] at h3
    exact h3
theorem rot_map {α β : Type} (g : α → β) (l : List α) (i : Nat) : rot (l.map g) i = (rot l i).map g := by simp [rot]

/-- who is left behind a turn with a skip, from the one on from whom the next turn counts -/
def restS {α : Type} (k : Int) (s : Nat) (l : List α) : List α := rot (rest k l) (s % (rest k l).length)
theorem restS_length {α : Type} (k : Int) (s : Nat) (l : List α) (h : 0 < l.length) : (restS k s l).length + 1 = l.length := by
  unfold restS; rw [rot_length]; exact rest_length k l h
def outsS (k : Int) (s : Nat) : Nat → List Int → List Int
  | 0, _ => []
  | t + 1, l => who k l :: outsS k s t (restS k s l)
def leftsS {α : Type} (k : Int) (s : Nat) : Nat → List α → List α
  | 0, l => l
  | t + 1, l => leftsS k s t (restS k s l)
def outsPS (k : Int) (s : Nat) : Nat → List (Int × Int) → List (Int × Int)
  | 0, _ => []
  | t + 1, l => whoP k l :: outsPS k s t (restS k s l)
theorem restS_map {α β : Type} (g : α → β) (k : Int) (s : Nat) (l : List α) : restS k s (l.map g) = (restS k s l).map g := by
  unfold restS; rw [rest_map, rot_map, List.length_map]
theorem outsS_map (k : Int) (s : Nat) : ∀ (t : Nat) (l : List (Int × Int)), outsS k s t (l.map (·.2)) = (outsPS k s t l).map (·.2)
  | 0, _ => rfl
  | t + 1, l => by rw [outsS, outsPS, List.map_cons, who_map, restS_map, outsS_map k s t]
theorem leftsS_succ {α : Type} (k : Int) (s : Nat) : ∀ (t : Nat) (l : List α), leftsS k s (t + 1) l = restS k s (leftsS k s t l)
  | 0, _ => rfl
  | t + 1, l => by rw [leftsS, leftsS_succ k s t]; rfl
theorem leftsS_length {α : Type} (k : Int) (s : Nat) : ∀ (t : Nat) (l : List α), t ≤ l.length → (leftsS k s t l).length = l.length - t
  | 0, l, _ => by simp [leftsS]
  | t + 1, l, h => by
    have := restS_length k s l (by omega)
    rw [leftsS, leftsS_length k s t _ (by omega)]
    omega
theorem outsPS_length (k : Int) (s : Nat) : ∀ (t : Nat) (l : List (Int × Int)), (outsPS k s t l).length = t
  | 0, _ => rfl
  | t + 1, l => by rw [outsPS, List.length_cons, outsPS_length k s t]
theorem outsS_length (k : Int) (s : Nat) : ∀ (t : Nat) (l : List Int), (outsS k s t l).length = t
  | 0, _ => rfl
  | t + 1, l => by rw [outsS, List.length_cons, outsS_length k s t]
theorem outsPS_getD (k : Int) (s : Nat) : ∀ (t : Nat) (l : List (Int × Int)) (r : Nat), r < t → (outsPS k s t l).getD r (0, 0) = whoP k (leftsS k s r l)
  | 0, _, r, h => by omega
  | t + 1, l, 0, _ => rfl
  | t + 1, l, r + 1, h => by
    have := outsPS_getD k s t (restS k s l) r (by omega)
    simpa [outsPS, leftsS] using this
theorem restS_rot {α : Type} (k : Int) (s : Nat) (l : List α) (i m : Nat) (hi : i < l.length) (hm : l.length = m + 1) (h2 : 1 ≤ m) :
    restS k s (rot l i) = rot (l.eraseIdx ((i + place k l.length) % l.length)) (((i + place k l.length) % l.length + s) % m) := by
  have hj : (i + place k l.length) % l.length < l.length := Nat.mod_lt _ (by omega)
  have el : (l.eraseIdx ((i + place k l.length) % l.length)).length = m := by rw [List.length_eraseIdx, if_pos hj]; omega
  unfold restS
  rw [rest_rot k l i hi (by omega), rot_length, el, show l.length - 1 = m by omega]
  rw [rot_rot _ _ _ (by rw [el]; exact Nat.mod_lt _ (by omega)) (by rw [el]; exact Nat.mod_lt _ (by omega)), el, ← Nat.add_mod]

/-- the circle behind r turns with a skip of the people l0, told from the one who is next on; and the skip's own cell -/
def Skp (l0 : List (Int × Int)) (C L cap : Nat) (k : Int) (s b : Nat) (w : World) (r : Nat) : Prop :=
  w.cell? ⟨b, 0, none⟩ = some (.int .i64 s) ∧ ∃ ps i q, Ci w C L cap ps q k ∧ ps.length + r = l0.length ∧ Diff ps ∧ (0 < ps.length → i < ps.length ∧ ps.getD i (0, 0) = q) ∧ rot ps i = leftsS k s r l0
theorem Skp.kp {l0 : List (Int × Int)} {C L cap : Nat} {k : Int} {s b : Nat} (r : Nat) (w w' : World) (S : Nat → Prop) (h : Skp l0 C L cap k s b w r) (hk : Kp S w w') (h1 : ¬ S C) (h2 : ¬ S L) (h3 : ¬ S b) : Skp l0 C L cap k s b w' r := by
  obtain ⟨hb, ps, i, q, hC, hr⟩ := h
  exact ⟨keepc hk hb h3, ps, i, q, hC.kp hk h1 h2, hr⟩

set_option maxHeartbeats 1600000 in
theorem goSkip_any (C L cap i m j j' s b : Nat) (ps : List (Int × Int)) (p q x : Int × Int) (k : Int) (W : World) (hC : Ci W C L cap ps q k) (hb : W.cell? ⟨b, 0, none⟩ = some (.int .i64 s)) (hs : s ≤ 1000) (hn : ps.length = m + 1) (h2 : 1 ≤ m) (hm : m ≤ 900000) (hi : i < m + 1) (hq : ps.getD i (0, 0) = q) (hd : Diff ps) (k1 : 1 ≤ k) (k2 : k ≤ 1000000)
    (hj : ((i : Int) + k - 1) % ((m : Int) + 1) = (j : Int)) (hp : ps.getD j (0, 0) = p) (hj' : ((j : Int) + s) % (m : Int) = (j' : Int)) (hx : (ps.eraseIdx j).getD j' (0, 0) = x) :
    Calls Try.prog 79 #[.pointer (some ⟨C, 0, none⟩), .pointer (some ⟨b, 0, none⟩)] W fun e w' => e = .returned (.agg #[.int .i64 p.1, .int .i64 p.2]) ∧ Ci w' C L cap (ps.eraseIdx j) x k ∧ Kp (fun b => b = C ∨ b = L) W w' := by
  have hbb : m + 1 ≤ cap ∧ cap ≤ 1000000 := by
    obtain ⟨_, _, _, h1, h2, _⟩ := hC.2
    omega
  obtain ⟨hb1, hb2⟩ := hbb
  have hjm : j < m + 1 := by
    have h1 := Int.emod_lt_of_pos ((i : Int) + k - 1) (b := ((m : Int) + 1)) (by omega)
    omega
  have hCl := hC.lt
  have hLl := hC.2.lt
  have HC := Lib.hid (fun (o : Obj) => hC.nw (.al W o))
  have HBC := Lib.hid hb
  have HN := Lib.hid hn
  have HQ := Lib.hid hq
  have HD := Lib.hid hd
  have HP := Lib.hid hp
  have HX := Lib.hid hx
  have HJ := Lib.hid hj
  have HJ' := Lib.hid hj'
  have q0 : IntKind.i64.wrap ((j : Int) + s) = (j : Int) + s := IntWalk.i64_in _ (by omega)
  obtain ⟨p1, p2⟩ := p
  clear hC hn hq hd hp hx hj hj' hb
  go_enter Try.func79, Try.ntmps79
  go_wp2_with fail
  refine (counted_any C L cap i m j ps q k _ (HC.out _) HN.out hi HQ.out HD.out k1 k2 HJ.out).mono ?_
  rintro e w1 ⟨rfl, hk1⟩
  have HK1 := Lib.hid hk1
  have hz : W.heap.size + 1 ≤ w1.heap.size := by have := hk1.size; simp at this; omega
  have cb := keepc hk1 (keepc (.al W (.cells #[.int .i64 0, .int .i64 0] 70)) HBC.out (fun h => h)) (fun h => h)
  clear hk1
  go_wp2_with fail
  refine (letGo_any C L cap j m j' ((j : Int) + s) ps (p1, p2) q x k _ ((HC.out _).nw HK1.out) HN.out hjm HP.out h2 (by omega) (by omega) HJ'.out HX.out).mono ?_
  rintro e w3 ⟨rfl, hC3, hk3⟩
  obtain ⟨r0, r1, r2, r3⟩ := ((Own2.new W (.int .i64 0) (.int .i64 0) 70).kp HK1.out (fun h => h)).kp hk3 (by omega)
  obtain ⟨z0, z1⟩ := two_set _ W.heap.size (.int .i64 p1) (.int .i64 p2) _ _ r0 r1
  have HC3 := Lib.hid hC3
  have HK3 := Lib.hid hk3
  clear hC3 hk3
  go_wp2
  refine bodyPost_ret (v := .agg #[.int .i64 p1, .int .i64 p2]) (by simp [results, Try.results79, go_sem, z0, z1]) rfl ⟨rfl, ?_, ?_⟩
  · have k1 : Kp (fun b => b = W.heap.size) w3 w3 := Kp.refl _ _
    exact HC3.out.kp ((k1.setCell (.inl rfl) _).setCell (.inl rfl) _) (by omega) (by omega)
  · have k1 : Kp (fun b => b = C ∨ b = L) W w3 := (((Kp.refl (fun b => b = C ∨ b = L) W).alloc _).nw HK1.out).trans HK3.out
    exact (k1.setCell (.inr (Nat.le_refl _)) _).setCell (.inr (Nat.le_refl _)) _

set_option maxHeartbeats 1600000 in
theorem goSkip_last (C L cap s b : Nat) (p : Int × Int) (k : Int) (W : World) (hC : Ci W C L cap [p] p k) (hb : W.cell? ⟨b, 0, none⟩ = some (.int .i64 s)) (hs : s ≤ 1000) (k1 : 1 ≤ k) (k2 : k ≤ 1000000) :
    Calls Try.prog 79 #[.pointer (some ⟨C, 0, none⟩), .pointer (some ⟨b, 0, none⟩)] W fun e w' => e = .returned (.agg #[.int .i64 p.1, .int .i64 p.2]) ∧ Ci w' C L cap [] p k ∧ Kp (fun b => b = C ∨ b = L) W w' := by
  have hCl := hC.lt
  have hLl := hC.2.lt
  have HC := Lib.hid (fun (o : Obj) => hC.nw (.al W o))
  have HBC := Lib.hid hb
  have q0 : IntKind.i64.wrap ((s : Int)) = (s : Int) := IntWalk.i64_in _ (by omega)
  obtain ⟨p1, p2⟩ := p
  clear hC hb
  go_enter Try.func79, Try.ntmps79
  go_wp2_with fail
  refine (counted_one C L cap (p1, p2) k _ (HC.out _) k1 k2).mono ?_
  rintro e w1 ⟨rfl, hk1⟩
  have HK1 := Lib.hid hk1
  have hz : W.heap.size + 1 ≤ w1.heap.size := by have := hk1.size; simp at this; omega
  have cb := keepc hk1 (keepc (.al W (.cells #[.int .i64 0, .int .i64 0] 70)) HBC.out (fun h => h)) (fun h => h)
  clear hk1
  go_wp2_with fail
  refine (letGo_last C L cap _ (p1, p2) (p1, p2) k _ ((HC.out _).nw HK1.out)).mono ?_
  rintro e w3 ⟨rfl, hC3, hk3⟩
  obtain ⟨r0, r1, r2, r3⟩ := ((Own2.new W (.int .i64 0) (.int .i64 0) 70).kp HK1.out (fun h => h)).kp hk3 (by omega)
  obtain ⟨z0, z1⟩ := two_set _ W.heap.size (.int .i64 p1) (.int .i64 p2) _ _ r0 r1
  have HC3 := Lib.hid hC3
  have HK3 := Lib.hid hk3
  clear hC3 hk3
  go_wp2
  refine bodyPost_ret (v := .agg #[.int .i64 p1, .int .i64 p2]) (by simp [results, Try.results79, go_sem, z0, z1]) rfl ⟨rfl, ?_, ?_⟩
  · have k1 : Kp (fun b => b = W.heap.size) w3 w3 := Kp.refl _ _
    exact HC3.out.kp ((k1.setCell (.inl rfl) _).setCell (.inl rfl) _) (by omega) (by omega)
  · have k1 : Kp (fun b => b = C ∨ b = L) W w3 := (((Kp.refl (fun b => b = C ∨ b = L) W).alloc _).nw HK1.out).trans HK3.out
    exact (k1.setCell (.inr (Nat.le_refl _)) _).setCell (.inr (Nat.le_refl _)) _

theorem skip_step (l0 : List (Int × Int)) (C L cap s b : Nat) (hs : s ≤ 1000) (hCb : b ≠ C) (hLb : b ≠ L) (k : Int) (k1 : 1 ≤ k) (k2 : k ≤ 1000000) (turns : Nat) (ht : turns ≤ l0.length) (hl : l0.length ≤ 900000) (r : Nat) (w : World) (hr : r < turns) (h : Skp l0 C L cap k s b w r) :
    Calls Try.prog 79 #[.pointer (some ⟨C, 0, none⟩), .pointer (some ⟨b, 0, none⟩)] w fun e w' =>
      e = .returned (.agg #[.int .i64 ((outsPS k s turns l0).getD r (0, 0)).1, .int .i64 ((outsPS k s turns l0).getD r (0, 0)).2]) ∧ Skp l0 C L cap k s b w' (r + 1) ∧ Kp (fun b => b = C ∨ b = L) w w' := by
  obtain ⟨hb, ps, i, q, hC, hn, hd, hi, hrot⟩ := h
  rw [outsPS_getD k s turns l0 r hr]
  obtain ⟨hi1, hi2⟩ := hi (by omega)
  have hlen : (leftsS k s r l0).length = ps.length := by rw [← hrot, rot_length]
  have hp := place_lt k ps.length (by omega)
  have hw : whoP k (leftsS k s r l0) = ps.getD ((i + place k ps.length) % ps.length) (0, 0) := by
    unfold whoP
    rw [hlen, ← hrot, rot_getD ps i _ _ hi1 hp]
  by_cases h1 : ps.length = 1
  · obtain ⟨p, rfl⟩ := List.length_eq_one_iff.1 h1
    have e0 : i = 0 := by simpa using hi1
    subst e0
    have eq : p = q := by simpa using hi2
    subst eq
    have hw' : whoP k (leftsS k s r l0) = p := by rw [hw]; simp [place_one]
    rw [hw']
    refine (goSkip_last C L cap s b p k w hC hb hs k1 k2).mono fun e w' ⟨he, hC', hk⟩ => ⟨he, ⟨keepc hk hb (by rintro (h | h) <;> contradiction), [], 0, p, hC', by simp at hn ⊢; omega, fun a b _ h => by simp at h, fun h => by simp at h, ?_⟩, hk⟩
    rw [leftsS_succ, ← hrot]
    simp [rot, rest, restS, place_one]
  · obtain ⟨m, hm⟩ : ∃ m, ps.length = m + 1 := ⟨ps.length - 1, by omega⟩
    have hj := emod_add_place i ps.length k (by omega)
    rw [hw]
    have el : (ps.eraseIdx ((i + place k ps.length) % ps.length)).length = m := by rw [List.length_eraseIdx, if_pos (Nat.mod_lt _ (by omega))]; omega
    refine (goSkip_any C L cap i m ((i + place k ps.length) % ps.length) (((i + place k ps.length) % ps.length + s) % m) s b ps _ q _ k w hC hb hs hm (by omega) (by omega) (by omega) hi2 hd k1 k2 (by rw [hj, hm]; simp) rfl (by simp only [Int.natCast_emod, Int.natCast_add]) rfl).mono fun e w' ⟨he, hC', hk⟩ =>
      ⟨he, ⟨keepc hk hb (by rintro (h | h) <;> contradiction), _, ((i + place k ps.length) % ps.length + s) % m, _, hC', ?_, hd.erase _, fun _ => ⟨?_, rfl⟩, ?_⟩, hk⟩
    · rw [el]; omega
    · rw [el]; exact Nat.mod_lt _ (by omega)
    · rw [leftsS_succ, ← hrot, restS_rot k s ps i m hi1 hm (by omega)]

set_option maxHeartbeats 1600000 in
theorem countSkip (C L b turns : Nat) (os : List (Int × Int)) (St : World → Nat → Prop) (W : World) (hos : os.length = turns) (hC : C < W.heap.size) (hL : L < W.heap.size) (hb : b < W.heap.size)
    (hst : Hid (∀ (r : Nat) (w w' : World) (S : Nat → Prop), St w r → Kp S w w' → ¬ S C → ¬ S L → ¬ S b → St w' r))
    (hstep : Hid (∀ (r : Nat) (w : World), r < turns → St w r → Calls Try.prog 79 #[.pointer (some ⟨C, 0, none⟩), .pointer (some ⟨b, 0, none⟩)] w fun e w' =>
      e = .returned (.agg #[.int .i64 (os.getD r (0, 0)).1, .int .i64 (os.getD r (0, 0)).2]) ∧ St w' (r + 1) ∧ Kp (fun b => b = C ∨ b = L) w w'))
    (h0 : St W 0) (ht : turns ≤ 1000000) :
    Calls Try.prog 83 #[.pointer (some ⟨C, 0, none⟩), .int .i64 turns, .func (.func 79) #[] #[.pointer (some ⟨b, 0, none⟩)]] W (CountRes W turns os St (fun b => b = C ∨ b = L)) := by
  obtain ⟨i0, hi0, hz0, hz1, hz2⟩ := info_parts personInfo
  have H0 := Lib.hid h0
  have HOS := Lib.hid hos
  clear h0 hos
  go_enter Try.func83, Try.ntmps83
  go_wp2_with (first | (at_make; refine wpList_make_full _ rfl _ _ 75 rfl W.heap.size 70 i0 (.agg #[.int .i64 0, .int .i64 0]) 2 Try.underlying75 hi0 hz0 hz1 _ _ _ _ turns rfl rfl rfl rfl (by rw [hz2]; omega) (by unfold maxLen; omega) (Nat.le_refl _) ?_))
  intro w1 hown hgrow
  have hk1 : Kp Nw W w1 := (Kp.refl _ _).grown hgrow (fun g hg => by cases hg)
  have HS := Lib.hid (Ps.made hown ht)
  have HST := Lib.hid (hst.out 0 W w1 Nw H0.out hk1 (fun h => h) (fun h => h) (fun h => h))
  have HK := Lib.hid (hk1.mono (T := fun b => b = C ∨ b = L) (fun _ _ h => h.elim))
  clear hown hgrow hk1
  go_wp2
  go_loopw [8, 13] (fun _ i wr => ∃ j : Nat, j ≤ turns ∧ i = .int .i64 j ∧ Ps wr W.heap.size turns (fill os (List.replicate turns (0, 0)) j) ∧ St wr j ∧ Kp (fun b => b = C ∨ b = L) W wr) (fun _ i _ => turns - (intOf i).toNat)
  case atStart => exact ⟨0, Nat.zero_le _, rfl, by rw [fill_zero]; exact HS.out, HST.out, HK.out⟩
  case round =>
    rename_i wr
    obtain ⟨j, hj, rfl, hs, hst1, hk⟩ := hrel
    by_cases hlt : j < turns
    · have H := Lib.hid hs
      have HT := Lib.hid hst1
      have HK2 := Lib.hid hk
      have j0 : (0 : Int) ≤ j := Int.natCast_nonneg _
      have j1 : (j : Int) < turns := by omega
      clear hs HS hk HK hst1 HST
      go_wp2_with fail
      refine (hstep.out j wr hlt HT.out).mono ?_
      rintro e w2 ⟨rfl, hst2, hk2⟩
      have hs2 := H.out.kp hk2 (by omega)
      have fl : (fill os (List.replicate turns (0, 0)) j).length = turns := by rw [fill_length _ _ _ (by rw [List.length_replicate, HOS.out]) (by rw [HOS.out]; exact hj), HOS.out]
      obtain ⟨c0, c1⟩ := hs2.cell j (by rw [fl]; exact hlt)
      have f0 := hs2.frozen (j * 2)
      have f1 := hs2.frozen (j * 2 + 1)
      obtain ⟨⟨x, y⟩, hx⟩ : ∃ x, os.getD j (0, 0) = x := ⟨_, rfl⟩
      rw [hx]
      have HX := Lib.hid hx
      have H2 := Lib.hid hs2
      have HT2 := Lib.hid hst2
      have HK3 := Lib.hid (HK2.out.trans hk2)
      clear hs2 hst2 hk2 hx fl
      go_wp2
      go_roundw
      case rel =>
        refine ⟨j + 1, by omega, by go_num, ?_, ?_, (HK3.out.setCell (.inr (Nat.le_refl _)) _).setCell (.inr (Nat.le_refl _)) _⟩
        · have := H2.out.store j x y
          rw [fill_set os _ j (x, y) (by rw [List.length_replicate, HOS.out]) (by rw [HOS.out]; exact hlt) (by have h3 := HX.out; have h4 := HOS.out; rw [← h3]; simp [List.getElem?_eq_getElem (show j < os.length by omega)])] at this
          exact this
        · have k1 : Kp (fun b => b = W.heap.size) w2 w2 := Kp.refl _ _
          exact hst.out _ _ _ _ HT2.out ((k1.setCell (.inl rfl) _).setCell (.inl rfl) _) (by omega) (by omega) (by omega)
      case measure => simp [intOf]; omega
    · have e : j = turns := by omega
      subst e
      have ho := HOS.out
      rw [show fill os (List.replicate j (0, 0)) j = os by
        have := fill_all os (List.replicate j (0, 0)) (by rw [List.length_replicate, ho])
        rwa [ho] at this] at hs
      have H := Lib.hid hs
      have HT := Lib.hid hst1
      have HK2 := Lib.hid hk
      clear hs HS hk HK ho hst1 HST
      go_wp2
      go_ret
      exact ⟨_, rfl, H.out, HT.out, HK2.out, Nat.le_refl _⟩
end Go.Proofs.Ytaejlhdbdjfccaa
