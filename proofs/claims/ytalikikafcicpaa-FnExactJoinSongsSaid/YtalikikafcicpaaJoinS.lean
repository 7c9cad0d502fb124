/- Songs in the program: joined, turned, their periods; no condition but that there are songs. -/
import Derived.Test.YtalikikafcicpaaSingI
import Derived.Test.YtalikikafcicpaaISong
import Derived.Test.YtalikikafcicpaaSoM
import Derived.Test.YtalikikafcicpaaRotM
import Derived.Test.YtalikikafcicpaaGive
namespace Go.Proofs.Ytalikikafcicpaa
open Go.ChangeShapes Go.WideShapes Go.ChangeAt Go.RowKit

theorem two_new (w : World) (x y : Value) (t : TypeId) (b : Nat) (hb : b = w.heap.size) (j : Nat) : (w.alloc (.cells #[x, y] t)).cell? ⟨b, j, none⟩ = #[x, y][j]? := by
  subst hb
  have hn := heap_alloc_new w (.cells #[x, y] t)
  unfold World.cell?
  rw [hn]
  rfl
theorem song_counts (A : Option Addr) (n c : Nat) : ∀ w : World, (Instr.field 27 (.agg #[.slice A n c]) 0).run Try.prog w = .ok (.slice A n c) w := fun _ => by kernel_rfl
/-- what is joined so far -/
def accS (zs : Nat → List Int) : Nat → List Int
  | 0 => []
  | j + 1 => accS zs j ++ zs j
theorem accS_len (zs : Nat → List Int) (h : ∀ j, j < 2 → (zs j).length ≤ 1000) : ∀ j, j ≤ 2 → (accS zs j).length ≤ j * 1000
  | 0, _ => by simp [accS]
  | j + 1, hj => by
    have h1 := accS_len zs h j (by omega)
    have h2 := h j (by omega)
    rw [accS, List.length_append]
    omega

set_option maxRecDepth 100000 in
set_option maxHeartbeats 3200000 in
theorem joinSongs_any (R : Nat) (u : Nat → Value) (zs : Nat → List Int) (W : World) (hc : ∀ j, j < 2 → W.cell? ⟨R, j, none⟩ = some (u j)) (hr : ∀ j, j < 2 → Rd W (u j) (zs j) ∧ Vn (u j) (zs j) ∧ (zs j).length ≤ 1000) :
    Calls Try.prog 30 #[.slice (some ⟨R, 0, none⟩) 2 2] W (SongM W (zs 0 ++ zs 1)) := by
  have HC := Lib.hid hc
  have HR := Lib.hid hr
  have HAL := Lib.hid (accS_len zs (fun j hj => (hr j hj).2.2))
  have HE : Hid (zs 0 ++ zs 1 = accS zs 2) := Lib.hid (by simp [accS])
  have HJ := Lib.hid (Own1.new (W.alloc (.cells #[.slice none 0 0] 27)) (.slice none 0 0) 27)
  have HO := Lib.hid (Own1.new W (.slice none 0 0) 27)
  have HSN : Hid (W.heap.size + 2 ≤ ((W.alloc (.cells #[.slice none 0 0] 27)).alloc (.cells #[.slice none 0 0] 27)).heap.size) := Lib.hid (by simp)
  rw [HE.out]
  clear hc hr
  go_enter Try.func30, Try.ntmps30
  go_wp2
  go_loopw [8] (fun i9 wr => ∃ (j : Nat) (r : Value), j ≤ 2 ∧ i9 = .int .i64 j ∧ Hid (Sl wr (W.heap.size + 2) r (accS zs j)) ∧ Hid (Own1 wr W.heap.size (.slice none 0 0)) ∧ Hid (Own1 wr (W.heap.size + 1) r) ∧ Hid (Kp Nw W wr) ∧ W.heap.size + 2 ≤ wr.heap.size) (fun i9 _ => 2 - (intOf i9).toNat)
  case atStart =>
    refine ⟨0, .slice none 0 0, by omega, rfl, Lib.hid ((Sl.nil _ _).from HSN.out), Lib.hid (HO.out.kp (.al _ _) (fun h => h)), Lib.hid ?_, Lib.hid ((Kp.al W _).nw (.al _ _)), HSN.out⟩
    have := HJ.out
    simpa only [World.size_alloc] using this
  case round =>
    rename_i wr
    obtain ⟨j, r, hj, rfl, HS, HOR, HOJ, HK, hz⟩ := hrel
    have j0 : (0 : Int) ≤ j := Int.natCast_nonneg _
    by_cases hp : j < 2
    · obtain ⟨hrd, hvn, hle⟩ := HR.out j hp
      obtain ⟨n, hn⟩ : ∃ n, (zs j).length = n := ⟨_, rfl⟩
      obtain ⟨A, c, eu, _⟩ := id hrd
      rw [hn] at eu
      have hcj := keepc HK.out (HC.out j hp) (fun h => h)
      rw [eu] at hcj hrd hvn
      have HRD := Lib.hid hrd
      have HVN := Lib.hid hvn
      have HLE := Lib.hid hle
      have HX := Lib.hid (Own1.new wr (.slice A n c) 27)
      have hx0 := HX.out.1
      have hx1 := HX.out.2
      have HJ2 := Lib.hid (HOJ.out.kp (.al wr (.cells #[.slice A n c] 27)) (fun h => h))
      have hj1 := HJ2.out.1
      have hj2 := HJ2.out.2
      have jn : (j : Int) < 2 := by omega
      have hln := HAL.out j hj
      clear hrd hvn hle hn eu
      go_wp2_with (first | (at_builtin; refine wpList_app _ rfl (.tmp 13) (.tmp 15) rfl (W.heap.size + 2) r (.slice A n c) (accS zs j) (zs j) rfl rfl (HS.out.below ((Kp.refl Nw wr).alloc _).below') (HRD.out.nw (HK.out.nw (.al _ _))) HVN.out (by have := HLE.out; omega) (by simp; omega) ?_))
      intro r' w3 hs4 hk4 hat
      obtain ⟨m, hm⟩ : ∃ m, (accS zs j ++ zs j).length = m := ⟨_, rfl⟩
      obtain ⟨A2, c2, rfl⟩ := hs4.val hm
      have HO2 := Lib.hid HS.out.own_ge
      have HS3 := Lib.hid hs4
      have hk5 : Kp (fun b => r.ownBlock = some b) wr w3 := ((Kp.refl _ wr).alloc _).trans hk4
      have HOR3 := Lib.hid (HOR.out.kp hk5 (fun h => by have := (HO2.out _ h).1; omega))
      have HOJ3 := Lib.hid (HOJ.out.kp hk5 (fun h => by have := (HO2.out _ h).1; omega))
      have HK3 := Lib.hid (HK.out.after hk5 (fun gg hlt h => by have := (HO2.out gg h).1; omega))
      have hz3 : W.heap.size + 2 ≤ w3.heap.size := by have := hk5.size; omega
      have f1 := HOJ3.out.1
      have f2 := HOJ3.out.2
      have HOJ4 := Lib.hid (HOJ3.out.set (.slice A2 m c2))
      have kk : Hid (Kp (fun g => g = W.heap.size + 1) w3 (w3.setCell ⟨W.heap.size + 1, 0, none⟩ (.slice A2 m c2))) := Lib.hid ((Kp.refl (fun g => g = W.heap.size + 1) w3).setCell (p := ⟨W.heap.size + 1, 0, none⟩) (.inl rfl) _)
      clear hm hs4 hk4 hat hk5 hcj hx0 hx1 hj1 hj2
      go_wp2
      go_roundw
      case rel =>
        refine ⟨j + 1, .slice A2 m c2, by omega, by go_num, Lib.hid (HS3.out.kp kk.out (fun gg a b => by have := (HS3.out.own_ge gg a).1; omega)), Lib.hid (HOR3.out.kp kk.out (by omega)), HOJ4, Lib.hid (HK3.out.setCell (.inr (by show W.heap.size ≤ W.heap.size + 1; omega)) _), ?_⟩
        have := kk.out.size; omega
      case measure => simp [intOf]; omega
    · have e : j = 2 := by omega
      subst e
      obtain ⟨n, hn⟩ : ∃ n, (accS zs 2).length = n := ⟨_, rfl⟩
      obtain ⟨A, c, rfl⟩ := HS.out.val hn
      have f1 := HOJ.out.1
      have g1 := HOR.out.1
      have g2 := HOR.out.2
      have z0 := one_set wr W.heap.size (.slice A n c) _ g1
      have HZ := Lib.hid (song_close 0 (HS.out.from (B' := W.heap.size + 0 + 1) (by omega)) HK.out)
      clear hn
      go_wp2
      refine bodyPost_ret (v := .agg #[.slice A n c]) (by simp [results, Try.results30, go_sem, z0]) rfl ⟨_, rfl, HZ.out.1, HZ.out.2⟩

theorem iIsSong_b (A : Option Addr) (n c : Nat) (xs : List Int) (W : World) (hu : Rd W (.slice A n c) xs) (hn : xs.length = n) (hl : n ≤ 2000000) (b : Bool) (hb : b = sgB xs) :
    Calls Try.prog 11 #[.agg #[.slice A n c]] W fun e w' => e = .returned (.bool b) ∧ Kp Nw W w' := by
  subst hb
  exact iIsSong_is A n c xs W hu hn hl

set_option maxRecDepth 100000 in
set_option maxHeartbeats 1600000 in
theorem turnSong_any (g n B : Nat) (xs : List Int) (k : Nat) (W : World) (hs : SlAt W B g n n xs) (hk : k ≤ n) (hl : n ≤ 20) :
    Calls Try.prog 35 #[.agg #[.slice (some ⟨g, 0, none⟩) n n], .int .i64 k] W (SongM W (rotS xs k)) := by
  have hn : xs.length = n := hs.1
  have HS := Lib.hid hs
  have HN := Lib.hid hn
  have k0 : (0 : Int) ≤ k := Int.natCast_nonneg _
  have k1 : (k : Int) ≤ n := by omega
  have k2 : ((k : Int)).toNat = k := by omega
  have q6 := cut_to g n n k hk
  obtain ⟨Ad, had, q7⟩ := cut_from g n n k hk (Nat.le_refl _)
  have AD := Lib.hid had
  have HC := Lib.hid ((Own1.new W (.slice (some ⟨g, 0, none⟩) n n) 27).kp (.al _ (.cells #[.slice none 0 0] 27)) (fun h => h))
  have HR := Lib.hid (Own1.new (W.alloc (.cells #[.slice (some ⟨g, 0, none⟩) n n] 27)) (.slice none 0 0) 27)
  have K0 : Hid (Kp Nw W ((W.alloc (.cells #[.slice (some ⟨g, 0, none⟩) n n] 27)).alloc (.cells #[.slice none 0 0] 27))) := Lib.hid ((Kp.al W _).nw (.al _ _))
  have hcc := HC.out.1
  clear hs had hn
  go_enter Try.func35, Try.ntmps35
  go_wp2_with fail
  go_region_held3 (fun w' => Kp Nw W w' ∧ w'.cell? ⟨W.heap.size, 0, none⟩ = some (.slice (some ⟨g, 0, none⟩) n n))
      (first
        | exact ⟨K0.out.drew, HC.out.1⟩
        | exact ⟨hkW2.setCell (.inr (by simp)) _, keepo _ _ _ _ _ hcW2 (by simp)⟩
        | exact ⟨hkW2, hcW2⟩
        | exact ⟨K0.out.drew.alloc _, keepc (.al _ _) HC.out.1 (fun h => h)⟩
        | fail)
      (first
        | (go_at_call 30
           refine (joinSongs_any _ (fun j => if j = 0 then .slice (some Ad) (n - k) (n - k) else .slice (some ⟨g, 0, none⟩) k n) (fun j => if j = 0 then xs.drop k else xs.take k) _
             (fun j hj => by rcases (show j = 0 ∨ j = 1 by omega) with rfl | rfl
                             · exact (two_new _ _ _ _ _ (by simp) 0).trans rfl
                             · exact (two_new _ _ _ _ _ (by simp) 1).trans rfl)
             (fun j hj => by
               have hn := HN.out
               rcases (show j = 0 ∨ j = 1 by omega) with rfl | rfl
               · exact ⟨Rd.nw' (HS.out.drop k (by omega) _ _ AD.out) (‹Kp Nw W _ ∧ _›.1), HS.out.drop_vn _ _ _, by show (xs.drop k).length ≤ 1000; rw [List.length_drop]; omega⟩
               · exact ⟨Rd.nw' (HS.out.take k (by omega)) (‹Kp Nw W _ ∧ _›.1), HS.out.take_vn k (by omega) _, by show (xs.take k).length ≤ 1000; rw [List.length_take]; omega⟩)).mono ?_
           rintro e w2 ⟨v2, rfl, hs2, hk2⟩
           obtain ⟨A2, c2, rfl⟩ := hs2.val (n := n) (by simp only [if_true, if_neg (show ¬ (1 : Nat) = 0 by omega), List.length_append, List.length_drop, List.length_take]; have := HN.out; omega)
           have hkW2 := (‹Kp Nw W _ ∧ _›.1).nw hk2
           have hcW2 := keepc hk2 (‹Kp Nw W _ ∧ _›.2) (fun h => h)
           obtain ⟨hr1, hr2⟩ := (HR.out.kp (S := Nw) (((Kp.refl Nw _).drew).alloc _) (fun h => h)).kp hk2 (fun h => h)
           simp only [World.size_alloc] at hr1 hr2)
        | fail)
  have HS2 := Lib.hid (hs2.from (B' := W.heap.size + 1 + 1) (by simp))
  have HK2 := Lib.hid hkW2
  have HE : Hid ((if (0 : Nat) = 0 then xs.drop k else xs.take k) ++ (if (1 : Nat) = 0 then xs.drop k else xs.take k) = rotS xs k) := Lib.hid rfl
  have z0 := one_set w2 (W.heap.size + 1) (.slice A2 n c2) _ hr1
  have HZ := Lib.hid (song_close 1 HS2.out HK2.out)
  clear hs2 hkW2 hk2 hr1 hr2 hcW2 hcc
  go_wp2
  refine bodyPost_ret (v := .agg #[.slice A2 n c2]) (by simp [results, Try.results35, go_sem, z0]) rfl ⟨_, rfl, by rw [← HE.out]; exact HZ.out.1, HZ.out.2⟩

set_option maxRecDepth 100000 in
set_option maxHeartbeats 1600000 in
theorem periodOfSong_any (g n B : Nat) (xs : List Int) (W : World) (hs : SlAt W B g n n xs) (h1 : 1 ≤ n) (hl : n ≤ 20) :
    Calls Try.prog 38 #[.agg #[.slice (some ⟨g, 0, none⟩) n n]] W fun e w' => e = .returned (.int .i64 (leastS xs)) ∧ Kp Nw W w' := by
  have hn : xs.length = n := hs.1
  have HS := Lib.hid hs
  have HN := Lib.hid hn
  have HB := Lib.hid (Own1.new W (.slice (some ⟨g, 0, none⟩) n n) 27)
  clear hs hn
  go_enter Try.func38, Try.ntmps38
  go_wp2
  go_loopw [3] (fun i9 wr => ∃ j : Nat, 1 ≤ j ∧ j ≤ n ∧ i9 = .int .i64 j ∧ Hid (∀ q, 1 ≤ q → q < j → rotS xs q ≠ xs) ∧ Hid (wr.cell? ⟨W.heap.size, 0, none⟩ = some (.slice (some ⟨g, 0, none⟩) n n)) ∧ Hid (Kp Nw W wr)) (fun i9 _ => n - (intOf i9).toNat)
  case atStart => exact ⟨1, Nat.le_refl _, h1, rfl, Lib.hid (fun q a b => absurd b (by omega)), Lib.hid HB.out.1, Lib.hid (.al _ _)⟩
  case round =>
    rename_i wr
    obtain ⟨j, hj1, hj, rfl, HALL, HC, HK⟩ := hrel
    have hc := HC.out
    have j0 : (0 : Int) ≤ j := Int.natCast_nonneg _
    by_cases hp : j < n
    · have jn : (j : Int) < n := by omega
      obtain ⟨b, hb⟩ : ∃ b, decide (rotS xs j = xs) = b := ⟨_, rfl⟩
      have HBB := Lib.hid hb
      clear hb
      cases b
      all_goals
        go_wp2_with fail
        go_region_held3 (fun w' => Kp Nw wr w' ∧ w'.cell? ⟨W.heap.size, 0, none⟩ = some (.slice (some ⟨g, 0, none⟩) n n))
          (first
            | exact ⟨(Kp.refl _ _).drew, HC.out⟩
            | exact ⟨hkW3, keepc hkW3 HC.out (fun h => h)⟩
            | exact ⟨hkW2, keepc hkW2 HC.out (fun h => h)⟩
            | fail)
          (first
            | (go_at_call 35
               refine (turnSong_any g n B xs j _ (HS.out.kq8 (HK.out.nw (‹Kp Nw wr _ ∧ _›.1)) (fun h => h)) (by omega) hl).mono ?_
               rintro e w2 ⟨v2, rfl, hs2, hk2⟩
               obtain ⟨A2, c2, rfl⟩ := hs2.val (n := n) (by rw [rotS_length]; exact HN.out)
               have hfd := song_counts A2 n c2
               have hkW2 := (‹Kp Nw wr _ ∧ _›.1).nw hk2)
            | (go_at_call 40
               refine (equal_any (.slice A2 n c2) _ (rotS xs j) xs _ hs2.rd ((HS.out.kq8 HK.out (fun h => h)).kq8 hkW2 (fun h => h)).sl.rd (by rw [rotS_length, HN.out]; omega) (by rw [HN.out]; omega)).mono ?_
               rw [HBB.out]
               rintro e w3 ⟨rfl, hk3⟩
               have hkW3 := hkW2.nw hk3)
            | fail)
        have HK3 := Lib.hid (HK.out.nw hkW3)
        have HC3 := Lib.hid (keepc hkW3 HC.out (fun h => h))
        clear hs2 hk2 hkW2 hk3 hkW3 hc
        go_wp2
      · go_roundw
        case rel =>
          refine ⟨j + 1, by omega, by omega, by go_num, Lib.hid (fun q a b => ?_), HC3, HK3⟩
          by_cases h : q < j
          · exact HALL.out q a h
          · have e : q = j := by omega
            subst e
            exact of_decide_eq_false HBB.out
        case measure => simp [intOf]; omega
      · have HF : Hid (leastS xs = j) := Lib.hid (leastS_found hj1 (by rw [HN.out]; exact hp) (of_decide_eq_true HBB.out) HALL.out)
        go_ret
        exact ⟨ret_int (by rw [HF.out]), HK3.out⟩
    · have e : j = n := by omega
      subst e
      have HF : Hid (leastS xs = j) := Lib.hid ((leastS_none (by rw [HN.out]; exact hj1) (fun q a b => HALL.out q a (by rw [HN.out] at b; exact b))).trans HN.out)
      go_wp2
      go_ret
      exact ⟨ret_int (by rw [HF.out]), HK.out⟩
end Go.Proofs.Ytalikikafcicpaa
