/- The circle's turn forward at a step of 0 too; no condition but a step of at most a million. -/
import Derived.Test.YtpbbfpgjhmjjoacGo
namespace Go.Proofs.Ytpbbfpgjhmjjoac
open Go.ChangeShapes Go.WideShapes Go.ChangeAt Go.RowKit

set_option maxHeartbeats 1600000 in
theorem counted0_any (C L cap i m j : Nat) (ps : List (Int × Int)) (q : Int × Int) (k : Int) (W : World) (hC : Ci W C L cap ps q k) (hn : ps.length = m + 1) (hi : i < m + 1) (hq : ps.getD i (0, 0) = q) (hd : Diff ps) (k1 : 0 ≤ k) (k2 : k ≤ 1000000)
    (hj : ((i : Int) + k - 1) % ((m : Int) + 1) = (j : Int)) :
    Calls Try.prog 31 #[.pointer (some ⟨C, 0, none⟩)] W fun e w' => e = .returned (.int .i64 j) ∧ Kp Nw W w' := by
  have hb : m + 1 ≤ cap ∧ cap ≤ 1000000 := by
    obtain ⟨_, _, _, h1, h2, _⟩ := hC.2
    omega
  obtain ⟨hb1, hb2⟩ := hb
  have HC := Lib.hid hC
  obtain ⟨c0, c1, c2, c3⟩ := HC.out.cells
  rw [hn] at c2
  have C2 := Lib.hid c2
  have C3 := Lib.hid c3
  have HN := Lib.hid hn
  have HQ := Lib.hid hq
  have HD := Lib.hid hd
  have i0 : (0 : Int) ≤ i := Int.natCast_nonneg _
  have q0 : IntKind.i64.wrap ((i : Int) + k) = (i : Int) + k := IntWalk.i64_in _ (by omega)
  have q1 : IntKind.i64.wrap ((i : Int) + k - 1) = (i : Int) + k - 1 := IntWalk.i64_in _ (by omega)
  clear hC hn hq hd c0 c1 c2 c3
  go_enter Try.func31, Try.ntmps31
  go_wp2_with fail
  go_region_held3 (fun w' => Kp Nw W w' ∧ w'.cell? ⟨C, 2, none⟩ = some (.slice (some ⟨L, 0, none⟩) (m + 1) cap) ∧ w'.cell? ⟨C, 3, none⟩ = some (.int .i64 k))
    (first
      | exact ⟨(Kp.refl _ _).drew, C2.out, C3.out⟩
      | exact ⟨hkW1, keepc hkW1 C2.out (fun h => h), keepc hkW1 C3.out (fun h => h)⟩
      | exact ⟨hkW2, keepc hkW2 C2.out (fun h => h), keepc hkW2 C3.out (fun h => h)⟩)
    (first
      | (go_at_call 38
         refine (next_any C L cap i ps q k _ (HC.out.nw (‹Kp Nw _ _ ∧ _›.1)) (by rw [HN.out]; exact hi) HQ.out HD.out).mono ?_
         rintro e w1 ⟨rfl, hk1⟩
         have hkW1 := (‹Kp Nw _ _ ∧ _›.1).nw hk1)
      | (go_at_call 37
         refine (around_any ((i : Int) + k - 1) ((m : Int) + 1) _ (by omega) (by omega) (by omega) (by omega)).mono ?_
         rintro e w2 ⟨rfl, rfl⟩
         have hkW2 := ‹Kp Nw _ _ ∧ _›.1))
  have hkW : Kp Nw W w1 := hkW1
  have HK1 := Lib.hid hkW
  clear hkW1 hk1 hkW
  go_wp2
  go_ret
  exact ⟨rfl, HK1.out⟩

set_option maxHeartbeats 1600000 in
theorem counted0_one (C L cap : Nat) (p : Int × Int) (k : Int) (W : World) (hC : Ci W C L cap [p] p k) (k1 : 0 ≤ k) (k2 : k ≤ 1000000) :
    Calls Try.prog 31 #[.pointer (some ⟨C, 0, none⟩)] W fun e w' => e = .returned (.int .i64 ((0 : Nat) : Int)) ∧ Kp Nw W w' :=
  counted0_any C L cap 0 0 0 [p] p k W hC rfl (by omega) rfl (fun a b h1 h2 => by simp at h2; omega) k1 k2 (by simp)

set_option maxHeartbeats 1600000 in
theorem goForward0_any (C L cap i m j j' : Nat) (ps : List (Int × Int)) (p q x : Int × Int) (k : Int) (W : World) (hC : Ci W C L cap ps q k) (hn : ps.length = m + 1) (h2 : 1 ≤ m) (hi : i < m + 1) (hq : ps.getD i (0, 0) = q) (hd : Diff ps) (k1 : 0 ≤ k) (k2 : k ≤ 1000000)
    (hj : ((i : Int) + k - 1) % ((m : Int) + 1) = (j : Int)) (hp : ps.getD j (0, 0) = p) (hj' : (j : Int) % (m : Int) = (j' : Int)) (hx : (ps.eraseIdx j).getD j' (0, 0) = x) :
    Calls Try.prog 22 #[.pointer (some ⟨C, 0, none⟩)] W fun e w' => e = .returned (.agg #[.int .i64 p.1, .int .i64 p.2]) ∧ Ci w' C L cap (ps.eraseIdx j) x k ∧ Kp (fun b => b = C ∨ b = L) W w' := by
  have hb : m + 1 ≤ cap ∧ cap ≤ 1000000 := by
    obtain ⟨_, _, _, h1, h2, _⟩ := hC.2
    omega
  obtain ⟨hb1, hb2⟩ := hb
  have hjm : j < m + 1 := by
    have h1 := Int.emod_lt_of_pos ((i : Int) + k - 1) (b := ((m : Int) + 1)) (by omega)
    omega
  have hCl := hC.lt
  have hLl := hC.2.lt
  have HC := Lib.hid (fun (o : Obj) => hC.nw (.al W o))
  have HN := Lib.hid hn
  have HQ := Lib.hid hq
  have HD := Lib.hid hd
  have HP := Lib.hid hp
  have HX := Lib.hid hx
  have HJ := Lib.hid hj
  have HJ' := Lib.hid hj'
  obtain ⟨p1, p2⟩ := p
  clear hC hn hq hd hp hx hj hj'
  go_enter Try.func22, Try.ntmps22
  go_wp2_with fail
  refine (counted0_any C L cap i m j ps q k _ (HC.out _) HN.out hi HQ.out HD.out k1 k2 HJ.out).mono ?_
  rintro e w1 ⟨rfl, hk1⟩
  have HK1 := Lib.hid hk1
  have hz : W.heap.size + 1 ≤ w1.heap.size := by have := hk1.size; simp at this; omega
  clear hk1
  go_wp2_with fail
  refine (letGo_any C L cap j m j' (j : Int) ps (p1, p2) q x k _ ((HC.out _).nw HK1.out) HN.out hjm HP.out h2 (by omega) (by omega) HJ'.out HX.out).mono ?_
  rintro e w3 ⟨rfl, hC3, hk3⟩
  obtain ⟨r0, r1, r2, r3⟩ := ((Own2.new W (.int .i64 0) (.int .i64 0) 38).kp HK1.out (fun h => h)).kp hk3 (by omega)
  obtain ⟨z0, z1⟩ := two_set _ W.heap.size (.int .i64 p1) (.int .i64 p2) _ _ r0 r1
  have HC3 := Lib.hid hC3
  have HK3 := Lib.hid hk3
  clear hC3 hk3
  go_wp2
  refine bodyPost_ret (v := .agg #[.int .i64 p1, .int .i64 p2]) (by simp [results, Try.results22, go_sem, z0, z1]) rfl ⟨rfl, ?_, ?_⟩
  · have k1 : Kp (fun b => b = W.heap.size) w3 w3 := Kp.refl _ _
    exact HC3.out.kp ((k1.setCell (.inl rfl) _).setCell (.inl rfl) _) (by omega) (by omega)
  · have k1 : Kp (fun b => b = C ∨ b = L) W w3 := (((Kp.refl (fun b => b = C ∨ b = L) W).alloc _).nw HK1.out).trans HK3.out
    exact (k1.setCell (.inr (Nat.le_refl _)) _).setCell (.inr (Nat.le_refl _)) _

set_option maxHeartbeats 1600000 in
theorem goForward0_last (C L cap : Nat) (p : Int × Int) (k : Int) (W : World) (hC : Ci W C L cap [p] p k) (k1 : 0 ≤ k) (k2 : k ≤ 1000000) :
    Calls Try.prog 22 #[.pointer (some ⟨C, 0, none⟩)] W fun e w' => e = .returned (.agg #[.int .i64 p.1, .int .i64 p.2]) ∧ Ci w' C L cap [] p k ∧ Kp (fun b => b = C ∨ b = L) W w' := by
  have hCl := hC.lt
  have hLl := hC.2.lt
  have HC := Lib.hid (fun (o : Obj) => hC.nw (.al W o))
  obtain ⟨p1, p2⟩ := p
  clear hC
  go_enter Try.func22, Try.ntmps22
  go_wp2_with fail
  refine (counted0_one C L cap (p1, p2) k _ (HC.out _) k1 k2).mono ?_
  rintro e w1 ⟨rfl, hk1⟩
  have HK1 := Lib.hid hk1
  have hz : W.heap.size + 1 ≤ w1.heap.size := by have := hk1.size; simp at this; omega
  clear hk1
  go_wp2_with fail
  refine (letGo_last C L cap _ (p1, p2) (p1, p2) k _ ((HC.out _).nw HK1.out)).mono ?_
  rintro e w3 ⟨rfl, hC3, hk3⟩
  obtain ⟨r0, r1, r2, r3⟩ := ((Own2.new W (.int .i64 0) (.int .i64 0) 38).kp HK1.out (fun h => h)).kp hk3 (by omega)
  obtain ⟨z0, z1⟩ := two_set _ W.heap.size (.int .i64 p1) (.int .i64 p2) _ _ r0 r1
  have HC3 := Lib.hid hC3
  have HK3 := Lib.hid hk3
  clear hC3 hk3
  go_wp2
  refine bodyPost_ret (v := .agg #[.int .i64 p1, .int .i64 p2]) (by simp [results, Try.results22, go_sem, z0, z1]) rfl ⟨rfl, ?_, ?_⟩
  · have k1 : Kp (fun b => b = W.heap.size) w3 w3 := Kp.refl _ _
    exact HC3.out.kp ((k1.setCell (.inl rfl) _).setCell (.inl rfl) _) (by omega) (by omega)
  · have k1 : Kp (fun b => b = C ∨ b = L) W w3 := (((Kp.refl (fun b => b = C ∨ b = L) W).alloc _).nw HK1.out).trans HK3.out
    exact (k1.setCell (.inr (Nat.le_refl _)) _).setCell (.inr (Nat.le_refl _)) _

end Go.Proofs.Ytpbbfpgjhmjjoac
