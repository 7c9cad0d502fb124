/- The circle of the program: how one goes forward and backward; no condition but that the circle has at most a thousand places and the step is at most a million. -/
import Derived.Test.YtcfghaeogbimeaeLetGo
namespace Go.Proofs.Ytcfghaeogbimeae
open Go.ChangeShapes Go.WideShapes Go.ChangeAt Go.RowKit
set_option maxHeartbeats 1600000 in
theorem goForward_any (C L cap i m j j' : Nat) (ps : List (Int × Int)) (p q x : Int × Int) (k : Int) (W : World) (hC : Ci W C L cap ps q k) (hn : ps.length = m + 1) (h2 : 1 ≤ m) (hi : i < m + 1) (hq : ps.getD i (0, 0) = q) (hd : Diff ps) (k1 : 1 ≤ k) (k2 : k ≤ 1000000)
    (hj : ((i : Int) + k - 1) % ((m : Int) + 1) = (j : Int)) (hp : ps.getD j (0, 0) = p) (hj' : (j : Int) % (m : Int) = (j' : Int)) (hx : (ps.eraseIdx j).getD j' (0, 0) = x) :
    Calls Try.prog 65 #[.pointer (some ⟨C, 0, none⟩)] W fun e w' => e = .returned (.agg #[.int .i64 p.1, .int .i64 p.2]) ∧ Ci w' C L cap (ps.eraseIdx j) x k ∧ Kp (fun b => b = C ∨ b = L) W w' := by
  have hb : m + 1 ≤ cap ∧ cap ≤ 1000000 := by
    obtain ⟨_, _, _, h1, h2, _⟩ := hC.2
    omega
  obtain ⟨hb1, hb2⟩ := hb
  have hjm : j < m + 1 := by
    have h1 := Int.emod_lt_of_pos ((i : Int) + k - 1) (b := ((m : Int) + 1)) (by omega)
    omega
  have hCl := hC.lt
  have hLl := hC.2.lt
  have HC := Lib.hid (fun (o : Obj) => hC.nw (.al W o))
  have HN := Lib.hid hn
  have HQ := Lib.hid hq
  have HD := Lib.hid hd
  have HP := Lib.hid hp
  have HX := Lib.hid hx
  have HJ := Lib.hid hj
  have HJ' := Lib.hid hj'
  obtain ⟨p1, p2⟩ := p
  clear hC hn hq hd hp hx hj hj'
  go_enter Try.func65, Try.ntmps65
  go_wp2_with fail
  refine (counted_any C L cap i m j ps q k _ (HC.out _) HN.out hi HQ.out HD.out k1 k2 HJ.out).mono ?_
  rintro e w1 ⟨rfl, hk1⟩
  have HK1 := Lib.hid hk1
  have hz : W.heap.size + 1 ≤ w1.heap.size := by have := hk1.size; simp at this; omega
  clear hk1
  go_wp2_with fail
  refine (letGo_any C L cap j m j' (j : Int) ps (p1, p2) q x k _ ((HC.out _).nw HK1.out) HN.out hjm HP.out h2 (by omega) (by omega) HJ'.out HX.out).mono ?_
  rintro e w3 ⟨rfl, hC3, hk3⟩
  obtain ⟨r0, r1, r2, r3⟩ := ((Own2.new W (.int .i64 0) (.int .i64 0) 87).kp HK1.out (fun h => h)).kp hk3 (by omega)
  obtain ⟨z0, z1⟩ := two_set _ W.heap.size (.int .i64 p1) (.int .i64 p2) _ _ r0 r1
  have HC3 := Lib.hid hC3
  have HK3 := Lib.hid hk3
  clear hC3 hk3
  go_wp2
  refine bodyPost_ret (v := .agg #[.int .i64 p1, .int .i64 p2]) (by simp [results, Try.results65, go_sem, z0, z1]) rfl ⟨rfl, ?_, ?_⟩
  · have k1 : Kp (fun b => b = W.heap.size) w3 w3 := Kp.refl _ _
    exact HC3.out.kp ((k1.setCell (.inl rfl) _).setCell (.inl rfl) _) (by omega) (by omega)
  · have k1 : Kp (fun b => b = C ∨ b = L) W w3 := (((Kp.refl (fun b => b = C ∨ b = L) W).alloc _).nw HK1.out).trans HK3.out
    exact (k1.setCell (.inr (Nat.le_refl _)) _).setCell (.inr (Nat.le_refl _)) _

set_option maxHeartbeats 1600000 in
theorem goForward_last (C L cap : Nat) (p : Int × Int) (k : Int) (W : World) (hC : Ci W C L cap [p] p k) (k1 : 1 ≤ k) (k2 : k ≤ 1000000) :
    Calls Try.prog 65 #[.pointer (some ⟨C, 0, none⟩)] W fun e w' => e = .returned (.agg #[.int .i64 p.1, .int .i64 p.2]) ∧ Ci w' C L cap [] p k ∧ Kp (fun b => b = C ∨ b = L) W w' := by
  have hCl := hC.lt
  have hLl := hC.2.lt
  have HC := Lib.hid (fun (o : Obj) => hC.nw (.al W o))
  obtain ⟨p1, p2⟩ := p
  clear hC
  go_enter Try.func65, Try.ntmps65
  go_wp2_with fail
  refine (counted_one C L cap (p1, p2) k _ (HC.out _) k1 k2).mono ?_
  rintro e w1 ⟨rfl, hk1⟩
  have HK1 := Lib.hid hk1
  have hz : W.heap.size + 1 ≤ w1.heap.size := by have := hk1.size; simp at this; omega
  clear hk1
  go_wp2_with fail
  refine (letGo_last C L cap _ (p1, p2) (p1, p2) k _ ((HC.out _).nw HK1.out)).mono ?_
  rintro e w3 ⟨rfl, hC3, hk3⟩
  obtain ⟨r0, r1, r2, r3⟩ := ((Own2.new W (.int .i64 0) (.int .i64 0) 87).kp HK1.out (fun h => h)).kp hk3 (by omega)
  obtain ⟨z0, z1⟩ := two_set _ W.heap.size (.int .i64 p1) (.int .i64 p2) _ _ r0 r1
  have HC3 := Lib.hid hC3
  have HK3 := Lib.hid hk3
  clear hC3 hk3
  go_wp2
  refine bodyPost_ret (v := .agg #[.int .i64 p1, .int .i64 p2]) (by simp [results, Try.results65, go_sem, z0, z1]) rfl ⟨rfl, ?_, ?_⟩
  · have k1 : Kp (fun b => b = W.heap.size) w3 w3 := Kp.refl _ _
    exact HC3.out.kp ((k1.setCell (.inl rfl) _).setCell (.inl rfl) _) (by omega) (by omega)
  · have k1 : Kp (fun b => b = C ∨ b = L) W w3 := (((Kp.refl (fun b => b = C ∨ b = L) W).alloc _).nw HK1.out).trans HK3.out
    exact (k1.setCell (.inr (Nat.le_refl _)) _).setCell (.inr (Nat.le_refl _)) _

end Go.Proofs.Ytcfghaeogbimeae
