/- The program's clueBy: the clue of a kind that a circle fits; no condition. -/
import Derived.Test.YtcfghaeogbimeaePzK
namespace Go.Proofs.Ytcfghaeogbimeae
open Go.ChangeShapes Go.WideShapes Go.ChangeAt Go.RowKit

set_option maxRecDepth 100000 in
set_option maxHeartbeats 6400000 in
theorem clueBy_any (q y : Int) (m : Nat) (k : Int) (A : Option Addr) (c : Nat) (W : World) (hv : Rd W (.slice A (m + 1) c) (outs k (m + 1) (marks 0 (m + 1)))) (n2 : m + 1 ≤ 10) (k1 : 1 ≤ k) (k2 : k ≤ 12) (q0 : 0 ≤ q) (q5 : q ≤ 5) (y0 : 0 ≤ y) :
    Calls Try.prog 42 #[.agg #[.int .i64 ((m : Int) + 1), .int .i64 k, .slice A (m + 1) c], .int .i64 q, .int .i64 y] W fun e w' => e = .returned (.agg #[.int .i64 (mkC q y (m + 1) k).1, .int .i64 (mkC q y (m + 1) k).2.1, .int .i64 (mkC q y (m + 1) k).2.2]) ∧ Kp Nw W w' := by
  obtain ⟨⟨t0, t1, t2⟩, ht⟩ : ∃ t, mkC q y (m + 1) k = t := ⟨_, rfl⟩
  rw [ht]
  show Calls _ _ _ _ fun e w' => e = .returned (.agg #[.int .i64 t0, .int .i64 t1, .int .i64 t2]) ∧ _
  have m0 : (0 : Int) ≤ m := Int.natCast_nonneg _
  have hq : q = 0 ∨ q = 1 ∨ q = 2 ∨ q = 3 ∨ q = 4 ∨ q = 5 := by omega
  rcases hq with rfl | rfl | rfl | rfl | rfl | rfl
  · obtain ⟨r, hr⟩ : ∃ r, y % 4 = r := ⟨_, rfl⟩
    have r1 : 0 ≤ r := by rw [← hr]; exact Int.emod_nonneg _ (by omega)
    have r2 : r < 4 := by rw [← hr]; exact Int.emod_lt_of_pos _ (by omega)
    have r3 : (y).tmod (4) = r := by rw [Int.tmod_eq_emod_of_nonneg (by omega)]; exact hr
    have r4 : IntKind.i64.wrap r = r := IntWalk.i64_in _ (by omega)
    have q2 : IntKind.i64.wrap (r + 2) = r + 2 := IntWalk.i64_in _ (by omega)
    have HP : Hid (mkA 0 y (m + 1) = (0, (r + 2), 0)) := Lib.hid (by simp [mkA, hr])
    have HT := Lib.hid (fun w (hk : Kp Nw (((W.alloc (.cells #[.int .i64 ((m : Int) + 1), .int .i64 k, .slice A (m + 1) c] 63)).alloc (.cells #[.int .i64 0, .int .i64 0, .int .i64 0] 49)).alloc (.cells #[.int .i64 0, .int .i64 (r + 2), .int .i64 0] 49)) w) => tell_any (mkA 0 y (m + 1)) m k A c w (hv.nw' (((Kp.al W _).nw (.al _ _)).nw (.al _ _) |>.nw hk)) n2 k1 k2 (by rw [HP.out]; show (0 : Int) ≤ 0; omega) (by rw [HP.out]; show (0 : Int) ≤ 5; omega) (by rw [HP.out]; show (0 : Int) ≤ 1 → 2 ≤ ((r + 2) : Int) ∧ ((r + 2) : Int) ≤ 5; omega))
    rw [mk_tell 0 y (m + 1) k (by omega) (by omega) (by omega), ht, HP.out] at HT
    have HR := Lib.hid (fun w (hk : Kp Nw (((W.alloc (.cells #[.int .i64 ((m : Int) + 1), .int .i64 k, .slice A (m + 1) c] 63)).alloc (.cells #[.int .i64 0, .int .i64 0, .int .i64 0] 49)).alloc (.cells #[.int .i64 0, .int .i64 (r + 2), .int .i64 0] 49)) w) => ((Own3.new (W.alloc (.cells #[.int .i64 ((m : Int) + 1), .int .i64 k, .slice A (m + 1) c] 63)) (0, 0, 0) 49).kp (Kp.al _ (.cells #[.int .i64 0, .int .i64 (r + 2), .int .i64 0] 49)) (fun h => h)).kp hk (fun h => h))
    simp only [World.size_alloc] at HR
    simp only at HT
    clear hv ht hr
    go_enter Try.func42, Try.ntmps42
    go_wp2_with fail
    refine (HT.out _ (Kp.refl _ _)).mono ?_
    rintro e w1 ⟨rfl, hk1⟩
    have hr := HR.out _ hk1
    obtain ⟨⟨z0, z1, z2⟩, _⟩ := hr.put (t0, t1, t2)
    obtain ⟨⟨r0, r1, r2⟩, f0, f1, f2⟩ := hr
    simp only at z0 z1 z2 r0 r1 r2
    have HK1 := Lib.hid ((((Kp.al W _).nw (.al _ _)).nw (.al _ _)).nw hk1)
    clear hk1
    go_wp2
    exact bodyPost_ret (v := .agg #[.int .i64 t0, .int .i64 t1, .int .i64 t2]) (by simp [results, Try.results42, go_sem, z0, z1, z2]) rfl ⟨rfl, ((HK1.out.setCell (.inr (Nat.le_succ _)) _).setCell (.inr (Nat.le_succ _)) _).setCell (.inr (Nat.le_succ _)) _⟩
  · obtain ⟨r, hr⟩ : ∃ r, y % 4 = r := ⟨_, rfl⟩
    have r1 : 0 ≤ r := by rw [← hr]; exact Int.emod_nonneg _ (by omega)
    have r2 : r < 4 := by rw [← hr]; exact Int.emod_lt_of_pos _ (by omega)
    have r3 : (y).tmod (4) = r := by rw [Int.tmod_eq_emod_of_nonneg (by omega)]; exact hr
    have r4 : IntKind.i64.wrap r = r := IntWalk.i64_in _ (by omega)
    have q2 : IntKind.i64.wrap (r + 2) = r + 2 := IntWalk.i64_in _ (by omega)
    have HP : Hid (mkA 1 y (m + 1) = (1, (r + 2), 0)) := Lib.hid (by simp [mkA, hr])
    have HT := Lib.hid (fun w (hk : Kp Nw (((W.alloc (.cells #[.int .i64 ((m : Int) + 1), .int .i64 k, .slice A (m + 1) c] 63)).alloc (.cells #[.int .i64 0, .int .i64 0, .int .i64 0] 49)).alloc (.cells #[.int .i64 1, .int .i64 (r + 2), .int .i64 0] 49)) w) => tell_any (mkA 1 y (m + 1)) m k A c w (hv.nw' (((Kp.al W _).nw (.al _ _)).nw (.al _ _) |>.nw hk)) n2 k1 k2 (by rw [HP.out]; show (0 : Int) ≤ 1; omega) (by rw [HP.out]; show (1 : Int) ≤ 5; omega) (by rw [HP.out]; show (1 : Int) ≤ 1 → 2 ≤ ((r + 2) : Int) ∧ ((r + 2) : Int) ≤ 5; omega))
    rw [mk_tell 1 y (m + 1) k (by omega) (by omega) (by omega), ht, HP.out] at HT
    have HR := Lib.hid (fun w (hk : Kp Nw (((W.alloc (.cells #[.int .i64 ((m : Int) + 1), .int .i64 k, .slice A (m + 1) c] 63)).alloc (.cells #[.int .i64 0, .int .i64 0, .int .i64 0] 49)).alloc (.cells #[.int .i64 1, .int .i64 (r + 2), .int .i64 0] 49)) w) => ((Own3.new (W.alloc (.cells #[.int .i64 ((m : Int) + 1), .int .i64 k, .slice A (m + 1) c] 63)) (0, 0, 0) 49).kp (Kp.al _ (.cells #[.int .i64 1, .int .i64 (r + 2), .int .i64 0] 49)) (fun h => h)).kp hk (fun h => h))
    simp only [World.size_alloc] at HR
    simp only at HT
    clear hv ht hr
    go_enter Try.func42, Try.ntmps42
    go_wp2_with fail
    refine (HT.out _ (Kp.refl _ _)).mono ?_
    rintro e w1 ⟨rfl, hk1⟩
    have hr := HR.out _ hk1
    obtain ⟨⟨z0, z1, z2⟩, _⟩ := hr.put (t0, t1, t2)
    obtain ⟨⟨r0, r1, r2⟩, f0, f1, f2⟩ := hr
    simp only at z0 z1 z2 r0 r1 r2
    have HK1 := Lib.hid ((((Kp.al W _).nw (.al _ _)).nw (.al _ _)).nw hk1)
    clear hk1
    go_wp2
    exact bodyPost_ret (v := .agg #[.int .i64 t0, .int .i64 t1, .int .i64 t2]) (by simp [results, Try.results42, go_sem, z0, z1, z2]) rfl ⟨rfl, ((HK1.out.setCell (.inr (Nat.le_succ _)) _).setCell (.inr (Nat.le_succ _)) _).setCell (.inr (Nat.le_succ _)) _⟩
  · have HP : Hid (mkA 2 y (m + 1) = (2, 0, 0)) := Lib.hid (by simp [mkA])
    have HT := Lib.hid (fun w (hk : Kp Nw (((W.alloc (.cells #[.int .i64 ((m : Int) + 1), .int .i64 k, .slice A (m + 1) c] 63)).alloc (.cells #[.int .i64 0, .int .i64 0, .int .i64 0] 49)).alloc (.cells #[.int .i64 2, .int .i64 0, .int .i64 0] 49)) w) => tell_any (mkA 2 y (m + 1)) m k A c w (hv.nw' (((Kp.al W _).nw (.al _ _)).nw (.al _ _) |>.nw hk)) n2 k1 k2 (by rw [HP.out]; show (0 : Int) ≤ 2; omega) (by rw [HP.out]; show (2 : Int) ≤ 5; omega) (by rw [HP.out]; show (2 : Int) ≤ 1 → 2 ≤ (0 : Int) ∧ (0 : Int) ≤ 5; omega))
    rw [mk_tell 2 y (m + 1) k (by omega) (by omega) (by omega), ht, HP.out] at HT
    have HR := Lib.hid (fun w (hk : Kp Nw (((W.alloc (.cells #[.int .i64 ((m : Int) + 1), .int .i64 k, .slice A (m + 1) c] 63)).alloc (.cells #[.int .i64 0, .int .i64 0, .int .i64 0] 49)).alloc (.cells #[.int .i64 2, .int .i64 0, .int .i64 0] 49)) w) => ((Own3.new (W.alloc (.cells #[.int .i64 ((m : Int) + 1), .int .i64 k, .slice A (m + 1) c] 63)) (0, 0, 0) 49).kp (Kp.al _ (.cells #[.int .i64 2, .int .i64 0, .int .i64 0] 49)) (fun h => h)).kp hk (fun h => h))
    simp only [World.size_alloc] at HR
    simp only at HT
    clear hv ht
    go_enter Try.func42, Try.ntmps42
    go_wp2_with fail
    refine (HT.out _ (Kp.refl _ _)).mono ?_
    rintro e w1 ⟨rfl, hk1⟩
    have hr := HR.out _ hk1
    obtain ⟨⟨z0, z1, z2⟩, _⟩ := hr.put (t0, t1, t2)
    obtain ⟨⟨r0, r1, r2⟩, f0, f1, f2⟩ := hr
    simp only at z0 z1 z2 r0 r1 r2
    have HK1 := Lib.hid ((((Kp.al W _).nw (.al _ _)).nw (.al _ _)).nw hk1)
    clear hk1
    go_wp2
    exact bodyPost_ret (v := .agg #[.int .i64 t0, .int .i64 t1, .int .i64 t2]) (by simp [results, Try.results42, go_sem, z0, z1, z2]) rfl ⟨rfl, ((HK1.out.setCell (.inr (Nat.le_succ _)) _).setCell (.inr (Nat.le_succ _)) _).setCell (.inr (Nat.le_succ _)) _⟩
  · have HP : Hid (mkA 3 y (m + 1) = (3, 0, 0)) := Lib.hid (by simp [mkA])
    have HT := Lib.hid (fun w (hk : Kp Nw (((W.alloc (.cells #[.int .i64 ((m : Int) + 1), .int .i64 k, .slice A (m + 1) c] 63)).alloc (.cells #[.int .i64 0, .int .i64 0, .int .i64 0] 49)).alloc (.cells #[.int .i64 3, .int .i64 0, .int .i64 0] 49)) w) => tell_any (mkA 3 y (m + 1)) m k A c w (hv.nw' (((Kp.al W _).nw (.al _ _)).nw (.al _ _) |>.nw hk)) n2 k1 k2 (by rw [HP.out]; show (0 : Int) ≤ 3; omega) (by rw [HP.out]; show (3 : Int) ≤ 5; omega) (by rw [HP.out]; show (3 : Int) ≤ 1 → 2 ≤ (0 : Int) ∧ (0 : Int) ≤ 5; omega))
    rw [mk_tell 3 y (m + 1) k (by omega) (by omega) (by omega), ht, HP.out] at HT
    have HR := Lib.hid (fun w (hk : Kp Nw (((W.alloc (.cells #[.int .i64 ((m : Int) + 1), .int .i64 k, .slice A (m + 1) c] 63)).alloc (.cells #[.int .i64 0, .int .i64 0, .int .i64 0] 49)).alloc (.cells #[.int .i64 3, .int .i64 0, .int .i64 0] 49)) w) => ((Own3.new (W.alloc (.cells #[.int .i64 ((m : Int) + 1), .int .i64 k, .slice A (m + 1) c] 63)) (0, 0, 0) 49).kp (Kp.al _ (.cells #[.int .i64 3, .int .i64 0, .int .i64 0] 49)) (fun h => h)).kp hk (fun h => h))
    simp only [World.size_alloc] at HR
    simp only at HT
    clear hv ht
    go_enter Try.func42, Try.ntmps42
    go_wp2_with fail
    refine (HT.out _ (Kp.refl _ _)).mono ?_
    rintro e w1 ⟨rfl, hk1⟩
    have hr := HR.out _ hk1
    obtain ⟨⟨z0, z1, z2⟩, _⟩ := hr.put (t0, t1, t2)
    obtain ⟨⟨r0, r1, r2⟩, f0, f1, f2⟩ := hr
    simp only at z0 z1 z2 r0 r1 r2
    have HK1 := Lib.hid ((((Kp.al W _).nw (.al _ _)).nw (.al _ _)).nw hk1)
    clear hk1
    go_wp2
    exact bodyPost_ret (v := .agg #[.int .i64 t0, .int .i64 t1, .int .i64 t2]) (by simp [results, Try.results42, go_sem, z0, z1, z2]) rfl ⟨rfl, ((HK1.out.setCell (.inr (Nat.le_succ _)) _).setCell (.inr (Nat.le_succ _)) _).setCell (.inr (Nat.le_succ _)) _⟩
  · obtain ⟨r, hr⟩ : ∃ r, y % ((m : Int) + 1) = r := ⟨_, rfl⟩
    have r1 : 0 ≤ r := by rw [← hr]; exact Int.emod_nonneg _ (by omega)
    have r2 : r < ((m : Int) + 1) := by rw [← hr]; exact Int.emod_lt_of_pos _ (by omega)
    have r3 : (y).tmod (((m : Int) + 1)) = r := by rw [Int.tmod_eq_emod_of_nonneg (by omega)]; exact hr
    have r4 : IntKind.i64.wrap r = r := IntWalk.i64_in _ (by omega)
    have nz : ¬ ((m : Int) + 1) = 0 := by omega
    have nz2 : (((m : Int) + 1) == 0) = false := by simpa using nz
    have HP : Hid (mkA 4 y (m + 1) = (4, r, 0)) := Lib.hid (by simp [mkA, hr])
    have HT := Lib.hid (fun w (hk : Kp Nw (((W.alloc (.cells #[.int .i64 ((m : Int) + 1), .int .i64 k, .slice A (m + 1) c] 63)).alloc (.cells #[.int .i64 0, .int .i64 0, .int .i64 0] 49)).alloc (.cells #[.int .i64 4, .int .i64 r, .int .i64 0] 49)) w) => tell_any (mkA 4 y (m + 1)) m k A c w (hv.nw' (((Kp.al W _).nw (.al _ _)).nw (.al _ _) |>.nw hk)) n2 k1 k2 (by rw [HP.out]; show (0 : Int) ≤ 4; omega) (by rw [HP.out]; show (4 : Int) ≤ 5; omega) (by rw [HP.out]; show (4 : Int) ≤ 1 → 2 ≤ (r : Int) ∧ (r : Int) ≤ 5; omega))
    rw [mk_tell 4 y (m + 1) k (by omega) (by omega) (by omega), ht, HP.out] at HT
    have HR := Lib.hid (fun w (hk : Kp Nw (((W.alloc (.cells #[.int .i64 ((m : Int) + 1), .int .i64 k, .slice A (m + 1) c] 63)).alloc (.cells #[.int .i64 0, .int .i64 0, .int .i64 0] 49)).alloc (.cells #[.int .i64 4, .int .i64 r, .int .i64 0] 49)) w) => ((Own3.new (W.alloc (.cells #[.int .i64 ((m : Int) + 1), .int .i64 k, .slice A (m + 1) c] 63)) (0, 0, 0) 49).kp (Kp.al _ (.cells #[.int .i64 4, .int .i64 r, .int .i64 0] 49)) (fun h => h)).kp hk (fun h => h))
    simp only [World.size_alloc] at HR
    simp only at HT
    clear hv ht hr
    go_enter Try.func42, Try.ntmps42
    go_wp2_with fail
    refine (HT.out _ (Kp.refl _ _)).mono ?_
    rintro e w1 ⟨rfl, hk1⟩
    have hr := HR.out _ hk1
    obtain ⟨⟨z0, z1, z2⟩, _⟩ := hr.put (t0, t1, t2)
    obtain ⟨⟨r0, r1, r2⟩, f0, f1, f2⟩ := hr
    simp only at z0 z1 z2 r0 r1 r2
    have HK1 := Lib.hid ((((Kp.al W _).nw (.al _ _)).nw (.al _ _)).nw hk1)
    clear hk1
    go_wp2
    exact bodyPost_ret (v := .agg #[.int .i64 t0, .int .i64 t1, .int .i64 t2]) (by simp [results, Try.results42, go_sem, z0, z1, z2]) rfl ⟨rfl, ((HK1.out.setCell (.inr (Nat.le_succ _)) _).setCell (.inr (Nat.le_succ _)) _).setCell (.inr (Nat.le_succ _)) _⟩
  · obtain ⟨r, hr⟩ : ∃ r, y % ((m : Int) + 1) = r := ⟨_, rfl⟩
    have r1 : 0 ≤ r := by rw [← hr]; exact Int.emod_nonneg _ (by omega)
    have r2 : r < ((m : Int) + 1) := by rw [← hr]; exact Int.emod_lt_of_pos _ (by omega)
    have r3 : (y).tmod (((m : Int) + 1)) = r := by rw [Int.tmod_eq_emod_of_nonneg (by omega)]; exact hr
    have r4 : IntKind.i64.wrap r = r := IntWalk.i64_in _ (by omega)
    have nz : ¬ ((m : Int) + 1) = 0 := by omega
    have nz2 : (((m : Int) + 1) == 0) = false := by simpa using nz
    have q1 : IntKind.i64.wrap (r + 1) = r + 1 := IntWalk.i64_in _ (by omega)
    have HP : Hid (mkA 5 y (m + 1) = (5, (r + 1), 0)) := Lib.hid (by simp [mkA, hr])
    have HT := Lib.hid (fun w (hk : Kp Nw (((W.alloc (.cells #[.int .i64 ((m : Int) + 1), .int .i64 k, .slice A (m + 1) c] 63)).alloc (.cells #[.int .i64 0, .int .i64 0, .int .i64 0] 49)).alloc (.cells #[.int .i64 5, .int .i64 (r + 1), .int .i64 0] 49)) w) => tell_any (mkA 5 y (m + 1)) m k A c w (hv.nw' (((Kp.al W _).nw (.al _ _)).nw (.al _ _) |>.nw hk)) n2 k1 k2 (by rw [HP.out]; show (0 : Int) ≤ 5; omega) (by rw [HP.out]; show (5 : Int) ≤ 5; omega) (by rw [HP.out]; show (5 : Int) ≤ 1 → 2 ≤ ((r + 1) : Int) ∧ ((r + 1) : Int) ≤ 5; omega))
    rw [mk_tell 5 y (m + 1) k (by omega) (by omega) (by omega), ht, HP.out] at HT
    have HR := Lib.hid (fun w (hk : Kp Nw (((W.alloc (.cells #[.int .i64 ((m : Int) + 1), .int .i64 k, .slice A (m + 1) c] 63)).alloc (.cells #[.int .i64 0, .int .i64 0, .int .i64 0] 49)).alloc (.cells #[.int .i64 5, .int .i64 (r + 1), .int .i64 0] 49)) w) => ((Own3.new (W.alloc (.cells #[.int .i64 ((m : Int) + 1), .int .i64 k, .slice A (m + 1) c] 63)) (0, 0, 0) 49).kp (Kp.al _ (.cells #[.int .i64 5, .int .i64 (r + 1), .int .i64 0] 49)) (fun h => h)).kp hk (fun h => h))
    simp only [World.size_alloc] at HR
    simp only at HT
    clear hv ht hr
    go_enter Try.func42, Try.ntmps42
    go_wp2_with fail
    refine (HT.out _ (Kp.refl _ _)).mono ?_
    rintro e w1 ⟨rfl, hk1⟩
    have hr := HR.out _ hk1
    obtain ⟨⟨z0, z1, z2⟩, _⟩ := hr.put (t0, t1, t2)
    obtain ⟨⟨r0, r1, r2⟩, f0, f1, f2⟩ := hr
    simp only at z0 z1 z2 r0 r1 r2
    have HK1 := Lib.hid ((((Kp.al W _).nw (.al _ _)).nw (.al _ _)).nw hk1)
    clear hk1
    go_wp2
    exact bodyPost_ret (v := .agg #[.int .i64 t0, .int .i64 t1, .int .i64 t2]) (by simp [results, Try.results42, go_sem, z0, z1, z2]) rfl ⟨rfl, ((HK1.out.setCell (.inr (Nat.le_succ _)) _).setCell (.inr (Nat.le_succ _)) _).setCell (.inr (Nat.le_succ _)) _⟩
end Go.Proofs.Ytcfghaeogbimeae
