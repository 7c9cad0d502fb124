/- Cats that are given a life (GiveLife), and a copy of cats in which one has other lives (withLives), in the program and in the model; no condition but that the cats' slice can be read. -/
import Derived.Test.YtpajmgonceepoacDoorCats
import Derived.Test.YtpajmgonceepoacDoorLetGo
import Derived.Lib.SliceRun
namespace Go.Proofs.YtpajmgonceepoacDoor
open Go.ChangeShapes Go.WideShapes Go.ChangeAt Go.RowKit

theorem SlAt.kpX {w w' : World} {B g cap n : Nat} {xs : List Int} {S : Nat → Prop} (h : SlAt w B g cap n xs) (hk : Kp S w w') (hs : ¬ S g) : SlAt w' B g cap n xs := by
  have h1 := h.sl.kp hk (fun g' e => by
    have e' : g' = g := by simp [Value.ownBlock] at e; omega
    rw [e']; exact hs)
  refine ⟨h.1, ?_⟩
  unfold Sl at h1
  rw [h.1] at h1
  exact h1

set_option maxRecDepth 100000 in
set_option maxHeartbeats 400000 in
theorem clone_any (A : Option Addr) (n c : Nat) (xs : List Int) (W : World) (hu : Rd W (.slice A n c) xs) (hn : xs.length = n) (hp : 0 < n) (hl : n ≤ 1000000) :
    Calls Tryd.prog 32 #[.slice A n c] W (Makes W xs) := by
  obtain ⟨A', c', hA, hr⟩ := id hu
  obtain ⟨g, o, hg, hc⟩ := hr 0 (by omega)
  have eA : A = A' := by injection hA
  subst eA
  subst hg
  have HU := Lib.hid hu
  have HN := Lib.hid hn
  have hv : Vn (.slice (some ⟨g, o, none⟩) n c) xs := fun h => by rw [h] at hn; simp at hn; omega
  have HVN := Lib.hid hv
  have hnil := fun w => Go.Lib.run_eql_slice_nil (P := Tryd.prog) w 22 3 (some ⟨g, o, none⟩) n c 0 0 Tryd.underlying22
  clear hu hn hA hr hc hv
  go_enter Tryd.func32, Tryd.ntmps32
  go_wp2_with (first | (at_builtin; refine wpList_app _ rfl (.tmp 5) (.tmp 6) rfl W.heap.size _ _ [] xs rfl rfl (Sl.empty W W.heap.size (Nat.le_refl _)) (HU.out.nw' ((Kp.refl Nw W).alloc _)) HVN.out (by have := HN.out; simp; omega) (by simp) ?_))
  intro v' w1 hs1 hk1 _
  have HS := Lib.hid hs1
  have HK := Lib.hid hk1
  clear hs1 hk1
  go_wp2
  go_ret
  exact ⟨_, rfl, HS.out, ((Kp.refl Nw W).alloc _).own (Sl.empty W W.heap.size (Nat.le_refl _)) HK.out⟩

end Go.Proofs.YtpajmgonceepoacDoor
