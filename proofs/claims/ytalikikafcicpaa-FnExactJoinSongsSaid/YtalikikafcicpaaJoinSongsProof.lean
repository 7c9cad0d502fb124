/- The law of JoinSongs returns true at every two songs: the program and its model make the same song, in new memory, and the songs that are given read as before; no condition. -/
import Derived.Test.YtalikikafcicpaaRows
import Derived.WalkKit
import Derived.ProofKit
import Derived.OpenShut
import Derived.ChangeMaps5
import Derived.Test.YtalikikafcicpaaOpen
import Derived.Test.YtalikikafcicpaaLaws8J
import Derived.Test.YtalikikafcicpaaISongJ
namespace Go.Proofs.Ytalikikafcicpaa.fnExactJoinSongs
open Go.ChangeShapes Go.WideShapes Go.ChangeAt Go.RowKit Go.ChangeMaps
set_option linter.unusedVariables false

theorem own : ownKnob Try.prog.godebug = none := by kernel_rfl

set_option maxRecDepth 100000 in
theorem lifted (os : Os) (started : os.Started) (H : Type) (enc : TypeId × Value → H) :
    ReturnsInHanded {} Try.checked os 4 .any (Rows.fnExactJoinSongsSpec.pre6 enc Try.prog Try.f4 Rows.fnExactJoinSongsRow.domain false) (Rows.fnExactJoinSongsSpec.post enc Try.prog Try.f4 false true false false) := by
  refine returnsInHanded_of_change (C := Try.checked) own started (by kernel_rfl) Try.func4
    (ChangeSpec.witness6 (enc := enc) (C := Try.checked) false ⟨#[], #[.agg #[.slice none 0 0], .agg #[.slice none 0 0]], []⟩ 8 (by kernel_rfl) (by kernel_rfl) (by kernel_rfl) (by kernel_rfl)) ?_
  intro W base args ds gs before hval0 hW hcnd _
  have hval : ∀ (j : Nat) t v, Try.f4.params[j]? = some t → args[j]? = some v → Value.okWide Try.prog W .any base t v := hval0
  have hW' := hW
  obtain ⟨p, q, hA0, hV, rfl, hfz, hnd⟩ := hW
  have hA : DataW.TrodAll enc Try.prog W 0 (fun _ => true) true Try.f4.params.toList args.toList ds p := hA0
  rw [Try.params4] at hA hval
  obtain ⟨v0, vs0, d0, ds0, p0, q0, hargs, rfl, rfl, h0, r0⟩ := trodAll_cons hA
  obtain ⟨v1, vs1, d1, ds1, p1, q1, rfl, rfl, rfl, h1, r1⟩ := trodAll_cons r0
  obtain ⟨rfl, rfl, rfl⟩ := trodAll_nil r1
  obtain rfl : args = #[v0, v1] := by cases args; simp_all
  obtain ⟨rfl, rfl⟩ := trodVars_none hV
  have h0k := h0
  obtain ⟨A0, n0, c0, xs0, rfl, rd0, len0, max0⟩ := open_song (hval 0 24 v0 rfl rfl) h0
  have h1k := h1
  obtain ⟨A1, n1, c1, xs1, rfl, rd1, len1, max1⟩ := open_song (hval 1 24 v1 rfl rfl) h1
  clear hA0 hval0
  refine (show Calls _ _ _ W _ from (lawJoinSongs A0 n0 c0 xs0 A1 n1 c1 xs1 W rd0 len0 max0 rd1 len1 max1 (fun g B1 h B2 W hl hs ht => iJoinSongs_any g n0 B1 xs0 h n1 B2 xs1 W hs ht (by omega) (by omega)))).mono fun e W' ⟨he, hg⟩ => ?_
  subst he
  exact ⟨_, rfl, post_kept2 (pv := []) hW' (fun _ _ _ => (trodAll_cons_mk (shut_bool Try.underlying4 _) trodAll_mk0)) (trodAll_cons_mk (Below.trod laidOut (by kernel_rfl) (of_decide_eq_true (by kernel_rfl)) h0k hg.below' (fun x hx => by simpa using hW'.lt x (by simp [hx]))) (trodAll_cons_mk (Below.trod laidOut (by kernel_rfl) (of_decide_eq_true (by kernel_rfl)) h1k hg.below' (fun x hx => by simpa using hW'.lt x (by simp [hx]))) trodAll_mk0)) rfl hg⟩

theorem over : Rows.fnExactJoinSongsRow.holds Try.pinned (OpenSpec.ofChange Rows.fnExactJoinSongsSpec) :=
  OpenClaim.holds_of_wide 4 Try.f4 rfl rfl rfl rfl rfl rfl rfl ⟨rfl, rfl, rfl, rfl, rfl⟩ rfl rfl rfl rfl rfl (by kernel_rfl) Try.func4 (by kernel_rfl)
    (of_decide_eq_true (by kernel_rfl)) (by unfold Func.isWrapper; first | (rw [if_pos (by decide +kernel)]; kernel_rfl) | (rw [if_neg (by decide +kernel)]; exact ⟨rfl, rfl⟩))
    (fun os started H enc _ => (lifted os started H enc))

/-- the statement -/
theorem proved : Rows.FnExactJoinSongsSaid :=
  over
#print axioms proved
end Go.Proofs.Ytalikikafcicpaa.fnExactJoinSongs
