/- The program's fitting: the circles that fit some clues, in a row of hidden circles; how many they are; no condition but that the clues are clues and at most six. -/
import Derived.Test.YtcfghaeogbimeacMFi
import Derived.Test.YtcfghaeogbimeacMIn
namespace Go.Proofs.Ytcfghaeogbimeac
open Go.ChangeShapes Go.WideShapes Go.ChangeAt Go.RowKit

/-- hidden circles: people, step, the order's slice -/
abbrev Hd := Int × Int × Option Addr × Nat × Nat
def hsl (h : Hd) : Value := .slice h.2.2.1 h.2.2.2.1 h.2.2.2.2
def hv : List Hd → List Value
  | [] => []
  | h :: r => .int .i64 h.1 :: .int .i64 h.2.1 :: hsl h :: hv r
theorem hv_length : ∀ hs : List Hd, (hv hs).length = hs.length * 3
  | [] => rfl
  | _ :: r => by simp [hv, hv_length r]; omega
theorem hv_append : ∀ hs gs : List Hd, hv (hs ++ gs) = hv hs ++ hv gs
  | [], _ => rfl
  | _ :: r, gs => by simp [hv, hv_append r gs]
theorem hv_get : ∀ (hs : List Hd) (j : Nat), j < hs.length → (hv hs)[j * 3]? = some (.int .i64 (hs.getD j (0, 0, none, 0, 0)).1) ∧ (hv hs)[j * 3 + 1]? = some (.int .i64 (hs.getD j (0, 0, none, 0, 0)).2.1) ∧ (hv hs)[j * 3 + 2]? = some (hsl (hs.getD j (0, 0, none, 0, 0)))
  | [], j, h => by simp at h
  | p :: r, 0, _ => by simp [hv]
  | p :: r, j + 1, h => by
    have := hv_get r j (by simpa using h)
    rw [show (j + 1) * 3 = j * 3 + 1 + 1 + 1 by omega]
    simpa [hv] using this
/-- people and step of each -/
def two (h : Hd) : List Int := [h.1, h.2.1]
/-- a row of hidden circles of the call's own -/
def Hr (w : World) (B : Nat) (v : Value) (hs : List Hd) : Prop := w.ownsRow B 50 3 v hs.length (hv hs)
theorem Hr.nil (w : World) (B : Nat) : Hr w B (.slice none 0 0) [] := World.ownsRow_nil _ _ _ _
theorem Hr.own_ge {w : World} {B : Nat} {v : Value} {hs : List Hd} (h : Hr w B v hs) : ∀ g, v.ownBlock = some g → B ≤ g ∧ g < w.heap.size := World.ownsRow.lt h
theorem Hr.kp {w w' : World} {B : Nat} {v : Value} {hs : List Hd} {S : Nat → Prop} (h : Hr w B v hs) (hk : Kp S w w') (hn : ∀ g, v.ownBlock = some g → ¬ S g) : Hr w' B v hs := by
  refine ⟨h.1, ?_⟩
  rcases h.2 with hx | ⟨g, cap, cur, rfl, hb, hgg, rest⟩
  · exact .inl hx
  · exact .inr ⟨g, cap, cur, rfl, hb, (hk.block g (Array.getElem?_eq_some_iff.1 hgg).1 (hn g rfl)).trans hgg, rest⟩
theorem Hr.nw {w w' : World} {B : Nat} {v : Value} {hs : List Hd} (h : Hr w B v hs) (hk : Kp Nw w w') : Hr w' B v hs := h.kp hk (fun _ _ h => h)
theorem Hr.from {w : World} {B B' : Nat} {v : Value} {hs : List Hd} (h : Hr w B v hs) (hB : B' ≤ B) : Hr w B' v hs := by
  refine ⟨h.1, ?_⟩
  rcases h.2 with hn | ⟨g, cap, cur, rfl, hb, rest⟩
  · exact .inl hn
  · exact .inr ⟨g, cap, cur, rfl, by omega, rest⟩
theorem Hr.val {w : World} {B : Nat} {v : Value} {hs : List Hd} (h : Hr w B v hs) {n : Nat} (hn : hs.length = n) : ∃ A c, v = .slice A n c := by
  subst hn
  rcases h.2 with ⟨rfl, h0⟩ | ⟨g, cap, cur, rfl, _⟩
  · exact ⟨none, 0, by rw [h0]⟩
  · exact ⟨_, cap, rfl⟩
/-- reading one of them -/
theorem Hr.at3 {w : World} {B n c : Nat} {A : Option Addr} {hs : List Hd} (h : Hr w B (.slice A n c) hs) (hn : hs.length = n) (j : Nat) (hj : j < n) :
    ∃ g, A = some ⟨g, 0, none⟩ ∧ B ≤ g ∧ w.cell? ⟨g, j * 3, none⟩ = some (.int .i64 (hs.getD j (0, 0, none, 0, 0)).1) ∧ w.cell? ⟨g, j * 3 + 1, none⟩ = some (.int .i64 (hs.getD j (0, 0, none, 0, 0)).2.1) ∧ w.cell? ⟨g, j * 3 + 2, none⟩ = some (hsl (hs.getD j (0, 0, none, 0, 0))) := by
  have hl : j < hs.length := by omega
  obtain ⟨h0, h1, h2⟩ := hv_get hs j hl
  have hll := hv_length hs
  rcases h.2 with ⟨he, h0'⟩ | ⟨g, cap, cur, he, hb, rest⟩
  · omega
  · injection he with e1 e2 e3
    subst e1
    refine ⟨g, rfl, hb, ?_, ?_, ?_⟩
    · rw [World.ownsRow.cellAt (n := hs.length) (cap := c) (by rw [← hn] at h; exact h) (j * 3) (by omega)]; exact h0
    · rw [World.ownsRow.cellAt (n := hs.length) (cap := c) (by rw [← hn] at h; exact h) (j * 3 + 1) (by omega)]; exact h1
    · rw [World.ownsRow.cellAt (n := hs.length) (cap := c) (by rw [← hn] at h; exact h) (j * 3 + 2) (by omega)]; exact h2
theorem hidInfo : (Try.prog.info? 50).map (fun i => (i.zero, i.size, i.bytes)) = some (some (.agg #[.int .i64 0, .int .i64 0, .slice none 0 0]), 3, 40) := by kernel_rfl

set_option maxRecDepth 100000 in
theorem run_hid (w : World) (ty : TypeId) (B g : Nat) (v : Value) (hs : List Hd) (h : Hd) (hv1 : Hr w B v hs) (hc : w.cell? ⟨g, 0, none⟩ = some (.int .i64 h.1) ∧ w.cell? ⟨g, 1, none⟩ = some (.int .i64 h.2.1) ∧ w.cell? ⟨g, 2, none⟩ = some (hsl h))
    (hl : hs.length ≤ 1000000) (hB : B ≤ w.heap.size) :
    ∃ v' w', (Builtin.append_ #[51, 51] ty #[v, .slice (some ⟨g, 0, none⟩) 1 1]).run Try.prog w = .ok v' w' ∧ Hr w' B v' (hs ++ [h]) ∧ Kp (fun b => v.ownBlock = some b) w w' := by
  obtain ⟨i0, hi0, hz0, hz1, hz2⟩ := info_parts hidInfo
  obtain ⟨c0, c1, c2⟩ := hc
  obtain ⟨v', w', hr, h2, h3, _, h5⟩ := run_append_own_at (P := Try.prog) w B 51 ty 50 i0 _ 3 40 Try.underlying51 hi0 hz0 hz1 hz2 rfl (by omega) v hs.length _ hv1 ⟨g, 0, none⟩ 1 1 [.int .i64 h.1, .int .i64 h.2.1, hsl h] rfl
    (fun j u hj => by
      rw [addr_add, Nat.zero_add]
      rcases j with _ | _ | _ | j
      · simp at hj; subst hj; exact c0
      · simp at hj; subst hj; exact c1
      · simp at hj; subst hj; exact c2
      · simp at hj) (fun u hu => by simp at hu; rcases hu with rfl | rfl | rfl <;> rfl) (by unfold maxLen; omega) (by omega) hB
  refine ⟨v', w', hr, ?_, ⟨h3.os, h3.tape, h3.output, h3.size, fun k hk hs => h3.block k hk (fun e => hs e.symm)⟩⟩
  unfold Hr
  rw [List.length_append, hv_append]
  exact h2
theorem wpList_hid (w : World) {ops : Array Oper} {rest : List Oper} {o : Oper} {a : Act} {Q : Exit → Act → World → Prop} (hgd : o.guard = none) (s x : Operand)
    (ho : o.op = .call { callee := .builtin .append, args := #[s, x], argTypes := #[51, 51] })
    (B g : Nat) (v : Value) (hs : List Hd) (h : Hd) (hs0 : a.eval s = v) (hx : a.eval x = .slice (some ⟨g, 0, none⟩) 1 1) (hv1 : Hr w B v hs) (hc : w.cell? ⟨g, 0, none⟩ = some (.int .i64 h.1) ∧ w.cell? ⟨g, 1, none⟩ = some (.int .i64 h.2.1) ∧ w.cell? ⟨g, 2, none⟩ = some (hsl h))
    (hl : hs.length ≤ 1000000) (hB : B ≤ w.heap.size)
    (hK : ∀ v' w', Hr w' B v' (hs ++ [h]) → Kp (fun b => v.ownBlock = some b) w w' → wpList Try.prog ops Q rest (a.put o.dst v') w') : wpList Try.prog ops Q (o :: rest) a w :=
  wpList_plain hgd fun K hKK => by
    obtain ⟨v', w', hr, h2, h3⟩ := run_hid w o.type B g v hs h hv1 hc hl hB
    unfold Oper.wp execOp
    simp only [ho, resolve, invoke, builtin, Sem.run_bind, Sem.run_pure, Result.andThen_ok, List.map_toArray, List.map_cons, List.map_nil, hs0, hx, hr]
    exact hKK _ _ (hK v' w' h2 h3)

/-- what fitting returns -/
def FitB (W : World) (ps : List Cu) (e : Ending) (w' : World) : Prop := ∃ v hs, e = .returned v ∧ hs.map two = solA ps 10 ∧ Hr w' W.heap.size v hs ∧ Kp Nw W w'
set_option maxRecDepth 100000 in
set_option maxHeartbeats 12800000 in
theorem fitting_any (A : Option Addr) (m c : Nat) (ps : List Cu) (W : World) (hu : RdC W (.slice A m c) ps) (hn : ps.length = m) (hm : m ≤ 6) (hg : ps.all cluB = true) :
    Calls Try.prog 26 #[.slice A m c] W (FitB W ps) := by
  have HU := Lib.hid hu
  have HN := Lib.hid hn
  have HG := Lib.hid hg
  have m6 : m ≤ 1000000 := by omega
  clear hu hn hg
  go_enter Try.func26, Try.ntmps26
  go_wp2
  go_loopw [3, 4] (fun o i wy => ∃ (n : Nat) (v : Value) (hs : List Hd) (wr : World), n ≤ 10 ∧ i = .int .i64 ((n : Int) + 1) ∧ v = o ∧ wr = wy ∧ Hid (hs.map two = solA ps n) ∧ Hid (Hr wr W.heap.size v hs) ∧ Hid (Kp Nw W wr)) (fun _ i _ => 11 - (intOf i).toNat)
  case atStart => exact ⟨0, _, [], _, Nat.zero_le _, rfl, rfl, rfl, Lib.hid rfl, Lib.hid (Hr.nil _ _), Lib.hid (Kp.refl _ _)⟩
  case round =>
    obtain ⟨n, v, hs, wr, hn10, rfl, rfl, rfl, HM, HS, HK⟩ := hrel
    have n0 : (0 : Int) ≤ n := Int.natCast_nonneg _
    by_cases hlt : n < 10
    · have j1 : (n : Int) + 1 ≤ 10 := by omega
      go_wp2
      go_loopw [3, 5] (fun o i wy => ∃ (s : Nat) (v : Value) (hs : List Hd) (wz : World), s ≤ 12 ∧ i = .int .i64 ((s : Int) + 1) ∧ v = o ∧ wz = wy ∧ Hid (hs.map two = solA ps n ++ solN ps (n + 1) s) ∧ Hid (Hr wz W.heap.size v hs) ∧ Hid (Kp Nw W wz)) (fun _ i _ => 13 - (intOf i).toNat)
      case atStart => exact ⟨0, _, hs, _, Nat.zero_le _, rfl, rfl, rfl, Lib.hid (by simpa [solN] using HM.out), HS, HK⟩
      case round =>
        obtain ⟨s, v, hs, wz, hs12, rfl, rfl, rfl, HMM, HSS, HKZ⟩ := hrel
        have s0 : (0 : Int) ≤ s := Int.natCast_nonneg _
        by_cases hlt2 : s < 12
        · have j2 : (s : Int) + 1 ≤ 12 := by omega
          have j3 : (1 : Int) ≤ (s : Int) + 1 := by omega
          have HLL : Hid (hs.length ≤ 1000000) := Lib.hid (by
            have e : hs.length = (solA ps n ++ solN ps (n + 1) s).length := by rw [← HMM.out, List.length_map]
            have := solA_len ps n
            have := solN_len ps (n + 1) s
            rw [List.length_append] at e
            omega)
          have hzW : W.heap.size ≤ wz.heap.size := HKZ.out.size
          go_wp2_with fail
          refine (hiddenOf_s n ((s : Int) + 1) _ (by omega) j3 j2).mono ?_
          rintro e w1 ⟨A1, c1, rfl, hs1, hk1⟩
          have kb : Kp Nw w1 (w1.alloc (.cells #[.int .i64 ((n : Int) + 1), .int .i64 ((s : Int) + 1), .slice A1 (n + 1) c1] 50)) := .al _ _
          have HV1 := Lib.hid (OwnV.new w1 (.int .i64 ((n : Int) + 1)) (.int .i64 ((s : Int) + 1)) (.slice A1 (n + 1) c1) 50)
          have HK1 := Lib.hid ((HKZ.out.nw hk1).nw kb)
          have HS1 := Lib.hid ((HSS.out.nw hk1).nw kb)
          obtain ⟨b, hb⟩ : ∃ b, fitA ps (n + 1) ((s : Int) + 1) = b := ⟨_, rfl⟩
          have HF := Lib.hid (fitsAll_any ps n ((s : Int) + 1) A1 c1 A m c _ (hs1.rd.nw' kb) (by omega) j3 j2 (HU.out.nw HK1.out) HN.out m6 HG.out b hb)
          have HNX : Hid (hs.map two ++ (if b = true then [[(n : Int) + 1, (s : Int) + 1]] else []) = solA ps n ++ solN ps (n + 1) (s + 1)) := Lib.hid (by
            rw [HMM.out, solN, hb, List.append_assoc]
            push_cast
            rfl)
          clear hs1 hk1 hb kb
          go_wp2_with fail
          refine HF.out.mono ?_
          rintro e w2 ⟨rfl, hk2⟩
          have HK2 := Lib.hid (HK1.out.nw hk2)
          have HS2 := Lib.hid (HS1.out.nw hk2)
          have hv2 := HV1.out.kp hk2 (fun h => h)
          obtain ⟨⟨o0, o1, o2⟩, _⟩ := hv2
          have hz2 : W.heap.size ≤ w2.heap.size := HK2.out.size
          clear hk2
          cases b
          · go_wp2
            go_roundw
            case rel => exact ⟨s + 1, _, hs, _, by omega, by go_num, rfl, rfl, Lib.hid (by rw [← HNX.out]; simp), HS2, HK2⟩
            case measure => simp [intOf]; omega
          · have HV2 := Lib.hid (OwnV.new w2 (.int .i64 ((n : Int) + 1)) (.int .i64 ((s : Int) + 1)) (.slice A1 (n + 1) c1) 50)
            go_wp2_with (first | (at_builtin; refine wpList_hid _ rfl (.tmp 21) (.tmp 23) rfl W.heap.size w2.heap.size v hs ((n : Int) + 1, (s : Int) + 1, A1, n + 1, c1) rfl rfl (HS2.out.nw (.al _ _)) HV2.out.1 HLL.out (by simp; omega) ?_))
            intro v5 w5 hs5 hk5
            have hvb : ∀ b, v.ownBlock = some b → W.heap.size ≤ b := fun b hb => (HSS.out.own_ge b hb).1
            have HK5 := Lib.hid ((HK2.out.nw (.al _ _)).after hk5 (fun g hg e => by have := hvb g e; omega))
            have HS5 := Lib.hid hs5
            clear hs5 hk5 hvb
            go_wp2
            go_roundw
            case rel => exact ⟨s + 1, _, hs ++ [((n : Int) + 1, (s : Int) + 1, A1, n + 1, c1)], _, by omega, by go_num, rfl, rfl, Lib.hid (by rw [← HNX.out]; simp [two]), HS5, HK5⟩
            case measure => simp [intOf]; omega
        · have e : s = 12 := by omega
          subst e
          go_wp2
          go_roundw
          case rel => exact ⟨n + 1, _, hs, _, by omega, by go_num, rfl, rfl, Lib.hid (by rw [HMM.out, solA]), HSS, HKZ⟩
          case measure => simp [intOf]; omega
    · have e : n = 10 := by omega
      subst e
      go_wp2
      go_ret
      exact ⟨_, hs, rfl, HM.out, HS.out, HK.out⟩
theorem countFitting_any (A : Option Addr) (m c : Nat) (ps : List Cu) (W : World) (hu : RdC W (.slice A m c) ps) (hn : ps.length = m) (hm : m ≤ 6) (hg : ps.all cluB = true) :
    Calls Try.prog 34 #[.slice A m c] W fun e w' => e = .returned (.int .i64 ((solA ps 10).length : Int)) ∧ Kp Nw W w' := by
  have HF := Lib.hid (fitting_any A m c ps W hu hn hm hg)
  obtain ⟨q, hq⟩ : ∃ q, (solA ps 10).length = q := ⟨_, rfl⟩
  have HQ := Lib.hid hq
  rw [hq]
  clear hu hn hg hq
  go_enter Try.func34, Try.ntmps34
  go_wp2_with fail
  refine HF.out.mono ?_
  rintro e w1 ⟨v, hs, rfl, hm1, hr, hk⟩
  obtain ⟨A1, c1, rfl⟩ := hr.val (n := q) (by rw [← HQ.out, ← hm1, List.length_map])
  have HK := Lib.hid hk
  clear hk hr hm1
  go_wp2
  go_ret
  exact ⟨rfl, HK.out⟩
theorem areSolved_any (A : Option Addr) (m c : Nat) (ps : List Cu) (W : World) (hu : RdC W (.slice A m c) ps) (hn : ps.length = m) (hm : m ≤ 6) (hg : ps.all cluB = true) :
    Calls Try.prog 32 #[.slice A m c] W (BoolB W (decide ((solA ps 10).length = 1))) := by
  have HF := Lib.hid (countFitting_any A m c ps W hu hn hm hg)
  obtain ⟨q, hq⟩ : ∃ q, (solA ps 10).length = q := ⟨_, rfl⟩
  rw [hq] at HF ⊢
  clear hu hn hg hq
  go_enter Try.func32, Try.ntmps32
  go_wp2_with fail
  refine HF.out.mono ?_
  rintro e w1 ⟨rfl, hk⟩
  have HK := Lib.hid hk
  clear hk
  by_cases h : q = 1
  · subst h
    go_wp2
    go_ret
    exact ⟨rfl, HK.out⟩
  · have y1 : ¬ (q : Int) = 1 := by omega
    have y2 : ((q : Int) == 1) = false := by simpa using y1
    have HD : Hid (decide (q = 1) = false) := Lib.hid (decide_eq_false h)
    go_wp2
    go_ret
    exact ⟨by rw [HD.out] <;> rfl, HK.out⟩
end Go.Proofs.Ytcfghaeogbimeac
