/- The model's turn and order: what the functions of the model that copy a list, let one go and count all out return is told by plain lists; no condition but that the lists are at most a million long and the step is at least 1. -/
import Derived.Test.YtcfghaeogbimeaeMake
import Derived.IntWalk
namespace Go.Proofs.Ytcfghaeogbimeae
open Go.ChangeShapes Go.WideShapes Go.ChangeAt Go.RowKit

/-- where the one stands who goes -/
def place (k : Int) (n : Nat) : Nat := ((k - 1) % (n : Int)).toNat
theorem place_lt (k : Int) (n : Nat) (h : 0 < n) : place k n < n := by
  have h1 := Int.emod_nonneg (k - 1) (b := (n : Int)) (by omega)
  have h2 := Int.emod_lt_of_pos (k - 1) (b := (n : Int)) (by omega)
  unfold place; omega
theorem place_int (k : Int) (n : Nat) (h : 0 < n) : ((place k n : Nat) : Int) = (k - 1) % (n : Int) := by
  have h1 := Int.emod_nonneg (k - 1) (b := (n : Int)) (by omega)
  unfold place; omega
/-- who goes -/
def who (k : Int) (l : List Int) : Int := l.getD (place k l.length) 0
/-- who is left -/
def rest {α : Type} (k : Int) (l : List α) : List α := l.drop (place k l.length + 1) ++ l.take (place k l.length)
theorem rest_length {α : Type} (k : Int) (l : List α) (h : 0 < l.length) : (rest k l).length + 1 = l.length := by
  have := place_lt k l.length h
  simp [rest]; omega
/-- the first t turns' -/
def outs (k : Int) : Nat → List Int → List Int
  | 0, _ => []
  | t + 1, l => who k l :: outs k t (rest k l)
/-- those who are left behind t turns -/
def lefts {α : Type} (k : Int) : Nat → List α → List α
  | 0, l => l
  | t + 1, l => lefts k t (rest k l)

theorem Sl.vn {w : World} {B : Nat} {v : Value} {xs : List Int} (h : Sl w B v xs) : Vn v xs := by
  rintro rfl
  rcases h.form with ⟨rfl, _⟩ | ⟨g, cap, rfl, _⟩
  · exact .inl rfl
  · exact .inr ⟨_, cap, rfl⟩

theorem Sl.empty (w : World) (B : Nat) (hB : B ≤ w.heap.size) : Sl (w.alloc (.cells #[] 3)) B (.slice (some ⟨w.heap.size, 0, none⟩) 0 0) [] :=
  ⟨by simp, .inr ⟨w.heap.size, 0, #[], rfl, hB, heap_alloc_new w _, Nat.le_refl _, Nat.zero_le _, by simp, by simp⟩⟩

theorem Rd.nw' {w w' : World} {v : Value} {xs : List Int} (h : Rd w v xs) (hk : Kp Nw w w') : Rd w' v xs := by
  obtain ⟨A, c, rfl, hA⟩ := h
  refine ⟨A, c, rfl, fun k hlt => ?_⟩
  obtain ⟨g, o, rfl, hc⟩ := hA k hlt
  exact ⟨g, o, rfl, (hk.cell (World.block_lt_of_cell? w _ hc) (fun hs => hs)).trans hc⟩

set_option maxHeartbeats 400000 in
theorem l1Own_any (u : Value) (xs : List Int) (W : World) (hu : Rd W u xs) (hn : Vn u xs) (hl : xs.length ≤ 1000000) :
    Calls Try.prog 67 #[u] W (Makes W xs) := by
  have HU := Lib.hid hu
  have HN := Lib.hid hn
  obtain ⟨A, c, rfl, _⟩ := hu
  clear hn
  go_enter Try.func67, Try.ntmps67
  go_wp2_with (first | (at_builtin; refine wpList_app _ rfl (.tmp 3) (.tmp 4) rfl W.heap.size _ _ [] xs rfl rfl (Sl.empty W W.heap.size (Nat.le_refl _)) (HU.out.nw' ((Kp.refl Nw W).alloc _)) HN.out (by simp; omega) (by simp) ?_))
  intro v' w1 hs1 hk1 _
  have HS := Lib.hid hs1
  have HK := Lib.hid hk1
  clear hs1 hk1
  go_wp2
  go_ret
  exact ⟨_, rfl, HS.out, ((Kp.refl Nw W).alloc _).own (Sl.empty W W.heap.size (Nat.le_refl _)) HK.out⟩

/-- a slice at the head of its row, cut at its end -/
theorem SlAt.take {w : World} {B g cap n : Nat} {xs : List Int} (h : SlAt w B g cap n xs) (k : Nat) (hk : k ≤ n) : Rd w (.slice (some ⟨g, 0, none⟩) k cap) (xs.take k) := by
  have hl : (xs.take k).length = k := by have := h.1; simp; omega
  refine ⟨_, cap, by rw [hl], fun j hj => ⟨g, 0, rfl, ?_⟩⟩
  rw [hl] at hj
  rw [Nat.zero_add, h.cell j (by omega)]
  simp [List.getD, hj]
/-- a slice at the head of its row, cut at its beginning -/
theorem SlAt.drop {w : World} {B g cap n : Nat} {xs : List Int} (h : SlAt w B g cap n xs) (k : Nat) (hk : k ≤ n) (A : Addr) (c : Nat) (hA : A = ⟨g, k, none⟩ ∨ k = n) : Rd w (.slice (some A) (n - k) c) (xs.drop k) := by
  have hl : (xs.drop k).length = n - k := by have := h.1; simp; omega
  refine ⟨_, c, by rw [hl], fun j hj => ?_⟩
  rw [hl] at hj
  rcases hA with rfl | e
  · refine ⟨g, k, rfl, ?_⟩
    rw [h.cell (k + j) (by omega)]
    simp [List.getD, List.getElem?_drop]
  · omega

theorem SlAt.drop_vn {w : World} {B g cap n : Nat} {xs : List Int} (h : SlAt w B g cap n xs) (k : Nat) (A : Addr) (c : Nat) : Vn (.slice (some A) (n - k) c) (xs.drop k) := by
  intro he
  have hl := congrArg List.length he
  rw [List.length_drop, h.1] at hl
  exact .inr ⟨A, c, by rw [hl]; rfl⟩
theorem SlAt.take_vn {w : World} {B g cap n : Nat} {xs : List Int} (h : SlAt w B g cap n xs) (k : Nat) (hk : k ≤ n) (c : Nat) : Vn (.slice (some ⟨g, 0, none⟩) k c) (xs.take k) := by
  intro he
  have hl := congrArg List.length he
  rw [List.length_take, h.1, Nat.min_eq_left hk] at hl
  exact .inr ⟨_, c, by rw [hl]; rfl⟩

theorem Sl.at_ {w : World} {B : Nat} {v : Value} {xs : List Int} (h : Sl w B v xs) (hp : 0 < xs.length) : ∃ g cap, v = .slice (some ⟨g, 0, none⟩) xs.length cap ∧ SlAt w B g cap xs.length xs ∧ xs.length ≤ cap ∧ cap ≤ maxLen ∧ B ≤ g ∧ g < w.heap.size := by
  rcases h.2 with ⟨rfl, hn⟩ | ⟨g, cap, cur, rfl, hb, hg, h1, h2, _⟩
  · omega
  · exact ⟨g, cap, rfl, ⟨rfl, h⟩, h1, h2, hb, (Array.getElem?_eq_some_iff.1 hg).1⟩

theorem elemInts : Try.prog.underlying 46 = some (.slice (Try.prog.elem 46)) := by kernel_rfl
theorem sizeInts (w : World) : (sizeOf (Try.prog.elem 46)).run Try.prog w = .ok 1 w := by kernel_rfl
/-- a slice from an index on -/
theorem cut_from (g n cap p : Nat) (h : p ≤ n) (hc : n ≤ cap) : ∃ Ad : Addr, (Ad = ⟨g, p, none⟩ ∨ p = n) ∧
    ∀ w, (Instr.slice 46 (.slice (some ⟨g, 0, none⟩) n cap) (some (.int .i64 (p : Int))) none none).run Try.prog w = .ok (.slice (some Ad) (n - p) (cap - p)) w := by
  by_cases e : cap = p
  · refine ⟨⟨g, 0, none⟩, .inr (by omega), fun w => ?_⟩
    rw [run_slice_l _ _ _ _ _ elemInts _ _ (by omega) (by omega), sizeInts]
    simp [sliced, Result.andThen, e]
  · refine ⟨⟨g, p, none⟩, .inl rfl, fun w => ?_⟩
    rw [run_slice_l _ _ _ _ _ elemInts _ _ (by omega) (by omega), sizeInts]
    simp [sliced, Result.andThen, e, addr_add]
/-- a slice up to an index -/
theorem cut_to (g n cap p : Nat) (h : p ≤ cap) (w : World) :
    (Instr.slice 46 (.slice (some ⟨g, 0, none⟩) n cap) none (some (.int .i64 (p : Int))) none).run Try.prog w = .ok (.slice (some ⟨g, 0, none⟩) p cap) w := by
  rw [run_slice_h _ _ _ _ _ elemInts _ _ (by omega) (by omega), sizeInts]
  simp [sliced, Result.andThen, addr_add]
def TurnRes (W : World) (k : Int) (xs : List Int) (e : Ending) (w' : World) : Prop := ∃ v', e = .returned (.tuple #[.int .i64 (who k xs), v']) ∧ Sl w' W.heap.size v' (rest k xs) ∧ Kp Nw W w'

set_option maxRecDepth 100000 in
set_option maxHeartbeats 1600000 in
theorem ciTurn_any (v : Value) (k : Int) (xs : List Int) (B : Nat) (W : World) (hv : Sl W B v xs) (hp : 0 < xs.length) (hl : xs.length ≤ 1000000) (h1 : 1 ≤ k) (h2 : k ≤ 1000000) :
    Calls Try.prog 61 #[v, .int .i64 k] W (TurnRes W k xs) := by
  obtain ⟨g, cap, rfl, hs, hc1, hc2, hB, hg⟩ := hv.at_ hp
  have HS := Lib.hid hs
  obtain ⟨p, hpp⟩ : ∃ p, p = place k xs.length := ⟨_, rfl⟩
  have p1 : p < xs.length := by rw [hpp]; exact place_lt k xs.length hp
  have p2 : (k - 1) % (xs.length : Int) = (p : Int) := by rw [hpp]; exact (place_int k xs.length hp).symm
  have hpi : (p : Int) < xs.length := by omega
  have hp0 : (0 : Int) ≤ p := Int.natCast_nonneg _
  have HP := Lib.hid hpp
  have c := hs.cell _ p1
  obtain ⟨x, hx⟩ : ∃ x, xs.getD p 0 = x := ⟨_, rfl⟩
  rw [hx] at c
  have HX := Lib.hid hx
  have C := Lib.hid c
  clear hx
  unfold maxLen at hc2
  clear hs hv hpp
  have q1 : IntKind.i64.wrap ((p : Int) + 1) = (p : Int) + 1 := IntWalk.i64_in _ (by omega)
  have q2 : (0 : Int) ≤ (p : Int) + 1 := by omega
  have q3 : (p : Int) + 1 ≤ xs.length := by omega
  have q4 : ((p : Int) + 1).toNat = p + 1 := by omega
  have q5 : (p : Int) ≤ cap := by omega
  have q6 := cut_to g xs.length cap p (by omega)
  obtain ⟨Ad, had, q7⟩ := cut_from g xs.length cap (p + 1) (by omega) (by omega)
  rw [show ((p + 1 : Nat) : Int) = (p : Int) + 1 from rfl] at q7
  have AD := Lib.hid had
  clear had
  go_enter Try.func61, Try.ntmps61
  go_wp2_with fail
  go_region_held3 (fun w' => Kp Nw W w' ∧ w'.cell? ⟨g, p, none⟩ = some (.int .i64 x))
      (first
        | exact ⟨(Kp.refl _ _).drew, C.out⟩
        | exact ⟨hkW2, keepc hkW2 C.out (fun h => h)⟩
        | exact ⟨hkW1, keepc hkW1 C.out (fun h => h)⟩)
      (first
        | (go_at_call 67
           refine (l1Own_any _ (xs.drop (p + 1)) _ (Rd.nw' (HS.out.drop (p + 1) (by omega) _ _ AD.out) (‹Kp Nw W _ ∧ _›.1)) (HS.out.drop_vn _ _ _) (by simp; omega)).mono ?_
           rintro e w1 ⟨v1, rfl, hs1, hk1⟩
           have hkW1 := (‹Kp Nw W _ ∧ _›.1).nw hk1)
        | (refine step_app _ (by rfl) (.tmp 20) (.tmp 23) (by rfl) W.heap.size v1 _ (xs.drop (p + 1)) (xs.take p) (by rfl) (by rfl) hs1 (Rd.nw' (HS.out.take p (by omega)) hkW1) (HS.out.take_vn p (by omega) _) (by simp; omega) hkW1.size ?_
           intro v2 w2 hs2 hk2 _
           have hkW2 := hkW1.own hs1 hk2))
  have e1 := Lib.hid (show x = who k xs by rw [who, ← HP.out, HX.out])
  have e2 := Lib.hid (show xs.drop (p + 1) ++ xs.take p = rest k xs by rw [rest, ← HP.out])
  have HS2 := Lib.hid hs2
  have HK2 := Lib.hid hkW2
  clear hs2 hkW2 hkW1 hs1 hk1 hk2
  go_wp2
  go_ret2
  exact ⟨v2, by rw [← e1.out]; rfl, by rw [← e2.out]; exact HS2.out, HK2.out⟩

def lenOf : Value → Nat | .slice _ n _ => n | _ => 0

theorem outs_succ (k : Int) (t : Nat) (l : List Int) : outs k (t + 1) l = who k l :: outs k t (rest k l) := rfl

set_option maxHeartbeats 1600000 in
theorem ciOrder_any (v : Value) (k : Int) (xs : List Int) (B : Nat) (W : World) (hv : Sl W B v xs) (hl : xs.length ≤ 1000000) (h1 : 1 ≤ k) (h2 : k ≤ 1000000) :
    Calls Try.prog 53 #[v, .int .i64 k] W (Makes W (outs k xs.length xs)) := by
  have HV := Lib.hid (hv.from (Nat.zero_le _))
  clear hv
  go_enter Try.func53, Try.ntmps53
  go_wp2
  go_loopw [0, 5] (fun s o wr => ∃ (u r : Value) (ys zs : List Int), u = s ∧ r = o ∧ ys.length ≤ xs.length ∧ zs.length + ys.length = xs.length ∧ zs ++ outs k ys.length ys = outs k xs.length xs ∧ Sl wr 0 u ys ∧ Sl wr W.heap.size r zs ∧ Kp Nw W wr) (fun s _ _ => lenOf s)
  case atStart => exact ⟨_, _, xs, [], rfl, rfl, Nat.le_refl _, by simp, rfl, HV.out, Sl.nil _ _, Kp.refl _ _⟩
  case round =>
    rename_i wr
    obtain ⟨u, r, ys, zs, rfl, rfl, hy, hz, ho, hu, hr, hk⟩ := hrel
    obtain ⟨m, hm⟩ : ∃ m, ys.length = m := ⟨_, rfl⟩
    obtain ⟨A, c, rfl⟩ := hu.val hm
    have HM := Lib.hid hm
    have HO := Lib.hid ho
    have HU := Lib.hid hu
    have HR := Lib.hid hr
    have HK := Lib.hid hk
    have hz' : zs.length + m ≤ 1000000 := by omega
    have HZ := Lib.hid hz
    clear hm ho hu hr hk hz
    by_cases hp : 0 < m
    · go_wp2_with fail
      refine (ciTurn_any _ k ys 0 wr HU.out (by rw [HM.out]; exact hp) (by rw [HM.out]; omega) h1 h2).mono ?_
      rintro e w1 ⟨v', rfl, hs', hk'⟩
      obtain ⟨A', c', rfl⟩ := hs'.val (n := m - 1) (by have := rest_length k ys (by rw [HM.out]; exact hp); have := HM.out; omega)
      have HS := Lib.hid hs'
      have HK' := Lib.hid hk'
      clear hs' hk'
      go_wp2_with (first | (at_builtin; refine wpList_app _ rfl (.tmp 17) (.tmp 19) rfl W.heap.size r _ zs [who k ys] rfl rfl ((HR.out.below HK'.out.below').below ((Kp.refl Nw w1).alloc _).below') (Rd.one (g := w1.heap.size) (by simp)) nil_one (by simp; omega) (by have := HK.out.size; have := HK'.out.size; simp; omega) ?_))
      intro r' w2 hs2 hk2 hat
      have HS2 := Lib.hid hs2
      have HK2 := Lib.hid (((HK.out.nw HK'.out).nw (.al _ _)).own ((HR.out.below HK'.out.below').below (Kp.al _ _).below') hk2)
      have HU2 := Lib.hid (((HS.out.below (Kp.al w1 _).below').kp hk2 (fun g a b => by have := (HS.out.own_ge g a).1; have := (HR.out.own_ge g b).2; omega)).from (Nat.zero_le _))
      clear hs2 hk2
      go_wp2
      go_roundw
      case rel =>
        have e := rest_length k ys (by rw [HM.out]; exact hp)
        have eo := HO.out
        have em := HM.out
        have ez := HZ.out
        refine ⟨_, r', rest k ys, zs ++ [who k ys], rfl, rfl, by omega, by simp; omega, ?_, HU2.out, by simpa using HS2.out, HK2.out⟩
        rw [← eo, show ys.length = (rest k ys).length + 1 by omega, outs_succ]
        simp
      case measure => simp [lenOf]; omega
    · have e : m = 0 := by omega
      subst e
      have e0 := List.eq_nil_of_length_eq_zero HM.out
      have R := HR.out
      rw [e0] at HO
      have eo := HO.out
      simp only [List.length_nil, outs, List.append_nil] at eo
      rw [eo] at R
      have R' := Lib.hid R
      clear e0 R eo
      go_wp2
      go_ret
      exact ⟨r, rfl, R'.out, HK.out⟩
end Go.Proofs.Ytcfghaeogbimeae
