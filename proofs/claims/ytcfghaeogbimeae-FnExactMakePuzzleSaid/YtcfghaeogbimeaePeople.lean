/- A row of people (place and number) in memory: reading one, and the library's Delete of one of them; no condition but that the row has at most a thousand places. -/
import Derived.Test.YtcfghaeogbimeaeMake
import Derived.Test.YtcfghaeogbimeaeLow
import Derived.IntWalk
namespace Go.Proofs.Ytcfghaeogbimeae
open Go.ChangeShapes Go.WideShapes Go.ChangeAt Go.RowKit

/-- the cells of people -/
def flat : List (Int × Int) → List Value
  | [] => []
  | p :: r => .int .i64 p.1 :: .int .i64 p.2 :: flat r
theorem flat_length : ∀ ps : List (Int × Int), (flat ps).length = ps.length * 2
  | [] => rfl
  | _ :: r => by simp [flat, flat_length r]; omega
theorem flat_append : ∀ ps qs : List (Int × Int), flat (ps ++ qs) = flat ps ++ flat qs
  | [], _ => rfl
  | _ :: r, qs => by simp [flat, flat_append r qs]
theorem flat_take : ∀ (ps : List (Int × Int)) (n : Nat), flat (ps.take n) = (flat ps).take (n * 2)
  | [], n => by simp [flat]
  | p :: r, 0 => by simp [flat]
  | p :: r, n + 1 => by
    rw [List.take_succ_cons, flat, flat, flat_take r n, show (n + 1) * 2 = n * 2 + 1 + 1 by omega, List.take_succ_cons, List.take_succ_cons]
theorem flat_drop : ∀ (ps : List (Int × Int)) (n : Nat), flat (ps.drop n) = (flat ps).drop (n * 2)
  | [], n => by simp [flat]
  | p :: r, 0 => by simp [flat]
  | p :: r, n + 1 => by
    rw [List.drop_succ_cons, flat_drop r n, flat, show (n + 1) * 2 = n * 2 + 1 + 1 by omega, List.drop_succ_cons, List.drop_succ_cons]
theorem flat_get : ∀ (ps : List (Int × Int)) (j : Nat), j < ps.length → (flat ps)[j * 2]? = some (.int .i64 (ps.getD j (0, 0)).1) ∧ (flat ps)[j * 2 + 1]? = some (.int .i64 (ps.getD j (0, 0)).2)
  | [], j, h => by simp at h
  | p :: r, 0, _ => by simp [flat]
  | p :: r, j + 1, h => by
    have := flat_get r j (by simpa using h)
    rw [show (j + 1) * 2 = j * 2 + 1 + 1 by omega]
    simpa [flat] using this
theorem flat_one (ps : List (Int × Int)) : ∀ u ∈ flat ps, u.oneCell' = true := by
  induction ps with
  | nil => simp [flat]
  | cons p r ih =>
    intro u hu
    simp only [flat, List.mem_cons] at hu
    rcases hu with rfl | rfl | hu
    · rfl
    · rfl
    · exact ih u hu

/-- a row of people at the head of block L, with room for cap -/
def Ps (w : World) (L cap : Nat) (ps : List (Int × Int)) : Prop :=
  ∃ cur : Array Value, w.heap[L]? = some (.cells cur 87 (0, 0)) ∧ cur.size = cap * 2 ∧ ps.length ≤ cap ∧ cap ≤ 1000000 ∧ cur.toList.take (ps.length * 2) = flat ps

theorem Ps.lt {w : World} {L cap : Nat} {ps : List (Int × Int)} (h : Ps w L cap ps) : L < w.heap.size := by
  obtain ⟨cur, hc, _⟩ := h
  exact (Array.getElem?_eq_some_iff.1 hc).1
theorem Ps.kp {w w' : World} {L cap : Nat} {ps : List (Int × Int)} {S : Nat → Prop} (h : Ps w L cap ps) (hk : Kp S w w') (hs : ¬ S L) : Ps w' L cap ps := by
  have hl := h.lt
  obtain ⟨cur, hc, r⟩ := h
  exact ⟨cur, (hk.block L hl hs).trans hc, r⟩
theorem Ps.cell {w : World} {L cap : Nat} {ps : List (Int × Int)} (h : Ps w L cap ps) (j : Nat) (hj : j < ps.length) :
    w.cell? ⟨L, j * 2, none⟩ = some (.int .i64 (ps.getD j (0, 0)).1) ∧ w.cell? ⟨L, j * 2 + 1, none⟩ = some (.int .i64 (ps.getD j (0, 0)).2) := by
  obtain ⟨cur, hc, hs, hl, _, ht⟩ := h
  have hg := flat_get ps j hj
  rw [← ht, List.getElem?_take, if_pos (by omega), List.getElem?_take, if_pos (by omega)] at hg
  rw [cell_of_row w L _ cur _ (0, 0) hc, cell_of_row w L _ cur _ (0, 0) hc]
  simpa using hg
theorem Ps.frozen {w : World} {L cap : Nat} {ps : List (Int × Int)} (h : Ps w L cap ps) (j : Nat) : w.frozen? ⟨L, j, none⟩ = false := by
  obtain ⟨cur, hc, _⟩ := h
  simp [World.frozen?, hc]

theorem personSlice : Try.prog.underlying 79 = some (.slice 87) := Try.underlying79
theorem personInfo : (Try.prog.info? 87).map (fun i => (i.zero, i.size, i.bytes)) = some (some (.agg #[.int .i64 0, .int .i64 0]), 2, 16) := by kernel_rfl
theorem personZero (w : World) : (zeroValue 87).run Try.prog w = .ok (.agg #[.int .i64 0, .int .i64 0]) w := by kernel_rfl
theorem elemPeople : Try.prog.underlying 79 = some (.slice (Try.prog.elem 79)) := by kernel_rfl
theorem sizePeople (w : World) : (sizeOf (Try.prog.elem 79)).run Try.prog w = .ok 2 w := by kernel_rfl

/-- an address within or behind a row -/
theorem pcut_from (L n cap p : Nat) (h : p ≤ n) (hc : n ≤ cap) : ∃ Ad : Addr, (Ad = ⟨L, p * 2, none⟩ ∨ p = n) ∧
    ∀ w, (Instr.slice 79 (.slice (some ⟨L, 0, none⟩) n cap) (some (.int .i64 (p : Int))) none none).run Try.prog w = .ok (.slice (some Ad) (n - p) (cap - p)) w := by
  by_cases e : cap = p
  · refine ⟨⟨L, 0, none⟩, .inr (by omega), fun w => ?_⟩
    rw [run_slice_l _ _ _ _ _ elemPeople _ _ (by omega) (by omega), sizePeople]
    simp [sliced, Result.andThen, e]
  · refine ⟨⟨L, p * 2, none⟩, .inl rfl, fun w => ?_⟩
    rw [run_slice_l _ _ _ _ _ elemPeople _ _ (by omega) (by omega), sizePeople]
    simp [sliced, Result.andThen, e, addr_add]
theorem pcut_to (L n cap p : Nat) (h : p ≤ cap) (w : World) :
    (Instr.slice 79 (.slice (some ⟨L, 0, none⟩) n cap) none (some (.int .i64 (p : Int))) none).run Try.prog w = .ok (.slice (some ⟨L, 0, none⟩) p cap) w := by
  rw [run_slice_h _ _ _ _ _ elemPeople _ _ (by omega) (by omega), sizePeople]
  simp [sliced, Result.andThen, addr_add]

theorem pcut_mid (L m cap l h : Nat) (h1 : l ≤ h) (h2 : h ≤ cap) (h3 : l < cap) (w : World) :
    (Instr.slice 79 (.slice (some ⟨L, 0, none⟩) m cap) (some (.int .i64 (l : Int))) (some (.int .i64 (h : Int))) none).run Try.prog w = .ok (.slice (some ⟨L, l * 2, none⟩) (h - l) (cap - l)) w := by
  rw [run_slice_lh _ _ _ _ _ elemPeople _ _ _ _ (by omega) (by omega) (by omega), sizePeople]
  have e : ¬ cap = l := by omega
  simp [sliced, Result.andThen, e, addr_add]

theorem erase_parts (ps : List (Int × Int)) (i : Nat) : ps.eraseIdx i = ps.take i ++ ps.drop (i + 1) := List.eraseIdx_eq_take_drop_succ ..

/-- append(s[:i], s[i+1:]...) -/
theorem run_del (w : World) (ty : TypeId) (L cap i : Nat) (ps : List (Int × Int)) (hP : Ps w L cap ps) (hi : i < ps.length) (Ad : Addr) (c : Nat) (hA : Ad = ⟨L, (i + 1) * 2, none⟩ ∨ i + 1 = ps.length) :
    ∃ w', (Builtin.append_ #[79, 79] ty #[.slice (some ⟨L, 0, none⟩) i cap, .slice (some Ad) (ps.length - (i + 1)) c]).run Try.prog w = .ok (.slice (some ⟨L, 0, none⟩) (ps.length - 1) cap) w' ∧
      Ps w' L cap (ps.eraseIdx i) ∧ Kp (fun b => b = L) w w' := by
  obtain ⟨i0, hi0, hz0, hz1, hz2⟩ := info_parts personInfo
  obtain ⟨cur, hc, hs, hl, hm, ht⟩ := hP
  have hown : w.ownsRow 0 87 2 (.slice (some ⟨L, 0, none⟩) i cap) i (flat (ps.take i)) := by
    refine ⟨by rw [flat_length, List.length_take]; omega, .inr ⟨L, cap, cur, rfl, Nat.zero_le _, hc, by omega, by unfold maxLen; omega, hs, ?_⟩⟩
    rw [flat_take, ← ht, List.take_take, Nat.min_eq_left (by omega)]
  have hnews : ∀ j u, (flat (ps.drop (i + 1)))[j]? = some u → w.cell? (Ad.add j) = some u := by
    intro j u hu
    rcases hA with rfl | e
    · rw [addr_add, cell_of_row w L _ cur _ (0, 0) hc]
      rw [flat_drop, ← ht, List.getElem?_drop, List.getElem?_take] at hu
      split at hu
      · simpa using hu
      · cases hu
    · rw [e, List.drop_length] at hu
      simp [flat] at hu
  obtain ⟨w', hr, h2, h3⟩ := run_append_fits (P := Try.prog) w 0 79 ty 87 i0 2 personSlice hi0 hz1 L i cap _ hown Ad (ps.length - (i + 1)) c (flat (ps.drop (i + 1))) (by rw [flat_length, List.length_drop]) hnews (flat_one _) (by omega)
  have e : i + (ps.length - (i + 1)) = ps.length - 1 := by omega
  rw [e] at hr h2
  refine ⟨w', hr, ?_, ⟨h3.os, h3.tape, h3.output, h3.size, fun k hk hs => h3.block k hk (fun e => hs (by injection e))⟩⟩
  rcases h2.2 with ⟨h, _⟩ | ⟨g', cap', cur', h, _, hg', _, hcm', hcs', ht'⟩
  · simp at h
  · simp only [Value.slice.injEq, Option.some.injEq, Addr.mk.injEq, and_true, true_and] at h
    obtain ⟨rfl, rfl⟩ := h
    have el : (ps.eraseIdx i).length = ps.length - 1 := by rw [List.length_eraseIdx, if_pos hi]
    exact ⟨cur', hg', hcs', by omega, hm, by rw [el, ht', erase_parts, flat_append]⟩

/-- clear(s[n-1:n]) behind it -/
theorem run_clr (w : World) (ty : TypeId) (L cap n c : Nat) (ps : List (Int × Int)) (hP : Ps w L cap ps) (hn : ps.length + 1 = n) (hcap : n ≤ cap) :
    ∃ w', (Builtin.clear_ #[79] ty #[.slice (some ⟨L, ps.length * 2, none⟩) 1 c]).run Try.prog w = .ok (.tuple #[]) w' ∧ Ps w' L cap ps ∧ Kp (fun b => b = L) w w' := by
  obtain ⟨cur, hc, hs, hl, hm, ht⟩ := hP
  have hst := run_storeCells_at Try.prog L (ps.length * 2) 87 [.int .i64 0, .int .i64 0] 0 cur w hc (by simp; omega) (by simp [Value.oneCell'])
  simp only [Nat.add_zero] at hst
  refine ⟨w.setRow L (cur.toList.take (ps.length * 2) ++ [Value.int .i64 0, Value.int .i64 0] ++ cur.toList.drop (ps.length * 2 + 2)).toArray, ?_, ?_, ⟨rfl, rfl, rfl, by simp, fun k _ hk => setRow_other w L k _ (fun e => hk (by simp [e]))⟩⟩
  · have hzc : (Builtin.zeroCells (Value.agg #[.int .i64 0, .int .i64 0]).cells 1).toList = [.int .i64 0, .int .i64 0] := by kernel_rfl
    simp [Builtin.clear_, run_underlying personSlice, hzc, hst]
  · refine ⟨_, setRow_heap w L cur _ _ _ hc, ?_, hl, hm, ?_⟩
    · simp; omega
    · rw [ht]
      rw [← flat_length, List.append_assoc, List.toList_toArray, List.take_left]
end Go.Proofs.Ytcfghaeogbimeae
