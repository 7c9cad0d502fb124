/- The texts Pile, PileM, PileP, PileT, as one. -/
import Derived.Test.YtpajmgonceepoacDoorDeck
import Derived.Test.YtpajmgonceepoacDoorRot
import Derived.Test.YtpajmgonceepoacDoorLetGo
import Derived.Test.YtpajmgonceepoacDoorLaws
import Derived.Laws.CopyOwn
import Derived.Deep.MidRow
import Derived.Test.YtpajmgonceepoacDoorGive
import Derived.Laws.ResultCell
import Derived.Deep.WholeRow
import Derived.Test.YtpajmgonceepoacDoorDeckU
import Derived.Deep.LoopGhost
namespace Go.Proofs.YtpajmgonceepoacDoor
open Go.ChangeShapes Go.WideShapes Go.ChangeAt Go.RowKit

theorem Kp.setRow {S : Nat → Prop} {a w : World} (h : Kp S a w) {g : Nat} (hp : S g ∨ a.heap.size ≤ g) (cs : Array Value) : Kp S a (w.setRow g cs) :=
  ⟨h.os, h.tape, h.output, by simpa using h.size, fun i hi hs => (setRow_other w g i cs (by
    rintro rfl
    rcases hp with hp | hp
    · exact hs hp
    · omega)).trans (h.block i hi hs)⟩

/-- copy into a row that is known whole: what lies elsewhere is as it was -/
theorem wpList_copy_kp {P : Program} {w : World} {ops : Array Oper} {rest : List Oper} {o : Oper} {a : Act} {Q : Exit → Act → World → Prop} (hgd : o.guard = none) (d s : Operand) (dT sT : TypeId)
    (ho : o.op = .call { callee := .builtin .copy, args := #[d, s], argTypes := #[dT, sT] }) (elem : TypeId) (hu : P.underlying dT = some (.slice elem)) (hsz : (P.info? elem).map (·.size) = some 1)
    (dp sp : Option Addr) (dLen dCap sLen sCap : Nat) (hd : a.eval d = .slice dp dLen dCap) (hs : a.eval s = .slice sp sLen sCap)
    (g off : Nat) (cur : List Value) (t : TypeId) (hg : w.heap[g]? = some (.cells cur.toArray t (0, 0))) (cs : List Value) (hn : cs.length = Nat.min sLen dLen)
    (hpos : 0 < cs.length → dp = some ⟨g, off, none⟩ ∧ ∃ ad, sp = some ad ∧ ∀ j v, cs[j]? = some v → w.cell? (ad.add j) = some v)
    (hfit : off + cs.length ≤ cur.length) (h1 : ∀ v ∈ cs, v.oneCell' = true) (S : Nat → Prop) (w0 : World) (hb : Kp S w0 w) (hBg : S g ∨ w0.heap.size ≤ g)
    (h : ∀ w', Hid (w'.heap[g]? = some (.cells (splice cur off cs).toArray t (0, 0))) → Hid (Kp S w0 w') → wpList P ops Q rest (a.put o.dst (goInt cs.length)) w') :
    wpList P ops Q (o :: rest) a w := by
  by_cases h0 : cs.length = 0
  · obtain rfl : cs = [] := List.eq_nil_of_length_eq_zero h0
    refine wpList_copy_nothing hgd d s dT sT ho elem hu hsz dp sp dLen dCap sLen sCap hd hs (by simpa using hn.symm) ?_
    exact h w (show _ = _ by simpa [splice] using hg) hb
  · obtain ⟨rfl, ad, rfl, hsrc⟩ := hpos (by omega)
    refine wpList_copy_own hgd d s dT sT ho elem hu hsz g off dLen dCap ad sLen sCap hd hs cur.toArray t hg cs hn hsrc (by simpa using hfit) h1 ?_
    exact h _ (show _ = _ by simpa [splice] using setRow_heap w g _ _ t _ hg) (hb.setRow hBg _)

/-- the same as a step of a region that draws its order -/
theorem step_copy_kp {P : Program} {ops : Array Oper} {o : Oper} {a : Act} {w : World} {K : Act → World → Prop} {Q : Exit → Act → World → Prop} {E : Prop} (hgd : o.guard = none) (d s : Operand) (dT sT : TypeId)
    (ho : o.op = .call { callee := .builtin .copy, args := #[d, s], argTypes := #[dT, sT] }) (elem : TypeId) (hu : P.underlying dT = some (.slice elem)) (hsz : (P.info? elem).map (·.size) = some 1)
    (dp sp : Option Addr) (dLen dCap sLen sCap : Nat) (hd : a.eval d = .slice dp dLen dCap) (hs : a.eval s = .slice sp sLen sCap)
    (g off : Nat) (cur : List Value) (t : TypeId) (hg : w.heap[g]? = some (.cells cur.toArray t (0, 0))) (cs : List Value) (hn : cs.length = Nat.min sLen dLen)
    (hpos : 0 < cs.length → dp = some ⟨g, off, none⟩ ∧ ∃ ad, sp = some ad ∧ ∀ j v, cs[j]? = some v → w.cell? (ad.add j) = some v)
    (hfit : off + cs.length ≤ cur.length) (h1 : ∀ v ∈ cs, v.oneCell' = true) (S : Nat → Prop) (w0 : World) (hb : Kp S w0 w) (hBg : S g ∨ w0.heap.size ≤ g)
    (h : ∀ w', Hid (w'.heap[g]? = some (.cells (splice cur off cs).toArray t (0, 0))) → Hid (Kp S w0 w') → K (a.put o.dst (goInt cs.length)) w') :
    if Region.wanted o (yielded ops a.tmps) = true then Oper.wp P o a w K Q else E := by
  have hw : Region.wanted o (yielded ops a.tmps) = true := by simp [Region.wanted, hgd]
  rw [if_pos hw]
  by_cases h0 : cs.length = 0
  · obtain rfl : cs = [] := List.eq_nil_of_length_eq_zero h0
    have hrun := run_copy_none (P := P) w dT sT o.type elem dp sp dLen dCap sLen sCap hu hsz (by simpa using hn.symm)
    unfold Oper.wp
    simp [execOp, ho, resolve, invoke, builtin, hd, hs, hrun, Result.andThen]
    exact h w (show _ = _ by simpa [splice] using hg) hb
  · obtain ⟨rfl, ad, rfl, hsrc⟩ := hpos (by omega)
    have hrun := run_copy_row (P := P) w dT sT o.type elem g off dLen dCap ad sLen sCap cur.toArray t cs hu hsz hg hn hsrc (by simpa using hfit) h1
    unfold Oper.wp
    simp [execOp, ho, resolve, invoke, builtin, hd, hs, hrun, Result.andThen]
    exact h _ (show _ = _ by simpa [splice] using setRow_heap w g _ _ t _ hg) (hb.setRow hBg _)

/-- the cells of a pile: its places' numbers and how many of them are cards -/
def plc (c : List Int) (n : Nat) : List Value := c.map (Value.int .i64) ++ [.int .i64 (n : Int)]
theorem plc_length (c : List Int) (n : Nat) : (plc c n).length = c.length + 1 := by simp [plc]
theorem plc_splice (c : List Int) (n o : Nat) (vs : List Int) (h : o + vs.length ≤ c.length) : splice (plc c n) o (vs.map (Value.int .i64)) = plc (splice c o vs) n := by
  unfold splice plc
  rw [List.take_append_of_le_length (by simp; omega), List.drop_append_of_le_length (by simp; omega)]
  simp [List.map_take, List.map_drop]
theorem plc_set (c : List Int) (n i : Nat) (x : Int) (h : i < c.length) : (plc c n).toArray.setIfInBounds i (.int .i64 x) = (plc (c.set i x) n).toArray := by
  unfold plc
  rw [List.setIfInBounds_toArray, List.set_append_left _ _ (by simpa using h), List.map_set]
theorem plc_size (c : List Int) (n m : Nat) (h : c.length = 104) : (plc c n).toArray.setIfInBounds 104 (.int .i64 (m : Int)) = (plc c m).toArray := by
  unfold plc
  rw [List.setIfInBounds_toArray, List.set_append_right _ _ (by simp [h])]
  simp [h]
theorem plc_get (c : List Int) (n i : Nat) (h : i < c.length) : (plc c n)[i]? = some (.int .i64 (c.getD i 0)) := by
  unfold plc
  rw [List.getElem?_append_left (by simpa using h)]
  simp [List.getElem?_eq_getElem h]
theorem plc_last (c : List Int) (n : Nat) (h : c.length = 104) : (plc c n)[104]? = some (.int .i64 (n : Int)) := by
  unfold plc
  rw [List.getElem?_append_right (by simp [h])]
  simp [h]
theorem plc_one (c : List Int) (n : Nat) : (plc c n).toArray.all (·.oneCell') = true := all_oneCell_toArray (fun v hv => by
  unfold plc at hv
  rcases List.mem_append.1 hv with hv | hv
  · obtain ⟨x, _, rfl⟩ := List.mem_map.1 hv
    rfl
  · rw [List.mem_singleton.1 hv]; rfl)
theorem splice_length {α : Type} (L : List α) (off : Nat) (cs : List α) (h : off + cs.length ≤ L.length) : (splice L off cs).length = L.length := length_splice L off cs h

/-- the block of a pile, whole -/
def Pb (w : World) (b : Nat) (c : List Int) (n : Nat) : Prop := w.heap[b]? = some (.cells (plc c n).toArray 42 (0, 0))
theorem Pb.size {w : World} {b : Nat} {c : List Int} {n : Nat} (h : Pb w b c n) (hc : c.length = 104) : w.cell? ⟨b, 104, none⟩ = some (.int .i64 (n : Int)) := by
  rw [cell_of_row w b 104 _ _ _ h, List.getElem?_toArray]; exact plc_last c n hc
theorem Pb.cell {w : World} {b : Nat} {c : List Int} {n : Nat} (h : Pb w b c n) (i : Nat) (hi : i < c.length) : w.cell? ⟨b, i, none⟩ = some (.int .i64 (c.getD i 0)) := by
  rw [cell_of_row w b i _ _ _ h, List.getElem?_toArray]; exact plc_get c n i hi
theorem Pb.frozen {w : World} {b : Nat} {c : List Int} {n : Nat} (h : Pb w b c n) (i : Nat) : w.frozen? ⟨b, i, none⟩ = false := frozen_of_row w b i _ _ h
theorem Pb.lt {w : World} {b : Nat} {c : List Int} {n : Nat} (h : Pb w b c n) : b < w.heap.size := by
  by_cases hlt : b < w.heap.size
  · exact hlt
  · have hn : w.heap[b]? = none := by simp; omega
    rw [Pb, hn] at h
    cases h
theorem Pb.kp {w w' : World} {b : Nat} {c : List Int} {n : Nat} {S : Nat → Prop} (h : Pb w b c n) (hk : Kp S w w') (hs : ¬ S b) : Pb w' b c n := (hk.block b h.lt hs).trans h
theorem Pb.drew {w : World} {b : Nat} {c : List Int} {n : Nat} (h : Pb w b c n) : Pb w.drew b c n := h
theorem Pb.drewN {w : World} {b : Nat} {c : List Int} {n : Nat} (h : Pb w b c n) (k : Nat) : Pb (w.drewN k) b c n := h
theorem Pb.set {w : World} {b : Nat} {c : List Int} {n : Nat} (h : Pb w b c n) (i : Nat) (hi : i < c.length) (x : Int) : Pb (w.setCell ⟨b, i, none⟩ (.int .i64 x)) b (c.set i x) n := by
  have := heap_setCell_same w b i _ _ (.int .i64 x) h
  rw [plc_set c n i x hi] at this
  exact this
theorem Pb.resize {w : World} {b : Nat} {c : List Int} {n : Nat} (h : Pb w b c n) (hc : c.length = 104) (m : Nat) : Pb (w.setCell ⟨b, 104, none⟩ (.int .i64 (m : Int))) b c m := by
  have := heap_setCell_same w b 104 _ _ (.int .i64 (m : Int)) h
  rw [plc_size c n m hc] at this
  exact this
theorem Pb.other {w : World} {b : Nat} {c : List Int} {n : Nat} (h : Pb w b c n) (a : Addr) (hne : b ≠ a.block) (u : Value) : Pb (w.setCell a u) b c n := (heap_setCell_other w a b u hne).trans h
theorem Pb.new (w : World) (c : List Int) (n : Nat) : Pb (w.alloc (.cells (plc c n).toArray 42)) w.heap.size c n := heap_alloc_new w _

/-- a pile that reads as a list of cards -/
def Cds (c : List Int) (xs : List Int) : Prop := c.length = 104 ∧ xs.length ≤ 104 ∧ c.take xs.length = xs
def Pile (w : World) (b : Nat) (xs : List Int) : Prop := ∃ c, Cds c xs ∧ Pb w b c xs.length
def PileV (v : Value) (xs : List Int) : Prop := ∃ c, Cds c xs ∧ v = .agg (plc c xs.length).toArray
theorem Pile.kp {w w' : World} {b : Nat} {xs : List Int} {S : Nat → Prop} (h : Pile w b xs) (hk : Kp S w w') (hs : ¬ S b) : Pile w' b xs := by
  obtain ⟨c, hg, hb⟩ := h
  exact ⟨c, hg, hb.kp hk hs⟩
theorem Pile.lt {w : World} {b : Nat} {xs : List Int} (h : Pile w b xs) : b < w.heap.size := by
  obtain ⟨c, _, hb⟩ := h
  exact hb.lt
theorem Pile.drew {w : World} {b : Nat} {xs : List Int} (h : Pile w b xs) : Pile w.drew b xs := h
theorem Cds.get {c xs : List Int} (h : Cds c xs) (i : Nat) (hi : i < xs.length) : c.getD i 0 = xs.getD i 0 := by
  have h2 := h.2.2
  have : xs.getD i 0 = (c.take xs.length).getD i 0 := by rw [h2]
  rw [this]
  simp only [List.getD]
  rw [List.getElem?_take, if_pos hi]
theorem Cds.zero : Cds (List.replicate 104 0) [] := ⟨List.length_replicate, Nat.zero_le _, rfl⟩
/-- the cards of a list, laid over a pile's first places -/
theorem Cds.lay {c : List Int} (hc : c.length = 104) (xs : List Int) (h : xs.length ≤ 104) : Cds (splice c 0 xs) xs := by
  refine ⟨by rw [splice_length _ _ _ (by omega)]; exact hc, h, ?_⟩
  unfold splice
  simp
theorem Cds.take {c xs : List Int} (h : Cds c xs) (p : Nat) (hp : p < xs.length) : Cds (splice c p ((c.take xs.length).drop (p + 1))) (xs.eraseIdx p) := by
  obtain ⟨h1, h2, h3⟩ := h
  have hl : (xs.eraseIdx p).length = xs.length - 1 := List.length_eraseIdx_of_lt hp
  have hd : (xs.drop (p + 1)).length = xs.length - (p + 1) := List.length_drop
  rw [h3]
  refine ⟨by rw [splice_length _ _ _ (by omega)]; exact h1, by omega, ?_⟩
  unfold splice
  rw [hl, List.eraseIdx_eq_take_drop_succ, ← List.append_assoc]
  have e : c.take p = xs.take p := by
    rw [← h3, List.take_take, Nat.min_eq_left (by omega)]
  rw [e, List.take_append_of_le_length (by simp; omega), List.take_of_length_le (by simp; omega)]
theorem Cds.on {c xs : List Int} (h : Cds c xs) (x : Int) (hx : xs.length ≤ 103) : Cds ((splice c 1 (c.take xs.length)).set 0 x) (x :: xs) := by
  obtain ⟨h1, h2, h3⟩ := h
  rw [h3]
  refine ⟨by rw [List.length_set, splice_length _ _ _ (by omega)]; exact h1, by simp; omega, ?_⟩
  unfold splice
  rcases c with _ | ⟨a, c⟩
  · simp at h1
  · simp
theorem Cds.under {c xs : List Int} (h : Cds c xs) (x : Int) (hx : xs.length ≤ 103) : Cds (c.set xs.length x) (xs ++ [x]) := by
  obtain ⟨h1, h2, h3⟩ := h
  refine ⟨by rw [List.length_set]; exact h1, by simp; omega, ?_⟩
  rw [List.length_append, List.length_singleton, List.take_add_one, List.take_set_of_le (Nat.le_refl _), h3]
  simp [h1, show xs.length < 104 by omega]
/-- the first of a pile's places as a slice -/
theorem Pb.rd {w : World} {b : Nat} {c xs : List Int} {n : Nat} (h : Pb w b c n) (hg : Cds c xs) (cap : Nat) : Rd w (.slice (some ⟨b, 0, none⟩) xs.length cap) xs :=
  ⟨_, cap, rfl, fun k hk => ⟨b, 0, rfl, by rw [Nat.zero_add, ← hg.get k hk]; exact h.cell k (by have := hg.1; have := hg.2.1; omega)⟩⟩
end Go.Proofs.YtpajmgonceepoacDoor
namespace Go.Proofs.YtpajmgonceepoacDoor
open Go.ChangeShapes Go.WideShapes Go.ChangeAt Go.RowKit

theorem arr104 : Tryd.prog.underlying 40 = some (.array (Tryd.prog.arrayLen 40) (Tryd.prog.elem 40)) := by kernel_rfl
theorem len104 : Tryd.prog.arrayLen 40 = 104 := by kernel_rfl
theorem size104 (w : World) : (sizeOf (Tryd.prog.elem 40)).run Tryd.prog w = .ok 1 w := by kernel_rfl
/-- a slice of a pile's places, from one on -/
theorem acut_from (b p : Nat) (h : p ≤ 104) : ∃ Ad : Addr, (Ad = ⟨b, p, none⟩ ∨ p = 104) ∧
    ∀ w, (Instr.sliceAt 40 (.pointer (some ⟨b, 0, none⟩)) (some (.int .i64 (p : Int))) none none).run Tryd.prog w = .ok (.slice (some Ad) (104 - p) (104 - p)) w := by
  by_cases e : 104 = p
  · refine ⟨⟨b, 0, none⟩, .inr (by omega), fun w => ?_⟩
    rw [run_sliceAt_array_l _ _ _ arr104 _ _ (by omega) (by rw [len104]; omega), size104, len104]
    simp [slicedAt, Result.andThen, e]
  · refine ⟨⟨b, p, none⟩, .inl rfl, fun w => ?_⟩
    rw [run_sliceAt_array_l _ _ _ arr104 _ _ (by omega) (by rw [len104]; omega), size104, len104]
    simp [slicedAt, Result.andThen, e, addr_add]
theorem acut_to (b n : Nat) (h : n ≤ 104) (w : World) :
    (Instr.sliceAt 40 (.pointer (some ⟨b, 0, none⟩)) none (some (.int .i64 (n : Int))) none).run Tryd.prog w = .ok (.slice (some ⟨b, 0, none⟩) n 104) w := by
  rw [run_sliceAt_array_h _ _ _ arr104 _ _ (by omega) (by rw [len104]; omega), size104, len104]
  simp [slicedAt, Result.andThen, addr_add]
theorem acut_all (b : Nat) (w : World) :
    (Instr.sliceAt 40 (.pointer (some ⟨b, 0, none⟩)) none none none).run Tryd.prog w = .ok (.slice (some ⟨b, 0, none⟩) 104 104) w := by
  rw [run_sliceAt_array_all _ _ _ arr104, size104, len104]
  simp [slicedAt, Result.andThen, addr_add]
theorem acut_mid (b p n : Nat) (h : p ≤ n) (hn : n ≤ 104) : ∃ Ad : Addr, (Ad = ⟨b, p, none⟩ ∨ p = 104) ∧
    ∀ w, (Instr.sliceAt 40 (.pointer (some ⟨b, 0, none⟩)) (some (.int .i64 (p : Int))) (some (.int .i64 (n : Int))) none).run Tryd.prog w = .ok (.slice (some Ad) (n - p) (104 - p)) w := by
  by_cases e : 104 = p
  · refine ⟨⟨b, 0, none⟩, .inr (by omega), fun w => ?_⟩
    rw [run_sliceAt_array_lh _ _ _ arr104 _ _ _ _ (by omega) (by omega) (by rw [len104]; omega), size104, len104]
    simp [slicedAt, Result.andThen, e]
  · refine ⟨⟨b, p, none⟩, .inl rfl, fun w => ?_⟩
    rw [run_sliceAt_array_lh _ _ _ arr104 _ _ _ _ (by omega) (by omega) (by rw [len104]; omega), size104, len104]
    simp [slicedAt, Result.andThen, e, addr_add]

set_option maxRecDepth 100000 in
set_option maxHeartbeats 1600000 in
theorem putUnder_any (b : Nat) (xs : List Int) (x : Int) (W : World) (hp : Pile W b xs) (hl : xs.length ≤ 103) :
    Calls Tryd.prog 38 #[.pointer (some ⟨b, 0, none⟩), .int .i64 x] W fun e w' => e = .returned (.tuple #[]) ∧ Pile w' b (xs ++ [x]) ∧ Kp (fun g => g = b) W w' := by
  obtain ⟨c, hg, hb⟩ := hp
  obtain ⟨n, hn⟩ : ∃ n, xs.length = n := ⟨_, rfl⟩
  rw [hn] at hb hl
  have hc := hg.1
  have s0 := hb.size hc
  have s1 := hb.cell n (by omega)
  have f0 := hb.frozen 104
  have f1 := hb.frozen n
  have n0 : (0 : Int) ≤ n := Int.natCast_nonneg _
  have n1 : (n : Int) < 104 := by omega
  have w1 : IntKind.i64.wrap ((n : Int) + 1) = ((n + 1 : Nat) : Int) := by rw [IntWalk.i64_in _ (by omega)]; omega
  have hk1 := Lib.hid ((((Kp.refl (fun g => g = b) W).setCell (p := ⟨b, n, none⟩) (.inl rfl) (.int .i64 x)).setCell (p := ⟨b, 104, none⟩) (.inl rfl) (.int .i64 ((n + 1 : Nat) : Int))).drew)
  have hb1 := Lib.hid ((hb.set n (by omega) x).resize (by rw [List.length_set]; exact hc) (n + 1)).drew
  have HG1 : Hid (Cds (c.set n x) (xs ++ [x])) := Lib.hid (by rw [← hn]; exact hg.under x (by omega))
  have EL : Hid ((xs ++ [x]).length = n + 1) := Lib.hid (by simp [hn])
  have hne : (⟨b, n, none⟩ : Addr) ≠ ⟨b, 104, none⟩ := fun e => by injection e with _ e; omega
  clear hg hb hc hn
  go_enter Tryd.func38, Tryd.ntmps38
  go_wp2
  go_region
  all_goals go_wp2
  all_goals
    go_end0
    exact ⟨rfl, ⟨_, HG1.out, by rw [EL.out]; exact hb1.out⟩, hk1.out⟩

set_option maxRecDepth 100000 in
set_option maxHeartbeats 3200000 in
theorem take_any (b p : Nat) (xs : List Int) (W : World) (hp : Pile W b xs) (hl : p < xs.length) :
    Calls Tryd.prog 39 #[.pointer (some ⟨b, 0, none⟩), .int .i64 p] W fun e w' => e = .returned (.int .i64 (xs.getD p 0)) ∧ Pile w' b (xs.eraseIdx p) ∧ Kp (fun g => g = b) W w' := by
  obtain ⟨c, hg, hb⟩ := hp
  obtain ⟨n, hn⟩ : ∃ n, xs.length = n := ⟨_, rfl⟩
  have hn4 := hg.2.1
  rw [hn] at hb hl hn4
  have hc := hg.1
  have s0 := hb.size hc
  have s1 := hb.cell p (by omega)
  rw [hg.get p (by omega)] at s1
  obtain ⟨x, hx⟩ : ∃ x, xs.getD p 0 = x := ⟨_, rfl⟩
  rw [hx] at s1 ⊢
  have f0 := hb.frozen 104
  have n0 : (0 : Int) ≤ n := Int.natCast_nonneg _
  have p0 : (0 : Int) ≤ p := Int.natCast_nonneg _
  have n1 : (n : Int) ≤ 104 := by omega
  have p1 : (p : Int) < n := by omega
  have p2 : (p : Int) < 104 := by omega
  have q1 : IntKind.i64.wrap ((p : Int) + 1) = ((p + 1 : Nat) : Int) := by rw [IntWalk.i64_in _ (by omega)]; omega
  have q2 : IntKind.i64.wrap ((n : Int) - 1) = ((n - 1 : Nat) : Int) := by rw [IntWalk.i64_in _ (by omega)]; omega
  obtain ⟨A1, a1, r1⟩ := acut_from b p (by omega)
  obtain ⟨A2, a2, r2'⟩ := acut_mid b (p + 1) n (by omega) (by omega)
  have r2 : ∀ w, (Instr.sliceAt 40 (.pointer (some ⟨b, 0, none⟩)) (some (.int .i64 ((p : Int) + 1))) (some (.int .i64 (n : Int))) none).run Tryd.prog w = .ok (.slice (some A2) (n - (p + 1)) (104 - (p + 1))) w := r2'
  clear r2'
  have e1 : A1 = ⟨b, p, none⟩ := by
    rcases a1 with h | h
    · exact h
    · omega
  subst e1
  clear a1
  obtain ⟨X, hX⟩ : ∃ X, X = (c.take n).drop (p + 1) := ⟨_, rfl⟩
  obtain ⟨cs, hcs⟩ : ∃ cs, cs = X.map (Value.int .i64) := ⟨_, rfl⟩
  have hXl : X.length = n - (p + 1) := by rw [hX, List.length_drop, List.length_take]; omega
  have hcl : cs.length = n - (p + 1) := by rw [hcs, List.length_map, hXl]
  have HM : Hid (cs.length = Nat.min (n - (p + 1)) (104 - p)) := Lib.hid (by rw [hcl]; simp [Nat.min_def]; omega)
  have HP : Hid (0 < cs.length → ∃ ad, some A2 = some ad ∧ ∀ j v, cs[j]? = some v → W.drew.cell? (ad.add j) = some v) := Lib.hid (fun h0 => ⟨A2, rfl, fun j v hj => by
    have e2 : A2 = ⟨b, p + 1, none⟩ := by
      rcases a2 with h | h
      · exact h
      · omega
    subst e2
    have hj' : j < cs.length := (List.getElem?_eq_some_iff.1 hj).1
    rw [addr_add]
    show W.cell? ⟨b, p + 1 + j, none⟩ = _
    rw [hb.cell (p + 1 + j) (by omega), ← hj, hcs, List.getElem?_map, hX, List.getElem?_drop, List.getElem?_take, if_pos (by omega), List.getElem?_eq_getElem (by omega)]
    simp [List.getElem?_eq_getElem (show p + 1 + j < c.length by omega)]⟩)
  have HF : Hid (p + cs.length ≤ (plc c n).length) := Lib.hid (by rw [plc_length, hcl]; omega)
  have H1 : Hid (∀ v ∈ cs, v.oneCell' = true) := Lib.hid (fun v hv => by
    rw [hcs] at hv
    obtain ⟨x, _, rfl⟩ := List.mem_map.1 hv
    rfl)
  have HS : Hid (splice (plc c n) p cs = plc (splice c p X) n) := Lib.hid (by rw [hcs]; exact plc_splice c n p X (by omega))
  have HG1 : Hid (Cds (splice c p X) (xs.eraseIdx p)) := Lib.hid (by rw [hX, ← hn]; exact hg.take p (by omega))
  have EL : Hid ((xs.eraseIdx p).length = n - 1) := Lib.hid (by rw [List.length_eraseIdx_of_lt (by omega), hn])
  have CL : Hid ((splice c p X).length = 104) := Lib.hid HG1.out.1
  have HB := Lib.hid hb
  have HK0 : Hid (Kp (fun g => g = b) W W.drew) := Lib.hid (Kp.refl _ W).drew
  have hsz : (Tryd.prog.info? 3).map (·.size) = some 1 := by kernel_rfl
  clear hg hb hc hn hX hcs hXl hcl a2 hx
  go_enter Tryd.func39, Tryd.ntmps39
  go_wp2
  go_region_law (refine step_copy_kp rfl (.tmp 16) (.tmp 26) 22 22 rfl 3 Tryd.underlying22 hsz (some ⟨b, p, none⟩) (some A2) (104 - p) (104 - p) (n - (p + 1)) (104 - (p + 1)) (by simp [Act.eval, Act.put]) (by simp [Act.eval, Act.put]) b p (plc c n) 42 HB.out cs HM.out (fun h => ⟨rfl, HP.out h⟩) HF.out H1.out (fun g => g = b) W HK0.out (.inl rfl) ?_; intro w4 hg4 hk4)
  have hb4 : Pb w4 b (splice c p X) n := by
    have h := hg4.out
    rw [HS.out] at h
    exact h
  have t0 := hb4.size CL.out
  have t1 := hb4.frozen 104
  have hk5 := Lib.hid (hk4.out.setCell (p := ⟨b, 104, none⟩) (.inl rfl) (.int .i64 ((n - 1 : Nat) : Int)))
  have hb5 := Lib.hid (hb4.resize CL.out (n - 1))
  clear hb4 hg4 hk4
  go_wp2
  go_ret
  exact ⟨rfl, ⟨_, HG1.out, by rw [EL.out]; exact hb5.out⟩, hk5.out⟩

set_option maxRecDepth 100000 in
set_option maxHeartbeats 1600000 in
theorem list_any (b : Nat) (xs : List Int) (W : World) (hp : Pile W b xs) (hl : 1 ≤ xs.length) :
    Calls Tryd.prog 25 #[.pointer (some ⟨b, 0, none⟩)] W (Makes W xs) := by
  obtain ⟨c, hg, hb⟩ := hp
  obtain ⟨n, hn⟩ : ∃ n, xs.length = n := ⟨_, rfl⟩
  have hn4 := hg.2.1
  have hr := Lib.hid (hb.rd hg 104)
  rw [hn] at hb hl hn4 hr
  have S0 := Lib.hid (hb.size hg.1)
  have HN := Lib.hid hn
  have n0 : (0 : Int) ≤ n := Int.natCast_nonneg _
  have n1 : (n : Int) ≤ 104 := by omega
  have r2 := acut_to b n (by omega)
  have HK0 : Hid (Kp Nw W W.drew) := Lib.hid (Kp.refl _ W).drew
  clear hg hb hn
  go_enter Tryd.func25, Tryd.ntmps25
  go_wp2_with fail
  go_region_held3 (fun w' => Kp Nw W w' ∧ w'.cell? ⟨b, 104, none⟩ = some (.int .i64 n))
    (first
      | exact ⟨HK0.out, S0.out⟩
      | exact ⟨hkW1, keepc hkW1 S0.out (fun h => h)⟩
      | fail)
    (first
      | (go_at_call 32
         refine (clone_any (some ⟨b, 0, none⟩) n 104 xs _ (hr.out.nw (‹Kp Nw _ _ ∧ _›.1)) HN.out hl (by omega)).mono ?_
         rintro e w1 ⟨v, rfl, hs1, hk1⟩
         have hkW0 := (‹Kp Nw _ _ ∧ _›.1).size
         have hkW1 := (‹Kp Nw _ _ ∧ _›.1).nw hk1)
      | fail)
  have HS := Lib.hid (hs1.from hkW0)
  have HK := Lib.hid hkW1
  clear hs1 hk1 hkW1 hkW0
  go_wp2
  go_ret
  exact ⟨_, rfl, HS.out, HK.out⟩
end Go.Proofs.YtpajmgonceepoacDoor
namespace Go.Proofs.YtpajmgonceepoacDoor
open Go.ChangeShapes Go.WideShapes Go.ChangeAt Go.RowKit

theorem pileSize : (Tryd.prog.info? 42).map (·.size) = some 105 := by kernel_rfl
theorem pileZero : (Tryd.prog.info? 42).map (fun i => (i.zero, i.size)) = some (some (.agg (plc (List.replicate 104 0) 0).toArray), 105) := by kernel_rfl
theorem pileBuilt (n : Nat) : Tryd.prog.built 42 [(1, .int .i64 (n : Int))] = some (plc (List.replicate 104 0) n).toArray := by kernel_rfl

/-- the whole pile out of its block -/
theorem run_load_pile {w : World} {b : Nat} {c : List Int} {n : Nat} (hb : Pb w b c n) (hc : c.length = 104) : (loadVar 42 ⟨b, 0, none⟩).run Tryd.prog w = .ok (.agg (plc c n).toArray) w := by
  exact run_loadVar_row w b _ _ _ _ _ hb Tryd.underlying42 rfl (by rw [pileSize]; simp [plc, hc])
theorem wp_load_pile {op : Oper} {a : Act} {w : World} {K : Act → World → Prop} {Q : Exit → Act → World → Prop} (x : Operand) (ho : op.op = .load 42 x)
    (b : Nat) (hx : a.eval x = .pointer (some ⟨b, 0, none⟩)) (c : List Int) (n : Nat) (hb : Pb w b c n) (hc : c.length = 104)
    (h : K (a.put op.dst (.agg (plc c n).toArray)) w) : op.wp Tryd.prog a w K Q := by
  unfold Oper.wp execOp
  simp only [ho, hx, Instr.loadAt, Instr.sureAddr, Sem.run_bind, Sem.run_pure, Result.andThen_ok, run_load_pile hb hc]
  exact h
/-- the same as the walk leaves them -/
theorem run_loadCells_pile {w : World} {b : Nat} {c : List Int} {n : Nat} (hb : Pb w b c n) (hc : c.length = 104) : (loadCellsFrom ⟨b, 0, none⟩ 0 105 #[]).run Tryd.prog w = .ok (plc c n).toArray w := by
  have := run_loadCells_list (P := Tryd.prog) w ⟨b, 0, none⟩ (plc c n) (fun j v hv => by
    rw [addr_add]
    show w.cell? ⟨b, 0 + j, none⟩ = _
    rw [Nat.zero_add, cell_of_row w b j _ _ _ hb, List.getElem?_toArray]
    exact hv)
  rw [plc_length, hc] at this
  exact this
theorem run_storeCells_pile {w : World} {b : Nat} {c c' : List Int} {n n' : Nat} (hb : Pb w b c n) (hc : c.length = 104) (hc' : c'.length = 104) : (storeCells ⟨b, 0, none⟩ (plc c' n') 0).run Tryd.prog w = .ok () (w.setRow b (plc c' n').toArray) := by
  have := run_storeCells_from (P := Tryd.prog) b 42 (plc c' n') 0 (plc c n).toArray w hb (by simp [plc, hc, hc']) (fun v hv => (Array.all_eq_true_iff_forall_mem.1 (plc_one c' n')) v (by simpa using hv))
  simpa using this
theorem plc_resize (c : List Int) (n m : Nat) (h : c.length = 104) : (plc c n).set 104 (.int .i64 (m : Int)) = plc c m := by
  unfold plc
  rw [List.set_append_right _ _ (by simp [h])]
  simp [h]
/-- a pile as a function's one result -/
theorem ret_pile {fn : Func} {p : Tmp} (h : fn.results = #[.cell p 42]) {a : Act} {w : World} {b : Nat} {c : List Int} {n : Nat} (hp : a.tmps.getD p undef = .pointer (some ⟨b, 0, none⟩)) (hb : Pb w b c n) (hc : c.length = 104) :
    (results fn a.tmps).run Tryd.prog w = .ok (.agg (plc c n).toArray) w :=
  results_cell_row h a.tmps w b _ _ _ _ hp hb Tryd.underlying42 rfl (by rw [pileSize]; simp [plc, hc])
def MakesP (W : World) (xs : List Int) (e : Ending) (w' : World) : Prop := ∃ v, e = .returned v ∧ PileV v xs ∧ Kp Nw W w'

set_option maxRecDepth 100000 in
set_option maxHeartbeats 1600000 in
theorem pileOf_any (A : Option Addr) (n c : Nat) (xs : List Int) (W : World) (hu : Rd W (.slice A n c) xs) (hn : xs.length = n) (hl : n ≤ 104) :
    Calls Tryd.prog 24 #[.slice A n c] W (MakesP W xs) := by
  obtain ⟨hz0, _⟩ := zero_of_info pileZero
  obtain ⟨Z, hZ⟩ : ∃ Z : List Int, Z = List.replicate 104 0 := ⟨_, rfl⟩
  have hZl : Z.length = 104 := by rw [hZ, List.length_replicate]
  have hz : ∀ w, (zeroValue 42).run Tryd.prog w = .ok (.agg (plc Z 0).toArray) w := by rw [hZ]; exact hz0
  have hl1 : (plc Z 0).length = 105 := by rw [plc_length, hZl]
  have hl2 : (plc Z n).length = 105 := by rw [plc_length, hZl]
  have hse := plc_resize Z 0 n hZl
  have b0 : Pb ((W.alloc (.cells (plc Z 0).toArray 42)).alloc (.cells (plc Z 0).toArray 42)) (W.heap.size + 1) Z 0 := by
    have h := Pb.new (W.alloc (.cells (plc Z 0).toArray 42)) Z 0
    rw [World.size_alloc] at h
    exact h
  have hs1 := run_storeCells_pile (n' := n) b0 hZl hZl
  have HZ := Lib.hid hZ
  have HZL := Lib.hid hZl
  have B1 : Hid (Pb (((W.alloc (.cells (plc Z 0).toArray 42)).alloc (.cells (plc Z 0).toArray 42)).setRow (W.heap.size + 1) (plc Z n).toArray) (W.heap.size + 1) Z n) := Lib.hid (setRow_heap _ _ _ _ _ _ b0)
  have B2 : Hid (Pb (((W.alloc (.cells (plc Z 0).toArray 42)).alloc (.cells (plc Z 0).toArray 42)).setRow (W.heap.size + 1) (plc Z n).toArray) W.heap.size Z 0) := Lib.hid ((setRow_other _ _ _ _ (by omega)).trans ((Pb.new W Z 0).kp (.al _ (.cells (plc Z 0).toArray 42)) (fun h => h)))
  have K2 : Hid (Kp Nw W (((W.alloc (.cells (plc Z 0).toArray 42)).alloc (.cells (plc Z 0).toArray 42)).setRow (W.heap.size + 1) (plc Z n).toArray)) := Lib.hid (((Kp.al W _).alloc _).setRow (.inr (by omega)) _)
  have HU := Lib.hid hu
  have HN := Lib.hid hn
  have r1 := acut_all (W.heap.size + 1)
  obtain ⟨cs, hcs⟩ : ∃ cs, cs = xs.map (Value.int .i64) := ⟨_, rfl⟩
  have hcl : cs.length = n := by rw [hcs, List.length_map, hn]
  have HM : Hid (cs.length = Nat.min n 104) := Lib.hid (by rw [hcl]; simp [Nat.min_def]; omega)
  have HP : Hid (0 < cs.length → ∃ ad, A = some ad ∧ ∀ j v, cs[j]? = some v → W.cell? (ad.add j) = some v) := Lib.hid (fun h0 => by
    obtain ⟨A', c', hAc, hA⟩ := hu
    have eA : A = A' := by injection hAc
    subst eA
    obtain ⟨g, o, rfl, _⟩ := hA 0 (by omega)
    refine ⟨_, rfl, fun j v hj => ?_⟩
    have hj' : j < cs.length := (List.getElem?_eq_some_iff.1 hj).1
    obtain ⟨g', o', e, hc⟩ := hA j (by omega)
    injection e with e
    injection e with e1 e2
    subst e1 e2
    rw [addr_add, hc, ← hj, hcs, List.getElem?_map, List.getElem?_eq_getElem (by omega)]
    simp [List.getElem?_eq_getElem (show j < xs.length by omega)])
  have HP2 : Hid (0 < cs.length → ∃ ad, A = some ad ∧ ∀ j v, cs[j]? = some v → (((W.alloc (.cells (plc Z 0).toArray 42)).alloc (.cells (plc Z 0).toArray 42)).setRow (W.heap.size + 1) (plc Z n).toArray).cell? (ad.add j) = some v) := Lib.hid (fun h => by
    obtain ⟨ad, e, h2⟩ := HP.out h
    exact ⟨ad, e, fun j v hj => keepc K2.out (h2 j v hj) (fun h => h)⟩)
  have HF : Hid (0 + cs.length ≤ (plc Z n).length) := Lib.hid (by rw [hl2, hcl]; omega)
  have H1 : Hid (∀ v ∈ cs, v.oneCell' = true) := Lib.hid (fun v hv => by
    rw [hcs] at hv
    obtain ⟨x, _, rfl⟩ := List.mem_map.1 hv
    rfl)
  have HS : Hid (splice (plc Z n) 0 cs = plc (splice Z 0 xs) n) := Lib.hid (by rw [hcs]; exact plc_splice Z n 0 xs (by omega))
  have HG1 : Hid (Cds (splice Z 0 xs) xs) := Lib.hid (Cds.lay hZl xs (by omega))
  have hsz : (Tryd.prog.info? 3).map (·.size) = some 1 := by kernel_rfl
  clear hz0 hZ hZl b0 hu hn hcs hcl
  go_enter Tryd.func24, Tryd.ntmps24
  go_wp2_with (first | (refine wpList_copy_kp rfl (.tmp 8) (.tmp 9) 22 22 rfl 3 Tryd.underlying22 hsz (some ⟨W.heap.size + 1, 0, none⟩) A 104 104 n c rfl rfl (W.heap.size + 1) 0 (plc Z n) 42 B1.out cs HM.out (fun h => ⟨rfl, HP2.out h⟩) HF.out H1.out (fun g => g = W.heap.size + 1) _ (Kp.refl _ _) (.inl rfl) ?_))
  intro w3 hg3 hk3
  have hb3 : Pb w3 (W.heap.size + 1) (splice Z 0 xs) n := by
    have h := hg3.out
    rw [HS.out] at h
    exact h
  have hr3 := B2.out.kp hk3.out (by omega)
  have hld := run_loadCells_pile hb3 HG1.out.1
  have hst := run_storeCells_pile (n' := n) hr3 HZL.out HG1.out.1
  have hl3 : (plc (splice Z 0 xs) n).length = 105 := by rw [plc_length, HG1.out.1]
  have HR := Lib.hid (setRow_heap w3 W.heap.size _ (plc (splice Z 0 xs) n).toArray _ _ hr3)
  have HK := Lib.hid ((K2.out.after hk3.out (fun g hg e => by subst e; omega)).setRow (.inr (Nat.le_refl W.heap.size)) (plc (splice Z 0 xs) n).toArray)
  have HB3 := Lib.hid hb3
  clear hg3 hk3 hb3 hr3 hld
  go_wp2
  refine wp_load_pile (.tmp 3) rfl (W.heap.size + 1) rfl _ n HB3.out HG1.out.1 ?_
  go_wp2
  refine bodyPost_ret (ret_pile rfl rfl HR.out HG1.out.1) rfl ?_
  exact ⟨_, rfl, ⟨_, HG1.out, by rw [HN.out]⟩, HK.out⟩
end Go.Proofs.YtpajmgonceepoacDoor
namespace Go.Proofs.YtpajmgonceepoacDoor
open Go.ChangeShapes Go.WideShapes Go.ChangeAt Go.RowKit

theorem zero_pile : ∃ Z : List Int, Cds Z [] ∧ ∀ w, (zeroValue 42).run Tryd.prog w = .ok (.agg (plc Z 0).toArray) w :=
  ⟨List.replicate 104 0, Cds.zero, (zero_of_info pileZero).1⟩

theorem Pile.size {w : World} {b : Nat} {xs : List Int} (h : Pile w b xs) (k : Nat) (hk : xs.length = k) : w.cell? ⟨b, 104, none⟩ = some (.int .i64 (k : Int)) := by
  obtain ⟨c, hg, hb⟩ := h
  rw [← hk]
  exact hb.size hg.1
/-- the blocks of a pile that came in, of the result and of a new pile -/
theorem three_new (W : World) (c Z : List Int) (n : Nat) (w3 : World) (hw : w3 = (((W.alloc (.cells (plc c n).toArray 42)).alloc (.cells (plc Z 0).toArray 42)).alloc (.cells (plc Z 0).toArray 42))) :
    Pb w3 W.heap.size c n ∧ Pb w3 (W.heap.size + 1) Z 0 ∧ Pb w3 (W.heap.size + 1 + 1) Z 0 ∧ Kp Nw W w3 := by
  subst hw
  have h0 := Pb.new W c n
  have h1 := Pb.new (W.alloc (.cells (plc c n).toArray 42)) Z 0
  have h2 := Pb.new ((W.alloc (.cells (plc c n).toArray 42)).alloc (.cells (plc Z 0).toArray 42)) Z 0
  simp only [World.size_alloc] at h1 h2
  exact ⟨(h0.kp (.al _ _) (fun h => h)).kp (.al _ _) (fun h => h), h1.kp (.al _ _) (fun h => h), h2, ((Kp.al W _).nw (.al _ _)).nw (.al _ _)⟩
theorem take0_any (b : Nat) (x : Int) (ys : List Int) (W : World) (hp : Pile W b (x :: ys)) :
    Calls Tryd.prog 39 #[.pointer (some ⟨b, 0, none⟩), .int .i64 0] W fun e w' => e = .returned (.int .i64 x) ∧ Pile w' b ys ∧ Kp (fun g => g = b) W w' :=
  take_any b 0 (x :: ys) W hp (by simp)
theorem drop_head {xs : List Int} {j k : Nat} (h : j + (k + 1) = xs.length) : xs.drop j = xs.getD j 0 :: xs.drop (j + 1) := by
  rw [List.drop_eq_getElem_cons (by omega), List.getD_eq_getElem?_getD, List.getElem?_eq_getElem (by omega)]
  rfl

end Go.Proofs.YtpajmgonceepoacDoor
