/- The program's pile of cards: a block of 104 numbers and of how many of them are cards; what it reads as; no condition. -/
import Derived.Test.YtpbbfpgjhmjjoacDeckF
import Derived.Test.YtpbbfpgjhmjjoacRot
import Derived.Test.YtpbbfpgjhmjjoacLetGo
import Derived.Test.YtpbbfpgjhmjjoacLaws
import Derived.Laws.CopyOwn
import Derived.Deep.MidRow
namespace Go.Proofs.Ytpbbfpgjhmjjoac
open Go.ChangeShapes Go.WideShapes Go.ChangeAt Go.RowKit

theorem Kp.setRow {S : Nat → Prop} {a w : World} (h : Kp S a w) {g : Nat} (hp : S g ∨ a.heap.size ≤ g) (cs : Array Value) : Kp S a (w.setRow g cs) :=
  ⟨h.os, h.tape, h.output, by simpa using h.size, fun i hi hs => (setRow_other w g i cs (by
    rintro rfl
    rcases hp with hp | hp
    · exact hs hp
    · omega)).trans (h.block i hi hs)⟩

/-- copy into a row that is known whole: what lies elsewhere is as it was -/
theorem wpList_copy_kp {P : Program} {w : World} {ops : Array Oper} {rest : List Oper} {o : Oper} {a : Act} {Q : Exit → Act → World → Prop} (hgd : o.guard = none) (d s : Operand) (dT sT : TypeId)
    (ho : o.op = .call { callee := .builtin .copy, args := #[d, s], argTypes := #[dT, sT] }) (elem : TypeId) (hu : P.underlying dT = some (.slice elem)) (hsz : (P.info? elem).map (·.size) = some 1)
    (dp sp : Option Addr) (dLen dCap sLen sCap : Nat) (hd : a.eval d = .slice dp dLen dCap) (hs : a.eval s = .slice sp sLen sCap)
    (g off : Nat) (cur : List Value) (t : TypeId) (hg : w.heap[g]? = some (.cells cur.toArray t (0, 0))) (cs : List Value) (hn : cs.length = Nat.min sLen dLen)
    (hpos : 0 < cs.length → dp = some ⟨g, off, none⟩ ∧ ∃ ad, sp = some ad ∧ ∀ j v, cs[j]? = some v → w.cell? (ad.add j) = some v)
    (hfit : off + cs.length ≤ cur.length) (h1 : ∀ v ∈ cs, v.oneCell' = true) (S : Nat → Prop) (w0 : World) (hb : Kp S w0 w) (hBg : S g ∨ w0.heap.size ≤ g)
    (h : ∀ w', Hid (w'.heap[g]? = some (.cells (splice cur off cs).toArray t (0, 0))) → Hid (Kp S w0 w') → wpList P ops Q rest (a.put o.dst (goInt cs.length)) w') :
    wpList P ops Q (o :: rest) a w := by
  by_cases h0 : cs.length = 0
  · obtain rfl : cs = [] := List.eq_nil_of_length_eq_zero h0
    refine wpList_copy_nothing hgd d s dT sT ho elem hu hsz dp sp dLen dCap sLen sCap hd hs (by simpa using hn.symm) ?_
    exact h w (show _ = _ by simpa [splice] using hg) hb
  · obtain ⟨rfl, ad, rfl, hsrc⟩ := hpos (by omega)
    refine wpList_copy_own hgd d s dT sT ho elem hu hsz g off dLen dCap ad sLen sCap hd hs cur.toArray t hg cs hn hsrc (by simpa using hfit) h1 ?_
    exact h _ (show _ = _ by simpa [splice] using setRow_heap w g _ _ t _ hg) (hb.setRow hBg _)

/-- the same as a step of a region that draws its order -/
theorem step_copy_kp {P : Program} {ops : Array Oper} {o : Oper} {a : Act} {w : World} {K : Act → World → Prop} {Q : Exit → Act → World → Prop} {E : Prop} (hgd : o.guard = none) (d s : Operand) (dT sT : TypeId)
    (ho : o.op = .call { callee := .builtin .copy, args := #[d, s], argTypes := #[dT, sT] }) (elem : TypeId) (hu : P.underlying dT = some (.slice elem)) (hsz : (P.info? elem).map (·.size) = some 1)
    (dp sp : Option Addr) (dLen dCap sLen sCap : Nat) (hd : a.eval d = .slice dp dLen dCap) (hs : a.eval s = .slice sp sLen sCap)
    (g off : Nat) (cur : List Value) (t : TypeId) (hg : w.heap[g]? = some (.cells cur.toArray t (0, 0))) (cs : List Value) (hn : cs.length = Nat.min sLen dLen)
    (hpos : 0 < cs.length → dp = some ⟨g, off, none⟩ ∧ ∃ ad, sp = some ad ∧ ∀ j v, cs[j]? = some v → w.cell? (ad.add j) = some v)
    (hfit : off + cs.length ≤ cur.length) (h1 : ∀ v ∈ cs, v.oneCell' = true) (S : Nat → Prop) (w0 : World) (hb : Kp S w0 w) (hBg : S g ∨ w0.heap.size ≤ g)
    (h : ∀ w', Hid (w'.heap[g]? = some (.cells (splice cur off cs).toArray t (0, 0))) → Hid (Kp S w0 w') → K (a.put o.dst (goInt cs.length)) w') :
    if Region.wanted o (yielded ops a.tmps) = true then Oper.wp P o a w K Q else E := by
  have hw : Region.wanted o (yielded ops a.tmps) = true := by simp [Region.wanted, hgd]
  rw [if_pos hw]
  by_cases h0 : cs.length = 0
  · obtain rfl : cs = [] := List.eq_nil_of_length_eq_zero h0
    have hrun := run_copy_none (P := P) w dT sT o.type elem dp sp dLen dCap sLen sCap hu hsz (by simpa using hn.symm)
    unfold Oper.wp
    simp [execOp, ho, resolve, invoke, builtin, hd, hs, hrun, Result.andThen]
    exact h w (show _ = _ by simpa [splice] using hg) hb
  · obtain ⟨rfl, ad, rfl, hsrc⟩ := hpos (by omega)
    have hrun := run_copy_row (P := P) w dT sT o.type elem g off dLen dCap ad sLen sCap cur.toArray t cs hu hsz hg hn hsrc (by simpa using hfit) h1
    unfold Oper.wp
    simp [execOp, ho, resolve, invoke, builtin, hd, hs, hrun, Result.andThen]
    exact h _ (show _ = _ by simpa [splice] using setRow_heap w g _ _ t _ hg) (hb.setRow hBg _)

/-- the cells of a pile: its places' numbers and how many of them are cards -/
def plc (c : List Int) (n : Nat) : List Value := c.map (Value.int .i64) ++ [.int .i64 (n : Int)]
theorem plc_length (c : List Int) (n : Nat) : (plc c n).length = c.length + 1 := by simp [plc]
theorem plc_splice (c : List Int) (n o : Nat) (vs : List Int) (h : o + vs.length ≤ c.length) : splice (plc c n) o (vs.map (Value.int .i64)) = plc (splice c o vs) n := by
  unfold splice plc
  rw [List.take_append_of_le_length (by simp; omega), List.drop_append_of_le_length (by simp; omega)]
  simp [List.map_take, List.map_drop]
theorem plc_set (c : List Int) (n i : Nat) (x : Int) (h : i < c.length) : (plc c n).toArray.setIfInBounds i (.int .i64 x) = (plc (c.set i x) n).toArray := by
  unfold plc
  rw [List.setIfInBounds_toArray, List.set_append_left _ _ (by simpa using h), List.map_set]
theorem plc_size (c : List Int) (n m : Nat) (h : c.length = 104) : (plc c n).toArray.setIfInBounds 104 (.int .i64 (m : Int)) = (plc c m).toArray := by
  unfold plc
  rw [List.setIfInBounds_toArray, List.set_append_right _ _ (by simp [h])]
  simp [h]
theorem plc_get (c : List Int) (n i : Nat) (h : i < c.length) : (plc c n)[i]? = some (.int .i64 (c.getD i 0)) := by
  unfold plc
  rw [List.getElem?_append_left (by simpa using h)]
  simp [List.getElem?_eq_getElem h]
theorem plc_last (c : List Int) (n : Nat) (h : c.length = 104) : (plc c n)[104]? = some (.int .i64 (n : Int)) := by
  unfold plc
  rw [List.getElem?_append_right (by simp [h])]
  simp [h]
theorem plc_one (c : List Int) (n : Nat) : (plc c n).toArray.all (·.oneCell') = true := all_oneCell_toArray (fun v hv => by
  unfold plc at hv
  rcases List.mem_append.1 hv with hv | hv
  · obtain ⟨x, _, rfl⟩ := List.mem_map.1 hv
    rfl
  · rw [List.mem_singleton.1 hv]; rfl)
theorem splice_length {α : Type} (L : List α) (off : Nat) (cs : List α) (h : off + cs.length ≤ L.length) : (splice L off cs).length = L.length := length_splice L off cs h

/-- a pile that reads as a list of cards -/
def Cds (c : List Int) (xs : List Int) : Prop := c.length = 104 ∧ xs.length ≤ 104 ∧ c.take xs.length = xs
def PileV (v : Value) (xs : List Int) : Prop := ∃ c, Cds c xs ∧ v = .agg (plc c xs.length).toArray
theorem Cds.get {c xs : List Int} (h : Cds c xs) (i : Nat) (hi : i < xs.length) : c.getD i 0 = xs.getD i 0 := by
  have h2 := h.2.2
  have : xs.getD i 0 = (c.take xs.length).getD i 0 := by rw [h2]
  rw [this]
  simp only [List.getD]
  rw [List.getElem?_take, if_pos hi]
theorem Cds.zero : Cds (List.replicate 104 0) [] := ⟨List.length_replicate, Nat.zero_le _, rfl⟩
/-- the cards of a list, laid over a pile's first places -/
theorem Cds.lay {c : List Int} (hc : c.length = 104) (xs : List Int) (h : xs.length ≤ 104) : Cds (splice c 0 xs) xs := by
  refine ⟨by rw [splice_length _ _ _ (by omega)]; exact hc, h, ?_⟩
  unfold splice
  simp
theorem Cds.take {c xs : List Int} (h : Cds c xs) (p : Nat) (hp : p < xs.length) : Cds (splice c p ((c.take xs.length).drop (p + 1))) (xs.eraseIdx p) := by
  obtain ⟨h1, h2, h3⟩ := h
  have hl : (xs.eraseIdx p).length = xs.length - 1 := List.length_eraseIdx_of_lt hp
  have hd : (xs.drop (p + 1)).length = xs.length - (p + 1) := List.length_drop
  rw [h3]
  refine ⟨by rw [splice_length _ _ _ (by omega)]; exact h1, by omega, ?_⟩
  unfold splice
  rw [hl, List.eraseIdx_eq_take_drop_succ, ← List.append_assoc]
  have e : c.take p = xs.take p := by
    rw [← h3, List.take_take, Nat.min_eq_left (by omega)]
  rw [e, List.take_append_of_le_length (by simp; omega), List.take_of_length_le (by simp; omega)]
theorem Cds.on {c xs : List Int} (h : Cds c xs) (x : Int) (hx : xs.length ≤ 103) : Cds ((splice c 1 (c.take xs.length)).set 0 x) (x :: xs) := by
  obtain ⟨h1, h2, h3⟩ := h
  rw [h3]
  refine ⟨by rw [List.length_set, splice_length _ _ _ (by omega)]; exact h1, by simp; omega, ?_⟩
  unfold splice
  rcases c with _ | ⟨a, c⟩
  · simp at h1
  · simp
theorem Cds.under {c xs : List Int} (h : Cds c xs) (x : Int) (hx : xs.length ≤ 103) : Cds (c.set xs.length x) (xs ++ [x]) := by
  obtain ⟨h1, h2, h3⟩ := h
  refine ⟨by rw [List.length_set]; exact h1, by simp; omega, ?_⟩
  rw [List.length_append, List.length_singleton, List.take_add_one, List.take_set_of_le (Nat.le_refl _), h3]
  simp [h1, show xs.length < 104 by omega]
end Go.Proofs.Ytpbbfpgjhmjjoac
