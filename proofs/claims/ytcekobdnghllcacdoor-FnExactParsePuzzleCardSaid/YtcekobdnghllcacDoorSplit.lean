/- An append of one string to a list of strings of its own; the model's split of a text at a byte (l1Split); no condition but on lengths. -/
import Derived.Test.YtcekobdnghllcacDoorApp
import Derived.Test.YtcekobdnghllcacDoorMake
import Derived.Test.YtcekobdnghllcacDoorText
import Derived.Test.YtcekobdnghllcacDoorRdN
namespace Go.Proofs.YtcekobdnghllcacDoor
open Go.ChangeShapes Go.WideShapes Go.ChangeAt Go.RowKit

theorem strInfoS : (Tryd.prog.info? 9).map (fun i => (i.zero, i.size, i.bytes)) = some (some (.string ⟨#[]⟩), 1, 16) := by kernel_rfl
/-- the value of a string -/
def sval (l : List UInt8) : Value := .string ⟨l.toArray⟩
/-- a slice value holds a list of strings at the head of a row of its own, from block B on -/
def SlT (w : World) (B : Nat) (v : Value) (ls : List (List UInt8)) : Prop := w.ownsRow B 9 1 v ls.length (ls.map sval)
theorem SlT.nw {w w' : World} {B : Nat} {v : Value} {ls : List (List UInt8)} (h : SlT w B v ls) (hk : Kp Nw w w') : SlT w' B v ls :=
  World.ownsRow.kept (row := none) h ⟨hk.os, hk.tape, hk.output, hk.size, fun k hl _ => hk.block k hl (fun h => h)⟩ (by
    rcases h.2 with ⟨rfl, _⟩ | ⟨g, cap, cur, rfl, _⟩
    · exact .inl rfl
    · exact .inr (by simp [Value.ownBlock]))
theorem svals_one (ls : List (List UInt8)) : ∀ u ∈ ls.map sval, u.oneCell' = true := by
  intro u hu
  obtain ⟨l, _, rfl⟩ := List.mem_map.1 hu
  rfl

set_option maxRecDepth 100000 in
theorem run_apps (w : World) (ty : TypeId) (B : Nat) (v : Value) (ad : Addr) (c : Nat) (ls : List (List UInt8)) (l : List UInt8) (hv : SlT w B v ls) (hu : w.cell? ad = some (sval l))
    (hl : ls.length ≤ 1000000000) (hB : B ≤ w.heap.size) :
    ∃ v' w', (Builtin.append_ #[30, 30] ty #[v, .slice (some ad) 1 c]).run Tryd.prog w = .ok v' w' ∧ SlT w' B v' (ls ++ [l]) ∧ Kp (fun b => v.ownBlock = some b) w w' ∧ (v'.ownBlock = v.ownBlock ∨ v'.ownBlock = some w.heap.size) := by
  obtain ⟨i0, hi0, hz0, hz1, hz2⟩ := info_parts strInfoS
  have hc : ∀ j u, ([l].map sval)[j]? = some u → w.cell? (ad.add j) = some u := by
    intro j u hj
    have h0 : j = 0 := by
      rcases Nat.eq_zero_or_pos j with h | h
      · exact h
      · rw [List.getElem?_eq_none (by simp; omega)] at hj; cases hj
    subst h0
    simp only [List.map_cons, List.map_nil, List.getElem?_cons_zero, Option.some.injEq] at hj
    subst hj
    simpa [Addr.add] using hu
  obtain ⟨v', w', hr, h2, h3, _, h5⟩ := run_append_own_at (P := Tryd.prog) w B 30 ty 9 i0 _ 1 16 Tryd.underlying30 hi0 hz0 hz1 hz2 rfl (by omega) v ls.length _ hv ad 1 c ([l].map sval) (by simp) hc (svals_one [l]) (by unfold maxLen; omega) (by omega) hB
  refine ⟨v', w', hr, ?_, ⟨h3.os, h3.tape, h3.output, h3.size, fun k hk hs => h3.block k hk (fun e => hs e.symm)⟩, h5⟩
  unfold SlT
  rw [List.length_append, List.map_append]
  exact h2

theorem wp_apps (w : World) {o : Oper} {a : Act} {K : Act → World → Prop} {Q : Exit → Act → World → Prop} (s x : Operand)
    (ho : o.op = .call { callee := .builtin .append, args := #[s, x], argTypes := #[30, 30] })
    (B : Nat) (v : Value) (ad : Addr) (c : Nat) (ls : List (List UInt8)) (l : List UInt8) (hs : a.eval s = v) (hx : a.eval x = .slice (some ad) 1 c) (hv : SlT w B v ls) (hu : w.cell? ad = some (sval l))
    (hl : ls.length ≤ 1000000000) (hB : B ≤ w.heap.size)
    (h : ∀ v' w', SlT w' B v' (ls ++ [l]) → Kp (fun b => v.ownBlock = some b) w w' → (v'.ownBlock = v.ownBlock ∨ v'.ownBlock = some w.heap.size) → K (a.put o.dst v') w') : o.wp Tryd.prog a w K Q := by
  obtain ⟨v', w', hr, h2, h3, h4⟩ := run_apps w o.type B v ad c ls l hv hu hl hB
  unfold Oper.wp execOp
  simp only [ho, resolve, invoke, builtin, Sem.run_bind, Sem.run_pure, Result.andThen_ok, List.map_toArray, List.map_cons, List.map_nil, hs, hx, hr]
  exact h v' w' h2 h3 h4

theorem wpList_apps (w : World) {ops : Array Oper} {rest : List Oper} {o : Oper} {a : Act} {Q : Exit → Act → World → Prop} (hgd : o.guard = none) (s x : Operand)
    (ho : o.op = .call { callee := .builtin .append, args := #[s, x], argTypes := #[30, 30] })
    (B : Nat) (v : Value) (ad : Addr) (c : Nat) (ls : List (List UInt8)) (l : List UInt8) (hs : a.eval s = v) (hx : a.eval x = .slice (some ad) 1 c) (hv : SlT w B v ls) (hu : w.cell? ad = some (sval l))
    (hl : ls.length ≤ 1000000000) (hB : B ≤ w.heap.size)
    (h : ∀ v' w', SlT w' B v' (ls ++ [l]) → Kp (fun b => v.ownBlock = some b) w w' → (v'.ownBlock = v.ownBlock ∨ v'.ownBlock = some w.heap.size) → wpList Tryd.prog ops Q rest (a.put o.dst v') w') : wpList Tryd.prog ops Q (o :: rest) a w :=
  wpList_plain hgd fun _ hK => wp_apps w s x ho B v ad c ls l hs hx hv hu hl hB fun v' w' h2 h3 h4 => hK _ _ (h v' w' h2 h3 h4)

/-- the pieces of a text between the bytes b; cur: what has been read of the piece under way -/
def sp (b : UInt8) (cur : List UInt8) : List UInt8 → List (List UInt8)
  | [] => [cur]
  | c :: r => if c = b then cur :: sp b [] r else sp b (cur ++ [c]) r
theorem ext_eq (l : List UInt8) (f j : Nat) : (ByteArray.mk l.toArray).extract f j = ⟨((l.take j).drop f).toArray⟩ := by
  apply ByteArray.ext
  rw [ByteArray.data_extract]
  apply Array.ext'
  rw [Array.toList_extract]
  simp [List.extract_eq_take_drop, List.drop_take]
theorem sp_hit (l : List UInt8) (b : UInt8) (f j : Nat) (h : j < l.length) (e : l[j] = b) : sp b ((l.take j).drop f) (l.drop j) = (l.take j).drop f :: sp b ((l.take (j + 1)).drop (j + 1)) (l.drop (j + 1)) := by
  rw [List.drop_eq_getElem_cons h, sp, if_pos e]
  congr 2
  rw [List.drop_eq_nil_of_le (by simp; omega)]
theorem sp_miss (l : List UInt8) (b : UInt8) (f j : Nat) (h : j < l.length) (hf : f ≤ j) (e : l[j] ≠ b) : sp b ((l.take j).drop f) (l.drop j) = sp b ((l.take (j + 1)).drop f) (l.drop (j + 1)) := by
  rw [List.drop_eq_getElem_cons h, sp, if_neg e, List.take_succ_eq_append_getElem h, List.drop_append_of_le_length (by rw [List.length_take]; omega)]
theorem sp_end (l : List UInt8) (b : UInt8) (f : Nat) : sp b ((l.take l.length).drop f) (l.drop l.length) = [l.drop f] := by
  rw [List.drop_length, List.take_length, sp]

set_option maxRecDepth 100000 in
set_option maxHeartbeats 1600000 in
theorem l1Split_any (l : List UInt8) (b : UInt8) (W : World) (hl : l.length ≤ 1048576) :
    Calls Tryd.prog 16 #[.string ⟨l.toArray⟩, .int .u8 b.toNat] W fun e w' => ∃ v, e = .returned v ∧ SlT w' W.heap.size v (sp b [] l) ∧ Kp Nw W w' := by
  obtain ⟨n, hn⟩ : ∃ n, l.length = n := ⟨_, rfl⟩
  have hsz : (ByteArray.mk l.toArray).size = n := by rw [← hn]; rfl
  have HN := Lib.hid hn
  rw [hn] at hl
  go_enter Tryd.func16, Tryd.ntmps16
  go_wp2
  go_loopw [5, 6, 7] (fun out from_ i wr => ∃ (j f : Nat) (v : Value) (ls : List (List UInt8)), f ≤ j ∧ j ≤ n ∧ i = .int .i64 j ∧ from_ = .int .i64 f ∧ v = out ∧ SlT wr W.heap.size v ls ∧ ls.length ≤ j ∧ ls ++ sp b ((l.take j).drop f) (l.drop j) = sp b [] l ∧ Kp Nw W wr) (fun _ _ i _ => n - (intOf i).toNat)
  case atStart => exact ⟨0, 0, _, [], Nat.le_refl _, Nat.zero_le _, rfl, rfl, rfl, ⟨rfl, .inl ⟨rfl, rfl⟩⟩, Nat.le_refl _, rfl, Kp.refl _ _⟩
  case round =>
    rename_i wr
    obtain ⟨j, f, v, ls, hf, hj, rfl, rfl, rfl, hs, hlen, he, hk⟩ := hrel
    have j0 : (0 : Int) ≤ j := Int.natCast_nonneg _
    have f0 : (0 : Int) ≤ f := Int.natCast_nonneg _
    have f1 : (f : Int) ≤ j := by omega
    by_cases hlt : j < n
    · have bj := bget l j (by omega) (by rw [hsz]; omega)
      have j1 : (j : Int) < n := by omega
      have j2 : (j : Int) ≤ n := by omega
      have HS := Lib.hid hs
      have HK := Lib.hid hk
      by_cases hc : l[j]'(by omega) = b
      · have HE : Hid ((ls ++ [(l.take j).drop f]) ++ sp b ((l.take (j + 1)).drop (j + 1)) (l.drop (j + 1)) = sp b [] l) := Lib.hid (by rw [← he, sp_hit l b f j (by omega) hc]; simp)
        rw [hc] at bj
        have hx := ext_eq l f j
        obtain ⟨pc, hpc⟩ : ∃ pc, (l.take j).drop f = pc := ⟨_, rfl⟩
        rw [hpc] at hx HE
        clear hs hk he hpc
        go_wp2_with (first | (at_builtin; refine wpList_apps _ rfl (.tmp 19) (.tmp 24) rfl W.heap.size v ⟨wr.heap.size, 0, none⟩ 1 ls pc rfl rfl (HS.out.nw (Kp.al _ _)) (by simp [World.cell?_alloc_at, sval]) (by omega) (by have := HK.out.size; simp; omega) ?_))
        rintro v' w' hs' hk' _
        have own := World.ownsRow.lt HS.out
        have HK2 := Lib.hid ((HK.out.nw (Kp.al _ _)).after hk' (fun g hg he => by have := (own g he).1; omega))
        have HS2 := Lib.hid hs'
        clear hs' hk' own
        go_wp2
        go_roundw
        case rel => exact ⟨j + 1, j + 1, v', _, Nat.le_refl _, by omega, by go_num, by go_num, rfl, HS2.out, by simp; omega, HE.out, HK2.out⟩
        case measure => simp [intOf]; omega
      · have HE : Hid (ls ++ sp b ((l.take (j + 1)).drop f) (l.drop (j + 1)) = sp b [] l) := Lib.hid (by rw [← he, sp_miss l b f j (by omega) hf hc])
        obtain ⟨c, hc2⟩ : ∃ c, l[j]'(by omega) = c := ⟨_, rfl⟩
        rw [hc2] at bj hc
        have q : (c.toNat : Int) ≠ b.toNat := fun e => hc (UInt8.toNat_inj.1 (by omega))
        clear hs hk he hc2 hc
        go_wp2
        go_roundw
        case rel => exact ⟨j + 1, f, _, ls, by omega, by omega, by go_num, rfl, rfl, HS.out, by omega, HE.out, HK.out⟩
        case measure => simp [intOf]; omega
    · have e : j = n := by omega
      subst e
      have HE : Hid (ls ++ [l.drop f] = sp b [] l) := Lib.hid (by rw [← he, ← HN.out, sp_end])
      have HS := Lib.hid hs
      have HK := Lib.hid hk
      clear hs hk he
      have hx := ext_eq l f j
      rw [show l.take j = l by rw [List.take_of_length_le (by rw [HN.out]; exact Nat.le_refl _)]] at hx
      obtain ⟨pc, hpc⟩ : ∃ pc, l.drop f = pc := ⟨_, rfl⟩
      rw [hpc] at hx HE
      clear hpc
      go_wp2_with (first | (at_builtin; refine wpList_apps _ rfl (.tmp 28) (.tmp 32) rfl W.heap.size v ⟨wr.heap.size, 0, none⟩ 1 ls pc rfl rfl (HS.out.nw (Kp.al _ _)) (by simp [World.cell?_alloc_at, sval]) (by omega) (by have := HK.out.size; simp; omega) ?_))
      rintro v' w' hs' hk' _
      have own := World.ownsRow.lt HS.out
      have HK2 := Lib.hid ((HK.out.nw (Kp.al _ _)).after hk' (fun g hg he => by have := (own g he).1; omega))
      have HS2 := Lib.hid hs'
      clear hs' hk' own
      go_wp2
      go_ret
      exact ⟨_, rfl, by rw [← HE.out]; exact HS2.out, HK2.out⟩
end Go.Proofs.YtcekobdnghllcacDoor
