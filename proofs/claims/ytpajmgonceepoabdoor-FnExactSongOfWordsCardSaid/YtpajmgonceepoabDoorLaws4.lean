/- The texts Canon, Read, Split, Perm, Return, ReturnS, Spell, SpellS, Model4, LwIsDeck, LwDealDeck, LwDeckFor, LwDealFirst, LwDealCounts, LwDeckForCounts, LwSpellCounts, LwSpellDeck, LwDealTimes, LwDealsToReturn, LwLastDealt, LwCutDeck, LwBackDeck, LwMilkDeck, LwMongeDeck, LwShufflesToReturn, Laws4, as one. -/
import Derived.Lib.ItoaNum
import Derived.Test.YtpajmgonceepoabDoorNumS
import Derived.IntWalk
import Derived.Test.YtpajmgonceepoabDoorApp
import Derived.Test.YtpajmgonceepoabDoorMake
import Derived.Test.YtpajmgonceepoabDoorText
import Derived.Test.YtpajmgonceepoabDoorLow
import Derived.Test.YtpajmgonceepoabDoorDeckT
import Derived.Test.YtpajmgonceepoabDoorDeckV
import Derived.Test.YtpajmgonceepoabDoorOrdMath
import Derived.Laws.RangeAny
import Derived.Test.YtpajmgonceepoabDoorDeckS
import Derived.Test.YtpajmgonceepoabDoorLaws
namespace Go.Proofs.YtpajmgonceepoabDoor

/-- the value of a text of digits -/
def val (l : List UInt8) : Nat := l.foldl (fun a b => 10 * a + (b.toNat - 48)) 0
def isDig (b : UInt8) : Bool := decide (48 ≤ b.toNat ∧ b.toNat ≤ 57)
/-- digits alone, at least one, no superfluous zero ahead -/
def canon (l : List UInt8) : Bool := !l.isEmpty && l.all isDig && (l.head? != some 48 || l.length == 1)

theorem val_snoc (l : List UInt8) (b : UInt8) : val (l ++ [b]) = 10 * val l + (b.toNat - 48) := by simp [val]
theorem dig_back (b : UInt8) (h : isDig b = true) : UInt8.ofNat (48 + (b.toNat - 48)) = b := by
  have := of_decide_eq_true h
  rw [show 48 + (b.toNat - 48) = b.toNat by omega]
  simp
theorem dig_toNat (d : Nat) (h : d < 10) : (UInt8.ofNat (48 + d)).toNat = 48 + d := by
  rw [UInt8.toNat_ofNat']
  omega
theorem dig_of (d : Nat) (h : d < 10) : isDig (UInt8.ofNat (48 + d)) = true := by
  unfold isDig
  rw [dig_toNat d h]
  simp
  omega

theorem digits_canon (n : Nat) : canon (Lib.decDigits n) = true ∧ val (Lib.decDigits n) = n ∧ (0 < n → (Lib.decDigits n).head? ≠ some 48) := by
  induction n using Nat.strongRecOn with
  | ind n ih =>
    by_cases h : n < 10
    · rw [Lib.decDigits_one h]
      refine ⟨?_, ?_, ?_⟩
      · have := dig_of n h
        simp only [canon, List.all_cons, List.all_nil, this, List.isEmpty_cons, List.length_cons, List.length_nil]
        simp
      · have := dig_toNat n h
        simp only [val, List.foldl]
        omega
      · intro h0 e
        simp only [List.head?_cons, Option.some.injEq] at e
        have := congrArg UInt8.toNat e
        rw [dig_toNat n h] at this
        simp at this
        omega
    · rw [Lib.decDigits, dif_neg h]
      obtain ⟨h1, h2, h3⟩ := ih (n / 10) (by omega)
      have h4 := h3 (by omega)
      have hd : n % 10 < 10 := by omega
      unfold canon at h1 ⊢
      simp only [Bool.and_eq_true] at h1
      obtain ⟨⟨a1, a2⟩, a3⟩ := h1
      have hne : Lib.decDigits (n / 10) ≠ [] := by intro e; rw [e] at a1; simp at a1
      have hh : (Lib.decDigits (n / 10) ++ [UInt8.ofNat (48 + n % 10)]).head? = (Lib.decDigits (n / 10)).head? := by
        cases hc : Lib.decDigits (n / 10) with
        | nil => exact absurd hc hne
        | cons x r => rfl
      refine ⟨?_, ?_, ?_⟩
      · rw [hh, List.all_append, a2]
        have : ((Lib.decDigits (n / 10)).head? != some 48) = true := by simpa using h4
        rw [this]
        simp only [List.all_cons, List.all_nil, dig_of _ hd]
        simp
      · rw [val_snoc, h2, dig_toNat _ hd]
        omega
      · intro _
        rw [hh]
        exact h4

theorem canon_digits : ∀ (k : Nat) (l : List UInt8), l.length ≤ k → canon l = true → Lib.decDigits (val l) = l ∧ (l.head? ≠ some 48 → 0 < val l) := by
  intro k
  induction k with
  | zero => intro l hl h; cases l with
    | nil => simp [canon] at h
    | cons x r => simp at hl
  | succ k ih =>
    intro l hl h
    rcases List.eq_nil_or_concat l with rfl | ⟨r, b, rfl⟩
    · simp [canon] at h
    · rw [List.concat_eq_append] at hl h ⊢
      have hlen : (r ++ [b]).length = r.length + 1 := by simp
      unfold canon at h
      simp only [Bool.and_eq_true, List.all_append, List.all_cons, List.all_nil, Bool.and_true] at h
      obtain ⟨⟨_, a2, a2'⟩, a3⟩ := h
      have hb := of_decide_eq_true a2'
      by_cases hr : r = []
      · subst hr
        have e : val ([] ++ [b]) = b.toNat - 48 := by rw [val_snoc]; simp [val]
        rw [e, Lib.decDigits_one (by omega), dig_back b a2']
        refine ⟨rfl, fun hz => ?_⟩
        rcases Nat.lt_or_ge 48 b.toNat with g | g
        · omega
        · exact absurd (by simp only [List.nil_append, List.head?_cons, Option.some.injEq]; exact UInt8.toNat_inj.1 (by simp; omega)) hz
      · have hh : (r ++ [b]).head? = r.head? := by cases r with
          | nil => exact absurd rfl hr
          | cons x s => rfl
        have hrl : 0 < r.length := List.length_pos_iff.2 hr
        have h0 : r.head? ≠ some 48 := by
          rw [hh, hlen] at a3
          intro e
          rw [e] at a3
          simp at a3
          exact hr a3
        have hc : canon r = true := by
          unfold canon
          rw [a2]
          have : (r.head? != some 48) = true := by simpa using h0
          rw [this]
          simp [hr]
        obtain ⟨i1, i2⟩ := ih r (by omega) hc
        have i3 := i2 h0
        rw [val_snoc]
        refine ⟨?_, fun _ => by omega⟩
        rw [Lib.decDigits, dif_neg (by omega), show (10 * val r + (b.toNat - 48)) / 10 = val r by omega, show (10 * val r + (b.toNat - 48)) % 10 = b.toNat - 48 by omega, i1, dig_back b a2']

theorem canon_iff (l : List UInt8) : canon l = true ↔ Lib.decDigits (val l) = l := by
  constructor
  · intro h; exact (canon_digits _ l (Nat.le_refl _) h).1
  · intro h; rw [← h]; exact (digits_canon _).1
end Go.Proofs.YtpajmgonceepoabDoor
namespace Go.Proofs.YtpajmgonceepoabDoor
open Go.ChangeShapes Go.WideShapes Go.ChangeAt Go.RowKit Go.IntWalk

/-- the value of a numeral of one to six digits, else -1 -/
def rd6 (l : List UInt8) : Int := if 1 ≤ l.length ∧ l.length ≤ 6 ∧ canon l = true then (val l : Int) else -1

theorem bget (l : List UInt8) (i : Nat) (h : i < l.length) (h' : i < (ByteArray.mk l.toArray).size) : (ByteArray.mk l.toArray)[i]'h' = l[i]'h := by
  show (l.toArray)[i]'_ = _
  simp

theorem val_lt : ∀ (k : Nat) (l : List UInt8), l.length ≤ k → l.all isDig = true → val l < 10 ^ l.length := by
  intro k
  induction k with
  | zero => intro l hl _; cases l with
    | nil => simp [val]
    | cons x r => simp at hl
  | succ k ih =>
    intro l hl h
    rcases List.eq_nil_or_concat l with rfl | ⟨r, b, rfl⟩
    · simp [val]
    · rw [List.concat_eq_append] at hl h ⊢
      simp only [List.all_append, List.all_cons, List.all_nil, Bool.and_true, Bool.and_eq_true] at h
      have hb := of_decide_eq_true h.2
      have hr := ih r (by simp at hl; omega) h.1
      rw [val_snoc, List.length_append, List.length_cons, List.length_nil, Nat.pow_succ]
      omega
theorem rd6_all (l : List UInt8) (h1 : 1 ≤ l.length) (h6 : l.length ≤ 6) (hz : ¬ (l[0] = 48 ∧ 1 < l.length)) (h : l.all isDig = true) : rd6 l = val l := by
  have hc : canon l = true := ?_
  · unfold rd6
    rw [if_pos ⟨h1, h6, hc⟩]
  unfold canon
  rw [h]
  cases l with
  | nil => simp at h1
  | cons c r =>
    simp only [List.getElem_cons_zero, List.length_cons] at hz
    simp only [List.isEmpty_cons, List.head?_cons, List.length_cons]
    by_cases e : c = 48
    · have : r.length = 0 := by
        have : ¬ (1 < r.length + 1) := fun g => hz ⟨e, g⟩
        omega
      simp [this]
    · simp [e]
theorem rd6_not (l : List UInt8) (h : l.all isDig = false) : rd6 l = -1 := by
  unfold rd6
  rw [if_neg]
  rintro ⟨_, _, hc⟩
  unfold canon at hc
  rw [h] at hc
  simp at hc
theorem all_step (l : List UInt8) (j : Nat) (h : j < l.length) (hd : (l.take j).all isDig = true) (hb : isDig l[j] = true) : (l.take (j + 1)).all isDig = true := by
  rw [List.take_succ_eq_append_getElem h, List.all_append, hd]
  simp [hb]
theorem not_all (l : List UInt8) (j : Nat) (h : j < l.length) (hb : isDig l[j] = false) : l.all isDig = false := by
  rw [List.all_eq_false]
  exact ⟨l[j], List.getElem_mem _, by simp [hb]⟩

end Go.Proofs.YtpajmgonceepoabDoor
namespace Go.Proofs.YtpajmgonceepoabDoor
open Go.ChangeShapes Go.WideShapes Go.ChangeAt Go.RowKit

theorem strInfoS : (Tryd.prog.info? 9).map (fun i => (i.zero, i.size, i.bytes)) = some (some (.string ⟨#[]⟩), 1, 16) := by kernel_rfl
/-- the value of a string -/
def sval (l : List UInt8) : Value := .string ⟨l.toArray⟩
/-- a slice value holds a list of strings at the head of a row of its own, from block B on -/
def SlT (w : World) (B : Nat) (v : Value) (ls : List (List UInt8)) : Prop := w.ownsRow B 9 1 v ls.length (ls.map sval)
theorem SlT.nw {w w' : World} {B : Nat} {v : Value} {ls : List (List UInt8)} (h : SlT w B v ls) (hk : Kp Nw w w') : SlT w' B v ls :=
  World.ownsRow.kept (row := none) h ⟨hk.os, hk.tape, hk.output, hk.size, fun k hl _ => hk.block k hl (fun h => h)⟩ (by
    rcases h.2 with ⟨rfl, _⟩ | ⟨g, cap, cur, rfl, _⟩
    · exact .inl rfl
    · exact .inr (by simp [Value.ownBlock]))
theorem svals_one (ls : List (List UInt8)) : ∀ u ∈ ls.map sval, u.oneCell' = true := by
  intro u hu
  obtain ⟨l, _, rfl⟩ := List.mem_map.1 hu
  rfl

set_option maxRecDepth 100000 in
theorem run_apps (w : World) (ty : TypeId) (B : Nat) (v : Value) (ad : Addr) (c : Nat) (ls : List (List UInt8)) (l : List UInt8) (hv : SlT w B v ls) (hu : w.cell? ad = some (sval l))
    (hl : ls.length ≤ 1000000000) (hB : B ≤ w.heap.size) :
    ∃ v' w', (Builtin.append_ #[34, 34] ty #[v, .slice (some ad) 1 c]).run Tryd.prog w = .ok v' w' ∧ SlT w' B v' (ls ++ [l]) ∧ Kp (fun b => v.ownBlock = some b) w w' ∧ (v'.ownBlock = v.ownBlock ∨ v'.ownBlock = some w.heap.size) := by
  obtain ⟨i0, hi0, hz0, hz1, hz2⟩ := info_parts strInfoS
  have hc : ∀ j u, ([l].map sval)[j]? = some u → w.cell? (ad.add j) = some u := by
    intro j u hj
    have h0 : j = 0 := by
      rcases Nat.eq_zero_or_pos j with h | h
      · exact h
      · rw [List.getElem?_eq_none (by simp; omega)] at hj; cases hj
    subst h0
    simp only [List.map_cons, List.map_nil, List.getElem?_cons_zero, Option.some.injEq] at hj
    subst hj
    simpa [Addr.add] using hu
  obtain ⟨v', w', hr, h2, h3, _, h5⟩ := run_append_own_at (P := Tryd.prog) w B 34 ty 9 i0 _ 1 16 Tryd.underlying34 hi0 hz0 hz1 hz2 rfl (by omega) v ls.length _ hv ad 1 c ([l].map sval) (by simp) hc (svals_one [l]) (by unfold maxLen; omega) (by omega) hB
  refine ⟨v', w', hr, ?_, ⟨h3.os, h3.tape, h3.output, h3.size, fun k hk hs => h3.block k hk (fun e => hs e.symm)⟩, h5⟩
  unfold SlT
  rw [List.length_append, List.map_append]
  exact h2

theorem wp_apps (w : World) {o : Oper} {a : Act} {K : Act → World → Prop} {Q : Exit → Act → World → Prop} (s x : Operand)
    (ho : o.op = .call { callee := .builtin .append, args := #[s, x], argTypes := #[34, 34] })
    (B : Nat) (v : Value) (ad : Addr) (c : Nat) (ls : List (List UInt8)) (l : List UInt8) (hs : a.eval s = v) (hx : a.eval x = .slice (some ad) 1 c) (hv : SlT w B v ls) (hu : w.cell? ad = some (sval l))
    (hl : ls.length ≤ 1000000000) (hB : B ≤ w.heap.size)
    (h : ∀ v' w', SlT w' B v' (ls ++ [l]) → Kp (fun b => v.ownBlock = some b) w w' → (v'.ownBlock = v.ownBlock ∨ v'.ownBlock = some w.heap.size) → K (a.put o.dst v') w') : o.wp Tryd.prog a w K Q := by
  obtain ⟨v', w', hr, h2, h3, h4⟩ := run_apps w o.type B v ad c ls l hv hu hl hB
  unfold Oper.wp execOp
  simp only [ho, resolve, invoke, builtin, Sem.run_bind, Sem.run_pure, Result.andThen_ok, List.map_toArray, List.map_cons, List.map_nil, hs, hx, hr]
  exact h v' w' h2 h3 h4

theorem wpList_apps (w : World) {ops : Array Oper} {rest : List Oper} {o : Oper} {a : Act} {Q : Exit → Act → World → Prop} (hgd : o.guard = none) (s x : Operand)
    (ho : o.op = .call { callee := .builtin .append, args := #[s, x], argTypes := #[34, 34] })
    (B : Nat) (v : Value) (ad : Addr) (c : Nat) (ls : List (List UInt8)) (l : List UInt8) (hs : a.eval s = v) (hx : a.eval x = .slice (some ad) 1 c) (hv : SlT w B v ls) (hu : w.cell? ad = some (sval l))
    (hl : ls.length ≤ 1000000000) (hB : B ≤ w.heap.size)
    (h : ∀ v' w', SlT w' B v' (ls ++ [l]) → Kp (fun b => v.ownBlock = some b) w w' → (v'.ownBlock = v.ownBlock ∨ v'.ownBlock = some w.heap.size) → wpList Tryd.prog ops Q rest (a.put o.dst v') w') : wpList Tryd.prog ops Q (o :: rest) a w :=
  wpList_plain hgd fun _ hK => wp_apps w s x ho B v ad c ls l hs hx hv hu hl hB fun v' w' h2 h3 h4 => hK _ _ (h v' w' h2 h3 h4)

/-- the pieces of a text between the bytes b; cur: what has been read of the piece under way -/
def sp (b : UInt8) (cur : List UInt8) : List UInt8 → List (List UInt8)
  | [] => [cur]
  | c :: r => if c = b then cur :: sp b [] r else sp b (cur ++ [c]) r
theorem ext_eq (l : List UInt8) (f j : Nat) : (ByteArray.mk l.toArray).extract f j = ⟨((l.take j).drop f).toArray⟩ := by
  apply ByteArray.ext
  rw [ByteArray.data_extract]
  apply Array.ext'
  rw [Array.toList_extract]
  simp [List.extract_eq_take_drop, List.drop_take]
theorem sp_hit (l : List UInt8) (b : UInt8) (f j : Nat) (h : j < l.length) (e : l[j] = b) : sp b ((l.take j).drop f) (l.drop j) = (l.take j).drop f :: sp b ((l.take (j + 1)).drop (j + 1)) (l.drop (j + 1)) := by
  rw [List.drop_eq_getElem_cons h, sp, if_pos e]
  congr 2
  rw [List.drop_eq_nil_of_le (by simp; omega)]
theorem sp_miss (l : List UInt8) (b : UInt8) (f j : Nat) (h : j < l.length) (hf : f ≤ j) (e : l[j] ≠ b) : sp b ((l.take j).drop f) (l.drop j) = sp b ((l.take (j + 1)).drop f) (l.drop (j + 1)) := by
  rw [List.drop_eq_getElem_cons h, sp, if_neg e, List.take_succ_eq_append_getElem h, List.drop_append_of_le_length (by rw [List.length_take]; omega)]
theorem sp_end (l : List UInt8) (b : UInt8) (f : Nat) : sp b ((l.take l.length).drop f) (l.drop l.length) = [l.drop f] := by
  rw [List.drop_length, List.take_length, sp]

set_option maxRecDepth 100000 in
set_option maxHeartbeats 1600000 in
theorem l1Split_any (l : List UInt8) (b : UInt8) (W : World) (hl : l.length ≤ 1048576) :
    Calls Tryd.prog 15 #[.string ⟨l.toArray⟩, .int .u8 b.toNat] W fun e w' => ∃ v, e = .returned v ∧ SlT w' W.heap.size v (sp b [] l) ∧ Kp Nw W w' := by
  obtain ⟨n, hn⟩ : ∃ n, l.length = n := ⟨_, rfl⟩
  have hsz : (ByteArray.mk l.toArray).size = n := by rw [← hn]; rfl
  have HN := Lib.hid hn
  rw [hn] at hl
  go_enter Tryd.func15, Tryd.ntmps15
  go_wp2
  go_loopw [5, 6, 7] (fun out from_ i wr => ∃ (j f : Nat) (v : Value) (ls : List (List UInt8)), f ≤ j ∧ j ≤ n ∧ i = .int .i64 j ∧ from_ = .int .i64 f ∧ v = out ∧ SlT wr W.heap.size v ls ∧ ls.length ≤ j ∧ ls ++ sp b ((l.take j).drop f) (l.drop j) = sp b [] l ∧ Kp Nw W wr) (fun _ _ i _ => n - (intOf i).toNat)
  case atStart => exact ⟨0, 0, _, [], Nat.le_refl _, Nat.zero_le _, rfl, rfl, rfl, ⟨rfl, .inl ⟨rfl, rfl⟩⟩, Nat.le_refl _, rfl, Kp.refl _ _⟩
  case round =>
    rename_i wr
    obtain ⟨j, f, v, ls, hf, hj, rfl, rfl, rfl, hs, hlen, he, hk⟩ := hrel
    have j0 : (0 : Int) ≤ j := Int.natCast_nonneg _
    have f0 : (0 : Int) ≤ f := Int.natCast_nonneg _
    have f1 : (f : Int) ≤ j := by omega
    by_cases hlt : j < n
    · have bj := bget l j (by omega) (by rw [hsz]; omega)
      have j1 : (j : Int) < n := by omega
      have j2 : (j : Int) ≤ n := by omega
      have HS := Lib.hid hs
      have HK := Lib.hid hk
      by_cases hc : l[j]'(by omega) = b
      · have HE : Hid ((ls ++ [(l.take j).drop f]) ++ sp b ((l.take (j + 1)).drop (j + 1)) (l.drop (j + 1)) = sp b [] l) := Lib.hid (by rw [← he, sp_hit l b f j (by omega) hc]; simp)
        rw [hc] at bj
        have hx := ext_eq l f j
        obtain ⟨pc, hpc⟩ : ∃ pc, (l.take j).drop f = pc := ⟨_, rfl⟩
        rw [hpc] at hx HE
        clear hs hk he hpc
        go_wp2_with (first | (at_builtin; refine wpList_apps _ rfl (.tmp 19) (.tmp 24) rfl W.heap.size v ⟨wr.heap.size, 0, none⟩ 1 ls pc rfl rfl (HS.out.nw (Kp.al _ _)) (by simp [World.cell?_alloc_at, sval]) (by omega) (by have := HK.out.size; simp; omega) ?_))
        rintro v' w' hs' hk' _
        have own := World.ownsRow.lt HS.out
        have HK2 := Lib.hid ((HK.out.nw (Kp.al _ _)).after hk' (fun g hg he => by have := (own g he).1; omega))
        have HS2 := Lib.hid hs'
        clear hs' hk' own
        go_wp2
        go_roundw
        case rel => exact ⟨j + 1, j + 1, v', _, Nat.le_refl _, by omega, by go_num, by go_num, rfl, HS2.out, by simp; omega, HE.out, HK2.out⟩
        case measure => simp [intOf]; omega
      · have HE : Hid (ls ++ sp b ((l.take (j + 1)).drop f) (l.drop (j + 1)) = sp b [] l) := Lib.hid (by rw [← he, sp_miss l b f j (by omega) hf hc])
        obtain ⟨c, hc2⟩ : ∃ c, l[j]'(by omega) = c := ⟨_, rfl⟩
        rw [hc2] at bj hc
        have q : (c.toNat : Int) ≠ b.toNat := fun e => hc (UInt8.toNat_inj.1 (by omega))
        clear hs hk he hc2 hc
        go_wp2
        go_roundw
        case rel => exact ⟨j + 1, f, _, ls, by omega, by omega, by go_num, rfl, rfl, HS.out, by omega, HE.out, HK.out⟩
        case measure => simp [intOf]; omega
    · have e : j = n := by omega
      subst e
      have HE : Hid (ls ++ [l.drop f] = sp b [] l) := Lib.hid (by rw [← he, ← HN.out, sp_end])
      have HS := Lib.hid hs
      have HK := Lib.hid hk
      clear hs hk he
      have hx := ext_eq l f j
      rw [show l.take j = l by rw [List.take_of_length_le (by rw [HN.out]; exact Nat.le_refl _)]] at hx
      obtain ⟨pc, hpc⟩ : ∃ pc, l.drop f = pc := ⟨_, rfl⟩
      rw [hpc] at hx HE
      clear hpc
      go_wp2_with (first | (at_builtin; refine wpList_apps _ rfl (.tmp 28) (.tmp 32) rfl W.heap.size v ⟨wr.heap.size, 0, none⟩ 1 ls pc rfl rfl (HS.out.nw (Kp.al _ _)) (by simp [World.cell?_alloc_at, sval]) (by omega) (by have := HK.out.size; simp; omega) ?_))
      rintro v' w' hs' hk' _
      have own := World.ownsRow.lt HS.out
      have HK2 := Lib.hid ((HK.out.nw (Kp.al _ _)).after hk' (fun g hg he => by have := (own g he).1; omega))
      have HS2 := Lib.hid hs'
      clear hs' hk' own
      go_wp2
      go_ret
      exact ⟨_, rfl, by rw [← HE.out]; exact HS2.out, HK2.out⟩
end Go.Proofs.YtpajmgonceepoabDoor
namespace Go.Proofs.YtpajmgonceepoabDoor

/-- k times the exchange -/
def itp (p : Nat → Nat) : Nat → Nat → Nat
  | 0, i => i
  | k + 1, i => p (itp p k i)
structure Exch (p : Nat → Nat) (n : Nat) : Prop where
  lt : ∀ i, i < n → p i < n
  inj : ∀ i j, i < n → j < n → p i = p j → i = j
theorem itp_add (p : Nat → Nat) (a b i : Nat) : itp p (a + b) i = itp p a (itp p b i) := by
  induction a with
  | zero => simp [itp]
  | succ a ih => rw [show a + 1 + b = (a + b) + 1 by omega, itp, itp, ih]
theorem itp_comm (p : Nat → Nat) (a b i : Nat) : itp p a (itp p b i) = itp p b (itp p a i) := by
  rw [← itp_add, ← itp_add, Nat.add_comm]
theorem itp_lt {p : Nat → Nat} {n : Nat} (h : Exch p n) (k i : Nat) (hi : i < n) : itp p k i < n := by
  induction k with
  | zero => exact hi
  | succ k ih => exact h.lt _ ih
theorem itp_inj {p : Nat → Nat} {n : Nat} (h : Exch p n) (k i j : Nat) (hi : i < n) (hj : j < n) (e : itp p k i = itp p k j) : i = j := by
  induction k with
  | zero => exact e
  | succ k ih => exact ih (h.inj _ _ (itp_lt h k i hi) (itp_lt h k j hj) e)
theorem nodup_len : ∀ (n : Nat) (l : List Nat), l.Nodup → (∀ x ∈ l, x < n) → l.length ≤ n
  | 0, l, _, h => by
    cases l with
    | nil => simp
    | cons x l => exact absurd (h x (by simp)) (by omega)
  | n + 1, l, hd, h => by
    have h1 : (l.erase n).Nodup := hd.erase n
    have h2 : ∀ x ∈ l.erase n, x < n := fun x hx => by
      have h3 := h x (List.mem_of_mem_erase hx)
      have h4 : x ≠ n := fun e => by
        subst e
        exact hd.not_mem_erase hx
      omega
    have h5 := nodup_len n _ h1 h2
    have h6 := List.length_erase (a := n) (l := l)
    split at h6 <;> omega
theorem itp_back {p : Nat → Nat} {n : Nat} (h : Exch p n) (i : Nat) (hi : i < n) : ∃ k, k < n ∧ itp p (k + 1) i = i := by
  apply Classical.byContradiction
  intro hno
  have hne : ∀ k, k < n → itp p (k + 1) i ≠ i := fun k hk e => hno ⟨k, hk, e⟩
  have hnd : ((List.range (n + 1)).map (fun k => itp p k i)).Nodup := by
    rw [List.Nodup, List.pairwise_map]
    refine List.Pairwise.imp_of_mem ?_ (List.pairwise_lt_range (n := n + 1))
    intro a b ha hb hab e
    have hb' := List.mem_range.1 hb
    have e2 : itp p a i = itp p a (itp p (b - a) i) := by rw [← itp_add, show a + (b - a) = b by omega]; exact e
    have e3 := itp_inj h a i _ hi (itp_lt h _ i hi) e2
    have e4 := hne (b - a - 1) (by omega)
    rw [show b - a - 1 + 1 = b - a by omega] at e4
    exact e4 e3.symm
  have := nodup_len n _ hnd (fun x hx => by
    obtain ⟨k, _, rfl⟩ := List.mem_map.1 hx
    exact itp_lt h k i hi)
  simp at this
  omega
/-- the length of the cycle that a place lies in -/
def cyc (p : Nat → Nat) (n i : Nat) : Nat := ((List.range n).find? (fun k => itp p (k + 1) i == i)).getD 0 + 1
theorem cyc_is {p : Nat → Nat} {n i c : Nat} (hc : 1 ≤ c) (hn : c ≤ n) (he : itp p c i = i) (hm : ∀ m, 1 ≤ m → m < c → itp p m i ≠ i) : cyc p n i = c := by
  have : (List.range n).find? (fun k => itp p (k + 1) i == i) = some (c - 1) := by
    rw [List.find?_range_eq_some]
    refine ⟨?_, List.mem_range.2 (by omega), ?_⟩
    · show (itp p (c - 1 + 1) i == i) = true
      rw [show c - 1 + 1 = c by omega, he]
      exact beq_self_eq_true i
    · intro j hj
      have := hm (j + 1) (by omega) (by omega)
      simpa using this
  unfold cyc
  rw [this]
  show c - 1 + 1 = c
  omega
theorem cyc_spec {p : Nat → Nat} {n : Nat} (h : Exch p n) (i : Nat) (hi : i < n) : cyc p n i ≤ n ∧ itp p (cyc p n i) i = i ∧ ∀ m, 1 ≤ m → m < cyc p n i → itp p m i ≠ i := by
  obtain ⟨k, hk, e⟩ := itp_back h i hi
  cases hf : (List.range n).find? (fun k => itp p (k + 1) i == i) with
  | none =>
    have := List.find?_eq_none.1 hf k (List.mem_range.2 hk)
    exact absurd (beq_iff_eq.2 e) this
  | some c =>
    have hs := List.find?_range_eq_some.1 hf
    have e1 : cyc p n i = c + 1 := by unfold cyc; rw [hf]; rfl
    rw [e1]
    refine ⟨by have := List.mem_range.1 hs.2.1; omega, beq_iff_eq.1 hs.1, ?_⟩
    intro m m1 m2 em
    have := hs.2.2 (m - 1) (by omega)
    rw [show m - 1 + 1 = m by omega, em] at this
    simp at this
theorem cyc_pos (p : Nat → Nat) (n i : Nat) : 1 ≤ cyc p n i := by unfold cyc; omega
theorem cyc_on {p : Nat → Nat} {n : Nat} (h : Exch p n) (k i : Nat) (hi : i < n) : cyc p n (itp p k i) = cyc p n i := by
  obtain ⟨h1, h2, h3⟩ := cyc_spec h i hi
  refine cyc_is (cyc_pos p n i) h1 (by rw [itp_comm, h2]) ?_
  intro m m1 m2 e
  rw [itp_comm] at e
  exact h3 m m1 m2 (itp_inj h k _ _ (itp_lt h m i hi) hi e)
/-- behind how many times the first t places have come back -/
def lcmT (p : Nat → Nat) (n : Nat) : Nat → Nat
  | 0 => 1
  | t + 1 => Nat.lcm (lcmT p n t) (cyc p n t)
theorem lcmT_pos (p : Nat → Nat) (n t : Nat) : 1 ≤ lcmT p n t := by
  induction t with
  | zero => exact Nat.le_refl 1
  | succ t ih => exact Nat.lcm_pos ih (cyc_pos p n t)
theorem lcmT_dvd (p : Nat → Nat) (n t : Nat) : ∀ i, i < t → cyc p n i ∣ lcmT p n t := by
  induction t with
  | zero => intro i hi; omega
  | succ t ih =>
    intro i hi
    rw [lcmT]
    by_cases e : i = t
    · subst e
      exact Nat.dvd_lcm_right _ _
    · exact Nat.dvd_trans (ih i (by omega)) (Nat.dvd_lcm_left _ _)
theorem lcmT_mono (p : Nat → Nat) (n t d : Nat) : lcmT p n t ∣ lcmT p n (t + d) := by
  induction d with
  | zero => exact Nat.dvd_refl _
  | succ d ih => exact Nat.dvd_trans ih (Nat.dvd_lcm_left _ _)
theorem lcmT_le (p : Nat → Nat) (n t u : Nat) (h : t ≤ u) : lcmT p n t ≤ lcmT p n u := by
  obtain ⟨d, rfl⟩ : ∃ d, u = t + d := ⟨u - t, by omega⟩
  exact Nat.le_of_dvd (lcmT_pos p n _) (lcmT_mono p n t d)
/-- a place whose cycle holds a lesser one adds nothing -/
theorem lcmT_skip {p : Nat → Nat} {n : Nat} (h : Exch p n) (t k : Nat) (ht : t < n) (hl : itp p k t < t) : lcmT p n (t + 1) = lcmT p n t := by
  rw [lcmT]
  have h1 := lcmT_dvd p n t _ hl
  rw [cyc_on h k t ht] at h1
  exact Nat.dvd_antisymm (Nat.lcm_dvd (Nat.dvd_refl _) h1) (Nat.dvd_lcm_left _ _)
theorem lcmT_step (p : Nat → Nat) (n t c : Nat) (hc : cyc p n t = c) : lcmT p n t / Nat.gcd (lcmT p n t) c * c = lcmT p n (t + 1) := by
  rw [lcmT, hc, Nat.lcm, Nat.mul_comm (lcmT p n t) c, Nat.mul_div_assoc _ (Nat.gcd_dvd_left _ _), Nat.mul_comm]
/-- behind how many times all places come back, if that is not too great -/
def ret (p : Nat → Nat) (n : Nat) : Int × Bool := if lcmT p n n ≤ 1000000000 then ((lcmT p n n : Nat), true) else (0, false)
/-- the exchange that a list is -/
def exOf (ps : List Int) : Nat → Nat := fun i => (ps.getD i 0).toNat
theorem exch_of (ps : List Int) (n : Nat) (hn : ps.length = n) (hb : ∀ x ∈ ps, 0 ≤ x ∧ x < (n : Int)) (hd : ps.Nodup) : Exch (exOf ps) n := by
  have hg : ∀ i, i < n → ∃ h : i < ps.length, ps.getD i 0 = ps[i] := fun i hi => by
    have h : i < ps.length := by omega
    exact ⟨h, by rw [List.getD_eq_getElem?_getD, List.getElem?_eq_getElem h]; rfl⟩
  refine ⟨fun i hi => ?_, fun i j hi hj e => ?_⟩
  · obtain ⟨h, e⟩ := hg i hi
    have := hb _ (List.getElem_mem h)
    unfold exOf
    rw [e]
    omega
  · obtain ⟨h1, e1⟩ := hg i hi
    obtain ⟨h2, e2⟩ := hg j hj
    have b1 := hb _ (List.getElem_mem h1)
    have b2 := hb _ (List.getElem_mem h2)
    unfold exOf at e
    rw [e1, e2] at e
    have e3 : ps[i] = ps[j] := by omega
    have hp := List.pairwise_iff_getElem.1 hd
    rcases Nat.lt_trichotomy i j with hij | hij | hij
    · exact absurd e3 (hp i j h1 h2 hij)
    · exact hij
    · exact absurd e3.symm (hp j i h2 h1 hij)
end Go.Proofs.YtpajmgonceepoabDoor
namespace Go.Proofs.YtpajmgonceepoabDoor
open Go.ChangeShapes Go.WideShapes Go.ChangeAt Go.RowKit
end Go.Proofs.YtpajmgonceepoabDoor
namespace Go.Proofs.YtpajmgonceepoabDoor
open Go.ChangeShapes Go.WideShapes Go.ChangeAt Go.RowKit

theorem milk_part (xs : List Int) : ∀ j, 2 * j ≤ xs.length → (milkN xs j ++ (xs.drop j).take (xs.length - 2 * j)).Perm xs
  | 0, _ => by simp [milkN]
  | j + 1, h => by
    refine List.Perm.trans ?_ (milk_part xs j (by omega))
    have h1 : j < xs.length := by omega
    have h2 : xs.length - 1 - j < xs.length := by omega
    have e : (xs.drop j).take (xs.length - 2 * j) = xs.getD j 0 :: ((xs.drop (j + 1)).take (xs.length - 2 * (j + 1)) ++ [xs.getD (xs.length - 1 - j) 0]) := by
      rw [List.drop_eq_getElem_cons h1, show xs.length - 2 * j = (xs.length - 2 * (j + 1) + 1) + 1 by omega, List.take_succ_cons]
      congr 1
      · rw [List.getD_eq_getElem?_getD, List.getElem?_eq_getElem h1]; rfl
      · rw [List.take_succ_eq_append_getElem (by rw [List.length_drop]; omega), List.getElem_drop]
        congr 2
        rw [List.getD_eq_getElem?_getD, List.getElem?_eq_getElem h2]
        have : j + 1 + (xs.length - 2 * (j + 1)) = xs.length - 1 - j := by omega
        simp [this]
    rw [e, milkN]
    obtain ⟨r, hr⟩ : ∃ r, (xs.drop (j + 1)).take (xs.length - 2 * (j + 1)) = r := ⟨_, rfl⟩
    rw [hr]
    obtain ⟨x, hx⟩ : ∃ x, xs.getD j 0 = x := ⟨_, rfl⟩
    obtain ⟨y, hy⟩ : ∃ y, xs.getD (xs.length - 1 - j) 0 = y := ⟨_, rfl⟩
    rw [hx, hy]
    refine List.Perm.symm (List.perm_middle.trans ?_)
    refine List.Perm.cons x ?_
    rw [← List.append_assoc]
    exact List.perm_append_singleton y (milkN xs j ++ r)
theorem milk_perm (xs : List Int) : (milk xs).Perm xs := by
  refine List.Perm.trans ?_ (milk_part xs (xs.length / 2) (by omega))
  unfold milk
  split
  · rename_i h
    have h1 : xs.length / 2 < xs.length := by omega
    rw [show xs.length - 2 * (xs.length / 2) = 0 + 1 by omega, List.drop_eq_getElem_cons h1, List.take_succ_cons, List.take_zero]
    have e : xs.getD (xs.length / 2) 0 = xs[xs.length / 2] := by rw [List.getD_eq_getElem?_getD, List.getElem?_eq_getElem h1]; rfl
    rw [e]
    exact (List.perm_append_singleton _ _).symm
  · rw [show xs.length - 2 * (xs.length / 2) = 0 by omega, List.take_zero, List.append_nil]
theorem mon_part (xs : List Int) : ∀ j, j ≤ xs.length → (monN xs j).Perm (xs.take j)
  | 0, _ => by simp [monN]
  | j + 1, h => by
    have h1 : j < xs.length := by omega
    have e : xs.getD j 0 = xs[j] := by rw [List.getD_eq_getElem?_getD, List.getElem?_eq_getElem h1]; rfl
    rw [List.take_succ_eq_append_getElem h1, ← e, monN]
    have hp := mon_part xs j (by omega)
    split
    · exact (hp.cons _).trans (List.perm_append_singleton _ _).symm
    · exact hp.append_right _
theorem monge_perm (xs : List Int) : (monge xs).Perm xs := by
  have := mon_part xs xs.length (Nat.le_refl _)
  rw [List.take_length] at this
  exact this
theorem perm_places {l : List Int} {n : Nat} (h : l.Perm (marks 0 n)) : (∀ x ∈ l, 0 ≤ x ∧ x < (n : Int)) ∧ l.Nodup :=
  ⟨fun x hx => marks_mem n x (h.mem_iff.1 hx), h.nodup_iff.2 (marks_nodup 0 n)⟩
/-- the deal as an exchange of places -/
theorem deal_perm (n : Nat) (u : Int) : (deal (marks 0 n) (List.replicate n u)).Perm (marks 0 n) := by
  rw [deal_same]
  exact outs_perm (u + 1) n _ (marks_length 0 n)

end Go.Proofs.YtpajmgonceepoabDoor
namespace Go.Proofs.YtpajmgonceepoabDoor
open Go.ChangeShapes Go.WideShapes Go.ChangeAt Go.RowKit

theorem SlT.atd {w : World} {B : Nat} {v : Value} {ls : List (List UInt8)} (h : SlT w B v ls) (hp : 0 < ls.length) :
    ∃ g cap, v = .slice (some ⟨g, 0, none⟩) ls.length cap ∧ ls.length ≤ cap ∧ ∀ j, j < ls.length → w.cell? ⟨g, j, none⟩ = some (sval (ls.getD j [])) := by
  rcases h.2 with ⟨rfl, hn⟩ | ⟨g, cap, cur, rfl, hb, hg, h1, h2, h3, h4⟩
  · omega
  · refine ⟨g, cap, rfl, h1, fun j hj => ?_⟩
    have e : cur.toList[j]? = (ls.map sval)[j]? := by
      rw [← h4, List.getElem?_take_of_lt (by omega)]
    simp only [World.cell?, hg]
    rw [← Array.getElem?_toList, e]
    simp [hj]
/-- a letter; a word -/
def letter (b : UInt8) : Bool := decide (97 ≤ b.toNat ∧ b.toNat ≤ 122)
def okWord (w : List UInt8) : Bool := decide (1 ≤ w.length ∧ w.length ≤ 20) && w.all letter
/-- how many letters the words have -/
def lens (ws : List (List UInt8)) : List Int := ws.map (fun w => (w.length : Int))
/-- whether a text is words, so many at most -/
def spellB (l : List UInt8) : Bool := decide (l.length ≤ 2184) && (sp 32 [] l).all okWord && decide ((sp 32 [] l).length ≤ 104)
theorem sp_one (b : UInt8) : ∀ (l cur : List UInt8), 1 ≤ (sp b cur l).length
  | [], cur => by simp [sp]
  | c :: r, cur => by
    rw [sp]
    split
    · simp
    · exact sp_one b r _
theorem sp_few (b : UInt8) : ∀ (l cur : List UInt8), (sp b cur l).length ≤ l.length + 1
  | [], cur => by simp [sp]
  | c :: r, cur => by
    rw [sp]
    split
    · have := sp_few b r []
      simp only [List.length_cons]
      omega
    · have := sp_few b r (cur ++ [c])
      simp only [List.length_cons]
      omega
theorem sp_short (b : UInt8) (k : Nat) : ∀ (l cur : List UInt8), cur.length + l.length ≤ k → ∀ w ∈ sp b cur l, w.length ≤ k
  | [], cur, h, w, hw => by
    simp [sp] at hw
    subst hw
    simp at h
    omega
  | c :: r, cur, h, w, hw => by
    rw [List.length_cons] at h
    rw [sp] at hw
    split at hw
    · rcases List.mem_cons.1 hw with rfl | hw
      · omega
      · exact sp_short b k r [] (by simp; omega) w hw
    · exact sp_short b k r (cur ++ [c]) (by simp; omega) w hw
theorem lens_snoc (ws : List (List UInt8)) (j : Nat) (h : j < ws.length) : lens (ws.take (j + 1)) = lens (ws.take j) ++ [((ws.getD j []).length : Int)] := by
  unfold lens
  rw [List.take_succ_eq_append_getElem h, List.map_append, List.getD_eq_getElem?_getD, List.getElem?_eq_getElem h]
  rfl
theorem okWord_bad (w : List UInt8) (i : Nat) (h : i < w.length) (hb : w[i].toNat < 97 ∨ 122 < w[i].toNat) : okWord w = false := by
  have : w.all letter = false := by
    rw [List.all_eq_false]
    refine ⟨w[i], List.getElem_mem h, ?_⟩
    unfold letter
    simp
    omega
  unfold okWord
  rw [this, Bool.and_false]
theorem okWord_good (w : List UInt8) (h1 : 1 ≤ w.length) (h2 : w.length ≤ 20) (h : ∀ i (hi : i < w.length), 97 ≤ w[i].toNat ∧ w[i].toNat ≤ 122) : okWord w = true := by
  have : w.all letter = true := by
    rw [List.all_eq_true]
    intro x hx
    obtain ⟨i, hi, e⟩ := List.mem_iff_getElem.1 hx
    have := h i hi
    rw [e] at this
    exact decide_eq_true this
  unfold okWord
  rw [this, Bool.and_true]
  exact decide_eq_true ⟨h1, h2⟩
theorem spell_bad (l : List UInt8) (j : Nat) (hj : j < (sp 32 [] l).length) (h : okWord ((sp 32 [] l).getD j []) = false) : spellB l = false := by
  have : (sp 32 [] l).all okWord = false := by
    rw [List.all_eq_false]
    refine ⟨(sp 32 [] l)[j], List.getElem_mem hj, ?_⟩
    rw [List.getD_eq_getElem?_getD, List.getElem?_eq_getElem hj] at h
    simp at h
    simp [h]
  unfold spellB
  rw [this, Bool.and_false, Bool.false_and]
theorem spell_good (l : List UInt8) (hl : l.length ≤ 2184) (h : ∀ j, j < (sp 32 [] l).length → okWord ((sp 32 [] l).getD j []) = true) : spellB l = decide ((sp 32 [] l).length ≤ 104) := by
  have : (sp 32 [] l).all okWord = true := by
    rw [List.all_eq_true]
    intro x hx
    obtain ⟨j, hj, e⟩ := List.mem_iff_getElem.1 hx
    have := h j hj
    rw [List.getD_eq_getElem?_getD, List.getElem?_eq_getElem hj] at this
    simpa [e] using this
  unfold spellB
  rw [this, Bool.and_true, decide_eq_true hl, Bool.true_and]
/-- the result: a list and whether there are words; the list counts only if so -/
def Spelt (W : World) (l : List UInt8) (e : Ending) (w' : World) : Prop := ∃ v, e = .returned (.tuple #[v, .bool (spellB l)]) ∧ (spellB l = true → Sl w' W.heap.size v (lens (sp 32 [] l))) ∧ Kp Nw W w'

set_option maxRecDepth 100000 in
set_option maxHeartbeats 3200000 in
theorem caSpell_any (l : List UInt8) (W : World) (hl : l.length ≤ 1048576) : Calls Tryd.prog 21 #[.string ⟨l.toArray⟩] W (Spelt W l) := by
  obtain ⟨n, hn⟩ : ∃ n, l.length = n := ⟨_, rfl⟩
  have hsz : (ByteArray.mk l.toArray).size = n := by rw [← hn]; rfl
  have n0 : (0 : Int) ≤ n := Int.natCast_nonneg _
  by_cases hbig : 2184 < n
  · have h1 : (2184 : Int) < n := by omega
    have HF : Hid (spellB l = false) := Lib.hid (by unfold spellB; rw [decide_eq_false (by omega), Bool.false_and, Bool.false_and])
    clear hn
    go_enter Tryd.func21, Tryd.ntmps21
    go_wp2
    go_ret2
    refine ⟨.slice none 0 0, by rw [HF.out]; rfl, fun h => ?_, Kp.refl _ _⟩
    rw [HF.out] at h
    cases h
  · have h1 : ¬ (2184 : Int) < n := by omega
    obtain ⟨m, hm⟩ : ∃ m, (sp 32 [] l).length = m := ⟨_, rfl⟩
    have hm1 : 1 ≤ m := hm ▸ sp_one 32 l []
    have hm2 : m ≤ 2185 := by have := sp_few 32 l []; omega
    have HSH : Hid (∀ w ∈ sp 32 [] l, w.length ≤ 2184) := Lib.hid (sp_short 32 2184 l [] (by simp; omega))
    have HM := Lib.hid hm
    have HLL := Lib.hid (show l.length ≤ 2184 by omega)
    have m0 : (0 : Int) ≤ m := Int.natCast_nonneg _
    clear hn hm
    go_enter Tryd.func21, Tryd.ntmps21
    go_wp2_with fail
    refine (l1Split_any l 32 W hl).mono ?_
    rintro e w1 ⟨v, rfl, hs1, hk1⟩
    obtain ⟨g, cap, rfl, hc1, hcell⟩ := hs1.atd (by rw [HM.out]; exact hm1)
    rw [HM.out] at hc1 hcell ⊢
    have HC := Lib.hid hcell
    have HK1 := Lib.hid hk1
    clear hs1 hk1 hcell
    go_wp2
    go_loopw [4, 14] (fun o i wr => ∃ (j : Nat) (r : Value), j ≤ m ∧ i = .int .i64 j ∧ r = o ∧ Sl wr w1.heap.size r (lens ((sp 32 [] l).take j)) ∧ (∀ k, k < j → okWord ((sp 32 [] l).getD k []) = true) ∧ Kp Nw w1 wr) (fun _ i _ => m - (intOf i).toNat)
    case atStart => exact ⟨0, _, Nat.zero_le _, rfl, rfl, Sl.nil _ _, fun k hk => by omega, Kp.refl _ _⟩
    case round =>
      obtain ⟨j, r, hj, rfl, rfl, hr, hok, hkw⟩ := hrel
      have HR := Lib.hid hr
      have HK := Lib.hid (HK1.out.nw hkw)
      have HKW := Lib.hid hkw
      have HOK := Lib.hid hok
      have j0 : (0 : Int) ≤ j := Int.natCast_nonneg _
      clear hr hkw hok
      by_cases hlt : j < m
      · have j1 : (j : Int) < m := by omega
        have hjl : j < (sp 32 [] l).length := by rw [HM.out]; exact hlt
        have c0 := keepc HKW.out (HC.out j hlt) (fun h => h)
        have HW : Hid ((sp 32 [] l).getD j [] ∈ sp 32 [] l) := Lib.hid (by rw [List.getD_eq_getElem?_getD, List.getElem?_eq_getElem hjl]; exact List.getElem_mem hjl)
        have HSN := Lib.hid (lens_snoc (sp 32 [] l) j hjl)
        have HBAD := Lib.hid (spell_bad l j hjl)
        have hrl : (lens ((sp 32 [] l).take j)).length ≤ 100000 := by unfold lens; rw [List.length_map, List.length_take]; omega
        obtain ⟨w, hw⟩ : ∃ w, (sp 32 [] l).getD j [] = w := ⟨_, rfl⟩
        rw [hw] at c0 HW HSN HBAD
        have HWE := Lib.hid hw
        obtain ⟨k, hkl⟩ : ∃ k, w.length = k := ⟨_, rfl⟩
        have hsw : (ByteArray.mk w.toArray).size = k := by rw [← hkl]; rfl
        have HKL := Lib.hid hkl
        have hks : k ≤ 2184 := by rw [← hkl]; exact HSH.out w HW.out
        have k0 : (0 : Int) ≤ k := Int.natCast_nonneg _
        replace c0 : wr.cell? ⟨g, j, none⟩ = some (.string ⟨w.toArray⟩) := c0
        clear hw hkl hjl
        by_cases hk20 : 1 ≤ k ∧ k ≤ 20
        · have y1 : (1 : Int) ≤ k := by omega
          have y2 : (k : Int) ≤ 20 := by omega
          go_wp2_with (first | ((with_reducible refine (l1In_yes (k : Int) 1 20 _ y1 y2).mono ?_); rintro e w' ⟨rfl, rfl⟩))
          go_loopw [7] (fun u wx => ∃ (q : Nat) (z : Value), q ≤ k ∧ z = u ∧ wx = wr.iter ⟨w.toArray⟩ q ∧ ∀ i (hi : i < w.length), i < q → 97 ≤ w[i].toNat ∧ w[i].toNat ≤ 122) (fun _ wx => k - wx.iterPos wr.heap.size)
          case atStart => exact ⟨0, _, Nat.zero_le _, rfl, rfl, fun i hi h => by omega⟩
          case round =>
            obtain ⟨q, z, hq, rfl, rfl, hlet⟩ := hrel
            have HLT := Lib.hid hlet
            have q0 : (0 : Int) ≤ q := Int.natCast_nonneg _
            have hki : Kp Nw wr (wr.iter ⟨w.toArray⟩ q) := Kp.al wr _
            clear hlet
            by_cases hp : q < k
            · have hql : q < w.length := by rw [HKL.out]; exact hp
              have hqs : q < (ByteArray.mk w.toArray).size := by rw [hsw]; exact hp
              have bj := bget w q hql hqs
              obtain ⟨c, hcw⟩ : ∃ c, w[q]'hql = c := ⟨_, rfl⟩
              rw [hcw] at bj
              have HCW := Lib.hid hcw
              have p1 : (q : Int) < k := by omega
              clear hcw
              by_cases hgo : 97 ≤ c.toNat ∧ c.toNat ≤ 122
              · have hnx : ∀ ty, (Instr.next (.pointer (some ⟨wr.heap.size, 0, none⟩)) true ty).run Tryd.prog (wr.iter ⟨w.toArray⟩ q) = .ok (.tuple #[.bool true, .int .i64 q, .int .i32 (c.toNat)]) (wr.iter ⟨w.toArray⟩ (q + 1)) := fun ty => by
                  have := run_next_ascii (P := Tryd.prog) wr ⟨w.toArray⟩ q ty hqs (by rw [bj]; omega)
                  rw [bj] at this
                  exact this
                have y3 : ¬ (c.toNat : Int) < 97 := by omega
                have y4 : ¬ (122 : Int) < c.toNat := by omega
                go_wp2
                go_roundw
                case rel =>
                  refine ⟨q + 1, _, by omega, rfl, rfl, fun i hi h => ?_⟩
                  by_cases e : i = q
                  · subst e
                    rw [HCW.out]
                    exact hgo
                  · exact HLT.out i hi (by omega)
                case measure => simp [World.iterPos_iter] <;> omega
              · have hnx := fun ty => run_next_any (P := Tryd.prog) wr ⟨w.toArray⟩ q ty hqs
                have HB := Lib.hid (HBAD.out (okWord_bad w q hql (by rw [HCW.out]; omega)))
                have hkf : ∀ d, Kp Nw W (wr.iter ⟨w.toArray⟩ d) := fun d => HK.out.nw (Kp.al wr _)
                by_cases hlo : c.toNat < 97
                · have y3 : (c.toNat : Int) < 97 := by omega
                  go_wp2
                  go_ret2
                  refine ⟨.slice none 0 0, by rw [HB.out]; rfl, fun h => ?_, hkf _⟩
                  rw [HB.out] at h
                  cases h
                · have y3 : ¬ (c.toNat : Int) < 97 := by omega
                  have y4 : (122 : Int) < c.toNat := by omega
                  go_wp2
                  go_ret2
                  refine ⟨.slice none 0 0, by rw [HB.out]; rfl, fun h => ?_, hkf _⟩
                  rw [HB.out] at h
                  cases h
            · have e : q = k := by omega
              subst e
              have hnx := fun ty => run_next_end (P := Tryd.prog) wr ⟨w.toArray⟩ q ty (by rw [hsw]; omega)
              have HGW := Lib.hid (okWord_good w (by rw [HKL.out]; exact hk20.1) (by rw [HKL.out]; exact hk20.2) (fun i hi => HLT.out i hi (by rw [HKL.out] at hi; exact hi)))
              have HRI := Lib.hid (HR.out.below hki.below')
              have HKWI := Lib.hid (HKW.out.nw hki)
              have hzi : w1.heap.size ≤ (wr.iter ⟨w.toArray⟩ q).heap.size := HKWI.out.size
              go_wp2_with (first | (at_builtin; refine wpList_app _ rfl (.tmp 37) (.tmp 40) rfl w1.heap.size r _ (lens ((sp 32 [] l).take j)) [(q : Int)] rfl rfl (HRI.out.below ((Kp.refl Nw (wr.iter ⟨w.toArray⟩ q)).alloc _).below') (Rd.one (g := (wr.iter ⟨w.toArray⟩ q).heap.size) (by simp)) nil_one (by simp; omega) (by simp; omega) ?_))
              intro r' w3 hs3 hk3 hat
              have HS3 : Hid (Sl w3 w1.heap.size r' (lens ((sp 32 [] l).take (j + 1)))) := Lib.hid (by rw [HSN.out, HKL.out]; exact hs3)
              have HK3 := Lib.hid ((HKWI.out.nw (.al _ _)).own (HRI.out.below (Kp.al _ _).below') hk3)
              clear hs3 hk3 hat
              go_wp2
              go_roundw
              case rel =>
                refine ⟨j + 1, r', by omega, by go_num, rfl, HS3.out, fun k hk => ?_, HK3.out⟩
                by_cases e : k = j
                · subst e
                  rw [HWE.out]
                  exact HGW.out
                · exact HOK.out k (by omega)
              case measure => simp [intOf] <;> omega
        · have HB := Lib.hid (HBAD.out (by unfold okWord; rw [HKL.out, decide_eq_false hk20, Bool.false_and]))
          have y1 : (k : Int) < 1 ∨ (20 : Int) < k := by omega
          go_wp2_with (first | ((with_reducible refine (l1In_no (k : Int) 1 20 _ y1).mono ?_); rintro e w' ⟨rfl, rfl⟩))
          go_ret2
          refine ⟨.slice none 0 0, by rw [HB.out]; rfl, fun h => ?_, HK.out⟩
          rw [HB.out] at h
          cases h
      · have e : j = m := by omega
        subst e
        have HG : Hid (spellB l = decide (j ≤ 104)) := Lib.hid (by rw [spell_good l HLL.out (fun k hk => HOK.out k (by rw [HM.out] at hk; exact hk)), HM.out])
        have HT : Hid (lens ((sp 32 [] l).take j) = lens (sp 32 [] l)) := Lib.hid (by rw [List.take_of_length_le (by rw [HM.out]; exact Nat.le_refl _)])
        have hlj : (lens ((sp 32 [] l).take j)).length = j := by unfold lens; rw [List.length_map, List.length_take, HM.out, Nat.min_self]
        obtain ⟨Ar, cr, rfl⟩ := HR.out.val hlj
        rw [HT.out] at HR
        have HR := Lib.hid (Sl.from HR.out HK1.out.size)
        by_cases hf : j ≤ 104
        · have y1 : (j : Int) ≤ 104 := by omega
          go_wp2
          go_ret2
          exact ⟨.slice Ar j cr, by rw [HG.out, decide_eq_true hf]; rfl, fun _ => HR.out, HK.out⟩
        · have y1 : ¬ (j : Int) ≤ 104 := by omega
          go_wp2
          go_ret2
          refine ⟨.slice Ar j cr, by rw [HG.out, decide_eq_false hf]; rfl, fun _ => HR.out, HK.out⟩
end Go.Proofs.YtpajmgonceepoabDoor
namespace Go.Proofs.YtpajmgonceepoabDoor
open Go.ChangeShapes Go.WideShapes Go.ChangeAt Go.RowKit

theorem lens_length (ws : List (List UInt8)) : (lens ws).length = ws.length := by unfold lens; rw [List.length_map]
theorem spell_parts {l : List UInt8} (h : spellB l = true) : (sp 32 [] l).length ≤ 104 ∧ (lens (sp 32 [] l)).all (okR 0 1000) = true := by
  unfold spellB at h
  rw [Bool.and_eq_true, Bool.and_eq_true] at h
  refine ⟨of_decide_eq_true h.2, ?_⟩
  rw [List.all_eq_true]
  intro x hx
  unfold lens at hx
  obtain ⟨w, hw, rfl⟩ := List.mem_map.1 hx
  have h1 := List.all_eq_true.1 h.1.2 w hw
  unfold okWord at h1
  rw [Bool.and_eq_true] at h1
  have h2 := of_decide_eq_true h1.1
  exact decide_eq_true ⟨by omega, by omega⟩

theorem sSpellCounts_no (l : List UInt8) (W : World) (hl : l.length ≤ 1048576) (hb : spellB l = false) : Calls Tryd.prog 10 #[.string ⟨l.toArray⟩] W (ListB W [] false) := by
  have HB := Lib.hid hb
  clear hb
  go_enter Tryd.func10, Tryd.ntmps10
  go_wp2_with fail
  refine (caSpell_any l W hl).mono ?_
  rintro e w1 ⟨v, rfl, _, hk1⟩
  rw [HB.out]
  have HK := Lib.hid hk1
  clear hk1
  go_wp2
  go_ret2
  exact ⟨.slice none 0 0, rfl, Sl.nil _ _, HK.out⟩
theorem sSpellCounts_yes (l : List UInt8) (W : World) (hl : l.length ≤ 1048576) (hb : spellB l = true) : Calls Tryd.prog 10 #[.string ⟨l.toArray⟩] W (ListB W (lens (sp 32 [] l)) true) := by
  have HB := Lib.hid hb
  clear hb
  go_enter Tryd.func10, Tryd.ntmps10
  go_wp2_with fail
  refine (caSpell_any l W hl).mono ?_
  rintro e w1 ⟨v, rfl, hs1, hk1⟩
  have HS := Lib.hid (hs1 HB.out)
  have HK := Lib.hid hk1
  rw [HB.out]
  clear hk1 hs1
  go_wp2
  go_ret2
  exact ⟨v, rfl, HS.out, HK.out⟩

end Go.Proofs.YtpajmgonceepoabDoor
namespace Go.Proofs.YtpajmgonceepoabDoor
open Go.ChangeShapes Go.WideShapes Go.ChangeAt Go.RowKit

theorem set0_len (n : Nat) (u : Int) : ((List.replicate n u).set 0 0).length = n := by rw [List.length_set, List.length_replicate]

def vDealDeck (xs : List Int) (u : Int) : List Int × Bool := if deckB xs = true ∧ 0 ≤ u ∧ u ≤ 1000 then (deal xs (List.replicate xs.length u), true) else ([], false)
theorem vDealDeck_len (xs : List Int) (u : Int) : (vDealDeck xs u).1.length ≤ 1000000 := by
  unfold vDealDeck
  split
  · rename_i h
    have h1 := deckB_parts (show deckB xs = true from h.1)
    show (deal xs (List.replicate xs.length u)).length ≤ 1000000
    rw [deal_length, List.length_replicate]; omega
  · exact Nat.zero_le _
def vDeckFor (xs : List Int) (u : Int) : List Int × Bool := if deckB xs = true ∧ 0 ≤ u ∧ u ≤ 1000 then (scat xs (deal (marks 0 xs.length) (List.replicate xs.length u)), true) else ([], false)
theorem vDeckFor_len (xs : List Int) (u : Int) : (vDeckFor xs u).1.length ≤ 1000000 := by
  unfold vDeckFor
  split
  · rename_i h
    have h1 := deckB_parts (show deckB xs = true from h.1)
    show (scat xs (deal (marks 0 xs.length) (List.replicate xs.length u))).length ≤ 1000000
    rw [scat_length]; omega
  · exact Nat.zero_le _
def vDealFirst (xs : List Int) (u : Int) : List Int × Bool := if deckB xs = true ∧ 0 ≤ u ∧ u ≤ 1000 then (deal xs ((List.replicate xs.length u).set 0 0), true) else ([], false)
theorem vDealFirst_len (xs : List Int) (u : Int) : (vDealFirst xs u).1.length ≤ 1000000 := by
  unfold vDealFirst
  split
  · rename_i h
    have h1 := deckB_parts (show deckB xs = true from h.1)
    show (deal xs ((List.replicate xs.length u).set 0 0)).length ≤ 1000000
    rw [deal_length, set0_len]; omega
  · exact Nat.zero_le _
def vDealTimes (xs : List Int) (u t : Int) : List Int × Bool := if deckB xs = true ∧ 0 ≤ u ∧ u ≤ 1000 ∧ 0 ≤ t ∧ t ≤ 100 then (deals u t.toNat xs, true) else ([], false)
theorem vDealTimes_len (xs : List Int) (u t : Int) : (vDealTimes xs u t).1.length ≤ 1000000 := by
  unfold vDealTimes
  split
  · rename_i h
    have h1 := deckB_parts (show deckB xs = true from h.1)
    show (deals u t.toNat xs).length ≤ 1000000
    rw [deals_length]; omega
  · exact Nat.zero_le _
def vCutDeck (xs : List Int) (a : Int) : List Int × Bool := if deckB xs = true ∧ 0 ≤ a ∧ a ≤ (xs.length : Int) then (rot xs a.toNat, true) else ([], false)
theorem vCutDeck_len (xs : List Int) (a : Int) : (vCutDeck xs a).1.length ≤ 1000000 := by
  unfold vCutDeck
  split
  · rename_i h
    have h1 := deckB_parts (show deckB xs = true from h.1)
    show (rot xs a.toNat).length ≤ 1000000
    rw [rot_length]; omega
  · exact Nat.zero_le _
def vBackDeck (xs : List Int) : List Int × Bool := if deckB xs = true then (xs.reverse, true) else ([], false)
theorem vBackDeck_len (xs : List Int) : (vBackDeck xs ).1.length ≤ 1000000 := by
  unfold vBackDeck
  split
  · rename_i h
    have h1 := deckB_parts (show deckB xs = true from h)
    show (xs.reverse).length ≤ 1000000
    rw [List.length_reverse]; omega
  · exact Nat.zero_le _
def vMilkDeck (xs : List Int) : List Int × Bool := if deckB xs = true then (milk xs, true) else ([], false)
theorem vMilkDeck_len (xs : List Int) : (vMilkDeck xs ).1.length ≤ 1000000 := by
  unfold vMilkDeck
  split
  · rename_i h
    have h1 := deckB_parts (show deckB xs = true from h)
    show (milk xs).length ≤ 1000000
    rw [milk_length]; omega
  · exact Nat.zero_le _
def vMongeDeck (xs : List Int) : List Int × Bool := if deckB xs = true then (monge xs, true) else ([], false)
theorem vMongeDeck_len (xs : List Int) : (vMongeDeck xs ).1.length ≤ 1000000 := by
  unfold vMongeDeck
  split
  · rename_i h
    have h1 := deckB_parts (show deckB xs = true from h)
    show (monge xs).length ≤ 1000000
    unfold monge; rw [monN_length]; omega
  · exact Nat.zero_le _
def vDealCounts (xs us : List Int) : List Int × Bool := if deckB xs = true ∧ countsB xs.length us = true then (deal xs us, true) else ([], false)
theorem vDealCounts_len (xs us : List Int) : (vDealCounts xs us).1.length ≤ 1000000 := by
  unfold vDealCounts
  split
  · rename_i h
    have h1 := deckB_parts h.1
    have h2 := h.2
    unfold countsB at h2
    rw [Bool.and_eq_true] at h2
    have h3 := of_decide_eq_true h2.1
    show (deal xs us).length ≤ 1000000
    rw [deal_length]; omega
  · exact Nat.zero_le _
def vDeckForCounts (xs us : List Int) : List Int × Bool := if deckB xs = true ∧ countsB xs.length us = true then (scat xs (deal (marks 0 xs.length) us), true) else ([], false)
theorem vDeckForCounts_len (xs us : List Int) : (vDeckForCounts xs us).1.length ≤ 1000000 := by
  unfold vDeckForCounts
  split
  · rename_i h
    have h1 := deckB_parts h.1
    have h2 := h.2
    unfold countsB at h2
    rw [Bool.and_eq_true] at h2
    have h3 := of_decide_eq_true h2.1
    show (scat xs (deal (marks 0 xs.length) us)).length ≤ 1000000
    rw [scat_length]; omega
  · exact Nat.zero_le _
def vSpellCounts (l : List UInt8) : List Int × Bool := if spellB l = true then (lens (sp 32 [] l), true) else ([], false)
theorem vSpellCounts_len (l : List UInt8) : (vSpellCounts l).1.length ≤ 1000000 := by
  unfold vSpellCounts
  split
  · rename_i h
    have h1 := (spell_parts h).1
    show (lens (sp 32 [] l)).length ≤ 1000000
    rw [lens_length]
    omega
  · exact Nat.zero_le _
theorem sSpellCounts_all (l : List UInt8) (W : World) (hl : l.length ≤ 1048576) : Calls Tryd.prog 10 #[.string ⟨l.toArray⟩] W (ListB W (vSpellCounts l).1 (vSpellCounts l).2) := by
  unfold vSpellCounts
  by_cases h : spellB l = true
  · rw [if_pos h]
    exact sSpellCounts_yes l W hl h
  · rw [if_neg h]
    exact sSpellCounts_no l W hl (by simpa using h)
def vSpellDeck (xs : List Int) (l : List UInt8) : List Int × Bool := if spellB l = true ∧ deckB xs = true ∧ xs.length = (sp 32 [] l).length then (scat xs (deal (marks 0 xs.length) (lens (sp 32 [] l))), true) else ([], false)
theorem vSpellDeck_len (xs : List Int) (l : List UInt8) : (vSpellDeck xs l).1.length ≤ 1000000 := by
  unfold vSpellDeck
  split
  · rename_i h
    have h1 := deckB_parts h.2.1
    show (scat xs (deal (marks 0 xs.length) (lens (sp 32 [] l)))).length ≤ 1000000
    rw [scat_length]
    omega
  · exact Nat.zero_le _
def vDealsToReturn (p u : Int) : Int × Bool := if 1 ≤ p ∧ p ≤ 104 ∧ 0 ≤ u ∧ u ≤ 1000 then ret (exOf (deal (marks 0 p.toNat) (List.replicate p.toNat u))) p.toNat else (0, false)
def vLastDealt (p u : Int) : Int × Bool := if 1 ≤ p ∧ p ≤ 104 ∧ 0 ≤ u ∧ u ≤ 1000 then ((deal (marks 0 p.toNat) (List.replicate p.toNat u)).getD (p.toNat - 1) 0, true) else (0, false)
def vShufflesToReturn (p k : Int) : Int × Bool :=
  if 1 ≤ p ∧ p ≤ 104 then
    if k = 0 then ret (exOf (milk (marks 0 p.toNat))) p.toNat
    else if k = 1 then ret (exOf (monge (marks 0 p.toNat))) p.toNat
    else if k = 2 then ret (exOf (marks 0 p.toNat).reverse) p.toNat
    else (0, false)
  else (0, false)
end Go.Proofs.YtpajmgonceepoabDoor
namespace Go.Proofs.YtpajmgonceepoabDoor
open Go.ChangeShapes Go.WideShapes Go.ChangeAt Go.RowKit
end Go.Proofs.YtpajmgonceepoabDoor
namespace Go.Proofs.YtpajmgonceepoabDoor
open Go.ChangeShapes Go.WideShapes Go.ChangeAt Go.RowKit
end Go.Proofs.YtpajmgonceepoabDoor
namespace Go.Proofs.YtpajmgonceepoabDoor
open Go.ChangeShapes Go.WideShapes Go.ChangeAt Go.RowKit
end Go.Proofs.YtpajmgonceepoabDoor
namespace Go.Proofs.YtpajmgonceepoabDoor
open Go.ChangeShapes Go.WideShapes Go.ChangeAt Go.RowKit
end Go.Proofs.YtpajmgonceepoabDoor
namespace Go.Proofs.YtpajmgonceepoabDoor
open Go.ChangeShapes Go.WideShapes Go.ChangeAt Go.RowKit
end Go.Proofs.YtpajmgonceepoabDoor
namespace Go.Proofs.YtpajmgonceepoabDoor
open Go.ChangeShapes Go.WideShapes Go.ChangeAt Go.RowKit
end Go.Proofs.YtpajmgonceepoabDoor
namespace Go.Proofs.YtpajmgonceepoabDoor
open Go.ChangeShapes Go.WideShapes Go.ChangeAt Go.RowKit

set_option maxHeartbeats 800000 in
theorem lawSpellCounts_bigt (t : ByteArray) (W : World) (hmt : t.size ≤ maxLen) (hb : (1048576 : Int) < t.size) :
    Calls Tryd.prog 4 #[.string t] W fun e w' => e = .returned (.bool true) ∧ Kp Nw W w' := by
  have hb3 : (t.size : Int) ≤ 9223372036854775807 := by unfold maxLen at hmt; omega
  go_enter Tryd.func4, Tryd.ntmps4
  go_wp2
  go_ret
  exact ⟨rfl, Kp.refl _ _⟩

set_option maxHeartbeats 3200000 in
set_option maxRecDepth 100000 in
theorem lawSpellCounts_of (t : ByteArray) (zs : List Int) (b : Bool) (W : World) (ht : (t.size : Int) ≤ 1048576) (hlen : zs.length ≤ 1000000)
    (hS : Hid (∀ (W : World), Calls Tryd.prog 10 #[.string t] W (ListB W zs b))) (hI : Hid (∀ (V : World), Kp Nw W V → Calls Tryd.prog 11 #[.string t] V (ListB V zs b))) :
    Calls Tryd.prog 4 #[.string t] W fun e w' => e = .returned (.bool true) ∧ Kp Nw W w' := by
  obtain ⟨m, hm⟩ : ∃ m, zs.length = m := ⟨_, rfl⟩
  have HL : Hid (zs.length ≤ maxLen) := Lib.hid (by unfold maxLen; omega)
  have hlen : m ≤ 1000000 := by omega
  have hm0 : (0 : Int) ≤ m := Int.natCast_nonneg _
  have HM := Lib.hid hm
  clear hm
  have HK := Lib.hid (Kp.refl Nw W)
  go_enter Tryd.func4, Tryd.ntmps4
  go_wp2_with fail
  refine (hS.out _ ).mono ?_
  rintro e w1 ⟨v1, rfl, hs1, hk1⟩
  obtain ⟨A1, c1, rfl⟩ := hs1.val HM.out
  have HV1 := Lib.hid hs1
  have O1 : Hid (∀ g, (Value.slice A1 m c1).ownBlock = some g → W.heap.size ≤ g ∧ g < w1.heap.size) := Lib.hid hs1.own_ge
  have HK := Lib.hid (HK.out.nw hk1)
  have z1 : W.heap.size ≤ w1.heap.size := hk1.size
  clear hs1 hk1
  go_wp2_with fail
  refine (hI.out _ HK.out ).mono ?_
  rintro e w2 ⟨v2, rfl, hs2, hk2⟩
  obtain ⟨A2, c2, rfl⟩ := hs2.val HM.out
  have HV2 := Lib.hid hs2
  have O2 : Hid (∀ g, (Value.slice A2 m c2).ownBlock = some g → w1.heap.size ≤ g ∧ g < w2.heap.size) := Lib.hid hs2.own_ge
  have HV1 := Lib.hid (HV1.out.below hk2.below')
  have HK := Lib.hid (HK.out.nw hk2)
  have z2 : w1.heap.size ≤ w2.heap.size := hk2.size
  clear hs2 hk2
  go_wp2_with fail
  refine (eqIntS_same _ _ zs _ HV2.out.rd HV1.out.rd HL.out).mono ?_
  rintro e w3 ⟨rfl, d3, hd3⟩
  have hk3 : Kp Nw w2 w3 := by rw [hd3]; exact (Kp.refl _ _).drewN d3
  have z3 : w2.heap.size ≤ w3.heap.size := hk3.size
  clear hd3
  have HV1 := Lib.hid (HV1.out.below hk3.below')
  have HV2 := Lib.hid (HV2.out.below hk3.below')
  have HK := Lib.hid (HK.out.nw hk3)
  clear hk3
  go_wp2_with fail
  refine (markIntS_any _ zs 1 _ _ HV2.out (by omega) (by omega) (by rw [HM.out]; omega)).mono ?_
  rintro e w4 ⟨rfl, hs4, hk4⟩
  rw [HM.out] at hs4 ⊢
  have z4 : w3.heap.size ≤ w4.heap.size := hk4.size
  have HV1 := Lib.hid (HV1.out.kp hk4 (fun g a b => by have := O1.out g a; have := O2.out g b; omega))
  have HK := Lib.hid (HK.out.after hk4 (fun g hg h2 => by have := O2.out g h2; omega))
  have HV2 := Lib.hid hs4
  clear hs4 hk4
  go_wp2_with fail
  refine (heldIntS_any _ 1 m _ HV2.out.rd (by omega) (by omega) (by omega)).mono ?_
  rintro e w5 ⟨rfl, rfl⟩
  go_wp2_with fail
  refine (hI.out _ HK.out ).mono ?_
  rintro e w6 ⟨v6, rfl, hs6, hk6⟩
  obtain ⟨A6, c6, rfl⟩ := hs6.val HM.out
  have HV6 := Lib.hid hs6
  have O6 : Hid (∀ g, (Value.slice A6 m c6).ownBlock = some g → w4.heap.size ≤ g ∧ g < w6.heap.size) := Lib.hid hs6.own_ge
  have HV1 := Lib.hid (HV1.out.below hk6.below')
  have HV2 := Lib.hid (HV2.out.below hk6.below')
  have HK := Lib.hid (HK.out.nw hk6)
  have z6 : w4.heap.size ≤ w6.heap.size := hk6.size
  clear hs6 hk6
  go_wp2_with fail
  refine (eqIntS_same _ _ zs _ HV6.out.rd HV1.out.rd HL.out).mono ?_
  rintro e w7 ⟨rfl, d7, hd7⟩
  have hk7 : Kp Nw w6 w7 := by rw [hd7]; exact (Kp.refl _ _).drewN d7
  have z7 : w6.heap.size ≤ w7.heap.size := hk7.size
  clear hd7
  have HV1 := Lib.hid (HV1.out.below hk7.below')
  have HV2 := Lib.hid (HV2.out.below hk7.below')
  have HV6 := Lib.hid (HV6.out.below hk7.below')
  have HK := Lib.hid (HK.out.nw hk7)
  clear hk7
  go_wp2_with fail
  refine (heldIntS_any _ 1 m _ HV2.out.rd (by omega) (by omega) (by omega)).mono ?_
  rintro e wl ⟨rfl, rfl⟩
  go_wp2
  go_ret
  exact ⟨rfl, HK.out⟩
end Go.Proofs.YtpajmgonceepoabDoor
namespace Go.Proofs.YtpajmgonceepoabDoor
open Go.ChangeShapes Go.WideShapes Go.ChangeAt Go.RowKit
end Go.Proofs.YtpajmgonceepoabDoor
namespace Go.Proofs.YtpajmgonceepoabDoor
open Go.ChangeShapes Go.WideShapes Go.ChangeAt Go.RowKit
end Go.Proofs.YtpajmgonceepoabDoor
namespace Go.Proofs.YtpajmgonceepoabDoor
open Go.ChangeShapes Go.WideShapes Go.ChangeAt Go.RowKit
end Go.Proofs.YtpajmgonceepoabDoor
namespace Go.Proofs.YtpajmgonceepoabDoor
open Go.ChangeShapes Go.WideShapes Go.ChangeAt Go.RowKit
end Go.Proofs.YtpajmgonceepoabDoor
namespace Go.Proofs.YtpajmgonceepoabDoor
open Go.ChangeShapes Go.WideShapes Go.ChangeAt Go.RowKit
end Go.Proofs.YtpajmgonceepoabDoor
namespace Go.Proofs.YtpajmgonceepoabDoor
open Go.ChangeShapes Go.WideShapes Go.ChangeAt Go.RowKit
end Go.Proofs.YtpajmgonceepoabDoor
namespace Go.Proofs.YtpajmgonceepoabDoor
open Go.ChangeShapes Go.WideShapes Go.ChangeAt Go.RowKit
end Go.Proofs.YtpajmgonceepoabDoor
namespace Go.Proofs.YtpajmgonceepoabDoor
open Go.ChangeShapes Go.WideShapes Go.ChangeAt Go.RowKit
end Go.Proofs.YtpajmgonceepoabDoor
namespace Go.Proofs.YtpajmgonceepoabDoor
open Go.ChangeShapes Go.WideShapes Go.ChangeAt Go.RowKit
end Go.Proofs.YtpajmgonceepoabDoor
namespace Go.Proofs.YtpajmgonceepoabDoor
open Go.ChangeShapes Go.WideShapes Go.ChangeAt Go.RowKit
theorem str_list (t : ByteArray) : t = ⟨t.data.toList.toArray⟩ := by cases t; simp
theorem lawSpellCounts (t : ByteArray) (W : World) (hm : t.size ≤ maxLen)
    (hI : ∀ (V : World), Kp Nw W V → t.size ≤ 1048576 → Calls Tryd.prog 11 #[.string t] V (ListB V (vSpellCounts t.data.toList).1 (vSpellCounts t.data.toList).2)) :
    Calls Tryd.prog 4 #[.string t] W fun e w' => e = .returned (.bool true) ∧ Kp Nw W w' := by
  by_cases hl : t.size ≤ 1048576
  · refine lawSpellCounts_of t _ _ W (by omega) (vSpellCounts_len t.data.toList) (Lib.hid fun W => ?_) (Lib.hid fun V hk => hI V hk hl)
    have h := sSpellCounts_all t.data.toList W (by rw [Array.length_toList]; exact hl)
    rw [← str_list] at h
    exact h
  · exact lawSpellCounts_bigt t W hm (by omega)
end Go.Proofs.YtpajmgonceepoabDoor
