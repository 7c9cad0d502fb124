/- The texts Canon, Read, Split, SplitK, as one. -/
import Derived.Lib.ItoaNum
import Derived.Test.YtpajmgonceepoaaDoorNumS
import Derived.IntWalk
import Derived.Test.YtpajmgonceepoaaDoorApp
import Derived.Test.YtpajmgonceepoaaDoorMake
import Derived.Test.YtpajmgonceepoaaDoorText
import Derived.Lib.Split
import Derived.Lib.IndexLaws
namespace Go.Proofs.YtpajmgonceepoaaDoor

/-- the value of a text of digits -/
def val (l : List UInt8) : Nat := l.foldl (fun a b => 10 * a + (b.toNat - 48)) 0
def isDig (b : UInt8) : Bool := decide (48 ≤ b.toNat ∧ b.toNat ≤ 57)
/-- digits alone, at least one, no superfluous zero ahead -/
def canon (l : List UInt8) : Bool := !l.isEmpty && l.all isDig && (l.head? != some 48 || l.length == 1)

theorem val_snoc (l : List UInt8) (b : UInt8) : val (l ++ [b]) = 10 * val l + (b.toNat - 48) := by simp [val]
theorem dig_back (b : UInt8) (h : isDig b = true) : UInt8.ofNat (48 + (b.toNat - 48)) = b := by
  have := of_decide_eq_true h
  rw [show 48 + (b.toNat - 48) = b.toNat by omega]
  simp
theorem dig_toNat (d : Nat) (h : d < 10) : (UInt8.ofNat (48 + d)).toNat = 48 + d := by
  rw [UInt8.toNat_ofNat']
  omega
theorem dig_of (d : Nat) (h : d < 10) : isDig (UInt8.ofNat (48 + d)) = true := by
  unfold isDig
  rw [dig_toNat d h]
  simp
  omega

theorem digits_canon (n : Nat) : canon (Lib.decDigits n) = true ∧ val (Lib.decDigits n) = n ∧ (0 < n → (Lib.decDigits n).head? ≠ some 48) := by
  induction n using Nat.strongRecOn with
  | ind n ih =>
    by_cases h : n < 10
    · rw [Lib.decDigits_one h]
      refine ⟨?_, ?_, ?_⟩
      · have := dig_of n h
        simp only [canon, List.all_cons, List.all_nil, this, List.isEmpty_cons, List.length_cons, List.length_nil]
        simp
      · have := dig_toNat n h
        simp only [val, List.foldl]
        omega
      · intro h0 e
        simp only [List.head?_cons, Option.some.injEq] at e
        have := congrArg UInt8.toNat e
        rw [dig_toNat n h] at this
        simp at this
        omega
    · rw [Lib.decDigits, dif_neg h]
      obtain ⟨h1, h2, h3⟩ := ih (n / 10) (by omega)
      have h4 := h3 (by omega)
      have hd : n % 10 < 10 := by omega
      unfold canon at h1 ⊢
      simp only [Bool.and_eq_true] at h1
      obtain ⟨⟨a1, a2⟩, a3⟩ := h1
      have hne : Lib.decDigits (n / 10) ≠ [] := by intro e; rw [e] at a1; simp at a1
      have hh : (Lib.decDigits (n / 10) ++ [UInt8.ofNat (48 + n % 10)]).head? = (Lib.decDigits (n / 10)).head? := by
        cases hc : Lib.decDigits (n / 10) with
        | nil => exact absurd hc hne
        | cons x r => rfl
      refine ⟨?_, ?_, ?_⟩
      · rw [hh, List.all_append, a2]
        have : ((Lib.decDigits (n / 10)).head? != some 48) = true := by simpa using h4
        rw [this]
        simp only [List.all_cons, List.all_nil, dig_of _ hd]
        simp
      · rw [val_snoc, h2, dig_toNat _ hd]
        omega
      · intro _
        rw [hh]
        exact h4

theorem canon_digits : ∀ (k : Nat) (l : List UInt8), l.length ≤ k → canon l = true → Lib.decDigits (val l) = l ∧ (l.head? ≠ some 48 → 0 < val l) := by
  intro k
  induction k with
  | zero => intro l hl h; cases l with
    | nil => simp [canon] at h
    | cons x r => simp at hl
  | succ k ih =>
    intro l hl h
    rcases List.eq_nil_or_concat l with rfl | ⟨r, b, rfl⟩
    · simp [canon] at h
    · rw [List.concat_eq_append] at hl h ⊢
      have hlen : (r ++ [b]).length = r.length + 1 := by simp
      unfold canon at h
      simp only [Bool.and_eq_true, List.all_append, List.all_cons, List.all_nil, Bool.and_true] at h
      obtain ⟨⟨_, a2, a2'⟩, a3⟩ := h
      have hb := of_decide_eq_true a2'
      by_cases hr : r = []
      · subst hr
        have e : val ([] ++ [b]) = b.toNat - 48 := by rw [val_snoc]; simp [val]
        rw [e, Lib.decDigits_one (by omega), dig_back b a2']
        refine ⟨rfl, fun hz => ?_⟩
        rcases Nat.lt_or_ge 48 b.toNat with g | g
        · omega
        · exact absurd (by simp only [List.nil_append, List.head?_cons, Option.some.injEq]; exact UInt8.toNat_inj.1 (by simp; omega)) hz
      · have hh : (r ++ [b]).head? = r.head? := by cases r with
          | nil => exact absurd rfl hr
          | cons x s => rfl
        have hrl : 0 < r.length := List.length_pos_iff.2 hr
        have h0 : r.head? ≠ some 48 := by
          rw [hh, hlen] at a3
          intro e
          rw [e] at a3
          simp at a3
          exact hr a3
        have hc : canon r = true := by
          unfold canon
          rw [a2]
          have : (r.head? != some 48) = true := by simpa using h0
          rw [this]
          simp [hr]
        obtain ⟨i1, i2⟩ := ih r (by omega) hc
        have i3 := i2 h0
        rw [val_snoc]
        refine ⟨?_, fun _ => by omega⟩
        rw [Lib.decDigits, dif_neg (by omega), show (10 * val r + (b.toNat - 48)) / 10 = val r by omega, show (10 * val r + (b.toNat - 48)) % 10 = b.toNat - 48 by omega, i1, dig_back b a2']

theorem canon_iff (l : List UInt8) : canon l = true ↔ Lib.decDigits (val l) = l := by
  constructor
  · intro h; exact (canon_digits _ l (Nat.le_refl _) h).1
  · intro h; rw [← h]; exact (digits_canon _).1
end Go.Proofs.YtpajmgonceepoaaDoor
namespace Go.Proofs.YtpajmgonceepoaaDoor
open Go.ChangeShapes Go.WideShapes Go.ChangeAt Go.RowKit Go.IntWalk

/-- the value of a numeral of one to six digits, else -1 -/
def rd6 (l : List UInt8) : Int := if 1 ≤ l.length ∧ l.length ≤ 6 ∧ canon l = true then (val l : Int) else -1

theorem bget (l : List UInt8) (i : Nat) (h : i < l.length) (h' : i < (ByteArray.mk l.toArray).size) : (ByteArray.mk l.toArray)[i]'h' = l[i]'h := by
  show (l.toArray)[i]'_ = _
  simp

theorem val_lt : ∀ (k : Nat) (l : List UInt8), l.length ≤ k → l.all isDig = true → val l < 10 ^ l.length := by
  intro k
  induction k with
  | zero => intro l hl _; cases l with
    | nil => simp [val]
    | cons x r => simp at hl
  | succ k ih =>
    intro l hl h
    rcases List.eq_nil_or_concat l with rfl | ⟨r, b, rfl⟩
    · simp [val]
    · rw [List.concat_eq_append] at hl h ⊢
      simp only [List.all_append, List.all_cons, List.all_nil, Bool.and_true, Bool.and_eq_true] at h
      have hb := of_decide_eq_true h.2
      have hr := ih r (by simp at hl; omega) h.1
      rw [val_snoc, List.length_append, List.length_cons, List.length_nil, Nat.pow_succ]
      omega
theorem rd6_all (l : List UInt8) (h1 : 1 ≤ l.length) (h6 : l.length ≤ 6) (hz : ¬ (l[0] = 48 ∧ 1 < l.length)) (h : l.all isDig = true) : rd6 l = val l := by
  have hc : canon l = true := ?_
  · unfold rd6
    rw [if_pos ⟨h1, h6, hc⟩]
  unfold canon
  rw [h]
  cases l with
  | nil => simp at h1
  | cons c r =>
    simp only [List.getElem_cons_zero, List.length_cons] at hz
    simp only [List.isEmpty_cons, List.head?_cons, List.length_cons]
    by_cases e : c = 48
    · have : r.length = 0 := by
        have : ¬ (1 < r.length + 1) := fun g => hz ⟨e, g⟩
        omega
      simp [this]
    · simp [e]
theorem rd6_not (l : List UInt8) (h : l.all isDig = false) : rd6 l = -1 := by
  unfold rd6
  rw [if_neg]
  rintro ⟨_, _, hc⟩
  unfold canon at hc
  rw [h] at hc
  simp at hc
theorem all_step (l : List UInt8) (j : Nat) (h : j < l.length) (hd : (l.take j).all isDig = true) (hb : isDig l[j] = true) : (l.take (j + 1)).all isDig = true := by
  rw [List.take_succ_eq_append_getElem h, List.all_append, hd]
  simp [hb]
theorem not_all (l : List UInt8) (j : Nat) (h : j < l.length) (hb : isDig l[j] = false) : l.all isDig = false := by
  rw [List.all_eq_false]
  exact ⟨l[j], List.getElem_mem _, by simp [hb]⟩

end Go.Proofs.YtpajmgonceepoaaDoor
namespace Go.Proofs.YtpajmgonceepoaaDoor
open Go.ChangeShapes Go.WideShapes Go.ChangeAt Go.RowKit

theorem strInfoS : (Tryd.prog.info? 9).map (fun i => (i.zero, i.size, i.bytes)) = some (some (.string ⟨#[]⟩), 1, 16) := by kernel_rfl
/-- the value of a string -/
def sval (l : List UInt8) : Value := .string ⟨l.toArray⟩
/-- a slice value holds a list of strings at the head of a row of its own, from block B on -/
def SlT (w : World) (B : Nat) (v : Value) (ls : List (List UInt8)) : Prop := w.ownsRow B 9 1 v ls.length (ls.map sval)
theorem SlT.nw {w w' : World} {B : Nat} {v : Value} {ls : List (List UInt8)} (h : SlT w B v ls) (hk : Kp Nw w w') : SlT w' B v ls :=
  World.ownsRow.kept (row := none) h ⟨hk.os, hk.tape, hk.output, hk.size, fun k hl _ => hk.block k hl (fun h => h)⟩ (by
    rcases h.2 with ⟨rfl, _⟩ | ⟨g, cap, cur, rfl, _⟩
    · exact .inl rfl
    · exact .inr (by simp [Value.ownBlock]))
theorem svals_one (ls : List (List UInt8)) : ∀ u ∈ ls.map sval, u.oneCell' = true := by
  intro u hu
  obtain ⟨l, _, rfl⟩ := List.mem_map.1 hu
  rfl

set_option maxRecDepth 100000 in
theorem run_apps (w : World) (ty : TypeId) (B : Nat) (v : Value) (ad : Addr) (c : Nat) (ls : List (List UInt8)) (l : List UInt8) (hv : SlT w B v ls) (hu : w.cell? ad = some (sval l))
    (hl : ls.length ≤ 1000000000) (hB : B ≤ w.heap.size) :
    ∃ v' w', (Builtin.append_ #[48, 48] ty #[v, .slice (some ad) 1 c]).run Tryd.prog w = .ok v' w' ∧ SlT w' B v' (ls ++ [l]) ∧ Kp (fun b => v.ownBlock = some b) w w' ∧ (v'.ownBlock = v.ownBlock ∨ v'.ownBlock = some w.heap.size) := by
  obtain ⟨i0, hi0, hz0, hz1, hz2⟩ := info_parts strInfoS
  have hc : ∀ j u, ([l].map sval)[j]? = some u → w.cell? (ad.add j) = some u := by
    intro j u hj
    have h0 : j = 0 := by
      rcases Nat.eq_zero_or_pos j with h | h
      · exact h
      · rw [List.getElem?_eq_none (by simp; omega)] at hj; cases hj
    subst h0
    simp only [List.map_cons, List.map_nil, List.getElem?_cons_zero, Option.some.injEq] at hj
    subst hj
    simpa [Addr.add] using hu
  obtain ⟨v', w', hr, h2, h3, _, h5⟩ := run_append_own_at (P := Tryd.prog) w B 48 ty 9 i0 _ 1 16 Tryd.underlying48 hi0 hz0 hz1 hz2 rfl (by omega) v ls.length _ hv ad 1 c ([l].map sval) (by simp) hc (svals_one [l]) (by unfold maxLen; omega) (by omega) hB
  refine ⟨v', w', hr, ?_, ⟨h3.os, h3.tape, h3.output, h3.size, fun k hk hs => h3.block k hk (fun e => hs e.symm)⟩, h5⟩
  unfold SlT
  rw [List.length_append, List.map_append]
  exact h2

theorem wp_apps (w : World) {o : Oper} {a : Act} {K : Act → World → Prop} {Q : Exit → Act → World → Prop} (s x : Operand)
    (ho : o.op = .call { callee := .builtin .append, args := #[s, x], argTypes := #[48, 48] })
    (B : Nat) (v : Value) (ad : Addr) (c : Nat) (ls : List (List UInt8)) (l : List UInt8) (hs : a.eval s = v) (hx : a.eval x = .slice (some ad) 1 c) (hv : SlT w B v ls) (hu : w.cell? ad = some (sval l))
    (hl : ls.length ≤ 1000000000) (hB : B ≤ w.heap.size)
    (h : ∀ v' w', SlT w' B v' (ls ++ [l]) → Kp (fun b => v.ownBlock = some b) w w' → (v'.ownBlock = v.ownBlock ∨ v'.ownBlock = some w.heap.size) → K (a.put o.dst v') w') : o.wp Tryd.prog a w K Q := by
  obtain ⟨v', w', hr, h2, h3, h4⟩ := run_apps w o.type B v ad c ls l hv hu hl hB
  unfold Oper.wp execOp
  simp only [ho, resolve, invoke, builtin, Sem.run_bind, Sem.run_pure, Result.andThen_ok, List.map_toArray, List.map_cons, List.map_nil, hs, hx, hr]
  exact h v' w' h2 h3 h4

theorem wpList_apps (w : World) {ops : Array Oper} {rest : List Oper} {o : Oper} {a : Act} {Q : Exit → Act → World → Prop} (hgd : o.guard = none) (s x : Operand)
    (ho : o.op = .call { callee := .builtin .append, args := #[s, x], argTypes := #[48, 48] })
    (B : Nat) (v : Value) (ad : Addr) (c : Nat) (ls : List (List UInt8)) (l : List UInt8) (hs : a.eval s = v) (hx : a.eval x = .slice (some ad) 1 c) (hv : SlT w B v ls) (hu : w.cell? ad = some (sval l))
    (hl : ls.length ≤ 1000000000) (hB : B ≤ w.heap.size)
    (h : ∀ v' w', SlT w' B v' (ls ++ [l]) → Kp (fun b => v.ownBlock = some b) w w' → (v'.ownBlock = v.ownBlock ∨ v'.ownBlock = some w.heap.size) → wpList Tryd.prog ops Q rest (a.put o.dst v') w') : wpList Tryd.prog ops Q (o :: rest) a w :=
  wpList_plain hgd fun _ hK => wp_apps w s x ho B v ad c ls l hs hx hv hu hl hB fun v' w' h2 h3 h4 => hK _ _ (h v' w' h2 h3 h4)

/-- the pieces of a text between the bytes b; cur: what has been read of the piece under way -/
def sp (b : UInt8) (cur : List UInt8) : List UInt8 → List (List UInt8)
  | [] => [cur]
  | c :: r => if c = b then cur :: sp b [] r else sp b (cur ++ [c]) r
theorem ext_eq (l : List UInt8) (f j : Nat) : (ByteArray.mk l.toArray).extract f j = ⟨((l.take j).drop f).toArray⟩ := by
  apply ByteArray.ext
  rw [ByteArray.data_extract]
  apply Array.ext'
  rw [Array.toList_extract]
  simp [List.extract_eq_take_drop, List.drop_take]
theorem sp_hit (l : List UInt8) (b : UInt8) (f j : Nat) (h : j < l.length) (e : l[j] = b) : sp b ((l.take j).drop f) (l.drop j) = (l.take j).drop f :: sp b ((l.take (j + 1)).drop (j + 1)) (l.drop (j + 1)) := by
  rw [List.drop_eq_getElem_cons h, sp, if_pos e]
  congr 2
  rw [List.drop_eq_nil_of_le (by simp; omega)]
theorem sp_miss (l : List UInt8) (b : UInt8) (f j : Nat) (h : j < l.length) (hf : f ≤ j) (e : l[j] ≠ b) : sp b ((l.take j).drop f) (l.drop j) = sp b ((l.take (j + 1)).drop f) (l.drop (j + 1)) := by
  rw [List.drop_eq_getElem_cons h, sp, if_neg e, List.take_succ_eq_append_getElem h, List.drop_append_of_le_length (by rw [List.length_take]; omega)]
theorem sp_end (l : List UInt8) (b : UInt8) (f : Nat) : sp b ((l.take l.length).drop f) (l.drop l.length) = [l.drop f] := by
  rw [List.drop_length, List.take_length, sp]

set_option maxRecDepth 100000 in
set_option maxHeartbeats 1600000 in
theorem l1Split_any (l : List UInt8) (b : UInt8) (W : World) (hl : l.length ≤ 1048576) :
    Calls Tryd.prog 32 #[.string ⟨l.toArray⟩, .int .u8 b.toNat] W fun e w' => ∃ v, e = .returned v ∧ SlT w' W.heap.size v (sp b [] l) ∧ Kp Nw W w' := by
  obtain ⟨n, hn⟩ : ∃ n, l.length = n := ⟨_, rfl⟩
  have hsz : (ByteArray.mk l.toArray).size = n := by rw [← hn]; rfl
  have HN := Lib.hid hn
  rw [hn] at hl
  go_enter Tryd.func32, Tryd.ntmps32
  go_wp2
  go_loopw [5, 6, 7] (fun out from_ i wr => ∃ (j f : Nat) (v : Value) (ls : List (List UInt8)), f ≤ j ∧ j ≤ n ∧ i = .int .i64 j ∧ from_ = .int .i64 f ∧ v = out ∧ SlT wr W.heap.size v ls ∧ ls.length ≤ j ∧ ls ++ sp b ((l.take j).drop f) (l.drop j) = sp b [] l ∧ Kp Nw W wr) (fun _ _ i _ => n - (intOf i).toNat)
  case atStart => exact ⟨0, 0, _, [], Nat.le_refl _, Nat.zero_le _, rfl, rfl, rfl, ⟨rfl, .inl ⟨rfl, rfl⟩⟩, Nat.le_refl _, rfl, Kp.refl _ _⟩
  case round =>
    rename_i wr
    obtain ⟨j, f, v, ls, hf, hj, rfl, rfl, rfl, hs, hlen, he, hk⟩ := hrel
    have j0 : (0 : Int) ≤ j := Int.natCast_nonneg _
    have f0 : (0 : Int) ≤ f := Int.natCast_nonneg _
    have f1 : (f : Int) ≤ j := by omega
    by_cases hlt : j < n
    · have bj := bget l j (by omega) (by rw [hsz]; omega)
      have j1 : (j : Int) < n := by omega
      have j2 : (j : Int) ≤ n := by omega
      have HS := Lib.hid hs
      have HK := Lib.hid hk
      by_cases hc : l[j]'(by omega) = b
      · have HE : Hid ((ls ++ [(l.take j).drop f]) ++ sp b ((l.take (j + 1)).drop (j + 1)) (l.drop (j + 1)) = sp b [] l) := Lib.hid (by rw [← he, sp_hit l b f j (by omega) hc]; simp)
        rw [hc] at bj
        have hx := ext_eq l f j
        obtain ⟨pc, hpc⟩ : ∃ pc, (l.take j).drop f = pc := ⟨_, rfl⟩
        rw [hpc] at hx HE
        clear hs hk he hpc
        go_wp2_with (first | (at_builtin; refine wpList_apps _ rfl (.tmp 19) (.tmp 24) rfl W.heap.size v ⟨wr.heap.size, 0, none⟩ 1 ls pc rfl rfl (HS.out.nw (Kp.al _ _)) (by simp [World.cell?_alloc_at, sval]) (by omega) (by have := HK.out.size; simp; omega) ?_))
        rintro v' w' hs' hk' _
        have own := World.ownsRow.lt HS.out
        have HK2 := Lib.hid ((HK.out.nw (Kp.al _ _)).after hk' (fun g hg he => by have := (own g he).1; omega))
        have HS2 := Lib.hid hs'
        clear hs' hk' own
        go_wp2
        go_roundw
        case rel => exact ⟨j + 1, j + 1, v', _, Nat.le_refl _, by omega, by go_num, by go_num, rfl, HS2.out, by simp; omega, HE.out, HK2.out⟩
        case measure => simp [intOf]; omega
      · have HE : Hid (ls ++ sp b ((l.take (j + 1)).drop f) (l.drop (j + 1)) = sp b [] l) := Lib.hid (by rw [← he, sp_miss l b f j (by omega) hf hc])
        obtain ⟨c, hc2⟩ : ∃ c, l[j]'(by omega) = c := ⟨_, rfl⟩
        rw [hc2] at bj hc
        have q : (c.toNat : Int) ≠ b.toNat := fun e => hc (UInt8.toNat_inj.1 (by omega))
        clear hs hk he hc2 hc
        go_wp2
        go_roundw
        case rel => exact ⟨j + 1, f, _, ls, by omega, by omega, by go_num, rfl, rfl, HS.out, by omega, HE.out, HK.out⟩
        case measure => simp [intOf]; omega
    · have e : j = n := by omega
      subst e
      have HE : Hid (ls ++ [l.drop f] = sp b [] l) := Lib.hid (by rw [← he, ← HN.out, sp_end])
      have HS := Lib.hid hs
      have HK := Lib.hid hk
      clear hs hk he
      have hx := ext_eq l f j
      rw [show l.take j = l by rw [List.take_of_length_le (by rw [HN.out]; exact Nat.le_refl _)]] at hx
      obtain ⟨pc, hpc⟩ : ∃ pc, l.drop f = pc := ⟨_, rfl⟩
      rw [hpc] at hx HE
      clear hpc
      go_wp2_with (first | (at_builtin; refine wpList_apps _ rfl (.tmp 28) (.tmp 32) rfl W.heap.size v ⟨wr.heap.size, 0, none⟩ 1 ls pc rfl rfl (HS.out.nw (Kp.al _ _)) (by simp [World.cell?_alloc_at, sval]) (by omega) (by have := HK.out.size; simp; omega) ?_))
      rintro v' w' hs' hk' _
      have own := World.ownsRow.lt HS.out
      have HK2 := Lib.hid ((HK.out.nw (Kp.al _ _)).after hk' (fun g hg he => by have := (own g he).1; omega))
      have HS2 := Lib.hid hs'
      clear hs' hk' own
      go_wp2
      go_ret
      exact ⟨_, rfl, by rw [← HE.out]; exact HS2.out, HK2.out⟩
end Go.Proofs.YtpajmgonceepoaaDoor
namespace Go.Proofs.YtpajmgonceepoaaDoor

theorem sp_none (b : UInt8) : ∀ (l cur : List UInt8), (∀ k : Nat, l[k]? ≠ some b) → sp b cur l = [cur ++ l]
  | [], cur, _ => by simp [sp]
  | c :: r, cur, h => by
    have hc : c ≠ b := by intro e; exact h 0 (by simp [e])
    rw [sp, if_neg hc, sp_none b r (cur ++ [c]) (fun k e => h (k + 1) (by simpa using e))]
    simp
theorem sp_first (b : UInt8) : ∀ (i : Nat) (l cur : List UInt8), l[i]? = some b → (∀ k : Nat, k < i → l[k]? ≠ some b) → sp b cur l = (cur ++ l.take i) :: sp b [] (l.drop (i + 1))
  | _, [], _, h, _ => by simp at h
  | 0, c :: r, cur, h, _ => by
    have : c = b := by simpa using h
    rw [sp, if_pos this]
    simp
  | i + 1, c :: r, cur, h, hn => by
    have hc : c ≠ b := by intro e; exact hn 0 (by omega) (by simp [e])
    rw [sp, if_neg hc, sp_first b i r (cur ++ [c]) (by simpa using h) (fun k hk e => hn (k + 1) (by omega) (by simpa using e))]
    simp
theorem sp_pos (b : UInt8) : ∀ (l cur : List UInt8), 1 ≤ (sp b cur l).length
  | [], _ => by simp [sp]
  | c :: r, cur => by
    rw [sp]
    split
    · simp
    · exact sp_pos b r _
/-- at most k + 1 pieces came: either they are all, or there are more -/
theorem splitK_sp (b : UInt8) : ∀ (k : Nat) (l : List UInt8), (Lib.splitK [b] 0 k l = sp b [] l ∧ (sp b [] l).length ≤ k + 1) ∨ ((Lib.splitK [b] 0 k l).length = k + 1 ∧ k + 1 < (sp b [] l).length)
  | 0, l => by
    rcases Nat.lt_or_ge 1 (sp b [] l).length with h | h
    · right
      exact ⟨rfl, by omega⟩
    · left
      have hl : (sp b [] l).length = 1 := by have := sp_pos b l []; omega
      refine ⟨?_, by omega⟩
      by_cases hi : Lib.indexByte l b = -1
      · rw [sp_none b l [] (Lib.indexByte_none hi)]
        rfl
      · obtain ⟨o, ho⟩ : ∃ o : Nat, Lib.indexByte l b = o := ⟨(Lib.indexByte l b).toNat, by have := Lib.indexByte_ge l b; omega⟩
        obtain ⟨h1, h2⟩ := Lib.indexByte_some ho
        rw [sp_first b o l [] h1 h2] at hl
        have := sp_pos b (l.drop (o + 1)) []
        simp only [List.length_cons] at hl
        omega
  | k + 1, l => by
    by_cases hi : Lib.indexByte l b = -1
    · left
      rw [sp_none b l [] (Lib.indexByte_none hi)]
      unfold Lib.splitK
      rw [Lib.index_one, hi]
      simp
    · obtain ⟨o, ho⟩ : ∃ o : Nat, Lib.indexByte l b = o := ⟨(Lib.indexByte l b).toNat, by have := Lib.indexByte_ge l b; omega⟩
      obtain ⟨h1, h2⟩ := Lib.indexByte_some ho
      have hne : ¬ ((o : Int) == -1) = true := by intro e; have := beq_iff_eq.1 e; omega
      rw [sp_first b o l [] h1 h2]
      unfold Lib.splitK
      rw [Lib.index_one, ho, if_neg hne]
      have ih := splitK_sp b k (l.drop (o + 1))
      simp only [Int.toNat_natCast, Nat.add_zero, List.nil_append, List.length_cons, List.length_nil, Nat.zero_add]
      rcases ih with ⟨e1, e2⟩ | ⟨e1, e2⟩
      · left
        exact ⟨by rw [e1], by omega⟩
      · right
        exact ⟨by omega, by omega⟩
end Go.Proofs.YtpajmgonceepoaaDoor
