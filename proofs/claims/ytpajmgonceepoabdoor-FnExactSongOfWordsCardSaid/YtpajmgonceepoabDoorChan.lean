/- Channels in the program's one goroutine: a send with room and a receive of what is there, laid into the walk of a region; no condition but that the channel's block is there. -/
import Derived.Test.YtpajmgonceepoabDoorOrder
import Derived.Conc.LoneCalls
namespace Go.Proofs.YtpajmgonceepoabDoor
open Go.ChangeShapes Go.WideShapes Go.ChangeAt Go.RowKit Go.Conc

/-- what is left of a region, at the machine -/
def OpsW (P : Program) (ops : Array Oper) (Q : Exit → Act → World → Prop) (l : List Nat) (a : Act) (w : World) : Prop :=
  ∀ (b : Frame) (k : List Item) (cs : List Frame), ∃ e a' w', Q e a' w' ∧ Arrives P (lone (b.at a (.inRegion ops l :: k)) cs w) b k cs e a' w'

section
variable {P : Program} {ops : Array Oper} {Q : Exit → Act → World → Prop} {a : Act} {w w' : World} {i : Nat} {rest : List Nat} {o : Oper}

theorem OpsW.region {id : Nat} (h : OpsW P ops Q (List.range ops.size) a w) : (Code.region id ops false).wp P Q a w :=
  fun b k cs => let ⟨e, a', w', q, r⟩ := h b k cs; ⟨e, a', w', q, .of_steps (.one step_region) r⟩
theorem OpsW.region_draw {id : Nat} (h : ∀ t, OpsW P ops Q (Region.schedule (P.follows .mixedOrders) ops t) a { w with drawn := w.drawn + 1 }) : (Code.region id ops true).wp P Q a w :=
  fun b k cs => let ⟨e, a', w', q, r⟩ := h _ b k cs; ⟨e, a', w', q, .of_steps (.one step_region_draw) r⟩
theorem OpsW.nil (h : Q .normal a w) : OpsW P ops Q [] a w := fun _ _ _ => ⟨.normal, a, w, h, .one step_region_end⟩
theorem OpsW.of_wp {l : List Nat} (h : wpOps P ops Q l a w) : OpsW P ops Q l a w := fun b k cs => wp_ops l a w h b k cs

theorem fin_at (b : Frame) (k : List Item) (v : Value) (ho : ops[i]? = some o) : (b.at a (.inRegion ops (i :: rest) :: k)).finish v = b.at (a.put o.dst v) (.inRegion ops rest :: k) := by
  rw [Frame.finish_at, ho]; rfl

theorem OpsW.value {v : Value} (ho : ops[i]? = some o) (hw : Region.wanted o (yielded ops a.tmps) = true) (hr : (execOp a.eval o).run P w = .ok (.value v) w') (h : OpsW P ops Q rest (a.put o.dst v) w') : OpsW P ops Q (i :: rest) a w := by
  intro b k cs
  obtain ⟨e, a', w'', q, r⟩ := h b k cs
  refine ⟨e, a', w'', q, .of_steps (.one (step_lone_go ?_)) r⟩
  rw [stepG_op ho hw, ← fin_at b k v ho]
  simp [stepG.apply, hr]
theorem OpsW.none_ (ho : ops[i]? = some o) (hw : Region.wanted o (yielded ops a.tmps) = true) (hr : (execOp a.eval o).run P w = .ok .skip w') (h : OpsW P ops Q rest (a.put o.dst undef) w') : OpsW P ops Q (i :: rest) a w := by
  intro b k cs
  obtain ⟨e, a', w'', q, r⟩ := h b k cs
  refine ⟨e, a', w'', q, .of_steps (.one (step_lone_go ?_)) r⟩
  rw [stepG_op ho hw, ← fin_at b k undef ho]
  simp [stepG.apply, hr]

theorem comm_es {cases : Array CommCase} {shape : CommShape} (b : Frame) (k : List Item) (cs : List Frame) (ho : ops[i]? = some o) (hw : Region.wanted o (yielded ops a.tmps) = true) (hr : (execOp a.eval o).run P w = .ok (.comm cases true shape) w') :
    ∃ es, stepG P true (G (b.at a (.inRegion ops (i :: rest) :: k)) cs) w = .comm (G (b.at a (.inRegion ops (i :: rest) :: k)) cs) cases true shape w' es := by
  rw [stepG_oper ho hw]
  simp [stepG.apply, hr, G, Frame.at, GStep.after]

theorem OpsW.send {c cap s r : Nat} {buf : Array Value} {v z' : Value} {tm : Bool} (ho : ops[i]? = some o) (hw : Region.wanted o (yielded ops a.tmps) = true) (hr : (execOp a.eval o).run P w = .ok (.comm #[scase c v z'] true .send) w')
    (hc : w'.heap[c]? = some (.chan cap buf false s r tm)) (hroom : buf.size < cap) (h : OpsW P ops Q rest (a.put o.dst undef) (w'.setChan c cap (buf.push v) false (s + 1) r tm)) : OpsW P ops Q (i :: rest) a w := by
  intro b k cs
  obtain ⟨e, a', w'', q, hA⟩ := h b k cs
  obtain ⟨es, he⟩ := comm_es (rest := rest) b k cs ho hw hr
  refine ⟨e, a', w'', q, .of_steps (.one ?_) hA⟩
  have := step_lone_send_room he hc hroom
  rw [fin_at b k undef ho] at this
  exact this
theorem OpsW.recv {c cap s r : Nat} {buf : Array Value} {z : Value} {tm closed : Bool} (ho : ops[i]? = some o) (hw : Region.wanted o (yielded ops a.tmps) = true) (hr : (execOp a.eval o).run P w = .ok (.comm #[rcase c z] true (.recv false)) w')
    (hc : w'.heap[c]? = some (.chan cap buf closed s r tm)) (hsome : 0 < buf.size) (h : OpsW P ops Q rest (a.put o.dst (buf.getD 0 undef)) (w'.setChan c cap (buf.extract 1 buf.size) closed s (r + 1) tm)) : OpsW P ops Q (i :: rest) a w := by
  intro b k cs
  obtain ⟨e, a', w'', q, hA⟩ := h b k cs
  obtain ⟨es, he⟩ := comm_es (rest := rest) b k cs ho hw hr
  refine ⟨e, a', w'', q, .of_steps (.one ?_) hA⟩
  have := step_lone_recv_buf false he hc hsome
  rw [fin_at b k _ ho] at this
  exact this
end

/-- an operation that does nothing, waiting for what the other one waits for -/
def nop (o : Oper) : Oper := { dst := none, op := Op.move (Operand.const (.int .i64 0)), type := o.type, pos := o.pos, after := o.after, guard := none }
def nopAt : Nat → List Oper → List Oper
  | _, [] => []
  | 0, o :: r => nop o :: r
  | k + 1, o :: r => o :: nopAt k r
theorem nopAt_after : ∀ (k : Nat) (l : List Oper), (nopAt k l).map (·.after) = l.map (·.after)
  | _, [] => by simp [nopAt]
  | 0, o :: r => by simp [nopAt, nop]
  | k + 1, o :: r => by simp [nopAt, nopAt_after k r]
theorem nopAt_other : ∀ (k : Nat) (l : List Oper) (i : Nat), i ≠ k → (nopAt k l)[i]? = l[i]?
  | _, [], _, _ => by simp [nopAt]
  | 0, o :: r, 0, h => absurd rfl h
  | 0, o :: r, i + 1, _ => by simp [nopAt]
  | k + 1, o :: r, 0, _ => by simp [nopAt]
  | k + 1, o :: r, i + 1, h => by simpa [nopAt] using nopAt_other k r i (by omega)
theorem nopAt_at : ∀ (k : Nat) (l : List Oper) (o : Oper), l[k]? = some o → (nopAt k l)[k]? = some (nop o)
  | _, [], _, h => by simp at h
  | 0, o :: r, _, h => by simp at h; simp [nopAt, h]
  | k + 1, o :: r, o', h => by simpa [nopAt] using nopAt_at k r o' (by simpa using h)

section
variable {P : Program} {C : World → Prop} {md : Region.Mode}

theorem ready_after {ops ops' : Array Oper} (h : ops'.map (·.after) = ops.map (·.after)) (listed : Array Bool) : Region.ready md ops' listed = Region.ready md ops listed := by
  have hs : ops'.size = ops.size := by simpa using congrArg Array.size h
  unfold Region.ready
  rw [hs]
  congr 1
  funext i
  have hi : (ops'[i]?).map (·.after) = (ops[i]?).map (·.after) := by
    have := congrArg (fun x => x[i]?) h
    simpa using this
  have e : ∀ o? : Option Oper, (o?.map fun o => o.after.all fun e => !Region.binds md e || listed.getD e.on false) = (o?.map (·.after)).map fun af => af.all fun e => !Region.binds md e || listed.getD e.on false := fun o => by cases o <;> rfl
  rw [e, e, hi]

/-- what is listed has all listed that it waits for -/
def ClL (md : Region.Mode) (ops : Array Oper) (listed : Array Bool) : Prop :=
  ∀ j o, ops[j]? = some o → listed.getD j false = true → ∀ e ∈ o.after, Region.binds md e = true → listed.getD e.on false = true
theorem ClL.set {ops : Array Oper} {listed : Array Bool} (h : ClL md ops listed) {i : Nat} (hi : i ∈ Region.ready md ops listed) : ClL md ops (listed.setIfInBounds i true) := by
  intro j o ho hl e he hb
  refine getD_set_true ?_
  by_cases hji : j = i
  · subst hji
    obtain ⟨_, o', ho', hall⟩ := mem_ready.1 hi
    rw [ho] at ho'
    cases ho'
    exact hall e he hb
  · refine h j o ho ?_ e he hb
    rwa [getD_set_ne false (fun e => hji e.symm)] at hl

/-- all of a list are waited for by those before them -/
def domB (md : Region.Mode) (ops : Array Oper) : List Nat → List Nat → Bool
  | _, [] => true
  | seen, j :: r => (seen.any fun s => match ops[s]? with | some o => o.after.any fun e => Region.binds md e && e.on == j | none => false) && domB md ops (j :: seen) r
theorem domB_listed {ops : Array Oper} {listed : Array Bool} (hc : ClL md ops listed) : ∀ (r seen : List Nat),
    (∀ s ∈ seen, ∀ o, ops[s]? = some o → ∀ e ∈ o.after, Region.binds md e = true → listed.getD e.on false = true) → domB md ops seen r = true → ∀ j ∈ r, listed.getD j false = true
  | [], _, _, _, _, hj => by cases hj
  | x :: r, seen, hs, hd, j, hj => by
    simp only [domB, Bool.and_eq_true] at hd
    obtain ⟨h1, h2⟩ := hd
    have hx : listed.getD x false = true := by
      obtain ⟨s, hsm, hse⟩ := List.any_eq_true.1 h1
      cases ho : ops[s]? with
      | none => simp [ho] at hse
      | some o =>
        simp only [ho] at hse
        obtain ⟨e, he, hb⟩ := Array.any_eq_true'.1 hse
        simp only [Bool.and_eq_true, beq_iff_eq] at hb
        have := hs s hsm o ho e he hb.1
        rwa [hb.2] at this
    rcases List.mem_cons.1 hj with rfl | hj
    · exact hx
    · refine domB_listed hc r (x :: seen) (fun s hsm o ho => ?_) h2 j hj
      rcases List.mem_cons.1 hsm with rfl | hsm
      · exact hc s o ho hx
      · exact hs s hsm o ho

/-- what waits, waits for what stands before it -/
def lowB (md : Region.Mode) (ops : Array Oper) : Bool := (List.range ops.size).all fun j => match ops[j]? with | some o => o.after.all fun e => !Region.binds md e || decide (e.on < j) | none => true
theorem none_ready {ops : Array Oper} {listed : Array Bool} (hl : lowB md ops = true) (hz : listed.size = ops.size) (h : Region.ready md ops listed = []) : ∀ j, j < ops.size → listed.getD j false = true := by
  intro j
  induction j using Nat.strongRecOn with
  | _ j ih =>
    intro hj
    cases hb : listed.getD j false with
    | true => rfl
    | false =>
      exfalso
      have ho : ops[j]? = some ops[j] := Array.getElem?_eq_getElem hj
      have hmem : j ∈ Region.ready md ops listed := by
        refine mem_ready.2 ⟨?_, ops[j], ho, fun e he hbd => ?_⟩
        · simp [hz, hj] at hb ⊢
          exact hb
        · have h1 := List.all_eq_true.1 hl j (List.mem_range.2 hj)
          simp only [ho] at h1
          have h2 := Array.all_eq_true_iff_forall_mem.1 h1 e he
          simp only [hbd, Bool.not_true, Bool.false_or, decide_eq_true_eq] at h2
          exact ih e.on h2 (by omega)
      rw [h] at hmem
      cases hmem

theorem OpsW.of_quiet {ops : Array Oper} {Q : Exit → Act → World → Prop} {i : Nat} {rest : List Nat} {a : Act} {w : World} {o : Oper} {K : Act → Prop} (ho : ops[i]? = some o) (hC : C w) (h : qOp P ops C i K a)
    (hK : ∀ a' w', C w' → K a' → OpsW P ops Q rest a' w') : OpsW P ops Q (i :: rest) a w := by
  unfold qOp at h
  simp only [ho] at h
  by_cases hw : Region.wanted o (yielded ops a.tmps) = true
  · simp only [hw, if_true] at h
    obtain ⟨v, h1, h2⟩ := h
    have h3 := h1 w hC
    unfold Oper.quietAt at h3
    generalize hr : (execOp a.eval o).run P w = r at h3
    cases r with
    | ok n w' =>
      cases n <;> simp only [Oper.quietUpon] at h3
      case value u =>
        obtain ⟨rfl, rfl⟩ := h3
        exact OpsW.value ho hw hr (hK _ _ hC h2)
      case skip =>
        obtain ⟨rfl, rfl⟩ := h3
        exact OpsW.none_ ho hw hr (hK _ _ hC h2)
      case enter f args =>
        obtain ⟨rfl, hc⟩ := h3
        intro b k cs
        obtain ⟨e, w'', fr, ⟨rfl, hCw⟩, hsteps, _, hleave⟩ := hc (b.at a (.inRegion ops (i :: rest) :: k) :: cs)
        obtain ⟨e, a', w₃, q, hA⟩ := hK _ _ hCw h2 b k cs
        refine ⟨e, a', w₃, q, .of_steps (.head (step_lone_go (fr' := Frame.enter P f args .normal) (cs' := b.at a (.inRegion ops (i :: rest) :: k) :: cs) (w' := w') ?_) (Steps.trans hsteps (.one ?_))) hA⟩
        · rw [stepG_op ho hw]; simp [stepG.apply, hr, Frame.at]
        · rw [← fin_at b k v ho]; exact step_leave_returned hleave
    | halt x w' => simp only [Oper.quietUpon] at h3
  · simp only [hw] at h
    intro b k cs
    obtain ⟨e, a', w', q, hA⟩ := hK _ _ hC h b k cs
    have hs := step_op_skip (P := P) (b := b) (a := a) (k := k) (cs := cs) (w := w) (ops := ops) (i := i) (rest := rest) (by simp [ho]; simpa using hw)
    simp only [ho, Option.bind_some] at hs
    exact ⟨e, a', w', q, .of_steps (.one hs) hA⟩

/-- a region that draws its order, whose operation k waits for all others, which only read: the others are walked in the text's order, and k comes last -/
theorem anyQ_last {l : List Oper} {Q : Exit → Act → World → Prop} {k : Nat} {ok : Oper} {L : List Nat} (hk : l[k]? = some ok)
    (hlow : lowB md l.toArray = true) (hdom : domB md l.toArray [k] L = true) (hall : (List.range l.length).all (fun j => (k :: L).contains j) = true) (hgd : l.all (fun o => o.guard.isNone) = true) :
    ∀ (fuel t : Nat) (listed : Array Bool) (a : Act) (w : World), C w → listed.size = l.length → ClL md l.toArray listed → listed.getD k true = false →
      wpAnyQ P md (nopAt k l).toArray C (fun a' => ∀ w', C w' → OpsW P l.toArray Q [k] a' w') fuel listed a → OpsW P l.toArray Q (Region.linearise.go md l.toArray fuel t listed []) a w := by
  have hra : ∀ listed, Region.ready md (nopAt k l).toArray listed = Region.ready md l.toArray listed := fun listed => ready_after (by simp [nopAt_after]) listed
  have hkl : k < l.length := (List.getElem?_eq_some_iff.1 hk).1
  have hempty : ∀ listed : Array Bool, listed.size = l.length → listed.getD k true = false → Region.ready md l.toArray listed = [] → False := fun listed hz hkn hr => by
    have h1 := none_ready hlow (by simpa using hz) hr k (by simpa using hkl)
    simp [hz, hkl] at h1 hkn
    rw [h1] at hkn
    cases hkn
  intro fuel
  induction fuel with
  | zero =>
    intro t listed a w hC hz hcl hkn h
    exact (hempty listed hz hkn (by rw [← hra]; exact h.1)).elim
  | succ fuel ih =>
    intro t listed a w hC hz hcl hkn h
    obtain ⟨h₀, h₁⟩ := h
    simp only [Region.linearise.go]
    change OpsW P l.toArray Q (match (Region.ready md l.toArray listed)[t % (Region.ready md l.toArray listed).length]? with
      | some i => Region.linearise.go md l.toArray fuel (t / (Region.ready md l.toArray listed).length) (listed.setIfInBounds i true) [i]
      | none => [].reverse) a w
    cases hi : (Region.ready md l.toArray listed)[t % (Region.ready md l.toArray listed).length]? with
    | none =>
      exfalso
      refine hempty listed hz hkn ?_
      cases hr : Region.ready md l.toArray listed with
      | nil => rfl
      | cons x xs =>
        rw [hr] at hi
        have hlt : t % (x :: xs).length < (x :: xs).length := Nat.mod_lt _ (by simp)
        simp at hi
        simp at hlt
        omega
    | some i =>
      simp only []
      rw [linearise_go_acc, List.reverse_singleton, List.singleton_append]
      have him := List.mem_of_getElem? hi
      have hq := h₁ i (by rw [hra]; exact him)
      obtain ⟨hun, oi, hoi, haft⟩ := mem_ready.1 him
      by_cases hik : i = k
      · subst hik
        have hoi' : l[i]? = some oi := by simpa using hoi
        rw [hk] at hoi'
        cases hoi'
        have hdl := domB_listed hcl L [i] (fun s hs o ho e he hb => by
          rw [List.mem_singleton.1 hs, hoi] at ho
          cases ho
          exact haft e he hb) hdom
        have hallL : Region.ready md l.toArray (listed.setIfInBounds i true) = [] := by
          rw [List.eq_nil_iff_forall_not_mem]
          intro j hj
          obtain ⟨hjn, oj, hoj, _⟩ := mem_ready.1 hj
          have hjl : j < l.length := by simpa using (Array.getElem?_eq_some_iff.1 hoj).1
          have h1 := List.all_eq_true.1 hall j (List.mem_range.2 hjl)
          rcases List.mem_cons.1 (by simpa using h1 : j ∈ i :: L) with rfl | hjL
          · simp [hz, hjl] at hjn
          · have h2 := hdl j hjL
            by_cases hji : j = i
            · subst hji; simp [hz, hjl] at hjn
            · rw [getD_set_ne true (fun e => hji e.symm)] at hjn
              simp [hz, hjl] at h2 hjn
              rw [h2] at hjn
              cases hjn
        have hrest : Region.linearise.go md l.toArray fuel (t / (Region.ready md l.toArray listed).length) (listed.setIfInBounds i true) [] = [] := by
          cases fuel with
          | zero => simp [Region.linearise.go]
          | succ f =>
            simp only [Region.linearise.go]
            change (match (Region.ready md l.toArray (listed.setIfInBounds i true))[(t / (Region.ready md l.toArray listed).length) % (Region.ready md l.toArray (listed.setIfInBounds i true)).length]? with
              | some i' => Region.linearise.go md l.toArray f ((t / (Region.ready md l.toArray listed).length) / (Region.ready md l.toArray (listed.setIfInBounds i true)).length) ((listed.setIfInBounds i true).setIfInBounds i' true) [i']
              | none => [].reverse) = []
            rw [hallL]
            simp
        rw [hrest]
        have hn : (nopAt i l).toArray[i]? = some (nop ok) := by simpa using nopAt_at i l ok hk
        unfold qOp at hq
        simp only [hn] at hq
        have hw : Region.wanted (nop ok) (yielded (nopAt i l).toArray a.tmps) = true := by simp [Region.wanted, nop]
        simp only [hw, if_true] at hq
        obtain ⟨v, _, hA⟩ := hq
        have hA' : wpAnyQ P md (nopAt i l).toArray C (fun a' => ∀ w', C w' → OpsW P l.toArray Q [i] a' w') fuel (listed.setIfInBounds i true) a := hA
        cases fuel with
        | zero => exact hA'.2 w hC
        | succ f => exact hA'.1 (by rw [hra]; exact hallL) w hC
      · have hsame : (nopAt k l).toArray[i]? = some oi := by
          have := nopAt_other k l i hik
          simp only [List.getElem?_toArray] at hoi ⊢
          rw [this]; exact hoi
        have hgo : oi.guard = none := by
          have := List.all_eq_true.1 hgd oi (List.mem_of_getElem? (by simpa using hoi))
          simpa using this
        refine OpsW.of_quiet (K := wpAnyQ P md (nopAt k l).toArray C (fun a' => ∀ w', C w' → OpsW P l.toArray Q [k] a' w') fuel (listed.setIfInBounds i true)) hoi hC ?_ (fun a' w' hC' hA => ih _ _ a' w' hC' (by simpa using hz) (hcl.set him) (by rw [getD_set_ne true hik]; exact hkn) hA)
        unfold qOp at hq ⊢
        simp only [hsame] at hq
        simp only [hoi]
        have hw : ∀ y, Region.wanted oi y = true := fun y => by simp [Region.wanted, hgo]
        simp only [hw, if_true] at hq ⊢
        exact hq

theorem wp_region_last {id : Nat} {l : List Oper} {Q : Exit → Act → World → Prop} {a : Act} {w : World} (k : Nat) (L : List Nat) (ok : Oper) (hm : P.follows .mixedOrders = true) (hk : l[k]? = some ok)
    (hlow : lowB .any l.toArray = true) (hdom : domB .any l.toArray [k] L = true) (hall : (List.range l.length).all (fun j => (k :: L).contains j) = true) (hgd : l.all (fun o => o.guard.isNone) = true)
    (hB : Region.lexB .any (nopAt k l).toArray = true)
    (h : wpQuiet P (nopAt k l).toArray (fun w' => ∃ n, w' = w.drewN n) (fun a' => ∀ w', (∃ n, w' = w.drewN n) → OpsW P l.toArray Q [k] a' w') (nopAt k l) a) : (Code.region id l.toArray true).wp P Q a w := by
  refine OpsW.region_draw fun t => ?_
  simp only [Region.schedule, hm, Bool.true_or, if_true]
  simp only [Region.lexB, Bool.and_eq_true] at hB
  have h1 := wpAnyQ_lex (C := fun w' => ∃ n, w' = w.drewN n) (md := .any) hB.1 (nopAt k l) 0 (Array.replicate (nopAt k l).toArray.size false) a (by simp) (by simpa using hB.2) h
  have hlen : (nopAt k l).length = l.length := by simpa using congrArg List.length (nopAt_after k l)
  have hkl : k < l.length := (List.getElem?_eq_some_iff.1 hk).1
  refine anyQ_last (C := fun w' => ∃ n, w' = w.drewN n) hk hlow hdom hall hgd l.toArray.size t (Array.replicate l.toArray.size false) a _ ⟨1, rfl⟩ (by simp) (fun j o ho hl => ?_) ?_ ?_
  · simp [Array.getElem?_replicate] at hl
    split at hl <;> simp at hl
  · simp [hkl]
  · simpa [hlen] using h1
end

/-- a channel with room for cap whose buffer holds these -/
def Chn (w : World) (c cap : Nat) (xs : List Int) : Prop := ∃ s r, w.heap[c]? = some (.chan cap (xs.map (Value.int .i64)).toArray false s r false)
theorem Chn.lt {w : World} {c cap : Nat} {xs : List Int} (h : Chn w c cap xs) : c < w.heap.size := by
  obtain ⟨s, r, h⟩ := h
  exact (Array.getElem?_eq_some_iff.1 h).1
theorem Chn.kp {w w' : World} {c cap : Nat} {xs : List Int} {S : Nat → Prop} (h : Chn w c cap xs) (hk : Kp S w w') (hs : ¬ S c) : Chn w' c cap xs := by
  have hl := h.lt
  obtain ⟨s, r, h⟩ := h
  exact ⟨s, r, (hk.block c hl hs).trans h⟩
theorem kp_setChan {S : Nat → Prop} {W w : World} (h : Kp S W w) {c : Nat} (hc : S c ∨ W.heap.size ≤ c) (cap : Nat) (buf : Array Value) (cl : Bool) (s r : Nat) (tm : Bool) : Kp S W (w.setChan c cap buf cl s r tm) :=
  ⟨h.os, h.tape, h.output, by simpa [World.setChan] using h.size, fun i hi hs => by
    have hne : c ≠ i := by
      rintro rfl
      rcases hc with hc | hc
      · exact hs hc
      · omega
    simp only [World.setChan]
    rw [Array.getElem?_setIfInBounds_ne hne]
    exact h.block i hi hs⟩
theorem Chn.push {w : World} {c cap s r : Nat} {xs : List Int} (h : w.heap[c]? = some (.chan cap (xs.map (Value.int .i64)).toArray false s r false)) (x : Int) : Chn (w.setChan c cap ((xs.map (Value.int .i64)).toArray.push (.int .i64 x)) false (s + 1) r false) c cap (xs ++ [x]) := by
  refine ⟨s + 1, r, ?_⟩
  rw [heap_setChan _ _ _ _ _ _ _ _ (Array.getElem?_eq_some_iff.1 h).1]
  simp
theorem Chn.pop {w : World} {c cap s r : Nat} {x : Int} {xs : List Int} (h : w.heap[c]? = some (.chan cap ((x :: xs).map (Value.int .i64)).toArray false s r false)) : Chn (w.setChan c cap (((x :: xs).map (Value.int .i64)).toArray.extract 1 ((x :: xs).map (Value.int .i64)).toArray.size) false s (r + 1) false) c cap xs := by
  refine ⟨s, r + 1, ?_⟩
  rw [heap_setChan _ _ _ _ _ _ _ _ (Array.getElem?_eq_some_iff.1 h).1]
  simp [List.take_of_length_le]
end Go.Proofs.YtpajmgonceepoabDoor
