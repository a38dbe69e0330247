/- A region that draws its order and whose last operation, which awaits all the others, is a call that writes: one walk of the others, in the order of the text; then the call. -/
import Derived.Deep.Quiet
import Derived.Deep.QuietTactic
import Derived.BigQuiet
namespace Go.Proofs.YtkebflllbphkkaaDoor
open Go Go.RowKit

/-- No guard; what an operation awaits lies ahead of it; each but the last is awaited by a later one. -/
def lastB (ops : Array Oper) : Bool :=
  (List.range ops.size).all (fun i => ((ops[i]?).map (fun o => o.guard.isNone && o.after.all (fun e => !Region.binds .any e || decide (e.on < i)))).getD false) &&
  (List.range (ops.size - 1)).all (fun j => (List.range ops.size).any (fun i => decide (j < i) && ((ops[i]?).map (fun o => o.after.any (fun e => Region.binds .any e && decide (e.on = j)))).getD false))
def Closed (ops : Array Oper) (listed : Array Bool) : Prop := ∀ i o, ops[i]? = some o → listed.getD i true = true → ∀ e ∈ o.after, Region.binds .any e = true → listed.getD e.on false = true
theorem mem_ready {ops : Array Oper} {listed : Array Bool} {i : Nat} : i ∈ Region.ready .any ops listed ↔ ∃ o, ops[i]? = some o ∧ listed.getD i true = false ∧ ∀ e ∈ o.after, Region.binds .any e = true → listed.getD e.on false = true := by
  unfold Region.ready
  rw [List.mem_filter, List.mem_range]
  constructor
  · rintro ⟨h1, h2⟩
    rw [Bool.and_eq_true] at h2
    have ho : ops[i]? = some ops[i] := Array.getElem?_eq_getElem h1
    refine ⟨ops[i], ho, by simpa using h2.1, ?_⟩
    have h3 := h2.2
    rw [ho] at h3
    simp only [Option.map_some, Option.getD_some, Array.all_eq_true'] at h3
    intro e he hb
    have := h3 e he
    rw [hb] at this
    simpa using this
  · rintro ⟨o, h1, h2, h3⟩
    have hlt : i < ops.size := (Array.getElem?_eq_some_iff.1 h1).1
    refine ⟨hlt, ?_⟩
    rw [h1, h2]
    simp only [Option.map_some, Option.getD_some, Bool.not_false, Bool.true_and, Array.all_eq_true']
    intro e he
    by_cases hb : Region.binds .any e = true
    · rw [h3 e he hb]; simp
    · simp [hb]
theorem lastB_a {ops : Array Oper} (h : lastB ops = true) {i : Nat} {o : Oper} (ho : ops[i]? = some o) : o.guard = none ∧ ∀ e ∈ o.after, Region.binds .any e = true → e.on < i := by
  unfold lastB at h
  rw [Bool.and_eq_true, List.all_eq_true] at h
  have h1 := h.1 i (List.mem_range.2 (Array.getElem?_eq_some_iff.1 ho).1)
  rw [ho] at h1
  simp only [Option.map_some, Option.getD_some, Bool.and_eq_true, Array.all_eq_true', Option.isNone_iff_eq_none] at h1
  refine ⟨h1.1, fun e he hb => ?_⟩
  have := h1.2 e he
  rw [hb] at this
  simpa using this
theorem lastB_b {ops : Array Oper} (h : lastB ops = true) {j : Nat} (hj : j < ops.size - 1) : ∃ i o, j < i ∧ ops[i]? = some o ∧ ∃ e ∈ o.after, Region.binds .any e = true ∧ e.on = j := by
  unfold lastB at h
  rw [Bool.and_eq_true, List.all_eq_true, List.all_eq_true] at h
  have h1 := h.2 j (List.mem_range.2 hj)
  rw [List.any_eq_true] at h1
  obtain ⟨i, hi, h2⟩ := h1
  rw [Bool.and_eq_true, decide_eq_true_eq] at h2
  have ho : ops[i]? = some (ops[i]'(List.mem_range.1 hi)) := Array.getElem?_eq_getElem _
  rw [ho] at h2
  simp only [Option.map_some, Option.getD_some, Array.any_eq_true'] at h2
  obtain ⟨h3, e, he, h4⟩ := h2
  rw [Bool.and_eq_true, decide_eq_true_eq] at h4
  exact ⟨i, _, h3, ho, e, he, h4.1, h4.2⟩
theorem getD_swap {l : Array Bool} {i : Nat} (h : i < l.size) (a b : Bool) : l.getD i a = l.getD i b := by
  simp [Array.getD, h]
/-- Where the last may come up all the others have. -/
theorem all_listed {ops : Array Oper} (h : lastB ops = true) {listed : Array Bool} (hs : listed.size = ops.size) (hc : Closed ops listed) (hr : ops.size - 1 ∈ Region.ready .any ops listed) : ∀ d j, ops.size - 1 - j = d → j < ops.size - 1 → listed.getD j false = true := by
  intro d
  induction d using Nat.strongRecOn with
  | ind d ih =>
    intro j hd hj
    obtain ⟨i, o, hji, ho, e, he, hb, rfl⟩ := lastB_b h hj
    have hi : i < ops.size := (Array.getElem?_eq_some_iff.1 ho).1
    by_cases hl : i = ops.size - 1
    · obtain ⟨o2, ho2, _, h3⟩ := mem_ready.1 hr
      rw [← hl, ho] at ho2
      injection ho2 with ho2
      subst ho2
      exact h3 e he hb
    · have := ih (ops.size - 1 - i) (by omega) i rfl (by omega)
      exact hc i o ho (by rw [getD_swap (by omega) true false]; exact this) e he hb
/-- Something may come up while something is not listed. -/
theorem ready_some {ops : Array Oper} (h : lastB ops = true) {listed : Array Bool} (hs : listed.size = ops.size) : ∀ c, c < ops.size → listed.getD c true = false → ∃ i, i ∈ Region.ready .any ops listed := by
  intro c
  induction c using Nat.strongRecOn with
  | ind c ih =>
    intro hc hu
    have ho : ops[c]? = some ops[c] := Array.getElem?_eq_getElem hc
    by_cases hall : ∀ e ∈ (ops[c]).after, Region.binds .any e = true → listed.getD e.on false = true
    · exact ⟨c, mem_ready.2 ⟨_, ho, hu, hall⟩⟩
    · simp only [Classical.not_forall] at hall
      obtain ⟨e, he, hb, hn⟩ := hall
      have hlt := (lastB_a h ho).2 e he hb
      exact ih e.on hlt (by omega) (by rw [getD_swap (by omega) true false]; simpa using hn)
theorem getD_set_ne {l : Array Bool} {i j : Nat} {d : Bool} (h : j ≠ i) : (l.setIfInBounds i true).getD j d = l.getD j d := by
  simp only [Array.getD_eq_getD_getElem?]
  rw [Array.getElem?_setIfInBounds_ne (fun e => h e.symm)]
theorem getD_set_same {l : Array Bool} {i : Nat} {d : Bool} (h : i < l.size) : (l.setIfInBounds i true).getD i d = true := by
  simp [Array.getD_eq_getD_getElem?, h]
theorem getD_set_mono {l : Array Bool} {i j : Nat} {d : Bool} (h : l.getD j d = true) : (l.setIfInBounds i true).getD j d = true := by
  by_cases e : j = i
  · subst e
    by_cases hs : j < l.size
    · exact getD_set_same hs
    · rw [show l.setIfInBounds j true = l from Array.setIfInBounds_eq_of_size_le (by omega)]; exact h
  · rw [getD_set_ne e]; exact h
theorem ready_same {ops ops2 : Array Oper} (h : ∀ i : Nat, (ops2[i]?).map Oper.after = (ops[i]?).map Oper.after) {listed : Array Bool} {i : Nat} : i ∈ Region.ready .any ops2 listed ↔ i ∈ Region.ready .any ops listed := by
  rw [mem_ready, mem_ready]
  constructor
  · rintro ⟨o, h1, h2, h3⟩
    have := h i
    rw [h1] at this
    obtain ⟨o2, e1, e2⟩ := Option.map_eq_some_iff.1 this.symm
    exact ⟨o2, e1, h2, by rw [e2]; exact h3⟩
  · rintro ⟨o, h1, h2, h3⟩
    have := h i
    rw [h1] at this
    obtain ⟨o2, e1, e2⟩ := Option.map_eq_some_iff.1 this
    exact ⟨o2, e1, h2, by rw [e2]; exact h3⟩
theorem put_put (a : Act) (d : Option Tmp) (u v : Value) : (a.put d u).put d v = a.put d v := by
  cases d with
  | none => rfl
  | some t => simp [Act.put]
theorem wpAny_last {P : Program} {ops ops2 : Array Oper} {oc om : Oper} {C : World → Prop} {Q : Exit → Act → World → Prop} {Q2 : Act → Prop} (hl : lastB ops = true) (hpos : 0 < ops.size) (hsame : ∀ i, i ≠ ops.size - 1 → ops2[i]? = ops[i]?)
    (hc : ops[ops.size - 1]? = some oc) (hc2 : ops2[ops.size - 1]? = some om) (haf : om.after = oc.after) (hds : om.dst = oc.dst) (hgd : om.guard = none) (hop : om.op = .move (.const undef))
    (hQ2 : ∀ a w, C w → Q2 (a.put oc.dst undef) → oc.wp P a w (fun a w => Q .normal a w) Q) :
    ∀ (fuel : Nat) (listed : Array Bool) (a : Act) (w : World), C w → listed.size = ops.size → Closed ops listed → listed.getD (ops.size - 1) true = false → wpAnyQ P .any ops2 C Q2 fuel listed a → wpAny P .any ops Q fuel listed a w := by
  have hrd : ∀ {listed : Array Bool} {i : Nat}, i ∈ Region.ready .any ops2 listed ↔ i ∈ Region.ready .any ops listed := ready_same (fun i => by
    by_cases e : i = ops.size - 1
    · rw [e, hc, hc2]; simp [haf]
    · rw [hsame i e])
  have hnil : ∀ {listed : Array Bool}, (∀ i, i ∉ Region.ready .any ops listed) → Region.ready .any ops2 listed = [] := fun h => List.eq_nil_iff_forall_not_mem.2 (fun i hi => h i (hrd.1 hi))
  intro fuel
  induction fuel with
  | zero =>
    intro listed a w hw hs hcl hu h
    obtain ⟨i, hi⟩ := ready_some hl hs (ops.size - 1) (by omega) hu
    have h0 : Region.ready .any ops2 listed = [] := h.1
    rw [← hrd, h0] at hi
    cases hi
  | succ fuel ih =>
    intro listed a w hw hs hcl hu h
    refine ⟨fun h0 => ?_, fun i hi => ?_⟩
    · obtain ⟨i, hi⟩ := ready_some hl hs (ops.size - 1) (by omega) hu
      rw [h0] at hi; cases hi
    · have hq : qOp P ops2 C i (wpAnyQ P .any ops2 C Q2 fuel (listed.setIfInBounds i true)) a := h.2 i (hrd.2 hi)
      obtain ⟨o, ho, hui, hdeps⟩ := mem_ready.1 hi
      have hilt : i < ops.size := (Array.getElem?_eq_some_iff.1 ho).1
      by_cases e : i = ops.size - 1
      · subst e
        rw [hc] at ho
        injection ho with ho
        subst ho
        have hall := all_listed hl hs hcl hi
        have hno : ∀ j, j ∉ Region.ready .any ops (listed.setIfInBounds (ops.size - 1) true) := fun j hj => by
          obtain ⟨oj, hoj, huj, _⟩ := mem_ready.1 hj
          have hjlt : j < ops.size := (Array.getElem?_eq_some_iff.1 hoj).1
          by_cases e : j = ops.size - 1
          · subst e; rw [getD_set_same (by omega)] at huj; cases huj
          · rw [getD_set_ne e, getD_swap (by omega) true false, hall _ j rfl (by omega)] at huj; cases huj
        unfold qOp at hq
        simp only [hc2] at hq
        have hwt : Region.wanted om (yielded ops2 a.tmps) = true := by simp [Region.wanted, hgd]
        rw [if_pos hwt] at hq
        obtain ⟨v, hv, hk⟩ := hq
        have hvu : v = undef := by
          have := hv w hw
          unfold Oper.quietAt at this
          rw [BigFrame.run_move _ hop] at this
          exact this.2.symm
        subst hvu
        rw [hds] at hk
        have hq2 : Q2 (a.put oc.dst undef) := by
          cases fuel with
          | zero => exact hk.2
          | succ f => exact hk.1 (hnil hno)
        have hwp := hQ2 a w hw hq2
        unfold wpOp
        simp only [hc]
        have hwt2 : Region.wanted oc (yielded ops a.tmps) = true := by simp [Region.wanted, (lastB_a hl hc).1]
        rw [if_pos hwt2]
        refine Or.inl (Oper.wp_mono (fun a' w' hq' => ?_) hwp)
        have hr0 : Region.ready .any ops (listed.setIfInBounds (ops.size - 1) true) = [] := List.eq_nil_iff_forall_not_mem.2 hno
        cases fuel with
        | zero => exact ⟨hr0, hq'⟩
        | succ f => exact ⟨fun _ => hq', fun j hj => absurd hj (hno j)⟩
      · have hsm := hsame i e
        unfold qOp at hq
        rw [hsm] at hq
        simp only [ho] at hq
        have hgn := (lastB_a hl ho).1
        have hwt : Region.wanted o (yielded ops2 a.tmps) = true := by simp [Region.wanted, hgn]
        rw [if_pos hwt] at hq
        unfold wpOp
        simp only [ho]
        have hwt2 : Region.wanted o (yielded ops a.tmps) = true := by simp [Region.wanted, hgn]
        rw [if_pos hwt2]
        refine Or.inl (Oper.wp_of_quiet hw (fun a' w' hw' hk => ih _ a' w' hw' (by simpa using hs) ?_ (by rw [getD_set_ne (fun h => e h.symm)]; exact hu) hk) hq)
        intro i' o' ho' hl' e' he' hb'
        by_cases e2 : i' = i
        · subst e2
          rw [ho] at ho'
          injection ho' with ho'
          subst ho'
          exact getD_set_mono (hdeps e' he' hb')
        · rw [getD_set_ne e2] at hl'
          exact getD_set_mono (hcl i' o' ho' hl' e' he' hb')
/-- The last operation, with the call taken out. -/
def mute (o : Oper) : Oper := { o with op := .move (.const undef) }
theorem wp_region_last {P : Program} {id : Nat} {Q : Exit → Act → World → Prop} {a : Act} {w : World} (l : List Oper) (oc : Oper) (hm : P.follows .mixedOrders = true) (hB : Region.lexB .any (l ++ [mute oc]).toArray = true) (hL : lastB (l ++ [oc]).toArray = true)
    (hself : ∀ (a : Act) u, execOp (a.put oc.dst u).eval oc = execOp a.eval oc)
    (h : wpQuiet P (l ++ [mute oc]).toArray (fun w' => ∃ n, w' = w.drewN n) (fun a' => ∀ n, ∃ f args, (execOp a'.eval oc).run P (w.drewN n) = .ok (.enter f args) (w.drewN n) ∧ Calls P f args (w.drewN n) fun e w'' => ∃ v, e = .returned v ∧ Q .normal (a'.put oc.dst v) w'') (l ++ [mute oc]) a) :
    (Code.region id (l ++ [oc]).toArray true).wp P Q a w := by
  simp only [Region.lexB, Bool.and_eq_true] at hB
  have hn : (l ++ [oc]).toArray.size - 1 = l.length := by simp
  have hgo : oc.guard = none := (lastB_a hL (i := l.length) (o := oc) (by simp)).1
  refine wp_region_any hm (wpAny_last (ops2 := (l ++ [mute oc]).toArray) (oc := oc) (om := mute oc) (C := fun w' => ∃ n, w' = w.drewN n) (Q2 := fun a' => ∀ n, ∃ f args, (execOp a'.eval oc).run P (w.drewN n) = .ok (.enter f args) (w.drewN n) ∧ Calls P f args (w.drewN n) fun e w'' => ∃ v, e = .returned v ∧ Q .normal (a'.put oc.dst v) w'') hL (by simp) (fun i hi => ?_) (by rw [hn]; simp) (by rw [hn]; simp) rfl rfl hgo rfl ?_ _ _ _ _ ⟨1, rfl⟩ (by simp) (fun i o ho hl => ?_) (by rw [hn]; simp) ?_)
  · rw [hn] at hi
    simp only [List.getElem?_toArray]
    by_cases e : i < l.length
    · rw [List.getElem?_append_left e, List.getElem?_append_left e]
    · rw [List.getElem?_eq_none (by simp; omega), List.getElem?_eq_none (by simp; omega)]
  · rintro a w' ⟨n, rfl⟩ hq
    obtain ⟨f, args, h1, h2⟩ := hq n
    rw [hself] at h1
    unfold Oper.wp
    rw [h1]
    exact Calls.mono h2 (fun e w'' ⟨v, he, hv⟩ => by subst he; rw [put_put] at hv; exact hv)
  · have hi : i < (l ++ [oc]).toArray.size := (Array.getElem?_eq_some_iff.1 ho).1
    simp [Array.getD] at hl
    have : i < l.length + 1 := by simpa using hi
    omega
  · have := wpAnyQ_lex (P := P) (C := fun w' => ∃ n, w' = w.drewN n) (md := .any) hB.1 (l ++ [mute oc]) 0 (Array.replicate (l ++ [mute oc]).toArray.size false) a (by simp) (by simpa using hB.2) h
    simpa using this
def muteL : List Oper → List Oper
  | [] => []
  | [o] => [mute o]
  | o :: p :: r => o :: muteL (p :: r)
def lastO (d : Oper) : List Oper → Oper
  | [] => d
  | [o] => o
  | _ :: p :: r => lastO d (p :: r)
theorem muteL_eq (d : Oper) : ∀ (l : List Oper), l ≠ [] → ∃ r, l = r ++ [lastO d l] ∧ muteL l = r ++ [mute (lastO d l)]
  | [], h => absurd rfl h
  | [o], _ => ⟨[], rfl, rfl⟩
  | o :: p :: q, _ => by
    obtain ⟨r, h1, h2⟩ := muteL_eq d (p :: q) (by simp)
    refine ⟨o :: r, ?_, ?_⟩
    · show o :: p :: q = o :: (r ++ [lastO d (p :: q)])
      rw [← h1]
    · show o :: muteL (p :: q) = o :: (r ++ [mute (lastO d (p :: q))])
      rw [h2]
/-- A region whose last operation awaits all the others and is a call: the others are walked once, then the call is made. -/
theorem wp_region_lastL {P : Program} {id : Nat} {Q : Exit → Act → World → Prop} {a : Act} {w : World} (d : Oper) (ops : List Oper) (hne : ops ≠ []) (hm : P.follows .mixedOrders = true) (hB : Region.lexB .any (muteL ops).toArray = true) (hL : lastB ops.toArray = true)
    (hsel : ∀ cs b, (lastO d ops).op ≠ .select cs b) (hlk : ∀ t, (lastO d ops).dst = some t → t ∉ (lastO d ops).looksAt ops.toArray)
    (h : wpQuiet P (muteL ops).toArray (fun w' => ∃ n, w' = w.drewN n) (fun a' => ∀ n, ∃ f args, (execOp a'.eval (lastO d ops)).run P (w.drewN n) = .ok (.enter f args) (w.drewN n) ∧ Calls P f args (w.drewN n) fun e w'' => ∃ v, e = .returned v ∧ Q .normal (a'.put (lastO d ops).dst v) w'') (muteL ops) a) :
    (Code.region id ops.toArray true).wp P Q a w := by
  have hself : ∀ (a : Act) u, execOp (a.put (lastO d ops).dst u).eval (lastO d ops) = execOp a.eval (lastO d ops) := fun a u => execOp_put (ops := ops.toArray) (lastO d ops) hsel a _ u hlk
  obtain ⟨r, h1, h2⟩ := muteL_eq d ops hne
  obtain ⟨oc, hoc⟩ : ∃ oc, oc = lastO d ops := ⟨_, rfl⟩
  rw [← hoc] at h1 h2 hself h
  rw [h2] at h hB
  rw [h1] at hL ⊢
  exact wp_region_last r oc hm hB hL hself h
end Go.Proofs.YtkebflllbphkkaaDoor
