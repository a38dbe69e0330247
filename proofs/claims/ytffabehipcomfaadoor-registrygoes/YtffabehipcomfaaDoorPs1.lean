/- Names: sets of names: has, add; each once; texts. -/
import Derived.Test.YtffabehipcomfaaDoorPv0
import Derived.Maps.OwnSet
import Derived.Maps.RangeWalk
import Derived.StringKeys
namespace Go.Proofs.YtffabehipcomfaaDoor
open Go.RowKit

set_option maxHeartbeats 4000000 in
theorem cloneO_any (w : World) (v : Value) (l : List Opn) (h : OS w v l) (_hl : l.length ≤ 1000000) :
    Calls Tryd.prog 39 #[v] w fun e w' => ∃ p cap, e = .returned (.slice p l.length cap) ∧ OwnG KO w' w.heap.size (.slice p l.length cap) l ∧ Below w.heap.size w w' := by
  have hl := _hl
  have h0 := h
  have EQ : ∀ a l c w, Sem.run Tryd.prog (binOp .eql 31 (.slice a l c) (.slice none 0 0)) w = .ok (.bool a.isNone) w := fun a l c w => by
    simp only [binOp]
    simp [run_equal_slice_nil w 31 _ a l c Tryd.underlying31]
  have H0 : Hid (OS (w.alloc (.cells #[] 71)) v l) := h0.below ((Below.refl _ _).alloc (Nat.le_refl _) _)
  have E0 : Hid (OwnG KO (w.alloc (.cells #[] 71)) w.heap.size (.slice (some ⟨w.heap.size, 0, none⟩) 0 0) []) := OwnG.empty KO w
  have HL : Hid ((([] : List Opn).length + l.length) * KO.B ≤ 140737488355328) := by show (([] : List Opn).length + l.length) * 40 ≤ _; simp; omega
  obtain ⟨p, cap, rfl⟩ := h.form
  cases p with
  | none =>
    have hn : l = [] := by
      rcases h with ⟨_, e⟩ | ⟨X, o, c, e, _⟩
      · exact e
      · cases e
    subst hn
    clear h h0
    go_enter Tryd.func39, Tryd.ntmps39
    go_wp2
    go_ret
    exact ⟨none, 0, rfl, OwnG.nil _ _ _, Below.refl _ _⟩
  | some a =>
    clear h h0
    go_enter Tryd.func39, Tryd.ntmps39
    go_wp2_with (at_builtin; refine append_gs KO KO_ok rfl (.tmp 5) (.tmp 6) 31 rfl w.heap.size Tryd.underlying31 _ _ (.slice (some a) l.length cap) [] l rfl rfl E0.out H0.out HL.out (by simp) ?_; intro v8 w8 ho8 hb8 hk8)
    go_ret
    rw [List.nil_append] at ho8
    obtain ⟨p, cap2, rfl, _⟩ := ho8.form
    exact ⟨p, cap2, rfl, ho8, ((Below.refl _ _).alloc (Nat.le_refl _) _).trans hb8⟩
/-- A box with a row of numbers, by how many were visited. -/
def UG (f : Nat → List Int) (b : Nat) (base : Nat) (k : Nat) (F : Nat → Prop) (w : World) : Prop := ∃ v, w.heap[b]? = some (.cells #[v] 100) ∧ OwnG KI w base v (f k) ∧ b < base ∧ ∀ x, F x ↔ x = b ∨ v.ownBlock = some x
theorem UG_vis (f : Nat → List Int) (b base : Nat) : Vis (UG f b base) where
  lt := fun k F w h x hx => by
    obtain ⟨v, h1, h2, h3, h4⟩ := h
    rcases (h4 x).1 hx with e | e
    · subst e; exact (Array.getElem?_eq_some_iff.1 h1).1
    · exact (h2.lt e).2
  keep := fun k F w w' h hs _ _ _ hk => by
    obtain ⟨v, h1, h2, h3, h4⟩ := h
    have hb : w'.heap[b]? = w.heap[b]? := hk b ((h4 b).2 (Or.inl rfl))
    exact ⟨v, hb.trans h1, h2.far (fun g hg => hk g ((h4 g).2 (Or.inr hg))), h3, h4⟩
theorem UG.store {f : Nat → List Int} {b base k : Nat} {F : Nat → Prop} {w w2 : World} {v v' : Value} (h1 : w.heap[b]? = some (.cells #[v] 100)) (h4 : ∀ x, F x ↔ x = b ∨ v.ownBlock = some x) (h3 : b < base) (B : But F w w2) (hb : w2.heap[b]? = w.heap[b]?) (o2 : OwnG KI w2 base v' (f (k + 1))) (hn : ∀ g, v'.ownBlock = some g → F g ∨ w.heap.size ≤ g) :
    ∃ F', UG f b base (k + 1) F' (w2.setCell ⟨b, 0, none⟩ v') ∧ (∀ x, F' x → F x ∨ w.heap.size ≤ x) ∧ But F w (w2.setCell ⟨b, 0, none⟩ v') := by
  refine ⟨fun x => x = b ∨ v'.ownBlock = some x, ⟨v', box_set (hb.trans h1), o2.far (fun g hg => set_far (by have := (o2.lt hg).1; omega)), h3, fun x => Iff.rfl⟩, fun x hx => ?_, ⟨B.os, B.tape, B.output, by rw [set_size]; exact B.size, fun x hx hf => (set_far (fun e => hf ((h4 x).2 (Or.inl e)))).trans (B.block x hx hf)⟩⟩
  rcases hx with e | e
  · exact Or.inl ((h4 x).2 (Or.inl e))
  · exact hn x e
/-- What Parts has found behind k visits. -/
def fndP (l : List Opn) (at' : Nat) (k : Nat) : List Int := if at' < k then ptO l at' else []
theorem ptO_le {l : List Opn} {k : Nat} (hk : k < l.length) : (ptO l k).length ≤ k := by
  rw [ptO_stK hk, List.length_drop]
  have := stK_le l k
  omega
/-- What Parts answers. -/
def partsE (l : List Opn) (a : Int) : Int := if chkO l = 0 then (if 0 ≤ a ∧ a < l.length then 0 else 1) else chkO l
def partsL (l : List Opn) (a : Int) : List Int := if partsE l a = 0 then ptO l a.toNat else []
end Go.Proofs.YtffabehipcomfaaDoor
namespace Go.Proofs.YtffabehipcomfaaDoor
open Go.RowKit Go.Maps

theorem lawS : Keyed Tryd.prog 9 := string_keyed Tryd.underlying9
theorem zeroU (w : World) : (zeroValue 121).run Tryd.prog w = .ok (.agg #[]) w := by kernel_rfl
def kS (s : ByteArray) : Lit := .string s.data.toList
theorem kS_inj {s t : ByteArray} : kS s = kS t ↔ s = t := by
  constructor
  · intro h
    unfold kS at h
    injection h with h
    cases s; cases t
    simp only [ByteArray.mk.injEq]
    exact Array.toList_inj.1 h
  · intro h; rw [h]
theorem kS_key (s : ByteArray) : WideAt.IsKeyLit (kS s) := trivial
theorem key_mk {s : ByteArray} (h : s.size ≤ maxLen) : keyOf Tryd.prog 9 (.string s) = some (kS s) := Go.WideMaps.keyOf_string_mk Tryd.underlying9 h
/-- The block is a set of the texts of which p tells true. -/
def SA (w : World) (b n : Nat) (p : ByteArray → Bool) : Prop := ∃ D : DataW Unit, w.ownsMap Tryd.prog 9 unitElem b n D ∧ ∀ s, Maps.has D (kS s) = p s
theorem SA.far {w w' : World} {b n : Nat} {p : ByteArray → Bool} (h : SA w b n p) (k : w'.heap[b]? = w.heap[b]?) : SA w' b n p := by
  obtain ⟨D, ⟨es, cl, h1, h2⟩, h3⟩ := h
  exact ⟨D, ⟨es, cl, k.trans h1, h2⟩, h3⟩
theorem SA.lt {w : World} {b n : Nat} {p : ByteArray → Bool} (h : SA w b n p) : b < w.heap.size := by
  obtain ⟨D, h1, _⟩ := h
  exact h1.lt
theorem SA.below {w w' : World} {b n : Nat} {p : ByteArray → Bool} (h : SA w b n p) (k : Below w.heap.size w w') : SA w' b n p := h.far (k.block b h.lt)
theorem SA.made (w : World) : SA (w.alloc (.map #[] 0)) w.heap.size 0 (fun _ => false) := ⟨.map [], World.ownsMap_made _ _ _ _, fun _ => rfl⟩
theorem SA.congr {w : World} {b n : Nat} {p q : ByteArray → Bool} (h : SA w b n p) (hq : ∀ s, p s = q s) : SA w b n q := by
  obtain ⟨D, h1, h2⟩ := h
  exact ⟨D, h1, fun s => (h2 s).trans (hq s)⟩
theorem SA.more {w : World} {b n m : Nat} {p : ByteArray → Bool} (h : SA w b n p) (hm : n ≤ m) : SA w b m p := by
  obtain ⟨D, h1, h2⟩ := h
  exact ⟨D, h1.mono hm, h2⟩
theorem But.of_grown {w w' : World} {b : Nat} (h : w.grownBy w' (some b)) : But (fun x => x = b) w w' := ⟨h.os, h.tape, h.output, h.size, fun x hx hn => h.block x hx (fun e => hn (by injection e))⟩
theorem has_put_all {D : DataW Unit} (hD : IsMap D) (s x : ByteArray) (d : DataW Unit) : Maps.has (D.put (kS s) d) (kS x) = (Maps.has D (kS x) || decide (x = s)) := by
  by_cases e : x = s
  · subst e; rw [has_put_same hD (kS_key _)]; simp
  · rw [has_put_other (fun h => e (kS_inj.1 h))]; simp [e]
set_option maxHeartbeats 4000000 in
theorem has_any (b n : Nat) (p : ByteArray → Bool) (s : ByteArray) (w : World) (h : SA w b n p) (hs : s.size ≤ maxLen) :
    Calls Tryd.prog 80 #[.map (some b), .string s] w fun e w' => e = .returned (.bool (p s)) ∧ Below w.heap.size w w' := by
  obtain ⟨D, h1, h2⟩ := h
  have hk := key_mk hs
  have H2 : Hid (Maps.has D (kS s) = p s) := h2 s
  have AL : Hid (∀ ob, Below w.heap.size w (w.alloc ob)) := fun ob => (Below.refl _ _).alloc (Nat.le_refl _) ob
  clear h2
  go_enter Tryd.func80, Tryd.ntmps80
  go_wp2_with (at_lookup; refine wpList_lookup_own_unit _ rfl _ _ 112 rfl 9 121 lawS Tryd.underlying112 (zeroU _) b n D rfl h1 _ _ rfl hk ?_)
  go_ret
  exact ⟨ret_bool H2.out, AL.out _⟩
set_option maxHeartbeats 4000000 in
theorem add_any (b n : Nat) (p : ByteArray → Bool) (s : ByteArray) (w : World) (h : SA w b n p) (hs : s.size ≤ maxLen) (hn : n < maxLen) :
    Calls Tryd.prog 81 #[.map (some b), .string s] w fun e w' => e = .returned (.tuple #[]) ∧ SA w' b (n + 1) (fun x => p x || decide (x = s)) ∧ But (fun x => x = b) w w' := by
  obtain ⟨D, h1, h2⟩ := h
  have hk := key_mk hs
  have H2 : Hid (∀ s, Maps.has D (kS s) = p s) := h2
  have HM : Hid (IsMap D) := h1.isMap
  clear h2
  go_enter Tryd.func81, Tryd.ntmps81
  go_wp2_with (at_mapUpdate; refine wpList_mapUpdate_own _ rfl _ _ _ 112 rfl 9 121 lawS Tryd.underlying112 (unitElem (H := Unit)) b n _ rfl h1 hn _ _ _ rfl rfl hk _ [] unitElem_mk ?_; intro w1 hown1 hgrow1)
  go_end0
  exact ⟨rfl, ⟨_, hown1, fun x => by rw [has_put_all HM.out, H2.out]⟩, But.of_grown hgrow1⟩
/-- Is it among the first k of the list? -/
def seenK (l : List ByteArray) (k : Nat) (s : ByteArray) : Bool := (l.take k).any fun x => decide (s = x)
theorem seenK_next (l : List ByteArray) {k : Nat} (h : k < l.length) (s : ByteArray) : seenK l (k + 1) s = (seenK l k s || decide (s = l[k])) := by
  unfold seenK
  rw [List.take_add_one, List.getElem?_eq_getElem h, Option.toList_some, List.any_append]; simp [-List.take_append_getElem]
/-- Each where it stands first alone. -/
def onceL (l : List ByteArray) : List ByteArray := keepK l ByteArray.empty (fun k => seenK l k (l.getD k ByteArray.empty)) l.length
/-- The state of eachOnce's visits: the box with the set, the set. -/
def EO (l : List ByteArray) (bx b : Nat) (k : Nat) (F : Nat → Prop) (w : World) : Prop := w.heap[bx]? = some (.cells #[.map (some b)] 112) ∧ SA w b k (seenK l k) ∧ bx ≠ b ∧ ∀ x, F x ↔ x = bx ∨ x = b
theorem EO_vis (l : List ByteArray) (bx b : Nat) : Vis (EO l bx b) where
  lt := fun k F w h x hx => by
    obtain ⟨h1, h2, _, h4⟩ := h
    rcases (h4 x).1 hx with e | e
    · subst e; exact (Array.getElem?_eq_some_iff.1 h1).1
    · subst e; exact h2.lt
  keep := fun k F w w' h hs _ _ _ hk => by
    obtain ⟨h1, h2, h3, h4⟩ := h
    exact ⟨(hk bx ((h4 bx).2 (Or.inl rfl))).trans h1, h2.far (hk b ((h4 b).2 (Or.inr rfl))), h3, h4⟩
set_option maxHeartbeats 4000000 in
theorem onceV_any (l : List ByteArray) (bx b k : Nat) (F : Nat → Prop) (w : World) (hk : k < l.length) (hlm : l.length ≤ 1000000) (ht : ∀ x ∈ l, x.size ≤ maxLen) (U : EO l bx b k F w) :
    Calls Tryd.prog 79 (#[.string (l.getD k ByteArray.empty)] ++ #[.pointer (some ⟨bx, 0, none⟩)]) w fun e w' => e = .returned (.bool (seenK l k (l.getD k ByteArray.empty))) ∧ ∃ F', EO l bx b (k + 1) F' w' ∧ (∀ x, F' x → F x ∨ w.heap.size ≤ x) ∧ But F w w' := by
  obtain ⟨h1, h2, h3, h4⟩ := U
  have e : l.getD k ByteArray.empty = l[k] := by simp [List.getD, List.getElem?_eq_getElem hk]
  rw [e]
  have hs := ht _ (List.getElem_mem hk)
  have HA : Hid _ := has_any b k (seenK l k) l[k] w h2 hs
  have AD : Hid (∀ w1, Below w.heap.size w w1 → _) := fun w1 c => add_any b k (seenK l k) l[k] w1 (h2.below c) hs (by unfold maxLen; omega)
  have NX : Hid (∀ w2, SA w2 b (k + 1) (fun x => seenK l k x || decide (x = l[k])) → SA w2 b (k + 1) (seenK l (k + 1))) := fun w2 h => h.congr (fun s => (seenK_next l hk s).symm)
  have c1 := box_cell h1
  have H1 : Hid _ := h1
  have H4 : Hid (∀ x, F x ↔ x = bx ∨ x = b) := h4
  have H2 : Hid (SA w b k (seenK l k)) := h2
  have ZB : Hid (bx < w.heap.size) := (Array.getElem?_eq_some_iff.1 h1).1
  generalize l[k] = s at *
  generalize seenK l k s = r at *
  clear h1 h2 h4 e
  go_enter Tryd.func79, Tryd.ntmps79
  go_wp2_with fail
  refine Calls.mono HA.out ?_
  rintro e w1 ⟨rfl, hb1⟩
  have c2 : w1.cell? ⟨bx, 0, none⟩ = some (.map (some b)) := (hb1.cell (p := ⟨bx, 0, none⟩) ZB.out).trans c1
  have B1 : Hid (Below w.heap.size w w1) := hb1
  clear hb1 HA
  go_wp2_with fail
  refine Calls.mono (AD.out _ B1.out) ?_
  rintro e w2 ⟨rfl, hs2, hb2⟩
  have FN : Hid (∃ F', EO l bx b (k + 1) F' w2 ∧ (∀ x, F' x → F x ∨ w.heap.size ≤ x) ∧ But F w w2) := by
    refine ⟨F, ⟨(hb2.block bx (Nat.lt_of_lt_of_le ZB.out B1.out.size) h3).trans ((B1.out.block bx ZB.out).trans H1.out), NX.out _ hs2, h3, H4.out⟩, fun x hx => Or.inl hx, ⟨hb2.os.trans B1.out.os, hb2.tape.trans B1.out.tape, hb2.output.trans B1.out.output, Nat.le_trans B1.out.size hb2.size, fun x hx hn => (hb2.block x (Nat.lt_of_lt_of_le hx B1.out.size) (fun e => hn ((H4.out x).2 (Or.inr e)))).trans (B1.out.block x hx)⟩⟩
  clear hs2 hb2 AD NX
  go_wp2_with fail
  go_ret
  exact ⟨rfl, FN.out⟩
set_option maxHeartbeats 4000000 in
theorem eachOnce_any (v : Value) (l : List ByteArray) (w : World) (h : SS w v l) (hlm : l.length ≤ 1000000) (ht : ∀ x ∈ l, x.size ≤ maxLen) :
    Calls Tryd.prog 60 #[v] w fun e w' => ∃ p c, e = .returned (.slice p (onceL l).length c) ∧ OwnG KS w' w.heap.size (.slice p (onceL l).length c) (onceL l) ∧ Below w.heap.size w w' := by
  have hmm := @run_makeMap Tryd.prog
  have A1 : Below w.heap.size w ((w.alloc (.map #[] 0)).alloc (.cells #[.map (some w.heap.size)] 112)) := ((Below.refl _ _).alloc (Nat.le_refl _) _).alloc (by simp) _
  have b0 : ((w.alloc (.map #[] 0)).alloc (.cells #[.map (some w.heap.size)] 112)).heap[w.heap.size + 1]? = some (.cells #[.map (some w.heap.size)] 112) := by
    have := heap_alloc_new (w.alloc (.map #[] 0)) (.cells #[.map (some w.heap.size)] 112)
    rw [show (w.alloc (.map #[] 0)).heap.size = w.heap.size + 1 by simp] at this
    exact this
  have hlt : ∀ x, v.ownBlock = some x → l ≠ [] → x < w.heap.size := fun x hx hn => h.lt (List.length_pos_iff.2 hn) hx
  have RF : Hid (Calls Tryd.prog 58 #[v, .func (.func 79) #[] #[.pointer (some ⟨w.heap.size + 1, 0, none⟩)]] ((w.alloc (.map #[] 0)).alloc (.cells #[.map (some w.heap.size)] 112)) fun e w' => ∃ p c, e = .returned (.slice p (onceL l).length c) ∧ OwnG KS w' w.heap.size (.slice p (onceL l).length c) (onceL l) ∧ Below w.heap.size w w') := by
    by_cases hn : l = []
    · subst hn
      refine Calls.mono (removeS_any v [] 79 _ (fun k => false) _ (fun _ F _ => ∀ x, ¬ F x) (fun _ => False) none_vis (h.below A1) (fun x _ e => e) (by simp) (fun x e => e) Tryd.call79 (fun k F wk hk => by simp at hk)) ?_
      rintro e w' ⟨p, c, F', rfl, R⟩
      exact ⟨p, c, rfl, R.s.low A1.size, A1.trans (R.bt.below.mono A1.size)⟩
    · refine Calls.mono (removeS_any v l 79 _ (fun k => seenK l k (l.getD k ByteArray.empty)) _ (EO l (w.heap.size + 1) w.heap.size) (fun x => x = w.heap.size + 1 ∨ x = w.heap.size) (EO_vis _ _ _) (h.below A1) (fun x hx e => by have := hlt x hx hn; omega) hlm ⟨b0, (SA.made w).below ((Below.refl _ _).alloc (Nat.le_refl _) _), by omega, fun x => Iff.rfl⟩ Tryd.call79 (fun k F wk hk hI hfn hbt => onceV_any l _ _ k F wk hk hlm ht hI)) ?_
      rintro e w' ⟨p, c, F', rfl, R⟩
      refine ⟨p, c, rfl, R.s.low A1.size, A1.trans ⟨R.bt.os, R.bt.tape, R.bt.output, R.bt.size, fun x hx => R.bt.block x (Nat.lt_of_lt_of_le hx A1.size) (by omega)⟩⟩
  have hmf : ∀ (fn : Fn) (first cap : Array Value) (w : World), (Instr.makeFunc fn first cap).run Tryd.prog w = .ok (.func fn first cap) w := fun _ _ _ _ => rfl
  obtain ⟨p, cap, rfl⟩ := h.form
  generalize onceL l = L at *
  clear h b0 hlt A1
  go_enter Tryd.func60, Tryd.ntmps60
  go_wp2_with fail
  refine Calls.mono RF.out ?_
  rintro e w1 ⟨p1, c1, rfl, ho, hb⟩
  go_wp2_with fail
  go_ret
  exact ⟨p1, c1, rfl, ho, hb⟩
end Go.Proofs.YtffabehipcomfaaDoor
