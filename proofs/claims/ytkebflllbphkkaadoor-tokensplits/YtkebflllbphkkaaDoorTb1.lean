/- Tokens: rows of numbers, of texts; maps from texts to anything; what a call leaves as it was. -/
import Derived.Test.YtkebflllbphkkaaDoorGx5
import Derived.Test.YtkebflllbphkkaaDoorGr2
import Derived.Maps.OwnSet
import Derived.Maps.RangeWalk
import Derived.StringKeys
namespace Go.Proofs.YtkebflllbphkkaaDoor
open Go.RowKit Go.Maps

theorem hid {p : Prop} (h : p) : Hid p := h
theorem info_parts' {P : Program} {t : TypeId} {z : Value} {n m : Nat} (h : (P.info? t).map (fun i => (i.zero, i.size, i.bytes)) = some (some z, n, m)) : ∃ i, P.info? t = some i ∧ i.zero = some z ∧ i.size = n ∧ i.bytes = m := by
  obtain ⟨i, h1, h2⟩ := Option.map_eq_some_iff.1 h
  simp only [Prod.mk.injEq] at h2
  exact ⟨i, h1, h2.1, h2.2.1, h2.2.2⟩
def KI : RK Int := ⟨3, 1, 8, .int .i64 0, fun x => [.int .i64 x]⟩
theorem KI_ok : KI.Ok Tryd.prog :=
  ⟨fun _ => rfl, fun x u hu => by simp [KI] at hu; subst hu; rfl, rfl, by decide, by decide, info_parts' (by kernel_rfl)⟩
abbrev IS (w : World) (v : Value) (l : List Int) : Prop := GS KI w v l
theorem GS.atI {w : World} {p : Option Addr} {n cap k : Nat} {l : List Int} (h : GS KI w (.slice p n cap) l) (hk : k < l.length) : ∃ X o, p = some ⟨X, o, none⟩ ∧ w.cell? ⟨X, o + k, none⟩ = some (.int .i64 l[k]) := by
  obtain ⟨X, o, h1, _, h2⟩ := GS.at h hk
  have := h2 0 _ rfl
  rw [show KI.W = 1 from rfl, Nat.mul_one] at this
  exact ⟨X, o, h1, this⟩
def KS : RK ByteArray := ⟨9, 1, 16, .string ByteArray.empty, fun x => [.string x]⟩
theorem KS_ok : KS.Ok Tryd.prog :=
  ⟨fun _ => rfl, fun x u hu => by simp [KS] at hu; subst hu; rfl, rfl, by decide, by decide, info_parts' (by kernel_rfl)⟩
abbrev SS (w : World) (v : Value) (l : List ByteArray) : Prop := GS KS w v l
theorem GS.atS {w : World} {p : Option Addr} {n cap k : Nat} {l : List ByteArray} (h : GS KS w (.slice p n cap) l) (hk : k < l.length) : ∃ X o, p = some ⟨X, o, none⟩ ∧ w.cell? ⟨X, o + k, none⟩ = some (.string l[k]) := by
  obtain ⟨X, o, h1, _, h2⟩ := GS.at h hk
  have := h2 0 _ rfl
  rw [show KS.W = 1 from rfl, Nat.mul_one] at this
  exact ⟨X, o, h1, this⟩
/-- A cell of a row of numbers of the call's own. -/
theorem own_int {w : World} {base g n cap : Nat} {S : List Int} (h : OwnG KI w base (.slice (some ⟨g, 0, none⟩) n cap) S) (hn : n = S.length) {j : Nat} (hj : j < S.length) : w.cell? ⟨g, j, none⟩ = some (.int .i64 (S.getD j 0)) := by
  subst hn
  obtain ⟨X, o, e, hc⟩ := (h.gs KI_ok.len).atI hj
  injection e with e
  injection e with e1 e2 _
  subst e1 e2
  rw [Nat.zero_add] at hc
  rw [hc]; simp [List.getD, List.getElem?_eq_getElem hj]
theorem own_frozen {α : Type} {K : RK α} {w : World} {base g n cap : Nat} {l : List α} (h : OwnG K w base (.slice (some ⟨g, 0, none⟩) n cap) l) : ∀ o, w.frozen? ⟨g, o, none⟩ = false := by
  rcases h.2 with ⟨e, _⟩ | ⟨g', cp, cur, e1, _, e3, _⟩
  · cases e
  · injection e1 with e1 _ _
    injection e1 with e1
    injection e1 with e1 _ _
    subst e1
    intro o
    simp [World.frozen?, e3]
structure But (F : Nat → Prop) (a b : World) : Prop where
  os : b.os = a.os
  tape : b.tape = a.tape
  output : b.output = a.output
  size : a.heap.size ≤ b.heap.size
  block : ∀ x, x < a.heap.size → ¬ F x → b.heap[x]? = a.heap[x]?
theorem But.of_below {F : Nat → Prop} {a b : World} (h : Below a.heap.size a b) : But F a b := ⟨h.os, h.tape, h.output, h.size, fun x hx _ => h.block x hx⟩
theorem But.refl (F : Nat → Prop) (a : World) : But F a a := ⟨rfl, rfl, rfl, Nat.le_refl _, fun _ _ _ => rfl⟩
theorem But.trans {F G : Nat → Prop} {a b c : World} (h : But F a b) (k : But G b c) (hG : ∀ x, G x → F x ∨ a.heap.size ≤ x) : But F a c :=
  ⟨k.os.trans h.os, k.tape.trans h.tape, k.output.trans h.output, Nat.le_trans h.size k.size, fun x hx hn => (k.block x (Nat.lt_of_lt_of_le hx h.size) (fun hg => by rcases hG x hg with e | e; exact hn e; omega)).trans (h.block x hx hn)⟩
theorem lawS : Keyed Tryd.prog 9 := string_keyed Tryd.underlying9
def kS (s : ByteArray) : Lit := .string s.data.toList
theorem kS_inj {s t : ByteArray} : kS s = kS t ↔ s = t := by
  constructor
  · intro h
    unfold kS at h
    injection h with h
    cases s; cases t
    simp only [ByteArray.mk.injEq]
    exact Array.toList_inj.1 h
  · intro h; rw [h]
theorem kS_key (s : ByteArray) : WideAt.IsKeyLit (kS s) := trivial
theorem key_mk {s : ByteArray} (h : s.size ≤ maxLen) : keyOf Tryd.prog 9 (.string s) = some (kS s) := Go.WideMaps.keyOf_string_mk Tryd.underlying9 h
theorem But.of_grown {w w' : World} {b : Nat} (h : w.grownBy w' (some b)) : But (fun x => x = b) w w' := ⟨h.os, h.tape, h.output, h.size, fun x hx hn => h.block x hx (fun e => hn (by injection e))⟩
def hE (v : Value) : Option (DataW Value × List MemPlace) := some (.held v, [])
theorem hE_inj {v z : Value} {ps : List MemPlace} (h : hE v = some (.held z, ps)) : v = z := by
  have q : (some (DataW.held v, []) : Option (DataW Value × List MemPlace)) = some (.held z, ps) := h
  exact DataW.held.inj (congrArg Prod.fst (Option.some.inj q))
/-- The block is a map in which a text s has f s. -/
def MV (w : World) (b n : Nat) (f : ByteArray → Option Value) : Prop := ∃ D : DataW Value, w.ownsMap Tryd.prog 9 hE b n D ∧ (∀ s, Maps.has D (kS s) = (f s).isSome) ∧ ∀ s z, D.atKey (kS s) (.held z) = .held ((f s).getD z)
theorem MV.far {w w' : World} {b n : Nat} {f : ByteArray → Option Value} (h : MV w b n f) (k : w'.heap[b]? = w.heap[b]?) : MV w' b n f := by
  obtain ⟨D, ⟨es, cl, h1, h2⟩, h3⟩ := h
  exact ⟨D, ⟨es, cl, k.trans h1, h2⟩, h3⟩
theorem MV.lt {w : World} {b n : Nat} {f : ByteArray → Option Value} (h : MV w b n f) : b < w.heap.size := by
  obtain ⟨D, h1, _⟩ := h
  exact h1.lt
theorem MV.below {w w' : World} {b n : Nat} {f : ByteArray → Option Value} (h : MV w b n f) (k : Below w.heap.size w w') : MV w' b n f := h.far (k.block b h.lt)
theorem MV.made (w : World) : MV (w.alloc (.map #[] 0)) w.heap.size 0 (fun _ => none) := ⟨.map [], World.ownsMap_made _ _ _ _, fun _ => rfl, fun _ _ => rfl⟩
theorem MV.congr {w : World} {b n : Nat} {f g : ByteArray → Option Value} (h : MV w b n f) (hq : ∀ s, f s = g s) : MV w b n g := by
  have : f = g := funext hq
  rw [← this]; exact h
theorem MV.more {w : World} {b n m : Nat} {f : ByteArray → Option Value} (h : MV w b n f) (hm : n ≤ m) : MV w b m f := by
  obtain ⟨D, h1, h2⟩ := h
  exact ⟨D, h1.mono hm, h2⟩
/-- A text is given something. -/
def putF (f : ByteArray → Option Value) (s : ByteArray) (v : Value) : ByteArray → Option Value := fun x => if x = s then some v else f x
theorem MV.put {w : World} {b n : Nat} {f : ByteArray → Option Value} (h : MV w b n f) {t e : TypeId} (ht : Tryd.prog.underlying t = some (.map 9 e)) (hn : n < maxLen) {s : ByteArray} (hs : s.size ≤ maxLen) (val : Value) :
    ∃ w', (Instr.mapUpdate t (.map (some b)) (.string s) val).run Tryd.prog w = .ok () w' ∧ MV w' b (n + 1) (putF f s val) ∧ But (fun x => x = b) w w' := by
  obtain ⟨D, h1, h2, h3⟩ := h
  have HM : IsMap D := h1.isMap
  obtain ⟨w', hrun, ho, hgr⟩ := h1.update lawS ht hn (key_mk hs) (show hE val = some (.held val, []) from rfl)
  refine ⟨w', hrun, ⟨_, ho, fun y => ?_, fun y z => ?_⟩, But.of_grown hgr⟩
  · unfold putF
    by_cases e : y = s
    · subst e; rw [has_put_same HM (kS_key _), if_pos rfl]; rfl
    · rw [has_put_other (fun q => e (kS_inj.1 q)), if_neg e, h2]
  · unfold putF
    by_cases e : y = s
    · subst e; rw [atKey_put_same HM (kS_key _), if_pos rfl]; rfl
    · rw [atKey_put_other (fun q => e (kS_inj.1 q)), if_neg e, h3]
section
variable {w : World} {ops : Array Oper} {rest : List Oper} {o : Oper} {a : Act} {Q : Exit → Act → World → Prop}
theorem mv_ok (hg : o.guard = none) (m x : Operand) (t : TypeId) (hop : o.op = Op.lookup t m x true) (e : TypeId) (ht : Tryd.prog.underlying t = some (.map 9 e)) {z : Value} (hz : (zeroValue e).run Tryd.prog w = .ok z w)
    (b n : Nat) (f : ByteArray → Option Value) (hm : a.eval m = .map (some b)) (h : MV w b n f) (s : ByteArray) (hx : a.eval x = .string s) (hs : s.size ≤ maxLen)
    (hK : wpList Tryd.prog ops Q rest (a.put o.dst (.tuple #[(f s).getD z, .bool (f s).isSome])) w) : wpList Tryd.prog ops Q (o :: rest) a w := by
  obtain ⟨D, h1, h2, h3⟩ := h
  refine wpList_lookup_own_ok w hg m x t hop 9 e lawS ht hE hz (.held z) [] rfl b n D hm h1 _ _ hx (key_mk hs) ?_
  intro v ps hv
  rw [h3] at hv
  have e1 : v = (f s).getD z := hE_inj hv
  rw [e1, h2]; exact hK
theorem mv_at (hg : o.guard = none) (m x : Operand) (t : TypeId) (hop : o.op = Op.lookup t m x false) (e : TypeId) (ht : Tryd.prog.underlying t = some (.map 9 e)) {z : Value} (hz : (zeroValue e).run Tryd.prog w = .ok z w)
    (b n : Nat) (f : ByteArray → Option Value) (hm : a.eval m = .map (some b)) (h : MV w b n f) (s : ByteArray) (hx : a.eval x = .string s) (hs : s.size ≤ maxLen)
    (hK : wpList Tryd.prog ops Q rest (a.put o.dst ((f s).getD z)) w) : wpList Tryd.prog ops Q (o :: rest) a w := by
  obtain ⟨D, h1, h2, h3⟩ := h
  refine wpList_plain hg fun K' hK' => ?_
  obtain ⟨v, ps, hrun, hv⟩ := h1.lookup lawS ht hz (show hE z = some (.held z, []) from rfl) (key_mk hs)
  rw [h3] at hv
  have e1 : v = (f s).getD z := hE_inj hv
  unfold Oper.wp
  simp [execOp, hop, hm, hx, hrun, Result.andThen]
  rw [e1]
  exact hK' _ _ hK
theorem mv_hit (hg : o.guard = none) (m x : Operand) (t : TypeId) (hop : o.op = Op.lookup t m x false) (e : TypeId) (ht : Tryd.prog.underlying t = some (.map 9 e)) {z : Value} (hz : (zeroValue e).run Tryd.prog w = .ok z w)
    (b n : Nat) (f : ByteArray → Option Value) (hm : a.eval m = .map (some b)) (h : MV w b n f) (s : ByteArray) (hx : a.eval x = .string s) (hs : s.size ≤ maxLen) (v : Value) (hf : f s = some v)
    (hK : wpList Tryd.prog ops Q rest (a.put o.dst v) w) : wpList Tryd.prog ops Q (o :: rest) a w :=
  mv_at hg m x t hop e ht hz b n f hm h s hx hs (by rw [hf]; exact hK)
theorem mv_put (hg : o.guard = none) (m x v : Operand) (t : TypeId) (hop : o.op = Op.mapUpdate t m x v) (e : TypeId) (ht : Tryd.prog.underlying t = some (.map 9 e))
    (b n : Nat) (f : ByteArray → Option Value) (hm : a.eval m = .map (some b)) (h : MV w b n f) (hn : n < maxLen) (s : ByteArray) (val : Value) (hx : a.eval x = .string s) (hv : a.eval v = val) (hs : s.size ≤ maxLen)
    (hK : ∀ w', MV w' b (n + 1) (putF f s val) → But (fun x => x = b) w w' → wpList Tryd.prog ops Q rest (a.put o.dst undef) w') : wpList Tryd.prog ops Q (o :: rest) a w := by
  obtain ⟨D, h1, h2, h3⟩ := h
  have HM : IsMap D := h1.isMap
  refine wpList_mapUpdate_own w hg m x v t hop 9 e lawS ht hE b n D hm h1 hn _ val _ hx hv (key_mk hs) (.held val) [] rfl ?_
  intro w' ho hgr
  refine hK w' ⟨_, ho, fun y => ?_, fun y z => ?_⟩ (But.of_grown hgr)
  · unfold putF
    by_cases e : y = s
    · subst e; rw [has_put_same HM (kS_key _), if_pos rfl]; rfl
    · rw [has_put_other (fun q => e (kS_inj.1 q)), if_neg e, h2]
  · unfold putF
    by_cases e : y = s
    · subst e; rw [atKey_put_same HM (kS_key _), if_pos rfl]; rfl
    · rw [atKey_put_other (fun q => e (kS_inj.1 q)), if_neg e, h3]
end
end Go.Proofs.YtkebflllbphkkaaDoor
