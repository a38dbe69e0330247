/- Waiting: waiters, rows of them; maps from texts to anything, with their size; what a call leaves as it was. -/
import Derived.Test.YtofdfofpdfaimaaWord
import Derived.Test.YtofdfofpdfaimaaGr1
import Derived.Test.YtofdfofpdfaimaaGr2
import Derived.Maps.OwnSet
import Derived.Maps.RangeWalk
import Derived.StringKeys
import Derived.Sort.KeysCollected
import Derived.Maps.StringElems
import Derived.Sort.MapsRangeIn
import Derived.Laws.EntriesVeiled
import Derived.BigQuiet
import Derived.BigRegion
namespace Go.Proofs.Ytofdfofpdfaimaa
open Go.RowKit Go.Maps

theorem hid {p : Prop} (h : p) : Hid p := h
theorem info_parts' {P : Program} {t : TypeId} {z : Value} {n m : Nat} (h : (P.info? t).map (fun i => (i.zero, i.size, i.bytes)) = some (some z, n, m)) : ∃ i, P.info? t = some i ∧ i.zero = some z ∧ i.size = n ∧ i.bytes = m := by
  obtain ⟨i, h1, h2⟩ := Option.map_eq_some_iff.1 h
  simp only [Prod.mk.injEq] at h2
  exact ⟨i, h1, h2.1, h2.2.1, h2.2.2⟩
def KI : RK Int := ⟨3, 1, 8, .int .i64 0, fun x => [.int .i64 x]⟩
theorem KI_ok : KI.Ok Try.prog :=
  ⟨fun _ => rfl, fun x u hu => by simp [KI] at hu; subst hu; rfl, rfl, by decide, by decide, info_parts' (by kernel_rfl)⟩
abbrev IS (w : World) (v : Value) (l : List Int) : Prop := GS KI w v l
theorem GS.atI {w : World} {p : Option Addr} {n cap k : Nat} {l : List Int} (h : GS KI w (.slice p n cap) l) (hk : k < l.length) : ∃ X o, p = some ⟨X, o, none⟩ ∧ w.cell? ⟨X, o + k, none⟩ = some (.int .i64 l[k]) := by
  obtain ⟨X, o, h1, _, h2⟩ := GS.at h hk
  have := h2 0 _ rfl
  rw [show KI.W = 1 from rfl, Nat.mul_one] at this
  exact ⟨X, o, h1, this⟩
def KS : RK ByteArray := ⟨9, 1, 16, .string ByteArray.empty, fun x => [.string x]⟩
theorem KS_ok : KS.Ok Try.prog :=
  ⟨fun _ => rfl, fun x u hu => by simp [KS] at hu; subst hu; rfl, rfl, by decide, by decide, info_parts' (by kernel_rfl)⟩
abbrev SS (w : World) (v : Value) (l : List ByteArray) : Prop := GS KS w v l
theorem GS.atS {w : World} {p : Option Addr} {n cap k : Nat} {l : List ByteArray} (h : GS KS w (.slice p n cap) l) (hk : k < l.length) : ∃ X o, p = some ⟨X, o, none⟩ ∧ w.cell? ⟨X, o + k, none⟩ = some (.string l[k]) := by
  obtain ⟨X, o, h1, _, h2⟩ := GS.at h hk
  have := h2 0 _ rfl
  rw [show KS.W = 1 from rfl, Nat.mul_one] at this
  exact ⟨X, o, h1, this⟩
/-- A cell of a row of numbers of the call's own. -/
theorem own_int {w : World} {base g n cap : Nat} {S : List Int} (h : OwnG KI w base (.slice (some ⟨g, 0, none⟩) n cap) S) (hn : n = S.length) {j : Nat} (hj : j < S.length) : w.cell? ⟨g, j, none⟩ = some (.int .i64 (S.getD j 0)) := by
  subst hn
  obtain ⟨X, o, e, hc⟩ := (h.gs KI_ok.len).atI hj
  injection e with e
  injection e with e1 e2 _
  subst e1 e2
  rw [Nat.zero_add] at hc
  rw [hc]; simp [List.getD, List.getElem?_eq_getElem hj]
theorem own_frozen {α : Type} {K : RK α} {w : World} {base g n cap : Nat} {l : List α} (h : OwnG K w base (.slice (some ⟨g, 0, none⟩) n cap) l) : ∀ o, w.frozen? ⟨g, o, none⟩ = false := by
  rcases h.2 with ⟨e, _⟩ | ⟨g', cp, cur, e1, _, e3, _⟩
  · cases e
  · injection e1 with e1 _ _
    injection e1 with e1
    injection e1 with e1 _ _
    subst e1
    intro o
    simp [World.frozen?, e3]
structure But (F : Nat → Prop) (a b : World) : Prop where
  os : b.os = a.os
  tape : b.tape = a.tape
  output : b.output = a.output
  size : a.heap.size ≤ b.heap.size
  block : ∀ x, x < a.heap.size → ¬ F x → b.heap[x]? = a.heap[x]?
theorem But.of_below {F : Nat → Prop} {a b : World} (h : Below a.heap.size a b) : But F a b := ⟨h.os, h.tape, h.output, h.size, fun x hx _ => h.block x hx⟩
theorem But.refl (F : Nat → Prop) (a : World) : But F a a := ⟨rfl, rfl, rfl, Nat.le_refl _, fun _ _ _ => rfl⟩
theorem But.trans {F G : Nat → Prop} {a b c : World} (h : But F a b) (k : But G b c) (hG : ∀ x, G x → F x ∨ a.heap.size ≤ x) : But F a c :=
  ⟨k.os.trans h.os, k.tape.trans h.tape, k.output.trans h.output, Nat.le_trans h.size k.size, fun x hx hn => (k.block x (Nat.lt_of_lt_of_le hx h.size) (fun hg => by rcases hG x hg with e | e; exact hn e; omega)).trans (h.block x hx hn)⟩
theorem lawS : Keyed Try.prog 9 := string_keyed Try.underlying9
def kS (s : ByteArray) : Lit := .string s.data.toList
theorem kS_inj {s t : ByteArray} : kS s = kS t ↔ s = t := by
  constructor
  · intro h
    unfold kS at h
    injection h with h
    cases s; cases t
    simp only [ByteArray.mk.injEq]
    exact Array.toList_inj.1 h
  · intro h; rw [h]
theorem kS_key (s : ByteArray) : WideAt.IsKeyLit (kS s) := trivial
theorem key_mk {s : ByteArray} (h : s.size ≤ maxLen) : keyOf Try.prog 9 (.string s) = some (kS s) := Go.WideMaps.keyOf_string_mk Try.underlying9 h
theorem But.of_grown {w w' : World} {b : Nat} (h : w.grownBy w' (some b)) : But (fun x => x = b) w w' := ⟨h.os, h.tape, h.output, h.size, fun x hx hn => h.block x hx (fun e => hn (by injection e))⟩
def hE (v : Value) : Option (DataW Value × List MemPlace) := some (.held v, [])
theorem hE_inj {v z : Value} {ps : List MemPlace} (h : hE v = some (.held z, ps)) : v = z := by
  have q : (some (DataW.held v, []) : Option (DataW Value × List MemPlace)) = some (.held z, ps) := h
  exact DataW.held.inj (congrArg Prod.fst (Option.some.inj q))
theorem lt_of_heap {w : World} {b : Nat} {ob : Obj} (h : w.heap[b]? = some ob) : b < w.heap.size := by
  by_cases q : b < w.heap.size
  · exact q
  · rw [Array.getElem?_eq_none (by omega)] at h; cases h
theorem bl3 {a b c : World} (h : Below a.heap.size a b) (k : Below b.heap.size b c) : Below a.heap.size a c := h.trans (k.mono h.size)
theorem bal (w : World) (ob : Obj) : Below w.heap.size w (w.alloc ob) := (Below.refl _ _).alloc (Nat.le_refl _) ob
theorem drew_below (w : World) (n : Nat) : Below w.heap.size w (w.drewN n) := ⟨rfl, rfl, rfl, Nat.le_refl _, fun _ _ => rfl⟩
/-- Who waits. -/
structure Wt where
  task : Int
  kind : Int
  key : ByteArray
  tok : ByteArray
/-- Who waits, and how many came ahead. -/
structure Wc where
  w : Wt
  came : Nat
def wtL (x : Wt) : List Value := [.int .i64 x.task, .int .i64 x.kind, .string x.key, .string x.tok]
def wcL (x : Wc) : List Value := [.int .i64 x.w.task, .int .i64 x.w.kind, .string x.w.key, .string x.w.tok, .int .i64 x.came]
def wtV (x : Wt) : Value := .agg #[.int .i64 x.task, .int .i64 x.kind, .string x.key, .string x.tok]
def wcV (x : Wc) : Value := .agg #[.int .i64 x.w.task, .int .i64 x.w.kind, .string x.w.key, .string x.w.tok, .int .i64 x.came]
def KW : RK Wt := ⟨30, 4, 48, .agg #[.int .i64 0, .int .i64 0, .string ByteArray.empty, .string ByteArray.empty], wtL⟩
theorem KW_ok : KW.Ok Try.prog :=
  ⟨fun _ => rfl, fun x u hu => by simp [KW, wtL] at hu; rcases hu with rfl | rfl | rfl | rfl <;> rfl, rfl, by decide, by decide, info_parts' (by kernel_rfl)⟩
def KC : RK Wc := ⟨69, 5, 56, .agg #[.int .i64 0, .int .i64 0, .string ByteArray.empty, .string ByteArray.empty, .int .i64 0], wcL⟩
theorem KC_ok : KC.Ok Try.prog :=
  ⟨fun _ => rfl, fun x u hu => by simp [KC, wcL] at hu; rcases hu with rfl | rfl | rfl | rfl | rfl <;> rfl, rfl, by decide, by decide, info_parts' (by kernel_rfl)⟩
theorem GS.atW {w : World} {p : Option Addr} {n cap k : Nat} {l : List Wt} (h : GS KW w (.slice p n cap) l) (hk : k < l.length) : ∃ X o, p = some ⟨X, o, none⟩ ∧ w.cell? ⟨X, o + k * 4, none⟩ = some (.int .i64 l[k].task) ∧ w.cell? ⟨X, o + k * 4 + 1, none⟩ = some (.int .i64 l[k].kind) ∧ w.cell? ⟨X, o + k * 4 + 2, none⟩ = some (.string l[k].key) ∧ w.cell? ⟨X, o + k * 4 + 3, none⟩ = some (.string l[k].tok) := by
  obtain ⟨X, o, h1, _, h2⟩ := GS.at h hk
  exact ⟨X, o, h1, h2 0 _ rfl, h2 1 _ rfl, h2 2 _ rfl, h2 3 _ rfl⟩
theorem GS.atC {w : World} {p : Option Addr} {n cap k : Nat} {l : List Wc} (h : GS KC w (.slice p n cap) l) (hk : k < l.length) : ∃ X o, p = some ⟨X, o, none⟩ ∧ w.cell? ⟨X, o + k * 5, none⟩ = some (.int .i64 l[k].w.task) ∧ w.cell? ⟨X, o + k * 5 + 1, none⟩ = some (.int .i64 l[k].w.kind) ∧ w.cell? ⟨X, o + k * 5 + 2, none⟩ = some (.string l[k].w.key) ∧ w.cell? ⟨X, o + k * 5 + 3, none⟩ = some (.string l[k].w.tok) ∧ w.cell? ⟨X, o + k * 5 + 4, none⟩ = some (.int .i64 l[k].came) := by
  obtain ⟨X, o, h1, _, h2⟩ := GS.at h hk
  exact ⟨X, o, h1, h2 0 _ rfl, h2 1 _ rfl, h2 2 _ rfl, h2 3 _ rfl, h2 4 _ rfl⟩
/-- The block is a map in which a text s has f s. -/
def MQ (w : World) (b : Nat) (f : ByteArray → Option Value) : Prop := ∃ D : DataW Value, w.ownsMap Try.prog 9 hE b (Maps.size D) D ∧ (∀ s, Maps.has D (kS s) = (f s).isSome) ∧ ∀ s z, D.atKey (kS s) (.held z) = .held ((f s).getD z)
theorem MQ.far {w w' : World} {b : Nat} {f : ByteArray → Option Value} (h : MQ w b f) (k : w'.heap[b]? = w.heap[b]?) : MQ w' b f := by
  obtain ⟨D, ⟨es, cl, h1, h2⟩, h3⟩ := h
  exact ⟨D, ⟨es, cl, k.trans h1, h2⟩, h3⟩
theorem MQ.lt {w : World} {b : Nat} {f : ByteArray → Option Value} (h : MQ w b f) : b < w.heap.size := by
  obtain ⟨D, h1, _⟩ := h
  exact h1.lt
theorem MQ.below {w w' : World} {b : Nat} {f : ByteArray → Option Value} (h : MQ w b f) (k : Below w.heap.size w w') : MQ w' b f := h.far (k.block b h.lt)
theorem MQ.made (w : World) : MQ (w.alloc (.map #[] 0)) w.heap.size (fun _ => none) := ⟨.map [], World.ownsMap_made _ _ _ _, fun _ => rfl, fun _ _ => rfl⟩
theorem owns_fit {w : World} {b n : Nat} {D : DataW Value} (h : w.ownsMap Try.prog 9 hE b n D) : w.ownsMap Try.prog 9 hE b (Maps.size D) D := by
  obtain ⟨es, clock, hb, F, _, rfl⟩ := h
  refine ⟨es, clock, hb, F, ?_, rfl⟩
  simp [Maps.size, length_sorted]
theorem sub_len {α : Type} : ∀ {l m : List α}, l.Nodup → (∀ x ∈ l, x ∈ m) → l.length ≤ m.length
  | [], _, _, _ => by simp
  | a :: l, m, hn, hs => by
    obtain ⟨s, t, rfl⟩ := List.append_of_mem (hs a (by simp))
    have hn2 := List.nodup_cons.1 hn
    have := sub_len (l := l) (m := s ++ t) hn2.2 (fun x hx => by
      have h1 := hs x (by simp [hx])
      have hne : x ≠ a := fun e => hn2.1 (e ▸ hx)
      simp at h1 ⊢
      rcases h1 with h1 | h1 | h1
      · exact Or.inl h1
      · exact absurd h1 hne
      · exact Or.inr h1)
    simp at this ⊢
    omega
theorem mq_keys {w : World} {b n : Nat} {D : DataW Value} {p : ByteArray → Bool} (h1 : w.ownsMap Try.prog 9 hE b n D) (h2 : ∀ s, Maps.has D (kS s) = p s) : (Go.strKeys D).Nodup ∧ (∀ x : List UInt8, x ∈ Go.strKeys D ↔ p ⟨x.toArray⟩ = true) ∧ (Go.strKeys D).length = Maps.size D := by
  obtain ⟨es, rfl, hk⟩ := h1.keysOf
  obtain ⟨es', e', hp⟩ := h1.tidy lawS
  injection e' with e'
  subst e'
  have hs : ∀ q ∈ es, ∃ x, q.1 = .string x := fun q hq => by
    obtain ⟨key, hkey⟩ := hk q hq
    obtain ⟨x, _, e, _⟩ := Go.Maps.keyOf_str Try.underlying9 hkey
    exact ⟨x, e⟩
  refine ⟨?_, fun x => ?_, by show (es.map fun p => Go.strOf p.1).length = _; rw [List.length_map]; rfl⟩
  · show (es.map fun p => Go.strOf p.1).Nodup
    refine List.pairwise_map.2 (hp.imp_of_mem fun {p q} hp' hq' hne e => hne ?_)
    obtain ⟨a, ha⟩ := hs p hp'
    obtain ⟨b, hb⟩ := hs q hq'
    rw [ha, hb] at e ⊢
    exact congrArg _ e
  · have e := h2 ⟨x.toArray⟩
    rw [← e, has_eq, List.any_eq_true]
    show x ∈ es.map (fun p => Go.strOf p.1) ↔ _
    rw [List.mem_map]
    have hkx : kS ⟨x.toArray⟩ = .string x := rfl
    constructor
    · rintro ⟨q, hq, e2⟩
      obtain ⟨y, hy⟩ := hs q hq
      refine ⟨q, hq, ?_⟩
      rw [hy] at e2 ⊢
      have : y = x := e2
      subst this
      rw [hkx]
      exact WideAt.sameKey_self (kS_key ⟨y.toArray⟩)
    · rintro ⟨q, hq, e2⟩
      obtain ⟨y, hy⟩ := hs q hq
      refine ⟨q, hq, ?_⟩
      rw [hy, hkx] at e2
      rw [hy]
      have hxy : (Lit.string y) = .string x := by
        by_cases hne : (Lit.string y) = .string x
        · exact hne
        · rw [sameKey_ne hne] at e2; cases e2
      injection hxy with hxy
theorem mq_size {w : World} {b : Nat} {D : DataW Value} {f : ByteArray → Option Value} (h1 : w.ownsMap Try.prog 9 hE b (Maps.size D) D) (h2 : ∀ s, Maps.has D (kS s) = (f s).isSome) (K : List ByteArray) (hK : ∀ s, (f s).isSome = true → s ∈ K) : Maps.size D ≤ K.length := by
  obtain ⟨k1, k2, k3⟩ := mq_keys h1 h2
  rw [← k3]
  have := sub_len (l := Go.strKeys D) (m := K.map fun s => s.data.toList) k1 (fun x hx => by
    have h3 := hK _ ((k2 x).1 hx)
    exact List.mem_map.2 ⟨_, h3, by simp⟩)
  simpa using this
/-- A text is given something. -/
def putF (f : ByteArray → Option Value) (s : ByteArray) (v : Value) : ByteArray → Option Value := fun x => if x = s then some v else f x
/-- A text is given nothing. -/
def delF (f : ByteArray → Option Value) (s : ByteArray) : ByteArray → Option Value := fun x => if x = s then none else f x
theorem MQ.put {w : World} {b : Nat} {f : ByteArray → Option Value} (h : MQ w b f) {t e : TypeId} (ht : Try.prog.underlying t = some (.map 9 e)) (K : List ByteArray) (hK : ∀ s, (f s).isSome = true → s ∈ K) (hn : K.length < maxLen) {s : ByteArray} (hs : s.size ≤ maxLen) (val : Value) :
    ∃ w', (Instr.mapUpdate t (.map (some b)) (.string s) val).run Try.prog w = .ok () w' ∧ MQ w' b (putF f s val) ∧ But (fun x => x = b) w w' ∧ w'.heap.size = w.heap.size := by
  obtain ⟨D, h1, h2, h3⟩ := h
  have HM : IsMap D := h1.isMap
  have hz := mq_size h1 h2 K hK
  obtain ⟨w', hrun, ho, hgr⟩ := h1.store lawS ht (by omega) (key_mk hs) (show hE val = some (.held val, []) from rfl)
  refine ⟨w', hrun, ⟨_, owns_fit ho, fun y => ?_, fun y z => ?_⟩, But.of_grown hgr.grown, by obtain ⟨es, cl, es', cl', h9, rfl⟩ := hgr; simp [ChangeMaps.setBlock]⟩
  · unfold putF
    by_cases e : y = s
    · subst e; rw [has_put_same HM (kS_key _), if_pos rfl]; rfl
    · rw [has_put_other (fun q => e (kS_inj.1 q)), if_neg e, h2]
  · unfold putF
    by_cases e : y = s
    · subst e; rw [atKey_put_same HM (kS_key _), if_pos rfl]; rfl
    · rw [atKey_put_other (fun q => e (kS_inj.1 q)), if_neg e, h3]
theorem MQ.drop {w : World} {b : Nat} {f : ByteArray → Option Value} (h : MQ w b f) {t e : TypeId} (ht : Try.prog.underlying t = some (.map 9 e)) {s : ByteArray} (hs : s.size ≤ maxLen) (ty : TypeId) :
    ∃ w', (Builtin.delete_ #[t, 9] ty #[.map (some b), .string s]).run Try.prog w = .ok (.tuple #[]) w' ∧ MQ w' b (delF f s) ∧ But (fun x => x = b) w w' ∧ w'.heap.size = w.heap.size := by
  obtain ⟨D, h1, h2, h3⟩ := h
  obtain ⟨w', hrun, ho, hgr⟩ := h1.drop lawS ht (key_mk hs) ty
  refine ⟨w', hrun, ⟨_, owns_fit ho, fun y => ?_, fun y z => ?_⟩, But.of_grown hgr.grown, by obtain ⟨es, cl, es', cl', h9, rfl⟩ := hgr; simp [ChangeMaps.setBlock]⟩
  · unfold delF
    by_cases e : y = s
    · subst e; rw [has_del_same, if_pos rfl]; rfl
    · rw [has_del_other (fun q => e (kS_inj.1 q)), if_neg e, h2]
  · unfold delF
    by_cases e : y = s
    · subst e; rw [atKey_del_same, if_pos rfl]; rfl
    · rw [atKey_del_other (fun q => e (kS_inj.1 q)), if_neg e, h3]
theorem MQ.look {w : World} {b : Nat} {f : ByteArray → Option Value} (h : MQ w b f) {t e : TypeId} (ht : Try.prog.underlying t = some (.map 9 e)) {z : Value} (hz : (zeroValue e).run Try.prog w = .ok z w) {s : ByteArray} (hs : s.size ≤ maxLen) :
    (Instr.lookup t (.map (some b)) (.string s) false).run Try.prog w = .ok ((f s).getD z) w := by
  obtain ⟨D, h1, h2, h3⟩ := h
  obtain ⟨v, ps, hrun, hv⟩ := h1.lookup lawS ht hz (show hE z = some (.held z, []) from rfl) (key_mk hs)
  rw [h3] at hv
  have e1 : v = (f s).getD z := hE_inj hv
  rw [hrun, e1]
/-- A loop over a map is under way: which are still to come, and how many. -/
def RM (w : World) (b r : Nat) (f : ByteArray → Option Value) (left : ByteArray → Bool) (cnt : Nat) : Prop := ∃ (D : DataW Value) (lf : Lit → Bool), w.ranges Try.prog 9 hE b r (Maps.size D) D lf cnt ∧ (∀ s, Maps.has D (kS s) = (f s).isSome) ∧ (∀ s z, D.atKey (kS s) (.held z) = .held ((f s).getD z)) ∧ ∀ s, lf (kS s) = left s
theorem RM.far {w w' : World} {b r : Nat} {f : ByteArray → Option Value} {left : ByteArray → Bool} {cnt : Nat} (h : RM w b r f left cnt) (kb : w'.heap[b]? = w.heap[b]?) (kr : w'.heap[r]? = w.heap[r]?) : RM w' b r f left cnt := by
  obtain ⟨D, lf, ⟨es, clock, since, seen, c0, hb, F, hs, hD, hr, rest⟩, h2⟩ := h
  exact ⟨D, lf, ⟨es, clock, since, seen, c0, kb.trans hb, F, hs, hD, kr.trans hr, rest⟩, h2⟩
theorem RM.lt {w : World} {b r : Nat} {f : ByteArray → Option Value} {left : ByteArray → Bool} {cnt : Nat} (h : RM w b r f left cnt) : b < w.heap.size ∧ r < w.heap.size := by
  obtain ⟨D, lf, h1, _⟩ := h
  exact ⟨h1.owns.lt, h1.lt⟩
theorem RM.below {w w' : World} {b r : Nat} {f : ByteArray → Option Value} {left : ByteArray → Bool} {cnt : Nat} (h : RM w b r f left cnt) (k : Below w.heap.size w w') : RM w' b r f left cnt := h.far (k.block _ h.lt.1) (k.block _ h.lt.2)
theorem RM.left_eq {w : World} {b r : Nat} {f : ByteArray → Option Value} {left : ByteArray → Bool} {cnt : Nat} (h : RM w b r f left cnt) : w.rangeLeft b r = cnt := by
  obtain ⟨D, lf, h1, _⟩ := h
  exact h1.left_eq
theorem same_kS (s x : ByteArray) : (kS s).sameKey (kS x) = decide (s = x) := by
  by_cases e : s = x
  · subst e; rw [WideAt.sameKey_self (kS_key _)]; simp
  · rw [sameKey_ne (fun h => e (kS_inj.1 h))]; simp [e]
theorem key_inv {x : ByteArray} {kl : Lit} (h : keyOf Try.prog 9 (.string x) = some kl) : x.size ≤ maxLen ∧ kl = kS x := by
  by_cases hs : x.size ≤ maxLen
  · rw [key_mk hs] at h; exact ⟨hs, (Option.some.inj h).symm⟩
  · exfalso
    simp [keyOf, Try.underlying9, mapKey] at h
    omega
section
variable {w : World} {ops : Array Oper} {rest : List Oper} {o : Oper} {a : Act} {Q : Exit → Act → World → Prop}
theorem range_mq (hg : o.guard = none) (m : Operand) (t : TypeId) (hop : o.op = Op.range t m) (e : TypeId) (ht : Try.prog.underlying t = some (.map 9 e)) (b : Nat) (f : ByteArray → Option Value)
    (hm : a.eval m = .map (some b)) (h : MQ w b f) (r : Nat) (hr0 : w.heap.size = r)
    (hK : ∀ w' cnt, RM w' b r f (fun s => (f s).isSome) cnt → Below w.heap.size w w' → w'.heap.size = r + 1 → wpList Try.prog ops Q rest (a.put o.dst (.pointer (some ⟨r, 0, none⟩))) w') :
    wpList Try.prog ops Q (o :: rest) a w := by
  subst hr0
  obtain ⟨D, h1, h2, h3⟩ := h
  refine wpList_range_own w hg m t hop 9 e lawS ht hE b _ D hm h1 ?_
  intro w' hr hgr hs
  exact hK w' _ ⟨D, _, hr, h2, h3, h2⟩ ((Below.refl _ _).grown hgr (Nat.le_refl _) (fun k hk => by cases hk)) hs
theorem next_mq (hg : o.guard = none) (it : Operand) (hop : o.op = Op.next it false) (b r : Nat) (f : ByteArray → Option Value) (left : ByteArray → Bool) (cnt : Nat)
    (hit : a.eval it = .pointer (some ⟨r, 0, none⟩)) (h : RM w b r f left cnt)
    (hDone : (∀ s, left s = false) → wpList Try.prog ops Q rest (a.put o.dst (.tuple #[.bool false])) w)
    (hMore : ∀ (x : ByteArray) (v : Value) (w' : World) (cnt' : Nat), x.size ≤ maxLen → left x = true → f x = some v → RM w' b r f (fun s => left s && !decide (s = x)) cnt' → cnt' < cnt → But (fun y => y = r) w w' → w'.heap.size = w.heap.size →
      (Instr.entry (.pointer (some ⟨r, 0, none⟩))).run Try.prog w' = .ok (.tuple #[.string x, v]) w' → wpList Try.prog ops Q rest (a.put o.dst (.tuple #[.bool true, .string x, v])) w') :
    wpList Try.prog ops Q (o :: rest) a w := by
  obtain ⟨D, lf, h1, h2, h3, h4⟩ := h
  refine wpList_next_ranges w hg it hop 9 lawS hE Value.string (fun (v : Value) => v) (fun key kl hk => by obtain ⟨s, rfl⟩ := Maps.keyOf_string_inv Try.underlying9 hk; exact ⟨s, rfl⟩) (fun v y hv => ⟨v, rfl⟩) b r _ D lf cnt hit h1 ?_ ?_
  · intro _ hl
    exact hDone (fun s => by rw [← h4]; exact hl _)
  · intro x c kl y w' cnt' hk hlk hv hat hr hlt hgr hs hen
    obtain ⟨hx, rfl⟩ := key_inv hk
    have e1 : y.1 = .held c := congrArg Prod.fst (Option.some.inj hv).symm
    have e3 : ∀ z, (f x).getD z = c := fun z => by
      have e2 := hat (.held z)
      rw [h3, e1] at e2
      exact DataW.held.inj e2
    have e4 : f x = some c := by
      cases hf : f x with
      | some v => have := e3 c; rw [hf] at this; rw [← this]; rfl
      | none =>
        exfalso
        have a1 := e3 (.bool true)
        have a2 := e3 (.bool false)
        rw [hf] at a1 a2
        have : (Value.bool true) = .bool false := by rw [show (Value.bool true) = c from a1, show (Value.bool false) = c from a2]
        cases this
    exact hMore x c w' cnt' hx ((h4 x).symm.trans hlk) e4 ⟨D, _, hr, h2, h3, fun s => by rw [h4, same_kS]⟩ hlt (But.of_grown hgr) hs hen
end
end Go.Proofs.Ytofdfofpdfaimaa
