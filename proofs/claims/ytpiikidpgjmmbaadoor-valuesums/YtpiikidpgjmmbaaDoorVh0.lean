/- Values: their texts, plain; appending a text, the rest kept. -/
import Derived.Test.YtpiikidpgjmmbaaDoorVe5
import Derived.Test.YtpiikidpgjmmbaaDoorQuote
import Derived.Test.YtpiikidpgjmmbaaDoorStrApp
import Derived.Test.YtpiikidpgjmmbaaDoorShelf
import Derived.Lib.ItoaLen
namespace Go.Proofs.YtpiikidpgjmmbaaDoor
open Go.RowKit

/-- The powers of ten lie in their variable, and stay there. -/
def PowBelow (B : Nat) (w : World) : Prop := Lib.TabBelow Tryd.prog B w "internal/strconv.uint64pow10" .u64 Lib.pow10Tab
theorem append_str_keep {P : Program} {ops : Array Oper} {rest : List Oper} {o : Oper} {a : Act} {w : World} {Q : Exit → Act → World → Prop} (hgd : o.guard = none) (sl x : Operand) (t u : TypeId)
    (ho : o.op = .call { callee := .builtin .append, args := #[sl, x], argTypes := #[t, u] })
    (base : Nat) (ht : P.underlying t = some (.slice 5)) (hu : P.underlying u = some .string) (hi : (P.info? 5).map (fun i => (i.zero, i.size, i.bytes)) = some (some (.int .u8 0), 1, 1))
    (v : Value) (bs : List UInt8) (hs : a.eval sl = v) (hown : Own w base v bs) (s : ByteArray) (hx : a.eval x = .string s)
    (hlim : bs.length + s.size ≤ 140737488355328) (hbase : base ≤ w.heap.size)
    (h : ∀ v' w', Own w' base v' (bs ++ s.data.toList) → Below base w w' → (∀ b, b < w.heap.size → some b ≠ v.ownBlock → w'.heap[b]? = w.heap[b]?) → wpList P ops Q rest (a.put o.dst v') w') : wpList P ops Q (o :: rest) a w := by
  obtain ⟨i0, hi0, hz0, hz1, hz2⟩ := info_parts hi
  have hsz : s.data.toList.length = s.size := by simp
  refine Lib.wpList_append_own_string w hgd sl x t u ho base 5 i0 ht hu hi0 hz0 hz1 hz2 v bs.length (bs.map byteV) hs hown s hx (by unfold maxLen; omega) hlim hbase ?_
  intro v' w' ho' hg _
  have hb : Below base w w' := (Below.refl base w).grown hg hbase (fun q hq => (hown.lt q hq).1)
  refine h v' w' ?_ hb (fun b hb hn => hg.block b hb hn)
  unfold Own
  rw [List.map_append, List.length_append, hsz]
  exact ho'
theorem Own.ne_box {w : World} {base : Nat} {v : Value} {bs : List UInt8} (h : Own w base v bs) {b : Nat} {cells : Array Value} {t : TypeId} (hb : w.heap[b]? = some (.cells cells t)) (ht : t ≠ 5) : some b ≠ v.ownBlock := by
  intro e
  rcases h.2 with ⟨rfl, _⟩ | ⟨g, cap, cur, rfl, _, hc, _⟩
  · simp [Value.ownBlock] at e
  · simp [Value.ownBlock] at e
    subst e
    rw [hb] at hc
    injection hc with hc
    injection hc with _ hc
    exact ht hc
theorem box4_cell {w : World} {b : Nat} {u v x y : Value} {t : TypeId} (h : w.heap[b]? = some (.cells #[u, v, x, y] t)) : w.cell? ⟨b, 0, none⟩ = some u ∧ w.cell? ⟨b, 1, none⟩ = some v ∧ w.cell? ⟨b, 2, none⟩ = some x ∧ w.cell? ⟨b, 3, none⟩ = some y :=
  ⟨(cell_of_row _ _ _ _ _ _ h).trans rfl, (cell_of_row _ _ _ _ _ _ h).trans rfl, (cell_of_row _ _ _ _ _ _ h).trans rfl, (cell_of_row _ _ _ _ _ _ h).trans rfl⟩
/-- The text of one atom; what stands ahead of it; the text of the places from one on. -/
def atT (a : Atm) : List UInt8 := if a.kind = 1 then Lib.itoa a.int else if a.kind = 2 then quo a.text.data.toList else [93]
def spT (k : Nat) (a : Atm) : List UInt8 := if k = 0 then [] else if a.n = 0 then [44, 32] else []
def plT (k : Nat) (o : Int) (a : Atm) : List UInt8 := spT k a ++ List.replicate o.toNat 91 ++ atT a
def txP : Nat → List Int → List Atm → List UInt8
  | k, o :: os, a :: l => plT k o a ++ txP (k + 1) os l
  | _, _, _ => []
theorem txP_nil (k : Nat) (os : List Int) : txP k os [] = [] := by cases os <;> rfl
theorem txP_at {os : List Int} {l : List Atm} {k : Nat} (h1 : k < os.length) (h2 : k < l.length) : txP k (os.drop k) (l.drop k) = plT k (os.getD k 0) l[k] ++ txP (k + 1) (os.drop (k + 1)) (l.drop (k + 1)) := by
  rw [List.drop_eq_getElem_cons h1, List.drop_eq_getElem_cons h2, txP, List.getD_eq_getElem?_getD, List.getElem?_eq_getElem h1]; rfl
mutual
theorem flV_atB : ∀ (t : Vt), wfV t → ∀ a ∈ flV t, atB a = true
  | .nd k i tx ps, h, a, ha => by
    rw [flV, List.mem_append] at ha
    rw [wfV] at h
    rcases ha with ha | ha
    · exact flVL_atB ps h.2 a ha
    · rw [List.mem_singleton] at ha; rw [ha]; exact h.1
theorem flVL_atB : ∀ (l : List Vt), wfVL l → ∀ a ∈ flVL l, atB a = true
  | [], _, a, ha => by rw [flVL] at ha; cases ha
  | t :: r, h, a, ha => by
    rw [flVL, List.mem_append] at ha
    rw [wfVL] at h
    rcases ha with ha | ha
    · exact flV_atB t h.1 a ha
    · exact flVL_atB r h.2 a ha
end
theorem opV_at {t : Vt} (h : RT t) (k : Nat) : 0 ≤ (opV t).getD k 0 ∧ (opV t).getD k 0 ≤ 32 := by
  by_cases hk : k < (opV t).length
  · have := opV_bd t ((opV t)[k]) (List.getElem_mem hk)
    rw [List.getD_eq_getElem?_getD, List.getElem?_eq_getElem hk]
    show 0 ≤ (opV t)[k] ∧ (opV t)[k] ≤ 32
    have := h.dp
    omega
  · rw [List.getD_eq_getElem?_getD, List.getElem?_eq_none (by omega)]; exact ⟨Int.le_refl _, by decide⟩
theorem fldL (u v : Value) (w : World) : (Instr.field 82 (.agg #[u, v]) 1).run Tryd.prog w = .ok v w := by kernel_rfl
theorem atB_is {k n i : Int} {tx : ByteArray} (h : atB ⟨k, n, i, tx⟩ = true) : (k = 1 ∧ -9007199254740992 ≤ i ∧ i ≤ 9007199254740992) ∨ (k = 2 ∧ tx.size ≤ 4096) ∨ k = 3 := by
  rw [atB_def] at h
  split at h
  · simp at h; left; refine ⟨by assumption, by omega, by omega⟩
  · split at h
    · simp at h; right; left; exact ⟨by assumption, h.2⟩
    · split at h
      · right; right; assumption
      · cases h
end Go.Proofs.YtpiikidpgjmmbaaDoor
