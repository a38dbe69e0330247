/- Laws of a row of bytes that a call owns: appended to, made a text. -/
import Derived.Test.YtbgeihgenckihaaDoorProg
import Derived.WalkKit
import Derived.WalkSpells
import Derived.WalkLawsBesides
import Derived.Deep.AppendLies
import Derived.Deep.RegionLaw
namespace Go.Proofs.YtbgeihgenckihaaDoor
open Go.RowKit

def byteV (b : UInt8) : Value := .int .u8 (b.toNat : Int)
/-- The slice v owns these bytes, in a row of the call's own. -/
def Own (w : World) (base : Nat) (v : Value) (bs : List UInt8) : Prop := w.ownsRow base 5 1 v bs.length (bs.map byteV)

theorem info_u8 : (Tryd.prog.info? 5).map (fun i => (i.zero, i.size, i.bytes)) = some (some (.int .u8 0), 1, 1) := by kernel_rfl
theorem own_nil (w : World) (base : Nat) : Own w base (.slice none 0 0) [] := World.ownsRow_nil _ _ _ _
theorem Own.alloc {w : World} {base : Nat} {v : Value} {bs : List UInt8} (h : Own w base v bs) (o : Obj) : Own (w.alloc o) base v bs := World.ownsRow.alloc h o
theorem byteV_one (l : List UInt8) : ∀ u ∈ l.map byteV, u.oneCell' = true := by
  intro u hu; obtain ⟨b, _, rfl⟩ := List.mem_map.1 hu; rfl
theorem news_at (w0 : World) (cells : Array Value) (t : TypeId) (news : List Value) (h : cells.toList = news) : ∀ j u, news[j]? = some u → (w0.alloc (.cells cells t)).cell? ((⟨w0.heap.size, 0, none⟩ : Addr).add j) = some u := by
  intro j u hj
  have hadd : (⟨w0.heap.size, 0, none⟩ : Addr).add j = ⟨w0.heap.size, j, none⟩ := by unfold Addr.add; split <;> simp_all
  rw [hadd, cell_of_row _ _ _ _ _ _ (heap_alloc_new w0 _), ← Array.getElem?_toList, h]; exact hj

theorem append_own_bytes {P : Program} {ops : Array Oper} {rest : List Oper} {o : Oper} {a : Act} {Q : Exit → Act → World → Prop} (hgd : o.guard = none) (s x : Operand) (t : TypeId)
    (ho : o.op = .call { callee := .builtin .append, args := #[s, x], argTypes := #[t, t] })
    (base : Nat) (ht : P.underlying t = some (.slice 5)) (hi : (P.info? 5).map (fun i => (i.zero, i.size, i.bytes)) = some (some (.int .u8 0), 1, 1))
    (w0 : World) (cells : Array Value) (tc : TypeId) (v : Value) (bs news : List UInt8) (c : Nat) (hs : a.eval s = v) (hown : Own w0 base v bs)
    (hx : a.eval x = .slice (some ⟨w0.heap.size, 0, none⟩) news.length c) (hc : cells.toList = news.map byteV)
    (hlen : bs.length + news.length ≤ 140737488355328) (hbase : base ≤ w0.heap.size)
    (h : ∀ v' w', Own w' base v' (bs ++ news) → Below base w0 w' → w0.heap.size ≤ w'.heap.size → (news ≠ [] → ∃ g cap, v' = .slice (some ⟨g, 0, none⟩) (bs ++ news).length cap) → wpList P ops Q rest (a.put o.dst v') w') : wpList P ops Q (o :: rest) a (w0.alloc (.cells cells tc)) := by
  obtain ⟨i0, hi0, hz0, hz1, hz2⟩ := info_parts hi
  have hown2 : (w0.alloc (.cells cells tc)).ownsRow base 5 1 v bs.length (bs.map byteV) := World.ownsRow.alloc hown _
  refine wpList_append_own _ hgd s x t ho base 5 i0 (.int .u8 0) 1 1 ht hi0 hz0 hz1 hz2 rfl (by decide) v bs.length (bs.map byteV) hs hown2 ⟨w0.heap.size, 0, none⟩ news.length c (news.map byteV) hx (by simp) (news_at w0 cells tc _ hc) (byteV_one _)
    (by unfold maxLen; omega) (by omega) (by simp; omega) ?_
  intro v' w' ho' hg _
  have hgb : Below base w0 w' := ((Below.refl base w0).alloc hbase _).grown hg (by simp; omega) (fun q hq => (hown2.lt q hq).1)
  have ho2 : w'.ownsRow base 5 1 v' (bs ++ news).length ((bs ++ news).map byteV) := by rw [List.length_append, List.map_append]; exact ho'
  refine h v' w' ho2 hgb hgb.size ?_
  intro hn
  rcases ho2.2 with ⟨_, h0⟩ | ⟨g, cap, _, hv, _⟩
  · exfalso; apply hn; simp at h0; exact h0.2
  · exact ⟨g, cap, hv⟩

theorem run_own_string {P : Program} {w : World} {base : Nat} {v : Value} {bs : List UInt8} (h : Own w base v bs) (src dst : TypeId) (hs : P.underlying src = some (.slice 5)) (he : P.underlying 5 = some (.int .u8)) (hd : P.underlying dst = some .string) :
    (convert src dst v).run P w = .ok (.string ⟨bs.toArray⟩) w := by
  rcases h.2 with ⟨rfl, h0⟩ | ⟨g, cap, cur, rfl, _⟩
  · have : bs = [] := List.length_eq_zero_iff.1 h0
    subst this
    rw [run_convert_bytes_string w src dst 5 none 0 0 hs he hd]; rfl
  · refine run_convert_bytes_back w src dst 5 ⟨g, 0, none⟩ cap bs hs he hd ?_
    intro j hj
    have hadd : (⟨g, 0, none⟩ : Addr).add j = ⟨g, j, none⟩ := by unfold Addr.add; split <;> simp_all
    rw [hadd, World.ownsRow.cellAt h j (by omega), List.getElem?_map, List.getElem?_eq_getElem hj]; rfl
theorem wpList_own_string {P : Program} {ops : Array Oper} {rest : List Oper} {o : Oper} {a : Act} {w : World} {Q : Exit → Act → World → Prop} (hgd : o.guard = none) (x : Operand) (src dst : TypeId) (ho : o.op = .convert src dst x)
    (base : Nat) (v : Value) (bs : List UInt8) (hx : a.eval x = v) (h : Own w base v bs) (hs : P.underlying src = some (.slice 5)) (he : P.underlying 5 = some (.int .u8)) (hd : P.underlying dst = some .string)
    (hK : wpList P ops Q rest (a.put o.dst (.string ⟨bs.toArray⟩)) w) : wpList P ops Q (o :: rest) a w := by
  refine wpList_plain hgd fun K hK' => ?_
  unfold Oper.wp
  simp [execOp, ho, hx, run_own_string h src dst hs he hd, Result.andThen]
  exact hK' _ _ hK

theorem Own.below {w w' : World} {base : Nat} {v : Value} {bs : List UInt8} (h : Own w base v bs) (hb : Below w.heap.size w w') : Own w' base v bs := by
  obtain ⟨h1, h2⟩ := h
  refine ⟨h1, ?_⟩
  rcases h2 with h2 | ⟨g, cap, cur, e1, e2, e3, e4⟩
  · exact Or.inl h2
  · refine Or.inr ⟨g, cap, cur, e1, e2, ?_, e4⟩
    have hg : g < w.heap.size := by
      by_cases hlt : g < w.heap.size
      · exact hlt
      · rw [Array.getElem?_eq_none (by omega)] at e3; cases e3
    rw [hb.block g hg]; exact e3

theorem Own.drew {w : World} {base : Nat} {v : Value} {bs : List UInt8} (h : Own w base v bs) : Own w.drew base v bs := World.ownsRow.drew h

theorem step_own_bytes {P : Program} {ops : Array Oper} {o : Oper} {a : Act} {K : Act → World → Prop} {Q : Exit → Act → World → Prop} {E : Prop} (hgd : o.guard = none) (s x : Operand) (t : TypeId)
    (ho : o.op = .call { callee := .builtin .append, args := #[s, x], argTypes := #[t, t] })
    (base : Nat) (ht : P.underlying t = some (.slice 5)) (hi : (P.info? 5).map (fun i => (i.zero, i.size, i.bytes)) = some (some (.int .u8 0), 1, 1))
    (w0 w : World) (cells : Array Value) (tc : TypeId) (hw : w = w0.drew.alloc (.cells cells tc)) (v : Value) (bs news : List UInt8) (c : Nat) (hs : a.eval s = v) (hown : Own w0 base v bs)
    (hx : a.eval x = .slice (some ⟨w0.heap.size, 0, none⟩) news.length c) (hc : cells.toList = news.map byteV) (hn : 0 < news.length)
    (hlen : bs.length + news.length ≤ 140737488355328) (hbase : base ≤ w0.heap.size)
    (h : ∀ g cap w', Own w' base (.slice (some ⟨g, 0, none⟩) (bs ++ news).length cap) (bs ++ news) → Below base w0 w' → w0.heap.size ≤ w'.heap.size → K (a.put o.dst (.slice (some ⟨g, 0, none⟩) (bs ++ news).length cap)) w') :
    if Region.wanted o (yielded ops a.tmps) = true then Oper.wp P o a w K Q else E := by
  subst hw
  obtain ⟨i0, hi0, hz0, hz1, hz2⟩ := info_parts hi
  have hown2 : (w0.drew.alloc (.cells cells tc)).ownsRow base 5 1 v bs.length (bs.map byteV) := World.ownsRow.alloc (World.ownsRow.drew hown) _
  refine step_append_lies _ hgd s x t ho base 5 i0 (.int .u8 0) 1 1 ht hi0 hz0 hz1 hz2 rfl (by decide) v bs.length (bs.map byteV) hs hown2 ⟨w0.heap.size, 0, none⟩ news.length c (news.map byteV) hx (by simp) (news_at w0.drew cells tc _ hc) (byteV_one _)
    hn (by unfold maxLen; omega) (by omega) (by show base ≤ (w0.heap.push _).size; simp; omega) _ rfl ?_
  intro g cap w' ho' hg _ _
  have hgb : Below base w0 w' := ((Below.refl base w0).drew.alloc hbase _).grown hg (by show base ≤ (w0.heap.push _).size; simp; omega) (fun q hq => (hown2.lt q hq).1)
  have ho2 : Own w' base (.slice (some ⟨g, 0, none⟩) (bs ++ news).length cap) (bs ++ news) := by unfold Own; rw [List.length_append, List.map_append]; exact ho'
  have := h g cap w' ho2 hgb hgb.size
  rw [List.length_append] at this
  exact this
end Go.Proofs.YtbgeihgenckihaaDoor
