/- A text's bytes behind a row of bytes that a call owns; the row may pass 2^47 bytes by some. -/
import Derived.Test.YtahcllncjpaijabDoorQuote
import Derived.Lib.AppendStr
import Derived.Deep.DeepAppendWide
namespace Go.Proofs.YtahcllncjpaijabDoor
open Go.RowKit

theorem strCells_bytes (s : ByteArray) : Lib.strCells s = s.data.toList.map byteV := rfl
theorem run_append_str {P : Program} (w : World) (base : Nat) (t u ty e : TypeId) (i : TypeInfo) (ht : P.underlying t = some (.slice e)) (hu : P.underlying u = some .string) (hi : P.info? e = some i) (hz : i.zero = some (.int .u8 0)) (hsize : i.size = 1) (hby : i.bytes = 1)
    (g n cap : Nat) (xs : List Value) (hown : w.ownsRow base e 1 (.slice (some ⟨g, 0, none⟩) n cap) n xs) (s : ByteArray) (hlim : n + s.size ≤ 150000000000000) (hbase : base ≤ w.heap.size) :
    ∃ g' cap' w', (Builtin.append_ #[t, u] ty #[.slice (some ⟨g, 0, none⟩) n cap, .string s]).run P w = .ok (.slice (some ⟨g', 0, none⟩) (n + s.size) cap') w' ∧ w'.ownsRow base e 1 (.slice (some ⟨g', 0, none⟩) (n + s.size) cap') (n + s.size) (xs ++ Lib.strCells s) ∧ w.grownBy w' (Value.ownBlock (.slice (some ⟨g, 0, none⟩) n cap)) := by
  have hxl : xs.length = n := by simpa using hown.1
  have hsl : (Lib.strCells s).length = s.size := Lib.strCells_length s
  have hlen : (xs ++ Lib.strCells s).length = (n + s.size) * 1 := by rw [List.length_append, hxl, hsl, Nat.mul_one]
  have hsmall : n + s.size ≤ maxLen := by unfold maxLen; omega
  rcases hown.2 with ⟨h1, _⟩ | ⟨g1, cap1, cur, h1, hbg, hg, hnc, hcm, hcs, htake⟩
  · cases h1
  · cases h1
    by_cases hroom : n + s.size ≤ cap
    · have hcs' : cur.size = cap := by simpa using hcs
      have hr := Lib.run_append_room_string (P := P) w t u ty e i ht hu hi hsize g n cap cur hg s hroom (by omega)
      refine ⟨_, _, _, hr, ⟨hlen, .inr ⟨g, cap, _, rfl, hbg, setRow_heap w g cur _ e _ hg, hroom, hcm, ?_, ?_⟩⟩, ⟨rfl, rfl, rfl, by simp, fun k _ hk => setRow_other w g k _ (fun e => hk (by simp [Value.ownBlock, e]))⟩⟩
      · simp only [List.size_toArray, List.length_append, List.length_take, List.length_drop, Array.length_toList, hsl]
        omega
      · have ht' : cur.toList.take n = xs := by simpa using htake
        rw [ht', ← hlen]
        exact List.take_left
    · have holds : ∀ j u, xs[j]? = some u → w.cell? ((⟨g, 0, none⟩ : Addr).add j) = some u := hown.cells (g := g) rfl
      have hr := Lib.run_append_grow_string (P := P) w t u ty e i (.int .u8 0) ht hu hi hz ⟨g, 0, none⟩ n cap xs (by rw [hsize]; simpa using hxl) holds s (by omega) (by omega) (by rw [hby]; exact growslice_fits_wide (by omega) (by omega))
      have hge := grownCap_ge w (n + s.size) cap e
      have hcm2 : grownCap w (n + s.size) cap e ≤ maxLen := grownCap_le_maxLen w (n + s.size) cap e hsmall
      refine ⟨_, _, _, hr, ⟨hlen, .inr ⟨w.heap.size, _, _, rfl, hbase, heap_alloc_new w.drew _, hge, hcm2, ?_, ?_⟩⟩, ⟨rfl, rfl, rfl, by simp, fun k hk _ => heap_alloc_old w.drew _ hk⟩⟩
      · have hz1 : (Value.int IntKind.u8 0).cells.size = 1 := rfl
        simp only [Array.size_append, List.size_toArray, size_zeroCells, hz1, hxl, hsl]
        omega
      · simp only [Array.toList_append, List.append_assoc]
        rw [← List.append_assoc, ← hlen]
        exact List.take_left
theorem append_str {P : Program} {ops : Array Oper} {rest : List Oper} {o : Oper} {a : Act} {w : World} {Q : Exit → Act → World → Prop} (hgd : o.guard = none) (sl x : Operand) (t u : TypeId)
    (ho : o.op = .call { callee := .builtin .append, args := #[sl, x], argTypes := #[t, u] })
    (base : Nat) (ht : P.underlying t = some (.slice 5)) (hu : P.underlying u = some .string) (hi : (P.info? 5).map (fun i => (i.zero, i.size, i.bytes)) = some (some (.int .u8 0), 1, 1))
    (g cap : Nat) (bs news res : List UInt8) (hres : bs ++ news = res) (hs : a.eval sl = .slice (some ⟨g, 0, none⟩) bs.length cap) (hown : Own w base (.slice (some ⟨g, 0, none⟩) bs.length cap) bs) (s : ByteArray) (hx : a.eval x = .string s) (hn : s.data.toList = news)
    (hlim : bs.length + news.length ≤ 150000000000000) (hbase : base ≤ w.heap.size)
    (h : ∀ g' cap' w', Own w' base (.slice (some ⟨g', 0, none⟩) res.length cap') res → Below base w w' → w.heap.size ≤ w'.heap.size → wpList P ops Q rest (a.put o.dst (.slice (some ⟨g', 0, none⟩) res.length cap')) w') : wpList P ops Q (o :: rest) a w := by
  subst hn hres
  obtain ⟨i0, hi0, hz0, hz1, hz2⟩ := info_parts hi
  have hsz : s.data.toList.length = s.size := by simp
  refine wpList_plain hgd fun K hK => ?_
  obtain ⟨g', cap', w', hr, h2, h3⟩ := run_append_str (P := P) w base t u o.type 5 i0 ht hu hi0 hz0 hz1 hz2 g bs.length cap (bs.map byteV) hown s (by omega) hbase
  unfold Oper.wp execOp
  simp only [ho, resolve, invoke, builtin, Sem.run_bind, Sem.run_pure, Result.andThen_ok, List.map_toArray, List.map_cons, List.map_nil, hs, hx, hr]
  refine hK _ _ ?_
  have hb : Below base w w' := (Below.refl base w).grown h3 hbase (fun q hq => (hown.lt q hq).1)
  have e : (bs ++ s.data.toList).length = bs.length + s.size := by rw [List.length_append, hsz]
  rw [← e]
  refine h g' cap' w' ?_ hb hb.size
  unfold Own
  rw [List.map_append, e]
  exact h2
/-- Some bytes behind a row that a call owns; what else lies there stays. -/
theorem append_bytes_keep {P : Program} {ops : Array Oper} {rest : List Oper} {o : Oper} {a : Act} {Q : Exit → Act → World → Prop} (hgd : o.guard = none) (s x : Operand) (t : TypeId)
    (ho : o.op = .call { callee := .builtin .append, args := #[s, x], argTypes := #[t, t] })
    (base : Nat) (ht : P.underlying t = some (.slice 5)) (hi : (P.info? 5).map (fun i => (i.zero, i.size, i.bytes)) = some (some (.int .u8 0), 1, 1))
    (w0 : World) (cells : Array Value) (tc : TypeId) (v : Value) (bs news : List UInt8) (c : Nat) (hs : a.eval s = v) (hown : Own w0 base v bs)
    (b1 : Nat) (hb1 : w0.heap.size = b1) (hx : a.eval x = .slice (some ⟨b1, 0, none⟩) news.length c) (hc : cells.toList = news.map byteV)
    (hlen : bs.length + news.length ≤ 140737488355328) (hbase : base ≤ w0.heap.size)
    (h : ∀ v' w', Own w' base v' (bs ++ news) → Below base w0 w' → w0.heap.size ≤ w'.heap.size → (∀ b, b < w0.heap.size → some b ≠ v.ownBlock → w'.heap[b]? = w0.heap[b]?) → wpList P ops Q rest (a.put o.dst v') w') : wpList P ops Q (o :: rest) a (w0.alloc (.cells cells tc)) := by
  subst hb1
  obtain ⟨i0, hi0, hz0, hz1, hz2⟩ := info_parts hi
  have hown2 : (w0.alloc (.cells cells tc)).ownsRow base 5 1 v bs.length (bs.map byteV) := World.ownsRow.alloc hown _
  refine wpList_append_own _ hgd s x t ho base 5 i0 (.int .u8 0) 1 1 ht hi0 hz0 hz1 hz2 rfl (by decide) v bs.length (bs.map byteV) hs hown2 ⟨w0.heap.size, 0, none⟩ news.length c (news.map byteV) hx (by simp) (news_at w0 cells tc _ hc) (byteV_one _)
    (by unfold maxLen; omega) (by omega) (by simp; omega) ?_
  intro v' w' ho' hg _
  have hgb : Below base w0 w' := ((Below.refl base w0).alloc hbase _).grown hg (by simp; omega) (fun q hq => (hown2.lt q hq).1)
  have ho2 : w'.ownsRow base 5 1 v' (bs ++ news).length ((bs ++ news).map byteV) := by rw [List.length_append, List.map_append]; exact ho'
  refine h v' w' ho2 hgb hgb.size ?_
  intro b hb hn
  rw [hg.block b (by simp; omega) hn]
  exact heap_alloc_old w0 _ hb
/-- The row's own block was there. -/
theorem Own.block_lt {w : World} {base : Nat} {v : Value} {bs : List UInt8} (h : Own w base v bs) {b : Nat} (hb : w.heap.size ≤ b) : some b ≠ v.ownBlock := by
  intro e
  rcases h.2 with ⟨rfl, _⟩ | ⟨g, cap, cur, rfl, _, hc, _⟩
  · simp [Value.ownBlock] at e
  · simp [Value.ownBlock] at e
    subst e
    rw [Array.getElem?_eq_none (by omega)] at hc; cases hc
end Go.Proofs.YtahcllncjpaijabDoor
