/- The reference's without. -/
import Derived.Test.YteiadigafkollaaRf2
namespace Go.Proofs.Yteiadigafkollaa
open Go.RowKit Go.Sort Go.Shelf

theorem append_tml {P : Program} {ops : Array Oper} {rest : List Oper} {o : Oper} {a : Act} {Q : Exit → Act → World → Prop} (hgd : o.guard = none) (s x : Operand) (t : TypeId)
    (ho : o.op = .call { callee := .builtin .append, args := #[s, x], argTypes := #[t, t] })
    (base : Nat) (ht : P.underlying t = some (.slice 47)) (hi : (P.info? 47).map (fun i => (i.zero, i.size, i.bytes)) = some (some (.agg #[.int .i64 0, .int .i64 0, .int .i64 0]), 3, 24))
    (w0 : World) (cells : Array Value) (tc : TypeId) (v : Value) (l : List Tm) (f : Tm) (c : Nat) (hs : a.eval s = v) (hown : OwnT w0 base v l) (b : Nat) (hb : w0.heap.size = b)
    (hx : a.eval x = .slice (some ⟨b, 0, none⟩) 1 c) (hc : cells.toList = tmC f)
    (hlen : l.length ≤ 100000) (hbase : base ≤ w0.heap.size)
    (h : ∀ g cap w', OwnT w' base (.slice (some ⟨g, 0, none⟩) (l.length + 1) cap) (l ++ [f]) → Below base w0 w' → (∀ k, k < w0.heap.size → some k ≠ v.ownBlock → w'.heap[k]? = w0.heap[k]?) → (v.ownBlock = some g ∨ w0.heap.size ≤ g) → wpList P ops Q rest (a.put o.dst (.slice (some ⟨g, 0, none⟩) (l.length + 1) cap)) w') : wpList P ops Q (o :: rest) a (w0.alloc (.cells cells tc)) := by
  subst hb
  obtain ⟨i0, hi0, hz0, hz1, hz2⟩ := info_parts hi
  have hown2 : (w0.alloc (.cells cells tc)).ownsRow base 47 3 v l.length (l.flatMap tmC) := World.ownsRow.alloc hown _
  have one : ∀ u ∈ tmC f, u.oneCell' = true := fun u hu => by simp [tmC] at hu; rcases hu with rfl | rfl | rfl <;> rfl
  refine wpList_append_lies _ hgd s x t ho base 47 i0 (.agg #[.int .i64 0, .int .i64 0, .int .i64 0]) 3 24 ht hi0 hz0 hz1 hz2 rfl (by decide) v l.length (l.flatMap tmC) hs hown2 ⟨w0.heap.size, 0, none⟩ 1 c (tmC f) hx rfl (news_at w0 cells tc _ hc) one
    (by decide) (by unfold maxLen; omega) (by omega) (by simp; omega) _ rfl ?_
  intro g cap w' ho' hg hgg _
  have hgb : Below base w0 w' := ((Below.refl base w0).alloc hbase _).grown hg (by simp; omega) (fun q hq => (hown2.lt q hq).1)
  refine h g cap w' ?_ hgb ?_ ?_
  · unfold OwnT
    rw [List.length_append, List.flatMap_append]
    simpa using ho'
  · intro k hk hne
    rw [hg.block k (by simp; omega) hne]
    exact Below.heap_alloc w0 _ k hk
  · rcases hgg with hgg | hgg
    · exact Or.inl hgg
    · right; rw [hgg]; simp
theorem set3 {w : World} {B : Nat} {a b c a' b' c' : Value} (h0 : w.cell? ⟨B, 0, none⟩ = some a) (h1 : w.cell? ⟨B, 1, none⟩ = some b) (h2 : w.cell? ⟨B, 2, none⟩ = some c) :
    (((w.setCell ⟨B, 0, none⟩ a').setCell ⟨B, 1, none⟩ b').setCell ⟨B, 2, none⟩ c').cell? ⟨B, 0, none⟩ = some a' ∧ (((w.setCell ⟨B, 0, none⟩ a').setCell ⟨B, 1, none⟩ b').setCell ⟨B, 2, none⟩ c').cell? ⟨B, 1, none⟩ = some b' ∧ (((w.setCell ⟨B, 0, none⟩ a').setCell ⟨B, 1, none⟩ b').setCell ⟨B, 2, none⟩ c').cell? ⟨B, 2, none⟩ = some c' := by
  refine ⟨?_, ?_, ?_⟩
  · rw [other_set (by decide), other_set (by decide)]; exact head_set h0
  · rw [other_set (by decide)]; exact head_set (u := b) (by rw [other_set (by decide)]; exact h1)
  · exact head_set (u := c) (by rw [other_set (by decide), other_set (by decide)]; exact h2)
theorem OwnT.far {w w' : World} {base : Nat} {v : Value} {l : List Tm} (h : OwnT w base v l) (k : ∀ g, v.ownBlock = some g → w'.heap[g]? = w.heap[g]?) : OwnT w' base v l := by
  obtain ⟨h1, h2⟩ := h
  refine ⟨h1, ?_⟩
  rcases h2 with h2 | ⟨g, cap, cur, e1, e2, e3, e4⟩
  · exact Or.inl h2
  · exact Or.inr ⟨g, cap, cur, e1, e2, by rw [k g (by rw [e1]; rfl)]; exact e3, e4⟩
theorem frozen_of_row {w : World} {b o : Nat} {cs : Array Value} {t : TypeId} (h : w.heap[b]? = some (.cells cs t)) : w.frozen? ⟨b, o, none⟩ = false := by
  unfold World.frozen?; rw [h]; simp
theorem start3 (w : World) (z e b : Obj) : (((w.alloc z).alloc e).alloc b).heap[w.heap.size]? = some z ∧ (((w.alloc z).alloc e).alloc b).heap[w.heap.size + 2]? = some b := by
  constructor
  · rw [Below.heap_alloc _ _ _ (by simp; omega), Below.heap_alloc _ _ _ (by simp)]
    exact heap_alloc_new w z
  · have := heap_alloc_new ((w.alloc z).alloc e) b
    simpa using this
/-- What without has found up to i. -/
def WasI (n : Int) (L : List Tm) (i : Nat) (was : Tm) (ok : Bool) : Prop := (ok = true ∧ was ∈ L ∧ was.num = n) ∨ (ok = false ∧ ∀ x ∈ L.take i, x.num ≠ n)
theorem WasI.hit {n : Int} {L : List Tm} {i : Nat} (hi : i < L.length) (h : L[i].num = n) : WasI n L (i + 1) L[i] true := Or.inl ⟨rfl, List.getElem_mem hi, h⟩
theorem WasI.miss {n : Int} {L : List Tm} {i : Nat} {was : Tm} {ok : Bool} (w : WasI n L i was ok) (hi : i < L.length) (h : L[i].num ≠ n) : WasI n L (i + 1) was ok := by
  rcases w with w | ⟨rfl, w⟩
  · exact Or.inl w
  · refine Or.inr ⟨rfl, fun x hx => ?_⟩
    rw [List.take_succ_eq_append_getElem hi, List.mem_append] at hx
    rcases hx with hx | hx
    · exact w x hx
    · rw [List.mem_singleton] at hx; subst hx; exact h
theorem del_snoc {n : Int} {L : List Tm} {i : Nat} (hi : i < L.length) : del n (L.take (i + 1)) = if L[i].num = n then del n (L.take i) else del n (L.take i) ++ [L[i]] := by
  rw [List.take_succ_eq_append_getElem hi]
  unfold del
  rw [List.filter_append]
  by_cases h : L[i].num = n <;> simp [h]
set_option maxHeartbeats 8000000 in
set_option maxRecDepth 100000 in
theorem without_any (w : World) (v : Value) (L : List Tm) (n : Int) (h : RS w v L) (hl : L.length ≤ 2000) :
    Calls Try.prog 44 #[v, .int .i64 n] w fun e w' => ∃ p cap t ok, e = .returned (.tuple #[.slice p (del n L).length cap, .agg #[.int .i64 t.num, .int .i64 t.tm, .int .i64 t.ev], .bool ok]) ∧ OwnT w' w.heap.size (.slice p (del n L).length cap) (del n L) ∧ Below w.heap.size w w' ∧ WasI n L L.length t ok := by
  obtain ⟨p0, c0, rfl⟩ := h.form
  have HR : Hid (RS w (.slice p0 L.length c0) L) := h
  clear h
  go_enter Try.func44, Try.ntmps44
  go_wp2
  go_loopw [7, 9, 10] (fun v7 v9 v10 wr => ∃ (i : Nat) (ok : Bool) (vo : Value) (was : Tm) (wk : World), v10 = .int .i64 i ∧ v9 = .bool ok ∧ vo = v7 ∧ wk = wr ∧ i ≤ L.length ∧ Hid (OwnT wk (w.heap.size + 1) vo (del n (L.take i)) ∧ WasI n L i was ok ∧ vo.ownBlock ≠ some (w.heap.size + 2) ∧ Below w.heap.size w wk ∧ w.heap.size + 3 ≤ wk.heap.size) ∧ wk.cell? ⟨w.heap.size + 2, 0, none⟩ = some (.int .i64 was.num) ∧ wk.cell? ⟨w.heap.size + 2, 1, none⟩ = some (.int .i64 was.tm) ∧ wk.cell? ⟨w.heap.size + 2, 2, none⟩ = some (.int .i64 was.ev) ∧ (∀ o, wk.frozen? ⟨w.heap.size + 2, o, none⟩ = false) ∧ (∃ a b c, wk.cell? ⟨w.heap.size, 0, none⟩ = some a ∧ wk.cell? ⟨w.heap.size, 1, none⟩ = some b ∧ wk.cell? ⟨w.heap.size, 2, none⟩ = some c) ∧ (∀ o, wk.frozen? ⟨w.heap.size, o, none⟩ = false)) (fun _ _ v10 _ => L.length - (intOf v10).toNat)
  case atStart =>
    obtain ⟨g1, g2⟩ := start3 w (.cells #[.int .i64 0, .int .i64 0, .int .i64 0] 47) (.cells #[] 47) (.cells #[.int .i64 0, .int .i64 0, .int .i64 0] 47)
    refine ⟨0, false, _, ⟨0, 0, 0⟩, _, rfl, rfl, rfl, rfl, Nat.zero_le _, ⟨?_, Or.inr ⟨rfl, fun x hx => by simp at hx⟩, by simp [Value.ownBlock], ?_, by simp⟩, cell_of_row _ _ _ _ _ _ g2, cell_of_row _ _ _ _ _ _ g2, cell_of_row _ _ _ _ _ _ g2, fun o => frozen_of_row g2, ⟨_, _, _, cell_of_row _ _ _ _ _ _ g1, cell_of_row _ _ _ _ _ _ g1, cell_of_row _ _ _ _ _ _ g1⟩, fun o => frozen_of_row g1⟩
    · have := ownT_empty (w.alloc (.cells #[.int .i64 0, .int .i64 0, .int .i64 0] 47))
      have h2 := this.below ((Below.refl _ _).alloc (Nat.le_refl _) (.cells #[.int .i64 0, .int .i64 0, .int .i64 0] 47))
      simpa [del] using h2
    · exact (((Below.refl _ _).alloc (Nat.le_refl _) _).alloc (by simp) _).alloc (by simp; omega) _
  case round =>
    obtain ⟨i, ok, vo, was, wr, rfl, rfl, rfl, rfl, hi, HQ, b0, b1, b2, bf, ⟨ra, rb, rc, a0, a1, a2⟩, af⟩ := hrel
    by_cases hlt : i < L.length
    · obtain ⟨X, o, e1, x1, x2, x3⟩ := (HR.out.below HQ.out.2.2.2.1).at hlt
      obtain rfl : p0 = some ⟨X, o, none⟩ := e1
      obtain ⟨s, hs⟩ : ∃ s, s = L[i] := ⟨_, rfl⟩
      rw [← hs] at x1 x2 x3
      have DS : Hid _ := del_snoc (n := n) hlt
      rw [← hs] at DS
      have HS : Hid (s = L[i]) := hs
      clear hs
      have hB : Hid (∀ u0 u1 u2 : Value, ∀ k, k ≠ w.heap.size + 2 → (((wr.setCell ⟨w.heap.size + 2, 0, none⟩ u0).setCell ⟨w.heap.size + 2, 1, none⟩ u1).setCell ⟨w.heap.size + 2, 2, none⟩ u2).heap[k]? = wr.heap[k]?) := fun u0 u1 u2 k hk => by
        rw [Below.heap_setCell _ _ _ _ hk, Below.heap_setCell _ _ _ _ hk, Below.heap_setCell _ _ _ _ hk]
      by_cases hn : s.num = n
      · have SS := set3 (a' := .int .i64 s.num) (b' := .int .i64 s.tm) (c' := .int .i64 s.ev) b0 b1 b2
        have NB : Hid (∀ k, k ≠ w.heap.size + 2 → (((wr.setCell ⟨w.heap.size + 2, 0, none⟩ (.int .i64 s.num)).setCell ⟨w.heap.size + 2, 1, none⟩ (.int .i64 s.tm)).setCell ⟨w.heap.size + 2, 2, none⟩ (.int .i64 s.ev)).heap[k]? = wr.heap[k]?) := hB.out _ _ _
        have HSS : Hid _ := SS
        have A0 : Hid _ := a0
        have A1 : Hid _ := a1
        have A2 : Hid _ := a2
        have AF : Hid _ := af
        have BF : Hid (∀ o, wr.frozen? ⟨w.heap.size + 2, o, none⟩ = false) := bf
        have hnb : (s.num == n) = true := by simpa using hn
        have HN : Hid (s.num = n) := hn
        clear SS hn a0 a1 a2 af
        go_wp2
        go_roundw
        case rel =>
          refine ⟨i + 1, true, _, s, _, by go_num, rfl, rfl, rfl, by omega, ⟨?_, ?_, HQ.out.2.2.1, ?_, ?_⟩, HSS.out.1, HSS.out.2.1, HSS.out.2.2, ?_, ⟨ra, rb, rc, ?_, ?_, ?_⟩, ?_⟩
          · rw [DS.out, if_pos HN.out]
            exact HQ.out.1.far (fun g hg => NB.out g (fun e => HQ.out.2.2.1 (by rw [hg, e])))
          · have := WasI.hit (n := n) hlt (HS.out ▸ HN.out); rw [← HS.out] at this; exact this
          · exact (((HQ.out.2.2.2.1).setCell (by simp; omega) _).setCell (by simp; omega) _).setCell (by simp; omega) _
          · simpa [World.setCell] using HQ.out.2.2.2.2
          · intro o; rw [World.frozen?_setCell, World.frozen?_setCell, World.frozen?_setCell]; exact BF.out o
          · exact (World.cell?_of_block (w := wr) (NB.out w.heap.size (by omega))).trans A0.out
          · exact (World.cell?_of_block (w := wr) (NB.out w.heap.size (by omega))).trans A1.out
          · exact (World.cell?_of_block (w := wr) (NB.out w.heap.size (by omega))).trans A2.out
          · intro o; exact (World.frozen?_of_block (w := wr) (NB.out w.heap.size (by omega))).trans (AF.out o)
        case measure => simp [intOf]; omega
      · have hnb : (s.num == n) = false := by simpa using hn
        have HN : Hid (s.num ≠ n) := hn
        have OL : Hid ((del n (L.take i)).length ≤ 100000) := by
          show (del n (L.take i)).length ≤ 100000
          have := del_len (n := n) (L := L.take i)
          have := List.length_take_le i L
          omega
        have OB : Hid (w.heap.size + 1 ≤ wr.heap.size) := by have := HQ.out.2.2.2.2; show _ ≤ _; omega
        clear hn
        go_wp2_with (at_builtin; refine append_tml rfl (.tmp 30) (.tmp 35) 26 rfl (w.heap.size + 1) Try.underlying26 info_tm _ _ _ vo (del n (L.take i)) s _ rfl HQ.out.1 _ rfl rfl rfl OL.out OB.out ?_; intro g cap8 w8 ho8 hb8 hk8 hg8)
        go_roundw
        case rel =>
          have k2 := hk8 (w.heap.size + 2) (by have := HQ.out.2.2.2.2; omega) (fun e => HQ.out.2.2.1 e.symm)
          have k0 := hk8 w.heap.size (by have := HQ.out.2.2.2.2; omega) (fun e => by
            have := HQ.out.1.newB
            cases hv : vo with
            | slice p n c =>
              cases p with
              | none => rw [hv] at e; cases e
              | some a => rw [hv] at e; have h3 := this a n c hv; simp [Value.ownBlock] at e; omega
            | _ => rw [hv] at e; simp [Value.ownBlock] at e)
          refine ⟨i + 1, ok, _, was, _, by go_num, rfl, rfl, rfl, by omega, ⟨?_, (HQ.out.2.1).miss hlt (HS.out ▸ HN.out), ?_, HQ.out.2.2.2.1.trans (hb8.mono (by omega)), Nat.le_trans HQ.out.2.2.2.2 hb8.size⟩, (World.cell?_of_block (w := wr) k2).trans b0, (World.cell?_of_block (w := wr) k2).trans b1, (World.cell?_of_block (w := wr) k2).trans b2, fun o => (World.frozen?_of_block (w := wr) k2).trans (bf o), ⟨ra, rb, rc, (World.cell?_of_block (w := wr) k0).trans a0, (World.cell?_of_block (w := wr) k0).trans a1, (World.cell?_of_block (w := wr) k0).trans a2⟩, fun o => (World.frozen?_of_block (w := wr) k0).trans (af o)⟩
          · rw [DS.out, if_neg HN.out]; exact ho8
          · rcases hg8 with hg8 | hg8
            · have h3 := HQ.out.2.2.1; rw [hg8] at h3; simpa [Value.ownBlock] using h3
            · simp [Value.ownBlock]; have := HQ.out.2.2.2.2; omega
        case measure => simp [intOf]; omega
    · have hi2 : i = L.length := by omega
      subst hi2
      have HD : Hid (OwnT wr (w.heap.size + 1) vo (del n L)) := by have := HQ.out.1; rw [List.take_length] at this; exact this
      obtain ⟨p9, c9, rfl⟩ := HD.out.form
      have FIN : Hid (∀ w', Below w.heap.size w w' → OwnT w' w.heap.size (.slice p9 (del n L).length c9) (del n L) → ∃ p cap t ok', Ending.returned (.tuple #[.slice p9 (del n L).length c9, .agg #[.int .i64 was.num, .int .i64 was.tm, .int .i64 was.ev], .bool ok]) = .returned (.tuple #[.slice p (del n L).length cap, .agg #[.int .i64 t.num, .int .i64 t.tm, .int .i64 t.ev], .bool ok']) ∧ OwnT w' w.heap.size (.slice p (del n L).length cap) (del n L) ∧ Below w.heap.size w w' ∧ WasI n L L.length t ok') := fun w' h1 h2 => ⟨p9, c9, was, ok, rfl, h2, h1, HQ.out.2.1⟩
      have RR : Hid _ := set3 (a' := .int .i64 was.num) (b' := .int .i64 was.tm) (c' := .int .i64 was.ev) a0 a1 a2
      have RB : Hid (Below w.heap.size w (((wr.setCell ⟨w.heap.size, 0, none⟩ (.int .i64 was.num)).setCell ⟨w.heap.size, 1, none⟩ (.int .i64 was.tm)).setCell ⟨w.heap.size, 2, none⟩ (.int .i64 was.ev)).drew) := ((((HQ.out.2.2.2.1).setCell (Nat.le_refl _) _).setCell (Nat.le_refl _) _).setCell (Nat.le_refl _) _).drew
      have RO : Hid (OwnT (((wr.setCell ⟨w.heap.size, 0, none⟩ (.int .i64 was.num)).setCell ⟨w.heap.size, 1, none⟩ (.int .i64 was.tm)).setCell ⟨w.heap.size, 2, none⟩ (.int .i64 was.ev)).drew w.heap.size (.slice p9 (del n L).length c9) (del n L)) := (HD.out.far (w' := (((wr.setCell ⟨w.heap.size, 0, none⟩ (.int .i64 was.num)).setCell ⟨w.heap.size, 1, none⟩ (.int .i64 was.tm)).setCell ⟨w.heap.size, 2, none⟩ (.int .i64 was.ev)).drew) (fun g hg => by
        have hgn : g ≠ w.heap.size := by
          cases p9 with
          | none => simp [Value.ownBlock] at hg
          | some a => have h3 := HD.out.newB a _ _ rfl; simp [Value.ownBlock] at hg; omega
        show (((wr.setCell ⟨w.heap.size, 0, none⟩ (.int .i64 was.num)).setCell ⟨w.heap.size, 1, none⟩ (.int .i64 was.tm)).setCell ⟨w.heap.size, 2, none⟩ (.int .i64 was.ev)).heap[g]? = _
        rw [Below.heap_setCell _ _ _ _ hgn, Below.heap_setCell _ _ _ _ hgn, Below.heap_setCell _ _ _ _ hgn])).lower (by omega)
      go_wp2
      go_region
      all_goals
        go_wp2
        exact bodyPost_ret (v := .tuple #[.slice p9 (del n L).length c9, .agg #[.int .i64 was.num, .int .i64 was.tm, .int .i64 was.ev], .bool ok]) (by simp [results, Try.results44, go_sem, RR.out.1, RR.out.2.1, RR.out.2.2]) rfl (FIN.out _ RB.out RO.out)
end Go.Proofs.Yteiadigafkollaa
