/- The reference's lists of timers: ahead, laid. -/
import Derived.Test.YteiadigafkollaaLw6
namespace Go.Proofs.Yteiadigafkollaa
open Go.RowKit Go.Sort Go.Shelf

/-- The slice reads as these timers, wherever it begins. -/
def RS (w : World) (v : Value) (L : List Tm) : Prop := (v = .slice none 0 0 ∧ L = []) ∨ ∃ X o cap, v = .slice (some ⟨X, o, none⟩) L.length cap ∧ X < w.heap.size ∧ L.length ≤ cap ∧ ∀ k (h : k < L.length), w.cell? ⟨X, o + k * 3, none⟩ = some (.int .i64 L[k].num) ∧ w.cell? ⟨X, o + k * 3 + 1, none⟩ = some (.int .i64 L[k].tm) ∧ w.cell? ⟨X, o + k * 3 + 2, none⟩ = some (.int .i64 L[k].ev)
theorem RS.form {w : World} {v : Value} {L : List Tm} (h : RS w v L) : ∃ p cap, v = .slice p L.length cap := by
  rcases h with ⟨rfl, rfl⟩ | ⟨X, o, cap, rfl, _⟩
  · exact ⟨none, 0, rfl⟩
  · exact ⟨_, cap, rfl⟩
theorem RS.below {w w' : World} {v : Value} {L : List Tm} (h : RS w v L) (k : Below w.heap.size w w') : RS w' v L := by
  rcases h with h | ⟨X, o, cap, rfl, hX, hcp, hc⟩
  · exact Or.inl h
  · refine Or.inr ⟨X, o, cap, rfl, Nat.lt_of_lt_of_le hX k.size, hcp, fun i hi => ?_⟩
    obtain ⟨c1, c2, c3⟩ := hc i hi
    exact ⟨(k.cell (p := ⟨X, _, none⟩) hX).trans c1, (k.cell (p := ⟨X, _, none⟩) hX).trans c2, (k.cell (p := ⟨X, _, none⟩) hX).trans c3⟩
theorem RS.at {w : World} {p : Option Addr} {n cap k : Nat} {L : List Tm} (h : RS w (.slice p n cap) L) (hk : k < L.length) : ∃ X o, p = some ⟨X, o, none⟩ ∧ w.cell? ⟨X, o + k * 3, none⟩ = some (.int .i64 L[k].num) ∧ w.cell? ⟨X, o + k * 3 + 1, none⟩ = some (.int .i64 L[k].tm) ∧ w.cell? ⟨X, o + k * 3 + 2, none⟩ = some (.int .i64 L[k].ev) := by
  rcases h with ⟨_, rfl⟩ | ⟨X, o, cap, e, hX, _, hc⟩
  · simp at hk
  · injection e with e1 e2 e3
    exact ⟨X, o, e1, hc k hk⟩
/-- The slice owns these timers, in a row of the call's own. -/
def OwnT (w : World) (base : Nat) (v : Value) (l : List Tm) : Prop := w.ownsRow base 47 3 v l.length (l.flatMap tmC)
theorem ownT_empty (w : World) : OwnT (w.alloc (.cells #[] 47)) w.heap.size (.slice (some ⟨w.heap.size, 0, none⟩) 0 0) [] :=
  ⟨rfl, Or.inr ⟨w.heap.size, 0, #[], rfl, Nat.le_refl _, heap_alloc_new w _, Nat.le_refl _, Nat.zero_le _, rfl, rfl⟩⟩
theorem OwnT.below {w : World} {base : Nat} {v : Value} {l : List Tm} (h : OwnT w base v l) {w' : World} (k : Below w.heap.size w w') : OwnT w' base v l := by
  obtain ⟨h1, h2⟩ := h
  refine ⟨h1, ?_⟩
  rcases h2 with h2 | ⟨g, cap, cur, e1, e2, e3, e4⟩
  · exact Or.inl h2
  · refine Or.inr ⟨g, cap, cur, e1, e2, ?_, e4⟩
    have hg : g < w.heap.size := by
      by_cases hlt : g < w.heap.size
      · exact hlt
      · rw [Array.getElem?_eq_none (by omega)] at e3; cases e3
    rw [k.block g hg]; exact e3
theorem OwnT.rs {w : World} {base : Nat} {v : Value} {l : List Tm} (h : OwnT w base v l) : RS w v l := by
  have h0 := h
  rcases h.2 with ⟨rfl, e⟩ | ⟨g, cap, cur, rfl, hb, hg, hcp, _⟩
  · exact Or.inl ⟨rfl, List.length_eq_zero_iff.1 e⟩
  · have hgl : g < w.heap.size := by
      by_cases hlt : g < w.heap.size
      · exact hlt
      · rw [Array.getElem?_eq_none (by omega)] at hg; cases hg
    refine Or.inr ⟨g, 0, cap, rfl, hgl, hcp, fun k hk => ⟨?_, ?_, ?_⟩⟩
    · rw [Nat.zero_add]; exact (World.ownsRow.cellAt h0 (k * 3) (by omega)).trans (by have := tmC_at l k 0 hk (by omega); simpa [tmC] using this)
    · rw [Nat.zero_add]; exact (World.ownsRow.cellAt h0 (k * 3 + 1) (by omega)).trans (by have := tmC_at l k 1 hk (by omega); simpa [tmC] using this)
    · rw [Nat.zero_add]; exact (World.ownsRow.cellAt h0 (k * 3 + 2) (by omega)).trans (by have := tmC_at l k 2 hk (by omega); simpa [tmC] using this)
/-- The block of a slice is a new one. -/
def NewB (base : Nat) (v : Value) : Prop := ∀ a n c, v = .slice (some a) n c → base ≤ a.block
theorem OwnT.newB {w : World} {base : Nat} {v : Value} {l : List Tm} (h : OwnT w base v l) : NewB base v := by
  intro a n c e
  rcases h.2 with ⟨rfl, _⟩ | ⟨g, cap, cur, rfl, hb, _⟩
  · cases e
  · injection e with e1 _ _; injection e1 with e1; subst e1; exact hb
theorem append_tm {P : Program} {ops : Array Oper} {rest : List Oper} {o : Oper} {a : Act} {Q : Exit → Act → World → Prop} (hgd : o.guard = none) (s x : Operand) (t : TypeId)
    (ho : o.op = .call { callee := .builtin .append, args := #[s, x], argTypes := #[t, t] })
    (base : Nat) (ht : P.underlying t = some (.slice 47)) (hi : (P.info? 47).map (fun i => (i.zero, i.size, i.bytes)) = some (some (.agg #[.int .i64 0, .int .i64 0, .int .i64 0]), 3, 24))
    (w0 : World) (cells : Array Value) (tc : TypeId) (v : Value) (l : List Tm) (f : Tm) (c : Nat) (hs : a.eval s = v) (hown : OwnT w0 base v l) (b : Nat) (hb : w0.heap.size = b)
    (hx : a.eval x = .slice (some ⟨b, 0, none⟩) 1 c) (hc : cells.toList = tmC f)
    (hlen : l.length ≤ 100000) (hbase : base ≤ w0.heap.size)
    (h : ∀ v' w', OwnT w' base v' (l ++ [f]) → Below base w0 w' → wpList P ops Q rest (a.put o.dst v') w') : wpList P ops Q (o :: rest) a (w0.alloc (.cells cells tc)) := by
  subst hb
  obtain ⟨i0, hi0, hz0, hz1, hz2⟩ := info_parts hi
  have hown2 : (w0.alloc (.cells cells tc)).ownsRow base 47 3 v l.length (l.flatMap tmC) := World.ownsRow.alloc hown _
  have one : ∀ u ∈ tmC f, u.oneCell' = true := fun u hu => by simp [tmC] at hu; rcases hu with rfl | rfl | rfl <;> rfl
  refine wpList_append_own _ hgd s x t ho base 47 i0 (.agg #[.int .i64 0, .int .i64 0, .int .i64 0]) 3 24 ht hi0 hz0 hz1 hz2 rfl (by decide) v l.length (l.flatMap tmC) hs hown2 ⟨w0.heap.size, 0, none⟩ 1 c (tmC f) hx rfl (news_at w0 cells tc _ hc) one
    (by unfold maxLen; omega) (by omega) (by simp; omega) ?_
  intro v' w' ho' hg _
  have hgb : Below base w0 w' := ((Below.refl base w0).alloc hbase _).grown hg (by simp; omega) (fun q hq => (hown2.lt q hq).1)
  refine h v' w' ?_ hgb
  unfold OwnT
  rw [List.length_append, List.flatMap_append]
  simpa using ho'
abbrev tmV (t : Tm) : Value := .agg #[.int .i64 t.num, .int .i64 t.tm, .int .i64 t.ev]
set_option maxHeartbeats 2000000 in
theorem ahead_any (w : World) (t s : Tm) :
    Calls Try.prog 54 #[.agg #[.int .i64 t.num, .int .i64 t.tm, .int .i64 t.ev], .agg #[.int .i64 s.num, .int .i64 s.tm, .int .i64 s.ev]] w fun e w' => e = .returned (.bool (tlt t s)) ∧ Below w.heap.size w w' := by
  have FIN : Hid (∀ o1 o2, Below w.heap.size w ((w.alloc o1).alloc o2)) := fun o1 o2 => ((Below.refl _ _).alloc (Nat.le_refl _) o1).alloc (by simp) o2
  by_cases h1 : t.tm < s.tm
  · have hb : tlt t s = true := (tlt_iff ..).2 (Or.inl h1)
    rw [hb]; clear hb
    go_enter Try.func54, Try.ntmps54
    go_wp2
    go_ret
    exact ⟨rfl, FIN.out _ _⟩
  · by_cases h2 : t.tm = s.tm
    · by_cases h3 : t.num < s.num
      · have hb : tlt t s = true := (tlt_iff ..).2 (Or.inr ⟨h2, h3⟩)
        rw [hb]; clear hb
        go_enter Try.func54, Try.ntmps54
        go_wp2
        go_ret
        exact ⟨rfl, FIN.out _ _⟩
      · have hb : tlt t s = false := (tlt_niff ..).2 (by omega)
        rw [hb]; clear hb
        go_enter Try.func54, Try.ntmps54
        go_wp2
        go_ret
        exact ⟨rfl, FIN.out _ _⟩
    · have hb : tlt t s = false := (tlt_niff ..).2 (by omega)
      have h2b : (t.tm == s.tm) = false := by simpa using h2
      rw [hb]; clear hb
      go_enter Try.func54, Try.ntmps54
      go_wp2
      go_ret
      exact ⟨rfl, FIN.out _ _⟩
theorem ins_end {t : Tm} : ∀ {L : List Tm}, (∀ x ∈ L, tlt t x = false) → ins t L = L ++ [t]
  | [], _ => rfl
  | x :: r, h => by
    rw [ins, h x (List.mem_cons_self ..), if_neg (by simp), ins_end (fun y hy => h y (List.mem_cons_of_mem _ hy))]; rfl
theorem ins_mid {t : Tm} : ∀ {L : List Tm} {i : Nat} (hi : i < L.length), (∀ x ∈ L.take i, tlt t x = false) → tlt t L[i] = true → ins t L = L.take i ++ t :: L.drop i
  | x :: r, 0, _, _, h => by
    rw [ins]; simp only [List.getElem_cons_zero] at h; rw [h, if_pos rfl]; rfl
  | x :: r, i + 1, hi, h, h2 => by
    have hx := h x (by simp)
    rw [ins, hx, if_neg (by simp), ins_mid (L := r) (i := i) (by simpa using hi) (fun y hy => h y (by simp; exact Or.inr hy)) (by simpa using h2)]; rfl
end Go.Proofs.Yteiadigafkollaa
