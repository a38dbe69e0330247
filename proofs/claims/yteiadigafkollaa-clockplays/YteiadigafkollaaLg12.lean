/- The clock and the reference answer alike, call by call. -/
import Derived.Test.YteiadigafkollaaLg11
namespace Go.Proofs.Yteiadigafkollaa
open Go.RowKit Go.Sort Go.Shelf

/-- A call of the clock: what it answers, and what it leaves. -/
def CPair (b : Nat) (xo : Option Nat) (now given : Int) (L : List Tm) (f : FuncId) (args : Array Value) (v : Value) (now' given' : Int) (L' : List Tm) : Prop :=
  ∀ W, CL W b xo now given L → Calls Try.prog f args W fun E w' => E = .returned v ∧ ∃ xo', KC b xo W w' ∧ NX W xo xo' ∧ CL w' b xo' now' given' L'
/-- The reference's, of the same. -/
def RPair (p : Option Addr) (cap : Nat) (L : List Tm) (f : FuncId) (args : Array Value) (vs : Value → Value) (now' given' : Int) (L' : List Tm) : Prop :=
  ∀ W, RS W (.slice p L.length cap) L → Calls Try.prog f args W fun E w' => ∃ p' cap', E = .returned (vs (.agg #[.int .i64 now', .int .i64 given', .slice p' L'.length cap'])) ∧ RS w' (.slice p' L'.length cap') L' ∧ Src W.heap.size p (.slice p' L'.length cap') ∧ Below W.heap.size W w'
theorem src_same (base : Nat) (p : Option Addr) (n c : Nat) : Src base p (.slice p n c) := fun a _ _ e => by injection e with e _ _; exact Or.inl ⟨a, e, rfl⟩
theorem src_new {w : World} {base : Nat} {p : Option Addr} {v : Value} {l : List Tm} (h : OwnT w base v l) : Src base p v := fun a n c e => Or.inr (h.newB a n c e)
theorem set_c {b : Nat} {xo : Option Nat} {now given at' ev : Int} {L : List Tm} {W w' : World} {e : Ending} (h : SetR W w' b xo now given at' ev L e) (hl : L.length < 1024) : e = .returned (.tuple #[.int .i64 (given + 1), .int .i64 0]) ∧ ∃ xo', KC b xo W w' ∧ NX W xo xo' ∧ CL w' b xo' now (given + 1) (ins ⟨given + 1, at', ev⟩ L) := by
  obtain ⟨xo', g', L', h1, h2, h3, ⟨h4, _⟩ | ⟨_, he, rfl, rfl⟩⟩ := h
  · omega
  · exact ⟨he, xo', h3, h1, h2⟩
theorem set_cf {b : Nat} {xo : Option Nat} {now given at' ev : Int} {L : List Tm} {W w' : World} {e : Ending} (h : SetR W w' b xo now given at' ev L e) (hl : 1024 ≤ L.length) : e = .returned (.tuple #[.int .i64 0, .int .i64 3]) ∧ ∃ xo', KC b xo W w' ∧ NX W xo xo' ∧ CL w' b xo' now given L := by
  obtain ⟨xo', g', L', h1, h2, h3, ⟨_, he, rfl, rfl⟩ | ⟨h4, _⟩⟩ := h
  · exact ⟨he, xo', h3, h1, h2⟩
  · omega
theorem set_r {time made at' ev : Int} {p : Option Addr} {cap : Nat} {L : List Tm} {W w' : World} {e : Ending} (h : RSet W w' time made at' ev p cap L e) (hl : L.length < 1024) : ∃ p' cap', e = .returned (.tuple #[.agg #[.int .i64 time, .int .i64 (made + 1), .slice p' (ins ⟨made + 1, at', ev⟩ L).length cap'], .int .i64 (made + 1), .int .i64 0]) ∧ RS w' (.slice p' (ins ⟨made + 1, at', ev⟩ L).length cap') (ins ⟨made + 1, at', ev⟩ L) ∧ Src W.heap.size p (.slice p' (ins ⟨made + 1, at', ev⟩ L).length cap') ∧ Below W.heap.size W w' := by
  obtain ⟨hb, ⟨h1, _⟩ | ⟨_, p', cap', he, ho⟩⟩ := h
  · omega
  · rw [ins_len]
    exact ⟨p', cap', he, ho.rs, src_new ho, hb⟩
theorem set_rf {time made at' ev : Int} {p : Option Addr} {cap : Nat} {L : List Tm} {W w' : World} {e : Ending} (h : RSet W w' time made at' ev p cap L e) (hl : 1024 ≤ L.length) (hr : RS W (.slice p L.length cap) L) : ∃ p' cap', e = .returned (.tuple #[.agg #[.int .i64 time, .int .i64 made, .slice p' L.length cap'], .int .i64 0, .int .i64 3]) ∧ RS w' (.slice p' L.length cap') L ∧ Src W.heap.size p (.slice p' L.length cap') ∧ Below W.heap.size W w' := by
  obtain ⟨hb, ⟨_, he⟩ | ⟨h1, _⟩⟩ := h
  · exact ⟨p, cap, he, hr.below hb, src_same _ _ _ _, hb⟩
  · omega
/-- Three calls that set a timer. -/
theorem set_pair {now given at' ev : Int} {L : List Tm} {b : Nat} {xo : Option Nat} {p : Option Addr} {cap : Nat} {fc fr : FuncId} {ac ar : Array Value} {C : Prop} [Decidable C] (_hg : 0 ≤ given)
    (hc : ∀ W, CL W b xo now given L → Calls Try.prog fc ac W fun e w' => if C then SetR W w' b xo now given at' ev L e else e = .returned (.tuple #[.int .i64 0, .int .i64 1]) ∧ w' = W)
    (hr : ∀ W, RS W (.slice p L.length cap) L → Calls Try.prog fr ar W fun e w' => if C then RSet W w' now given at' ev p cap L e else e = .returned (.tuple #[.agg #[.int .i64 now, .int .i64 given, .slice p L.length cap], .int .i64 0, .int .i64 1]) ∧ Below W.heap.size W w') :
    ∃ n e given' L', given' ≤ given + 1 ∧ CPair b xo now given L fc ac (.tuple #[.int .i64 n, .int .i64 e]) now given' L' ∧ RPair p cap L fr ar (fun v => .tuple #[v, .int .i64 n, .int .i64 e]) now given' L' := by
  by_cases hC : C
  · by_cases hl : L.length < 1024
    · refine ⟨given + 1, 0, given + 1, ins ⟨given + 1, at', ev⟩ L, Int.le_refl _, fun W hW => (hc W hW).mono fun e w' h => ?_, fun W hW => (hr W hW).mono fun e w' h => ?_⟩
      · rw [if_pos hC] at h; exact set_c h hl
      · rw [if_pos hC] at h; exact set_r h hl
    · refine ⟨0, 3, given, L, by omega, fun W hW => (hc W hW).mono fun e w' h => ?_, fun W hW => (hr W hW).mono fun e w' h => ?_⟩
      · rw [if_pos hC] at h; exact set_cf h (by omega)
      · rw [if_pos hC] at h; exact set_rf h (by omega) hW
  · refine ⟨0, 1, given, L, by omega, fun W hW => (hc W hW).mono fun e w' h => ?_, fun W hW => (hr W hW).mono fun e w' h => ?_⟩
    · rw [if_neg hC] at h
      obtain ⟨rfl, rfl⟩ := h
      exact ⟨rfl, xo, KC.refl _ _ _, NX.refl _ _, hW⟩
    · rw [if_neg hC] at h
      exact ⟨p, cap, h.1, hW.below h.2, src_same _ _ _ _, h.2⟩
theorem at_pair {now given : Int} {L : List Tm} (b : Nat) (xo : Option Nat) (p : Option Addr) (cap : Nat) (ho : Ok now given L) (hg : given ≤ 1000000000000000000) (x : Int) :
    ∃ n e given' L', given' ≤ given + 1 ∧ CPair b xo now given L 24 #[.pointer (some ⟨b, 0, none⟩), .int .i64 x] (.tuple #[.int .i64 n, .int .i64 e]) now given' L' ∧ RPair p cap L 26 #[.agg #[.int .i64 now, .int .i64 given, .slice p L.length cap], .int .i64 x] (fun v => .tuple #[v, .int .i64 n, .int .i64 e]) now given' L' :=
  set_pair ho.giv (fun W hW => at_any W b xo now given L hW hg x) (fun W hW => rat_any W now given x p cap L hW ho.len ⟨ho.giv, hg⟩)
theorem after_pair {now given : Int} {L : List Tm} (b : Nat) (xo : Option Nat) (p : Option Addr) (cap : Nat) (ho : Ok now given L) (hg : given ≤ 1000000000000000000) (x : Int) :
    ∃ n e given' L', given' ≤ given + 1 ∧ CPair b xo now given L 21 #[.pointer (some ⟨b, 0, none⟩), .int .i64 x] (.tuple #[.int .i64 n, .int .i64 e]) now given' L' ∧ RPair p cap L 27 #[.agg #[.int .i64 now, .int .i64 given, .slice p L.length cap], .int .i64 x] (fun v => .tuple #[v, .int .i64 n, .int .i64 e]) now given' L' :=
  set_pair ho.giv (fun W hW => after_any W b xo now given L hW hg x) (fun W hW => rafter_any W now given x p cap L hW ho.len ⟨ho.giv, hg⟩ ho.now0)
theorem every_pair {now given : Int} {L : List Tm} (b : Nat) (xo : Option Nat) (p : Option Addr) (cap : Nat) (ho : Ok now given L) (hg : given ≤ 1000000000000000000) (x y : Int) :
    ∃ n e given' L', given' ≤ given + 1 ∧ CPair b xo now given L 25 #[.pointer (some ⟨b, 0, none⟩), .int .i64 x, .int .i64 y] (.tuple #[.int .i64 n, .int .i64 e]) now given' L' ∧ RPair p cap L 28 #[.agg #[.int .i64 now, .int .i64 given, .slice p L.length cap], .int .i64 x, .int .i64 y] (fun v => .tuple #[v, .int .i64 n, .int .i64 e]) now given' L' :=
  set_pair ho.giv (fun W hW => every_any W b xo now given L hW hg x y) (fun W hW => revery_any W now given x y p cap L hW ho.len ⟨ho.giv, hg⟩)
theorem stop_pair {now given : Int} {L : List Tm} (b : Nat) (xo : Option Nat) (p : Option Addr) (cap : Nat) (ho : Ok now given L) (x : Int) :
    ∃ e L', CPair b xo now given L 22 #[.pointer (some ⟨b, 0, none⟩), .int .i64 x] (.int .i64 e) now given L' ∧ RPair p cap L 29 #[.agg #[.int .i64 now, .int .i64 given, .slice p L.length cap], .int .i64 x] (fun v => .tuple #[v, .int .i64 e]) now given L' := by
  by_cases hn : ∃ t ∈ L, t.num = x
  · refine ⟨0, del x L, fun W hW => (stop_any W b xo now given L hW x).mono fun e w' ⟨k, h⟩ => ?_, fun W hW => (rstop_any W now given x p cap L hW ho.len).mono fun e w' ⟨hb, h⟩ => ?_⟩
    · rcases h with ⟨h, _⟩ | ⟨_, he, hc⟩
      · obtain ⟨t, ht, e⟩ := hn; exact absurd e (h t ht)
      · exact ⟨he, xo, k, NX.refl _ _, hc⟩
    · rcases h with ⟨h, _⟩ | ⟨_, p', cap', he, ho'⟩
      · obtain ⟨t, ht, e⟩ := hn; exact absurd e (h t ht)
      · exact ⟨p', cap', he, ho'.rs, src_new ho', hb⟩
  · refine ⟨4, L, fun W hW => (stop_any W b xo now given L hW x).mono fun e w' ⟨k, h⟩ => ?_, fun W hW => (rstop_any W now given x p cap L hW ho.len).mono fun e w' ⟨hb, h⟩ => ?_⟩
    · rcases h with ⟨_, he, hc⟩ | ⟨h, _⟩
      · exact ⟨he, xo, k, NX.refl _ _, hc⟩
      · exact absurd h hn
    · rcases h with ⟨_, he⟩ | ⟨h, _⟩
      · exact ⟨p, cap, he, hW.below hb, src_same _ _ _ _, hb⟩
      · exact absurd h hn
theorem num_one {L : List Tm} (h : Srt L) {t s : Tm} (ht : t ∈ L) (hs : s ∈ L) (e : t.num = s.num) : t = s := by
  have hn := h.num
  induction L with
  | nil => simp at ht
  | cons x r ih =>
    obtain ⟨h1, h2⟩ := List.pairwise_cons.1 hn
    rcases List.mem_cons.1 ht with e1 | h3
    · rcases List.mem_cons.1 hs with e2 | h4
      · rw [e1, e2]
      · exact absurd (e1 ▸ e) (h1 s h4)
    · rcases List.mem_cons.1 hs with e2 | h4
      · exact absurd (e2 ▸ e.symm) (h1 t h3)
      · exact ih h.tail h3 h4 h2
theorem move_pair {now given : Int} {L : List Tm} (b : Nat) (xo : Option Nat) (p : Option Addr) (cap : Nat) (ho : Ok now given L) (x y : Int) :
    ∃ e L', CPair b xo now given L 23 #[.pointer (some ⟨b, 0, none⟩), .int .i64 x, .int .i64 y] (.int .i64 e) now given L' ∧ RPair p cap L 30 #[.agg #[.int .i64 now, .int .i64 given, .slice p L.length cap], .int .i64 x, .int .i64 y] (fun v => .tuple #[v, .int .i64 e]) now given L' := by
  by_cases hn : ∃ t ∈ L, t.num = x
  · obtain ⟨t, ht, hx⟩ := hn
    by_cases hr : now ≤ y ∧ y ≤ 1099511627776
    · refine ⟨0, ins ⟨x, y, t.ev⟩ (del x L), fun W hW => (move_any W b xo now given L hW x y).mono fun e w' ⟨k, h⟩ => ?_, fun W hW => (rmove_any W now given x y p cap L hW ho.len).mono fun e w' ⟨hb, h⟩ => ?_⟩
      · rcases h with ⟨h, _⟩ | ⟨_, h, _⟩ | ⟨_, he, s, hs, hsx, hc⟩
        · exact absurd hx (h t ht)
        · exact absurd hr h
        · have := num_one ho.srt ht hs (by rw [hx, hsx]); subst this
          exact ⟨he, xo, k, NX.refl _ _, hc⟩
      · rcases h with ⟨h, _⟩ | ⟨_, h, _⟩ | ⟨_, s, hs, hsx, p', cap', he, ho'⟩
        · exact absurd hx (h t ht)
        · exact absurd hr h
        · have := num_one ho.srt ht hs (by rw [hx, hsx]); subst this
          rw [ins_len]
          exact ⟨p', cap', he, ho'.rs, src_new ho', hb⟩
    · refine ⟨1, L, fun W hW => (move_any W b xo now given L hW x y).mono fun e w' ⟨k, h⟩ => ?_, fun W hW => (rmove_any W now given x y p cap L hW ho.len).mono fun e w' ⟨hb, h⟩ => ?_⟩
      · rcases h with ⟨h, _⟩ | ⟨_, _, he, hc⟩ | ⟨h, _⟩
        · exact absurd hx (h t ht)
        · exact ⟨he, xo, k, NX.refl _ _, hc⟩
        · exact absurd h hr
      · rcases h with ⟨h, _⟩ | ⟨_, _, he⟩ | ⟨h, _⟩
        · exact absurd hx (h t ht)
        · exact ⟨p, cap, he, hW.below hb, src_same _ _ _ _, hb⟩
        · exact absurd h hr
  · refine ⟨4, L, fun W hW => (move_any W b xo now given L hW x y).mono fun e w' ⟨k, h⟩ => ?_, fun W hW => (rmove_any W now given x y p cap L hW ho.len).mono fun e w' ⟨hb, h⟩ => ?_⟩
    · rcases h with ⟨_, he, hc⟩ | ⟨h, _⟩ | ⟨_, _, t, ht, e, _⟩
      · exact ⟨he, xo, k, NX.refl _ _, hc⟩
      · exact absurd h hn
      · exact absurd ⟨t, ht, e⟩ hn
    · rcases h with ⟨_, he⟩ | ⟨h, _⟩ | ⟨_, t, ht, e, _⟩
      · exact ⟨p, cap, he, hW.below hb, src_same _ _ _ _, hb⟩
      · exact absurd h hn
      · exact absurd ⟨t, ht, e⟩ hn
def Out (s j : Nat) : Prop := j < s ∨ s + 3 ≤ j
/-- A state that lies outside the three boxes at s. -/
structure SPX (w0 w : World) (s b : Nat) (xo : Option Nat) (now given : Int) (L : List Tm) (p : Option Addr) (cap : Nat) : Prop where
  sp : SP w0 w b xo now given L p cap
  ob : Out s b
  ox : ∀ X, xo = some X → Out s X
  op : ∀ a, p = some a → Out s a.block
theorem SP.plt {w0 w : World} {b : Nat} {xo : Option Nat} {now given : Int} {L : List Tm} {p : Option Addr} {cap : Nat} (h : SP w0 w b xo now given L p cap) (a : Addr) (e : p = some a) : a.block < w.heap.size := by
  rcases h.rs with ⟨e2, _⟩ | ⟨X, o, cp, e2, hX, _⟩
  · injection e2 with e2 _ _; rw [e2] at e; cases e
  · injection e2 with e2 _ _; rw [e2] at e; injection e with e; rw [← e]; exact hX
theorem SP.x {w0 w w' : World} {b : Nat} {xo : Option Nat} {now given : Int} {L : List Tm} {p : Option Addr} {cap : Nat} (h : SP w0 w b xo now given L p cap) (k : Below w.heap.size w w') : SPX w0 w' w.heap.size b xo now given L p cap :=
  ⟨h.below k, Or.inl h.st.lt.1, fun X e => Or.inl (h.st.lt.2 X e), fun a e => Or.inl (h.plt a e)⟩
theorem SPX.below {w0 w w' : World} {s b : Nat} {xo : Option Nat} {now given : Int} {L : List Tm} {p : Option Addr} {cap : Nat} (h : SPX w0 w s b xo now given L p cap) (k : Below w.heap.size w w') : SPX w0 w' s b xo now given L p cap := ⟨h.sp.below k, h.ob, h.ox, h.op⟩
/-- What turns nothing but the boxes leaves the state. -/
theorem SPX.keep {w0 w w' : World} {s b : Nat} {xo : Option Nat} {now given : Int} {L : List Tm} {p : Option Addr} {cap : Nat} (h : SPX w0 w s b xo now given L p cap) (hs : w.heap.size ≤ w'.heap.size) (hB : Below w0.heap.size w0 w') (hk : ∀ j, Out s j → j < w.heap.size → w'.heap[j]? = w.heap[j]?) : SPX w0 w' s b xo now given L p cap := by
  refine ⟨⟨⟨h.sp.st.cl.keep hs (hk b h.ob h.sp.st.lt.1) (fun X e => hk X (h.ox X e) (h.sp.st.lt.2 X e)), h.sp.st.hb, h.sp.st.hx, hB⟩, h.sp.rs.blk hs (fun a n c e => ?_), h.sp.dj⟩, h.ob, h.ox, h.op⟩
  injection e with e _ _
  exact hk _ (h.op a e) (h.sp.plt a e)
/-- The clock's call: where the old list stays. -/
theorem SPX.clock {w0 w w4 : World} {s b : Nat} {xo : Option Nat} {now given : Int} {L : List Tm} {p : Option Addr} {cap : Nat} (h : SPX w0 w s b xo now given L p cap) (k : KC b xo w w4) : RS w4 (.slice p L.length cap) L :=
  h.sp.rs.blk k.size (fun a n c e => by
    injection e with e _ _
    exact k.block _ (h.sp.plt a e) (h.sp.dj a e).1 (h.sp.dj a e).2)
/-- Behind both calls. -/
theorem SPX.both {w0 w w4 w5 : World} {s b : Nat} {xo xo4 : Option Nat} {now given now' given' : Int} {L L' : List Tm} {p p' : Option Addr} {cap cap' : Nat} (h : SPX w0 w s b xo now given L p cap) (hs : s + 3 ≤ w.heap.size)
    (k : KC b xo w w4) (n : NX w xo xo4) (c : CL w4 b xo4 now' given' L') (r : RS w5 (.slice p' L'.length cap') L') (q : Src w4.heap.size p (.slice p' L'.length cap')) (B : Below w4.heap.size w4 w5) : SPX w0 w5 s b xo4 now' given' L' p' cap' := by
  have st4 := h.sp.st.kc k n c
  have hks := k.size
  refine ⟨⟨st4.below B, r, fun a e => ?_⟩, h.ob, fun X e => ?_, fun a e => ?_⟩
  · rcases q a _ _ (by rw [e]) with ⟨a0, e1, e2⟩ | hge
    · have hd := h.sp.dj a0 e1
      have hp := h.sp.plt a0 e1
      rw [← e2]
      refine ⟨hd.1, ?_⟩
      rcases n with rfl | ⟨g, rfl, hg⟩
      · exact hd.2
      · intro e3; injection e3 with e3; omega
    · have hl := st4.lt
      refine ⟨by omega, fun e3 => ?_⟩
      have := hl.2 _ e3.symm; omega
  · rcases n with rfl | ⟨g, rfl, hg⟩
    · exact h.ox X e
    · injection e with e; exact Or.inr (by omega)
  · rcases q a _ _ (by rw [e]) with ⟨a0, e1, e2⟩ | hge
    · rw [← e2]; exact h.op a0 e1
    · exact Or.inr (by omega)
theorem NX.old {w u : World} {xo xo' : Option Nat} (h : NX u xo xo') (hs : w.heap.size ≤ u.heap.size) : ∀ X, xo' = some X → xo = some X ∨ w.heap.size ≤ X := by
  intro X e
  rcases h with h | ⟨g, h, hg⟩
  · exact Or.inl (h ▸ e)
  · rw [h] at e; injection e with e; exact Or.inr (by omega)
theorem Src.low {a b : Nat} {p : Option Addr} {v : Value} (h : Src b p v) (hab : a ≤ b) : Src a p v := fun q n c e => (h q n c e).imp id (fun h => Nat.le_trans hab h)
/-- Nothing of an elder world has turned but the clock. -/
def Fr (b : Nat) (xo : Option Nat) (w w' : World) : Prop := w.heap.size ≤ w'.heap.size ∧ ∀ j, j < w.heap.size → j ≠ b → some j ≠ xo → w'.heap[j]? = w.heap[j]?
theorem Fr.of_below {b : Nat} {xo : Option Nat} {w w' : World} (h : Below w.heap.size w w') : Fr b xo w w' := ⟨h.size, fun j hj _ _ => h.block j hj⟩
theorem Fr.kc {b : Nat} {xo : Option Nat} {w u v : World} (h : Fr b xo w u) (k : KC b xo u v) : Fr b xo w v := ⟨Nat.le_trans h.1 k.size, fun j hj h1 h2 => (k.block j (by have := h.1; omega) h1 h2).trans (h.2 j hj h1 h2)⟩
theorem Fr.below {b : Nat} {xo : Option Nat} {w u v : World} (h : Fr b xo w u) (k : Below u.heap.size u v) : Fr b xo w v := ⟨Nat.le_trans h.1 k.size, fun j hj h1 h2 => (k.block j (by have := h.1; omega)).trans (h.2 j hj h1 h2)⟩
theorem Fr.set {b : Nat} {xo : Option Nat} {w u : World} (h : Fr b xo w u) (a : Addr) (v : Value) (ha : w.heap.size ≤ a.block) : Fr b xo w (u.setCell a v) := ⟨by simpa [World.setCell] using h.1, fun j hj h1 h2 => (Below.heap_setCell _ _ _ _ (by omega)).trans (h.2 j hj h1 h2)⟩
theorem Fr.drew {b : Nat} {xo : Option Nat} {w u : World} (h : Fr b xo w u) : Fr b xo w u.drew := h
def StepR (w0 w : World) (b : Nat) (xo : Option Nat) (p : Option Addr) (w' : World) (given : Int) (e : Ending) : Prop :=
  ∃ b' xo' now' given' L' p' cap', e = .returned (.tuple #[.pointer (some ⟨b', 0, none⟩), .agg #[.int .i64 now', .int .i64 given', .slice p' L'.length cap'], .bool true]) ∧ SP w0 w' b' xo' now' given' L' p' cap' ∧ given' ≤ given + 1 ∧ Fr b xo w w' ∧ (b' = b ∨ w.heap.size ≤ b') ∧ (∀ X, xo' = some X → xo = some X ∨ w.heap.size ≤ X) ∧ Src w.heap.size p (.slice p' L'.length cap')
/-- The boxes, behind the clock's call and the reference's. -/
def Boxes (w W : World) (now given : Int) (p : Option Addr) (n cap : Nat) (c : Int × Int × Int) : Prop :=
  (∀ o, W.cell? ⟨w.heap.size, o, none⟩ = #[.int .i64 now, .int .i64 given, .slice p n cap][o]?) ∧ (∀ o, W.cell? ⟨w.heap.size + 1, o, none⟩ = #[.int .i64 c.1, .int .i64 c.2.1, .int .i64 c.2.2][o]?) ∧ (∀ o, W.cell? ⟨w.heap.size + 2, o, none⟩ = #[.int .i64 0, .int .i64 0, .slice none 0 0][o]?) ∧ (∀ b o, w.heap.size ≤ b → b < w.heap.size + 3 → W.frozen? ⟨b, o, none⟩ = false) ∧ w.heap.size + 3 ≤ W.heap.size
theorem Boxes.start (w : World) (now given : Int) (p : Option Addr) (n cap : Nat) (c : Int × Int × Int) (t1 t2 t3 : TypeId) : Boxes w (((w.alloc (.cells #[.int .i64 now, .int .i64 given, .slice p n cap] t1)).alloc (.cells #[.int .i64 c.1, .int .i64 c.2.1, .int .i64 c.2.2] t2)).alloc (.cells #[.int .i64 0, .int .i64 0, .slice none 0 0] t3)) now given p n cap c := by
  obtain ⟨h1, h2, h3⟩ := three_boxes w #[.int .i64 now, .int .i64 given, .slice p n cap] #[.int .i64 c.1, .int .i64 c.2.1, .int .i64 c.2.2] #[.int .i64 0, .int .i64 0, .slice none 0 0] t1 t2 t3
  refine ⟨fun o => cell_of_row _ _ _ _ _ _ h1, fun o => cell_of_row _ _ _ _ _ _ h2, fun o => cell_of_row _ _ _ _ _ _ h3, fun b o g1 g2 => ?_, by simp⟩
  have hb : b = w.heap.size ∨ b = w.heap.size + 1 ∨ b = w.heap.size + 2 := by omega
  rcases hb with rfl | rfl | rfl
  · exact frozen_of_row h1
  · exact frozen_of_row h2
  · exact frozen_of_row h3
theorem Boxes.keep {w W W' : World} {now given : Int} {p : Option Addr} {n cap : Nat} {c : Int × Int × Int} (h : Boxes w W now given p n cap c) (hs : W.heap.size ≤ W'.heap.size) (hk : ∀ j, w.heap.size ≤ j → j < w.heap.size + 3 → W'.heap[j]? = W.heap[j]?) : Boxes w W' now given p n cap c := by
  obtain ⟨h1, h2, h3, h4, h5⟩ := h
  have k0 : W'.heap[w.heap.size]? = W.heap[w.heap.size]? := hk _ (by omega) (by omega)
  have k1 : W'.heap[w.heap.size + 1]? = W.heap[w.heap.size + 1]? := hk _ (by omega) (by omega)
  have k2 : W'.heap[w.heap.size + 2]? = W.heap[w.heap.size + 2]? := hk _ (by omega) (by omega)
  exact ⟨fun o => (World.cell?_of_block (w := W) (a := ⟨w.heap.size, o, none⟩) k0).trans (h1 o), fun o => (World.cell?_of_block (w := W) (a := ⟨w.heap.size + 1, o, none⟩) k1).trans (h2 o), fun o => (World.cell?_of_block (w := W) (a := ⟨w.heap.size + 2, o, none⟩) k2).trans (h3 o), fun b o g1 g2 => (World.frozen?_of_block (w := W) (a := ⟨b, o, none⟩) (hk b g1 g2)).trans (h4 b o g1 g2), by omega⟩
theorem Boxes.below {w W W' : World} {now given : Int} {p : Option Addr} {n cap : Nat} {c : Int × Int × Int} (h : Boxes w W now given p n cap c) (k : Below W.heap.size W W') : Boxes w W' now given p n cap c :=
  h.keep k.size (fun j _ h2 => k.block j (by have := h.2.2.2.2; omega))
theorem Boxes.kc {w0 w W W' : World} {b : Nat} {xo : Option Nat} {now given : Int} {L : List Tm} {p : Option Addr} {cap : Nat} {c : Int × Int × Int} {pp : Option Addr} {nn cc : Nat} {nw gv : Int} (h : Boxes w W nw gv pp nn cc c) (k : KC b xo W W') (x : SPX w0 W w.heap.size b xo now given L p cap) : Boxes w W' nw gv pp nn cc c :=
  h.keep k.size (fun j h1 h2 => k.block j (by have := h.2.2.2.2; omega) (fun e => by have := x.ob; unfold Out at this; omega) (fun e => by have := x.ox j e.symm; unfold Out at this; omega))
/-- The end of a step: the reference's clock into its box, and into the answer's. -/
theorem step_end {w0 w W : World} {b : Nat} {xo : Option Nat} {now given nw gv : Int} {L : List Tm} {p pp : Option Addr} {cap nn cc : Nat} {c : Int × Int × Int} (x : SPX w0 W w.heap.size b xo now given L p cap) (h : Boxes w W nw gv pp nn cc c) (hw0 : w0.heap.size ≤ w.heap.size) {bb : Nat} {xx : Option Nat} (fr : Fr bb xx w W) :
    let V := ((W.setCell ⟨w.heap.size, 0, none⟩ (.int .i64 now)).setCell ⟨w.heap.size, 1, none⟩ (.int .i64 given)).setCell ⟨w.heap.size, 2, none⟩ (.slice p L.length cap)
    let F := ((V.setCell ⟨w.heap.size + 2, 0, none⟩ (.int .i64 now)).setCell ⟨w.heap.size + 2, 1, none⟩ (.int .i64 given)).setCell ⟨w.heap.size + 2, 2, none⟩ (.slice p L.length cap)
    (V.cell? ⟨w.heap.size, 0, none⟩ = some (.int .i64 now) ∧ V.cell? ⟨w.heap.size, 1, none⟩ = some (.int .i64 given) ∧ V.cell? ⟨w.heap.size, 2, none⟩ = some (.slice p L.length cap)) ∧ (V.cell? ⟨w.heap.size + 2, 0, none⟩ = some (.int .i64 0) ∧ V.cell? ⟨w.heap.size + 2, 1, none⟩ = some (.int .i64 0) ∧ V.cell? ⟨w.heap.size + 2, 2, none⟩ = some (.slice none 0 0)) ∧ (F.cell? ⟨w.heap.size + 2, 0, none⟩ = some (.int .i64 now) ∧ F.cell? ⟨w.heap.size + 2, 1, none⟩ = some (.int .i64 given) ∧ F.cell? ⟨w.heap.size + 2, 2, none⟩ = some (.slice p L.length cap)) ∧ SPX w0 F w.heap.size b xo now given L p cap ∧ Fr bb xx w F := by
  have S1 := set3 (a' := .int .i64 now) (b' := .int .i64 given) (c' := .slice p L.length cap) (h.1 0) (h.1 1) (h.1 2)
  have e0 : ∀ o, (((W.setCell ⟨w.heap.size, 0, none⟩ (.int .i64 now)).setCell ⟨w.heap.size, 1, none⟩ (.int .i64 given)).setCell ⟨w.heap.size, 2, none⟩ (.slice p L.length cap)).cell? ⟨w.heap.size + 2, o, none⟩ = W.cell? ⟨w.heap.size + 2, o, none⟩ := fun o => by
    rw [far_set (by omega), far_set (by omega), far_set (by omega)]
  have z0 := (e0 0).trans (h.2.2.1 0)
  have z1 := (e0 1).trans (h.2.2.1 1)
  have z2 := (e0 2).trans (h.2.2.1 2)
  refine ⟨S1, ⟨z0, z1, z2⟩, set3 z0 z1 z2, x.keep (by simp [World.setCell]) ?_ ?_, (((((fr.set _ _ (Nat.le_refl _)).set _ _ (Nat.le_refl _)).set _ _ (Nat.le_refl _)).set _ _ (by simp)).set _ _ (by simp)).set _ _ (by simp)⟩
  · exact ((((((x.sp.st.bl.setCell hw0 _).setCell hw0 _).setCell hw0 _).setCell (by simp; omega) _).setCell (by simp; omega) _).setCell (by simp; omega) _)
  · intro j hj _
    unfold Out at hj
    have n1 : j ≠ w.heap.size := by omega
    have n2 : j ≠ w.heap.size + 2 := by omega
    rw [Below.heap_setCell _ _ _ _ n2, Below.heap_setCell _ _ _ _ n2, Below.heap_setCell _ _ _ _ n2, Below.heap_setCell _ _ _ _ n1, Below.heap_setCell _ _ _ _ n1, Below.heap_setCell _ _ _ _ n1]
end Go.Proofs.Yteiadigafkollaa
