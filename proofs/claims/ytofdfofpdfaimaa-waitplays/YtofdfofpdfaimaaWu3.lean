/- Waiting, the law WaitEach: what stands in memory. -/
import Derived.Test.YtofdfofpdfaimaaWu2
import Derived.Test.YtofdfofpdfaimaaWt1
namespace Go.Proofs.Ytofdfofpdfaimaa
open Go.RowKit Go.Maps

def am8 (n : Int) : Int := (n % 18446744073709551616) % 8
set_option maxHeartbeats 2000000 in
theorem among8_any (x : Int) (w : World) : Calls Try.prog 8 #[.int .i64 x, .int .i64 8] w fun e w' => e = .returned (.int .i64 (am8 x)) ∧ w' = w := by
  have HA : Hid (am8 x = (x % 18446744073709551616) % 8) := rfl
  generalize am8 x = r at *
  go_enter Try.func8, Try.ntmps8
  go_wp2
  go_ret
  refine ⟨ret_int ?_, rfl⟩
  rw [HA.out]
  have h1 : IntKind.u64.wrap x = x % 18446744073709551616 := by simp [IntKind.wrap, IntKind.bits, IntKind.signed]
  have h2 : (x % 18446744073709551616).tmod 8 = (x % 18446744073709551616) % 8 := Int.tmod_eq_emod_of_nonneg (Int.emod_nonneg _ (by decide))
  rw [h1, h2]
  unfold wrap64
  omega
set_option maxHeartbeats 4000000 in
theorem each2_any (w : World) (base r m : Nat) (L : List Wc) (c : Nat) (f : ByteArray → Option Value) (h : RX w base r m L c f) : Calls Try.prog 15 #[.pointer (some ⟨r, 0, none⟩)] w fun e w' => ∃ B r' m' f', e = .returned (.func (.func 43) #[] #[.pointer (some ⟨B, 0, none⟩)]) ∧ w'.heap[B]? = some (.cells #[.pointer (some ⟨r', 0, none⟩)] 23) ∧ w.heap.size ≤ B ∧ RX w' w.heap.size r' m' L c f' ∧ Below w.heap.size w w' := by
  have CL := hid (fun w' (hb : Below w.heap.size w w') => clone_any w' base r m L c f (h.below hb))
  have hmf : ∀ (fn : Fn) (first cap : Array Value) (w : World), (Instr.makeFunc fn first cap).run Try.prog w = .ok (.func fn first cap) w := fun _ _ _ _ => rfl
  clear h
  go_enter Try.func15, Try.ntmps15
  go_wp2_with (go_at_call 9; refine (CL.out _ (Below.refl _ _)).mono ?_; rintro e w2 ⟨r2, m2, f2, rfl, hx, hb⟩; have X2 := hid (hx.below (bal w2 (.cells #[.pointer (some ⟨r2, 0, none⟩)] 23))); have B2 := hid (bl3 hb (bal w2 (.cells #[.pointer (some ⟨r2, 0, none⟩)] 23))); have Z2 := hid hb.size; clear hx hb)
  go_ret
  exact ⟨w2.heap.size, r2, m2, f2, rfl, heap_alloc_new w2 _, Z2.out, X2.out, B2.out⟩
/-- The document's Join, whatever it answers. -/
theorem rjoin_both (q : Option Addr) (nn cc : Nat) (M : List Wt) (x : Wt) (w : World) (b : Nat) (h : OwnG KW w b (.slice q nn cc) M) (hb : b ≤ w.heap.size) (hl : M.length ≤ 128) (hlt : rjE M x = 0 → M.length < 128) (hs : x.tok.size ≤ maxLen) : Calls Try.prog 14 #[.agg #[.slice q nn cc], .agg #[.int .i64 x.task, .int .i64 x.kind, .string x.key, .string x.tok]] w fun e w' => ∃ q2 n2 c2, e = .returned (.tuple #[.agg #[.slice q2 n2 c2], .int .i64 (rjE M x)]) ∧ OwnG KW w' b (.slice q2 n2 c2) (if rjE M x = 0 then M ++ [x] else M) ∧ Below w.heap.size w w' := by
  by_cases h0 : rjE M x = 0
  · have h1 := h0
    unfold rjE at h1
    by_cases hc : chkE x = 0
    · rw [if_pos hc] at h1
      have hn : ∀ y ∈ M, y.task ≠ x.task := fun y hy e => by
        rw [if_pos (List.any_eq_true.2 ⟨y, hy, by simp [e]⟩)] at h1
        cases h1
      refine (rjoin_ok _ M x w (h.gs KW_ok.len) (hlt h0) hc hs hn).mono ?_
      rintro e w' ⟨v', rfl, o, hb'⟩
      obtain ⟨p, c, rfl, _⟩ := o.form
      rw [if_pos h0, h0]
      exact ⟨_, _, _, rfl, o.low hb, hb'⟩
    · rw [if_neg hc] at h1
      exact absurd h1 hc
  · refine (rjoin_no _ M x w (h.gs KW_ok.len) hl hs h0).mono ?_
    rintro e w' ⟨rfl, hb'⟩
    rw [if_neg h0]
    exact ⟨q, nn, cc, rfl, h.below hb', hb'⟩
/-- A room of the program's, and a box with the document's. -/
structure WE (w wk : World) (b r m yb : Nat) (L : List Wc) (c : Nat) (q : Option Addr) (nn cc : Nat) (M : List Wt) : Prop where
  rx : ∃ f, RX wk b r m L c f
  bl : Below w.heap.size w wk
  y : wk.heap[yb]? = some (.cells #[.slice q nn cc] 27)
  ow : OwnG KW wk w.heap.size (.slice q nn cc) M
  gb : w.heap.size ≤ b
  gy : w.heap.size < yb
  rb : wk.heap[w.heap.size]? = some (.cells #[.bool false] 4)
theorem WE.below {w wk w' : World} {b r m yb : Nat} {L : List Wc} {c : Nat} {q : Option Addr} {nn cc : Nat} {M : List Wt} (h : WE w wk b r m yb L c q nn cc M) (k : Below wk.heap.size wk w') : WE w w' b r m yb L c q nn cc M := by
  obtain ⟨⟨f, hf⟩, bl, y, ow, gb, gy, rb⟩ := h
  exact ⟨⟨f, hf.below k⟩, bl3 bl k, (k.block _ (lt_of_heap y)).trans y, ow.below k, gb, gy, (k.block _ (lt_of_heap rb)).trans rb⟩
theorem WE.turn {w wk w' : World} {b r m yb : Nat} {L L' : List Wc} {c c' : Nat} {q : Option Addr} {nn cc : Nat} {M : List Wt} (h : WE w wk b r m yb L c q nn cc M) (k : RQ b r m wk L' c' w') : WE w w' b r m yb L' c' q nn cc M :=
  ⟨k.rx, h.bl.trans (k.bl.mono h.gb), (k.kp yb _ _ h.y (by decide) (by decide)).trans h.y, h.ow.kp k.kp (by decide) (by decide), h.gb, h.gy, (k.kp _ _ _ h.rb (by decide) (by decide)).trans h.rb⟩
theorem WE.set {w wk : World} {b r m yb : Nat} {L : List Wc} {c : Nat} {q q2 : Option Addr} {nn cc n2 c2 : Nat} {M M2 : List Wt} (h : WE w wk b r m yb L c q nn cc M) (o : OwnG KW wk w.heap.size (.slice q2 n2 c2) M2) : WE w (wk.setCell ⟨yb, 0, none⟩ (.slice q2 n2 c2)) b r m yb L c q2 n2 c2 M2 := by
  obtain ⟨⟨f, hf⟩, bl, y, ow, gb, gy, rb⟩ := h
  have ne : ∀ x, x ≠ yb → (wk.setCell ⟨yb, 0, none⟩ (.slice q2 n2 c2)).heap[x]? = wk.heap[x]? := fun x hx => Below.heap_setCell _ _ _ _ hx
  exact ⟨⟨f, hf.keep fun x hx => ne x fun e => hf.notfp y (by decide) (by decide) (by rw [← e]; exact hx)⟩, bl.setCell (p := ⟨yb, 0, none⟩) (Nat.le_of_lt gy) _, heap_setCell_same wk yb 0 _ _ _ y, o.far fun g hg => ne g fun e => o.notat y (by decide) (by rw [← e]; exact hg), gb, gy, (ne _ (Nat.ne_of_lt gy)).trans rb⟩
/-- Behind Each: the room that it goes over lies apart from the one that is called. -/
structure W2E (w wk : World) (b r m yb Z Z2 B r' m' : Nat) (f' : ByteArray → Option Value) (L L2 : List Wc) (c c2 : Nat) (q : Option Addr) (nn cc : Nat) (M : List Wt) : Prop where
  rx : ∃ f, RX wk b r m L2 c2 f ∧ ∀ g, FP r m f g → g < Z ∨ Z2 ≤ g
  bl : Below w.heap.size w wk
  y : wk.heap[yb]? = some (.cells #[.slice q nn cc] 27)
  ow : OwnG KW wk w.heap.size (.slice q nn cc) M
  nw : RX wk Z r' m' L c f'
  fp : ∀ g, FP r' m' f' g → g < Z2
  bx : wk.heap[B]? = some (.cells #[.pointer (some ⟨r', 0, none⟩)] 23)
  sz : Z2 ≤ wk.heap.size
  gb : w.heap.size ≤ b
  rb : wk.heap[w.heap.size]? = some (.cells #[.bool false] 4)
theorem W2E.below {w wk w' : World} {b r m yb Z Z2 B r' m' : Nat} {f' : ByteArray → Option Value} {L L2 : List Wc} {c c2 : Nat} {q : Option Addr} {nn cc : Nat} {M : List Wt} (h : W2E w wk b r m yb Z Z2 B r' m' f' L L2 c c2 q nn cc M) (k : Below wk.heap.size wk w') : W2E w w' b r m yb Z Z2 B r' m' f' L L2 c c2 q nn cc M := by
  obtain ⟨⟨f, hf, hz⟩, bl, y, ow, nw, fp, bx, sz, gb, rb⟩ := h
  exact ⟨⟨f, hf.below k, hz⟩, bl3 bl k, (k.block _ (lt_of_heap y)).trans y, ow.below k, nw.below k, fp, (k.block _ (lt_of_heap bx)).trans bx, Nat.le_trans sz k.size, gb, (k.block _ (lt_of_heap rb)).trans rb⟩
theorem W2E.turn {w wk w' : World} {b r m yb Z Z2 B r' m' : Nat} {f' f : ByteArray → Option Value} {L L2 L3 : List Wc} {c c2 c3 : Nat} {q : Option Addr} {nn cc : Nat} {M : List Wt} (h : W2E w wk b r m yb Z Z2 B r' m' f' L L2 c c2 q nn cc M) (hf : RX wk b r m L2 c2 f) (hz : ∀ g, FP r m f g → g < Z ∨ Z2 ≤ g) (k : RR wk b r m f L3 c3 w') : W2E w w' b r m yb Z Z2 B r' m' f' L L3 c c3 q nn cc M := by
  have kq := hf.rq k
  obtain ⟨⟨f3, h3, hn⟩, bt⟩ := k
  refine ⟨⟨f3, h3, fun g hg => ?_⟩, h.bl.trans (kq.bl.mono h.gb), (kq.kp yb _ _ h.y (by decide) (by decide)).trans h.y, h.ow.kp kq.kp (by decide) (by decide), h.nw.keep fun x hx => bt.block x (h.nw.lt hx).2 fun e => ?_, h.fp, (kq.kp B _ _ h.bx (by decide) (by decide)).trans h.bx, Nat.le_trans h.sz bt.size, h.gb, (kq.kp _ _ _ h.rb (by decide) (by decide)).trans h.rb⟩
  · rcases hn g hg with e | e
    · exact hz g e
    · right
      have := h.sz
      omega
  · have h1 := (h.nw.lt hx).1
    have h2 := h.fp x hx
    rcases hz x e with q | q <;> omega
theorem WE.two {w wk w' : World} {b r m yb B r' m' : Nat} {L : List Wc} {c : Nat} {q : Option Addr} {nn cc : Nat} {M : List Wt} {f' : ByteArray → Option Value} (h : WE w wk b r m yb L c q nn cc M) (hb : w'.heap[B]? = some (.cells #[.pointer (some ⟨r', 0, none⟩)] 23)) (hx : RX w' wk.heap.size r' m' L c f') (k : Below wk.heap.size wk w') : W2E w w' b r m yb wk.heap.size w'.heap.size B r' m' f' L L c c q nn cc M := by
  obtain ⟨⟨f, hf⟩, bl, y, ow, gb, gy, rb⟩ := h
  exact ⟨⟨f, hf.below k, fun g hg => Or.inl (hf.lt hg).2⟩, bl3 bl k, (k.block _ (lt_of_heap y)).trans y, ow.below k, hx, fun g hg => (hx.lt hg).2, hb, Nat.le_refl _, gb, (k.block _ (lt_of_heap rb)).trans rb⟩
/-- The keys of both sides are the same. -/
theorem keys_same {L : List Wc} {T : List ByteArray} (h : Srt T (inB ((wL L).map fun x => x.key))) : Srt T (fun s => !(qK L s).isEmpty) := by
  refine ⟨h.up, fun s => (h.mem s).trans ?_⟩
  rw [inB_iff, Bool.not_eq_true', List.isEmpty_eq_false_iff]
  unfold wL
  constructor
  · intro hk hq
    obtain ⟨x, hx, e⟩ := List.mem_map.1 hk
    obtain ⟨y, hy, rfl⟩ := List.mem_map.1 hx
    have : y ∈ qK L s := qK_mem.2 ⟨hy, e⟩
    rw [hq] at this
    cases this
  · intro hq
    obtain ⟨y, hy⟩ := List.exists_mem_of_ne_nil _ hq
    obtain ⟨h1, h2⟩ := qK_mem.1 hy
    exact List.mem_map.2 ⟨y.w, List.mem_map.2 ⟨y, h1, rfl⟩, h2⟩
end Go.Proofs.Ytofdfofpdfaimaa
