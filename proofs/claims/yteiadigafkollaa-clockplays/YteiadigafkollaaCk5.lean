/- The clock's calls that set a timer. -/
import Derived.Test.YteiadigafkollaaCk4
namespace Go.Proofs.Yteiadigafkollaa
open Go.RowKit Go.Sort Go.Shelf

/-- What holds of a clock's numbers. -/
structure Ok (now given : Int) (L : List Tm) : Prop where
  srt : Srt L
  rng : ∀ t ∈ L, 1 ≤ t.num ∧ t.num ≤ given ∧ now ≤ t.tm ∧ t.tm ≤ 1099511627776 ∧ 0 ≤ t.ev ∧ t.ev ≤ 1099511627776
  len : L.length ≤ 1024
  now0 : 0 ≤ now ∧ now ≤ 1099511627776
  giv : 0 ≤ given
/-- The clock at block b holds these timers, in order. -/
def CL (w : World) (b : Nat) (xo : Option Nat) (now given : Int) (L : List Tm) : Prop := ∃ d, CK w b xo now given d ∧ d.toList.Perm L ∧ Heap tlt d.size d ∧ Ok now given L
theorem CL.below {w w' : World} {b : Nat} {xo : Option Nat} {now given : Int} {L : List Tm} (h : CL w b xo now given L) (k : Below w.heap.size w w') : CL w' b xo now given L := by
  obtain ⟨d, h1, h2⟩ := h; exact ⟨d, h1.below k, h2⟩
theorem CL.keep {w w' : World} {b : Nat} {xo : Option Nat} {now given : Int} {L : List Tm} (h : CL w b xo now given L) (hs : w.heap.size ≤ w'.heap.size) (hb : w'.heap[b]? = w.heap[b]?) (hx : ∀ X, xo = some X → w'.heap[X]? = w.heap[X]?) : CL w' b xo now given L := by
  obtain ⟨d, h1, h2⟩ := h; exact ⟨d, h1.keep hs hb hx, h2⟩
theorem CL.ok {w : World} {b : Nat} {xo : Option Nat} {now given : Int} {L : List Tm} (h : CL w b xo now given L) : Ok now given L := by obtain ⟨_, _, _, _, h⟩ := h; exact h
theorem CL.lt {w : World} {b : Nat} {xo : Option Nat} {now given : Int} {L : List Tm} (h : CL w b xo now given L) : b < w.heap.size := by obtain ⟨_, h, _⟩ := h; exact h.lt
theorem CL.xlt {w : World} {b X : Nat} {now given : Int} {L : List Tm} (h : CL w b (some X) now given L) : X < w.heap.size ∧ b ≠ X := by
  obtain ⟨_, h, _⟩ := h
  rcases h.q with ⟨X', cap, e, q⟩ | ⟨e, _⟩
  · injection e with e; subst e; exact ⟨q.row.lt, q.ne⟩
  · cases e
theorem Ok.ins {now given : Int} {L : List Tm} (h : Ok now given L) (t : Tm) (hn : t.num = given + 1) (h1 : now ≤ t.tm ∧ t.tm ≤ 1099511627776) (h2 : 0 ≤ t.ev ∧ t.ev ≤ 1099511627776) (hl : L.length < 1024) : Ok now (given + 1) (ins t L) := by
  refine ⟨h.srt.ins (fun x hx e => by have := h.rng x hx; omega), fun x hx => ?_, by rw [ins_len]; omega, h.now0, by have := h.giv; omega⟩
  have g := h.giv
  rcases mem_ins.1 hx with rfl | hx
  · omega
  · have := h.rng x hx; omega
theorem CK.giv {w : World} {b : Nat} {xo : Option Nat} {now given : Int} {d : Array Tm} (h : CK w b xo now given d) (g : Int) : CK (w.setCell ⟨b, 1, none⟩ (.int .i64 g)) b xo now g d ∧ KC b xo w (w.setCell ⟨b, 1, none⟩ (.int .i64 g)) := by
  have b1 : ∀ k, k ≠ b → (w.setCell ⟨b, 1, none⟩ (.int .i64 g)).heap[k]? = w.heap[k]? := fun k hk => Below.heap_setCell _ _ _ _ hk
  refine ⟨⟨?_, head_set h.c1, fun o => by rw [World.frozen?_setCell]; exact h.fr o, by simpa [World.setCell] using h.lt, ?_⟩, ⟨rfl, rfl, rfl, by simp [World.setCell], fun k _ hk _ => b1 k hk⟩⟩
  · rw [other_set (by decide)]; exact h.c0
  · rcases h.q with ⟨X, cap, e, q⟩ | ⟨e, hd, hc⟩
    · refine Or.inl ⟨X, cap, e, ⟨?_, ?_, q.row.keep (b1 X (fun e => q.ne e.symm)), q.ne, by simpa [World.setCell] using q.lt⟩⟩
      · rw [other_set (by decide)]; exact q.head
      · rw [World.frozen?_setCell]; exact q.free
    · refine Or.inr ⟨e, hd, ?_⟩
      rw [other_set (by decide)]; exact hc
theorem CK.drew {w : World} {b : Nat} {xo : Option Nat} {now given : Int} {d : Array Tm} (h : CK w b xo now given d) : CK w.drew b xo now given d := h.keep (Nat.le_refl _) rfl (fun _ _ => rfl)
/-- add, whatever the clock's row. -/
theorem ck_add {w : World} {b : Nat} {xo : Option Nat} {now given : Int} {d : Array Tm} (h : CK w b xo now given d) (t : Tm) (hl : d.size ≤ 100000) :
    Calls Try.prog 49 #[.pointer (some ⟨b, 2, none⟩), .agg #[.int .i64 t.num, .int .i64 t.tm, .int .i64 t.ev]] w fun e w' => e = .returned (.tuple #[]) ∧ ∃ xo', NX w xo xo' ∧ CK w' b xo' now given (hUp tlt d.size (d.push t)) ∧ KC b xo w w' := by
  rcases h.q with ⟨X, cap, e, q⟩ | ⟨e, hd, hc⟩
  · subst e
    refine (qadd_any w b 2 X d _ q.head q.free h.lt q.ne (Nat.le_of_lt q.row.lt) (Or.inl ⟨cap, rfl, q.row⟩) t hl).mono ?_
    rintro e w' ⟨he, g, c, hq, hg, hk⟩
    refine ⟨he, some g, ?_, h.of_q hq hk, KC.of_q hk⟩
    rcases hg with rfl | hg
    · exact Or.inl rfl
    · exact Or.inr ⟨g, rfl, hg⟩
  · subst e
    refine (qadd_any w b 2 w.heap.size d _ hc (h.fr 2) h.lt (by have := h.lt; omega) (Nat.le_refl _) (Or.inr ⟨hd, none, rfl⟩) t hl).mono ?_
    rintro e w' ⟨he, g, c, hq, hg, hk⟩
    refine ⟨he, some g, Or.inr ⟨g, rfl, by omega⟩, h.of_q hq hk, ⟨hk.os, hk.tape, hk.output, hk.size, fun k h1 h2 _ => hk.block k h1 h2 (by omega)⟩⟩
def SetR (w w' : World) (b : Nat) (xo : Option Nat) (now given at' ev : Int) (L : List Tm) (e : Ending) : Prop :=
  ∃ xo' given' L', NX w xo xo' ∧ CL w' b xo' now given' L' ∧ KC b xo w w' ∧
    ((1024 ≤ L.length ∧ e = .returned (.tuple #[.int .i64 0, .int .i64 3]) ∧ given' = given ∧ L' = L) ∨ (L.length < 1024 ∧ e = .returned (.tuple #[.int .i64 (given + 1), .int .i64 0]) ∧ given' = given + 1 ∧ L' = ins ⟨given + 1, at', ev⟩ L))
set_option maxHeartbeats 4000000 in
set_option maxRecDepth 100000 in
theorem set_any (w : World) (b : Nat) (xo : Option Nat) (now given : Int) (L : List Tm) (h : CL w b xo now given L) (hg : given ≤ 1000000000000000000) (at' ev : Int) (h1 : now ≤ at' ∧ at' ≤ 1099511627776) (h2 : 0 ≤ ev ∧ ev ≤ 1099511627776) :
    Calls Try.prog 38 #[.pointer (some ⟨b, 0, none⟩), .int .i64 at', .int .i64 ev] w fun e w' => SetR w w' b xo now given at' ev L e := by
  obtain ⟨d, hk, hp, hh, ho⟩ := h
  have hsz : d.size = L.length := by have := hp.length_eq; simpa using this
  obtain ⟨v, hv, hsl⟩ := hk.sl
  obtain ⟨p, cap, rfl, _, _⟩ := hsl.form
  have c1 := hk.c1
  have fr := hk.fr
  have g0 := ho.giv
  by_cases hf : 1024 ≤ L.length
  · have hf2 : (1024 : Int) ≤ (d.size : Int) := by omega
    have FIN : Hid (SetR w w b xo now given at' ev L (.returned (.tuple #[.int .i64 0, .int .i64 3]))) := ⟨xo, given, L, NX.refl _ _, ⟨d, hk, hp, hh, ho⟩, KC.refl _ _ _, Or.inl ⟨hf, rfl, rfl, rfl⟩⟩
    clear hk hsl
    go_enter Try.func38, Try.ntmps38
    go_wp2
    go_ret2
    exact FIN.out
  · have hf2 : ¬ (1024 : Int) ≤ (d.size : Int) := by omega
    obtain ⟨k2, f2⟩ := hk.giv (given + 1)
    have c1' := k2.c1
    have hv' : (w.setCell ⟨b, 1, none⟩ (.int .i64 (given + 1))).cell? ⟨b, 2, none⟩ = some (.slice p d.size cap) := by rw [other_set (by decide)]; exact hv
    have A := ck_add k2.drew ⟨given + 1, at', ev⟩ (by omega)
    have FIN : Hid (∀ w' xo', NX (w.setCell ⟨b, 1, none⟩ (.int .i64 (given + 1))).drew xo xo' → CK w' b xo' now (given + 1) (hUp tlt d.size (d.push ⟨given + 1, at', ev⟩)) → KC b xo (w.setCell ⟨b, 1, none⟩ (.int .i64 (given + 1))).drew w' → w'.cell? ⟨b, 1, none⟩ = some (.int .i64 (given + 1)) ∧ SetR w w' b xo now given at' ev L (.returned (.tuple #[.int .i64 (given + 1), .int .i64 0]))) := by
      intro w' xo' hn hck hkc
      have ok := add_ok hh ⟨given + 1, at', ev⟩
      have hs : w.heap.size = ((w.setCell ⟨b, 1, none⟩ (.int .i64 (given + 1))).drew).heap.size := by simp [World.setCell]
      refine ⟨hck.c1, xo', given + 1, _, ?_, ⟨_, hck, ok.2.trans ((hp.cons _).trans (ins_perm _ _).symm), ok.1, ho.ins _ rfl h1 h2 (by omega)⟩, ?_, Or.inr ⟨by omega, rfl, rfl, rfl⟩⟩
      · rcases hn with hn | ⟨g, e, hg⟩
        · exact Or.inl hn
        · exact Or.inr ⟨g, e, by omega⟩
      · exact KC.trans (xo' := xo) (v := (w.setCell ⟨b, 1, none⟩ (.int .i64 (given + 1))).drew) ⟨f2.os, f2.tape, f2.output, f2.size, f2.block⟩ hkc (NX.refl _ _)
    clear hk hsl k2 f2
    go_enter Try.func38, Try.ntmps38
    go_wp2
    go_region_with (go_at_call 49; refine A.mono ?_; rintro e w' ⟨rfl, xo', hn, hck, hkc⟩)
    all_goals
      have e1 := (FIN.out _ _ hn hck hkc).1
      go_wp2
      go_ret2
      exact (FIN.out _ _ hn hck hkc).2
/-- A call that was refused for its range. -/
theorem at_any (w : World) (b : Nat) (xo : Option Nat) (now given : Int) (L : List Tm) (h : CL w b xo now given L) (hg : given ≤ 1000000000000000000) (at' : Int) :
    Calls Try.prog 24 #[.pointer (some ⟨b, 0, none⟩), .int .i64 at'] w fun e w' => if now ≤ at' ∧ at' ≤ 1099511627776 then SetR w w' b xo now given at' 0 L e else e = .returned (.tuple #[.int .i64 0, .int .i64 1]) ∧ w' = w := by
  obtain ⟨d, hk, hp, hh, ho⟩ := h
  have I := isAhead_any w b xo now given d hk at'
  by_cases hr : now ≤ at' ∧ at' ≤ 1099511627776
  · have S := set_any w b xo now given L ⟨d, hk, hp, hh, ho⟩ hg at' 0 hr (by omega)
    rw [decide_eq_true hr] at I
    simp only [if_pos hr]
    clear hk ho hr
    go_enter Try.func24, Try.ntmps24
    go_wp2_with (go_at_call 41; refine I.mono ?_; rintro e w' ⟨rfl, rfl⟩)
    refine S.mono ?_
    rintro e w' ⟨xo', g', L', h1, h2, h3, ⟨h4, rfl, h5⟩ | ⟨h4, rfl, h5⟩⟩
    · have F : Hid (SetR _ w' b xo now given at' 0 L (.returned (.tuple #[.int .i64 0, .int .i64 3]))) := ⟨xo', g', L', h1, h2, h3, Or.inl ⟨h4, rfl, h5⟩⟩
      clear h1 h2 h3 h5
      go_wp2
      go_ret2
      exact F.out
    · have F : Hid (SetR _ w' b xo now given at' 0 L (.returned (.tuple #[.int .i64 (given + 1), .int .i64 0]))) := ⟨xo', g', L', h1, h2, h3, Or.inr ⟨h4, rfl, h5⟩⟩
      clear h1 h2 h3 h5
      go_wp2
      go_ret2
      exact F.out
  · rw [decide_eq_false hr] at I
    simp only [if_neg hr]
    clear hk ho hr
    go_enter Try.func24, Try.ntmps24
    go_wp2_with (go_at_call 41; refine I.mono ?_; rintro e w' ⟨rfl, rfl⟩)
    go_ret2
    exact ⟨rfl, rfl⟩
end Go.Proofs.Yteiadigafkollaa
