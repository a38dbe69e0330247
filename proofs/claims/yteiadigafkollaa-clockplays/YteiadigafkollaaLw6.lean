/- A clock of the law's own, behind some calls; the calls' contracts in these words. -/
import Derived.Test.YteiadigafkollaaLw5
import Derived.Test.YteiadigafkollaaPl4
namespace Go.Proofs.Yteiadigafkollaa
open Go.RowKit Go.Sort Go.Shelf

structure ST (w0 w : World) (b : Nat) (xo : Option Nat) (now given : Int) (L : List Tm) : Prop where
  cl : CL w b xo now given L
  hb : w0.heap.size ≤ b
  hx : ∀ X, xo = some X → w0.heap.size ≤ X
  bl : Below w0.heap.size w0 w
theorem ST.ok {w0 w : World} {b : Nat} {xo : Option Nat} {now given : Int} {L : List Tm} (h : ST w0 w b xo now given L) : Ok now given L := h.cl.ok
theorem ST.below {w0 w w' : World} {b : Nat} {xo : Option Nat} {now given : Int} {L : List Tm} (h : ST w0 w b xo now given L) (k : Below w.heap.size w w') : ST w0 w' b xo now given L :=
  ⟨h.cl.below k, h.hb, h.hx, h.bl.trans (k.mono h.bl.size)⟩
theorem ST.kc {w0 w w' : World} {b : Nat} {xo xo' : Option Nat} {now given now' given' : Int} {L L' : List Tm} (h : ST w0 w b xo now given L) (k : KC b xo w w') (n : NX w xo xo') (c : CL w' b xo' now' given' L') : ST w0 w' b xo' now' given' L' := by
  refine ⟨c, h.hb, ?_, h.bl.trans (k.below h.bl.size h.hb h.hx)⟩
  intro X e
  rcases n with rfl | ⟨g, rfl, hg⟩
  · exact h.hx X e
  · injection e with e; have := h.bl.size; omega
theorem ArgC.below {w w' : World} {p : Option Addr} {cs : List (Int × Int × Int)} (h : ArgC w p cs) (k : Below w.heap.size w w') : ArgC w' p cs := by
  intro i hi
  obtain ⟨X, o, hp, hX, c1, c2, c3⟩ := h i hi
  exact ⟨X, o, hp, Nat.lt_of_lt_of_le hX k.size, (k.cell (p := ⟨X, _, none⟩) hX).trans c1, (k.cell (p := ⟨X, _, none⟩) hX).trans c2, (k.cell (p := ⟨X, _, none⟩) hX).trans c3⟩
theorem PR.st {w w1 w2 : World} {b : Nat} {m : Int} (h : PR w1 w2 b m) (k : Below w.heap.size w w1) : ∃ xo now given L, ST w w2 b xo now given L ∧ given ≤ m := by
  obtain ⟨xo, now, given, L, hc, hb, hx, hB, hg⟩ := h
  have := k.size
  exact ⟨xo, now, given, L, ⟨hc, by omega, fun X e => by have := hx X e; omega, k.trans (hB.mono k.size)⟩, hg⟩
theorem FS.below {w w' : World} {v : Value} {l : List (Int × Int)} (h : FS w v l) (k : Below w.heap.size w w') : FS w' v l := by
  obtain ⟨p, cap, hv, hc⟩ := h
  refine ⟨p, cap, hv, fun i hi => ?_⟩
  obtain ⟨X, hp, c1, c2⟩ := hc i hi
  have hX : X < w.heap.size := block_lt_of_cell c1
  exact ⟨X, hp, (k.cell (p := ⟨X, _, none⟩) hX).trans c1, (k.cell (p := ⟨X, _, none⟩) hX).trans c2⟩
theorem TS.below {w w' : World} {v : Value} {l : List Tm} (h : TS w v l) (k : Below w.heap.size w w') : TS w' v l := by
  obtain ⟨p, cap, hv, hc⟩ := h
  refine ⟨p, cap, hv, fun i hi => ?_⟩
  obtain ⟨X, hp, c1, c2, c3⟩ := hc i hi
  have hX : X < w.heap.size := block_lt_of_cell c1
  exact ⟨X, hp, (k.cell (p := ⟨X, _, none⟩) hX).trans c1, (k.cell (p := ⟨X, _, none⟩) hX).trans c2, (k.cell (p := ⟨X, _, none⟩) hX).trans c3⟩
theorem FS.nil (w : World) : FS w (.slice none 0 0) [] := ⟨none, 0, rfl, fun k hk => by simp at hk⟩
theorem now_st {w0 w : World} {b : Nat} {xo : Option Nat} {now given : Int} {L : List Tm} (h : ST w0 w b xo now given L) : Calls Try.prog 17 #[.pointer (some ⟨b, 0, none⟩)] w fun e w' => e = .returned (.int .i64 now) ∧ w' = w := now_cl h.cl
theorem next_st {w0 w : World} {b : Nat} {xo : Option Nat} {now given : Int} {L : List Tm} (h : ST w0 w b xo now given L) : Calls Try.prog 20 #[.pointer (some ⟨b, 0, none⟩)] w fun e w' => e = .returned (.tuple (nextV L)) ∧ w' = w := next_any w b xo now given L h.cl
theorem pending_st {w0 w : World} {b : Nat} {xo : Option Nat} {now given : Int} {L : List Tm} (h : ST w0 w b xo now given L) : Calls Try.prog 19 #[.pointer (some ⟨b, 0, none⟩)] w fun e w' => ∃ p cap, e = .returned (.slice p L.length cap) ∧ TS w' (.slice p L.length cap) L ∧ Below w.heap.size w w' :=
  (pending_any w b xo now given L h.cl).mono fun e w' ⟨v, he, hp, hb⟩ => by
    have ht := hp.ts
    obtain ⟨p, cap, hv, _⟩ := ht
    subst hv
    exact ⟨p, cap, he, hp.ts, hb⟩
theorem after_full {w0 w : World} {b : Nat} {xo : Option Nat} {now given : Int} {L : List Tm} (h : ST w0 w b xo now given L) (hg : given ≤ 1000000000000000000) (x : Int) (hx : 0 ≤ x ∧ x ≤ 1099511627776 - now) (hl : 1024 ≤ L.length) :
    Calls Try.prog 21 #[.pointer (some ⟨b, 0, none⟩), .int .i64 x] w fun e w' => e = .returned (.tuple #[.int .i64 0, .int .i64 3]) ∧ ∃ xo', ST w0 w' b xo' now given L :=
  (after_any w b xo now given L h.cl hg x).mono fun e w' hr => by
    rw [if_pos hx] at hr
    obtain ⟨xo', g', L', h1, h2, h3, ⟨_, he, rfl, rfl⟩ | ⟨h4, _⟩⟩ := hr
    · exact ⟨he, xo', h.kc h3 h1 h2⟩
    · omega
theorem after_ok {w0 w : World} {b : Nat} {xo : Option Nat} {now given : Int} {L : List Tm} (h : ST w0 w b xo now given L) (hg : given ≤ 1000000000000000000) (x : Int) (hx : 0 ≤ x ∧ x ≤ 1099511627776 - now) (hl : L.length < 1024) :
    Calls Try.prog 21 #[.pointer (some ⟨b, 0, none⟩), .int .i64 x] w fun e w' => e = .returned (.tuple #[.int .i64 (given + 1), .int .i64 0]) ∧ ∃ xo', ST w0 w' b xo' now (given + 1) (ins ⟨given + 1, now + x, 0⟩ L) :=
  (after_any w b xo now given L h.cl hg x).mono fun e w' hr => by
    rw [if_pos hx] at hr
    obtain ⟨xo', g', L', h1, h2, h3, ⟨h4, _⟩ | ⟨_, he, rfl, rfl⟩⟩ := hr
    · omega
    · exact ⟨he, xo', h.kc h3 h1 h2⟩
theorem stop_ok {w0 w : World} {b : Nat} {xo : Option Nat} {now given : Int} {L : List Tm} (h : ST w0 w b xo now given L) (n : Int) (hn : ∃ t ∈ L, t.num = n) :
    Calls Try.prog 22 #[.pointer (some ⟨b, 0, none⟩), .int .i64 n] w fun e w' => e = .returned (.int .i64 0) ∧ ST w0 w' b xo now given (del n L) :=
  (stop_any w b xo now given L h.cl n).mono fun e w' ⟨k, hr⟩ => by
    rcases hr with ⟨h1, _⟩ | ⟨_, he, hc⟩
    · obtain ⟨t, ht, e⟩ := hn; exact absurd e (h1 t ht)
    · exact ⟨he, h.kc k (NX.refl _ _) hc⟩
theorem stop_no {w0 w : World} {b : Nat} {xo : Option Nat} {now given : Int} {L : List Tm} (h : ST w0 w b xo now given L) (n : Int) (hn : ∀ t ∈ L, t.num ≠ n) :
    Calls Try.prog 22 #[.pointer (some ⟨b, 0, none⟩), .int .i64 n] w fun e w' => e = .returned (.int .i64 4) ∧ ST w0 w' b xo now given L :=
  (stop_any w b xo now given L h.cl n).mono fun e w' ⟨k, hr⟩ => by
    rcases hr with ⟨_, he, hc⟩ | ⟨⟨t, ht, e⟩, _⟩
    · exact ⟨he, h.kc k (NX.refl _ _) hc⟩
    · exact absurd e (hn t ht)
theorem move_no {w0 w : World} {b : Nat} {xo : Option Nat} {now given : Int} {L : List Tm} (h : ST w0 w b xo now given L) (n x : Int) (hn : ∀ t ∈ L, t.num ≠ n) :
    Calls Try.prog 23 #[.pointer (some ⟨b, 0, none⟩), .int .i64 n, .int .i64 x] w fun e w' => e = .returned (.int .i64 4) ∧ ST w0 w' b xo now given L :=
  (move_any w b xo now given L h.cl n x).mono fun e w' ⟨k, hr⟩ => by
    rcases hr with ⟨_, he, hc⟩ | ⟨⟨t, ht, e⟩, _⟩ | ⟨_, _, t, ht, e, _⟩
    · exact ⟨he, h.kc k (NX.refl _ _) hc⟩
    · exact absurd e (hn t ht)
    · exact absurd e (hn t ht)
/-- Advance: refused for its range; too much; what is told. -/
theorem adv_range {w0 w : World} {b : Nat} {xo : Option Nat} {now given : Int} {L : List Tm} (h : ST w0 w b xo now given L) (x : Int) (hx : ¬ (0 ≤ x ∧ x ≤ 1099511627776 - now)) :
    Calls Try.prog 15 #[.pointer (some ⟨b, 0, none⟩), .int .i64 x] w fun e w' => e = .returned (.tuple #[.slice none 0 0, .int .i64 1]) ∧ ST w0 w' b xo now given L ∧ KC b xo w w' :=
  (advance_any w b xo now given L h.cl x).mono fun e w' ⟨k, hr⟩ => by
    rcases hr with ⟨_, he, hc⟩ | ⟨hh, _⟩ | ⟨hh, _⟩
    · exact ⟨he, h.kc k (NX.refl _ _) hc, k⟩
    · exact absurd hh hx
    · exact absurd hh hx
theorem adv_long {w0 w : World} {b : Nat} {xo : Option Nat} {now given : Int} {L : List Tm} (h : ST w0 w b xo now given L) (x : Int) (hx : 0 ≤ x ∧ x ≤ 1099511627776 - now) (hd : 4096 < dueL (now + x) L) :
    Calls Try.prog 15 #[.pointer (some ⟨b, 0, none⟩), .int .i64 x] w fun e w' => e = .returned (.tuple #[.slice none 0 0, .int .i64 3]) ∧ ST w0 w' b xo now given L ∧ KC b xo w w' :=
  (advance_any w b xo now given L h.cl x).mono fun e w' ⟨k, hr⟩ => by
    rcases hr with ⟨hh, _⟩ | ⟨_, _, he, hc⟩ | ⟨_, n, v, hn, hn4, _⟩
    · exact absurd hx hh
    · exact ⟨he, h.kc k (NX.refl _ _) hc, k⟩
    · omega
theorem adv_ok {w0 w : World} {b : Nat} {xo : Option Nat} {now given : Int} {L : List Tm} (h : ST w0 w b xo now given L) (x : Int) (hx : 0 ≤ x ∧ x ≤ 1099511627776 - now) (n : Nat) (hd : (n : Int) = dueL (now + x) L) (hn : n ≤ 4096) :
    Calls Try.prog 15 #[.pointer (some ⟨b, 0, none⟩), .int .i64 x] w fun e w' => ∃ p cap, e = .returned (.tuple #[.slice p n cap, .int .i64 0]) ∧ FS w' (.slice p n cap) (told n L) ∧ OwnF w' w.heap.size (.slice p n cap) (told n L) ∧ ST w0 w' b xo (now + x) given (it n L) ∧ KC b xo w w' :=
  (advance_any w b xo now given L h.cl x).mono fun e w' ⟨k, hr⟩ => by
    rcases hr with ⟨hh, _⟩ | ⟨_, h4, _⟩ | ⟨_, m, v, hm, hm4, he, ho, hc⟩
    · exact absurd hx hh
    · omega
    · have e1 : m = n := by omega
      subst e1
      have hf := ho.fs
      obtain ⟨p, cap, hv, _⟩ := hf
      rw [told_len] at hv
      subst hv
      exact ⟨p, cap, he, ho.fs, ho, h.kc k (NX.refl _ _) hc, k⟩
end Go.Proofs.Yteiadigafkollaa
