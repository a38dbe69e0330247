/- The clock's Advance. -/
import Derived.Test.YteiadigafkollaaCk10
namespace Go.Proofs.Yteiadigafkollaa
open Go.RowKit Go.Sort Go.Shelf

theorem CL.base {w w' : World} {base b : Nat} {xo : Option Nat} {now given : Int} {L : List Tm} (h : CL w b xo now given L) (hb : b < base) (hx : ∀ X, xo = some X → X < base) (k : Below base w w') : CL w' b xo now given L :=
  h.keep k.size (k.block b hb) (fun X e => k.block X (hx X e))
theorem KC.then {w w1 w2 : World} {b : Nat} {xo : Option Nat} (h : KC b xo w w1) (k : Below w.heap.size w1 w2) : KC b xo w w2 :=
  ⟨k.os.trans h.os, k.tape.trans h.tape, k.output.trans h.output, Nat.le_trans h.size k.size, fun i hi h1 h2 => (k.block i hi).trans (h.block i hi h1 h2)⟩
theorem CK.tick {w : World} {b : Nat} {xo : Option Nat} {now given : Int} {d : Array Tm} (h : CK w b xo now given d) (u : Int) : CK (w.setCell ⟨b, 0, none⟩ (.int .i64 u)) b xo u given d ∧ KC b xo w (w.setCell ⟨b, 0, none⟩ (.int .i64 u)) := by
  have b1 : ∀ k, k ≠ b → (w.setCell ⟨b, 0, none⟩ (.int .i64 u)).heap[k]? = w.heap[k]? := fun k hk => Below.heap_setCell _ _ _ _ hk
  refine ⟨⟨head_set h.c0, ?_, fun o => by rw [World.frozen?_setCell]; exact h.fr o, by simpa [World.setCell] using h.lt, ?_⟩, ⟨rfl, rfl, rfl, by simp [World.setCell], fun k _ hk _ => b1 k hk⟩⟩
  · rw [other_set (by decide)]; exact h.c1
  · rcases h.q with ⟨X, cap, e, q⟩ | ⟨e, hd, hc⟩
    · refine Or.inl ⟨X, cap, e, ⟨?_, ?_, q.row.keep (b1 X (fun e => q.ne e.symm)), q.ne, by simpa [World.setCell] using q.lt⟩⟩
      · rw [other_set (by decide)]; exact q.head
      · rw [World.frozen?_setCell]; exact q.free
    · refine Or.inr ⟨e, hd, ?_⟩
      rw [other_set (by decide)]; exact hc
def AdvR (w w' : World) (b : Nat) (xo : Option Nat) (now given x : Int) (L : List Tm) (e : Ending) : Prop :=
  KC b xo w w' ∧ ((¬ (0 ≤ x ∧ x ≤ 1099511627776 - now) ∧ e = .returned (.tuple #[.slice none 0 0, .int .i64 1]) ∧ CL w' b xo now given L) ∨
    ((0 ≤ x ∧ x ≤ 1099511627776 - now) ∧ 4096 < dueL (now + x) L ∧ e = .returned (.tuple #[.slice none 0 0, .int .i64 3]) ∧ CL w' b xo now given L) ∨
    ((0 ≤ x ∧ x ≤ 1099511627776 - now) ∧ ∃ (n : Nat) (v : Value), (n : Int) = dueL (now + x) L ∧ n ≤ 4096 ∧ e = .returned (.tuple #[v, .int .i64 0]) ∧ OwnF w' w.heap.size v (told n L) ∧ CL w' b xo (now + x) given (it n L)))
set_option maxHeartbeats 8000000 in
set_option maxRecDepth 100000 in
theorem advance_any (w : World) (b : Nat) (xo : Option Nat) (now given : Int) (L : List Tm) (h : CL w b xo now given L) (x : Int) :
    Calls Try.prog 15 #[.pointer (some ⟨b, 0, none⟩), .int .i64 x] w fun e w' => AdvR w w' b xo now given x L e := by
  have HC : Hid (CL w b xo now given L) := h
  obtain ⟨d, hk, hp, hh, ho⟩ := h
  obtain ⟨n1, n2⟩ := ho.now0
  have I := mayPass_any w b xo now given d hk ho.now0 x
  have c0 := hk.c0
  obtain ⟨v, hv, hsl⟩ := hk.sl
  have hbl := hk.lt
  by_cases hr : 0 ≤ x ∧ x ≤ 1099511627776 - now
  · rw [decide_eq_true hr] at I
    have hev : ∀ t ∈ d.toList, (0 ≤ t.tm ∧ t.tm ≤ 1099511627776) ∧ 0 ≤ t.ev := fun t ht => by have := ho.rng t (hp.mem_iff.1 ht); omega
    have D := due_any w v d hsl (now + x) (by omega) (by omega) hev
    have sp := dueGo_spec (now + x) d.toList 0 (fun t ht => (hev t ht).2)
    rw [due_perm hp, Int.zero_add] at sp
    have HR : Hid _ := hr
    obtain ⟨hr1, hr2⟩ := hr
    by_cases hbig : 4096 < dueL (now + x) L
    · have hg := sp.2 hbig
      have FIN : Hid (∀ w', Below w.heap.size w w' → AdvR w w' b xo now given x L (.returned (.tuple #[.slice none 0 0, .int .i64 3]))) := fun w' hb => ⟨KC.of_below hb, Or.inr (Or.inl ⟨HR.out, hbig, rfl, HC.out.below hb⟩)⟩
      generalize dueGo (now + x) d.toList 0 = g at *
      clear hk hsl sp hbig hev
      go_enter Try.func15, Try.ntmps15
      go_wp2_with (first | (go_at_call 34; refine I.mono ?_; rintro e w' ⟨rfl, rfl⟩) | (go_at_call 35; refine D.mono ?_; rintro e w1 ⟨rfl, hb⟩))
      go_ret2
      exact FIN.out _ hb
    · rw [sp.1 (by omega)] at D
      have hnn := due_nn (now + x) L (fun t ht => (ho.rng t ht).2.2.2.2.1)
      obtain ⟨n, hn⟩ : ∃ n : Nat, (n : Int) = dueL (now + x) L := ⟨(dueL (now + x) L).toNat, by omega⟩
      rw [← hn] at D
      have hn4 : n ≤ 4096 := by omega
      have hn4z : ¬ (4096 : Int) < (n : Int) := by omega
      have HN : Hid ((n : Int) = dueL (now + x) L) := hn
      have HO : Hid (Ok now given L) := ho
      have hxb : ∀ X, xo = some X → X < w.heap.size := fun X e => by subst e; exact HC.out.xlt.1
      have HX : Hid _ := hxb
      clear hk hsl sp hbig hev hn hnn ho hxb
      go_enter Try.func15, Try.ntmps15
      go_wp2_with (first | (go_at_call 34; refine I.mono ?_; rintro e w0 ⟨rfl, hw0⟩; obtain rfl : w = w0 := hw0.symm) | (go_at_call 35; refine D.mono ?_; rintro e w1 ⟨rfl, hb⟩) | (at_make; refine make_fi _ rfl _ _ 37 rfl Try.underlying37 info_fi w.heap.size n rfl rfl (by omega) hb.size ?_; intro v2 w2 hf2 hb2))
      have HF2 : Hid (OwnF w2 w.heap.size v2 (told 0 L)) := hf2
      have HB2 : Hid (Below w.heap.size w w2) := hb.trans (hb2.mono hb.size)
      have HC2 : Hid (CL w2 b xo now given (it 0 L)) := HC.out.below HB2.out
      clear hf2 hb hb2 D I
      go_loopw [8, 30] (fun v8 v30 wr => ∃ (k : Nat) (vt : Value) (wk : World), v30 = .int .i64 k ∧ vt = v8 ∧ wk = wr ∧ k ≤ n ∧ Hid (OwnF wk w.heap.size vt (told k L)) ∧ Hid (CL wk b xo now given (it k L)) ∧ Hid (KC b xo w wk)) (fun _ v30 _ => n - (intOf v30).toNat)
      case atStart => exact ⟨0, _, _, rfl, rfl, rfl, Nat.zero_le _, HF2, HC2, KC.of_below HB2.out⟩
      case round =>
        obtain ⟨k, v8, wr, rfl, rfl, rfl, hkn, HF, HL, HK⟩ := hrel
        clear HF2 HB2 HC2
        by_cases hlt : k < n
        · obtain ⟨t, r, hit, htu, hok⟩ := it_cons HO.out (show now + x ≤ 1099511627776 by omega) (k := k) (by rw [← HN.out]; omega)
          have HI : Hid (it (k + 1) L = stepL t r ∧ hd (it k L) = (t.num, t.tm)) := ⟨it_succ hit, by rw [hit]; rfl⟩
          have FR := fire_any wr b xo now given t r (by rw [← hit]; exact HL.out)
          have hl1 : (told k L).length ≤ 100000 := by rw [told_len]; omega
          have hl2 : Hid ((told k L).length ≤ 100000) := hl1
          clear hit htu hok hl1 HL
          go_wp2_with (first | (go_at_call 36; refine FR.mono ?_; rintro e w3 ⟨rfl, hcl, hkc⟩; have HF3 : Hid (OwnF w3 w.heap.size v8 (told k L)) := HF.out.kc hbl HX.out hkc; have HZ : Hid (w.heap.size ≤ w3.heap.size) := Nat.le_trans HK.out.size hkc.size; have HCL : Hid (CL w3 b xo now given (stepL t r)) := hcl; have HKC : Hid (KC b xo w w3) := HK.out.trans hkc (NX.refl _ _); clear hcl hkc) | (at_builtin; refine append_fi rfl (.tmp 32) (.tmp 37) 37 rfl w.heap.size Try.underlying37 info_fi _ _ _ v8 (told k L) (t.num, t.tm) _ rfl HF3.out _ rfl rfl rfl hl2.out HZ.out ?_; intro v4 w4 hf4 hb4))
          go_roundw
          case rel => exact ⟨k + 1, _, _, by go_num, rfl, rfl, by omega, by show OwnF _ _ _ _; rw [told_succ, HI.out.2]; exact hf4, by show CL _ _ _ _ _ _; rw [HI.out.1]; exact HCL.out.base hbl HX.out hb4, HKC.out.then hb4⟩
          case measure => simp [intOf]; omega
        · have hkn' : k = n := by omega
          subst hkn'
          obtain ⟨d', hk', hp', hh', ho'⟩ := HL.out
          obtain ⟨tk, tkc⟩ := hk'.tick (now + x)
          have c0' := hk'.c0
          have fr' := hk'.fr
          have FIN : Hid (AdvR w (wr.setCell ⟨b, 0, none⟩ (.int .i64 (now + x))) b xo now given x L (.returned (.tuple #[v8, .int .i64 0]))) := by
            refine ⟨HK.out.trans tkc (NX.refl _ _), Or.inr (Or.inr ⟨HR.out, k, v8, HN.out, hn4, rfl, HF.out.kc hbl HX.out tkc, ⟨d', tk, hp', hh', HO.out.at (by omega) (by omega) HN.out⟩⟩)⟩
          clear hk' hp' hh' ho' tk tkc HF HL HK
          go_wp2
          go_ret2
          exact FIN.out
  · rw [decide_eq_false hr] at I
    have FIN : Hid (AdvR w w b xo now given x L (.returned (.tuple #[.slice none 0 0, .int .i64 1]))) := ⟨KC.refl _ _ _, Or.inl ⟨hr, rfl, HC.out⟩⟩
    clear hk hsl hr
    go_enter Try.func15, Try.ntmps15
    go_wp2_with (go_at_call 34; refine I.mono ?_; rintro e w' ⟨rfl, rfl⟩)
    go_ret2
    exact FIN.out
end Go.Proofs.Yteiadigafkollaa
