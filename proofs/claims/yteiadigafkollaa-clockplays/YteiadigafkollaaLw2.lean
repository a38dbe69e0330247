/- The law's played: a clock under calls. -/
import Derived.Test.YteiadigafkollaaLw1
namespace Go.Proofs.Yteiadigafkollaa
open Go.RowKit Go.Sort Go.Shelf

/-- The argument's calls. -/
def ArgC (w : World) (p : Option Addr) (cs : List (Int × Int × Int)) : Prop := ∀ k (h : k < cs.length), ∃ X o, p = some ⟨X, o, none⟩ ∧ X < w.heap.size ∧ w.cell? ⟨X, o + k * 3, none⟩ = some (.int .i64 cs[k].1) ∧ w.cell? ⟨X, o + k * 3 + 1, none⟩ = some (.int .i64 cs[k].2.1) ∧ w.cell? ⟨X, o + k * 3 + 2, none⟩ = some (.int .i64 cs[k].2.2)
/-- A clock of the call's own. -/
def PR (w wr : World) (b : Nat) (m : Int) : Prop := ∃ xo now given L, CL wr b xo now given L ∧ w.heap.size ≤ b ∧ (∀ X, xo = some X → w.heap.size ≤ X) ∧ Below w.heap.size w wr ∧ given ≤ m
theorem PR.of {w wr w' : World} {b : Nat} {xo : Option Nat} {given m : Int} {e : Ending} (hb : w.heap.size ≤ b) (hx : ∀ X, xo = some X → w.heap.size ≤ X) (hB : Below w.heap.size w wr) (hm : given ≤ m) (h : CW wr w' b xo given e) : PR w w' b (m + 1) := by
  obtain ⟨_, k, xo', now', g', L', hc, hn, _, hg⟩ := h
  refine ⟨xo', now', g', L', hc, hb, ?_, hB.trans (k.below hB.size hb hx), by omega⟩
  intro X e
  rcases hn with rfl | ⟨g, rfl, hgg⟩
  · exact hx X e
  · injection e with e; have := hB.size; omega
theorem PR.cl {w w1 w' : World} {b' : Nat} {xo' : Option Nat} {now given m : Int} {L : List Tm} (hB : Below w.heap.size w w1) (hm : given ≤ m) (hc : CL w' b' xo' now given L) (hb : w1.heap.size ≤ b') (hx : ∀ X, xo' = some X → w1.heap.size ≤ X) (k : Below w1.heap.size w1 w') : PR w w' b' (m + 1) :=
  ⟨xo', now, given, L, hc, by have := hB.size; omega, (fun X e => by have := hB.size; have := hx X e; omega), hB.trans (k.mono hB.size), by omega⟩
set_option maxHeartbeats 16000000 in
set_option maxRecDepth 100000 in
theorem played_any (w : World) (p : Option Addr) (cap : Nat) (cs : List (Int × Int × Int)) (h : ArgC w p cs) (hl : cs.length ≤ 100000000000000000) :
    Calls Try.prog 12 #[.slice p cs.length cap] w fun e w' => ∃ b, e = .returned (.pointer (some ⟨b, 0, none⟩)) ∧ PR w w' b cs.length := by
  have N := new_any w
  have HA : Hid _ := h
  clear h
  go_enter Try.func12, Try.ntmps12
  go_wp2_with (go_at_call 9; refine N.mono ?_; rintro e w1 ⟨rfl, hck, hb1⟩)
  have P0 : Hid (PR w w1 w.heap.size ((0 : Nat) : Int)) := ⟨none, 0, 0, [], ⟨#[], hck, List.Perm.refl _, fun k hk hkn => by simp at hkn, ⟨Srt.nil, fun t ht => by simp at ht, by simp, by omega, by omega⟩⟩, Nat.le_refl _, (fun X e => by cases e), hb1, by simp⟩
  clear hck hb1 N
  go_loopw [3, 9] (fun v3 v9 wr => ∃ (k b : Nat) (wk : World), v9 = .int .i64 k ∧ v3 = .pointer (some ⟨b, 0, none⟩) ∧ wk = wr ∧ k ≤ cs.length ∧ Hid (PR w wk b k)) (fun _ v9 _ => cs.length - (intOf v9).toNat)
  case atStart => exact ⟨0, _, _, rfl, rfl, rfl, Nat.zero_le _, P0⟩
  case round =>
    obtain ⟨k, b, wr, rfl, rfl, rfl, hk, HP⟩ := hrel
    clear P0
    by_cases hlt : k < cs.length
    · obtain ⟨X, o, rfl, hX, d1, d2, d3⟩ := HA.out k hlt
      obtain ⟨xo, now, given, L, hcl, hbb, hxx, hBl, hgm⟩ := HP.out
      have c1 := (hBl.cell (p := ⟨X, o + k * 3, none⟩) hX).trans d1
      have c2 := (hBl.cell (p := ⟨X, o + k * 3 + 1, none⟩) hX).trans d2
      have c3 := (hBl.cell (p := ⟨X, o + k * 3 + 2, none⟩) hX).trans d3
      obtain ⟨c, hc⟩ : ∃ c, c = cs[k] := ⟨_, rfl⟩
      rw [← hc] at c1 c2 c3
      have AL : Hid (∀ ob, Below wr.heap.size wr (wr.alloc ob)) := fun ob => (Below.refl _ _).alloc (Nat.le_refl _) ob
      have HL : Hid (∀ ob, CL (wr.alloc ob) b xo now given L) := fun ob => hcl.below (AL.out ob)
      have HB : Hid (∀ ob, Below w.heap.size w (wr.alloc ob)) := fun ob => hBl.trans ((AL.out ob).mono hBl.size)
      have HX : Hid _ := hxx
      have hg18 : given ≤ 1000000000000000000 := by omega
      have bd := amg_bd (x := c.1) (n := 7) (by omega)
      have AM := fun w' => among_any w' c.1 7 (by omega) (by omega)
      generalize amg c.1 7 = K at *
      clear d1 d2 d3 hc hcl hBl hxx HP
      have h7 : K = 0 ∨ K = 1 ∨ K = 2 ∨ K = 3 ∨ K = 4 ∨ K = 5 ∨ K = 6 := by omega
      clear bd
      rcases h7 with rfl | rfl | rfl | rfl | rfl | rfl | rfl
      · go_wp2_with (first | (go_at_call 13; refine (AM _).mono ?_; rintro e w0 ⟨rfl, rfl⟩) | (go_at_call 24; refine (at_cw _ _ _ _ _ _ (HL.out _) hg18 _).mono ?_; rintro e w2 hcw; obtain ⟨v, rfl⟩ := hcw.1; have HPR : Hid (PR w w2 b ((k : Int) + 1)) := PR.of hbb HX.out (HB.out _) hgm hcw; clear hcw))
        go_roundw
        case rel => exact ⟨k + 1, b, _, by go_num, rfl, rfl, by omega, HPR⟩
        case measure => simp [intOf]; omega
      · go_wp2_with (first | (go_at_call 13; refine (AM _).mono ?_; rintro e w0 ⟨rfl, rfl⟩) | (go_at_call 21; refine (after_cw _ _ _ _ _ _ (HL.out _) hg18 _).mono ?_; rintro e w2 hcw; obtain ⟨v, rfl⟩ := hcw.1; have HPR : Hid (PR w w2 b ((k : Int) + 1)) := PR.of hbb HX.out (HB.out _) hgm hcw; clear hcw))
        go_roundw
        case rel => exact ⟨k + 1, b, _, by go_num, rfl, rfl, by omega, HPR⟩
        case measure => simp [intOf]; omega
      · go_wp2_with (first | (go_at_call 13; refine (AM _).mono ?_; rintro e w0 ⟨rfl, rfl⟩) | (go_at_call 25; refine (every_cw _ _ _ _ _ _ (HL.out _) hg18 _ _).mono ?_; rintro e w2 hcw; obtain ⟨v, rfl⟩ := hcw.1; have HPR : Hid (PR w w2 b ((k : Int) + 1)) := PR.of hbb HX.out (HB.out _) hgm hcw; clear hcw))
        go_roundw
        case rel => exact ⟨k + 1, b, _, by go_num, rfl, rfl, by omega, HPR⟩
        case measure => simp [intOf]; omega
      · go_wp2_with (first | (go_at_call 13; refine (AM _).mono ?_; rintro e w0 ⟨rfl, rfl⟩) | (go_at_call 22; refine (stop_cw _ _ _ _ _ _ (HL.out _) _).mono ?_; rintro e w2 hcw; obtain ⟨v, rfl⟩ := hcw.1; have HPR : Hid (PR w w2 b ((k : Int) + 1)) := PR.of hbb HX.out (HB.out _) hgm hcw; clear hcw))
        go_roundw
        case rel => exact ⟨k + 1, b, _, by go_num, rfl, rfl, by omega, HPR⟩
        case measure => simp [intOf]; omega
      · go_wp2_with (first | (go_at_call 13; refine (AM _).mono ?_; rintro e w0 ⟨rfl, rfl⟩) | (go_at_call 23; refine (move_cw _ _ _ _ _ _ (HL.out _) _ _).mono ?_; rintro e w2 hcw; obtain ⟨v, rfl⟩ := hcw.1; have HPR : Hid (PR w w2 b ((k : Int) + 1)) := PR.of hbb HX.out (HB.out _) hgm hcw; clear hcw))
        go_roundw
        case rel => exact ⟨k + 1, b, _, by go_num, rfl, rfl, by omega, HPR⟩
        case measure => simp [intOf]; omega
      · go_wp2_with (first | (go_at_call 13; refine (AM _).mono ?_; rintro e w0 ⟨rfl, rfl⟩) | (go_at_call 15; refine (advance_cw _ _ _ _ _ _ (HL.out _) _).mono ?_; rintro e w2 hcw; obtain ⟨v, rfl⟩ := hcw.1; have HPR : Hid (PR w w2 b ((k : Int) + 1)) := PR.of hbb HX.out (HB.out _) hgm hcw; clear hcw))
        go_roundw
        case rel => exact ⟨k + 1, b, _, by go_num, rfl, rfl, by omega, HPR⟩
        case measure => simp [intOf]; omega
      · go_wp2_with (first | (go_at_call 13; refine (AM _).mono ?_; rintro e w0 ⟨rfl, rfl⟩) | (go_at_call 14; refine (cclone_any _ _ _ _ _ _ (HL.out _)).mono ?_; rintro e w2 ⟨b', xo', rfl, hc', hb', hx', hB'⟩; have HPR : Hid (PR w w2 b' ((k : Int) + 1)) := PR.cl (HB.out _) hgm hc' hb' hx' hB'; clear hc' hB'))
        go_roundw
        case rel => exact ⟨k + 1, b', _, by go_num, rfl, rfl, by omega, HPR⟩
        case measure => simp [intOf]; omega
    · go_wp2
      go_ret
      have e : k = cs.length := by omega
      subst e
      exact ⟨b, rfl, HP.out⟩
end Go.Proofs.Yteiadigafkollaa
