/- Depend: the document's with, woken. -/
import Derived.Test.YtkhcinpcoabphaaDr2
namespace Go.Proofs.Ytkhcinpcoabphaa
open Go.RowKit

/-- One stack put in the place of another one. -/
theorem RR.with_ {w : World} {Q : Nat → Prop} {vr vr' : Value} {l : List Ru} {S : Nat → List Nat} (h : RR w Q vr l S) {t : Nat} {q : Option Addr} {n c : Nat} {s : List Nat} (hs : GP KI w Q (.slice q n c) (nI s)) {w' : World} {Q' : Nat → Prop} (hb : Below w.heap.size w w') (hQ : ∀ x, Q x → Q' x) (hg : GP KR w' Q' vr' ((l.filter fun r => !decide (r.task = t)) ++ (if s = [] then [] else [⟨t, q, n, c⟩]))) : RR w' Q' vr' ((l.filter fun r => !decide (r.task = t)) ++ (if s = [] then [] else [⟨t, q, n, c⟩])) (fun t' => if t' = t then s else S t') := by
  have hf : ∀ r, r ∈ l.filter (fun r => !decide (r.task = t)) ↔ r ∈ l ∧ r.task ≠ t := fun r => by rw [List.mem_filter]; simp
  refine ⟨hg, ?_, fun r hr => ?_, fun t' ht' => ?_⟩
  · rw [List.map_append]
    have h1 : ((l.filter fun r => !decide (r.task = t)).map Ru.task).Nodup := List.Pairwise.sublist ((List.filter_sublist (l := l)).map Ru.task) h.nd
    rw [List.nodup_append]
    refine ⟨h1, ?_, fun a ha b hb => ?_⟩
    · split <;> simp
    · obtain ⟨r, hr, rfl⟩ := List.mem_map.1 ha
      split at hb
      · cases hb
      · simp at hb
        rw [hb]; exact ((hf r).1 hr).2
  · rcases List.mem_append.1 hr with hr | hr
    · obtain ⟨h1, h2⟩ := (hf r).1 hr
      simp only [if_neg h2]
      exact ⟨(h.st r h1).1, ((h.st r h1).2.below hb).imp fun x _ hx => hQ x hx⟩
    · split at hr
      · cases hr
      · rename_i hne
        rw [List.mem_singleton] at hr
        subst hr
        simp only [if_true]
        exact ⟨hne, (hs.below hb).imp fun x _ hx => hQ x hx⟩
  · by_cases e : t' = t
    · subst e
      simp only [if_true] at ht'
      exact ⟨⟨t', q, n, c⟩, List.mem_append_right _ (by rw [if_neg ht']; simp), rfl⟩
    · simp only [if_neg e] at ht'
      obtain ⟨r, hr, e2⟩ := h.al t' ht'
      exact ⟨r, List.mem_append_left _ ((hf r).2 ⟨hr, by rw [e2]; exact e⟩), e2⟩
theorem WW.wake {w : World} {Q : Nat → Prop} {vw vw' : Value} {l : List Wa} {X : Wb} (h : WW w Q vw l X) (hi : WI X) {t : Nat} (ht : t < 128) {w' : World} {Q' : Nat → Prop} (hg : GP KA w' Q' vw' (l.filter fun a => !decide (a.t = t))) : WW w' Q' vw' (l.filter fun a => !decide (a.t = t)) (wakW X t) := by
  refine ⟨hg, fun t' c => ?_, ?_⟩
  · rw [List.mem_filter, h.mem, wakW_w hi ht]
    by_cases e : t' = t
    · rw [if_pos e]; simp [e, t0]
    · rw [if_neg e]; simp [e]
  · refine (h.up.filter _).imp_of_mem fun {a b} ha hb hlt => ?_
    rw [List.mem_filter] at ha hb
    have ea : a.t ≠ t := by simpa using ha.2
    have eb : b.t ≠ t := by simpa using hb.2
    rw [wakW_w hi ht, if_neg ea, wakW_w hi ht, if_neg eb]; exact hlt
theorem take_filter_len {α : Type} (l : List α) (f : α → Bool) (k : Nat) (n : Nat) (h : l.length ≤ n) : ((l.take k).filter f).length ≤ n := by
  have h1 := List.length_filter_le f (l.take k)
  have h2 : (l.take k).length ≤ l.length := by simp; omega
  omega
/-- What with answers. -/
def RwO (w : World) (Q : Nat → Prop) (t : Nat) (s : List Nat) (S : Nat → List Nat) (vw : Value) (e : Ending) (w' : World) : Prop := ∃ q5 n5 c5 l', e = .returned (.agg #[.slice q5 n5 c5, vw]) ∧ RR w' (fun x => Q x ∨ w.heap.size ≤ x) (.slice q5 n5 c5) l' (fun t' => if t' = t then s else S t') ∧ Below w.heap.size w w'
set_option maxHeartbeats 16000000 in
theorem rwith_any {w : World} {Q : Nat → Prop} {vr : Value} {l : List Ru} {S : Nat → List Nat} (h : RR w Q vr l S) (hl : l.length ≤ 128) {pw : Option Addr} {nw cw : Nat} (t : Nat) {q : Option Addr} {n c : Nat} {s : List Nat} (hs : GP KI w Q (.slice q n c) (nI s)) (hsl : s.length ≤ 100000) : Calls Try.prog 35 #[.agg #[vr, .slice pw nw cw], .int .i64 t, .slice q n c] w fun e w' => RwO w Q t s S (.slice pw nw cw) e w' := by
  obtain ⟨p, c0, rfl⟩ := h.gs.gs.form
  have hn : n = s.length := by rw [← nI_len]; exact hs.gs.len_eq
  obtain ⟨b0, b1⟩ := box2 (w := w) (a := .slice p l.length c0) (b := .slice pw nw cw) (t := 29)
  have BA : Hid (Below w.heap.size w (w.alloc (.cells #[.slice p l.length c0, .slice pw nw cw] 29))) := bal _ _
  have FIN : Hid (∀ vr' w' (l' : List Ru), Below w.heap.size w w' → l' = ((l.filter fun r => !decide (r.task = t)) ++ (if s = [] then [] else [⟨t, q, n, c⟩])) → OwnG KR w' w.heap.size vr' l' → RR w' (fun x => Q x ∨ w.heap.size ≤ x) vr' l' (fun t' => if t' = t then s else S t')) := fun vr' w' l' hb e ho => by
    subst e
    exact h.with_ hs hb (fun x hx => Or.inl hx) (GP.of_own KR_ok.len ho fun x hx => Or.inr hx)
  have HG := hid h.gs.gs
  have HNn := hid hn
  clear h hs hn
  go_enter Try.func35, Try.ntmps35
  go_wp2
  obtain ⟨w2, hw2⟩ : ∃ w2, w2 = (w.alloc (.cells #[.slice p l.length c0, .slice pw nw cw] 29)).alloc (.cells #[.slice none 0 0, .slice none 0 0] 29) := ⟨_, rfl⟩
  rw [← hw2]
  have B2 : Hid (Below w.heap.size w w2) := by rw [hw2]; exact bl3 BA.out (bal _ _)
  have Z2 : Hid (w2.heap.size = w.heap.size + 2) := by show _ = _; rw [hw2, alloc_size, alloc_size]
  have H0 : Hid (w2.heap[w.heap.size]? = some (.cells #[.slice p l.length c0, .slice pw nw cw] 29)) := by
    rw [hw2]
    exact (Below.heap_alloc _ _ _ (by rw [alloc_size]; omega)).trans (heap_alloc_new _ _)
  have H1 : Hid (w2.heap[w.heap.size + 1]? = some (.cells #[.slice none 0 0, .slice none 0 0] 29)) := by
    rw [hw2]
    have := heap_alloc_new (w.alloc (.cells #[.slice p l.length c0, .slice pw nw cw] 29)) (.cells #[.slice none 0 0, .slice none 0 0] 29)
    rw [alloc_size] at this
    exact this
  obtain ⟨sz, hsz⟩ : ∃ sz, sz = w.heap.size := ⟨_, rfl⟩
  rw [← hsz] at H0 H1 Z2 ⊢
  have HZ := hid hsz
  clear hw2 b0 b1 BA hsz
  go_loopw [7, 8] (fun v7 v8 wr => ∃ (k : Nat) (q' : Option Addr) (cc : Nat) (A : List Ru) (wk : World), k ≤ l.length ∧ v8 = .int .i64 k ∧ v7 = .slice q' A.length cc ∧ wk = wr ∧ Hid (A = (l.take k).filter fun r => !decide (r.task = t)) ∧ Hid (OwnG KR wk w2.heap.size (.slice q' A.length cc) A) ∧ Hid (Below w2.heap.size w2 wk)) (fun _ v8 _ => l.length - (intOf v8).toNat)
  case atStart => exact ⟨0, none, 0, [], _, Nat.zero_le _, rfl, rfl, rfl, rfl, OwnG.nil _ _ _, Below.refl _ _⟩
  case round =>
    obtain ⟨k, q', cc, A, wr, hk, rfl, rfl, rfl, HA, HO, HB⟩ := hrel
    have hAl : A.length ≤ 128 := by rw [HA.out]; exact take_filter_len _ _ _ _ hl
    have LS : Hid ((A.length + 1) * KR.B ≤ 140737488355328) := by show (A.length + 1) * 32 ≤ _; omega
    have h0 : wr.heap[sz]? = some (.cells #[.slice p l.length c0, .slice pw nw cw] 29) := (HB.out.block _ (by rw [Z2.out]; omega)).trans H0.out
    have h1 : wr.heap[sz + 1]? = some (.cells #[.slice none 0 0, .slice none 0 0] 29) := (HB.out.block _ (by rw [Z2.out]; omega)).trans H1.out
    have d0 : wr.cell? ⟨sz, 0, none⟩ = some (.slice p l.length c0) := cell_of_row _ _ _ _ _ _ h0
    have d1 : wr.cell? ⟨sz, 1, none⟩ = some (.slice pw nw cw) := cell_of_row _ _ _ _ _ _ h0
    by_cases hlt : k < l.length
    · obtain ⟨Y, o, e1, c1, c2⟩ := (HG.out.below (bl3 B2.out HB.out)).atR hlt
      subst e1
      have TK : Hid (l.take (k + 1) = l.take k ++ [l[k]]) := List.take_succ_eq_append_getElem hlt
      generalize l[k] = r at *
      have hki : (k : Int) < l.length := by omega
      by_cases hc : r.task = t
      · have HA2 : Hid (A = (l.take (k + 1)).filter fun r => !decide (r.task = t)) := by
          show _ = _
          rw [TK.out, List.filter_append, HA.out]
          simp [hc]
        have hci : (r.task : Int) = t := by omega
        have hcb : ((r.task : Int) != t) = false := by simpa using hci
        clear hc h0 h1
        go_wp2
        go_roundw
        case rel => exact ⟨k + 1, q', cc, A, _, by omega, by go_num, rfl, rfl, HA2, HO, HB⟩
        case measure => simp [intOf]; omega
      · have HA2 : Hid (A ++ [r] = (l.take (k + 1)).filter fun r => !decide (r.task = t)) := by
          show _ = _
          rw [TK.out, List.filter_append, HA.out]
          simp [hc]
        have hci : ¬ (r.task : Int) = t := by omega
        have hcb : ((r.task : Int) != t) = true := by simpa using hci
        clear hc h0 h1
        go_wp2_with (at_builtin; refine append_g KR KR_ok rfl (.tmp 24) (.tmp 30) 26 rfl w2.heap.size Try.underlying26 wr _ _ (.slice q' A.length cc) A r _ rfl HO.out wr.heap.size rfl rfl rfl LS.out HB.out.size ?_; intro g5 cp5 w5 ho5 hb5 hk5 hg5; have O5 := hid ho5; have B5 : Hid (Below w2.heap.size w2 w5) := HB.out.trans hb5; clear ho5 hb5 hk5 hg5)
        go_roundw
        case rel => exact ⟨k + 1, some ⟨g5, 0, none⟩, cp5, A ++ [r], _, by omega, by go_num, by rw [List.length_append]; rfl, rfl, HA2, by rw [List.length_append]; exact O5.out, B5⟩
        case measure => simp [intOf]; omega
    · have EA : Hid (A = l.filter fun r => !decide (r.task = t)) := by show _ = _; rw [HA.out, List.take_of_length_le (by omega)]
      have hki : ¬ (k : Int) < l.length := by omega
      have END : Hid (∀ (q5 : Option Addr) (n5 c5 : Nat) (w5 : World) (l' : List Ru), Below w2.heap.size w2 w5 → OwnG KR w5 w2.heap.size (.slice q5 n5 c5) l' → l' = (l.filter fun r => !decide (r.task = t)) ++ (if s = [] then [] else [⟨t, q, n, c⟩]) → (∀ o, w5.frozen? ⟨sz, o, none⟩ = false) ∧ (∀ o, w5.frozen? ⟨sz + 1, o, none⟩ = false) ∧ w5.cell? ⟨sz, 0, none⟩ = some (.slice p l.length c0) ∧ w5.cell? ⟨sz, 1, none⟩ = some (.slice pw nw cw) ∧ w5.cell? ⟨sz + 1, 0, none⟩ = some (.slice none 0 0) ∧ w5.cell? ⟨sz + 1, 1, none⟩ = some (.slice none 0 0) ∧ ∃ l', RR (((w5.setCell ⟨sz, 0, none⟩ (.slice q5 n5 c5)).setCell ⟨sz + 1, 0, none⟩ (.slice q5 n5 c5)).setCell ⟨sz + 1, 1, none⟩ (.slice pw nw cw)) (fun x => Q x ∨ w.heap.size ≤ x) (.slice q5 n5 c5) l' (fun t' => if t' = t then s else S t') ∧ Below w.heap.size w (((w5.setCell ⟨sz, 0, none⟩ (.slice q5 n5 c5)).setCell ⟨sz + 1, 0, none⟩ (.slice q5 n5 c5)).setCell ⟨sz + 1, 1, none⟩ (.slice pw nw cw))) := fun q5 n5 c5 w5 l' hb5 ho5 el => by
        have h0 : w5.heap[sz]? = some (.cells #[.slice p l.length c0, .slice pw nw cw] 29) := (hb5.block _ (by rw [Z2.out]; omega)).trans H0.out
        have h1 : w5.heap[sz + 1]? = some (.cells #[.slice none 0 0, .slice none 0 0] 29) := (hb5.block _ (by rw [Z2.out]; omega)).trans H1.out
        have hB : Below w.heap.size w (((w5.setCell ⟨sz, 0, none⟩ (.slice q5 n5 c5)).setCell ⟨sz + 1, 0, none⟩ (.slice q5 n5 c5)).setCell ⟨sz + 1, 1, none⟩ (.slice pw nw cw)) := (((bl3 B2.out hb5).setCell (by show w.heap.size ≤ sz; rw [HZ.out]; exact Nat.le_refl _) _).setCell (by show w.heap.size ≤ sz + 1; rw [HZ.out]; omega) _).setCell (by show w.heap.size ≤ sz + 1; rw [HZ.out]; omega) _
        refine ⟨fun o => by simp [World.frozen?, h0], fun o => by simp [World.frozen?, h1], cell_of_row _ _ _ _ _ _ h0, cell_of_row _ _ _ _ _ _ h0, cell_of_row _ _ _ _ _ _ h1, cell_of_row _ _ _ _ _ _ h1, l', FIN.out _ _ l' hB el ?_, hB⟩
        have ho6 : OwnG KR (((w5.setCell ⟨sz, 0, none⟩ (.slice q5 n5 c5)).setCell ⟨sz + 1, 0, none⟩ (.slice q5 n5 c5)).setCell ⟨sz + 1, 1, none⟩ (.slice pw nw cw)) w2.heap.size (.slice q5 n5 c5) l' := ho5.far fun z hz => by
          have hzl := (ho5.lt hz).1
          have hz2 := Z2.out
          rw [set_far (by omega), set_far (by omega), set_far (by omega)]
        exact ho6.low (by rw [Z2.out, HZ.out]; omega)
      clear FIN HG H0 H1 h0 h1
      by_cases hs0 : s = []
      · have hn0 : n = 0 := by rw [HNn.out, hs0]; rfl
        obtain ⟨f1, f2, g1, g2, g3, g4, l', hRR, hBB⟩ := END.out q' A.length cc wr A HB.out HO.out (by rw [EA.out, if_pos hs0, List.append_nil])
        have HRR := hid hRR
        have HBB := hid hBB
        subst hn0
        clear hRR hBB END hs0 HNn
        go_wp2
        refine bodyPost_ret (v := .agg #[.slice q' A.length cc, .slice pw nw cw]) (by simp [results, Try.results35, go_sem, g3, g4]) rfl ?_
        exact ⟨_, _, _, l', rfl, HRR.out, HBB.out⟩
      · have hpos : 0 < s.length := List.length_pos_iff.2 hs0
        have hn0 : (0 : Int) < n := by have := HNn.out; omega
        have LS2 : Hid (∀ g5 c5 w5, OwnG KR w5 w2.heap.size (.slice (some ⟨g5, 0, none⟩) (A.length + 1) c5) (A ++ [⟨t, q, n, c⟩]) → Below w2.heap.size w2 w5 → (∀ o, w5.frozen? ⟨sz, o, none⟩ = false) ∧ (∀ o, w5.frozen? ⟨sz + 1, o, none⟩ = false) ∧ w5.cell? ⟨sz, 0, none⟩ = some (.slice p l.length c0) ∧ w5.cell? ⟨sz, 1, none⟩ = some (.slice pw nw cw) ∧ w5.cell? ⟨sz + 1, 0, none⟩ = some (.slice none 0 0) ∧ w5.cell? ⟨sz + 1, 1, none⟩ = some (.slice none 0 0) ∧ ∃ l', RR (((w5.setCell ⟨sz, 0, none⟩ (.slice (some ⟨g5, 0, none⟩) (A.length + 1) c5)).setCell ⟨sz + 1, 0, none⟩ (.slice (some ⟨g5, 0, none⟩) (A.length + 1) c5)).setCell ⟨sz + 1, 1, none⟩ (.slice pw nw cw)) (fun x => Q x ∨ w.heap.size ≤ x) (.slice (some ⟨g5, 0, none⟩) (A.length + 1) c5) l' (fun t' => if t' = t then s else S t') ∧ Below w.heap.size w (((w5.setCell ⟨sz, 0, none⟩ (.slice (some ⟨g5, 0, none⟩) (A.length + 1) c5)).setCell ⟨sz + 1, 0, none⟩ (.slice (some ⟨g5, 0, none⟩) (A.length + 1) c5)).setCell ⟨sz + 1, 1, none⟩ (.slice pw nw cw))) := fun g5 c5 w5 ho hb => END.out _ _ _ w5 _ hb ho (by rw [EA.out, if_neg hs0])
        clear END hs0 HNn hpos
        go_wp2_with (at_builtin; refine append_g KR KR_ok rfl (.tmp 35) (.tmp 39) 26 rfl w2.heap.size Try.underlying26 wr _ _ (.slice q' A.length cc) A ⟨t, q, n, c⟩ _ rfl HO.out wr.heap.size rfl rfl rfl LS.out HB.out.size ?_; intro g5 cp5 w5 ho5 hb5 hk5 hg5; obtain ⟨f1, f2, g1, g2, g3, g4, l', hRR, hBB⟩ := LS2.out _ _ _ ho5 (HB.out.trans hb5); have HRR := hid hRR; have HBB := hid hBB; clear ho5 hb5 hk5 hg5 hRR hBB)
        refine bodyPost_ret (v := .agg #[.slice (some ⟨g5, 0, none⟩) (A.length + 1) cp5, .slice pw nw cw]) (by simp [results, Try.results35, go_sem, g3, g4]) rfl ?_
        exact ⟨_, _, _, l', rfl, HRR.out, HBB.out⟩
end Go.Proofs.Ytkhcinpcoabphaa
