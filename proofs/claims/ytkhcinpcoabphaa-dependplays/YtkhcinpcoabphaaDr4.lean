/- Depend: the document's woken. -/
import Derived.Test.YtkhcinpcoabphaaDr3
namespace Go.Proofs.Ytkhcinpcoabphaa
open Go.RowKit

/-- What woken answers. -/
def WkO (w : World) (Q : Nat → Prop) (vr : Value) (X : Wb) (e : Ending) (w' : World) : Prop := ∃ q5 n5 c5 l', e = .returned (.agg #[vr, .slice q5 n5 c5]) ∧ WW w' (fun x => Q x ∨ w.heap.size ≤ x) (.slice q5 n5 c5) l' X ∧ Below w.heap.size w w'
set_option maxHeartbeats 16000000 in
theorem rwoken_any {w : World} {Q : Nat → Prop} {vw : Value} {l : List Wa} {X : Wb} (h : WW w Q vw l X) (hi : WI X) {pr : Option Addr} {nr cr : Nat} {t : Nat} (ht : t < 128) : Calls Try.prog 38 #[.agg #[.slice pr nr cr, vw], .int .i64 t] w fun e w' => WkO w Q (.slice pr nr cr) (wakW X t) e w' := by
  have hl := h.len hi
  obtain ⟨p, c0, rfl⟩ := h.gs.gs.form
  have BA : Hid (Below w.heap.size w (w.alloc (.cells #[.slice pr nr cr, .slice p l.length c0] 29))) := bal _ _
  have FIN : Hid (∀ vw' w' (l' : List Wa), l' = (l.filter fun a => !decide (a.t = t)) → OwnG KA w' w.heap.size vw' l' → WW w' (fun x => Q x ∨ w.heap.size ≤ x) vw' l' (wakW X t)) := fun vw' w' l' e ho => by
    subst e
    exact h.wake hi ht (GP.of_own KA_ok.len ho fun x hx => Or.inr hx)
  have HG := hid h.gs.gs
  clear h hi
  go_enter Try.func38, Try.ntmps38
  go_wp2
  obtain ⟨w2, hw2⟩ : ∃ w2, w2 = (w.alloc (.cells #[.slice pr nr cr, .slice p l.length c0] 29)).alloc (.cells #[.slice none 0 0, .slice none 0 0] 29) := ⟨_, rfl⟩
  rw [← hw2]
  have B2 : Hid (Below w.heap.size w w2) := by rw [hw2]; exact bl3 BA.out (bal _ _)
  have Z2 : Hid (w2.heap.size = w.heap.size + 2) := by show _ = _; rw [hw2, alloc_size, alloc_size]
  have H0 : Hid (w2.heap[w.heap.size]? = some (.cells #[.slice pr nr cr, .slice p l.length c0] 29)) := by
    rw [hw2]
    exact (Below.heap_alloc _ _ _ (by rw [alloc_size]; omega)).trans (heap_alloc_new _ _)
  have H1 : Hid (w2.heap[w.heap.size + 1]? = some (.cells #[.slice none 0 0, .slice none 0 0] 29)) := by
    rw [hw2]
    have := heap_alloc_new (w.alloc (.cells #[.slice pr nr cr, .slice p l.length c0] 29)) (.cells #[.slice none 0 0, .slice none 0 0] 29)
    rw [alloc_size] at this
    exact this
  obtain ⟨sz, hsz⟩ : ∃ sz, sz = w.heap.size := ⟨_, rfl⟩
  rw [← hsz] at H0 H1 Z2 ⊢
  have HZ := hid hsz
  clear hw2 BA hsz
  go_loopw [5, 6] (fun v5 v6 wr => ∃ (k : Nat) (q' : Option Addr) (cc : Nat) (A : List Wa) (wk : World), k ≤ l.length ∧ v6 = .int .i64 k ∧ v5 = .slice q' A.length cc ∧ wk = wr ∧ Hid (A = (l.take k).filter fun a => !decide (a.t = t)) ∧ Hid (OwnG KA wk w2.heap.size (.slice q' A.length cc) A) ∧ Hid (Below w2.heap.size w2 wk)) (fun _ v6 _ => l.length - (intOf v6).toNat)
  case atStart => exact ⟨0, none, 0, [], _, Nat.zero_le _, rfl, rfl, rfl, rfl, OwnG.nil _ _ _, Below.refl _ _⟩
  case round =>
    obtain ⟨k, q', cc, A, wr, hk, rfl, rfl, rfl, HA, HO, HB⟩ := hrel
    have hAl : A.length ≤ 128 := by rw [HA.out]; exact take_filter_len _ _ _ _ hl
    have LS : Hid ((A.length + 1) * KA.B ≤ 140737488355328) := by show (A.length + 1) * 16 ≤ _; omega
    have h0 : wr.heap[sz]? = some (.cells #[.slice pr nr cr, .slice p l.length c0] 29) := (HB.out.block _ (by rw [Z2.out]; omega)).trans H0.out
    have h1 : wr.heap[sz + 1]? = some (.cells #[.slice none 0 0, .slice none 0 0] 29) := (HB.out.block _ (by rw [Z2.out]; omega)).trans H1.out
    have d0 : wr.cell? ⟨sz, 0, none⟩ = some (.slice pr nr cr) := cell_of_row _ _ _ _ _ _ h0
    have d1 : wr.cell? ⟨sz, 1, none⟩ = some (.slice p l.length c0) := cell_of_row _ _ _ _ _ _ h0
    by_cases hlt : k < l.length
    · obtain ⟨Y, o, e1, c1, c2⟩ := (HG.out.below (bl3 B2.out HB.out)).atA hlt
      subst e1
      have TK : Hid (l.take (k + 1) = l.take k ++ [l[k]]) := List.take_succ_eq_append_getElem hlt
      generalize l[k] = r at *
      have hki : (k : Int) < l.length := by omega
      by_cases hc : r.t = t
      · have HA2 : Hid (A = (l.take (k + 1)).filter fun a => !decide (a.t = t)) := by
          show _ = _
          rw [TK.out, List.filter_append, HA.out]
          simp [hc]
        have hci : (r.t : Int) = t := by omega
        have hcb : ((r.t : Int) != t) = false := by simpa using hci
        clear hc h0 h1
        go_wp2
        go_roundw
        case rel => exact ⟨k + 1, q', cc, A, _, by omega, by go_num, rfl, rfl, HA2, HO, HB⟩
        case measure => simp [intOf]; omega
      · have HA2 : Hid (A ++ [r] = (l.take (k + 1)).filter fun a => !decide (a.t = t)) := by
          show _ = _
          rw [TK.out, List.filter_append, HA.out]
          simp [hc]
        have hci : ¬ (r.t : Int) = t := by omega
        have hcb : ((r.t : Int) != t) = true := by simpa using hci
        clear hc h0 h1
        go_wp2_with (at_builtin; refine append_g KA KA_ok rfl (.tmp 22) (.tmp 28) 27 rfl w2.heap.size Try.underlying27 wr _ _ (.slice q' A.length cc) A r _ rfl HO.out wr.heap.size rfl rfl rfl LS.out HB.out.size ?_; intro g5 cp5 w5 ho5 hb5 hk5 hg5; have O5 := hid ho5; have B5 : Hid (Below w2.heap.size w2 w5) := HB.out.trans hb5; clear ho5 hb5 hk5 hg5)
        go_roundw
        case rel => exact ⟨k + 1, some ⟨g5, 0, none⟩, cp5, A ++ [r], _, by omega, by go_num, by rw [List.length_append]; rfl, rfl, HA2, by rw [List.length_append]; exact O5.out, B5⟩
        case measure => simp [intOf]; omega
    · have EA : Hid (A = l.filter fun a => !decide (a.t = t)) := by show _ = _; rw [HA.out, List.take_of_length_le (by omega)]
      have hki : ¬ (k : Int) < l.length := by omega
      have hB : Hid (Below w.heap.size w (((wr.setCell ⟨sz, 1, none⟩ (.slice q' A.length cc)).setCell ⟨sz + 1, 0, none⟩ (.slice pr nr cr)).setCell ⟨sz + 1, 1, none⟩ (.slice q' A.length cc))) := (((bl3 B2.out HB.out).setCell (by show w.heap.size ≤ sz; rw [HZ.out]; exact Nat.le_refl _) _).setCell (by show w.heap.size ≤ sz + 1; rw [HZ.out]; omega) _).setCell (by show w.heap.size ≤ sz + 1; rw [HZ.out]; omega) _
      have ho6 : OwnG KA (((wr.setCell ⟨sz, 1, none⟩ (.slice q' A.length cc)).setCell ⟨sz + 1, 0, none⟩ (.slice pr nr cr)).setCell ⟨sz + 1, 1, none⟩ (.slice q' A.length cc)) w2.heap.size (.slice q' A.length cc) A := HO.out.far fun z hz => by
        have hzl := (HO.out.lt hz).1
        have hz2 := Z2.out
        rw [set_far (by omega), set_far (by omega), set_far (by omega)]
      have HW := hid (FIN.out _ _ A EA.out (ho6.low (by rw [Z2.out, HZ.out]; omega)))
      have f1 : ∀ o, wr.frozen? ⟨sz, o, none⟩ = false := fun o => by simp [World.frozen?, h0]
      have f2 : ∀ o, wr.frozen? ⟨sz + 1, o, none⟩ = false := fun o => by simp [World.frozen?, h1]
      have g3 : wr.cell? ⟨sz + 1, 0, none⟩ = some (.slice none 0 0) := cell_of_row _ _ _ _ _ _ h1
      have g4 : wr.cell? ⟨sz + 1, 1, none⟩ = some (.slice none 0 0) := cell_of_row _ _ _ _ _ _ h1
      clear FIN HG H0 H1 h0 h1 ho6
      go_wp2
      refine bodyPost_ret (v := .agg #[.slice pr nr cr, .slice q' A.length cc]) (by simp [results, Try.results38, go_sem, g3, g4]) rfl ?_
      exact ⟨_, _, _, A, rfl, HW.out, hB.out⟩
end Go.Proofs.Ytkhcinpcoabphaa
