/- Names: the reference's well, kind by kind. -/
import Derived.Test.YtmkgcgdfgagdlaaDoorPs7
import Derived.Test.YtmkgcgdfgagdlaaDoorPx3
import Derived.Test.YtmkgcgdfgagdlaaDoorPy2
import Derived.Deep.QuietTactic
import Derived.BigQuiet
import Derived.BigRegion
import Derived.Deep.RegionLaw
import Derived.Deep.RegionWith
namespace Go.Proofs.YtmkgcgdfgagdlaaDoor
open Go.RowKit Go.Maps

def sureL (l : List Opn) : List ByteArray := if chkO l = 0 then (textsL l 3).filter (sureP l) else []
theorem keepK_in {α : Type} (l : List α) (d : α) (pr : Nat → Bool) : ∀ k, k ≤ l.length → ∀ x ∈ keepK l d pr k, x ∈ l
  | 0, _, x, hx => by simp [keepK] at hx
  | k + 1, hk, x, hx => by
    rw [keepK] at hx
    split at hx
    · exact keepK_in l d pr k (by omega) x hx
    · rw [List.mem_append, List.mem_singleton] at hx
      rcases hx with hx | hx
      · exact keepK_in l d pr k (by omega) x hx
      · rw [hx, List.getD_eq_getElem?_getD, List.getElem?_eq_getElem (by omega)]; exact List.getElem_mem _
theorem textsL_in {l : List Opn} {kd : Int} {x : ByteArray} (h : x ∈ textsL l kd) : ∃ o ∈ l, o.kind = kd ∧ o.text = x := txL_mem (keepK_in _ _ _ _ (Nat.le_refl _) _ h)
theorem textsL_len (l : List Opn) (kd : Int) : (textsL l kd).length ≤ l.length := Nat.le_trans (keepK_len _ _ _ _) (txL_len l kd)
set_option maxHeartbeats 4000000 in
theorem sure1_any (b bb n : Nat) (p : ByteArray → Bool) (s : ByteArray) (w : World) (c : w.cell? ⟨bb, 0, none⟩ = some (.map (some b))) (h : SA w b n p) (hs : s.size ≤ maxLen) :
    Calls Tryd.prog 71 (#[.string s] ++ #[.pointer (some ⟨bb, 0, none⟩)]) w fun e w' => e = .returned (.bool (!p s)) ∧ Below w.heap.size w w' := by
  have HA : Hid _ := has_any b n p s w h hs
  clear h
  go_enter Tryd.func71, Tryd.ntmps71
  go_wp2_with fail
  refine Calls.mono HA.out ?_
  rintro e w1 ⟨rfl, hb1⟩
  have B1 : Hid (Below w.heap.size w w1) := hb1
  clear hb1 HA
  go_wp2_with fail
  go_ret
  exact ⟨rfl, B1.out⟩
theorem sure_remove (L : List ByteArray) (b bb n : Nat) (p : ByteArray → Bool) (v : Value) (w : World) (c : w.cell? ⟨bb, 0, none⟩ = some (.map (some b))) (h : SA w b n p) (hL : GS KS w v L) (hs : ∀ s ∈ L, s.size ≤ maxLen) (hlm : L.length ≤ 1000000) :
    Calls Tryd.prog 60 #[v, .func (.func 71) #[] #[.pointer (some ⟨bb, 0, none⟩)]] w fun e w' => ∃ q cp, e = .returned (.slice q (L.filter p).length cp) ∧ OwnG KS w' w.heap.size (.slice q (L.filter p).length cp) (L.filter p) ∧ Below w.heap.size w w' := by
  have eK : keepK L ByteArray.empty (fun k => !p (L.getD k ByteArray.empty)) L.length = L.filter p := by
    rw [keepK_filter L ByteArray.empty (fun x => !p x) _ (Nat.le_refl _), List.take_length]; simp
  refine (removeS_any v L 71 _ (fun k => !p (L.getD k ByteArray.empty)) w _ (fun _ => False) none_vis hL (fun x _ e => e) hlm (fun x e => e) Tryd.call71 ?_).mono ?_
  · intro k F wk hk hF _ hbt
    have hB := hbt.below
    refine (sure1_any b bb n p _ wk ((hB.cell (p := ⟨bb, 0, none⟩) (block_lt_of_cell c)).trans c) (h.below hB) (hs _ (by rw [List.getD_eq_getElem?_getD, List.getElem?_eq_getElem hk]; exact List.getElem_mem _))).mono ?_
    rintro e w' ⟨rfl, hb⟩
    exact ⟨rfl, F, hF, fun x hx => Or.inl hx, But.of_below hb⟩
  · rintro e w' ⟨q, cp, F', rfl, R⟩
    rw [eK] at R
    rw [eK]
    exact ⟨q, cp, rfl, R.s, R.bt.below⟩
set_option maxHeartbeats 4000000 in
theorem sure_any (v : Value) (l : List Opn) (w : World) (h : OS w v l) (ht : ∀ c ∈ l, c.text.size ≤ maxLen) (hv : NV w) (hlm : l.length ≤ 1000000000000000) :
    Calls Tryd.prog 31 #[v] w fun e w' => AnsT w w' e (sureL l) (chkO l) := by
  have CK : Hid _ := check_any v l w h ht hv hlm
  by_cases hc : chkO l = 0
  · have e1 : sureL l = (textsL l 3).filter (sureP l) := by unfold sureL; rw [if_pos hc]
    rw [e1, hc]
    rw [hc] at CK
    obtain ⟨hl, hwh, _⟩ := chkO_ok hc
    have TX : Hid (∀ w1, Below w.heap.size w w1 → _) := fun w1 b => textsOf_any v l 3 w1 (h.below b) hl ht
    have SO : Hid (∀ w1, Below w.heap.size w w1 → _) := fun w1 b => sureOf_any v l w1 (h.below b) hwh ht hl
    have SR : Hid (∀ b bb w1 u, w1.cell? ⟨bb, 0, none⟩ = some (.map (some b)) → SA w1 b 256 (sureP l) → GS KS w1 u (textsL l 3) → _) := fun b bb w1 u h1 h2 h3 => sure_remove (textsL l 3) b bb 256 (sureP l) u w1 h1 h2 h3 (fun s hs => by
      obtain ⟨o, ho, _, rfl⟩ := textsL_in hs
      exact ht o ho) (by have := textsL_len l 3; omega)
    obtain ⟨p, cap, rfl⟩ := h.form
    have hmf : ∀ (fn : Fn) (first cap : Array Value) (w : World), (Instr.makeFunc fn first cap).run Tryd.prog w = .ok (.func fn first cap) w := fun _ _ _ _ => rfl
    generalize (textsL l 3) = L at *
    generalize sureP l = P at *
    clear h ht hv hc e1 hwh
    go_enter Tryd.func31, Tryd.ntmps31
    go_wp2_with fail
    refine Calls.mono CK.out ?_
    rintro e w1 ⟨rfl, hb1⟩
    have B1 : Hid (Below w.heap.size w w1) := hb1
    clear hb1 CK
    go_wp2_with fail
    refine Calls.mono (SO.out _ B1.out) ?_
    rintro e w2 ⟨b, rfl, hs, hb2⟩
    have B2 : Hid (Below w.heap.size w w2) := B1.out.trans (hb2.mono B1.out.size)
    have S2 : Hid (SA w2 b 256 P) := hs
    clear hb2 hs SO B1
    go_wp2_with fail
    have AL := (Below.refl _ w2).alloc (Nat.le_refl _) (.cells #[.map (some b)] 75)
    have c3 : (w2.alloc (.cells #[.map (some b)] 75)).cell? ⟨w2.heap.size, 0, none⟩ = some (.map (some b)) := box_cell (heap_alloc_new _ _)
    have B3 : Hid (Below w.heap.size w (w2.alloc (.cells #[.map (some b)] 75))) := B2.out.trans (AL.mono B2.out.size)
    have S3 : Hid (SA (w2.alloc (.cells #[.map (some b)] 75)) b 256 P) := S2.out.below AL
    refine Calls.mono (TX.out _ B3.out) ?_
    rintro e w4 ⟨p4, c4, rfl, ho, hb4⟩
    have B4 : Hid (Below w.heap.size w w4) := B3.out.trans (hb4.mono B3.out.size)
    have O4 : Hid (OwnG KS w4 w.heap.size (.slice p4 L.length c4) L) := ho.low B3.out.size
    have S4 : Hid (SA w4 b 256 P) := S3.out.below hb4
    have C4 : Hid (w4.cell? ⟨w2.heap.size, 0, none⟩ = some (.map (some b))) := (hb4.cell (p := ⟨w2.heap.size, 0, none⟩) (block_lt_of_cell c3)).trans c3
    clear ho hb4 TX B3 S3 S2 B2 AL c3
    go_wp2_with fail
    refine Calls.mono (SR.out _ _ _ _ C4.out S4.out (O4.out.gs KS_ok.len)) ?_
    rintro e w5 ⟨p5, c5, rfl, ho5, hb5⟩
    have B5 : Hid (Below w.heap.size w w5) := B4.out.trans (hb5.mono B4.out.size)
    have O5 : Hid (OwnG KS w5 w.heap.size (.slice p5 (L.filter P).length c5) (L.filter P)) := ho5.low B4.out.size
    clear ho5 hb5 SR
    go_wp2_with fail
    go_ret2
    exact ⟨p5, c5, rfl, O5.out, B5.out⟩
  · have e1 : sureL l = [] := by unfold sureL; rw [if_neg hc]
    rw [e1]
    obtain ⟨p, cap, rfl⟩ := h.form
    generalize chkO l = c at *
    have h1 : (c == 0) = false := by simpa using hc
    have h2 : (c != 0) = true := by simpa using hc
    clear h ht hv e1
    go_enter Tryd.func31, Tryd.ntmps31
    go_wp2_with fail
    refine Calls.mono CK.out ?_
    rintro e w1 ⟨rfl, hb1⟩
    have B1 : Hid (Below w.heap.size w w1) := hb1
    clear hb1 CK
    go_wp2_with fail
    go_ret2
    exact ⟨none, 0, rfl, OwnG.nil _ _ _, B1.out⟩
end Go.Proofs.YtmkgcgdfgagdlaaDoor
namespace Go.Proofs.YtmkgcgdfgagdlaaDoor
open Go.RowKit

theorem below_drewY {w w' : World} {B : Nat} (h : Below B w w') (n : Nat) : Below B w (w'.drewN n) := ⟨h.os, h.tape, h.output, h.size, h.block⟩
/-- The ways of an operation's check. -/
theorem well_ways {k : Int} {m : Nat} {i : Int} {t : ByteArray} (hk : isX k = true) : ((((m : Int) != arO ⟨k, m, i, t⟩) = true) ∧ opB ⟨k, m, i, t⟩ = false) ∨ (((m : Int) != arO ⟨k, m, i, t⟩) = false ∧ opB ⟨k, m, i, t⟩ = (inB' ⟨k, m, i, t⟩ && txB ⟨k, m, i, t⟩)) := by
  have e := arB_eq (o := ⟨k, m, i, t⟩) hk
  have e2 : opB ⟨k, m, i, t⟩ = (isX k && (arB ⟨k, m, i, t⟩ && inB' ⟨k, m, i, t⟩ && txB ⟨k, m, i, t⟩)) := rfl
  by_cases h : (m : Int) = arO ⟨k, m, i, t⟩
  · right
    refine ⟨by rw [← h]; simp, ?_⟩
    rw [e2, hk, e, decide_eq_true (by exact ⟨Int.natCast_nonneg _, h⟩)]; simp
  · left
    refine ⟨by simpa using h, ?_⟩
    rw [e2, e, decide_eq_false (by exact fun h2 => h h2.2)]; simp
end Go.Proofs.YtmkgcgdfgagdlaaDoor
