/- Names: Sure. -/
import Derived.Test.YthmppnmmlblbhaaDoorPs6
namespace Go.Proofs.YthmppnmmlblbhaaDoor
open Go.RowKit Go.Maps

/-- What the whole row surely asks for. -/
def sureP (l : List Opn) : ByteArray → Bool := (sK l l.length).getD (l.length - 1) p0f
theorem cK_bd (l : List Opn) : ∀ k, k ≤ l.length → ∀ j, j < k → (cK l k).getD j 0 ≤ j + 1
  | 0, _, j, hj => by omega
  | k + 1, hk, j, hj => by
    rw [cK]
    by_cases e : j < k
    · rw [getD_app (by rw [cK_len]; exact e)]
      exact cK_bd l k (by omega) j e
    · have : j = k := by omega
      subst this
      rw [getD_end (cK_len l j)]
      exact cuS_bd l (by omega)
theorem sureEach_any (v : Value) (l : List Opn) (g bs be base : Nat) (w : World) (h : OS w v l) (hX : ∀ x, v.ownBlock = some x → x ≠ g) (hwh : wholeB l = true) (ht : ∀ c ∈ l, c.text.size ≤ maxLen) (hlm : l.length ≤ 256)
    (o : OwnG KM w base (.slice (some ⟨g, 0, none⟩) l.length l.length) (List.replicate l.length none)) (cs : w.cell? ⟨bs, 0, none⟩ = some (.slice (some ⟨g, 0, none⟩) l.length l.length)) (ce : w.cell? ⟨be, 0, none⟩ = some v) (hbs : bs ≠ g) (hbe : be ≠ g) :
    Calls Tryd.prog 51 #[v, .func (.func 85) #[] #[.pointer (some ⟨bs, 0, none⟩), .pointer (some ⟨be, 0, none⟩)]] w fun e w' => e = .returned (.tuple #[]) ∧ w'.cell? ⟨bs, 0, none⟩ = some (.slice (some ⟨g, 0, none⟩) l.length l.length) ∧ w'.cell? ⟨be, 0, none⟩ = some v ∧ (∃ b, w'.cell? ⟨g, l.length - 1, none⟩ = some (.map (some b)) ∧ SA w' b 256 (sureP l)) ∧ But (fun x => x = g) w w' := by
  have hls : bs < w.heap.size := block_lt_of_cell cs
  have hle : be < w.heap.size := block_lt_of_cell ce
  have hne := walk_ne (wholeB_ok hwh).2
  refine (eachWhole_any v l 85 #[.pointer (some ⟨bs, 0, none⟩), .pointer (some ⟨be, 0, none⟩)] w (SU l g base) (fun x => x = g) (SU_vis _ _ _) h (fun x hx e => hX x hx e) (wholeB_ok hwh).2 hlm ⟨[], rfl, by simpa [mRow] using o, fun j hj => by omega, fun x hx => by simp at hx, fun x => by simp⟩ Tryd.call85 (fun k F wk vp hk hI hP hap hfn hbt => ?_)).mono ?_
  · have hFg : F g := by
      obtain ⟨B, _, _, _, _, h4⟩ := hI
      exact (h4 g).2 (Or.inl rfl)
    exact sureV_any l k bs be g base F vp v wk hwh ht hk hlm hI ((World.cell?_of_block (w := w) (w' := wk) (a := ⟨bs, 0, none⟩) (hbt.block bs hls hbs)).trans cs) ((World.cell?_of_block (w := w) (w' := wk) (a := ⟨be, 0, none⟩) (hbt.block be hle hbe)).trans ce) hbs hbe hP (fun x hx e => hap x hx (e ▸ hFg)) (h.blk hbt.size (fun x hx hl => hbt.block x hl (hX x hx))) hX
  · rintro e w' ⟨rfl, F', ⟨B, h0, h1, h2, _, _⟩, _, hbt⟩
    have hl : (mRow B l.length).length = l.length := mRow_len (by omega)
    refine ⟨rfl, (World.cell?_of_block (w := w) (w' := w') (a := ⟨bs, 0, none⟩) (hbt.block bs hls hbs)).trans cs, (World.cell?_of_block (w := w) (w' := w') (a := ⟨be, 0, none⟩) (hbt.block be hle hbe)).trans ce, ⟨B.getD (l.length - 1) 0, ?_, ?_⟩, hbt⟩
    · rw [own_map h1 hl.symm (j := l.length - 1) (by omega), mRow_at (by omega)]
    · exact (h2 (l.length - 1) (by omega)).more (by have := cK_bd l l.length (Nat.le_refl _) (l.length - 1) (by omega); omega)
set_option maxHeartbeats 4000000 in
theorem sureOf_any (v : Value) (l : List Opn) (w : World) (h : OS w v l) (hwh : wholeB l = true) (ht : ∀ c ∈ l, c.text.size ≤ maxLen) (hlm : l.length ≤ 256) :
    Calls Tryd.prog 60 #[v] w fun e w' => ∃ b, e = .returned (.map (some b)) ∧ SA w' b 256 (sureP l) ∧ Below w.heap.size w w' := by
  have hne := walk_ne (wholeB_ok hwh).2
  obtain ⟨p, cap, rfl⟩ := h.form
  have HS : Hid (OS w (.slice p l.length cap) l) := h
  have HX : Hid (∀ x, (Value.slice p l.length cap).ownBlock = some x → x < w.heap.size) := fun x hx => h.lt hne hx
  have hmf : ∀ (fn : Fn) (first cap : Array Value) (w : World), (Instr.makeFunc fn first cap).run Tryd.prog w = .ok (.func fn first cap) w := fun _ _ _ _ => rfl
  clear h
  go_enter Tryd.func60, Tryd.ntmps60
  go_upto_region 1 with fail
  have AL0 : Below w.heap.size w (w.alloc (.cells #[.slice p l.length cap] 35)) := (Below.refl _ _).alloc (Nat.le_refl _) _
  have cE : (w.alloc (.cells #[.slice p l.length cap] 35)).cell? ⟨w.heap.size, 0, none⟩ = some (.slice p l.length cap) := box_cell (heap_alloc_new _ _)
  have zE : (w.alloc (.cells #[.slice p l.length cap] 35)).heap.size = w.heap.size + 1 := Array.size_push ..
  obtain ⟨W, hW⟩ : ∃ W, W = w.alloc (.cells #[.slice p l.length cap] 35) := ⟨_, rfl⟩
  rw [← hW] at AL0 cE zE ⊢
  clear hW
  have DE : Hid (∀ w1, Below W.heap.size W w1 → OwnG KM w1 W.heap.size (.slice (some ⟨W.heap.size, 0, none⟩) l.length l.length) (List.replicate l.length none) → Calls Tryd.prog 51 #[.slice p l.length cap, .func (.func 85) #[] #[.pointer (some ⟨w1.heap.size, 0, none⟩), .pointer (some ⟨w.heap.size, 0, none⟩)]] (w1.alloc (.cells #[.slice (some ⟨W.heap.size, 0, none⟩) l.length l.length] 97)) fun e w' => e = .returned (.tuple #[]) ∧ w'.cell? ⟨w1.heap.size, 0, none⟩ = some (.slice (some ⟨W.heap.size, 0, none⟩) l.length l.length) ∧ w'.cell? ⟨w.heap.size, 0, none⟩ = some (.slice p l.length cap) ∧ (∃ b, w'.cell? ⟨W.heap.size, l.length - 1, none⟩ = some (.map (some b)) ∧ SA w' b 256 (sureP l)) ∧ Below w.heap.size w w') := fun w1 hb ho => by
    have AL := (Below.refl _ w1).alloc (Nat.le_refl _) (.cells #[.slice (some ⟨W.heap.size, 0, none⟩) l.length l.length] 97)
    have hg : W.heap.size < w1.heap.size := (ho.lt rfl).2
    have cE1 := ((World.cell?_of_block (w := W) (w' := w1) (a := ⟨w.heap.size, 0, none⟩) (hb.block w.heap.size (by omega))).trans cE)
    have cE2 := ((World.cell?_of_block (w := w1) (a := ⟨w.heap.size, 0, none⟩) (AL.block w.heap.size (by omega))).trans cE1)
    have hb0 : Below w.heap.size w w1 := AL0.trans (hb.mono AL0.size)
    refine (sureEach_any (.slice p l.length cap) l W.heap.size w1.heap.size w.heap.size W.heap.size _ ((HS.out.below hb0).below AL) (fun x hx e => by have := HX.out x hx; omega) hwh ht hlm (ho.below AL) (box_cell (heap_alloc_new _ _)) cE2 (by omega) (by omega)).mono ?_
    rintro e w' ⟨rfl, c1, c2, c3, hbt⟩
    exact ⟨rfl, c1, c2, c3, (hb0.trans (AL.mono hb0.size)).trans ⟨hbt.os, hbt.tape, hbt.output, hbt.size, fun x hx => hbt.block x (Nat.lt_of_lt_of_le hx (Nat.le_trans hb0.size AL.size)) (by omega)⟩⟩
  have HWH : Hid (wholeB l = true) := hwh
  have ZW : Hid (W.heap.size = w.heap.size + 1) := zE
  clear AL0 zE hwh ht
  go_upto_region 2 with (at_make; refine make_g KM KM_ok none rfl rfl _ rfl _ _ 97 rfl Tryd.underlying97 l.length rfl rfl (by omega) (by decide) ?_; intro w1 ho1 hb1; have O1 : Hid _ := ho1; have B1 : Hid (Below W.heap.size W w1) := hb1; clear ho1 hb1)
  have D2 := DE.out w1 B1.out O1.out
  have AL := (Below.refl _ w1).alloc (Nat.le_refl _) (.cells #[.slice (some ⟨W.heap.size, 0, none⟩) l.length l.length] 97)
  have cE2 := ((World.cell?_of_block (w := w1) (a := ⟨w.heap.size, 0, none⟩) (AL.block w.heap.size (by have := B1.out.size; have := ZW.out; omega))).trans ((World.cell?_of_block (w := W) (w' := w1) (a := ⟨w.heap.size, 0, none⟩) (B1.out.block w.heap.size (by have := ZW.out; omega))).trans cE))
  obtain ⟨W2, hW2⟩ : ∃ W2, W2 = w1.alloc (.cells #[.slice (some ⟨W.heap.size, 0, none⟩) l.length l.length] 97) := ⟨_, rfl⟩
  rw [← hW2] at D2 cE2 ⊢
  have D3 : Hid _ := D2
  clear hW2 AL D2 DE cE
  go_wp2_with fail
  refine Calls.mono D3.out ?_
  rintro e w2 ⟨rfl, c1, c2, ⟨b, c3, sb⟩, hb2⟩
  have S2 : Hid (SA w2 b 256 (sureP l)) := sb
  have B2 : Hid (Below w.heap.size w w2) := hb2
  clear hb2 sb cE2
  have hi : (l.length : Int) - 1 = ((l.length - 1 : Nat) : Int) := by omega
  have hi2 : l.length - 1 < l.length := by omega
  go_wp2
  go_ret
  exact ⟨_, rfl, S2.out, B2.out⟩
end Go.Proofs.YthmppnmmlblbhaaDoor
namespace Go.Proofs.YthmppnmmlblbhaaDoor
open Go.RowKit Go.Maps

def sureL (l : List Opn) : List ByteArray := if chkO l = 0 then (textsL l 3).filter (sureP l) else []
theorem keepK_in {α : Type} (l : List α) (d : α) (pr : Nat → Bool) : ∀ k, k ≤ l.length → ∀ x ∈ keepK l d pr k, x ∈ l
  | 0, _, x, hx => by simp [keepK] at hx
  | k + 1, hk, x, hx => by
    rw [keepK] at hx
    split at hx
    · exact keepK_in l d pr k (by omega) x hx
    · rw [List.mem_append, List.mem_singleton] at hx
      rcases hx with hx | hx
      · exact keepK_in l d pr k (by omega) x hx
      · rw [hx, List.getD_eq_getElem?_getD, List.getElem?_eq_getElem (by omega)]; exact List.getElem_mem _
theorem textsL_in {l : List Opn} {kd : Int} {x : ByteArray} (h : x ∈ textsL l kd) : ∃ o ∈ l, o.kind = kd ∧ o.text = x := txL_mem (keepK_in _ _ _ _ (Nat.le_refl _) _ h)
theorem textsL_len (l : List Opn) (kd : Int) : (textsL l kd).length ≤ l.length := Nat.le_trans (keepK_len _ _ _ _) (txL_len l kd)
set_option maxHeartbeats 4000000 in
theorem sure1_any (b bb n : Nat) (p : ByteArray → Bool) (s : ByteArray) (w : World) (c : w.cell? ⟨bb, 0, none⟩ = some (.map (some b))) (h : SA w b n p) (hs : s.size ≤ maxLen) :
    Calls Tryd.prog 61 (#[.string s] ++ #[.pointer (some ⟨bb, 0, none⟩)]) w fun e w' => e = .returned (.bool (!p s)) ∧ Below w.heap.size w w' := by
  have HA : Hid _ := has_any b n p s w h hs
  clear h
  go_enter Tryd.func61, Tryd.ntmps61
  go_wp2_with fail
  refine Calls.mono HA.out ?_
  rintro e w1 ⟨rfl, hb1⟩
  have B1 : Hid (Below w.heap.size w w1) := hb1
  clear hb1 HA
  go_wp2_with fail
  go_ret
  exact ⟨rfl, B1.out⟩
theorem sure_remove (L : List ByteArray) (b bb n : Nat) (p : ByteArray → Bool) (v : Value) (w : World) (c : w.cell? ⟨bb, 0, none⟩ = some (.map (some b))) (h : SA w b n p) (hL : GS KS w v L) (hs : ∀ s ∈ L, s.size ≤ maxLen) (hlm : L.length ≤ 1000000) :
    Calls Tryd.prog 45 #[v, .func (.func 61) #[] #[.pointer (some ⟨bb, 0, none⟩)]] w fun e w' => ∃ q cp, e = .returned (.slice q (L.filter p).length cp) ∧ OwnG KS w' w.heap.size (.slice q (L.filter p).length cp) (L.filter p) ∧ Below w.heap.size w w' := by
  have eK : keepK L ByteArray.empty (fun k => !p (L.getD k ByteArray.empty)) L.length = L.filter p := by
    rw [keepK_filter L ByteArray.empty (fun x => !p x) _ (Nat.le_refl _), List.take_length]; simp
  refine (removeS_any v L 61 _ (fun k => !p (L.getD k ByteArray.empty)) w _ (fun _ => False) none_vis hL (fun x _ e => e) hlm (fun x e => e) Tryd.call61 ?_).mono ?_
  · intro k F wk hk hF _ hbt
    have hB := hbt.below
    refine (sure1_any b bb n p _ wk ((hB.cell (p := ⟨bb, 0, none⟩) (block_lt_of_cell c)).trans c) (h.below hB) (hs _ (by rw [List.getD_eq_getElem?_getD, List.getElem?_eq_getElem hk]; exact List.getElem_mem _))).mono ?_
    rintro e w' ⟨rfl, hb⟩
    exact ⟨rfl, F, hF, fun x hx => Or.inl hx, But.of_below hb⟩
  · rintro e w' ⟨q, cp, F', rfl, R⟩
    rw [eK] at R
    rw [eK]
    exact ⟨q, cp, rfl, R.s, R.bt.below⟩
set_option maxHeartbeats 4000000 in
theorem sure_any (v : Value) (l : List Opn) (w : World) (h : OS w v l) (ht : ∀ c ∈ l, c.text.size ≤ maxLen) (hv : NV w) (hlm : l.length ≤ 1000000000000000) :
    Calls Tryd.prog 25 #[v] w fun e w' => AnsT w w' e (sureL l) (chkO l) := by
  have CK : Hid _ := check_any v l w h ht hv hlm
  by_cases hc : chkO l = 0
  · have e1 : sureL l = (textsL l 3).filter (sureP l) := by unfold sureL; rw [if_pos hc]
    rw [e1, hc]
    rw [hc] at CK
    obtain ⟨hl, hwh, _⟩ := chkO_ok hc
    have TX : Hid (∀ w1, Below w.heap.size w w1 → _) := fun w1 b => textsOf_any v l 3 w1 (h.below b) hl ht
    have SO : Hid (∀ w1, Below w.heap.size w w1 → _) := fun w1 b => sureOf_any v l w1 (h.below b) hwh ht hl
    have SR : Hid (∀ b bb w1 u, w1.cell? ⟨bb, 0, none⟩ = some (.map (some b)) → SA w1 b 256 (sureP l) → GS KS w1 u (textsL l 3) → _) := fun b bb w1 u h1 h2 h3 => sure_remove (textsL l 3) b bb 256 (sureP l) u w1 h1 h2 h3 (fun s hs => by
      obtain ⟨o, ho, _, rfl⟩ := textsL_in hs
      exact ht o ho) (by have := textsL_len l 3; omega)
    obtain ⟨p, cap, rfl⟩ := h.form
    have hmf : ∀ (fn : Fn) (first cap : Array Value) (w : World), (Instr.makeFunc fn first cap).run Tryd.prog w = .ok (.func fn first cap) w := fun _ _ _ _ => rfl
    generalize (textsL l 3) = L at *
    generalize sureP l = P at *
    clear h ht hv hc e1 hwh
    go_enter Tryd.func25, Tryd.ntmps25
    go_wp2_with fail
    refine Calls.mono CK.out ?_
    rintro e w1 ⟨rfl, hb1⟩
    have B1 : Hid (Below w.heap.size w w1) := hb1
    clear hb1 CK
    go_wp2_with fail
    refine Calls.mono (SO.out _ B1.out) ?_
    rintro e w2 ⟨b, rfl, hs, hb2⟩
    have B2 : Hid (Below w.heap.size w w2) := B1.out.trans (hb2.mono B1.out.size)
    have S2 : Hid (SA w2 b 256 P) := hs
    clear hb2 hs SO B1
    go_wp2_with fail
    have AL := (Below.refl _ w2).alloc (Nat.le_refl _) (.cells #[.map (some b)] 66)
    have c3 : (w2.alloc (.cells #[.map (some b)] 66)).cell? ⟨w2.heap.size, 0, none⟩ = some (.map (some b)) := box_cell (heap_alloc_new _ _)
    have B3 : Hid (Below w.heap.size w (w2.alloc (.cells #[.map (some b)] 66))) := B2.out.trans (AL.mono B2.out.size)
    have S3 : Hid (SA (w2.alloc (.cells #[.map (some b)] 66)) b 256 P) := S2.out.below AL
    refine Calls.mono (TX.out _ B3.out) ?_
    rintro e w4 ⟨p4, c4, rfl, ho, hb4⟩
    have B4 : Hid (Below w.heap.size w w4) := B3.out.trans (hb4.mono B3.out.size)
    have O4 : Hid (OwnG KS w4 w.heap.size (.slice p4 L.length c4) L) := ho.low B3.out.size
    have S4 : Hid (SA w4 b 256 P) := S3.out.below hb4
    have C4 : Hid (w4.cell? ⟨w2.heap.size, 0, none⟩ = some (.map (some b))) := (hb4.cell (p := ⟨w2.heap.size, 0, none⟩) (block_lt_of_cell c3)).trans c3
    clear ho hb4 TX B3 S3 S2 B2 AL c3
    go_wp2_with fail
    refine Calls.mono (SR.out _ _ _ _ C4.out S4.out (O4.out.gs KS_ok.len)) ?_
    rintro e w5 ⟨p5, c5, rfl, ho5, hb5⟩
    have B5 : Hid (Below w.heap.size w w5) := B4.out.trans (hb5.mono B4.out.size)
    have O5 : Hid (OwnG KS w5 w.heap.size (.slice p5 (L.filter P).length c5) (L.filter P)) := ho5.low B4.out.size
    clear ho5 hb5 SR
    go_wp2_with fail
    go_ret2
    exact ⟨p5, c5, rfl, O5.out, B5.out⟩
  · have e1 : sureL l = [] := by unfold sureL; rw [if_neg hc]
    rw [e1]
    obtain ⟨p, cap, rfl⟩ := h.form
    generalize chkO l = c at *
    have h1 : (c == 0) = false := by simpa using hc
    have h2 : (c != 0) = true := by simpa using hc
    clear h ht hv e1
    go_enter Tryd.func25, Tryd.ntmps25
    go_wp2_with fail
    refine Calls.mono CK.out ?_
    rintro e w1 ⟨rfl, hb1⟩
    have B1 : Hid (Below w.heap.size w w1) := hb1
    clear hb1 CK
    go_wp2_with fail
    go_ret2
    exact ⟨none, 0, rfl, OwnG.nil _ _ _, B1.out⟩
end Go.Proofs.YthmppnmmlblbhaaDoor
