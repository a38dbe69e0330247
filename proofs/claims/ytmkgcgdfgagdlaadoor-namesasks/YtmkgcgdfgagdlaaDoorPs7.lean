/- Names: sureOf. -/
import Derived.Test.YtmkgcgdfgagdlaaDoorPs6
namespace Go.Proofs.YtmkgcgdfgagdlaaDoor
open Go.RowKit Go.Maps

/-- What the whole row surely asks for. -/
def sureP (l : List Opn) : ByteArray → Bool := (sK l l.length).getD (l.length - 1) p0f
theorem cK_bd (l : List Opn) : ∀ k, k ≤ l.length → ∀ j, j < k → (cK l k).getD j 0 ≤ j + 1
  | 0, _, j, hj => by omega
  | k + 1, hk, j, hj => by
    rw [cK]
    by_cases e : j < k
    · rw [getD_app (by rw [cK_len]; exact e)]
      exact cK_bd l k (by omega) j e
    · have : j = k := by omega
      subst this
      rw [getD_end (cK_len l j)]
      exact cuS_bd l (by omega)
theorem sureEach_any (v : Value) (l : List Opn) (g bs be base : Nat) (w : World) (h : OS w v l) (hX : ∀ x, v.ownBlock = some x → x ≠ g) (hwh : wholeB l = true) (ht : ∀ c ∈ l, c.text.size ≤ maxLen) (hlm : l.length ≤ 256)
    (o : OwnG KM w base (.slice (some ⟨g, 0, none⟩) l.length l.length) (List.replicate l.length none)) (cs : w.cell? ⟨bs, 0, none⟩ = some (.slice (some ⟨g, 0, none⟩) l.length l.length)) (ce : w.cell? ⟨be, 0, none⟩ = some v) (hbs : bs ≠ g) (hbe : be ≠ g) :
    Calls Tryd.prog 64 #[v, .func (.func 91) #[] #[.pointer (some ⟨bs, 0, none⟩), .pointer (some ⟨be, 0, none⟩)]] w fun e w' => e = .returned (.tuple #[]) ∧ w'.cell? ⟨bs, 0, none⟩ = some (.slice (some ⟨g, 0, none⟩) l.length l.length) ∧ w'.cell? ⟨be, 0, none⟩ = some v ∧ (∃ b, w'.cell? ⟨g, l.length - 1, none⟩ = some (.map (some b)) ∧ SA w' b 256 (sureP l)) ∧ But (fun x => x = g) w w' := by
  have hls : bs < w.heap.size := block_lt_of_cell cs
  have hle : be < w.heap.size := block_lt_of_cell ce
  have hne := walk_ne (wholeB_ok hwh).2
  refine (eachWhole_any v l 91 #[.pointer (some ⟨bs, 0, none⟩), .pointer (some ⟨be, 0, none⟩)] w (SU l g base) (fun x => x = g) (SU_vis _ _ _) h (fun x hx e => hX x hx e) (wholeB_ok hwh).2 hlm ⟨[], rfl, by simpa [mRow] using o, fun j hj => by omega, fun x hx => by simp at hx, fun x => by simp⟩ Tryd.call91 (fun k F wk vp hk hI hP hap hfn hbt => ?_)).mono ?_
  · have hFg : F g := by
      obtain ⟨B, _, _, _, _, h4⟩ := hI
      exact (h4 g).2 (Or.inl rfl)
    exact sureV_any l k bs be g base F vp v wk hwh ht hk hlm hI ((World.cell?_of_block (w := w) (w' := wk) (a := ⟨bs, 0, none⟩) (hbt.block bs hls hbs)).trans cs) ((World.cell?_of_block (w := w) (w' := wk) (a := ⟨be, 0, none⟩) (hbt.block be hle hbe)).trans ce) hbs hbe hP (fun x hx e => hap x hx (e ▸ hFg)) (h.blk hbt.size (fun x hx hl => hbt.block x hl (hX x hx))) hX
  · rintro e w' ⟨rfl, F', ⟨B, h0, h1, h2, _, _⟩, _, hbt⟩
    have hl : (mRow B l.length).length = l.length := mRow_len (by omega)
    refine ⟨rfl, (World.cell?_of_block (w := w) (w' := w') (a := ⟨bs, 0, none⟩) (hbt.block bs hls hbs)).trans cs, (World.cell?_of_block (w := w) (w' := w') (a := ⟨be, 0, none⟩) (hbt.block be hle hbe)).trans ce, ⟨B.getD (l.length - 1) 0, ?_, ?_⟩, hbt⟩
    · rw [own_map h1 hl.symm (j := l.length - 1) (by omega), mRow_at (by omega)]
    · exact (h2 (l.length - 1) (by omega)).more (by have := cK_bd l l.length (Nat.le_refl _) (l.length - 1) (by omega); omega)
set_option maxHeartbeats 4000000 in
theorem sureOf_any (v : Value) (l : List Opn) (w : World) (h : OS w v l) (hwh : wholeB l = true) (ht : ∀ c ∈ l, c.text.size ≤ maxLen) (hlm : l.length ≤ 256) :
    Calls Tryd.prog 70 #[v] w fun e w' => ∃ b, e = .returned (.map (some b)) ∧ SA w' b 256 (sureP l) ∧ Below w.heap.size w w' := by
  have hne := walk_ne (wholeB_ok hwh).2
  obtain ⟨p, cap, rfl⟩ := h.form
  have HS : Hid (OS w (.slice p l.length cap) l) := h
  have HX : Hid (∀ x, (Value.slice p l.length cap).ownBlock = some x → x < w.heap.size) := fun x hx => h.lt hne hx
  have hmf : ∀ (fn : Fn) (first cap : Array Value) (w : World), (Instr.makeFunc fn first cap).run Tryd.prog w = .ok (.func fn first cap) w := fun _ _ _ _ => rfl
  clear h
  go_enter Tryd.func70, Tryd.ntmps70
  go_upto_region 1 with fail
  have AL0 : Below w.heap.size w (w.alloc (.cells #[.slice p l.length cap] 23)) := (Below.refl _ _).alloc (Nat.le_refl _) _
  have cE : (w.alloc (.cells #[.slice p l.length cap] 23)).cell? ⟨w.heap.size, 0, none⟩ = some (.slice p l.length cap) := box_cell (heap_alloc_new _ _)
  have zE : (w.alloc (.cells #[.slice p l.length cap] 23)).heap.size = w.heap.size + 1 := Array.size_push ..
  obtain ⟨W, hW⟩ : ∃ W, W = w.alloc (.cells #[.slice p l.length cap] 23) := ⟨_, rfl⟩
  rw [← hW] at AL0 cE zE ⊢
  clear hW
  have DE : Hid (∀ w1, Below W.heap.size W w1 → OwnG KM w1 W.heap.size (.slice (some ⟨W.heap.size, 0, none⟩) l.length l.length) (List.replicate l.length none) → Calls Tryd.prog 64 #[.slice p l.length cap, .func (.func 91) #[] #[.pointer (some ⟨w1.heap.size, 0, none⟩), .pointer (some ⟨w.heap.size, 0, none⟩)]] (w1.alloc (.cells #[.slice (some ⟨W.heap.size, 0, none⟩) l.length l.length] 103)) fun e w' => e = .returned (.tuple #[]) ∧ w'.cell? ⟨w1.heap.size, 0, none⟩ = some (.slice (some ⟨W.heap.size, 0, none⟩) l.length l.length) ∧ w'.cell? ⟨w.heap.size, 0, none⟩ = some (.slice p l.length cap) ∧ (∃ b, w'.cell? ⟨W.heap.size, l.length - 1, none⟩ = some (.map (some b)) ∧ SA w' b 256 (sureP l)) ∧ Below w.heap.size w w') := fun w1 hb ho => by
    have AL := (Below.refl _ w1).alloc (Nat.le_refl _) (.cells #[.slice (some ⟨W.heap.size, 0, none⟩) l.length l.length] 103)
    have hg : W.heap.size < w1.heap.size := (ho.lt rfl).2
    have cE1 := ((World.cell?_of_block (w := W) (w' := w1) (a := ⟨w.heap.size, 0, none⟩) (hb.block w.heap.size (by omega))).trans cE)
    have cE2 := ((World.cell?_of_block (w := w1) (a := ⟨w.heap.size, 0, none⟩) (AL.block w.heap.size (by omega))).trans cE1)
    have hb0 : Below w.heap.size w w1 := AL0.trans (hb.mono AL0.size)
    refine (sureEach_any (.slice p l.length cap) l W.heap.size w1.heap.size w.heap.size W.heap.size _ ((HS.out.below hb0).below AL) (fun x hx e => by have := HX.out x hx; omega) hwh ht hlm (ho.below AL) (box_cell (heap_alloc_new _ _)) cE2 (by omega) (by omega)).mono ?_
    rintro e w' ⟨rfl, c1, c2, c3, hbt⟩
    exact ⟨rfl, c1, c2, c3, (hb0.trans (AL.mono hb0.size)).trans ⟨hbt.os, hbt.tape, hbt.output, hbt.size, fun x hx => hbt.block x (Nat.lt_of_lt_of_le hx (Nat.le_trans hb0.size AL.size)) (by omega)⟩⟩
  have HWH : Hid (wholeB l = true) := hwh
  have ZW : Hid (W.heap.size = w.heap.size + 1) := zE
  clear AL0 zE hwh ht
  go_upto_region 2 with (at_make; refine make_g KM KM_ok none rfl rfl _ rfl _ _ 103 rfl Tryd.underlying103 l.length rfl rfl (by omega) (by decide) ?_; intro w1 ho1 hb1; have O1 : Hid _ := ho1; have B1 : Hid (Below W.heap.size W w1) := hb1; clear ho1 hb1)
  have D2 := DE.out w1 B1.out O1.out
  have AL := (Below.refl _ w1).alloc (Nat.le_refl _) (.cells #[.slice (some ⟨W.heap.size, 0, none⟩) l.length l.length] 103)
  have cE2 := ((World.cell?_of_block (w := w1) (a := ⟨w.heap.size, 0, none⟩) (AL.block w.heap.size (by have := B1.out.size; have := ZW.out; omega))).trans ((World.cell?_of_block (w := W) (w' := w1) (a := ⟨w.heap.size, 0, none⟩) (B1.out.block w.heap.size (by have := ZW.out; omega))).trans cE))
  obtain ⟨W2, hW2⟩ : ∃ W2, W2 = w1.alloc (.cells #[.slice (some ⟨W.heap.size, 0, none⟩) l.length l.length] 103) := ⟨_, rfl⟩
  rw [← hW2] at D2 cE2 ⊢
  have D3 : Hid _ := D2
  clear hW2 AL D2 DE cE
  go_wp2_with fail
  refine Calls.mono D3.out ?_
  rintro e w2 ⟨rfl, c1, c2, ⟨b, c3, sb⟩, hb2⟩
  have S2 : Hid (SA w2 b 256 (sureP l)) := sb
  have B2 : Hid (Below w.heap.size w w2) := hb2
  clear hb2 sb cE2
  have hi : (l.length : Int) - 1 = ((l.length - 1 : Nat) : Int) := by omega
  have hi2 : l.length - 1 < l.length := by omega
  go_wp2
  go_ret
  exact ⟨_, rfl, S2.out, B2.out⟩
end Go.Proofs.YtmkgcgdfgagdlaaDoor
