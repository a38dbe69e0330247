/- The walk of the law FailWraps. -/
import Derived.Test.YtanfkaljbphbbaaDoorGx8
namespace Go.Proofs.YtanfkaljbphbbaaDoor
open Go.RowKit

/-- The law's copies so far. -/
structure OI (w wk : World) (va : Value) (us : List Value) (ll : List (List Cr)) (j : Nat) : Prop where
  s : OwnS wk w.heap.size va us
  ln : us.length = j
  cs : ∀ k (h1 : k < us.length) (h2 : k < ll.length), CS wk us[k] ll[k] ∧ ∀ x, us[k].ownBlock = some x → va.ownBlock ≠ some x ∧ x < wk.heap.size
  bl : Below w.heap.size w wk
theorem OwnC.lt {w : World} {base : Nat} {v : Value} {l : List Cr} (h : OwnC w base v l) : ∀ x, v.ownBlock = some x → base ≤ x ∧ x < w.heap.size := fun x hx => World.ownsRow.lt h x hx
theorem OI.next {w wr w5 w7 : World} {va u : Value} {us : List Value} {ll : List (List Cr)} {j g c : Nat} (h : OI w wr va us ll j) (hj : j < ll.length)
    (b5 : Below wr.heap.size wr w5) (o5 : OwnC w5 wr.heap.size u ll[j])
    (o7 : OwnS w7 w.heap.size (.slice (some ⟨g, 0, none⟩) (us.length + 1) c) (us ++ [u])) (b7 : Below w.heap.size w5 w7) (k7 : ∀ k, k < w5.heap.size → some k ≠ va.ownBlock → w7.heap[k]? = w5.heap[k]?) (g7 : va.ownBlock = some g ∨ w5.heap.size ≤ g) :
    OI w w7 (.slice (some ⟨g, 0, none⟩) (us.length + 1) c) (us ++ [u]) ll (j + 1) := by
  have hs5 := b5.size
  have hs7 := b7.size
  have hva : ∀ q, va.ownBlock = some q → w.heap.size ≤ q ∧ q < wr.heap.size := fun q hq => World.ownsRow.lt h.s q hq
  refine ⟨o7, by simp [h.ln], fun k h1 h2 => ?_, h.bl.trans ((b5.mono h.bl.size).trans b7)⟩
  by_cases hk : k < us.length
  · have e : (us ++ [u])[k] = us[k] := List.getElem_append_left hk
    rw [e]
    obtain ⟨c1, c2⟩ := h.cs k hk h2
    refine ⟨(c1.below b5).blk hs7 (fun x hx hlt => ?_), fun x hx => ?_⟩
    · exact k7 x hlt (fun e => (c2 x hx).1 e.symm)
    · have := c2 x hx
      refine ⟨fun e => ?_, by omega⟩
      simp only [Value.ownBlock, Option.some.injEq] at e
      rcases g7 with e4 | e4
      · exact this.1 (by rw [e4, e])
      · omega
  · have hk2 : k = j := by have := h.ln; simp at h1; omega
    subst hk2
    have e : (us ++ [u])[k] = u := by simp [← h.ln]
    rw [e]
    have hu := o5.lt
    refine ⟨o5.cs.blk hs7 (fun x hx hlt => k7 x hlt (fun e => ?_)), fun x hx => ?_⟩
    · have := hu x hx; have := hva x e.symm; omega
    · have := hu x hx
      refine ⟨fun e => ?_, by omega⟩
      simp only [Value.ownBlock, Option.some.injEq] at e
      rcases g7 with e4 | e4
      · have := hva g e4; omega
      · omega
theorem OI.fs {w wk : World} {va : Value} {us : List Value} {ll : List (List Cr)} {j : Nat} (h : OI w wk va us ll j) (hj : j = ll.length) : FS wk va ll :=
  h.s.fs (by rw [h.ln, hj]) (fun k h1 h2 => (h.cs k h1 h2).1)
/-- All that the law looks at, as it lies. -/
structure LW (w wk : World) (own l one mine : Value) (ll : List (List Cr)) (x : List Cr) : Prop where
  bl : Below w.heap.size w wk
  fv : FV wk
  own : FS wk own ll
  l : FS wk l ll
  one : CS wk one x
  mine : CS wk mine x
theorem LW.below {w wk w' : World} {own l one mine : Value} {ll : List (List Cr)} {x : List Cr} (h : LW w wk own l one mine ll x) (b : Below wk.heap.size wk w') : LW w w' own l one mine ll x :=
  ⟨h.bl.trans (b.mono h.bl.size), h.fv.below b, h.own.below b, h.l.below b, h.one.below b, h.mine.below b⟩
theorem arL_len (k : Int) (t : ByteArray) (ll : List (List Cr)) : (arL k t ll).length ≤ 100000000000000000 := by
  unfold arL; split
  · simp
  · rw [List.length_append, List.length_singleton]; omega
theorem wrapL_len (n : ByteArray) (l : List Cr) : (wrapL n l).length ≤ 100000000000000000 := by
  unfold wrapL; split
  · exact arL_len _ _ _
  · simp
theorem tokL_len (n : ByteArray) (l : List Cr) : (tokL n l).length ≤ 100000000000000000 := by
  unfold tokL; split
  · exact arL_len _ _ _
  · simp
theorem joinL_len (ll : List (List Cr)) : (joinL ll).length ≤ 100000000000000000 := by
  unfold joinL; split
  · exact arL_len _ _ _
  · simp
set_option maxHeartbeats 4000000 in
set_option maxRecDepth 100000 in
theorem failWraps_any (n t : ByteArray) (v : Value) (ll : List (List Cr)) (w : World) (h : FS w v ll) (hn : n.size ≤ maxLen) (hts : t.size ≤ maxLen) (ht : ∀ x ∈ ll, ∀ c ∈ x, c.text.size ≤ maxLen) (hx : ∀ x ∈ ll, x.length * 32 ≤ 140737488355328) (hl : ll.length * 24 ≤ 140737488351232) (hv : FV w) :
    Calls Tryd.prog 4 #[.string n, .string t, v] w fun e w' => e = .returned (.bool true) ∧ Below w.heap.size w w' := by
  obtain ⟨p, cap, rfl⟩ := h.form
  have HS : Hid (FS w (.slice p ll.length cap) ll) := h
  have HV : Hid (FV w) := hv
  have HX : Hid (∀ x ∈ ll, x.length * 32 ≤ 140737488355328) := hx
  have HT : Hid (∀ x ∈ ll, ∀ c ∈ x, c.text.size ≤ maxLen) := ht
  have HN : Hid (n.size ≤ maxLen ∧ t.size ≤ maxLen) := ⟨hn, hts⟩
  have O0 : Hid (OI w (w.alloc (.cells #[] 23)) (.slice (some ⟨w.heap.size, 0, none⟩) 0 0) [] ll 0) := ⟨ownS_empty w, rfl, fun k h1 => by simp at h1, (Below.refl _ _).alloc (Nat.le_refl _) _⟩
  clear h hv hx ht hn hts
  go_enter Tryd.func4, Tryd.ntmps4
  go_wp2
  go_loopw [7, 8] (fun a b wr => ∃ (j : Nat) (va : Value) (us : List Value) (wk : World), j ≤ ll.length ∧ b = .int .i64 j ∧ va = a ∧ wk = wr ∧ Hid (OI w wk va us ll j)) (fun _ b _ => ll.length - (intOf b).toNat)
  case atStart => exact ⟨0, _, [], _, Nat.zero_le _, rfl, rfl, rfl, O0⟩
  case round =>
    obtain ⟨j, va, us, wr, hj, rfl, rfl, rfl, HI⟩ := hrel
    clear O0
    by_cases hlt : j < ll.length
    · obtain ⟨X, o, pu, cu, rfl, hX, hc, hcs⟩ := HS.out.at hlt
      have hc2 := (HI.out.bl.cell (p := ⟨X, o + j, none⟩) hX).trans hc
      have CP := copyFail_any _ ll[j] wr (hcs.below HI.out.bl) (HX.out _ (List.getElem_mem hlt))
      have LN : Hid ((us.length + 1) * 24 ≤ 140737488355328) := by
        show (us.length + 1) * 24 ≤ 140737488355328
        have := HI.out.ln; omega
      have OW : Hid (∀ w5, Below wr.heap.size wr w5 → OwnS w5 w.heap.size va us ∧ w.heap.size ≤ w5.heap.size) := fun w5 b => ⟨HI.out.s.below b, by have := HI.out.bl.size; have := b.size; omega⟩
      clear hcs hc
      go_wp2_with (first | (go_at_call 9; refine CP.mono ?_; rintro e w5 ⟨p5, c5, rfl, ho5, hb5⟩; have B5 : Hid (Below wr.heap.size wr w5) := hb5; have O5 : Hid (OwnC w5 wr.heap.size (.slice p5 ll[j].length c5) ll[j]) := ho5; clear ho5 hb5) | (at_builtin; refine append_sv rfl (.tmp 23) (.tmp 29) 33 rfl w.heap.size Tryd.underlying33 info_fl _ _ _ va us p5 ll[j].length c5 _ rfl (OW.out _ B5.out).1 _ rfl rfl rfl LN.out (OW.out _ B5.out).2 ?_; intro g1 c1 w6 ho6 hb6 hk6 hg6))
      go_roundw
      case rel => exact ⟨j + 1, _, _, _, by omega, by go_num, rfl, rfl, HI.out.next hlt B5.out O5.out ho6 hb6 hk6 hg6⟩
      case measure => simp [intOf]; omega
    · have hje : j = ll.length := by omega
      have FO : Hid (FS wr va ll) := HI.out.fs hje
      have BL : Hid (Below w.heap.size w wr) := HI.out.bl
      obtain ⟨po, co, rfl⟩ := FO.out.form
      clear HI
      subst hje
      obtain ⟨x, hxx⟩ : ∃ x, x = ll.headD [] := ⟨_, rfl⟩
      have hmem : x = [] ∨ x ∈ ll := by
        rw [hxx]; cases ll with
        | nil => left; rfl
        | cons a r => right; simp
      have hxl : x.length * 32 ≤ 140737488355328 := by
        rcases hmem with e | e
        · rw [e]; simp
        · exact HX.out x e
      have HXx : Hid (x.length * 32 ≤ 140737488355328) := hxl
      have hxt : ∀ c ∈ x, c.text.size ≤ maxLen := by
        rcases hmem with e | e
        · rw [e]; intro c hc; cases hc
        · exact HT.out x e
      have HLx2 : Hid (x.length ≤ 100000000000000000) := by show x.length ≤ 100000000000000000; omega
      have HB : Hid (∀ j (hj : j < ll.length), ll[j].length ≤ 100000000000000000) := fun j hj => by have := HX.out _ (List.getElem_mem hj); omega
      have WR : Hid (∀ w' v', CS w' v' x → FV w' → Calls Tryd.prog 17 #[.string n, v'] w' fun e w'' => Ans w' w'' e (wrapL n x) (wrapE n x)) := fun w' v' cs fv => wrap_any n v' x w' HN.out.1 cs hxt (by omega) fv
      have RW : Hid (∀ w' v', CS w' v' x → Calls Tryd.prog 18 #[.string n, v'] w' fun e w'' => AnsR w' w'' e (wrapL n x) (wrapE n x)) := fun w' v' cs => rwrap_any n v' x w' HN.out.1 cs hxt (by omega)
      have TK : Hid (∀ w' v', CS w' v' x → FV w' → Calls Tryd.prog 20 #[.string t, v'] w' fun e w'' => Ans w' w'' e (tokL t x) (tokE t x)) := fun w' v' cs fv => token_any t v' x w' HN.out.2 cs hxt (by omega) fv
      have RT : Hid (∀ w' v', CS w' v' x → Calls Tryd.prog 21 #[.string t, v'] w' fun e w'' => AnsR w' w'' e (tokL t x) (tokE t x)) := fun w' v' cs => rtoken_any t v' x w' HN.out.2 cs hxt (by omega)
      have hlj : ∀ y ∈ ll, y.length ≤ 1000000000000000 := fun y hy => by have := HX.out y hy; omega
      have JN : Hid (∀ w' v', FS w' v' ll → FV w' → Calls Tryd.prog 22 #[v'] w' fun e w'' => Ans w' w'' e (joinL ll) (joinE ll)) := fun w' v' fs fv => join_any v' ll w' fs HT.out hlj (by omega) fv
      have RJ : Hid (∀ w' v', FS w' v' ll → Calls Tryd.prog 23 #[v'] w' fun e w'' => AnsR w' w'' e (joinL ll) (joinE ll)) := fun w' v' fs => rjoin_any v' ll w' fs HT.out hlj
      have HWL : Hid ((wrapL n x).length ≤ 100000000000000000) := wrapL_len n x
      have HTL : Hid ((tokL t x).length ≤ 100000000000000000) := tokL_len t x
      have HJL : Hid ((joinL ll).length ≤ 100000000000000000) := joinL_len ll
      generalize wrapL n x = WL at *
      generalize wrapE n x = WE at *
      generalize tokL t x = TL at *
      generalize tokE t x = TE at *
      generalize joinL ll = JL at *
      generalize joinE ll = JE at *
      have A1 : Hid (Below wr.heap.size wr (wr.alloc (.cells #[] 64))) := (Below.refl _ _).alloc (Nat.le_refl _) _
      have B1 : Hid (Below w.heap.size w (wr.alloc (.cells #[] 64))) := BL.out.trans (A1.out.mono BL.out.size)
      clear hxl hxt hmem hlj HN BL HX HT
      by_cases hz : ll.length = 0
      · have hx0 : x = [] := by rw [hxx, List.length_eq_zero_iff.1 hz]; rfl
        have H1 : Hid (CS (wr.alloc (.cells #[] 64)) (.slice (some ⟨wr.heap.size, 0, none⟩) 0 0) x) := by
          show CS _ _ _; rw [hx0]; exact (ownC_empty wr).cs
        clear hxx hx0
        obtain rfl : ll = [] := List.length_eq_zero_iff.1 hz
        clear hz
        go_wp2_with fail
        refine (copyFail_any _ x _ H1.out HXx.out).mono ?_
        rintro e w2 ⟨p2, c2, rfl, ho2, hb2⟩
        have L2 : Hid (LW w w2 (.slice po 0 co) (.slice p 0 cap) (.slice (some ⟨wr.heap.size, 0, none⟩) 0 0) (.slice p2 x.length c2) [] x) := ⟨B1.out.trans (hb2.mono B1.out.size), HV.out.below (B1.out.trans (hb2.mono B1.out.size)), (FO.out.below A1.out).below hb2, HS.out.below (B1.out.trans (hb2.mono B1.out.size)), H1.out.below hb2, ho2.cs⟩
        clear ho2 hb2 H1 FO A1
        go_wp2_with fail
        refine (WR.out w2 _ L2.out.mine L2.out.fv).mono ?_
        rintro e w3 ⟨p3, c3, rfl, ho3, hb3⟩
        have A3 : Hid (OwnC w3 w2.heap.size (.slice p3 WL.length c3) WL) := ho3
        have B3 : Hid (Below w2.heap.size w2 w3) := hb3
        have L3 : Hid (LW w w3 (.slice po 0 co) (.slice p 0 cap) (.slice (some ⟨wr.heap.size, 0, none⟩) 0 0) (.slice p2 x.length c2) [] x) := L2.out.below hb3
        clear ho3 hb3
        go_wp2_with fail
        refine (RW.out w3 _ L3.out.one).mono ?_
        rintro e w4 ⟨p4, c4, rfl, ho4, hb4⟩
        have R4 : Hid (CS w4 (.slice p4 WL.length c4) WL) := ho4
        have A4 : Hid (OwnC w4 w2.heap.size (.slice p3 WL.length c3) WL) := A3.out.below hb4
        have B4 : Hid (Below w2.heap.size w2 w4) := B3.out.trans (hb4.mono B3.out.size)
        clear ho4 hb4 A3 B3 L3
        go_wp2_with fail
        refine (sameFail_same w4 _ _ WL A4.out.cs R4.out HWL.out).mono ?_
        rintro e w5 ⟨rfl, n5, hw5⟩
        have hb5 : Below w4.heap.size w4 w5 := hw5 ▸ below_drewN' (Below.refl _ _) n5
        have A5 : Hid (OwnC w5 w2.heap.size (.slice p3 WL.length c3) WL) := A4.out.below hb5
        have B5 : Hid (Below w2.heap.size w2 w5) := B4.out.trans (hb5.mono B4.out.size)
        clear hb5 hw5 A4 B4 R4
        go_wp2_with fail
        refine (spoil_own w5 w2.heap.size _ WL A5.out).mono ?_
        rintro e w6 ⟨rfl, hk6⟩
        have L6 : Hid (LW w w6 (.slice po 0 co) (.slice p 0 cap) (.slice (some ⟨wr.heap.size, 0, none⟩) 0 0) (.slice p2 x.length c2) [] x) := L2.out.below (B5.out.trans (hk6.below (fun x hx => (A5.out.lt x hx).1)))
        clear hk6 A5 B5 L2
        go_wp2_with fail
        refine (TK.out w6 _ L6.out.mine L6.out.fv).mono ?_
        rintro e w7 ⟨p7, c7, rfl, ho7, hb7⟩
        have A7 : Hid (OwnC w7 w6.heap.size (.slice p7 TL.length c7) TL) := ho7
        have B7 : Hid (Below w6.heap.size w6 w7) := hb7
        have L7 : Hid (LW w w7 (.slice po 0 co) (.slice p 0 cap) (.slice (some ⟨wr.heap.size, 0, none⟩) 0 0) (.slice p2 x.length c2) [] x) := L6.out.below hb7
        clear ho7 hb7
        go_wp2_with fail
        refine (RT.out w7 _ L7.out.one).mono ?_
        rintro e w8 ⟨p8, c8, rfl, ho8, hb8⟩
        have R8 : Hid (CS w8 (.slice p8 TL.length c8) TL) := ho8
        have A8 : Hid (OwnC w8 w6.heap.size (.slice p7 TL.length c7) TL) := A7.out.below hb8
        have B8 : Hid (Below w6.heap.size w6 w8) := B7.out.trans (hb8.mono B7.out.size)
        clear ho8 hb8 A7 B7 L7
        go_wp2_with fail
        refine (sameFail_same w8 _ _ TL A8.out.cs R8.out HTL.out).mono ?_
        rintro e w9 ⟨rfl, n9, hw9⟩
        have hb9 : Below w8.heap.size w8 w9 := hw9 ▸ below_drewN' (Below.refl _ _) n9
        have A9 : Hid (OwnC w9 w6.heap.size (.slice p7 TL.length c7) TL) := A8.out.below hb9
        have B9 : Hid (Below w6.heap.size w6 w9) := B8.out.trans (hb9.mono B8.out.size)
        clear hb9 hw9 A8 B8 R8
        have L9 : Hid (LW w w9 (.slice po 0 co) (.slice p 0 cap) (.slice (some ⟨wr.heap.size, 0, none⟩) 0 0) (.slice p2 x.length c2) [] x) := L6.out.below B9.out
        go_wp2_with fail
        refine (sameFail_same w9 _ _ x L9.out.mine L9.out.one HLx2.out).mono ?_
        rintro e w10 ⟨rfl, n10, hw10⟩
        have hb10 : Below w9.heap.size w9 w10 := hw10 ▸ below_drewN' (Below.refl _ _) n10
        have A10 : Hid (OwnC w10 w6.heap.size (.slice p7 TL.length c7) TL) := A9.out.below hb10
        have B10 : Hid (Below w6.heap.size w6 w10) := B9.out.trans (hb10.mono B9.out.size)
        clear hb10 hw10 A9 B9 L9
        go_wp2_with fail
        refine (spoil_own w10 w6.heap.size _ TL A10.out).mono ?_
        rintro e w11 ⟨rfl, hk11⟩
        have L11 : Hid (LW w w11 (.slice po 0 co) (.slice p 0 cap) (.slice (some ⟨wr.heap.size, 0, none⟩) 0 0) (.slice p2 x.length c2) [] x) := L6.out.below (B10.out.trans (hk11.below (fun x hx => (A10.out.lt x hx).1)))
        clear hk11 A10 B10 L6
        go_wp2_with fail
        refine (JN.out w11 _ L11.out.own L11.out.fv).mono ?_
        rintro e w12 ⟨p12, c12, rfl, ho12, hb12⟩
        have A12 : Hid (OwnC w12 w11.heap.size (.slice p12 JL.length c12) JL) := ho12
        have B12 : Hid (Below w11.heap.size w11 w12) := hb12
        have L12 : Hid (LW w w12 (.slice po 0 co) (.slice p 0 cap) (.slice (some ⟨wr.heap.size, 0, none⟩) 0 0) (.slice p2 x.length c2) [] x) := L11.out.below hb12
        clear ho12 hb12
        go_wp2_with fail
        refine (RJ.out w12 _ L12.out.l).mono ?_
        rintro e w13 ⟨p13, c13, rfl, ho13, hb13⟩
        have R13 : Hid (CS w13 (.slice p13 JL.length c13) JL) := ho13
        have A13 : Hid (OwnC w13 w11.heap.size (.slice p12 JL.length c12) JL) := A12.out.below hb13
        have B13 : Hid (Below w11.heap.size w11 w13) := B12.out.trans (hb13.mono B12.out.size)
        clear ho13 hb13 A12 B12 L12
        go_wp2_with fail
        refine (sameFail_same w13 _ _ JL A13.out.cs R13.out HJL.out).mono ?_
        rintro e w14 ⟨rfl, n14, hw14⟩
        have hb14 : Below w13.heap.size w13 w14 := hw14 ▸ below_drewN' (Below.refl _ _) n14
        have A14 : Hid (OwnC w14 w11.heap.size (.slice p12 JL.length c12) JL) := A13.out.below hb14
        have B14 : Hid (Below w11.heap.size w11 w14) := B13.out.trans (hb14.mono B13.out.size)
        clear hb14 hw14 A13 B13 R13
        go_wp2_with fail
        refine (spoil_own w14 w11.heap.size _ JL A14.out).mono ?_
        rintro e w15 ⟨rfl, hk15⟩
        have L15 : Hid (LW w w15 (.slice po 0 co) (.slice p 0 cap) (.slice (some ⟨wr.heap.size, 0, none⟩) 0 0) (.slice p2 x.length c2) [] x) := L11.out.below (B14.out.trans (hk15.below (fun x hx => (A14.out.lt x hx).1)))
        clear hk15 A14 B14 L11
        go_wp2
        go_loopw [15] (fun b wl => ∃ (j : Nat) (wk : World), j = 0 ∧ b = .int .i64 j ∧ wk = wl ∧ Hid (LW w wk (.slice po 0 co) (.slice p 0 cap) (.slice (some ⟨wr.heap.size, 0, none⟩) 0 0) (.slice p2 x.length c2) [] x)) (fun b _ => 0)
        case atStart => exact ⟨0, _, rfl, rfl, rfl, L15⟩
        case round =>
          obtain ⟨j, wq, hj, rfl, rfl, LQ⟩ := hrel
          clear L15
          subst hj
          have SFM := sameFail_same wq _ _ x LQ.out.mine LQ.out.one HLx2.out
          go_wp2_with (go_at_call 16; refine SFM.mono ?_; rintro e wz ⟨rfl, nz, hwz⟩; have BZ : Hid (Below w.heap.size w wz) := LQ.out.bl.trans (hwz ▸ below_drewN' (Below.refl _ _) nz); clear hwz)
          go_ret
          exact ⟨rfl, BZ.out⟩
      · obtain ⟨X, o, pu, cu, hp, hX, hc, hcs⟩ := (HS.out.below B1.out).at (show 0 < ll.length by omega)
        subst hp
        have hx0 : ll[0] = x := by rw [hxx]; cases ll with
          | nil => simp at hz
          | cons a r => rfl
        rw [hx0] at hc hcs
        have H1 : Hid (CS (wr.alloc (.cells #[] 64)) (.slice pu x.length cu) x) := hcs
        rw [Nat.add_zero] at hc
        have hz1 : (0 : Int) < (ll.length : Int) := by omega
        have hz2 : 0 < ll.length := by omega
        clear hxx hx0 hcs hX hz
        go_wp2_with fail
        refine (copyFail_any _ x _ H1.out HXx.out).mono ?_
        rintro e w2 ⟨p2, c2, rfl, ho2, hb2⟩
        have L2 : Hid (LW w w2 (.slice po ll.length co) (.slice (some ⟨X, o, none⟩) ll.length cap) (.slice pu x.length cu) (.slice p2 x.length c2) ll x) := ⟨B1.out.trans (hb2.mono B1.out.size), HV.out.below (B1.out.trans (hb2.mono B1.out.size)), (FO.out.below A1.out).below hb2, HS.out.below (B1.out.trans (hb2.mono B1.out.size)), H1.out.below hb2, ho2.cs⟩
        clear ho2 hb2 H1 FO A1
        go_wp2_with fail
        refine (WR.out w2 _ L2.out.mine L2.out.fv).mono ?_
        rintro e w3 ⟨p3, c3, rfl, ho3, hb3⟩
        have A3 : Hid (OwnC w3 w2.heap.size (.slice p3 WL.length c3) WL) := ho3
        have B3 : Hid (Below w2.heap.size w2 w3) := hb3
        have L3 : Hid (LW w w3 (.slice po ll.length co) (.slice (some ⟨X, o, none⟩) ll.length cap) (.slice pu x.length cu) (.slice p2 x.length c2) ll x) := L2.out.below hb3
        clear ho3 hb3
        go_wp2_with fail
        refine (RW.out w3 _ L3.out.one).mono ?_
        rintro e w4 ⟨p4, c4, rfl, ho4, hb4⟩
        have R4 : Hid (CS w4 (.slice p4 WL.length c4) WL) := ho4
        have A4 : Hid (OwnC w4 w2.heap.size (.slice p3 WL.length c3) WL) := A3.out.below hb4
        have B4 : Hid (Below w2.heap.size w2 w4) := B3.out.trans (hb4.mono B3.out.size)
        clear ho4 hb4 A3 B3 L3
        go_wp2_with fail
        refine (sameFail_same w4 _ _ WL A4.out.cs R4.out HWL.out).mono ?_
        rintro e w5 ⟨rfl, n5, hw5⟩
        have hb5 : Below w4.heap.size w4 w5 := hw5 ▸ below_drewN' (Below.refl _ _) n5
        have A5 : Hid (OwnC w5 w2.heap.size (.slice p3 WL.length c3) WL) := A4.out.below hb5
        have B5 : Hid (Below w2.heap.size w2 w5) := B4.out.trans (hb5.mono B4.out.size)
        clear hb5 hw5 A4 B4 R4
        go_wp2_with fail
        refine (spoil_own w5 w2.heap.size _ WL A5.out).mono ?_
        rintro e w6 ⟨rfl, hk6⟩
        have L6 : Hid (LW w w6 (.slice po ll.length co) (.slice (some ⟨X, o, none⟩) ll.length cap) (.slice pu x.length cu) (.slice p2 x.length c2) ll x) := L2.out.below (B5.out.trans (hk6.below (fun x hx => (A5.out.lt x hx).1)))
        clear hk6 A5 B5 L2
        go_wp2_with fail
        refine (TK.out w6 _ L6.out.mine L6.out.fv).mono ?_
        rintro e w7 ⟨p7, c7, rfl, ho7, hb7⟩
        have A7 : Hid (OwnC w7 w6.heap.size (.slice p7 TL.length c7) TL) := ho7
        have B7 : Hid (Below w6.heap.size w6 w7) := hb7
        have L7 : Hid (LW w w7 (.slice po ll.length co) (.slice (some ⟨X, o, none⟩) ll.length cap) (.slice pu x.length cu) (.slice p2 x.length c2) ll x) := L6.out.below hb7
        clear ho7 hb7
        go_wp2_with fail
        refine (RT.out w7 _ L7.out.one).mono ?_
        rintro e w8 ⟨p8, c8, rfl, ho8, hb8⟩
        have R8 : Hid (CS w8 (.slice p8 TL.length c8) TL) := ho8
        have A8 : Hid (OwnC w8 w6.heap.size (.slice p7 TL.length c7) TL) := A7.out.below hb8
        have B8 : Hid (Below w6.heap.size w6 w8) := B7.out.trans (hb8.mono B7.out.size)
        clear ho8 hb8 A7 B7 L7
        go_wp2_with fail
        refine (sameFail_same w8 _ _ TL A8.out.cs R8.out HTL.out).mono ?_
        rintro e w9 ⟨rfl, n9, hw9⟩
        have hb9 : Below w8.heap.size w8 w9 := hw9 ▸ below_drewN' (Below.refl _ _) n9
        have A9 : Hid (OwnC w9 w6.heap.size (.slice p7 TL.length c7) TL) := A8.out.below hb9
        have B9 : Hid (Below w6.heap.size w6 w9) := B8.out.trans (hb9.mono B8.out.size)
        clear hb9 hw9 A8 B8 R8
        have L9 : Hid (LW w w9 (.slice po ll.length co) (.slice (some ⟨X, o, none⟩) ll.length cap) (.slice pu x.length cu) (.slice p2 x.length c2) ll x) := L6.out.below B9.out
        go_wp2_with fail
        refine (sameFail_same w9 _ _ x L9.out.mine L9.out.one HLx2.out).mono ?_
        rintro e w10 ⟨rfl, n10, hw10⟩
        have hb10 : Below w9.heap.size w9 w10 := hw10 ▸ below_drewN' (Below.refl _ _) n10
        have A10 : Hid (OwnC w10 w6.heap.size (.slice p7 TL.length c7) TL) := A9.out.below hb10
        have B10 : Hid (Below w6.heap.size w6 w10) := B9.out.trans (hb10.mono B9.out.size)
        clear hb10 hw10 A9 B9 L9
        go_wp2_with fail
        refine (spoil_own w10 w6.heap.size _ TL A10.out).mono ?_
        rintro e w11 ⟨rfl, hk11⟩
        have L11 : Hid (LW w w11 (.slice po ll.length co) (.slice (some ⟨X, o, none⟩) ll.length cap) (.slice pu x.length cu) (.slice p2 x.length c2) ll x) := L6.out.below (B10.out.trans (hk11.below (fun x hx => (A10.out.lt x hx).1)))
        clear hk11 A10 B10 L6
        go_wp2_with fail
        refine (JN.out w11 _ L11.out.own L11.out.fv).mono ?_
        rintro e w12 ⟨p12, c12, rfl, ho12, hb12⟩
        have A12 : Hid (OwnC w12 w11.heap.size (.slice p12 JL.length c12) JL) := ho12
        have B12 : Hid (Below w11.heap.size w11 w12) := hb12
        have L12 : Hid (LW w w12 (.slice po ll.length co) (.slice (some ⟨X, o, none⟩) ll.length cap) (.slice pu x.length cu) (.slice p2 x.length c2) ll x) := L11.out.below hb12
        clear ho12 hb12
        go_wp2_with fail
        refine (RJ.out w12 _ L12.out.l).mono ?_
        rintro e w13 ⟨p13, c13, rfl, ho13, hb13⟩
        have R13 : Hid (CS w13 (.slice p13 JL.length c13) JL) := ho13
        have A13 : Hid (OwnC w13 w11.heap.size (.slice p12 JL.length c12) JL) := A12.out.below hb13
        have B13 : Hid (Below w11.heap.size w11 w13) := B12.out.trans (hb13.mono B12.out.size)
        clear ho13 hb13 A12 B12 L12
        go_wp2_with fail
        refine (sameFail_same w13 _ _ JL A13.out.cs R13.out HJL.out).mono ?_
        rintro e w14 ⟨rfl, n14, hw14⟩
        have hb14 : Below w13.heap.size w13 w14 := hw14 ▸ below_drewN' (Below.refl _ _) n14
        have A14 : Hid (OwnC w14 w11.heap.size (.slice p12 JL.length c12) JL) := A13.out.below hb14
        have B14 : Hid (Below w11.heap.size w11 w14) := B13.out.trans (hb14.mono B13.out.size)
        clear hb14 hw14 A13 B13 R13
        go_wp2_with fail
        refine (spoil_own w14 w11.heap.size _ JL A14.out).mono ?_
        rintro e w15 ⟨rfl, hk15⟩
        have L15 : Hid (LW w w15 (.slice po ll.length co) (.slice (some ⟨X, o, none⟩) ll.length cap) (.slice pu x.length cu) (.slice p2 x.length c2) ll x) := L11.out.below (B14.out.trans (hk15.below (fun x hx => (A14.out.lt x hx).1)))
        clear hk15 A14 B14 L11
        go_wp2
        go_loopw [15] (fun b wl => ∃ (j : Nat) (wk : World), j ≤ ll.length ∧ b = .int .i64 j ∧ wk = wl ∧ Hid (LW w wk (.slice po ll.length co) (.slice (some ⟨X, o, none⟩) ll.length cap) (.slice pu x.length cu) (.slice p2 x.length c2) ll x)) (fun b _ => ll.length - (intOf b).toNat)
        case atStart => exact ⟨0, _, Nat.zero_le _, rfl, rfl, L15⟩
        case round =>
          obtain ⟨j, wq, hj, rfl, rfl, LQ⟩ := hrel
          clear L15
          by_cases hlt : j < ll.length
          · obtain ⟨X1, o1, q1, d1, hp1, hX1, hc1, hs1⟩ := LQ.out.own.at hlt
            obtain ⟨X2, o2, q2, d2, hp2, hX2, hc2, hs2⟩ := LQ.out.l.at hlt
            subst hp1
            injection hp2 with hp2
            injection hp2 with hp3 hp4 _
            subst hp3 hp4
            have SFJ : Hid (∀ w', Below wq.heap.size wq w' → _) := fun w' b => sameFail_same w' _ _ ll[j] (hs1.below b) (hs2.below b) (HB.out j hlt)
            clear hs1 hs2
            go_wp2
            go_region_with (go_at_call 16; refine (SFJ.out _ (Below.refl _ _).drew).mono ?_; rintro e wz ⟨rfl, nz, hwz⟩; have LZ : Hid (LW w wz (.slice (some ⟨X1, o1, none⟩) ll.length co) (.slice (some ⟨X, o, none⟩) ll.length cap) (.slice pu x.length cu) (.slice p2 x.length c2) ll x) := LQ.out.below (hwz ▸ below_drewN' (Below.refl _ _).drew nz); clear hwz)
            go_wp2
            all_goals first
              | exact ⟨⟨j + 1, _, by omega, by go_num, rfl, LZ⟩, by simp [intOf]; omega⟩
              | (go_roundw
                 case rel => exact ⟨j + 1, _, by omega, by go_num, rfl, LZ⟩
                 case measure => simp [intOf]; omega)
          · have SFM := sameFail_same wq _ _ x LQ.out.mine LQ.out.one HLx2.out
            go_wp2_with (go_at_call 16; refine SFM.mono ?_; rintro e wz ⟨rfl, nz, hwz⟩; have BZ : Hid (Below w.heap.size w wz) := LQ.out.bl.trans (hwz ▸ below_drewN' (Below.refl _ _) nz); clear hwz)
            go_ret
            exact ⟨rfl, BZ.out⟩
end Go.Proofs.YtanfkaljbphbbaaDoor
