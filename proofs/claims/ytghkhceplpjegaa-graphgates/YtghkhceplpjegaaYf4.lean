/- Graph: components, walked. -/
import Derived.Test.YtghkhceplpjegaaYe7
import Derived.Test.YtghkhceplpjegaaYf5
import Derived.Deep.RegionHeld3
namespace Go.Proofs.Ytghkhceplpjegaa
open Go.RowKit Go.Shelf
attribute [local go_sem] Oper.semAt_some

set_option maxRecDepth 100000 in
set_option maxHeartbeats 32000000 in
theorem components_any (w : World) (N : Nat) (v : Value) (E : List (Nat × Nat)) (hg : GOK N E) (hv : GS KE w v (eI E)) : Calls Try.prog 50 #[.agg #[.int .i64 N, v]] w fun e w' => ∃ p c vs, e = .returned (.slice p (cmL N E).length c) ∧ vs.length = (cmL N E).length ∧ OwnG KS w' w.heap.size (.slice p (cmL N E).length c) vs ∧ (∀ i, i < (cmL N E).length → OwnG KI w' w.heap.size (slV (vs.getD i sl0)) (nI ((cmL N E).getD i []))) ∧ Below w.heap.size w w' := by
  obtain ⟨p, c, rfl⟩ := hv.form
  generalize hW : w.alloc (.cells #[.int .i64 N, .slice p (eI E).length c] 24) = W
  obtain ⟨bw, c0⟩ := graph_boxF w N p (eI E).length c hW
  have BW := hid bw
  have C0 := hid c0
  have LN := hid (fun W' (hb : Below W.heap.size W W') => lanesOf_any W' N _ E hg ((hv.below BW.out).below hb))
  have LT := hid (fun W' v (h : GS KE W' v (eI (tu E))) => lanesOf_any W' N v (tu E) (tu_ok hg) h)
  have TU := hid (fun W' (hb : Below W.heap.size W W') => (turned_any W' N _ (eI E) ((hv.below BW.out).below hb) (by rw [eI_len]; exact hg.e)).mono (R' := fun e w' => ∃ p c, e = .returned (.agg #[.int .i64 N, .slice p (eI E).length c]) ∧ GS KE w' (.slice p (eI E).length c) (eI (tu E)) ∧ Below W'.heap.size W' w') fun e w' ⟨p, c, h1, h2, h3⟩ => ⟨p, c, h1, by rw [← eI_tu]; exact h2.gs KE_ok.len, h3⟩)
  have HG := hid hg
  have NB : N ≤ 4096 := hg.n
  rw [eI_len] at C0 LN TU hW ⊢
  obtain ⟨d0, d1⟩ := C0.out W (Below.refl _ _)
  obtain ⟨m, hm⟩ : ∃ m, m = E.length := ⟨_, rfl⟩
  rw [← hm] at C0 LN TU hW d1 ⊢
  obtain ⟨sz, hsz⟩ : ∃ sz, sz = w.heap.size := ⟨_, rfl⟩
  have C1 : Hid (∀ W', Below W.heap.size W W' → W'.cell? ⟨sz, 0, none⟩ = some (.int .i64 N) ∧ W'.cell? ⟨sz, 1, none⟩ = some (.slice p m c)) := by rw [hsz]; exact C0
  have SZ : Hid (sz < W.heap.size) := by show _ < _; rw [hsz, ← hW, asz]; omega
  have HS : Hid (∀ W', Below W.heap.size W W' → W'.heap[sz]? = some (.cells #[.int .i64 N, .slice p m c] 24)) := fun W' hb => (hb.block _ SZ.out).trans (by rw [hsz, ← hW]; exact heap_alloc_new _ _)
  clear hg hv hm bw c0 C0
  refine (callsIn_wide (n := 9)).1 ?_
  refine callsIn_of_wp_marks Try.func50 rfl trivial ?_ rfl
  refine wpIn_wide.2 ?_
  simp only [Try.ntmps50, List.size_toArray, List.length_cons, List.length_nil, Nat.reduceAdd, Nat.reduceSub, Array.replicate_succ, Array.replicate_zero, List.push_toArray, List.append_toArray, List.nil_append, List.cons_append]
  go_upto_region 1 with fail
  rw [← hsz] at d0 d1 ⊢
  clear hW hsz
  have BD : Hid (Below W.heap.size W W.drew) := drew_below W 1
  have X0 : Hid (W.heap.size ≤ W.heap.size) := Nat.le_refl _
  have AD : Hid (∀ ob, Below W.heap.size W (W.drew.alloc ob)) := fun ob => bl3 (drew_below W 1) (bal _ _)
  have AE : Hid (∀ ob, Below W.heap.size W (W.alloc ob).drew) := fun ob => bl3 (bal W ob) (drew_below _ 1)
  go_cut [3, 4] from 12 to 16 (fun v3 v4 wx => ∃ (la b4 lb : Nat) (vsA vsB : List Sl) (wk : World), v3 = .slice (some ⟨la, 0, none⟩) N N ∧ v4 = .pointer (some ⟨b4, 0, none⟩) ∧ wk = wx ∧ Hid (Below W.heap.size W wk ∧ LZ wk W.heap.size la N vsA (fun i => nI (nx N E i)) ∧ LZ wk W.heap.size lb N vsB (fun i => nI (nx N (tu E) i)) ∧ wk.heap[b4]? = some (.cells #[.slice (some ⟨lb, 0, none⟩) N N] 57) ∧ W.heap.size ≤ b4))
  case first =>
    go_region_held3 (fun w' => w'.cell? ⟨sz, 0, none⟩ = some (.int .i64 N) ∧ w'.cell? ⟨sz, 1, none⟩ = some (.slice p m c)) (first | exact C1.out _ BD.out | exact C1.out _ (AD.out _) | exact C1.out _ X4.out | exact C1.out _ (bl3 X2.out (bal _ _)) | exact C1.out _ (bl3 X3.out (bal _ _)) | exact C1.out _ (bl3 X4.out (bal _ _)) | exact C1.out _ ((X4.out).setCell (p := ⟨_, _, none⟩) (by first | exact Nat.le_refl _ | exact X2.out.size | exact X3.out.size | exact X4.out.size) _) | go_keep) (first
      | (go_at_call 34; refine (LT.out _ _ (by first | exact G3.out | exact G3.out.below (bal _ _))).mono ?_; rintro e w4 ⟨lb, vsB, rfl, hz4, hb4⟩; have X4 : Hid (Below W.heap.size W w4) := (by first | exact bl3 X3.out hb4 | exact bl3 (bl3 X3.out (bal _ _)) hb4); have ZB := hid (hz4.low (base' := W.heap.size) (by first | exact X3.out.size | exact (bl3 X3.out (bal _ _)).size)); have B4 := hid (by first | exact hb4 | exact bl2 hb4 : Below w3.heap.size w3 w4); obtain ⟨z0, z1⟩ := C1.out _ X4.out; (first | (have n4 := newbox hb4 rfl; have n5 := bx3 n4; obtain ⟨n6, n7⟩ := n5; have N4 := hid n4; clear n4) | (have n4 := boxkeep hb4 N3.out; have n5 := bx3 n4; obtain ⟨n6, n7⟩ := n5; have N4 := hid n4; clear n4) | skip); clear hz4 hb4)
      | (go_at_call 54; refine (TU.out _ (by first | exact X2.out | exact bl3 X2.out (bal _ _))).mono ?_; rintro e w3 ⟨p3, c3, rfl, g3, b3⟩; have X3 : Hid (Below W.heap.size W w3) := (by first | exact bl3 X2.out b3 | exact bl3 (bl3 X2.out (bal _ _)) b3); have G3 := hid g3; have B3 := hid (by first | exact b3 | exact bl2 b3 : Below w2.heap.size w2 w3); obtain ⟨y0, y1⟩ := C1.out _ X3.out; (first | (have n4 := newbox b3 rfl; have n5 := bx3 n4; obtain ⟨m6, m7⟩ := n5; have N3 := hid n4; clear n4) | (have n4 := boxkeep b3 N2.out; have n5 := bx3 n4; obtain ⟨m6, m7⟩ := n5; have N3 := hid n4; clear n4) | skip); clear g3 b3)
      | (go_at_call 34; refine (LN.out _ (by first | exact BD.out | exact AD.out _ | exact AE.out _)).mono ?_; rintro e w2 ⟨la, vsA, rfl, hz2, hb2⟩; have X2 : Hid (Below W.heap.size W w2) := (by first | exact bl3 BD.out hb2 | exact bl3 (AD.out _) hb2 | exact bl3 (AE.out _) hb2); have ZA := hid (hz2.low (base' := W.heap.size) (by first | exact X0.out | exact (AE.out _).size | exact (AD.out _).size | exact BD.out.size)); obtain ⟨x0, x1⟩ := C1.out _ X2.out; (first | (have n4 := newbox hb2 rfl; have n5 := bx3 n4; obtain ⟨k6, k7⟩ := n5; have N2 := hid n4; clear n4) | (have n4 := newboxD hb2 rfl; have n5 := bx3 n4; obtain ⟨k6, k7⟩ := n5; have N2 := hid n4; clear n4) | skip); clear hz2 hb2)
      | fail)
    all_goals
      go_wp2_with fail
      go_meet
      case rel =>
        first
          | exact ⟨la, _, lb, vsA, vsB, _, rfl, rfl, rfl, bl3 X4.out (bal _ _), (ZA.out.below (bl3 B3.out B4.out)).below (bal _ _), ZB.out.below (bal _ _), heap_alloc_new _ _, X4.out.size⟩
          | exact ⟨la, _, lb, vsA, vsB, _, rfl, rfl, rfl, (X4.out).setCell (p := ⟨_, _, none⟩) (by first | exact Nat.le_refl _ | exact X2.out.size | exact X3.out.size | exact X4.out.size) _, (ZA.out.below (bl3 B3.out B4.out)).box N4.out, ZB.out.box N4.out, heap_setCell_same _ _ _ _ _ _ N4.out, by first | exact Nat.le_refl _ | exact X2.out.size | exact X3.out.size⟩
  obtain ⟨la, b4, lb, vsA, vsB, wB, rfl, rfl, rfl, HB⟩ := hcut
  have MK : Hid (∀ (V : World) (bs : Nat), V.heap.size = bs → wB.alloc (.cells #[.slice none 0 0] 25) = wB.alloc (.cells #[.slice none 0 0] 25) → True) := fun _ _ _ _ => trivial
  clear MK C1 LN LT TU BD AD AE X0
  obtain ⟨hb1, hb2, hb3, hb4, hb5⟩ := HB.out
  have BB := hid hb1
  have ZA := hid hb2
  have ZB := hid hb3
  have H4 := hid hb4
  have G4 := hid hb5
  have C1 : Hid (∀ W', Below wB.heap.size wB W' → W'.cell? ⟨sz, 0, none⟩ = some (.int .i64 N)) := fun W' hb => by
    have e := (hb.block sz (by have := SZ.out; have := BB.out.size; omega)).trans (HS.out wB BB.out)
    exact cell_of_row _ _ _ _ _ _ e
  have x0 := C1.out wB (Below.refl _ _)
  have y0 := C1.out (wB.alloc (.cells #[.slice none 0 0] 25)) (bal _ _)
  clear hb1 hb2 hb3 hb4 hb5 HB
  go_upto_region 4 with (refine make_g KB KB_ok false rfl rfl (wB.alloc (.cells #[.slice none 0 0] 25)) rfl (.tmp 18) (.tmp 18) 49 rfl Try.underlying49 N rfl rfl (by omega) (by decide) ?_; intro w3 ho3 hb3; have O3 := hid ho3; have B3 := hid hb3; clear ho3 hb3)
  clear x0 y0
  have LB5 : Hid (lb < wB.heap.size) := ZB.out.bb.2
  obtain ⟨b5, hb5⟩ : ∃ b5, b5 = wB.heap.size := ⟨_, rfl⟩
  obtain ⟨bs, hbs⟩ : ∃ bs, bs = wB.heap.size + 1 := ⟨_, rfl⟩
  obtain ⟨b6, hb6⟩ : ∃ b6, b6 = w3.heap.size := ⟨_, rfl⟩
  rw [← hbs, ← hb5, ← hb6]
  obtain ⟨V, hV⟩ : ∃ V, V = w3.alloc (.cells #[.slice (some ⟨bs, 0, none⟩) N N] 49) := ⟨_, rfl⟩
  rw [← hV]
  have BV : Hid (Below wB.heap.size wB V) := by show Below _ _ _; rw [hV]; exact bl3 (bl2 B3.out) (bal _ _)
  have H5 : V.heap[b5]? = some (.cells #[.slice none 0 0] 25) := by rw [hV]; exact boxkeep (bal _ _) (newbox B3.out hb5.symm)
  have H6 := hid (by rw [hV, hb6]; exact heap_alloc_new _ _ : V.heap[b6]? = some (.cells #[.slice (some ⟨bs, 0, none⟩) N N] 49))
  have OS : OwnG KB V W.heap.size (.slice (some ⟨bs, 0, none⟩) N N) ((List.range N).map fun _ => false) := by
    have e : (List.range N).map (fun _ => false) = List.replicate N false := by rw [List.map_const', List.length_range]
    have h9 := O3.out
    rw [asz, ← hbs] at h9
    rw [e, hV]
    exact (h9.below (bal _ _)).low (by have := BB.out.size; omega)
  have H4V := hid (boxkeep BV.out H4.out)
  obtain ⟨cs, HS2⟩ := OS.ty (g := bs) rfl
  have HSB := hid HS2
  have H5V := hid H5
  have G6 : Hid (W.heap.size ≤ b6) := by show _ ≤ _; rw [hb6]; exact Nat.le_trans BB.out.size (bl2 B3.out).size
  have LNE : Hid (lb ≠ b5) := by show _ ≠ _; rw [hb5]; have h9 : lb < wB.heap.size := LB5.out; omega
  have F4 := hid (And.intro (ne_ty H4V.out HS2 (by decide)) (ne_ty H4V.out H5 (by decide)))
  have F6 := hid (And.intro (ne_ty H6.out HS2 (by decide)) (ne_ty H6.out H5 (by decide)))
  have J0 : Hid (RJF V W N la bs b5 vsA (nx N E) V (fun _ => false) []) := ⟨⟨bl3 BB.out BV.out, ZA.out.below BV.out, OS, ⟨none, 0, H5, OwnG.nil _ _ _, fun _ _ _ _ e => by cases e⟩, by rw [hb5]; exact BB.out.size, by have := ZA.out.bb.2; omega, by simp, by simp⟩, Nat.le_refl _, fun _ _ _ _ => rfl, fun q c e g hg => by
    rw [H5] at e
    injection e with e
    injection e with e _
    have e := congrArg (fun a => a[0]?) e
    simp at e
    rw [← e.1] at hg
    cases hg⟩
  have D0 : Hid (DL (nx N E) (fun _ => false) ((List.range N).take 0) (fun _ => false) []) := .nil
  have KW := hid (RJF.wk1 (Wr := V) (w0 := W) (lb := la) (bs := bs) (B := b5) (vs := vsA) HG.out)
  have x0 : V.cell? ⟨sz, 0, none⟩ = some (.int .i64 N) := C1.out V BV.out
  have LRN := hid (fun k (hk : k < N) => (by rw [List.take_succ_eq_append_getElem (by simpa using hk), List.getElem_range] : (List.range N).take (k + 1) = (List.range N).take k ++ [k]))
  have TR : Hid ((List.range N).take N = List.range N) := List.take_of_length_le (by simp)
  clear O3 B3 hV HS2 OS H4 hb5 hbs hb6
  go_wp2_with fail
  clear x0
  go_loopw [22] (fun v22 wr => ∃ (k : Nat) (wk : World), v22 = .int .i64 k ∧ wk = wr ∧ k ≤ N ∧ Hid (∃ S L, DL (nx N E) (fun _ => false) ((List.range N).take k) S L ∧ RJF V W N la bs b5 vsA (nx N E) wk S L)) (fun v22 _ => N - (intOf v22).toNat)
  case atStart => exact ⟨0, _, rfl, rfl, Nat.zero_le _, ⟨_, _, D0.out, J0.out⟩⟩
  case round =>
    obtain ⟨k, wr, rfl, rfl, hk, HL⟩ := hrel
    clear D0 J0
    obtain ⟨S, L, dl, rj⟩ := HL.out
    have DH := hid dl
    have RH := hid rj
    clear dl rj HL
    obtain ⟨x6, _⟩ := bx3 ((RH.out.fr b6 (lt_of_heap H6.out) F6.out.1 F6.out.2).trans H6.out)
    by_cases hlt : k < N
    · have CW := hid (walk_all KW.out RH.out hlt)
      have TK := hid (LRN.out k hlt)
      have hki : (k : Int) < (N : Nat) := by omega
      go_wp2_with (go_at_call 44; refine CW.out.mono ?_; rintro e w5 ⟨rfl, S2, L2, d2, j2⟩; have N2 : Hid (∃ S L, DL (nx N E) (fun _ => false) ((List.range N).take (k + 1)) S L ∧ RJF V W N la bs b5 vsA (nx N E) w5 S L) := ⟨S2, L ++ L2, by rw [TK.out]; exact DH.out.app d2, j2⟩; clear d2 j2)
      go_roundw
      case rel => exact ⟨k + 1, _, by go_num, rfl, by omega, N2⟩
      case measure => simp [intOf]; omega
    · obtain rfl : k = N := by omega
      have D2 : Hid (DL (nx k E) (fun _ => false) (List.range k) S L) := by have := DH.out; rw [TR.out] at this; exact this
      obtain ⟨q, cq, hd1, hd2, _⟩ := RH.out.rj.bx
      have hs0 := HS.out wr RH.out.rj.bl
      have x0 : wr.cell? ⟨sz, 0, none⟩ = some (.int .i64 k) := cell_of_row _ _ _ _ _ _ hs0
      have y0 : (wr.alloc (.cells #[.slice none 0 0] 42)).cell? ⟨sz, 0, none⟩ = some (.int .i64 k) := cell_of_row _ _ _ _ _ _ (boxkeep (bal _ _) hs0)
      have HD1 := hid hd1
      have HD2 := hid hd2
      have H6r := hid ((RH.out.fr b6 (lt_of_heap H6.out) F6.out.1 F6.out.2).trans H6.out)
      have H4r := hid ((RH.out.fr b4 (lt_of_heap H4V.out) F4.out.1 F4.out.2).trans H4V.out)
      have x6' := bx3 (boxkeep (bal wr (.cells #[.slice none 0 0] 42)) H6r.out)
      clear hd1 hd2 hs0 x6
      go_upto_region 11 with (refine make_g KB KB_ok false rfl rfl (wr.alloc (.cells #[.slice none 0 0] 42)) rfl (.tmp 32) (.tmp 32) 49 rfl Try.underlying49 k rfl rfl (by omega) (by decide) ?_; intro w5 ho5 hb5; have O5 := hid ho5; have B5 := hid hb5; obtain ⟨y6, z6⟩ := bx3 (boxkeep hb5 (boxkeep (bal _ _) H6r.out)); clear ho5 hb5)
      obtain ⟨b8, hb8⟩ : ∃ b8, b8 = wr.heap.size := ⟨_, rfl⟩
      obtain ⟨bt, hbt⟩ : ∃ bt, bt = b8 + 1 := ⟨_, rfl⟩
      rw [← hb8, ← hbt]
      have BW5 : Hid (Below wr.heap.size wr w5) := bl2 B5.out
      have H8 := hid (newbox B5.out hb8.symm)
      have OT : OwnG KB w5 W.heap.size (.slice (some ⟨bt, 0, none⟩) k k) ((List.range k).map fun _ => false) := by
        have e : (List.range k).map (fun _ => false) = List.replicate k false := by rw [List.map_const', List.length_range]
        have h9 := O5.out
        rw [asz, ← hb8, ← hbt] at h9
        rw [e]
        exact h9.low (by have := RH.out.rj.bl.size; omega)
      have ZBr : LZ wr W.heap.size lb k vsB (fun i => nI (nx k (tu E) i)) := (ZB.out.below BV.out).butF (F := fun x => x = bs ∨ x = b5) (fun x hx hn => RH.out.fr x hx (fun e => hn (Or.inl e)) (fun e => hn (Or.inr e))) (fun e => by
        rcases e with e | e
        · obtain ⟨c9, e9⟩ := (ZB.out.below BV.out).out.ty (g := lb) rfl
          exact ne_ty e9 HSB.out (by decide) e
        · exact LNE.out e) (fun g e => by
        rcases e with e | e
        · rw [e]; exact not_ki HSB.out (by decide)
        · rw [e]; exact not_ki H5V.out (by decide))
      obtain ⟨W0, hW0⟩ : ∃ W0, W0 = (w5.setCell ⟨b6, 0, none⟩ (.slice (some ⟨bt, 0, none⟩) k k)).alloc (.cells #[.slice q L.length cq] 25) := ⟨_, rfl⟩
      have H65 := boxkeep BW5.out H6r.out
      have FW : ∀ x, x < w5.heap.size → x ≠ b6 → W0.heap[x]? = w5.heap[x]? := fun x hx hn => by rw [hW0]; exact (Below.heap_alloc _ _ _ (by simpa [World.setCell] using hx)).trans (set_far hn)
      have H6W : W0.heap[b6]? = some (.cells #[.slice (some ⟨bt, 0, none⟩) k k] 49) := by rw [hW0]; exact (Below.heap_alloc _ _ _ (by simpa [World.setCell] using lt_of_heap H65)).trans (heap_setCell_same w5 b6 0 _ _ _ H65)
      have HBs : W0.heap[w5.heap.size]? = some (.cells #[.slice q L.length cq] 25) := by rw [hW0]; have := heap_alloc_new (w5.setCell ⟨b6, 0, none⟩ (.slice (some ⟨bt, 0, none⟩) k k)) (.cells #[.slice q L.length cq] 25); simpa [World.setCell] using this
      have S0 : W0.heap.size = w5.heap.size + 1 := by rw [hW0]; simp [World.setCell]
      have BW0 : Below W.heap.size W W0 := by
        rw [hW0]
        exact bl3 ((bl3 RH.out.rj.bl BW5.out).setCell (p := ⟨b6, 0, none⟩) G6.out _) (bal _ _)
      have ZB0 : LZ W0 W.heap.size lb k vsB (fun i => nI (nx k (tu E) i)) := (ZBr.below BW5.out).butF (F := fun x => x = b6) (fun x hx hn => FW x hx hn) (fun e => by
        obtain ⟨c9, e9⟩ := (ZBr.below BW5.out).out.ty (g := lb) rfl
        exact ne_ty e9 H65 (by decide) e) (fun g e => by rw [e]; exact not_ki H65 (by decide))
      have OT0 : OwnG KB W0 W.heap.size (.slice (some ⟨bt, 0, none⟩) k k) ((List.range k).map fun _ => false) := OT.far fun g hg => FW g (OT.lt hg).2 (fun e => OT.notat H65 (by decide) (by rw [← e]; exact hg))
      have OD0 : OwnG KI W0 W.heap.size (.slice q L.length cq) (nI L) := (HD2.out.below BW5.out).far fun g hg => FW g ((HD2.out.below BW5.out).lt hg).2 (fun e => (HD2.out.below BW5.out).notat H65 (by decide) (by rw [← e]; exact hg))
      have H80 : W0.heap[b8]? = some (.cells #[.slice none 0 0] 42) := (FW b8 (lt_of_heap H8.out) (ne_ty H8.out H65 (by decide))).trans H8.out
      have H40 : W0.heap[b4]? = some (.cells #[.slice (some ⟨lb, 0, none⟩) k k] 57) := by
        have e := boxkeep BW5.out H4r.out
        exact (FW b4 (lt_of_heap e) (ne_ty e H65 (by decide))).trans e
      obtain ⟨ct, HT0⟩ := OT0.ty (g := bt) rfl
      obtain ⟨Bs, hBs⟩ : ∃ Bs, Bs = w5.heap.size := ⟨_, rfl⟩
      rw [← hBs] at HBs S0
      have CS0 : Hid (CS W W0 k bt b8 (fun _ => false) [] W0) := ⟨BW0, Nat.le_refl _, fun _ _ _ _ => rfl, OT0, sl0, [], H80, OwnG.nil _ _ _, rfl, fun i hi => absurd hi (by simp)⟩
      have HB0 := hid HBs
      have GS0 := hid (OD0.gs KI_ok.len)
      have OD1 := hid OD0
      have Z0 := hid ZB0
      have K6 := hid H6W
      have K4 := hid H40
      have K8 := hid H80
      have KT0 := hid HT0
      have WW := hid BW0.size
      have x5' := hid (bx3 HD1.out)
      have g5 : (w5.setCell ⟨b6, 0, none⟩ (.slice (some ⟨bt, 0, none⟩) k k)).cell? ⟨b5, 0, none⟩ = some (.slice q L.length cq) := by
        have e := boxkeep BW5.out HD1.out
        exact cell_of_row _ _ _ _ _ _ ((set_far (ne_ty e H65 (by decide))).trans e)
      have S0h := hid S0
      have B8E : Hid (b8 = wr.heap.size) := hb8
      have W0h := hid hW0
      have Bsh := hid hBs
      clear ZBr FW H6W HBs BW0 ZB0 OT0 OD0 H80 H40 HT0 OT H65 H8 x6' x5' hb8 hbt S0 hW0 hBs x0 y0 y6 z6
      go_wp2_with (go_at_call 47; refine (callsIn_wide.1 (backward_in Fence.wide 9 trivial rfl _ _ _ _)).mono ?_; rintro e w' ⟨rfl, rfl⟩)
      rw [← W0h.out, ← Bsh.out]
      have HL : ∀ x ∈ L, x < k := RH.out.rj.ll.2
      have G8 : W.heap.size ≤ b8 := by rw [B8E.out]; exact RH.out.rj.bl.size
      have BWW := hid BW.out
      clear W0h Bsh g5 HD1 HD2 O5 B5 BW5
      refine comp_loop (L := L) HG.out HL (nd_len RH.out.rj.ll |> fun h => Nat.le_trans h NB) CS0.out Z0.out K4.out K6.out ⟨_, K8.out⟩ HB0.out OD1.out WW.out G8 _ ?_
      rintro D W' hD ⟨S9, Ps, cs, kl⟩ hK
      rw [bkL_map] at kl
      obtain ⟨rs, kp, hPs⟩ := KL.fin HG.out D2.out HL kl [] (by simp)
      rw [List.reverse_reverse] at kp
      obtain ⟨ps, vp, p1, p2, p3, p4⟩ := cs.pb
      have hQl : (rs.map (prt k E)).length = vp.length := by rw [p3, hPs]; simp
      have hat : ∀ i, i < vp.length → ∃ r, r < k ∧ (rs.map (prt k E)).getD i [] = prt k E r ∧ Ps.getD i [] = nI (prt k E r) := fun i hi => by
        have hi2 : i < rs.length := by simpa using (by rw [hQl]; exact hi : i < (rs.map (prt k E)).length)
        refine ⟨rs[i], (kp.to _ (List.getElem_mem hi2)).1, by simp [List.getD, hi2], by rw [hPs]; simp [List.getD, hi2]⟩
      have hrl : vp.length ≤ 4096 := by
        have h9 := kl.len
        rw [List.length_reverse] at h9
        have := nd_len RH.out.rj.ll
        omega
      have SO := sortP_any (rs.map (prt k E)) vp hQl (fun i hi => by
        obtain ⟨r, hr, e1, _⟩ := hat i hi
        obtain ⟨a, t, e2, _, _, e3⟩ := prt_head (E := E) hr
        exact ⟨a, t, e1.trans e2, by omega⟩) hrl W' W0.heap.size (slV ps) p2 (fun i hi => by
        obtain ⟨r, hr, e1, e2⟩ := hat i hi
        have := p4 i (by omega)
        rw [e2] at this
        rw [e1]
        exact this)
      have W0D : Hid (w.heap.size ≤ W0.heap.size) := Nat.le_trans BWW.out.size WW.out
      have FIN : Hid (∀ w9, (∃ (Q' : List (List Nat)) (vs' : List Sl), vs'.length = vp.length ∧ Q'.Perm (rs.map (prt k E)) ∧ (Q'.Pairwise fun a b => hdN a ≤ hdN b) ∧ OwnG KS w9 W0.heap.size (slV ps) vs' ∧ (∀ i, i < vs'.length → OwnG KI w9 W0.heap.size (slV (vs'.getD i sl0)) (nI (Q'.getD i []))) ∧ But (fun x => (slV ps).ownBlock = some x) W' w9) → w9.cell? ⟨b8, 0, none⟩ = some (slV ps) ∧ w9.heap[D]? = some (.deferred (some [])) ∧ ∃ p c vs, slV ps = .slice p (cmL k E).length c ∧ vs.length = (cmL k E).length ∧ OwnG KS (w9.putObj D (.deferred none)) w.heap.size (.slice p (cmL k E).length c) vs ∧ (∀ i, i < (cmL k E).length → OwnG KI (w9.putObj D (.deferred none)) w.heap.size (slV (vs.getD i sl0)) (nI ((cmL k E).getD i []))) ∧ Below w.heap.size w (w9.putObj D (.deferred none))) := by
        rintro w9 ⟨Q', vs', v1, v2, v3, v4, v5, v6⟩
        have hQ : Q' = cmL k E := cm_sorted kp (fun x hx => by
          rcases (D2.out.mem x).1 (D2.out.todo x (List.mem_range.2 hx)) with z | z
          · cases z
          · exact z) v2 v3
        subst hQ
        have hlen : vs'.length = (cmL k E).length := by rw [v1, v2.length_eq, hQl]
        have hD9 : w9.heap[D]? = some (.deferred (some [])) := (v6.block D (lt_of_heap hK) (fun e => by obtain ⟨c9, e9⟩ := p2.ty e; rw [hK] at e9; cases e9)).trans hK
        have own : ∀ {α : Type} {K : RK α} {base : Nat} {v : Value} {l : List α}, OwnG K w9 base v l → OwnG K (w9.putObj D (.deferred none)) base v l := fun o => o.far fun g hg => World.putObj_heap_other (fun e => by obtain ⟨c9, e9⟩ := o.ty hg; rw [e, hD9] at e9; cases e9)
        obtain ⟨p, c, e1, _⟩ := v4.form
        refine ⟨cell_of_row _ _ _ _ _ _ ((v6.block b8 (lt_of_heap p1) (fun e => p2.notat p1 (by decide) e)).trans p1), hD9, p, c, vs', by rw [e1, hlen], hlen, ?_, fun i hi => (own (v5 i (by omega))).low W0D.out, ?_⟩
        · rw [← hlen, ← e1]; exact (own v4).low W0D.out
        · have b1 : Below w.heap.size w W' := bl3 BWW.out cs.bl
          have b2 : Below w.heap.size w w9 := b1.trans (v6.below b1.size (fun x hx => Nat.le_trans W0D.out (p2.lt hx).1))
          exact ⟨b2.os, b2.tape, b2.output, Nat.le_trans b2.size (by simp), fun x hx => (World.putObj_heap_other (by have := W0D.out; omega)).trans (b2.block x hx)⟩
      have g8 : W'.cell? ⟨b8, 0, none⟩ = some (slV ps) := cell_of_row _ _ _ _ _ _ p1
      have SOh := hid SO
      have PSL : ∃ a b c, slV ps = .slice a b c := ⟨_, _, _, rfl⟩
      obtain ⟨pa, pb, pc, hps⟩ := PSL
      rw [hps] at g8 SOh FIN
      clear SO hat kp kl hPs p1 p2 p3 p4 cs hK CS0 Z0 K4 K6 K8 HB0 OD1 HL RH D2 hps
      go_wp2_with (go_at_call 71; refine SOh.out.mono ?_; rintro e w9 ⟨rfl, h9⟩; obtain ⟨g9, hD9, h10⟩ := FIN.out w9 h9; have H10 := hid h10; have HD9 := hid hD9; clear h9 h10 hD9)
      refine ⟨by simp, .inl ⟨_, _, rfl, run_takeDeferred HD9.out, ?_⟩⟩
      obtain ⟨p1, c1, vs1, e1, e2, e3, e4, e5⟩ := H10.out
      refine ⟨_, results_tmp rfl _ _ _, p1, c1, vs1, ?_, e2, e3, e4, e5⟩
      rw [← e1]
      rfl
end Go.Proofs.Ytghkhceplpjegaa
