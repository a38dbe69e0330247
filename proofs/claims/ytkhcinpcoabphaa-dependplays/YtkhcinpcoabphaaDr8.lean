/- Depend: the document's Begin, granted. -/
import Derived.Test.YtkhcinpcoabphaaDr7
namespace Go.Proofs.Ytkhcinpcoabphaa
open Go.RowKit

/-- One more, at a step of a region that draws its order. -/
theorem step_append_g {α : Type} {P : Program} (K : RK α) (hk : K.Ok P) {ops : Array Oper} {o : Oper} {a : Act} {C : Act → World → Prop} {Q : Exit → Act → World → Prop} {E : Prop} (hgd : o.guard = none) (s x : Operand) (t : TypeId)
    (ho : o.op = .call { callee := .builtin .append, args := #[s, x], argTypes := #[t, t] })
    (base : Nat) (ht : P.underlying t = some (.slice K.ty))
    (w1 : World) (b : Nat) (cells : Array Value) (tc : TypeId) (hblk : w1.heap[b]? = some (.cells cells tc)) (v : Value) (l : List α) (f : α) (c : Nat) (hs : a.eval s = v) (hown : OwnG K w1 base v l)
    (hx : a.eval x = .slice (some ⟨b, 0, none⟩) 1 c) (hc : cells.toList = K.f f)
    (hlen : (l.length + 1) * K.B ≤ 140737488355328) (hbase : base ≤ w1.heap.size)
    (h : ∀ g cap w', OwnG K w' base (.slice (some ⟨g, 0, none⟩) (l.length + 1) cap) (l ++ [f]) → Below base w1 w' → (∀ k, k < w1.heap.size → some k ≠ v.ownBlock → w'.heap[k]? = w1.heap[k]?) → (v.ownBlock = some g ∨ w1.heap.size ≤ g) → C (a.put o.dst (.slice (some ⟨g, 0, none⟩) (l.length + 1) cap)) w') :
    if Region.wanted o (yielded ops a.tmps) = true then Oper.wp P o a w1 C Q else E := by
  obtain ⟨i0, hi0, hz0, hz1, hz2⟩ := hk.info
  have hpb := hk.posB
  have hn : l.length + 1 ≤ 140737488355328 := Nat.le_trans (Nat.le_mul_of_pos_right _ hpb) hlen
  refine step_append_lies _ hgd s x t ho base K.ty i0 K.z K.W K.B ht hi0 hz0 hz1 hz2 hk.zs hk.pos v l.length (l.flatMap K.f) hs hown ⟨b, 0, none⟩ 1 c (K.f f) hx (by rw [hk.len]; omega) (by rw [← hc]; exact World.news_of_block hblk) (hk.one f)
    (by decide) (by unfold maxLen; omega) hlen hbase _ rfl ?_
  intro g cap w' ho' hg hgg _
  refine h g cap w' ?_ ((Below.refl base w1).grown hg hbase (fun q hq => (hown.lt hq).1)) (fun k hk hne => hg.block k hk hne) ?_
  · unfold OwnG
    rw [List.length_append, List.flatMap_append]
    simpa using ho'
  · rcases hgg with hgg | hgg
    · exact Or.inl hgg
    · right; rw [hgg]; exact Nat.le_refl _
/-- A row of whatever length appended, at a step of a region that draws its order. -/
theorem step_append_any {α : Type} {P : Program} (K : RK α) (hk : K.Ok P) {ops : Array Oper} {o : Oper} {a : Act} {C : Act → World → Prop} {Q : Exit → Act → World → Prop} {E : Prop} (hgd : o.guard = none) (s x : Operand) (t : TypeId)
    (ho : o.op = .call { callee := .builtin .append, args := #[s, x], argTypes := #[t, t] })
    (base : Nat) (ht : P.underlying t = some (.slice K.ty))
    (w1 : World) (v vx : Value) (l m : List α) (hs : a.eval s = v) (hown : OwnG K w1 base v l) (hx : a.eval x = vx) (hm : GS K w1 vx m)
    (hlen : (l.length + m.length) * K.B ≤ 140737488355328) (hbase : base ≤ w1.heap.size)
    (h : ∀ v' w', OwnG K w' base v' (l ++ m) → Below base w1 w' → (∀ k, k < w1.heap.size → some k ≠ v.ownBlock → w'.heap[k]? = w1.heap[k]?) → C (a.put o.dst v') w') :
    if Region.wanted o (yielded ops a.tmps) = true then Oper.wp P o a w1 C Q else E := by
  obtain ⟨i0, hi0, hz0, hz1, hz2⟩ := hk.info
  have hpb := hk.posB
  have hlm : l.length + m.length ≤ 140737488355328 := Nat.le_trans (Nat.le_mul_of_pos_right _ hpb) hlen
  have hw : Region.wanted o (yielded ops a.tmps) = true := by simp [Region.wanted, hgd]
  rw [if_pos hw]
  have hm0 := hm
  rcases hm with ⟨rfl | ⟨ad, cap, rfl⟩, hmn⟩ | ⟨X, ox, cap, rfl, _⟩
  · subst hmn
    have hrun := run_append_owned_none (P := P) (w := w1) base t o.type K.ty i0 K.W ht hi0 v l.length (l.flatMap K.f) hown
    unfold Oper.wp
    simp [execOp, ho, resolve, invoke, builtin, hs, hx, hrun, Result.andThen]
    exact h v w1 (by rw [List.append_nil]; exact hown) (Below.refl _ _) (fun _ _ _ => rfl)
  · subst hmn
    refine wp_append_own w1 s x t ho base K.ty i0 K.z K.W K.B ht hi0 hz0 hz1 hz2 hk.zs hk.pos v l.length (l.flatMap K.f) hs hown ad 0 cap [] hx (by simp) (fun j u hj => by simp at hj) (fun u hu => by cases hu)
      (by unfold maxLen; simp at hlm; omega) (by simpa using hlen) hbase ?_
    intro v' w' ho' hg _
    refine h v' w' ?_ ((Below.refl base w1).grown hg hbase (fun q hq => (hown.lt hq).1)) (fun k hk hne => hg.block k hk hne)
    unfold OwnG
    rw [List.append_nil]
    simpa using ho'
  · have one : ∀ u ∈ m.flatMap K.f, u.oneCell' = true := fun u hu => by
      obtain ⟨f, _, hf⟩ := List.mem_flatMap.1 hu
      exact hk.one f u hf
    refine wp_append_own w1 s x t ho base K.ty i0 K.z K.W K.B ht hi0 hz0 hz1 hz2 hk.zs hk.pos v l.length (l.flatMap K.f) hs hown ⟨X, ox, none⟩ m.length cap (m.flatMap K.f) hx (RK.flat_len hk.len m) (hm0.news hk.len hk.pos) one
      (by unfold maxLen; omega) hlen hbase ?_
    intro v' w' ho' hg _
    refine h v' w' ?_ ((Below.refl base w1).grown hg hbase (fun q hq => (hown.lt hq).1)) (fun k hk hne => hg.block k hk hne)
    unfold OwnG
    rw [List.length_append, List.flatMap_append]
    exact ho'
/-- What the two appends are done with: the empty row e, the one more c, laid in either order, or the one more later. -/
structure AP {α : Type} (K : RK α) (w6 : World) (e c : Obj) (vx : Value) (L : List α) : Prop where
  a1 : OwnG K (w6.alloc e).drew w6.heap.size (.slice (some ⟨w6.heap.size, 0, none⟩) 0 0) [] ∧ GS K (w6.alloc e).drew vx L ∧ Below w6.heap.size w6 (w6.alloc e).drew ∧ w6.heap.size ≤ (w6.alloc e).drew.heap.size
  a2 : OwnG K ((w6.alloc e).alloc c).drew w6.heap.size (.slice (some ⟨w6.heap.size, 0, none⟩) 0 0) [] ∧ GS K ((w6.alloc e).alloc c).drew vx L ∧ Below w6.heap.size w6 ((w6.alloc e).alloc c).drew ∧ w6.heap.size ≤ ((w6.alloc e).alloc c).drew.heap.size ∧ ((w6.alloc e).alloc c).drew.heap[w6.heap.size + 1]? = some c
  a3 : OwnG K ((w6.alloc c).alloc e).drew w6.heap.size (.slice (some ⟨w6.heap.size + 1, 0, none⟩) 0 0) [] ∧ GS K ((w6.alloc c).alloc e).drew vx L ∧ Below w6.heap.size w6 ((w6.alloc c).alloc e).drew ∧ w6.heap.size ≤ ((w6.alloc c).alloc e).drew.heap.size ∧ ((w6.alloc c).alloc e).drew.heap[w6.heap.size]? = some c
theorem ap_of {α : Type} (K : RK α) (w6 : World) (c : Obj) (vx : Value) (L : List α) (h : GS K w6 vx L) : AP K w6 (.cells #[] K.ty) c vx L := by
  have z : ∀ (W : World) (o : Obj), (W.alloc o).heap.size = W.heap.size + 1 := fun W o => by simp
  have b1 : ∀ e, Below w6.heap.size w6 (w6.alloc e).drew := fun e => bl3 (bal w6 e) (drew_below _ 1)
  have b2 : ∀ e c, Below w6.heap.size w6 ((w6.alloc e).alloc c).drew := fun e c => bl3 (bal w6 e) (bl3 (bal _ c) (drew_below _ 1))
  refine ⟨⟨(OwnG.empty K w6).below (drew_below _ 1), h.below (b1 _), b1 _, (b1 _).size⟩, ⟨(OwnG.empty K w6).below (bl3 (bal _ c) (drew_below _ 1)), h.below (b2 _ _), b2 _ _, (b2 _ _).size, ?_⟩, ⟨?_, h.below (b2 _ _), b2 _ _, (b2 _ _).size, ?_⟩⟩
  · have := heap_alloc_new (w6.alloc (.cells #[] K.ty)) c
    rw [z] at this
    exact this
  · have h1 := ((OwnG.empty K (w6.alloc c)).below (drew_below _ 1)).low (show w6.heap.size ≤ (w6.alloc c).heap.size by rw [z]; omega)
    rw [z] at h1
    exact h1
  · exact (Below.heap_alloc _ _ _ (by rw [z]; omega)).trans (heap_alloc_new w6 c)
set_option maxRecDepth 100000 in
set_option maxHeartbeats 32000000 in
theorem rbegin_ok {w : World} {P : Nat → Prop} {vr vw : Value} {X : Wb} (h : RV w P vr vw X) (hi : WI X) (t c : Int) (h0 : begE X t c = 0) : Calls Try.prog 13 #[.agg #[vr, vw], .int .i64 t, .int .i64 c] w fun e w' => ReO w P (begX X t c) #[.int .i64 (begE X t c)] e w' := by
  obtain ⟨⟨pr, nr, cr, rfl⟩, pw, nw, cw, rfl⟩ := h.forms
  have T := hid (TB.mk_ w (.slice pr nr cr) (.slice pw nw cw))
  have HV := hid (T.out.here h)
  have FR := hid (rfree_any HV.out hi t c)
  obtain ⟨h1, h2, h3, h4, h5⟩ := begE_ok h0
  have ha : askE X t c = 0 := by unfold askE; rw [h1, h2, h3]; rfl
  have E2 : Hid (begX X t c = begW X t.toNat c.toNat) := by show _ = _; unfold begX; rw [if_pos h0]
  rw [E2.out, h0]
  obtain ⟨n, hn, hlt⟩ := tk_nat h1
  obtain ⟨m, hm, hlm⟩ := cl_nat h2
  subst hn hm
  rw [ha] at FR
  rw [show ((n : Int)).toNat = n from rfl] at h3 h5 ⊢
  rw [show ((m : Int)).toNat = m from rfl] at h4 ⊢
  have RN : Hid (∀ (W : World) (Q : Nat → Prop), RV W Q (.slice pr nr cr) (.slice pw nw cw) X → Calls Try.prog 27 #[.agg #[.slice pr nr cr, .slice pw nw cw], .int .i64 m] W fun e w' => e = .returned (.tuple #[.int .i64 (X.r m).to, .bool false]) ∧ Below W.heap.size W w') := fun W Q k => by have := rrunner_rv k hi m; rw [h4] at this; exact this
  have SK : Hid (∀ (W : World) (Q : Nat → Prop), RV W Q (.slice pr nr cr) (.slice pw nw cw) X → Calls Try.prog 26 #[.agg #[.slice pr nr cr, .slice pw nw cw], .int .i64 n] W fun e w' => ∃ q c, e = .returned (.slice q (stk X n).length c) ∧ GP KI w' Q (.slice q (stk X n).length c) (nI (stk X n)) ∧ Below W.heap.size W w') := fun W Q k => (rstack_rv k hi n).mono fun _ _ ⟨q, n', c, h0, hg, hb⟩ => by
    have e := hg.cells.1
    subst e
    exact ⟨q, c, h0, hg, hb⟩
  have WI9 : Hid (∀ (W : World) (Q : Nat → Prop) (g cc : Nat), RV W Q (.slice pr nr cr) (.slice pw nw cw) X → GP KI W Q (.slice (some ⟨g, 0, none⟩) ((nI (stk X n)).length + 1) cc) (nI (stk X n) ++ [(m : Int)]) → Calls Try.prog 35 #[.agg #[.slice pr nr cr, .slice pw nw cw], .int .i64 n, .slice (some ⟨g, 0, none⟩) ((nI (stk X n)).length + 1) cc] W fun e w' => ∃ p1 n1 c1, e = .returned (.agg #[.slice p1 n1 c1, .slice pw nw cw]) ∧ RV w' (fun x => Q x ∨ W.heap.size ≤ x) (.slice p1 n1 c1) (.slice pw nw cw) (begW X n m) ∧ Below W.heap.size W w') := fun W Q g cc k hg => by
    rw [← nI_snoc] at hg
    exact rwith_rv k hi n hg (by rw [List.length_append]; have := stk_len hi n; simp; omega) (fun t' => begW_stk hi hlm h4 t') rfl
  -- walk
  obtain ⟨L, hL⟩ : ∃ L, L = nI (stk X n) := ⟨_, rfl⟩
  rw [← hL] at SK WI9
  have hLl : L.length = (stk X n).length := by rw [hL]; simp [nI]
  rw [← hLl] at SK h5
  have h48 : ¬ (48 : Int) ≤ L.length := by omega
  generalize (X.r m).to = r0 at *
  have LL : Hid (L.length < 48) := by show _ < _; omega
  clear h hi E2 h0 ha h1 h2 h3 h4 h5 hL hLl hlt hlm
  go_enter Try.func13, Try.ntmps13
  go_upto_region 1 with fail
  obtain ⟨w2, hw2⟩ : ∃ w2, w2 = ((w.alloc (.cells #[.slice pr nr cr, .slice pw nw cw] 29)).alloc (.cells #[.slice none 0 0, .slice none 0 0] 29)) := ⟨_, rfl⟩
  rw [← hw2] at T HV FR ⊢
  obtain ⟨sz, hsz⟩ : ∃ sz, sz = w.heap.size := ⟨_, rfl⟩
  rw [← hsz] at T ⊢
  obtain ⟨d0, d1, d2, d3, f1, f2⟩ := T.out.at (Below.refl _ _)
  clear hw2 hsz
  go_upto_region 10 with (first | (go_at_call 34; refine FR.out.mono ?_; rintro e w3 ⟨rfl, hb3⟩; obtain ⟨c0, c1, c2, c3, c4, c5⟩ := T.out.at hb3; have B3 := hid hb3; clear hb3) | (go_at_call 27; refine (RN.out _ _ (HV.out.below B3.out)).mono ?_; rintro e w4 ⟨rfl, hb4⟩; obtain ⟨y0, y1, y2, y3, y4, y5⟩ := T.out.at (bl3 B3.out hb4); have B4 := hid (bl3 B3.out hb4); clear hb4) | (go_at_call 26; refine (SK.out _ _ (HV.out.below B4.out)).mono ?_; rintro e w5 ⟨q5, cc5, rfl, hg5, hb5⟩; obtain ⟨z0, z1, z2, z3, z4, z5⟩ := T.out.at (bl3 B4.out hb5); have B5 := hid (bl3 B4.out hb5); have G5 := hid hg5; clear hb5 hg5))
  have AP0 : Hid (AP KI w5 (.cells #[] 3) (.cells #[.int .i64 m] 3) (.slice q5 L.length cc5) L) := ap_of KI w5 _ _ _ G5.out.gs
  have L1 : Hid ((([] : List Int).length + L.length) * KI.B ≤ 140737488355328) := by
    have h1 := LL.out
    show (0 + L.length) * 8 ≤ _
    omega
  have L2 : Hid ((L.length + 1) * KI.B ≤ 140737488355328) := by
    have h1 := LL.out
    show (L.length + 1) * 8 ≤ _
    omega
  have N1 : Hid (some (w5.heap.size + 1) ≠ (Value.slice (some ⟨w5.heap.size, 0, none⟩) 0 0).ownBlock) := by intro q; injection q with q; have q : w5.heap.size + 1 = w5.heap.size := q; omega
  have N2 : Hid (some w5.heap.size ≠ (Value.slice (some ⟨w5.heap.size + 1, 0, none⟩) 0 0).ownBlock) := by intro q; injection q with q; have q : w5.heap.size = w5.heap.size + 1 := q; omega
  have HQ : Hid (∀ x, w5.heap.size ≤ x → (P x ∧ x < w.heap.size) ∨ w2.heap.size ≤ x) := fun x hx => Or.inr (Nat.le_trans B5.out.size hx)
  have CW : Hid (∀ (W : World) (g cc : Nat), Below w5.heap.size w5 W → OwnG KI W w5.heap.size (.slice (some ⟨g, 0, none⟩) (L.length + 1) cc) (L ++ [(m : Int)]) → Calls Try.prog 35 #[.agg #[.slice pr nr cr, .slice pw nw cw], .int .i64 n, .slice (some ⟨g, 0, none⟩) (L.length + 1) cc] W fun e w' => ∃ p1 n1 c1, e = .returned (.agg #[.slice p1 n1 c1, .slice pw nw cw]) ∧ Below w2.heap.size w2 w' ∧ ∀ x y, RV ((w'.setCell ⟨sz + 1, 0, none⟩ x).setCell ⟨sz + 1, 1, none⟩ y) (fun x => P x ∨ w.heap.size ≤ x) (.slice p1 n1 c1) (.slice pw nw cw) (begW X n m) ∧ Below w.heap.size w ((w'.setCell ⟨sz + 1, 0, none⟩ x).setCell ⟨sz + 1, 1, none⟩ y)) := fun W g cc hb ho => by
    refine (WI9.out W (fun x => (P x ∧ x < w.heap.size) ∨ w2.heap.size ≤ x) g cc (HV.out.below (bl3 B5.out hb)) (GP.of_own KI_ok.len ho HQ.out)).mono ?_
    rintro e w' ⟨p1, n1, c1, rfl, hv, hb2⟩
    have B10 := bl3 (bl3 B5.out hb) hb2
    exact ⟨p1, n1, c1, rfl, B10, T.out.fin B10 (hv.imp fun z _ hz => by rcases hz with hz | hz; exact hz; exact Or.inr (Nat.le_trans (bl3 B5.out hb).size hz))⟩
  clear FR RN SK WI9 HQ B3 B4 c0 c1 c2 c3 c4 c5 y0 y1 y2 y3 y4 y5 d0 d1 d2 d3 f1 f2
  have ne1 : ¬ sz + 1 = sz := by omega
  have ne2 : ¬ sz = sz + 1 := by omega
  go_region_held3 (fun w' => w'.cell? ⟨sz, 0, none⟩ = some (.slice pr nr cr) ∧ w'.cell? ⟨sz, 1, none⟩ = some (.slice pw nw cw)) (first | go_keep | (go_split_ands; refine ⟨?_, ?_⟩ <;> first | go_keep | (rw [World.cell?_setCell_other, World.cell?_setCell_other] <;> simp_all)))
    (first
      | (go_at_call 35; refine (CW.out _ _ _ B9.out O9.out).mono ?_; rintro e w10 ⟨p1, n1, c1, rfl, hb10, hf10⟩; have B10 := hid hb10; obtain ⟨z0, z1, x2, x3, x4, x5⟩ := T.out.at B10.out; have FN := hid hf10; clear hf10 hb10)
      | (refine step_append_any KI KI_ok (by rfl) (.tmp 37) (.tmp 38) 35 (by rfl) w5.heap.size Try.underlying35 _ (.slice (some ⟨w5.heap.size, 0, none⟩) 0 0) (.slice q5 L.length cc5) [] L (by rfl) AP0.out.a1.1 (by rfl) AP0.out.a1.2.1 L1.out AP0.out.a1.2.2.2 ?_; intro v8 w8 o8 b8 q8; rw [List.nil_append] at o8; obtain ⟨p8, c8, hv8, _⟩ := o8.form; subst hv8; have O8 := hid o8; have B8 : Hid (Below w5.heap.size w5 w8) := AP0.out.a1.2.2.1.trans b8; obtain ⟨y0, y1, y2, y3, y4, y5⟩ := T.out.at (bl3 B5.out B8.out); skip; clear o8 b8 q8)
      | (refine step_append_any KI KI_ok (by rfl) (.tmp 37) (.tmp 38) 35 (by rfl) w5.heap.size Try.underlying35 _ (.slice (some ⟨w5.heap.size, 0, none⟩) 0 0) (.slice q5 L.length cc5) [] L (by rfl) AP0.out.a2.1 (by rfl) AP0.out.a2.2.1 L1.out AP0.out.a2.2.2.2.1 ?_; intro v8 w8 o8 b8 q8; rw [List.nil_append] at o8; obtain ⟨p8, c8, hv8, _⟩ := o8.form; subst hv8; have O8 := hid o8; have B8 : Hid (Below w5.heap.size w5 w8) := AP0.out.a2.2.2.1.trans b8; obtain ⟨y0, y1, y2, y3, y4, y5⟩ := T.out.at (bl3 B5.out B8.out); have HC := hid ((q8 _ (lt_of_heap AP0.out.a2.2.2.2.2) N1.out).trans AP0.out.a2.2.2.2.2); clear o8 b8 q8)
      | (refine step_append_any KI KI_ok (by rfl) (.tmp 37) (.tmp 38) 35 (by rfl) w5.heap.size Try.underlying35 _ (.slice (some ⟨w5.heap.size + 1, 0, none⟩) 0 0) (.slice q5 L.length cc5) [] L (by rfl) AP0.out.a3.1 (by rfl) AP0.out.a3.2.1 L1.out AP0.out.a3.2.2.2.1 ?_; intro v8 w8 o8 b8 q8; rw [List.nil_append] at o8; obtain ⟨p8, c8, hv8, _⟩ := o8.form; subst hv8; have O8 := hid o8; have B8 : Hid (Below w5.heap.size w5 w8) := AP0.out.a3.2.2.1.trans b8; obtain ⟨y0, y1, y2, y3, y4, y5⟩ := T.out.at (bl3 B5.out B8.out); have HC := hid ((q8 _ (lt_of_heap AP0.out.a3.2.2.2.2) N2.out).trans AP0.out.a3.2.2.2.2); clear o8 b8 q8)
      | (refine step_append_g KI KI_ok (by rfl) (.tmp 39) (.tmp 41) 35 (by rfl) w5.heap.size Try.underlying35 w8 _ _ _ HC.out (.slice p8 L.length c8) L (m : Int) _ (by rfl) O8.out (by rfl) (by rfl) L2.out B8.out.size ?_; intro g9 c9 w9 o9 b9 _ _; have O9 := hid o9; have B9 : Hid (Below w5.heap.size w5 w9) := B8.out.trans b9; obtain ⟨u0, u1, u2, u3, u4, u5⟩ := T.out.at (bl3 B5.out B9.out); clear o9 b9)
      | (refine step_append_g KI KI_ok (by rfl) (.tmp 39) (.tmp 41) 35 (by rfl) w5.heap.size Try.underlying35 _ _ _ _ (heap_alloc_new w8 _) (.slice p8 L.length c8) L (m : Int) _ (by rfl) (O8.out.below (bal w8 _)) (by rfl) (by rfl) L2.out (Nat.le_trans B8.out.size (bal w8 _).size) ?_; intro g9 c9 w9 o9 b9 _ _; have O9 := hid o9; have B9 : Hid (Below w5.heap.size w5 w9) := (bl3 B8.out (bal w8 _)).trans b9; obtain ⟨u0, u1, u2, u3, u4, u5⟩ := T.out.at (bl3 B5.out B9.out); clear o9 b9))
  all_goals
    go_wp2_with fail
    refine bodyPost_ret (v := .tuple #[.agg #[.slice p1 n1 c1, .slice pw nw cw], .int .i64 0]) (by simp [results, Try.results13, go_sem, x2, x3]) rfl ?_
    exact ⟨_, _, _, _, _, _, rfl, (FN.out _ _).1, (FN.out _ _).2⟩
end Go.Proofs.Ytkhcinpcoabphaa
