/- Waiting: the walk of Cancel. -/
import Derived.Test.YtofdfofpdfaimaaWd8
import Derived.Maps.AppendAt
import Derived.Shelf.SlSortCmp.NoneTotal
namespace Go.Proofs.Ytofdfofpdfaimaa
open Go.RowKit Go.Maps

theorem append_at {α : Type} {P : Program} (K : RK α) (hk : K.Ok P) {ops : Array Oper} {rest : List Oper} {o : Oper} {a : Act} {Q : Exit → Act → World → Prop} (hgd : o.guard = none) (s x : Operand) (t : TypeId)
    (ho : o.op = .call { callee := .builtin .append, args := #[s, x], argTypes := #[t, t] })
    (base : Nat) (ht : P.underlying t = some (.slice K.ty))
    (w : World) (v vx : Value) (l m : List α) (hs : a.eval s = v) (hx : a.eval x = vx) (hown : OwnG K w base v l) (hm : GS K w vx m)
    (hlen : (l.length + m.length) * K.B ≤ 140737488355328) (hbase : base ≤ w.heap.size)
    (h : ∀ v' w', OwnG K w' base v' (l ++ m) → Below base w w' → (∀ k, k < w.heap.size → some k ≠ v.ownBlock → w'.heap[k]? = w.heap[k]?) → (∀ x, v'.ownBlock = some x → v.ownBlock = some x ∨ w.heap.size ≤ x) → wpList P ops Q rest (a.put o.dst v') w') : wpList P ops Q (o :: rest) a w := by
  obtain ⟨i0, hi0, hz0, hz1, hz2⟩ := hk.info
  have hpb := hk.posB
  have hn : l.length + m.length ≤ 140737488355328 := Nat.le_trans (Nat.le_mul_of_pos_right _ hpb) hlen
  have hm0 := hm
  rcases hm with ⟨rfl | ⟨ad, cap, rfl⟩, hmn⟩ | ⟨X, ox, cap, rfl, _⟩
  · subst hmn
    refine wpList_append_own_none hgd s x t ho base K.ty i0 K.W ht hi0 v l.length (l.flatMap K.f) hs hown hx ?_
    exact h v w (by rw [List.append_nil]; exact hown) (Below.refl _ _) (fun _ _ _ => rfl) (fun x hx => Or.inl hx)
  · subst hmn
    refine wpList_append_own_at _ hgd s x t ho base K.ty i0 K.z K.W K.B ht hi0 hz0 hz1 hz2 hk.zs hk.pos v l.length (l.flatMap K.f) hs hown ad 0 cap [] hx (by simp) (fun j u hj => by simp at hj) (fun u hu => by cases hu)
      (by unfold maxLen; simp at hn; omega) (by simpa using hlen) hbase ?_
    intro v' w' ho' hg _ hat
    refine h v' w' ?_ ((Below.refl base w).grown hg hbase (fun q hq => (World.ownsRow.lt hown q hq).1)) (fun k hk hne => hg.block k hk hne) (fun x hx => ?_)
    · unfold OwnG
      rw [List.append_nil]
      simpa using ho'
    · rcases hat with e | e
      · exact Or.inl (e ▸ hx)
      · rw [e] at hx; injection hx with hx; right; omega
  · have one : ∀ u ∈ m.flatMap K.f, u.oneCell' = true := fun u hu => by
      obtain ⟨f, _, hf⟩ := List.mem_flatMap.1 hu
      exact hk.one f u hf
    refine wpList_append_own_at _ hgd s x t ho base K.ty i0 K.z K.W K.B ht hi0 hz0 hz1 hz2 hk.zs hk.pos v l.length (l.flatMap K.f) hs hown ⟨X, ox, none⟩ m.length cap (m.flatMap K.f) hx (RK.flat_len hk.len m) (hm0.news hk.len hk.pos) one
      (by unfold maxLen; omega) hlen hbase ?_
    intro v' w' ho' hg _ hat
    refine h v' w' ?_ ((Below.refl base w).grown hg hbase (fun q hq => (World.ownsRow.lt hown q hq).1)) (fun k hk hne => hg.block k hk hne) (fun x hx => ?_)
    · unfold OwnG
      rw [List.length_append, List.flatMap_append]
      exact ho'
    · rcases hat with e | e
      · exact Or.inl (e ▸ hx)
      · rw [e] at hx; injection hx with hx; right; omega
/-- The sort, also of none. -/
theorem sortV_any (vg : Value) (G : List Wc) (w : World) (base : Nat) (h : OwnG KC w base vg G) (hl : G.length ≤ 1000) : Calls Try.prog 56 #[vg, .func (.func 57) #[] #[]] w fun e w' => e = .returned (.tuple #[]) ∧ ∃ G', G'.Perm G ∧ (G'.Pairwise fun a b => a.came ≤ b.came) ∧ GS KC w' vg G' ∧ But (fun x => vg.ownBlock = some x) w w' := by
  by_cases hG : G = []
  · subst hG
    obtain ⟨p, c, rfl, _⟩ := h.form
    have hcon := AnyF.slices_SortFunc_none Try.sortF56 p c (.func (.func 57) #[] #[]) w
    change Calls Try.prog 56 _ _ _ at hcon
    refine hcon.mono ?_
    rintro e w' ⟨rfl, rfl⟩
    exact ⟨rfl, [], List.Perm.refl _, List.Pairwise.nil, h.gs KC_ok.len, But.refl _ _⟩
  · have hb : vg.ownBlock ≠ none := fun e => by
      rcases h.2 with ⟨_, e2⟩ | ⟨g, cap, cur, e2, _⟩
      · exact hG (List.length_eq_zero_iff.1 e2)
      · rw [e2] at e; cases e
    obtain ⟨g, cap, rfl, _⟩ := h.place hb
    refine (sortG_any g cap G w base h hl).mono ?_
    rintro e w' ⟨rfl, G', h1, h2, h3, h4⟩
    exact ⟨rfl, G', h1, h2, h3, ⟨h4.os, h4.tape, h4.output, h4.size, fun x hx hn => h4.block x hx (fun e => hn (by subst e; rfl))⟩⟩
/-- The keys that are past. -/
def pK (T : List ByteArray) (k : Nat) (s : ByteArray) : Bool := (T.take k).any fun x => decide (s = x)
theorem pK_zero (T : List ByteArray) : pK T 0 = fun _ => false := by funext s; simp [pK]
theorem pK_next (T : List ByteArray) {k : Nat} (h : k < T.length) : pK T (k + 1) = fun s => pK T k s || decide (s = T[k]) := by
  funext s
  unfold pK
  rw [List.take_succ_eq_append_getElem h, List.any_append]
  simp [-List.take_append_getElem]
theorem pK_not {T : List ByteArray} {p : ByteArray → Bool} (h : Srt T p) {k : Nat} (hk : k < T.length) : pK T k T[k] = false := by
  unfold pK
  rw [List.any_eq_false]
  intro x hm hx
  obtain ⟨i, hi, e⟩ := List.getElem_of_mem hm
  have hx2 : T[k] = x := by simpa using hx
  have hi2 : i < k := by simp at hi; omega
  have e2 : T[i] = T[k] := by rw [hx2, ← e]; simp
  have := List.pairwise_iff_getElem.1 h.up i k (by omega) hk hi2
  rw [e2] at this
  exact List.lt_irrefl _ this
/-- What Cancel answers. -/
structure CA (w : World) (base r m : Nat) (f : ByteArray → Option Value) (L : List Wc) (c : Nat) (tok : ByteArray) (e : Ending) (w' : World) : Prop where
  ex : ∃ p cc, e = .returned (.slice p (cnL L tok).length cc) ∧ OwnG KW w' w.heap.size (.slice p (cnL L tok).length cc) ((cnL L tok).map fun x => x.w)
  rr : RR w base r m f (ncL L tok) c w'
theorem ci_end {w wk w4 w5 : World} {base r m : Nat} {f fk : ByteArray → Option Value} {L : List Wc} {c : Nat} {tok : ByteArray} {P : ByteArray → Bool} {G : List Wc} {vg vt : Value} {T : List ByteArray} {B : Nat} (h : CI w wk base r m f L c tok P G vg vt T B fk) (hP : ∀ x ∈ L, P x.w.key = true) (b4 : But (fun x => vg.ownBlock = some x) wk w4) (b5 : Below w4.heap.size w4 w5) : RR w base r m f (ncL L tok) c w5 := by
  have hx := h.rx
  rw [(gone_all hP).2] at hx
  have h4 : RX w4 base r m (ncL L tok) c fk := hx.keep (fun x hx2 => b4.block x (hx.lt hx2).2 (fun e => h.ap x e hx2))
  refine ⟨⟨fk, h4.below b5, h.fp⟩, ?_⟩
  have t4 : But (FP r m f) w w4 := h.bt.trans b4 (fun x hx => Or.inr (h.og.lt hx).1)
  exact t4.trans (G := fun _ => False) (But.of_below b5) (fun x hx => hx.elim)
set_option maxHeartbeats 8000000 in
set_option maxRecDepth 100000 in
theorem cancel_ok (tok : ByteArray) (w : World) (base r m : Nat) (L : List Wc) (c : Nat) (f : ByteArray → Option Value) (h : RX w base r m L c f) (h0 : 0 < tok.size) : Calls Try.prog 36 #[.pointer (some ⟨r, 0, none⟩), .string tok] w fun e w' => CA w base r m f L c tok e w' := by
  obtain ⟨z1, z2⟩ := bytes_ne h0
  have z3 : (tok.toList == []) = false := by simpa using z1
  have B1 : Hid (Below w.heap.size w (w.alloc (.cells #[.string tok] 9))) := bal _ _
  have H1 : Hid ((w.alloc (.cells #[.string tok] 9)).heap[w.heap.size]? = some (.cells #[.string tok] 9)) := heap_alloc_new _ _
  have KY := hid (keys_any _ base r m L c f (h.below B1.out))
  have HX := hid h
  have hmf : ∀ (fn : Fn) (first cap : Array Value) (w : World), (Instr.makeFunc fn first cap).run Try.prog w = .ok (.func fn first cap) w := fun _ _ _ _ => rfl
  clear h
  go_enter Try.func36, Try.ntmps36
  go_wp2_with (go_at_call 26; refine KY.out.mono ?_; rintro e w2 ⟨q2, c2, T, rfl, ho2, hs2, hb2⟩; have O2 := hid ho2; have S2 := hid hs2; have B2 := hid hb2; clear ho2 hs2 hb2)
  clear z1 z2 z3
  have C0 : Hid (∃ fk, CI w w2 base r m f L c tok (pK T 0) [] (.slice none 0 0) (.slice q2 T.length c2) T w.heap.size fk) := by
    rw [pK_zero]
    refine ⟨f, ⟨by rw [kept_zero]; exact HX.out.below (bl3 B1.out B2.out), fun x hx => Or.inl hx, But.of_below (bl3 B1.out B2.out), OwnG.nil _ _ _, (fun x hx => by cases hx), by rw [gone_zero], (B2.out.block _ (lt_of_heap H1.out)).trans H1.out, O2.out.low B1.out.size⟩⟩
  have TL : Hid (T.length ≤ 128) := by
    have hn : T.Nodup := S2.out.up.imp fun {a b} hlt e => by subst e; exact List.lt_irrefl _ hlt
    have := sub_len (m := L.map fun x => x.w.key) hn (fun s hs => by
      have h1 := (S2.out.mem s).1 hs
      cases hq : qK L s with
      | nil => rw [hq] at h1; cases h1
      | cons x t =>
        have : x ∈ qK L s := by rw [hq]; simp
        obtain ⟨h1, h2⟩ := qK_mem.1 this
        exact List.mem_map.2 ⟨x, h1, h2⟩)
    have h3 := HX.out.ri.len
    simp at this
    show _ ≤ _
    omega
  clear KY O2 B2 H1 B1
  go_loopw [5, 13] (fun v5 v13 wr => ∃ (k : Nat) (vg : Value) (wk : World), v13 = .int .i64 k ∧ vg = v5 ∧ wk = wr ∧ k ≤ T.length ∧ Hid (∃ G fk, CI w wk base r m f L c tok (pK T k) G vg (.slice q2 T.length c2) T w.heap.size fk)) (fun _ v13 _ => T.length - (intOf v13).toNat)
  case atStart => exact ⟨0, _, _, rfl, rfl, rfl, Nat.zero_le _, ⟨_, C0.out⟩⟩
  case round =>
    obtain ⟨k, vg, wr, rfl, rfl, rfl, hk, HI⟩ := hrel
    clear C0
    obtain ⟨G, fk, hci⟩ := HI.out
    have HC := hid hci
    clear HI hci
    have GL : Hid (G.length ≤ 128) := by
      have h1 := HC.out.pm.length_eq
      have h2 : (goneL L tok (pK T k)).length ≤ L.length := List.length_filter_le _ _
      have h3 := HX.out.ri.len
      show _ ≤ _
      omega
    have hT := TL.out
    by_cases hlt : k < T.length
    · obtain ⟨X, o, e1, x1⟩ := (HC.out.ot.gs KS_ok.len).atS hlt
      obtain rfl : q2 = some ⟨X, o, none⟩ := e1
      have hkey : T[k].size ≤ maxLen := by
        have h1 := (S2.out.mem T[k]).1 (List.getElem_mem hlt)
        cases hq : qK L T[k] with
        | nil => rw [hq] at h1; cases h1
        | cons x t =>
          have : x ∈ qK L T[k] := by rw [hq]; simp
          obtain ⟨h1, h2⟩ := qK_mem.1 this
          have := (HX.out.ri.ok x h1).2.1
          rw [h2] at this
          unfold maxLen; omega
      have TA := hid (take_any 55 #[.pointer (some ⟨w.heap.size, 0, none⟩)] (fun _ x => decide (x.w.tok = tok)) T[k] wr base r m _ c fk HC.out.rx hkey Try.call55 (fun W j x hb => toks_any j x tok w.heap.size W ((hb.block _ (lt_of_heap HC.out.bx)).trans HC.out.bx)))
      have PN := hid (pK_not S2.out hlt)
      have PX := hid (pK_next T hlt)
      obtain ⟨G2, hG2⟩ : ∃ G2, G2 = gnL (fun _ x => decide (x.w.tok = tok)) 0 (qK (keptL L tok (pK T k)) T[k]) := ⟨_, rfl⟩
      rw [← hG2] at TA
      have HG := hid hG2
      have G2L : Hid ((G.length + G2.length) * KC.B ≤ 140737488355328) := by
        have h1 : G2.length ≤ 128 := by
          rw [hG2]
          have h2 := gnL_len (fun _ x => decide (x.w.tok = tok)) 0 (qK (keptL L tok (pK T k)) T[k])
          have h3 := qK_len (keptL L tok (pK T k)) T[k]
          have h4 := HC.out.rx.ri.len
          omega
        have h5 := GL.out
        show (G.length + G2.length) * 56 ≤ _
        omega
      clear hG2 hkey
      generalize T[k] = key at *
      go_wp2_with (first | (go_at_call 29; refine TA.out.mono ?_; rintro e w3 ⟨q3, c3, rfl, ho3, hr3⟩; have O3 := hid ho3; have R3 := hid hr3; have OG3 := hid (HC.out.og.far (fun x hx => hr3.bt.block x (HC.out.og.lt hx).2 (HC.out.ap x hx))); have Z3 : Hid (w.heap.size ≤ w3.heap.size) := Nat.le_trans HC.out.bt.size hr3.bt.size; clear ho3 hr3) | (at_builtin; refine append_at KC KC_ok rfl (.tmp 17) (.tmp 21) 66 rfl w.heap.size Try.underlying66 _ vg _ G G2 rfl rfl OG3.out (O3.out.gs KC_ok.len) G2L.out Z3.out ?_; intro v4 w4 ho4 hb4 hk4 hu4))
      obtain ⟨f2, h2⟩ := HC.out.turn HX.out.ri PN.out HG.out R3.out ho4 hb4 hk4 hu4
      rw [← PX.out] at h2
      have N4 : Hid (∃ G fk, CI w w4 base r m f L c tok (pK T (k + 1)) G v4 (.slice (some ⟨X, o, none⟩) T.length c2) T w.heap.size fk) := ⟨_, _, h2⟩
      clear ho4 hb4 hk4 hu4 h2
      go_roundw
      case rel => exact ⟨k + 1, _, _, by go_num, rfl, rfl, by omega, N4⟩
      case measure => simp [intOf]; omega
    · obtain rfl : k = T.length := by omega
      have HP : Hid (∀ x ∈ L, pK T T.length x.w.key = true) := fun x hx => by
        unfold pK
        rw [List.take_length, List.any_eq_true]
        refine ⟨x.w.key, (S2.out.mem _).2 ?_, by simp⟩
        cases hq : qK L x.w.key with
        | nil => exact absurd (qK_mem.2 ⟨hx, rfl⟩) (by rw [hq]; simp)
        | cons => rfl
      have SO := hid (sortV_any vg G wr w.heap.size HC.out.og (by have := GL.out; omega))
      have EG : Hid (∀ G', G'.Perm G → (G'.Pairwise fun a b => a.came ≤ b.came) → G' = cnL L tok) := fun G' h1 h2 => by
        refine sorted_eq HX.out.ri tok (h1.trans ?_) h2
        have h3 := HC.out.pm
        rw [(gone_all HP.out).1] at h3
        exact h3
      have CL : Hid ((cnL L tok).length ≤ 10000) := by
        have h2 : (cnL L tok).length ≤ L.length := List.length_filter_le _ _
        have h3 := HX.out.ri.len
        show _ ≤ _
        omega
      obtain ⟨pv, cv, hvg, _⟩ := HC.out.og.form
      subst hvg
      go_wp2_with (first | (go_at_call 56; refine SO.out.mono ?_; rintro e w4 ⟨rfl, G', hp4, hs4, hg4, hb4⟩; rw [EG.out G' hp4 hs4] at hg4; have G4 := hid hg4; have B4 := hid hb4; have Z4 : Hid (w.heap.size ≤ w4.heap.size) := Nat.le_trans HC.out.bt.size hb4.size; clear hp4 hs4 hg4 hb4) | (go_at_call 28; refine (plain_any _ (cnL L tok) _ G4.out CL.out).mono ?_; rintro e w5 ⟨p5, c5, rfl, ho5, hb5⟩; have O5 := hid ho5; have B5 := hid hb5; clear ho5 hb5))
      go_ret
      exact ⟨⟨_, _, rfl, O5.out.low Z4.out⟩, ci_end HC.out HP.out B4.out B5.out⟩
set_option maxHeartbeats 2000000 in
theorem cancel_none (w : World) (r : Nat) : Calls Try.prog 36 #[.pointer (some ⟨r, 0, none⟩), .string ⟨#[]⟩] w fun e w' => e = .returned (.slice none 0 0) ∧ Below w.heap.size w w' := by
  have B1 := hid (bal w)
  go_enter Try.func36, Try.ntmps36
  go_wp2
  go_ret
  exact ⟨rfl, B1.out _⟩
end Go.Proofs.Ytofdfofpdfaimaa
