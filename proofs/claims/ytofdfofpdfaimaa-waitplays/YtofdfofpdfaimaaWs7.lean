/- Waiting: Clone. -/
import Derived.Test.YtofdfofpdfaimaaWs6
namespace Go.Proofs.Ytofdfofpdfaimaa
open Go.RowKit Go.Maps

theorem MQ.len {w : World} {b : Nat} {f : ByteArray → Option Value} (h : MQ w b f) {t e : TypeId} (ht : Try.prog.underlying t = some (.map 9 e)) (K : List ByteArray) (hK : ∀ s, (f s).isSome = true → s ∈ K) : ∃ n : Nat, n ≤ K.length ∧ ∀ ty, (Builtin.len_ #[t] ty #[.map (some b)]).run Try.prog w = .ok (.int .i64 n) w := by
  obtain ⟨D, h1, h2, h3⟩ := h
  exact ⟨Maps.size D, mq_size h1 h2 K hK, fun ty => h1.len ht ty⟩
/-- A room's copy under way. -/
structure CL (w wk : World) (m : Nat) (f fn : ByteArray → Option Value) (L : List Wc) (left : ByteArray → Bool) (cnt : Nat) : Prop where
  mq : MQ wk w.heap.size fn
  dom : ∀ k, (fn k).isSome = ((f k).isSome && !left k)
  own : ∀ k v, fn k = some v → OwnG KC wk (w.heap.size + 2) v (qK L k)
  ap : ∀ k k' v v', fn k = some v → fn k' = some v' → k ≠ k' → v.ownBlock ≠ v'.ownBlock
  rm : RM wk m (w.heap.size + 1) f left cnt
  bl : Below w.heap.size w wk
theorem CL.turn {w wk w4 w5 w6 : World} {m : Nat} {f fn : ByteArray → Option Value} {L : List Wc} {left : ByteArray → Bool} {cnt cnt4 : Nat} {x : ByteArray} {u : Value} (h : CL w wk m f fn L left cnt) (hm : m < w.heap.size) (hfx : (f x).isSome = true) (hr : RM w4 m (w.heap.size + 1) f (fun s => left s && !decide (s = x)) cnt4) (hb4 : But (fun y => y = w.heap.size + 1) wk w4) (hs4 : w4.heap.size = wk.heap.size) (hb5 : Below w4.heap.size w4 w5) (ho : OwnG KC w5 w4.heap.size u (qK L x)) (hq : 0 < (qK L x).length) (hq6 : MQ w6 w.heap.size (putF fn x u)) (hb6 : But (fun y => y = w.heap.size) w5 w6) (hs6 : w6.heap.size = w5.heap.size) : CL w w6 m f (putF fn x u) L (fun s => left s && !decide (s = x)) cnt4 := by
  have hlt := hr.lt
  have hz5 := hb5.size
  have kp : ∀ g, g < wk.heap.size → g ≠ w.heap.size → g ≠ w.heap.size + 1 → w6.heap[g]? = wk.heap[g]? := fun g h1 h2 h3 =>
    (hb6.block g (by omega) h2).trans ((hb5.block g (by omega)).trans (hb4.block g h1 h3))
  obtain ⟨gu, cu, hu⟩ : ∃ g c, u = .slice (some ⟨g, 0, none⟩) (qK L x).length c := by
    rcases ho.2 with ⟨_, e⟩ | ⟨g, cap, cur, e, _⟩
    · omega
    · exact ⟨g, cap, e⟩
  have hgu := ho.lt (g := gu) (by rw [hu]; rfl)
  refine ⟨hq6, fun k => ?_, fun k v hk => ?_, fun k k' v v' hk hk' hne e => ?_, hr.far ((hb6.block _ (by omega) (by omega)).trans (hb5.block _ hlt.1)) ((hb6.block _ (by omega) (by omega)).trans (hb5.block _ hlt.2)), ?_⟩
  · unfold putF
    by_cases e : k = x
    · subst e; rw [if_pos rfl, hfx]; simp
    · rw [if_neg e, h.dom]; simp [e]
  · unfold putF at hk
    by_cases e : k = x
    · subst e
      rw [if_pos rfl] at hk
      obtain rfl := Option.some.inj hk
      exact (ho.far (fun g hg => hb6.block g (ho.lt hg).2 (by have := (ho.lt hg).1; omega))).low (by omega)
    · rw [if_neg e] at hk
      have h1 := h.own k v hk
      exact h1.far (fun g hg => kp g (h1.lt hg).2 (by have := (h1.lt hg).1; omega) (by have := (h1.lt hg).1; omega))
  · unfold putF at hk hk'
    by_cases e1 : k = x
    · subst e1
      rw [if_pos rfl] at hk
      rw [if_neg (fun q => hne q.symm)] at hk'
      obtain rfl := Option.some.inj hk
      have := ((h.own k' v' hk').lt (g := gu) (by rw [← e, hu]; rfl)).2
      omega
    · rw [if_neg e1] at hk
      by_cases e2 : k' = x
      · subst e2
        rw [if_pos rfl] at hk'
        obtain rfl := Option.some.inj hk'
        have := ((h.own k v hk).lt (g := gu) (by rw [e, hu]; rfl)).2
        omega
      · rw [if_neg e2] at hk'
        exact h.ap k k' v v' hk hk' hne e
  · refine ⟨hb6.os.trans (hb5.os.trans (hb4.os.trans h.bl.os)), hb6.tape.trans (hb5.tape.trans (hb4.tape.trans h.bl.tape)), hb6.output.trans (hb5.output.trans (hb4.output.trans h.bl.output)), by have := h.bl.size; omega, fun y hy => ?_⟩
    exact (kp y (Nat.lt_of_lt_of_le hy h.bl.size) (by omega) (by omega)).trans (h.bl.block y hy)
set_option maxHeartbeats 8000000 in
set_option maxRecDepth 100000 in
theorem clone_any (w : World) (base r m : Nat) (L : List Wc) (c : Nat) (f : ByteArray → Option Value) (h : RX w base r m L c f) : Calls Try.prog 9 #[.pointer (some ⟨r, 0, none⟩)] w fun e w' => ∃ r' m' f', e = .returned (.pointer (some ⟨r', 0, none⟩)) ∧ RX w' w.heap.size r' m' L c f' ∧ Below w.heap.size w w' := by
  obtain ⟨c0, c1, _⟩ := h.cells
  obtain ⟨d0, d1, _⟩ := (h.below (bal w (.map #[] 0))).cells
  have HX := hid h
  have hml := h.mq.lt
  have hll := h.ri.len
  have hmm : ∀ (n : Int) (w' : World), (Instr.makeMap 62 (some (.int .i64 n))).run Try.prog w' = .ok (.map (some w'.heap.size)) (w'.alloc (.map #[] 0)) := fun n w' => by simp [Instr.makeMap, underlying, Try.underlying62, asInt, go_sem]
  have hK : ∀ s, (f s).isSome = true → s ∈ L.map fun x => x.w.key := fun s hs => by
    rw [h.dom] at hs
    cases hq : qK L s with
    | nil => rw [hq] at hs; cases hs
    | cons y l =>
      have := (qK_mem (L := L) (k := s) (x := y)).1 (by rw [hq]; simp)
      exact List.mem_map.2 ⟨y, this.1, this.2⟩
  obtain ⟨n0, hn0, hlen⟩ := h.mq.len Try.underlying62 (L.map fun x => x.w.key) hK
  rw [List.length_map] at hn0
  have hn1 : n0 ≤ 128 := by omega
  have HK := hid hK
  have QL : Hid (∀ k v, f k = some v → 0 < (qK L k).length ∧ (qK L k).length ≤ 10000) := fun k v hk => by
    have hd := h.dom k
    rw [hk] at hd
    refine ⟨?_, Nat.le_trans (List.length_filter_le _ _) (by omega)⟩
    cases hq : qK L k with
    | nil => rw [hq] at hd; cases hd
    | cons => simp
  clear h hK
  go_enter Try.func9, Try.ntmps9
  go_wp2_with (at_range; refine range_mq rfl _ 62 rfl 66 Try.underlying62 m f rfl (HX.out.mq.below (bal w _)) (w.heap.size + 1) (by simp) ?_; intro w3 cnt3 hrg3 hb3 hs3)
  have hbw : Below w.heap.size w w3 := (bal w (.map #[] 0)).trans (hb3.mono (by simp))
  have C3 : Hid (∃ fn left cnt, CL w w3 m f fn L left cnt) := ⟨fun _ => none, _, cnt3, (MQ.made w).below hb3, fun k => by simp, fun k v hk => (by cases hk), fun k k' v v' hk => (by cases hk), hrg3, hbw⟩
  clear hrg3 hb3 hs3 hbw c0 c1 d0 d1 hmm hlen
  go_frame
  go_loopw [4] (fun _ wr => ∃ (wk : World), wk = wr ∧ Hid (∃ fn left cnt, CL w wk m f fn L left cnt)) (fun _ wr => wr.rangeLeft m (w.heap.size + 1))
  case atStart => exact ⟨_, rfl, C3⟩
  case round =>
    obtain ⟨wr, rfl, HI⟩ := hrel
    clear C3
    obtain ⟨fn, left, cnt, hcl⟩ := HI.out
    have HC := hid hcl
    clear HI hcl
    obtain ⟨c0, c1, _⟩ := (HX.out.below HC.out.bl).cells
    go_wp2_with (first | (at_next; refine next_mq rfl _ rfl m (w.heap.size + 1) f left cnt rfl HC.out.rm ?_ ?_))
    · intro hd
      have RF : Hid (RX (wr.alloc (.cells #[.map (some w.heap.size), .int .i64 c] 64)) w.heap.size wr.heap.size w.heap.size L c fn ∧ Below w.heap.size w (wr.alloc (.cells #[.map (some w.heap.size), .int .i64 c] 64))) :=
        ⟨⟨heap_alloc_new wr _, HC.out.mq.below (bal wr _), fun k => by rw [HC.out.dom, hd, ← HX.out.dom]; simp, fun k v hk => ((HC.out.own k v hk).below (bal wr _)).low (by omega), HC.out.ap, HX.out.ri, HC.out.bl.size, Nat.le_refl _⟩, bl3 HC.out.bl (bal wr _)⟩
      clear hd HC
      go_wp2_with fail
      go_ret
      exact ⟨_, _, _, rfl, RF.out.1, RF.out.2⟩
    · intro x v w4 cnt4 hx hlx hfx hrg4 hlt hbt4 hs4 hen
      obtain ⟨pv, cv, hv, _⟩ := (HX.out.own x v hfx).form
      have G4 : Hid (GS KC w4 v (qK L x)) := by
        have h1 := HX.out.own x v hfx
        refine (h1.gs KC_ok.len).blk (by rw [hs4]; exact HC.out.bl.size) (fun y hy hl => (hbt4.block y (Nat.lt_of_lt_of_le hl HC.out.bl.size) (by omega)).trans (HC.out.bl.block y hl))
      have CQ := hid (cloneQ_any w4 v (qK L x) G4.out (QL.out x v hfx).1 (QL.out x v hfx).2)
      have PU : Hid (∀ w5 u, Below w4.heap.size w4 w5 → OwnG KC w5 w4.heap.size u (qK L x) → ∃ w6, (Instr.mapUpdate 62 (.map (some w.heap.size)) (.string x) u).run Try.prog w5 = .ok () w6 ∧ CL w w6 m f (putF fn x u) L (fun s => left s && !decide (s = x)) cnt4) := fun w5 u hb5 ho => by
        have hq5 : MQ w5 w.heap.size fn := by
          have q1 : MQ w4 w.heap.size fn := HC.out.mq.far (hbt4.block _ HC.out.mq.lt (by omega))
          exact q1.below hb5
        obtain ⟨w6, e1, e2, e3, e4⟩ := hq5.put Try.underlying62 (L.map fun x => x.w.key) (fun s hs => HK.out s (by rw [HC.out.dom] at hs; cases hq : (f s).isSome with | true => rfl | false => rw [hq] at hs; cases hs)) (by rw [List.length_map]; unfold maxLen; omega) hx u
        exact ⟨w6, e1, HC.out.turn hml (by rw [hfx]; rfl) hrg4 hbt4 hs4 hb5 ho (QL.out x v hfx).1 e2 e3 e4⟩
      have LW : Hid (wr.rangeLeft m (w.heap.size + 1) = cnt) := HC.out.rm.left_eq
      have LT4 := hid hlt
      clear hrg4 hlx hbt4 hs4 hfx hlt HC G4 hx c0 c1
      subst hv
      go_wp2_with (go_at_call 27; refine CQ.out.mono ?_; rintro e w5 ⟨p5, c5, rfl, ho5, hb5⟩; obtain ⟨w6, hr6, hc6⟩ := PU.out w5 _ hb5 ho5; have C6 := hid hc6; clear ho5 hb5 hc6)
      go_roundw
      case rel => exact ⟨_, rfl, ⟨_, _, _, C6.out⟩⟩
      case measure => rw [C6.out.rm.left_eq, LW.out]; exact LT4.out
end Go.Proofs.Ytofdfofpdfaimaa
