/- Waiting: New, Join. -/
import Derived.Test.YtofdfofpdfaimaaWc2
import Derived.Deep.RegionLaw
import Derived.Deep.RegionHeld3
namespace Go.Proofs.Ytofdfofpdfaimaa
open Go.RowKit Go.Maps

theorem step_append_g {α : Type} {P : Program} (K : RK α) (hk : K.Ok P) {ops : Array Oper} {o : Oper} {a : Act} {C : Act → World → Prop} {Q : Exit → Act → World → Prop} {E : Prop} (hgd : o.guard = none) (s x : Operand) (t : TypeId)
    (ho : o.op = .call { callee := .builtin .append, args := #[s, x], argTypes := #[t, t] })
    (base : Nat) (ht : P.underlying t = some (.slice K.ty))
    (w1 : World) (b : Nat) (cells : Array Value) (tc : TypeId) (hblk : w1.heap[b]? = some (.cells cells tc)) (v : Value) (l : List α) (f : α) (c : Nat) (hs : a.eval s = v) (hown : OwnG K w1 base v l)
    (hx : a.eval x = .slice (some ⟨b, 0, none⟩) 1 c) (hc : cells.toList = K.f f)
    (hlen : (l.length + 1) * K.B ≤ 140737488355328) (hbase : base ≤ w1.heap.size)
    (h : ∀ g cap w', OwnG K w' base (.slice (some ⟨g, 0, none⟩) (l.length + 1) cap) (l ++ [f]) → Below base w1 w' → (∀ k, k < w1.heap.size → some k ≠ v.ownBlock → w'.heap[k]? = w1.heap[k]?) → (v.ownBlock = some g ∨ w1.heap.size ≤ g) → C (a.put o.dst (.slice (some ⟨g, 0, none⟩) (l.length + 1) cap)) w') :
    if Region.wanted o (yielded ops a.tmps) = true then Oper.wp P o a w1 C Q else E := by
  obtain ⟨i0, hi0, hz0, hz1, hz2⟩ := hk.info
  have hpb := hk.posB
  have hn : l.length + 1 ≤ 140737488355328 := Nat.le_trans (Nat.le_mul_of_pos_right _ hpb) hlen
  refine step_append_lies _ hgd s x t ho base K.ty i0 K.z K.W K.B ht hi0 hz0 hz1 hz2 hk.zs hk.pos v l.length (l.flatMap K.f) hs hown ⟨b, 0, none⟩ 1 c (K.f f) hx (by rw [hk.len]; omega) (by rw [← hc]; exact World.news_of_block hblk) (hk.one f)
    (by decide) (by unfold maxLen; omega) hlen hbase _ rfl ?_
  intro g cap w' ho' hg hgg _
  refine h g cap w' ?_ ((Below.refl base w1).grown hg hbase (fun q hq => (hown.lt hq).1)) (fun k hk hne => hg.block k hk hne) ?_
  · unfold OwnG
    rw [List.length_append, List.flatMap_append]
    simpa using ho'
  · rcases hgg with hgg | hgg
    · exact Or.inl hgg
    · right; rw [hgg]; exact Nat.le_refl _
theorem rx_new (w : World) : RX ((w.alloc (.map #[] 0)).alloc (.cells #[.map (some w.heap.size), .int .i64 0] 64)) w.heap.size (w.heap.size + 1) w.heap.size [] 0 (fun _ => none) := by
  refine ⟨?_, ?_, fun _ => rfl, (fun k v h => by cases h), (fun k k' v v' h => by cases h), RI.nil, by omega, by omega⟩
  · have := heap_alloc_new (w.alloc (.map #[] 0)) (.cells #[.map (some w.heap.size), .int .i64 0] 64)
    rw [show (w.alloc (.map #[] 0)).heap.size = w.heap.size + 1 by simp] at this
    exact this
  · exact (MQ.made w).below (bal _ _)
set_option maxHeartbeats 2000000 in
theorem new_any (w : World) : Calls Try.prog 7 #[] w fun e w' => e = .returned (.pointer (some ⟨w.heap.size + 1, 0, none⟩)) ∧ RX w' w.heap.size (w.heap.size + 1) w.heap.size [] 0 (fun _ => none) ∧ Below w.heap.size w w' := by
  have hmm := @run_makeMap Try.prog
  have R := hid (rx_new w)
  go_enter Try.func7, Try.ntmps7
  go_wp2
  go_ret
  exact ⟨rfl, R.out, bl3 (bal _ _) (bal _ _)⟩
/-- What Join answers, and makes. -/
def joinE (L : List Wc) (x : Wt) : Int := if chkE x = 0 then (if (fdO L x.task).isSome then 6 else 0) else chkE x
def joinL (L : List Wc) (c : Nat) (x : Wt) : List Wc := if joinE L x = 0 then L ++ [⟨x, c⟩] else L
def joinC (L : List Wc) (c : Nat) (x : Wt) : Nat := if joinE L x = 0 then c + 1 else c
theorem RR.same {w w' : World} {base r m : Nat} {L : List Wc} {c : Nat} {f : ByteArray → Option Value} (h : RX w base r m L c f) (k : Below w.heap.size w w') {x : Wt} (e : joinE L x ≠ 0) : RR w base r m f (joinL L c x) (joinC L c x) w' := by
  unfold joinL joinC
  rw [if_neg e, if_neg e]
  exact h.rr k
/-- What is behind the append, the map's store and the count's. -/
theorem rx_join {w w4 w5 w6 w7 : World} {base r m : Nat} {L : List Wc} {c : Nat} {f : ByteArray → Option Value} {x : Wt} {g cap : Nat} (h : RX w base r m L c f) (h4 : Below w.heap.size w w4) (hx : chkE x = 0) (hn : ∀ y ∈ L, y.w.task ≠ x.task)
    (ho : OwnG KC w5 base (.slice (some ⟨g, 0, none⟩) ((qK L x.key).length + 1) cap) (qK L x.key ++ [⟨x, c⟩])) (hb5 : Below base w4 w5) (hk5 : ∀ k, k < w4.heap.size → some k ≠ ((f x.key).getD (.slice none 0 0)).ownBlock → w5.heap[k]? = w4.heap[k]?) (hg : ((f x.key).getD (.slice none 0 0)).ownBlock = some g ∨ w4.heap.size ≤ g)
    (hm : MQ w6 m (putF f x.key (.slice (some ⟨g, 0, none⟩) ((qK L x.key).length + 1) cap))) (hb6 : But (fun y => y = m) w5 w6)
    (h7 : w7 = w6.setCell ⟨r, 1, none⟩ (.int .i64 (((c + 1 : Nat)) : Int))) : RR w base r m f (L ++ [⟨x, c⟩]) (c + 1) w7 := by
  have hr4 := h.below h4
  have rl := lt_of_heap hr4.hp
  have sz5 := hb5.size
  have sz6 := hb6.size
  have hown : ∀ v, f x.key = some v → ((f x.key).getD (.slice none 0 0)) = v := fun v e => by rw [e]; rfl
  have nr : some r ≠ ((f x.key).getD (.slice none 0 0)).ownBlock := fun e => by
    cases hf : f x.key with
    | none => rw [hf] at e; cases e
    | some v => rw [hf] at e; exact (hr4.ownne hf e.symm).1 rfl
  have nm : some m ≠ ((f x.key).getD (.slice none 0 0)).ownBlock := fun e => by
    cases hf : f x.key with
    | none => rw [hf] at e; cases e
    | some v => rw [hf] at e; exact (hr4.ownne hf e.symm).2 rfl
  have gm : g ≠ m := fun e => by
    rcases hg with q | q
    · exact nm (by rw [← e]; exact q.symm)
    · have := hr4.mq.lt; omega
  have gr : g ≠ r := fun e => by
    rcases hg with q | q
    · exact nr (by rw [← e]; exact q.symm)
    · omega
  have blk7 : ∀ y, y ≠ r → w7.heap[y]? = w6.heap[y]? := fun y hy => by rw [h7]; exact Below.heap_setCell _ _ _ _ hy
  have blk : ∀ y, y < w4.heap.size → y ≠ r → y ≠ m → some y ≠ ((f x.key).getD (.slice none 0 0)).ownBlock → w7.heap[y]? = w4.heap[y]? := fun y h1 h2 h3 h4 => by
    rw [blk7 y h2, hb6.block y (by omega) h3, hk5 y h1 h4]
  have hn2 : ∀ (v : Value) (y : Nat), putF f x.key (.slice (some ⟨g, 0, none⟩) ((qK L x.key).length + 1) cap) x.key = some v → v.ownBlock = some y → w4.heap.size ≤ y ∨ ∃ v0, f x.key = some v0 ∧ v0.ownBlock = some y := fun v y e1 e2 => by
    unfold putF at e1
    rw [if_pos rfl] at e1
    injection e1 with e1
    subst e1
    have : g = y := by simpa [Value.ownBlock] using e2
    subst this
    rcases hg with q | q
    · right
      cases hf : f x.key with
      | none => rw [hf] at q; cases q
      | some v0 => rw [hf] at q; exact ⟨v0, rfl, q⟩
    · exact Or.inl q
  have hf2 : ∀ s, s ≠ x.key → putF f x.key (.slice (some ⟨g, 0, none⟩) ((qK L x.key).length + 1) cap) s = f s := fun s hs => by unfold putF; rw [if_neg hs]
  have qe : qK (L ++ [⟨x, c⟩]) x.key = qK L x.key ++ [⟨x, c⟩] := by rw [qK_app]; congr 1; simp [qK]
  refine ⟨⟨_, hr4.turn x.key ?_ ?_ hf2 (fun s hs => ?_) ?_ (fun v hv => ?_) hn2 (h.ri.join hx hn) (fun y h1 h2 h3 h4 => blk y h1 h2 h3 (fun e => ?_)), fun y hy => ?_⟩, ?_⟩
  · rw [h7]
    have : w6.heap[r]? = some (.cells #[.map (some m), .int .i64 c] 64) := by rw [hb6.block r (by omega) hr4.rm, hk5 r rl nr]; exact hr4.hp
    exact heap_setCell_same w6 r 1 _ _ _ this
  · exact hm.far (blk7 m (fun e => hr4.rm e.symm))
  · rw [qK_app]; simp [qK, Ne.symm hs]
  · rw [qe]; unfold putF; rw [if_pos rfl]; simp
  · unfold putF at hv
    rw [if_pos rfl] at hv
    injection hv with hv
    subst hv
    rw [qe]
    refine ho.far (fun y hy => ?_)
    have : g = y := by simpa [Value.ownBlock] using hy
    subst this
    rw [blk7 _ gr, hb6.block _ (ho.lt hy).2 gm]
  · cases hf : f x.key with
    | none => rw [hf] at e; cases e
    | some v => rw [hf] at e; exact h4 v hf e.symm
  · rcases fp_turn (w := w4) x.key hf2 hn2 y hy with e | e
    · exact Or.inl e
    · exact Or.inr (Nat.le_trans h4.size e)
  · refine ⟨?_, ?_, ?_, ?_, fun y h1 h2 => ?_⟩
    · rw [h7]; exact hb6.os.trans (hb5.os.trans h4.os)
    · rw [h7]; exact hb6.tape.trans (hb5.tape.trans h4.tape)
    · rw [h7]; exact hb6.output.trans (hb5.output.trans h4.output)
    · rw [h7]; simp; have := h4.size; omega
    · have l4 := h4.size
      rw [blk y (by omega) (fun e => h2 (Or.inl e)) (fun e => h2 (Or.inr (Or.inl e))) (fun e => ?_)]
      · exact h4.block y h1
      · cases hf : f x.key with
        | none => rw [hf] at e; cases e
        | some v => rw [hf] at e; exact h2 (Or.inr (Or.inr ⟨_, v, hf, e.symm⟩))
end Go.Proofs.Ytofdfofpdfaimaa
