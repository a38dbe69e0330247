/- Waiting, the document's side: First. -/
import Derived.Test.YtofdfofpdfaimaaWr7
namespace Go.Proofs.Ytofdfofpdfaimaa
open Go.RowKit Go.Maps

set_option maxHeartbeats 8000000 in
set_option maxRecDepth 100000 in
theorem rfirst_no (v : Value) (M : List Wt) (key : ByteArray) (n : Int) (w : World) (h : GS KW w v M) (hn : n < 0) : Calls Try.prog 35 #[.agg #[v], .string key, .int .i64 n] w fun e w' => e = .returned (.tuple #[.agg #[v], .slice none 0 0, .int .i64 1]) ∧ Below w.heap.size w w' := by
  obtain ⟨p0, cap0, rfl⟩ := h.form
  have BJ : Hid (∀ o1 o2 : Obj, Below w.heap.size w ((w.alloc o1).alloc o2)) := fun o1 o2 => bl3 (bal _ _) (bal _ _)
  clear h
  go_enter Try.func35, Try.ntmps35
  go_wp2_with fail
  go_returns
  exact ⟨rfl, BJ.out _ _⟩
set_option maxHeartbeats 8000000 in
set_option maxRecDepth 100000 in
theorem rfirst_ok (v : Value) (M : List Wt) (key : ByteArray) (n : Int) (w : World) (h : GS KW w v M) (hl : M.length ≤ 128) (hd : M.Pairwise (fun x y => x.task ≠ y.task)) (hn : 0 ≤ n) : Calls Try.prog 35 #[.agg #[v], .string key, .int .i64 n] w fun e w' => WkR w v M ((M.filter fun x => decide (x.key = key)).take n.toNat) #[.int .i64 0] e w' := by
  have QU := hid (fun w' (hb : Below w.heap.size w w') => rqueue_any v M key w' (h.below hb) (by omega))
  have hfl : (M.filter fun x => decide (x.key = key)).length ≤ 128 := by have := List.length_filter_le (fun x : Wt => decide (x.key = key)) M; omega
  have hsub : (M.filter fun x => decide (x.key = key)).Sublist M := List.filter_sublist
  generalize (M.filter fun x => decide (x.key = key)) = Q at *
  have hs2 : (Q.take n.toNat).Sublist M := List.Sublist.trans (List.take_sublist _ _) hsub
  have GO := hid (fun w' vl (hb : Below w.heap.size w w') (hg : GS KW w' vl (Q.take n.toNat)) => rgone_any v vl M (Q.take n.toNat) w' (h.below hb) hg hl (by have := List.length_take_le' n.toNat Q; omega) hd (List.Pairwise.sublist hs2 hd) (fun y hy => ⟨y, hs2.subset hy, rfl⟩))
  have RX : Hid (∀ e w', WkR w v M (Q.take n.toNat) #[.int .i64 0] e w' = ∃ v' p c, e = .returned (.tuple (#[.agg #[v'], .slice p (Q.take n.toNat).length c] ++ #[.int .i64 0])) ∧ GS KW w' v' (gneL M (Q.take n.toNat)) ∧ ((v' = v ∧ gneL M (Q.take n.toNat) = M) ∨ OwnG KW w' w.heap.size v' (gneL M (Q.take n.toNat))) ∧ GS KW w' (.slice p (Q.take n.toNat).length c) (Q.take n.toNat) ∧ Below w.heap.size w w') := fun _ _ => rfl
  generalize WkR w v M (Q.take n.toNat) #[.int .i64 0] = RR at *
  have Q0 := hid (QC.new w v)
  have HV := hid h
  obtain ⟨p0, cap0, rfl⟩ := h.form
  clear h hl hd hsub hs2
  have hn2 : ¬ n < 0 := by omega
  by_cases hq : n < (Q.length : Int)
  · obtain ⟨k, rfl⟩ : ∃ k : Nat, n = k := ⟨n.toNat, by omega⟩
    simp only [Int.toNat_natCast] at GO RX
    have CU : Hid (∀ (w' : World) (p : Option Addr) (c base : Nat), OwnG KW w' base (.slice p Q.length c) Q → ∃ g, p = some ⟨g, 0, none⟩ ∧ OwnG KW w' base (.slice (some ⟨g, 0, none⟩) k c) (Q.take k) ∧ Q.length ≤ c) := fun w' p c base ho => by
      obtain ⟨g, c', e, hc⟩ := ho.place (by rcases ho.2 with ⟨e, e2⟩ | ⟨g, cap, cur, e, _⟩; · omega
                                            · injection e with e _ _; rw [e]; simp [Value.ownBlock])
      injection e with e1 e2 e3
      subst e1 e3
      exact ⟨g, rfl, ho.cut KW_ok.len k (by omega), hc⟩
    have TK : Hid ((Q.take k).length = k) := by show _ = _; rw [List.length_take]; omega
    rw [TK.out] at RX
    generalize Q.take k = T at *
    have LQ : Hid (Q.length ≤ 128) := hfl
    generalize hql : Q.length = lq at *
    clear hfl hql
    go_enter Try.func35, Try.ntmps35
    go_wp2_with (first | (go_at_call 18; refine (QU.out _ Q0.out.bl).mono ?_; rintro e w5 ⟨p5, c5, rfl, ho, hb⟩; obtain ⟨g5, hg5, hc5, hl5⟩ := CU.out _ _ _ _ ho; subst hg5; have hk5 : (k : Int) ≤ (c5 : Int) := (by omega); have Q5 := hid (Q0.out.below hb); have O5 := hid hc5; have c0 := box1 Q5.out.b0; have c1 := box1 Q5.out.b1; have fr : ∀ z, w5.frozen? ⟨w.heap.size + 1, z, none⟩ = false := frz1 Q5.out.b1; clear ho hb hc5) | (go_at_call 54; refine (GO.out _ _ Q5.out.bl (O5.out.gs KW_ok.len)).mono ?_; rintro e w6 ⟨v6, rfl, hg6, ho6, hb6⟩; obtain ⟨p6, c6, hv6⟩ := hg6.form; subst hv6; have O6 := hid ho6; have Q6 := hid (Q5.out.below hb6); have P6 := hid ((O5.out.low (show w.heap.size + 2 ≤ _ from Nat.le_succ_of_le (Q0.out.lt))).below hb6); have e0 := box1 Q6.out.b0; have e1 := box1 Q6.out.b1; have fs : ∀ z, w6.frozen? ⟨w.heap.size + 1, z, none⟩ = false := frz1 Q6.out.b1; clear hg6 ho6 hb6))
    have hz := heap_setCell_same w6 (w.heap.size + 1) 0 _ _ (.slice p6 (gneL M T).length c6) Q6.out.b1
    have hc9 := box1 hz
    have F := hid (wk_end HV.out Q6.out O6.out Q5.out.lt P6.out)
    refine bodyPost_ret (v := .tuple #[.agg #[.slice p6 (gneL M T).length c6], .slice (some ⟨g5, 0, none⟩) k c5, .int .i64 0]) (by simp [results, Try.results35, go_sem, hc9]) rfl ?_
    rw [RX.out]
    exact ⟨_, _, _, rfl, F.out⟩
  · have TK : Hid (Q.take n.toNat = Q) := List.take_of_length_le (by omega)
    rw [TK.out] at GO RX
    generalize hql : Q.length = lq at *
    clear hql
    go_enter Try.func35, Try.ntmps35
    go_wp2_with (first | (go_at_call 18; refine (QU.out _ Q0.out.bl).mono ?_; rintro e w5 ⟨p5, c5, rfl, ho, hb⟩; have Q5 := hid (Q0.out.below hb); have O5 := hid ho; have c0 := box1 Q5.out.b0; have c1 := box1 Q5.out.b1; have fr : ∀ z, w5.frozen? ⟨w.heap.size + 1, z, none⟩ = false := frz1 Q5.out.b1; clear ho hb) | (go_at_call 54; refine (GO.out _ _ Q5.out.bl (O5.out.gs KW_ok.len)).mono ?_; rintro e w6 ⟨v6, rfl, hg6, ho6, hb6⟩; obtain ⟨p6, c6, hv6⟩ := hg6.form; subst hv6; have O6 := hid ho6; have Q6 := hid (Q5.out.below hb6); have P6 := hid ((O5.out.low (show w.heap.size + 2 ≤ _ from Nat.le_succ_of_le (Q0.out.lt))).below hb6); have e0 := box1 Q6.out.b0; have e1 := box1 Q6.out.b1; have fs : ∀ z, w6.frozen? ⟨w.heap.size + 1, z, none⟩ = false := frz1 Q6.out.b1; clear hg6 ho6 hb6))
    have hz := heap_setCell_same w6 (w.heap.size + 1) 0 _ _ (.slice p6 (gneL M Q).length c6) Q6.out.b1
    have hc9 := box1 hz
    have F := hid (wk_end HV.out Q6.out O6.out Q5.out.lt P6.out)
    refine bodyPost_ret (v := .tuple #[.agg #[.slice p6 (gneL M Q).length c6], .slice p5 lq c5, .int .i64 0]) (by simp [results, Try.results35, go_sem, hc9]) rfl ?_
    rw [RX.out]
    exact ⟨_, _, _, rfl, F.out⟩
end Go.Proofs.Ytofdfofpdfaimaa
