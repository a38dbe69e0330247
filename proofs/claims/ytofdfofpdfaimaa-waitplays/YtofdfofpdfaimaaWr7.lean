/- Waiting, the document's side: Wake, First. -/
import Derived.Test.YtofdfofpdfaimaaWr6
namespace Go.Proofs.Ytofdfofpdfaimaa
open Go.RowKit Go.Maps

/-- What the document's calls that take some out leave: the room, and who is told. -/
def WkR (w : World) (v : Value) (M Q : List Wt) (t : Array Value) (e : Ending) (w' : World) : Prop := ∃ v' p c, e = .returned (.tuple (#[.agg #[v'], .slice p Q.length c] ++ t)) ∧ GS KW w' v' (gneL M Q) ∧ ((v' = v ∧ gneL M Q = M) ∨ OwnG KW w' w.heap.size v' (gneL M Q)) ∧ GS KW w' (.slice p Q.length c) Q ∧ Below w.heap.size w w'
theorem frz1 {w : World} {b : Nat} {A : Array Value} {T : TypeId} (h : w.heap[b]? = some (.cells A T)) (o : Nat) : w.frozen? ⟨b, o, none⟩ = false := by simp [World.frozen?, h]
theorem filter_pw {M : List Wt} (hd : M.Pairwise (fun x y => x.task ≠ y.task)) (p : Wt → Bool) : (M.filter p).Pairwise (fun x y => x.task ≠ y.task) := List.Pairwise.sublist List.filter_sublist hd
/-- The answer's box written last. -/
theorem wk_end {w w6 : World} {v u : Value} {M R Q : List Wt} {base : Nat} {vl : Value} (hv : GS KW w v M) (q : QC w v w6) (o : (u = v ∧ R = M) ∨ OwnG KW w6 base u R) (hb : w.heap.size + 2 ≤ base) (l : OwnG KW w6 (w.heap.size + 2) vl Q) :
    GS KW (w6.setCell ⟨w.heap.size + 1, 0, none⟩ u) u R ∧ ((u = v ∧ R = M) ∨ OwnG KW (w6.setCell ⟨w.heap.size + 1, 0, none⟩ u) w.heap.size u R) ∧ GS KW (w6.setCell ⟨w.heap.size + 1, 0, none⟩ u) vl Q ∧ Below w.heap.size w (w6.setCell ⟨w.heap.size + 1, 0, none⟩ u) := by
  have BZ := q.bl.setCell (p := ⟨w.heap.size + 1, 0, none⟩) (show w.heap.size ≤ w.heap.size + 1 by omega) u
  refine ⟨?_, o.imp id (fun h => (h.low (show w.heap.size + 2 ≤ base from hb)).setB (by omega) |>.low (by omega)), (l.setB (by omega)).gs KW_ok.len, BZ⟩
  rcases o with ⟨e1, e2⟩ | o
  · rw [e2, e1]
    rw [e1] at BZ
    exact hv.below BZ
  · exact ((o.low hb).setB (by omega)).gs KW_ok.len
set_option maxHeartbeats 8000000 in
set_option maxRecDepth 100000 in
theorem rwake_any (v : Value) (M : List Wt) (key : ByteArray) (w : World) (h : GS KW w v M) (hl : M.length ≤ 128) (hd : M.Pairwise (fun x y => x.task ≠ y.task)) : Calls Try.prog 34 #[.agg #[v], .string key] w fun e w' => WkR w v M (M.filter fun x => decide (x.key = key)) #[] e w' := by
  have QU := hid (fun w' (hb : Below w.heap.size w w') => rqueue_any v M key w' (h.below hb) (by omega))
  have hf : ∀ y ∈ M.filter (fun x => decide (x.key = key)), ∃ x ∈ M, x.task = y.task := fun y hy => ⟨y, (List.mem_filter.1 hy).1, rfl⟩
  have hfl : (M.filter fun x => decide (x.key = key)).length ≤ 1000000 := by have := List.length_filter_le (fun x : Wt => decide (x.key = key)) M; omega
  have hfp := filter_pw hd (fun x => decide (x.key = key))
  generalize (M.filter fun x => decide (x.key = key)) = Q at *
  have GO := hid (fun w' vl (hb : Below w.heap.size w w') (hg : GS KW w' vl Q) => rgone_any v vl M Q w' (h.below hb) hg hl hfl hd hfp hf)
  have RX : Hid (∀ e w', WkR w v M Q #[] e w' = ∃ v' p c, e = .returned (.tuple (#[.agg #[v'], .slice p Q.length c] ++ #[])) ∧ GS KW w' v' (gneL M Q) ∧ ((v' = v ∧ gneL M Q = M) ∨ OwnG KW w' w.heap.size v' (gneL M Q)) ∧ GS KW w' (.slice p Q.length c) Q ∧ Below w.heap.size w w') := fun _ _ => rfl
  generalize WkR w v M Q #[] = RR at *
  have Q0 := hid (QC.new w v)
  have HV := hid h
  obtain ⟨p0, cap0, rfl⟩ := h.form
  clear h hl hd hf hfl hfp
  go_enter Try.func34, Try.ntmps34
  go_wp2_with (first | (go_at_call 18; refine (QU.out _ Q0.out.bl).mono ?_; rintro e w5 ⟨p5, c5, rfl, ho, hb⟩; have Q5 := hid (Q0.out.below hb); have O5 := hid ho; have c0 := box1 Q5.out.b0; have c1 := box1 Q5.out.b1; have fr : ∀ z, w5.frozen? ⟨w.heap.size + 1, z, none⟩ = false := frz1 Q5.out.b1; clear ho hb) | (go_at_call 54; refine (GO.out _ _ Q5.out.bl (O5.out.gs KW_ok.len)).mono ?_; rintro e w6 ⟨v6, rfl, hg6, ho6, hb6⟩; obtain ⟨p6, c6, hv6⟩ := hg6.form; subst hv6; have O6 := hid ho6; have Q6 := hid (Q5.out.below hb6); have P6 := hid ((O5.out.low (show w.heap.size + 2 ≤ _ from Nat.le_succ_of_le (Q0.out.lt))).below hb6); have e0 := box1 Q6.out.b0; have e1 := box1 Q6.out.b1; have fs : ∀ z, w6.frozen? ⟨w.heap.size + 1, z, none⟩ = false := frz1 Q6.out.b1; clear hg6 ho6 hb6))
  have hz := heap_setCell_same w6 (w.heap.size + 1) 0 _ _ (.slice p6 (gneL M Q).length c6) Q6.out.b1
  have hc9 := box1 hz
  have F := hid (wk_end HV.out Q6.out O6.out Q5.out.lt P6.out)
  refine bodyPost_ret (v := .tuple #[.agg #[.slice p6 (gneL M Q).length c6], .slice p5 Q.length c5]) (by simp [results, Try.results34, go_sem, hc9]) rfl ?_
  rw [RX.out]
  exact ⟨_, _, _, rfl, F.out⟩
end Go.Proofs.Ytofdfofpdfaimaa
