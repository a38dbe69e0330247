/- Graph: Gates of the program, walked, where the graph and the root are right. -/
import Derived.Test.YtghkhceplpjegaaYq6
import Derived.Test.YtghkhceplpjegaaYk9
namespace Go.Proofs.Ytghkhceplpjegaa
open Go.RowKit

theorem results_two {fn : Func} {p q : Tmp} (h : fn.results = #[.tmp p, .tmp q]) (tmps : Array Value) (P : Program) (w : World) : (results fn tmps).run P w = .ok (.tuple #[tmps.getD p undef, tmps.getD q undef]) w := by
  simp [results, h]
set_option maxRecDepth 100000 in
set_option maxHeartbeats 32000000 in
theorem Gates_main (w : World) (N : Nat) (E : List (Nat × Nat)) (hg : GOK N E) (p : Option Addr) (c : Nat) (hv : GS KE w (.slice p E.length c) (eI E)) (r : Nat) (hr : r < N) : Calls Try.prog 18 #[.agg #[.int .i64 N, .slice p E.length c], .int .i64 r] w fun e w' => ∃ (q : Option Addr) (c : Nat) (F : Nat → Int), e = .returned (.tuple #[.slice q N c, .int .i64 0]) ∧ GS KI w' (.slice q N c) ((List.range N).map F) ∧ (∀ k, GA E r k (F k)) ∧ Below w.heap.size w w' := by
  have NB : N ≤ 4096 := hg.n
  obtain ⟨el, hel⟩ : ∃ el, el = E.length := ⟨_, rfl⟩
  generalize hW : (w.alloc (.cells #[.int .i64 N, .slice p E.length c] 24)).alloc (.cells #[.int .i64 (r : Nat)] 3) = W
  have BW : Hid (Below w.heap.size w W) := by rw [← hW]; exact bl3 (bal _ _) (bal _ _)
  have SW : W.heap.size = w.heap.size + 2 := by rw [← hW, asz, asz]
  have KG : W.heap[w.heap.size]? = some (.cells #[.int .i64 N, .slice p E.length c] 24) := by
    rw [← hW]
    exact boxkeep (bal _ _) (heap_alloc_new _ _)
  have KR : W.heap[w.heap.size + 1]? = some (.cells #[.int .i64 (r : Nat)] 3) := by
    have := heap_alloc_new (w.alloc (.cells #[.int .i64 N, .slice p E.length c] 24)) (.cells #[.int .i64 (r : Nat)] 3)
    rw [asz] at this
    rw [← hW]; exact this
  obtain ⟨sz, hsz⟩ : ∃ sz, sz = w.heap.size := ⟨_, rfl⟩
  obtain ⟨rb, hrb⟩ : ∃ rb, rb = w.heap.size + 1 := ⟨_, rfl⟩
  have ne0 : nxE N (eI E) r = 0 := by
    unfold nxE
    rw [if_pos hg.chk, if_pos]
    unfold ndB
    rw [Bool.and_eq_true, decide_eq_true_iff, decide_eq_true_iff]
    omega
  have CK := hid (checkWith_any W N _ (eI E) (hv.below BW.out) (r : Int))
  rw [ne0] at CK
  have LN := hid (fun W' (hb : Below W.heap.size W W') => lanesOf_any W' N _ E hg ((hv.below BW.out).below hb))
  have LTs : Hid (sz < W.heap.size ∧ rb < W.heap.size) := by show _ ∧ _; omega
  rw [← hsz] at KG
  rw [← hrb] at KR
  have KK : Hid (∀ W', Below W.heap.size W W' → W'.heap[sz]? = some (.cells #[.int .i64 N, .slice p E.length c] 24) ∧ W'.heap[rb]? = some (.cells #[.int .i64 (r : Nat)] 3)) := fun W' hb => ⟨boxkeep hb KG, boxkeep hb KR⟩
  have CC : Hid (∀ W', Below W.heap.size W W' → W'.cell? ⟨sz, 0, none⟩ = some (.int .i64 N) ∧ W'.cell? ⟨sz, 1, none⟩ = some (.slice p E.length c) ∧ W'.cell? ⟨rb, 0, none⟩ = some (.int .i64 (r : Nat))) := fun W' hb => ⟨cell_of_row _ _ _ _ _ _ (KK.out W' hb).1, cell_of_row _ _ _ _ _ _ (KK.out W' hb).1, cell_of_row _ _ _ _ _ _ (KK.out W' hb).2⟩
  obtain ⟨d0, d1, d2⟩ := CC.out W (Below.refl _ _)
  have HG := hid hg
  have RP := hid (fun W' X (t : TypeId) (h : W'.heap[X]? = some (.cells #[.int .i64 (-1)] t)) => repeat_any W' X 0 1 (-1) N (by omega) (cell_of_row _ _ _ _ _ _ h) (lt_of_heap h))
  have GAF := hid (fun S L (h : DL (nx N E) (fun _ => false) [r] S L) k => gp_ga (E := E) (A := nx N E) (fun a b => nx_mem hg) h (O := wiB E r) (fun d y _ => wiB_no) k)
  rw [← hel] at hW d1 CK LN KK CC ⊢
  clear hg hv hel KG KR ne0
  refine (callsIn_wide (n := 9)).1 ?_
  refine callsIn_of_wp_marks Try.func18 rfl trivial ?_ rfl
  refine wpIn_wide.2 ?_
  simp only [Try.ntmps18, List.size_toArray, List.length_cons, List.length_nil, Nat.reduceAdd, Nat.reduceSub, Array.replicate_succ, Array.replicate_zero, List.push_toArray, List.append_toArray, List.nil_append, List.cons_append]
  go_upto_region 1 with fail
  rw [← hrb, ← hsz]
  clear hW hsz hrb SW
  go_upto_region 4 with (go_at_call 43; refine CK.out.mono ?_; rintro e w6 ⟨rfl, hb6⟩; have B6 := hid hb6; obtain ⟨g0, g1, g2⟩ := CC.out _ hb6; clear hb6)
  clear CK d0 d1 d2
  go_upto_region 6 with (go_at_call 34; refine (LN.out _ B6.out).mono ?_; rintro e w7 ⟨lb, vs, rfl, hz7, hb7⟩; have Z7 := hid hz7; have B7 := hid hb7; clear hz7 hb7)
  clear LN g0 g1 g2
  generalize hV : (w7.alloc (.cells #[.slice (some ⟨lb, 0, none⟩) N N] 57)).alloc (.cells #[.slice none 0 0] 25) = V
  have BV7 : Hid (Below w7.heap.size w7 V) := by rw [← hV]; exact bl3 (bal _ _) (bal _ _)
  obtain ⟨b7, hb7⟩ : ∃ b7, b7 = w7.heap.size := ⟨_, rfl⟩
  obtain ⟨b8, hb8⟩ : ∃ b8, b8 = w7.heap.size + 1 := ⟨_, rfl⟩
  have SV : V.heap.size = w7.heap.size + 2 := by rw [← hV, asz, asz]
  have V7 : V.heap[b7]? = some (.cells #[.slice (some ⟨lb, 0, none⟩) N N] 57) := by rw [← hV, hb7]; exact boxkeep (bal _ _) (heap_alloc_new _ _)
  have V8 : V.heap[b8]? = some (.cells #[.slice none 0 0] 25) := by
    have := heap_alloc_new (w7.alloc (.cells #[.slice (some ⟨lb, 0, none⟩) N N] 57)) (.cells #[.slice none 0 0] 25)
    rw [asz] at this
    rw [← hV, hb8]; exact this
  have BWV : Hid (Below W.heap.size W V) := bl3 B6.out (bl3 B7.out BV7.out)
  have s7 := B7.out.size
  have s6 := B6.out.size
  have hlb := Z7.out.bb.2
  obtain ⟨c0, _, c2⟩ := CC.out V BWV.out
  obtain ⟨l1, l2⟩ := LTs.out
  rw [← hb8, ← hb7]
  have ZV := hid (Z7.out.below BV7.out)
  have B6V := hid (bl3 B7.out BV7.out)
  refine gt6 HG.out hr B6V.out ZV.out V8 (by omega) (by omega) (by omega) (by omega) (by omega) (by omega) (by omega) (by omega) c0 c2 (cell_of_row _ _ _ _ _ _ V7) ?_
  intro W5 L x23 x24 x25 x26 x27 x28 x29 gw
  have GWh := hid gw
  have e7 : W5.heap[b7]? = some (.cells #[.slice (some ⟨lb, 0, none⟩) N N] 57) := (gw.fr b7 (by omega) (by omega)).trans V7
  have eS : W5.heap[sz]? = some (.cells #[.int .i64 N, .slice p el c] 24) := (gw.fr sz (by omega) (by omega)).trans (KK.out V BWV.out).1
  have eR : W5.heap[rb]? = some (.cells #[.int .i64 (r : Nat)] 3) := (gw.fr rb (by omega) (by omega)).trans (KK.out V BWV.out).2
  obtain ⟨q8, c8, e8, o8⟩ := gw.bx
  have BW5 : Hid (Below w.heap.size w W5) := bl3 BW.out (bl3 B6.out gw.bl)
  have E7 := hid e7
  have E8 := hid e8
  have ER := hid eR
  have O8 := hid o8
  have y0 : ∀ ob, (W5.alloc ob).cell? ⟨sz, 0, none⟩ = some (.int .i64 N) := fun ob => cell_of_row _ _ _ _ _ _ (boxkeep (bal _ _) eS)
  have y1 : W5.cell? ⟨sz, 0, none⟩ = some (.int .i64 N) := cell_of_row _ _ _ _ _ _ eS
  have RR := hid (RP.out _ _ _ (heap_alloc_new W5 (.cells #[.int .i64 (-1)] 3)))
  clear gw e7 e8 eR eS V7 V8 hV c0 c2 ZV B6V BV7 SV hb7 hb8 RP KK CC LTs B7 Z7 BWV s7 s6 hlb l1 l2 o8
  go_upto_region 8 with (go_at_call 46; refine RR.out.mono ?_; rintro e w9 ⟨g9, rfl, o9, b9⟩; have O9 := hid o9; have B9 := hid (bl2 b9 : Below W5.heap.size W5 w9); clear o9 b9)
  clear RR y0 y1
  obtain ⟨W8, hW8⟩ : ∃ W8, W8 = w9.alloc (.cells #[.slice (some ⟨g9, 0, none⟩) N N] 25) := ⟨_, rfl⟩
  rw [← hW8]
  have B98 : Below w9.heap.size w9 W8 := by rw [hW8]; exact bal _ _
  obtain ⟨b9, hb9⟩ : ∃ b9, b9 = w9.heap.size := ⟨_, rfl⟩
  have F9 : W8.heap[b9]? = some (.cells #[.slice (some ⟨g9, 0, none⟩) N N] 25) := by rw [hW8, hb9]; exact heap_alloc_new _ _
  rw [← hb9]
  have B58 : Hid (Below W5.heap.size W5 W8) := bl3 B9.out B98
  have x8 : W8.cell? ⟨b8, 0, none⟩ = some (.slice q8 L.length c8) := cell_of_row _ _ _ _ _ _ (boxkeep B58.out E8.out)
  have S9 : Hid (W5.heap.size < w9.heap.size + 1) := by have := B9.out.size; show _ < _; omega
  obtain ⟨W0, hW0⟩ : ∃ W0, W0 = W8.alloc (.cells #[.slice q8 L.length c8] 25) := ⟨_, rfl⟩
  have B80 : Below W8.heap.size W8 W0 := by rw [hW0]; exact bal _ _
  have B50 : Hid (Below W5.heap.size W5 W0) := bl3 B58.out B80
  have R9 : OwnG KI W0 W5.heap.size (.slice (some ⟨g9, 0, none⟩) N N) ((List.range N).map fun _ => (-1 : Int)) := by
    rw [rep_map]
    exact ((O9.out.low (by rw [asz]; omega)).below B98).below B80
  have H0 : Hid (HGs W5 W0 N (.slice (some ⟨g9, 0, none⟩) N N) (fun _ => -1) W0) := ⟨Nat.le_refl _, fun _ _ _ => rfl, B50.out, R9⟩
  have K7 := hid (boxkeep B50.out E7.out)
  have K8 := hid (boxkeep B50.out E8.out)
  have KR := hid (boxkeep B50.out ER.out)
  have K9 := hid (boxkeep B80 F9)
  have KB := hid (by rw [hW0]; exact heap_alloc_new _ _ : W0.heap[W8.heap.size]? = some (.cells #[.slice q8 L.length c8] 25))
  have NR : Hid ((Value.slice (some ⟨g9, 0, none⟩) N N).ownBlock ≠ some rb) := fun e => by
    injection e with e
    have h1 := (R9.lt (g := g9) rfl).1
    have h2 := lt_of_heap ER.out
    have e : g9 = rb := e
    omega
  have W0h := hid hW0
  clear B98 hb9 F9 B80 R9 hW0 hW8
  go_wp2_with (go_at_call 47; refine (callsIn_wide.1 (backward_in Fence.wide 9 trivial rfl _ _ _ _)).mono ?_; rintro e w' ⟨rfl, rfl⟩)
  rw [← W0h.out]
  obtain ⟨Bs, hBs⟩ : ∃ Bs, Bs = W8.heap.size := ⟨_, rfl⟩
  rw [← hBs] at KB ⊢
  clear W0h hBs x8
  refine gt_loop (w := W5) (L := L) HG.out hr GWh.out.ll.2 (Nat.le_trans (nd_len GWh.out.ll) NB) H0.out GWh.out.lz KR.out NR.out K7.out K8.out K9.out KB.out O8.out B50.out.size _ ?_
  intro D W' hD hS hK
  obtain ⟨S, dl⟩ := GWh.out.dl
  have GF := hid (GAF.out S L dl)
  have x9 : W'.cell? ⟨b9, 0, none⟩ = some (.slice (some ⟨g9, 0, none⟩) N N) := cell_of_row _ _ _ _ _ _ ((hS.fr b9 (lt_of_heap K9.out) (H0.out.r9.notat K9.out (by decide))).trans K9.out)
  have own : OwnG KI (W'.putObj D (.deferred none)) W5.heap.size (.slice (some ⟨g9, 0, none⟩) N N) ((List.range N).map (gpF (wiB E r) L L)) := hS.r9.far fun g hg => World.putObj_heap_other (fun e => by obtain ⟨c9, e9⟩ := hS.r9.ty hg; rw [e, hK] at e9; cases e9)
  have OWN := hid (own.gs KI_ok.len)
  have BF : Hid (Below w.heap.size w (W'.putObj D (.deferred none))) := by
    have b2 : Below w.heap.size w W' := bl3 BW5.out hS.bl
    have : w.heap.size ≤ D := Nat.le_trans BW5.out.size (Nat.le_trans B50.out.size hD)
    exact ⟨b2.os, b2.tape, b2.output, Nat.le_trans b2.size (by simp), fun x hx => (World.putObj_heap_other (by omega)).trans (b2.block x hx)⟩
  have HK := hid hK
  clear hS own dl hK
  go_wp2_with fail
  refine ⟨by simp, .inl ⟨_, _, rfl, run_takeDeferred HK.out, ?_⟩⟩
  exact ⟨_, results_two rfl _ _ _, some ⟨g9, 0, none⟩, N, _, rfl, OWN.out, GF.out, BF.out⟩
end Go.Proofs.Ytghkhceplpjegaa
