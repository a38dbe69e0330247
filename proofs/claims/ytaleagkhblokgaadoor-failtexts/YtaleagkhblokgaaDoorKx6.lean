/- Failures: read, walked. -/
import Derived.Test.YtaleagkhblokgaaDoorKx5
namespace Go.Proofs.YtaleagkhblokgaaDoor
open Go.RowKit

theorem RR.push {rb : Nat} {wk w1 : World} {R : ByteArray} {b : Nat} {cv cv' : Value} {cs cs' : List Cr} (h : RR rb wk R b cv cs) (hg : Below (rb + 1) wk w1) (hk : ∀ k, k < wk.heap.size → some k ≠ cv.ownBlock → w1.heap[k]? = wk.heap[k]?) (ho : OwnC w1 (rb + 1) cv' cs') : RR rb (w1.setCell ⟨rb, 2, none⟩ cv') R b cv' cs' ∧ KR rb wk (w1.setCell ⟨rb, 2, none⟩ cv') ∧ w1.cell? ⟨rb, 2, none⟩ = some cv ∧ w1.frozen? ⟨rb, 2, none⟩ = false := by
  have hb : w1.heap[rb]? = some (.cells #[.string R, .int .i64 b, cv] 77) := (hg.block rb (by omega)).trans h.hp
  have kr : KR rb wk w1 := by
    refine ⟨hg.os, hg.tape, hg.output, hg.size, fun j hj hp hc => hk j hj (fun e => ?_)⟩
    rcases h.ow.2 with ⟨e2, _⟩ | ⟨g, cap, cur, e2, e3, e4, _⟩
    · rw [e2] at e; cases e
    · rw [e2] at e
      injection e with e
      have e5 : j = g := e
      subst e5
      rcases hc with hc | hc
      · omega
      · exact hc cur e4
  refine ⟨⟨?_, ho.far' (fun g hg2 => Below.heap_setCell _ _ _ _ (by have := (World.ownsRow.lt ho g hg2).1; show g ≠ rb; omega))⟩, kr.set _ _, cell_of_row _ _ _ _ _ _ hb, by simp [World.frozen?, hb]⟩
  have := heap_setCell_same w1 rb 2 _ _ cv' hb
  simpa using this
theorem append_cr_keep {P : Program} {ops : Array Oper} {rest : List Oper} {o : Oper} {a : Act} {Q : Exit → Act → World → Prop} (hgd : o.guard = none) (s x : Operand) (t : TypeId)
    (ho : o.op = .call { callee := .builtin .append, args := #[s, x], argTypes := #[t, t] })
    (base : Nat) (ht : P.underlying t = some (.slice 55)) (hi : (P.info? 55).map (fun i => (i.zero, i.size, i.bytes)) = some (some (.agg #[.int .i64 0, .int .i64 0, .string ByteArray.empty]), 3, 32))
    (w0 : World) (cells : Array Value) (tc : TypeId) (v : Value) (l : List Cr) (f : Cr) (c : Nat) (hs : a.eval s = v) (hown : OwnC w0 base v l) (b : Nat) (hb : w0.heap.size = b)
    (hx : a.eval x = .slice (some ⟨b, 0, none⟩) 1 c) (hc : cells.toList = crC f)
    (hlen : (l.length + 1) * 32 ≤ 140737488355328) (hbase : base ≤ w0.heap.size)
    (h : ∀ v' w', OwnC w' base v' (l ++ [f]) → Below base w0 w' → (∀ k, k < w0.heap.size → some k ≠ v.ownBlock → w'.heap[k]? = w0.heap[k]?) → wpList P ops Q rest (a.put o.dst v') w') : wpList P ops Q (o :: rest) a (w0.alloc (.cells cells tc)) := by
  subst hb
  obtain ⟨i0, hi0, hz0, hz1, hz2⟩ := info_parts hi
  have hown2 : (w0.alloc (.cells cells tc)).ownsRow base 55 3 v l.length (l.flatMap crC) := World.ownsRow.alloc hown _
  have one : ∀ u ∈ crC f, u.oneCell' = true := fun u hu => by simp [crC] at hu; rcases hu with rfl | rfl | rfl <;> rfl
  refine wpList_append_own _ hgd s x t ho base 55 i0 (.agg #[.int .i64 0, .int .i64 0, .string ByteArray.empty]) 3 32 ht hi0 hz0 hz1 hz2 rfl (by decide) v l.length (l.flatMap crC) hs hown2 ⟨w0.heap.size, 0, none⟩ 1 c (crC f) hx rfl (news_at w0 cells tc _ hc) one
    (by unfold maxLen; omega) hlen (by simp; omega) ?_
  intro v' w' ho' hg _
  have hgb : Below base w0 w' := ((Below.refl base w0).alloc hbase _).grown hg (by simp; omega) (fun q hq => (hown2.lt q hq).1)
  refine h v' w' ?_ hgb (fun k hk hne => ?_)
  · unfold OwnC
    rw [List.length_append, List.flatMap_append]
    simpa using ho'
  · rw [hg.block k (by simp; omega) hne]
    exact heap_alloc_old w0 _ hk
set_option maxHeartbeats 8000000 in
set_option maxRecDepth 100000 in
theorem read_step (ws : World) (hv : FV ws) (f : Nat) (hf : ReadsAt ws f) : ReadsAt ws (f + 1) := by
  intro w R b cv cs hB h hR hcs hb hfb
  have HQ : Hid (rdT (f + 1) R.data.toList b = if kOf (R.data.toList.take (ptLen R.data.toList)) = 0 ∨ 1024 < b + 1 then none
    else (rdX (kOf (R.data.toList.take (ptLen R.data.toList))) (R.data.toList.drop (ptLen R.data.toList))).bind fun q => (rdP (rdT f) (kOf (R.data.toList.take (ptLen R.data.toList))) q.2 (b + 1)).map fun y => (.nd (kOf (R.data.toList.take (ptLen R.data.toList))) q.1 y.1, y.2)) := by show _ = _; rw [rdT]
  generalize rdT (f + 1) R.data.toList b = q at *
  have c1 := h.c1
  have f1 := h.fz 1
  have H1 : Hid (RR ws.heap.size (w.setCell ⟨ws.heap.size, 1, none⟩ (.int .i64 ((b : Int) + 1))) R (b + 1) cv cs) := h.put1 (b + 1)
  have K1 : Hid (KR ws.heap.size w (w.setCell ⟨ws.heap.size, 1, none⟩ (.int .i64 ((b : Int) + 1)))) := (KR.refl _ _).set _ _
  have BK : Hid (∀ w', KR ws.heap.size w w' → Below ws.heap.size ws w') := fun w' kr => hB.trans (kr.below h.lt)
  have GU := fun w' => giveUp_any ws.heap.size w'
  have KO : Hid (∀ w' W, Below ws.heap.size ws w' → Calls Tryd.prog 62 #[.string W] w' fun e w'' => e = .returned (.int .i64 (kOf W.data.toList)) ∧ w'' = w') := fun w' W B => kindOf_any W w' (hv.below B)
  have TW : Hid _ := takeWord_any ws.heap.size _ R (b + 1) cv cs H1.out (by omega)
  have RX : Hid (∀ w' R' k, Below ws.heap.size ws w' → isK k = true → RR ws.heap.size w' R' (b + 1) cv cs → R'.size ≤ 1000000 → Calls Tryd.prog 64 #[.pointer (some ⟨ws.heap.size, 0, none⟩), .int .i64 k] w' fun e w'' => OutX ws.heap.size w' w'' e (b + 1) cv cs (rdX k R'.data.toList)) := fun w' R' k B hk hr hs => readText_any ws w' R' (b + 1) cv cs k hv B hk hr hs
  have RP : Hid (b + 1 ≤ 1024 → ∀ w' R' k, Below ws.heap.size ws w' → isK k = true → RR ws.heap.size w' R' (b + 1) cv cs → R'.size ≤ 1000000 → Calls Tryd.prog 65 #[.pointer (some ⟨ws.heap.size, 0, none⟩), .int .i64 k] w' fun e w'' => OutP ws.heap.size w' w'' e cs (rdP (rdT f) k R'.data.toList (b + 1))) := fun hb1 w' R' k B hk hr hs => readParts_any ws f hf w' R' (b + 1) cv cs k hv B hk hr hs (by omega) hb1 (by omega)
  have ET : Hid ((R.extract 0 (ptLen R.data.toList)).data.toList = R.data.toList.take (ptLen R.data.toList)) := ext_take _ _
  have ED : Hid ((R.extract (ptLen R.data.toList) R.size).data.toList = R.data.toList.drop (ptLen R.data.toList)) := ext_drop _ _
  have ES : (R.extract (ptLen R.data.toList) R.size).size ≤ 1000000 := by simp; omega
  obtain ⟨W, hW⟩ : ∃ W, W = R.extract 0 (ptLen R.data.toList) := ⟨_, rfl⟩
  obtain ⟨R2, hR2⟩ : ∃ R2, R2 = R.extract (ptLen R.data.toList) R.size := ⟨_, rfl⟩
  rw [← hW] at ET
  rw [← hR2] at ED ES
  have TW2 : Hid (Calls Tryd.prog 63 #[.pointer (some ⟨ws.heap.size, 0, none⟩)] (w.setCell ⟨ws.heap.size, 1, none⟩ (.int .i64 ((b : Int) + 1))) fun e w' => e = .returned (.string W) ∧ RR ws.heap.size w' R2 (b + 1) cv cs ∧ KR ws.heap.size (w.setCell ⟨ws.heap.size, 1, none⟩ (.int .i64 ((b : Int) + 1))) w') := by rw [hW, hR2]; exact TW.out
  have HQ1 : Hid (q = if kOf W.data.toList = 0 ∨ 1024 < b + 1 then none
    else (rdX (kOf W.data.toList) R2.data.toList).bind fun q => (rdP (rdT f) (kOf W.data.toList) q.2 (b + 1)).map fun y => (.nd (kOf W.data.toList) q.1 y.1, y.2)) := by show _ = _; rw [HQ.out, ET.out, ED.out]
  have KC := kOf_cases W.data.toList
  clear hW hR2 TW HQ ET ED H1 hB h hv hf
  obtain ⟨k, hk⟩ : ∃ k, k = kOf W.data.toList := ⟨_, rfl⟩
  have KO2 : Hid (∀ w', Below ws.heap.size ws w' → Calls Tryd.prog 62 #[.string W] w' fun e w'' => e = .returned (.int .i64 k) ∧ w'' = w') := by rw [hk]; exact fun w' B => KO.out w' W B
  rw [← hk] at HQ1 KC
  clear hk KO
  by_cases hk0 : k = 0
  · subst hk0
    have hq : Hid (q = none) := by show _ = _; rw [HQ1.out, if_pos (Or.inl rfl)]
    clear HQ1 RX RP
    go_enter Tryd.func49, Tryd.ntmps49
    go_wp2_with fail
    refine Calls.mono TW2.out ?_
    rintro e w2 ⟨rfl, h2, k2⟩
    have K2 : Hid (KR ws.heap.size w w2) := K1.out.trans k2
    clear h2 k2
    go_wp2_with fail
    refine (KO2.out _ (BK.out _ K2.out)).mono ?_
    rintro e w3 ⟨rfl, rfl⟩
    go_wp2_with fail
    refine (GU _).mono ?_
    rintro e w4 ⟨rfl, rfl⟩
    exact ⟨rfl, Or.inr ⟨hq.out, rfl, K2.out⟩⟩
  · have hkK : isK k = true := by rcases KC with h0 | h0; exact absurd h0 hk0; exact h0.1
    have zk : (k == 0) = false := by simpa using hk0
    by_cases hb1 : b + 1 ≤ 1024
    · have HQ2 : Hid (q = (rdX k R2.data.toList).bind fun q => (rdP (rdT f) k q.2 (b + 1)).map fun y => (.nd k q.1 y.1, y.2)) := by show _ = _; rw [HQ1.out, if_neg (by omega)]
      clear HQ1 KC
      go_enter Tryd.func49, Tryd.ntmps49
      go_wp2_with fail
      refine Calls.mono TW2.out ?_
      rintro e w2 ⟨rfl, h2, k2⟩
      have H2 : Hid (RR ws.heap.size w2 R2 (b + 1) cv cs) := h2
      have K2 : Hid (KR ws.heap.size w w2) := K1.out.trans k2
      have d1 := h2.c1
      clear h2 k2
      go_wp2_with fail
      refine (KO2.out _ (BK.out _ K2.out)).mono ?_
      rintro e w3 ⟨rfl, rfl⟩
      go_wp2_with fail
      refine Calls.mono (RX.out _ R2 k (BK.out _ K2.out) hkK H2.out ES) ?_
      rintro e w4 (⟨tx, R4, hq4, rfl, h4, k4⟩ | ⟨hq4, rfl, k4⟩)
      rotate_left
      · exact ⟨rfl, Or.inr ⟨by rw [HQ2.out, hq4]; rfl, rfl, K2.out.trans k4⟩⟩
      have H4 : Hid (RR ws.heap.size w4 R4 (b + 1) cv cs) := h4
      have K4 : Hid (KR ws.heap.size w w4) := K2.out.trans k4
      have ES4 : R4.size ≤ 1000000 := by
        have h1 := rdX_le hq4
        have e1 : R4.data.toList.length = R4.size := by simp
        have e2 : R2.data.toList.length = R2.size := by simp
        omega
      have HQ4 : Hid (q = (rdP (rdT f) k R4.data.toList (b + 1)).map fun y => (.nd k tx y.1, y.2)) := by show _ = _; rw [HQ2.out, hq4]; rfl
      clear h4 k4 hq4 HQ2 d1 H2 K2
      go_wp2_with fail
      refine Calls.mono (RP.out hb1 _ R4 k (BK.out _ K4.out) hkK H4.out ES4) ?_
      rintro e w5 (⟨ts, R5, b5, cv5, hq5, rfl, h5, k5⟩ | ⟨hq5, rfl, k5⟩)
      rotate_left
      · exact ⟨rfl, Or.inr ⟨by rw [HQ4.out, hq5]; rfl, rfl, K4.out.trans k5⟩⟩
      have hln := rdP_len (rdT f) k (rdT_len f) _ _ _ _ _ hb1 hq5
      have HQ5 : Hid (q = some (.nd k tx ts, R5.data.toList, b5)) := by show _ = _; rw [HQ4.out, hq5]; rfl
      have K5 : Hid (KR ws.heap.size w w5) := K4.out.trans k5
      obtain ⟨pv, cpv, hcv⟩ := h5.ow.form
      subst hcv
      have H5 : Hid (RR ws.heap.size w5 R5 b5 (.slice pv (cs ++ flatL ts).length cpv) (cs ++ flatL ts)) := h5
      have d2 := h5.c2
      have LN : Hid (((cs ++ flatL ts).length + 1) * 32 ≤ 140737488355328) := by show _ ≤ _; rw [List.length_append]; omega
      have BZ : Hid (ws.heap.size + 1 ≤ w5.heap.size) := h5.lt
      obtain ⟨nL, hnL⟩ : ∃ nL, nL = (cs ++ flatL ts).length := ⟨_, rfl⟩
      rw [← hnL] at H5 d2
      have HNL : Hid (nL = (cs ++ flatL ts).length) := hnL
      have FIN : Hid (∀ v6 w6, OwnC w6 (ws.heap.size + 1) v6 ((cs ++ flatL ts) ++ [⟨k, (ts.length : Nat), tx⟩]) → Below (ws.heap.size + 1) w5 w6 → (∀ j, j < w5.heap.size → some j ≠ (Value.slice pv nL cpv).ownBlock → w6.heap[j]? = w5.heap[j]?) → RR ws.heap.size (w6.setCell ⟨ws.heap.size, 2, none⟩ v6) R5 b5 v6 (cs ++ flat (.nd k tx ts)) ∧ KR ws.heap.size w (w6.setCell ⟨ws.heap.size, 2, none⟩ v6) ∧ w6.cell? ⟨ws.heap.size, 2, none⟩ = some (.slice pv nL cpv) ∧ w6.frozen? ⟨ws.heap.size, 2, none⟩ = false) := fun v6 w6 ho hb6 hk6 => by
        obtain ⟨a1, a2, a3, a4⟩ := H5.out.push hb6 hk6 ho
        refine ⟨?_, K5.out.trans a2, a3, a4⟩
        rw [flat, ← List.append_assoc]; exact a1
      clear h5 k5 hq5 hln HQ4 hnL
      go_wp2_with (at_builtin; refine append_cr_keep rfl (.tmp 36) (.tmp 41) 23 rfl (ws.heap.size + 1) Tryd.underlying23 info_cr _ _ _ (.slice pv nL cpv) (cs ++ flatL ts) ⟨k, (ts.length : Nat), tx⟩ _ rfl H5.out.ow _ rfl rfl rfl LN.out BZ.out ?_; intro v6 w6 ho6 hb6 hk6; obtain ⟨p6, c6, hv6⟩ := ho6.form; obtain ⟨n6, hn6⟩ : ∃ n6, n6 = ((cs ++ flatL ts) ++ [(⟨k, (ts.length : Nat), tx⟩ : Cr)]).length := ⟨_, rfl⟩; rw [← hn6] at hv6; subst hv6; obtain ⟨a1, a2, a3, a4⟩ := FIN.out _ _ ho6 hb6 hk6; have A1 : Hid _ := a1; have A2 : Hid _ := a2; clear hn6 ho6 hb6 hk6 a1 a2)
      go_end0
      exact Or.inl ⟨_, _, _, _, HQ5.out, rfl, A1.out, A2.out⟩
    · have hq : Hid (q = none) := by show _ = _; rw [HQ1.out, if_pos (Or.inr (by omega))]
      have hb2 : ((b : Int) + 1) > 1024 := by omega
      clear HQ1 RX RP KC
      go_enter Tryd.func49, Tryd.ntmps49
      go_wp2_with fail
      refine Calls.mono TW2.out ?_
      rintro e w2 ⟨rfl, h2, k2⟩
      have K2 : Hid (KR ws.heap.size w w2) := K1.out.trans k2
      have d1 := h2.c1
      clear h2 k2
      go_wp2_with fail
      refine (KO2.out _ (BK.out _ K2.out)).mono ?_
      rintro e w3 ⟨rfl, rfl⟩
      go_wp2_with fail
      refine (GU _).mono ?_
      rintro e w4 ⟨rfl, rfl⟩
      exact ⟨rfl, Or.inr ⟨hq.out, rfl, K2.out⟩⟩
theorem read_all (ws : World) (hv : FV ws) : ∀ f, ReadsAt ws f
  | 0 => fun w R b cv cs _ _ _ _ hb hfb => by omega
  | f + 1 => read_step ws hv f (read_all ws hv f)
end Go.Proofs.YtaleagkhblokgaaDoor
