/- Tokens: Make. -/
import Derived.Test.YtkebflllbphkkaaDoorTa5
import Derived.Test.YtkebflllbphkkaaDoorRl1
import Derived.Deep.RegionLaw
namespace Go.Proofs.YtkebflllbphkkaaDoor
open Go.RowKit

/-- The parents of a new token, if it can be made. -/
def ckO (T : Tr) (s : ByteArray) (l : List ByteArray) : Option (List Nat) := if localB s.data.toList = true ∧ plO T.nms s = none ∧ l.length ≤ 8 ∧ T.ns.length < 256 then fAll T.nms l else none
def CkR (w : World) (T : Tr) (s : ByteArray) (l : List ByteArray) (w' : World) (e : Ending) : Prop :=
  (∃ err : Int, err ≠ 0 ∧ e = .returned (.tuple #[.slice none 0 0, .int .i64 err]) ∧ ckO T s l = none ∧ Below w.heap.size w w') ∨ (∃ ps v, ckO T s l = some ps ∧ e = .returned (.tuple #[v, .int .i64 0]) ∧ OwnG KP w' w.heap.size v ps ∧ Below w.heap.size w w')
set_option maxHeartbeats 8000000 in
set_option maxRecDepth 100000 in
theorem checkNew_any (w : World) (b cb mb : Nat) (nv ov : Value) (L : List NM) (T : Tr) (h : TX w b cb mb nv ov L T) (s : ByteArray) (hs : s.size ≤ maxLen) (v : Value) (l : List ByteArray) (hv : GS KS w v l) (hls : ∀ s ∈ l, s.size ≤ maxLen) (hll : l.length ≤ 1000000000000000) :
    Calls Tryd.prog 28 #[.pointer (some ⟨b, 0, none⟩), .string s, v] w fun e w' => CkR w T s l w' e := by
  obtain ⟨pv, cv, rfl⟩ := hv.form
  obtain ⟨c0, c1, c2, c3⟩ := h.cells
  obtain ⟨pn, cn, hnv, hcn⟩ := h.nr.form
  rw [h.ll] at hnv hcn
  subst hnv
  have hnl := h.nl
  have TN := hid (tname_any s w hs)
  have FD := hid (find_any w b cb mb _ ov L T h s hs)
  have BAD : Hid (ckO T s l = none → ∀ (err : Int) w', err ≠ 0 → Below w.heap.size w w' → CkR w T s l w' (.returned (.tuple #[.slice none 0 0, .int .i64 err]))) := fun hc err w' he hb => Or.inl ⟨err, he, rfl, hc, hb⟩
  cases hn : localB s.data.toList with
  | false =>
    rw [hn] at TN
    have B2 := hid (BAD.out (by unfold ckO; rw [if_neg (fun q => by rw [hn] at q; cases q.1)]) 2 w (by decide) (Below.refl _ _))
    clear h hv FD BAD c0 c1 c2 c3 hn
    go_enter Tryd.func28, Tryd.ntmps28
    go_wp2_with (go_at_call 44; refine TN.out.mono ?_; rintro e w2 ⟨rfl, hw2⟩; subst w2)
    go_ret2
    exact B2.out
  | true =>
    rw [hn] at TN
    cases hp : plO T.nms s with
    | some p =>
      rw [hp] at FD
      have FD2 : Hid (Calls Tryd.prog 25 #[.pointer (some ⟨b, 0, none⟩), .string s] w fun e w' => e = .returned (.tuple #[.int .i64 (p : Nat), .int .i64 0]) ∧ w' = w) := FD
      have B2 := hid (BAD.out (by unfold ckO; rw [if_neg (fun q => by rw [hp] at q; cases q.2.1)]) 6 w (by decide) (Below.refl _ _))
      clear h hv FD BAD c0 c1 c2 c3 hn hp
      go_enter Tryd.func28, Tryd.ntmps28
      go_wp2_with (first | (go_at_call 44; refine TN.out.mono ?_; rintro e w2 ⟨rfl, hw2⟩; subst w2) | (go_at_call 25; refine FD2.out.mono ?_; rintro e w2 ⟨rfl, hw2⟩; subst w2))
      go_ret2
      exact B2.out
    | none =>
      rw [hp] at FD
      have FD2 : Hid (Calls Tryd.prog 25 #[.pointer (some ⟨b, 0, none⟩), .string s] w fun e w' => e = .returned (.tuple #[.int .i64 0, .int .i64 4]) ∧ w' = w) := FD
      by_cases h8 : 8 < l.length
      · have B2 := hid (BAD.out (by unfold ckO; rw [if_neg (fun q => by omega)]) 3 w (by decide) (Below.refl _ _))
        have h8b : (8 : Int) < (l.length : Int) := by omega
        clear h hv FD BAD c0 c1 c2 c3 hn hp
        go_enter Tryd.func28, Tryd.ntmps28
        go_wp2_with (first | (go_at_call 44; refine TN.out.mono ?_; rintro e w2 ⟨rfl, hw2⟩; subst w2) | (go_at_call 25; refine FD2.out.mono ?_; rintro e w2 ⟨rfl, hw2⟩; subst w2))
        go_ret2
        exact B2.out
      · have FA := hid (findAll_any w b cb mb _ ov L T h _ l hv hls (by omega))
        have h8b : ¬ (8 : Int) < (l.length : Int) := by omega
        cases hf : fAll T.nms l with
        | none =>
          rw [hf] at FA
          have FA2 : Hid (Calls Tryd.prog 45 #[.pointer (some ⟨b, 0, none⟩), .slice pv l.length cv] w fun e w' => e = .returned (.tuple #[.slice none 0 0, .int .i64 4]) ∧ Below w.heap.size w w') := FA
          have B2 : Hid (∀ w', Below w.heap.size w w' → CkR w T s l w' (.returned (.tuple #[.slice none 0 0, .int .i64 4]))) := fun w' hb => BAD.out (by unfold ckO; split <;> first | exact hf | rfl) 4 w' (by decide) hb
          clear h hv FD BAD c0 c1 c2 c3 hn hp FA hf
          go_enter Tryd.func28, Tryd.ntmps28
          go_wp2_with (first | (go_at_call 44; refine TN.out.mono ?_; rintro e w2 ⟨rfl, hw2⟩; subst w2) | (go_at_call 25; refine FD2.out.mono ?_; rintro e w2 ⟨rfl, hw2⟩; subst w2) | (go_at_call 45; refine FA2.out.mono ?_; rintro e w2 ⟨rfl, hb⟩; have HB := hid (B2.out w2 hb); clear hb))
          go_ret2
          exact HB.out
        | some ps =>
          rw [hf] at FA
          have FA2 : Hid (Calls Tryd.prog 45 #[.pointer (some ⟨b, 0, none⟩), .slice pv l.length cv] w fun e w' => (e = .returned (.tuple #[.slice (some ⟨w.heap.size, 0, none⟩) ps.length ps.length, .int .i64 0]) ∧ OwnG KP w' w.heap.size (.slice (some ⟨w.heap.size, 0, none⟩) ps.length ps.length) ps) ∧ Below w.heap.size w w') := FA
          have C1 : Hid (∀ w', Below w.heap.size w w' → w'.cell? ⟨b, 1, none⟩ = some (.slice pn T.ns.length cn)) := fun w' hb => (h.below hb).cells.2.1
          by_cases hlen : T.ns.length < 256
          · have GOOD : Hid (∀ w', OwnG KP w' w.heap.size (.slice (some ⟨w.heap.size, 0, none⟩) ps.length ps.length) ps → Below w.heap.size w w' → CkR w T s l w' (.returned (.tuple #[.slice (some ⟨w.heap.size, 0, none⟩) ps.length ps.length, .int .i64 0]))) := fun w' ho hb => Or.inr ⟨ps, _, by unfold ckO; rw [if_pos ⟨hn, hp, by omega, hlen⟩]; exact hf, rfl, ho, hb⟩
            clear h hv FD BAD c0 c1 c2 c3 hn hp FA hf
            generalize T.ns.length = N at *
            go_enter Tryd.func28, Tryd.ntmps28
            go_wp2_with (first | (go_at_call 44; refine TN.out.mono ?_; rintro e w2 ⟨rfl, hw2⟩; subst w2) | (go_at_call 25; refine FD2.out.mono ?_; rintro e w2 ⟨rfl, hw2⟩; subst w2) | (go_at_call 45; refine FA2.out.mono ?_; rintro e w2 ⟨⟨rfl, ho⟩, hb⟩; have d1 := C1.out w2 hb; have HB := hid (GOOD.out w2 ho hb); clear ho hb))
            go_ret2
            exact HB.out
          · have B2 : Hid (∀ w', Below w.heap.size w w' → CkR w T s l w' (.returned (.tuple #[.slice none 0 0, .int .i64 3]))) := fun w' hb => BAD.out (by unfold ckO; rw [if_neg (fun q => hlen q.2.2.2)]) 3 w' (by decide) hb
            clear h hv FD BAD c0 c1 c2 c3 hn hp FA hf
            generalize T.ns.length = N at *
            go_enter Tryd.func28, Tryd.ntmps28
            go_wp2_with (first | (go_at_call 44; refine TN.out.mono ?_; rintro e w2 ⟨rfl, hw2⟩; subst w2) | (go_at_call 25; refine FD2.out.mono ?_; rintro e w2 ⟨rfl, hw2⟩; subst w2) | (go_at_call 45; refine FA2.out.mono ?_; rintro e w2 ⟨⟨rfl, ho⟩, hb⟩; have d1 := C1.out w2 hb; have HB := hid (B2.out w2 hb); clear ho hb))
            go_ret2
            exact HB.out
/-- One more token. -/
def addT (T : Tr) (s : ByteArray) (ps : List Nat) : Tr := { T with ns := T.ns ++ [⟨s, newAb T ps, 1099511627777, 0, []⟩] }
theorem addT_len (T : Tr) (s : ByteArray) (ps : List Nat) : (addT T s ps).ns.length = T.ns.length + 1 := by simp [addT]
theorem addT_old {T : Tr} {s : ByteArray} {ps : List Nat} {a : Nat} (h : a < T.ns.length) : (addT T s ps).n a = T.n a := by
  unfold Tr.n addT
  simp only [List.getD]
  rw [List.getElem?_append_left h]
theorem addT_new (T : Tr) (s : ByteArray) (ps : List Nat) : (addT T s ps).n T.ns.length = ⟨s, newAb T ps, 1099511627777, 0, []⟩ := by
  unfold Tr.n addT
  simp [List.getD]
theorem addT_nms (T : Tr) (s : ByteArray) (ps : List Nat) : (addT T s ps).nms = T.nms ++ [s] := by unfold Tr.nms addT; simp
theorem plF_snoc {l : List ByteArray} {s : ByteArray} (h : plO l s = none) (x : ByteArray) : plF (l ++ [s]) x = putF (plF l) s (.int .i64 (l.length : Nat)) x := by
  unfold plF putF plO at *
  rw [List.findIdx?_append]
  by_cases e : x = s
  · subst e
    rw [if_pos rfl, h]; simp
  · rw [if_neg e]
    cases hq : l.findIdx? (fun y => decide (y = x)) with
    | some q => simp [hq]
    | none =>
      have : ¬ s = x := fun q => e q.symm
      simp [this, hq]
/-- The token's place by the one that took its parent along. -/
def makT (T : Tr) (s : ByteArray) (ps : List Nat) : Tr := if leastA T.od 256 ps = 256 then addT T s ps else endT (addT T s ps) T.ns.length (T.n (T.od.getD (leastA T.od 256 ps) 0)).bw
/-- Behind the map's store, the append and the store of the row. -/
theorem add_tx {w w2 w3 : World} {b cb mb : Nat} {nv ov : Value} {L : List NM} {T : Tr} (h : TX w b cb mb nv ov L T) (hi : Inv T) (s : ByteArray) (ps : List Nat) (hps : ∀ p ∈ ps, p < T.ns.length) (hlen : T.ns.length < 256) (hpl : plO T.nms s = none)
    (m2 : MV w2 mb (T.ns.length + 1) (putF (plF T.nms) s (.int .i64 (T.ns.length : Nat)))) (k2 : But (fun x => x = mb) w w2) (nv' : Value) (hr : OwnG KN w3 0 nv' (L ++ [⟨s, newAb T ps, 1099511627777, 256, 0, none, 0, 0⟩])) (k3 : But (fun x => nv.ownBlock = some x) w2 w3) (hnv : ∀ g, nv'.ownBlock = some g → nv.ownBlock = some g ∨ w2.heap.size ≤ g) :
    TX (w3.setCell ⟨b, 1, none⟩ nv') b cb mb nv' ov (L ++ [⟨s, newAb T ps, 1099511627777, 256, 0, none, 0, 0⟩]) (addT T s ps) ∧ But (fp b cb mb nv ov) w (w3.setCell ⟨b, 1, none⟩ nv') ∧ Fr w (fp b cb mb nv ov) (fp b cb mb nv' ov) := by
  obtain ⟨b1, b2, b3⟩ := h.b_ne
  have sub : ∀ x, (x = mb ∨ nv.ownBlock = some x ∨ x = b) → fp b cb mb nv ov x := by
    rintro y (rfl | hy | rfl)
    · exact Or.inr (Or.inr (Or.inl rfl))
    · exact Or.inr (Or.inr (Or.inr (Or.inl hy)))
    · exact Or.inl rfl
  have kA : But (fp b cb mb nv ov) w (w3.setCell ⟨b, 1, none⟩ nv') :=
    ((k2.weak (fun y hy => sub y (Or.inl hy))).trans k3 (fun y hy => Or.inl (sub y (Or.inr (Or.inl hy))))).trans (But.set b 1 nv') (fun y hy => Or.inl (sub y (Or.inr (Or.inr hy))))
  have sz2 : w.heap.size ≤ w2.heap.size := k2.size
  have nnv : ∀ y, y = b ∨ y = cb ∨ y = mb → nv.ownBlock ≠ some y := by
    rintro y hy e
    obtain ⟨m1, m2, m3, _⟩ := h.nv_ne e
    rcases hy with q | q | q
    · exact m1 q
    · exact m2 q
    · exact m3 q
  have nnv' : ∀ y, y = b ∨ y = cb ∨ y = mb → nv'.ownBlock ≠ some y := by
    rintro y hy e
    rcases hnv y e with q | q
    · exact nnv y hy q
    · have l1 := lt_of_heap h.tr
      have l2 := lt_of_heap h.ck
      have l3 := h.mp.lt
      rcases hy with r | r | r <;> (subst r; omega)
  have st2 : ∀ y, y < w.heap.size → y ≠ mb → nv.ownBlock ≠ some y → w3.heap[y]? = w.heap[y]? := fun y hy hym hyn => (k3.block y (by omega) hyn).trans (k2.block y hy hym)
  have h3b : w3.heap[b]? = some (.cells #[.pointer (some ⟨cb, 0, none⟩), nv, .map (some mb), ov] 62) := (st2 b (lt_of_heap h.tr) (fun e => b2 e.symm) (nnv b (Or.inl rfl))).trans h.tr
  have hln : T.ns.length ∉ T.od := fun q => by have := hi.lt _ q; omega
  refine ⟨⟨?_, ?_, ?_, ?_, ?_, by rw [List.length_append, h.ll, addT_len]; rfl, fun a ha => ?_, by rw [addT_len]; omega, h.ol, fun a j ha => ?_⟩, kA, fun y hy => ?_⟩
  · rw [heap_setCell_same w3 b 1 _ _ _ h3b]; rfl
  · rw [Below.heap_setCell _ _ _ _ b1]
    exact (st2 cb (lt_of_heap h.ck) (fun e => b3 e.symm) (nnv cb (Or.inr (Or.inl rfl)))).trans h.ck
  · exact hr.far (fun g hg => Below.heap_setCell _ _ _ _ (fun e => nnv' b (Or.inl rfl) (by have e' : g = b := e; rw [← e']; exact hg)))
  · refine h.or.far (fun g hg => ?_)
    obtain ⟨m1, m2, m3, m4⟩ := h.ov_ne hg
    rw [Below.heap_setCell _ _ _ _ m1]
    exact st2 g (h.or.lt hg).2 m3 m4
  · rw [addT_len, addT_nms]
    refine MV.congr (f := putF (plF T.nms) s (.int .i64 (T.ns.length : Nat))) (m2.far (by rw [Below.heap_setCell _ _ _ _ b2]; exact k3.block mb m2.lt (nnv mb (Or.inr (Or.inr rfl))))) (fun x => ?_)
    have := plF_snoc hpl x
    rw [nms_len] at this
    exact this.symm
  · rw [addT_len] at ha
    by_cases e : a < T.ns.length
    · have e1 : (L ++ [(⟨s, newAb T ps, 1099511627777, 256, 0, none, 0, 0⟩ : NM)]).getD a NM0 = L.getD a NM0 := by
        simp only [List.getD]
        rw [List.getElem?_append_left (by rw [h.ll]; exact e)]
      rw [e1, addT_old e]
      exact (h.lr a e).keep kA h.okF
    · have e0 : a = T.ns.length := by omega
      subst e0
      have e1 : (L ++ [(⟨s, newAb T ps, 1099511627777, 256, 0, none, 0, 0⟩ : NM)]).getD T.ns.length NM0 = ⟨s, newAb T ps, 1099511627777, 256, 0, none, 0, 0⟩ := by
        rw [← h.ll]; simp [List.getD]
      rw [e1, addT_new]
      exact ⟨rfl, rfl, rfl, by show 256 = rkOf T.od _; rw [rkOf_out hln], rfl, World.ownsRow_nil _ _ _ _⟩
  · rw [addT_len] at ha
    by_cases e : a < T.ns.length
    · rw [addT_old e]; exact h.wd a j e
    · have e0 : a = T.ns.length := by omega
      subst e0
      rw [addT_new]; exact newAb_lt h.wd ps hps j
  · rcases hy with q | q | q | q | q
    · exact Or.inl (Or.inl q)
    · exact Or.inl (Or.inr (Or.inl q))
    · exact Or.inl (Or.inr (Or.inr (Or.inl q)))
    · rcases hnv y q with r | r
      · exact Or.inl (Or.inr (Or.inr (Or.inr (Or.inl r))))
      · exact Or.inr (by omega)
    · exact Or.inl (Or.inr (Or.inr (Or.inr (Or.inr q))))
/-- With a new token all stays as calls have made it. -/
theorem addT_up {T : Tr} (s : ByteArray) (ps : List Nat) (q : Nat) : (addT T s ps).up T.ns.length q = true ↔ ∃ p ∈ ps, q = p ∨ T.up p q = true := by
  unfold Tr.up
  rw [addT_new]
  exact newAb_has ps q
theorem addT_upo {T : Tr} (s : ByteArray) (ps : List Nat) {a : Nat} (ha : a < T.ns.length) (q : Nat) : (addT T s ps).up a q = T.up a q := by unfold Tr.up; rw [addT_old ha]
theorem makT_all {T : Tr} (h : Inv T) {s : ByteArray} {ps : List Nat} (hs : s.size ≤ 64) (hps : ∀ p ∈ ps, p < T.ns.length) (hlen : T.ns.length < 256) (hpl : plO T.nms s = none) :
    Inv (makT T s ps) ∧ (makT T s ps).ns.length = T.ns.length + 1 ∧ (∀ a, a < T.ns.length → (makT T s ps).n a = T.n a) ∧ (makT T s ps).nms = T.nms ++ [s] ∧ (makT T s ps).now = T.now ∧ (((∀ p ∈ ps, p ∉ T.od) ∧ (makT T s ps).od = T.od) ∨ ((∃ p ∈ ps, p ∈ T.od) ∧ (makT T s ps).od = T.od ++ [T.ns.length])) ∧ (∀ q, (makT T s ps).up T.ns.length q = true ↔ ∃ p ∈ ps, q = p ∨ T.up p q = true) ∧ (∀ p, ps = [p] → p ∈ T.od → ((makT T s ps).n T.ns.length).bw = (T.n p).bw) ∧ ((makT T s ps).n T.ns.length).til = 1099511627777 := by
  have hol : T.od.length ≤ 256 := Nat.le_trans (nodup_len T.ns.length T.od h.nd h.lt) h.len
  have hln : T.ns.length ∉ T.od := fun q => by have := h.lt _ q; omega
  have upn := fun q => addT_up (T := T) s ps q
  have ups := fun a (ha : a < T.ns.length) q => addT_upo (T := T) s ps ha q
  have len1 := addT_len T s ps
  have cut : ∀ {a}, a < (addT T s ps).ns.length → a < T.ns.length ∨ a = T.ns.length := fun ha => by rw [len1] at ha; omega
  have nmd : ∀ a, a < T.ns.length → (T.n a).name ≠ s := fun a ha => plO_none hpl ha
  -- what both ways share
  have shared : ∀ U : Tr, U.ns.length = T.ns.length + 1 → (∀ a, a < T.ns.length → U.n a = T.n a) → (U.n T.ns.length).name = s → (U.n T.ns.length).ab = newAb T ps → (U.n T.ns.length).til = 1099511627777 → (U.n T.ns.length).why = [] → U.now = T.now → U.od.Nodup → (∀ a ∈ U.od, a < U.ns.length) → (∀ a ∈ U.od, (U.n a).bw ∈ U.od) → (∀ a ∈ U.od, (U.n (U.n a).bw).why ≠ []) → (∀ a q, a < U.ns.length → U.up a q = true → q ∈ U.od → a ∈ U.od) → Inv U := by
    intro U u1 u2 u3 u4 u5 u6 u7 u8 u9 u10 u11 u12
    have uo : ∀ a, a < T.ns.length → ∀ q, U.up a q = T.up a q := fun a ha q => by unfold Tr.up; rw [u2 a ha]
    have un : ∀ q, U.up T.ns.length q = true ↔ ∃ p ∈ ps, q = p ∨ T.up p q = true := fun q => by unfold Tr.up; rw [u4]; exact newAb_has ps q
    have ct : ∀ {a}, a < U.ns.length → a < T.ns.length ∨ a = T.ns.length := fun ha => by rw [u1] at ha; omega
    refine ⟨by rw [u1]; omega, u8, u9, fun a c ha hc he => ?_, fun a ha => ?_, u10, u11, fun a q ha hu => ?_, fun a q r ha h1 h2 => ?_, u12, by rw [u7]; exact h.tm, fun a ha => ?_, fun a ha => ?_, fun a k ha => ?_⟩
    · rcases ct ha with ha | ha <;> rcases ct hc with hc | hc
      · rw [u2 a ha, u2 c hc] at he; exact h.nm a c ha hc he
      · subst hc; rw [u2 a ha, u3] at he; exact absurd he (nmd a ha)
      · subst ha; rw [u2 c hc, u3] at he; exact absurd he.symm (nmd c hc)
      · omega
    · rcases ct ha with ha | ha
      · rw [u2 a ha]; exact h.nk a ha
      · subst ha; rw [u3]; exact hs
    · rcases ct ha with ha | ha
      · rw [uo a ha] at hu; exact h.up a q ha hu
      · subst ha
        obtain ⟨p, hp, e⟩ := (un q).1 hu
        have := hps p hp
        rcases e with e | e
        · omega
        · have := h.up p q (hps p hp) e; omega
    · rcases ct ha with ha | ha
      · rw [uo a ha] at h1 ⊢
        have hq := h.up a q ha h1
        rw [uo q (by omega)] at h2
        exact h.tr a q r ha h1 h2
      · subst ha
        obtain ⟨p, hp, e⟩ := (un q).1 h1
        refine (un r).2 ⟨p, hp, Or.inr ?_⟩
        have hp2 := hps p hp
        rcases e with e | e
        · subst e
          rw [uo q hp2] at h2; exact h2
        · have hq := h.up p q hp2 e
          rw [uo q (by omega)] at h2
          exact h.tr p q r hp2 e h2
    · rcases ct ha with ha | ha
      · rw [u2 a ha]; exact h.til a ha
      · subst ha; rw [u5]; omega
    · rcases ct ha with ha | ha
      · rw [u2 a ha]; exact h.wl a ha
      · subst ha; rw [u6]; simp
    · rcases ct ha with ha | ha
      · rw [u2 a ha]; exact h.wd a k ha
      · subst ha; rw [u4]; exact newAb_lt h.wd ps hps k
  unfold makT
  rcases leastA_spec hol ps with ⟨e, hno⟩ | ⟨e, p0, hp0, hp0d, ep⟩
  · rw [if_pos e]
    refine ⟨shared _ len1 (fun a ha => addT_old ha) (by rw [addT_new]) (by rw [addT_new]) (by rw [addT_new]) (by rw [addT_new]) rfl h.nd (fun a ha => by rw [len1]; have := h.lt a ha; omega) (fun a ha => ?_) (fun a ha => ?_) (fun a q ha hu hq => ?_), len1, fun a ha => addT_old ha, addT_nms _ _ _, rfl, Or.inl ⟨hno, rfl⟩, upn, fun p hp hpd => absurd hpd (hno p (by rw [hp]; simp)), by rw [addT_new]⟩
    · have hal : a < T.ns.length := h.lt a ha
      rw [addT_old hal]; exact h.bw a ha
    · have hal : a < T.ns.length := h.lt a ha
      rw [addT_old hal, addT_old (h.lt _ (h.bw a ha))]; exact h.why a ha
    · rcases cut ha with ha | ha
      · rw [ups a ha] at hu; exact h.cl a q ha hu hq
      · subst ha
        obtain ⟨p, hp, e2⟩ := (upn q).1 hu
        rcases e2 with e2 | e2
        · subst e2; exact absurd hq (hno q hp)
        · exact absurd (h.cl p q (hps p hp) e2 hq) (hno p hp)
  · rw [if_neg (by omega)]
    have hlast : T.ns.length < (addT T s ps).ns.length := by rw [len1]; omega
    have cn := endT_cn hlast (show T.ns.length ∉ (addT T s ps).od from hln) ((T.n (T.od.getD (leastA T.od 256 ps) 0)).bw)
    have ho : T.od.getD (leastA T.od 256 ps) 0 = p0 := by
      have := rkOf_at hp0d
      rw [ep]
      simp only [List.getD, this]; rfl
    rw [ho] at cn ⊢
    have en := endT_n hlast (T.n p0).bw
    have oldn : ∀ a, a < T.ns.length → (endT (addT T s ps) T.ns.length (T.n p0).bw).n a = T.n a := fun a ha => by rw [en, if_neg (by omega), addT_old ha]
    have newn : (endT (addT T s ps) T.ns.length (T.n p0).bw).n T.ns.length = ⟨s, newAb T ps, 1099511627777, (T.n p0).bw, []⟩ := by rw [en, if_pos rfl, addT_new]
    have od2 : (endT (addT T s ps) T.ns.length (T.n p0).bw).od = T.od ++ [T.ns.length] := rfl
    have len2 : (endT (addT T s ps) T.ns.length (T.n p0).bw).ns.length = T.ns.length + 1 := by rw [endT_len, len1]
    have mem2 : ∀ {a}, a ∈ (endT (addT T s ps) T.ns.length (T.n p0).bw).od ↔ a ∈ T.od ∨ a = T.ns.length := by intro a; rw [od2]; simp
    refine ⟨shared _ len2 oldn (by rw [newn]) (by rw [newn]) (by rw [newn]) (by rw [newn]) rfl ?_ (fun a ha => ?_) (fun a ha => ?_) (fun a ha => ?_) (fun a q ha hu hq => ?_), len2, oldn, by rw [cn.nms, addT_nms], rfl, Or.inr ⟨⟨p0, hp0, hp0d⟩, od2⟩, fun q => by rw [cn.up]; exact upn q, fun p hp hpd => ?_, by rw [newn]⟩
    · rw [od2]
      refine List.nodup_append.2 ⟨h.nd, by simp, fun x hx y hy e2 => ?_⟩
      simp at hy
      subst hy e2
      exact hln hx
    · rw [len2]
      rcases mem2.1 ha with q | q
      · have := h.lt a q; omega
      · omega
    · rcases mem2.1 ha with q | q
      · rw [oldn a (h.lt a q)]; exact mem2.2 (Or.inl (h.bw a q))
      · subst q; rw [newn]; exact mem2.2 (Or.inl (h.bw p0 hp0d))
    · rcases mem2.1 ha with q | q
      · rw [oldn a (h.lt a q), oldn _ (h.lt _ (h.bw a q))]; exact h.why a q
      · subst q
        rw [newn, oldn _ (h.lt _ (h.bw p0 hp0d))]; exact h.why p0 hp0d
    · rw [cn.up] at hu
      rw [len2] at ha
      by_cases e2 : a = T.ns.length
      · exact mem2.2 (Or.inr e2)
      · have ha2 : a < T.ns.length := by omega
        rw [ups a ha2] at hu
        have hqa := h.up a q ha2 hu
        rcases mem2.1 hq with r | r
        · exact mem2.2 (Or.inl (h.cl a q ha2 hu r))
        · omega
    · rw [newn]
      have : p0 = p := by rw [hp] at hp0; simpa using hp0
      rw [this]
end Go.Proofs.YtkebflllbphkkaaDoor
namespace Go.Proofs.YtkebflllbphkkaaDoor
open Go.RowKit

/-- One more, at a step of a region that draws its order. -/
theorem step_append_g {α : Type} {P : Program} (K : RK α) (hk : K.Ok P) {ops : Array Oper} {o : Oper} {a : Act} {C : Act → World → Prop} {Q : Exit → Act → World → Prop} {E : Prop} (hgd : o.guard = none) (s x : Operand) (t : TypeId)
    (ho : o.op = .call { callee := .builtin .append, args := #[s, x], argTypes := #[t, t] })
    (base : Nat) (ht : P.underlying t = some (.slice K.ty))
    (w1 : World) (b : Nat) (cells : Array Value) (tc : TypeId) (hblk : w1.heap[b]? = some (.cells cells tc)) (v : Value) (l : List α) (f : α) (c : Nat) (hs : a.eval s = v) (hown : OwnG K w1 base v l)
    (hx : a.eval x = .slice (some ⟨b, 0, none⟩) 1 c) (hc : cells.toList = K.f f)
    (hlen : (l.length + 1) * K.B ≤ 140737488355328) (hbase : base ≤ w1.heap.size)
    (h : ∀ g cap w', OwnG K w' base (.slice (some ⟨g, 0, none⟩) (l.length + 1) cap) (l ++ [f]) → Below base w1 w' → (∀ k, k < w1.heap.size → some k ≠ v.ownBlock → w'.heap[k]? = w1.heap[k]?) → (v.ownBlock = some g ∨ w1.heap.size ≤ g) → C (a.put o.dst (.slice (some ⟨g, 0, none⟩) (l.length + 1) cap)) w') :
    if Region.wanted o (yielded ops a.tmps) = true then Oper.wp P o a w1 C Q else E := by
  obtain ⟨i0, hi0, hz0, hz1, hz2⟩ := hk.info
  have hpb := hk.posB
  have hn : l.length + 1 ≤ 140737488355328 := Nat.le_trans (Nat.le_mul_of_pos_right _ hpb) hlen
  refine step_append_lies _ hgd s x t ho base K.ty i0 K.z K.W K.B ht hi0 hz0 hz1 hz2 hk.zs hk.pos v l.length (l.flatMap K.f) hs hown ⟨b, 0, none⟩ 1 c (K.f f) hx (by rw [hk.len]; omega) (by rw [← hc]; exact World.news_of_block hblk) (hk.one f)
    (by decide) (by unfold maxLen; omega) hlen hbase _ rfl ?_
  intro g cap w' ho' hg hgg _
  refine h g cap w' ?_ ((Below.refl base w1).grown hg hbase (fun q hq => (hown.lt hq).1)) (fun k hk hne => hg.block k hk hne) ?_
  · unfold OwnG
    rw [List.length_append, List.flatMap_append]
    simpa using ho'
  · rcases hgg with hgg | hgg
    · exact Or.inl hgg
    · right; rw [hgg]; exact Nat.le_refl _
/-- What Make answers. -/
def MakR (w : World) (base b : Nat) (F : Nat → Prop) (T : Tr) (s : ByteArray) (l : List ByteArray) (w' : World) (e : Ending) : Prop :=
  (∃ err : Int, err ≠ 0 ∧ e = .returned (.tuple #[.bool false, .int .i64 err]) ∧ ckO T s l = none ∧ TVu w base b F w' T) ∨ ∃ ps, ckO T s l = some ps ∧ e = .returned (.tuple #[.bool (decide (leastA T.od 256 ps ≠ 256)), .int .i64 0]) ∧ TVu w base b F w' (makT T s ps)
theorem ckO_some {T : Tr} {s : ByteArray} {l : List ByteArray} {ps : List Nat} (h : ckO T s l = some ps) : localB s.data.toList = true ∧ plO T.nms s = none ∧ l.length ≤ 8 ∧ T.ns.length < 256 ∧ fAll T.nms l = some ps := by
  unfold ckO at h
  by_cases hc : localB s.data.toList = true ∧ plO T.nms s = none ∧ l.length ≤ 8 ∧ T.ns.length < 256
  · rw [if_pos hc] at h; exact ⟨hc.1, hc.2.1, hc.2.2.1, hc.2.2.2, h⟩
  · rw [if_neg hc] at h; cases h
theorem fAll_len {nms : List ByteArray} : ∀ (l : List ByteArray) (ps : List Nat), fAll nms l = some ps → ps.length = l.length
  | [], ps, h => by injection h with h; subst h; rfl
  | x :: r, ps, h => by
    unfold fAll at h
    cases hx : plO nms x with
    | none => rw [hx] at h; cases h
    | some q =>
      rw [hx] at h
      obtain ⟨qs, h1, h2⟩ := Option.map_eq_some_iff.1 h
      subst h2
      simp [fAll_len r qs h1]
set_option maxHeartbeats 16000000 in
set_option maxRecDepth 100000 in
theorem make_any (w : World) (base b : Nat) (F : Nat → Prop) (T : Tr) (h : TV w base b F T) (s : ByteArray) (hs : s.size ≤ maxLen) (v : Value) (l : List ByteArray) (hv : GS KS w v l) (hls : ∀ s ∈ l, s.size ≤ maxLen) (hll : l.length ≤ 1000000000000000) :
    Calls Tryd.prog 12 #[.pointer (some ⟨b, 0, none⟩), .string s, v] w fun e w' => MakR w base b F T s l w' e := by
  have h0 := h
  obtain ⟨cb, mb, nv, ov, L, t, e⟩ := h.ex
  subst e
  have CN := checkNew_any w b cb mb nv ov L T t s hs v l hv hls hll
  cases hck : ckO T s l with
  | none =>
    have CN2 : Hid (Calls Tryd.prog 28 #[.pointer (some ⟨b, 0, none⟩), .string s, v] w fun e w' => ∃ err : Int, e = .returned (.tuple #[.slice none 0 0, .int .i64 err]) ∧ err ≠ 0 ∧ MakR w base b (fp b cb mb nv ov) T s l w' (.returned (.tuple #[.bool false, .int .i64 err]))) := by
      refine CN.mono ?_
      rintro e w' (⟨err, q1, q2, q3, q4⟩ | ⟨ps, u, q1, _⟩)
      · exact ⟨err, q2, q1, Or.inl ⟨err, q1, rfl, q3, TVu.same h0 q4⟩⟩
      · rw [hck] at q1; cases q1
    clear CN t h h0 hv hck
    go_enter Tryd.func12, Tryd.ntmps12
    go_wp2_with (go_at_call 28; refine CN2.out.mono ?_; rintro e w1 ⟨err, rfl, q1, q2⟩; have z1 : (err == 0) = false := (by simpa using q1); have z2 : (err != 0) = true := (by simpa using q1); have HQ := hid q2; clear q1 q2)
    go_ret2
    exact HQ.out
  | some ps =>
    obtain ⟨k1, k2, k3, k4, k5⟩ := ckO_some hck
    have hpl := fun p hp => (fAll_lt l ps k5 p hp).1
    have hpn := fAll_len l ps k5
    have CN2 : Hid (Calls Tryd.prog 28 #[.pointer (some ⟨b, 0, none⟩), .string s, v] w fun e w' => ∃ pu cu, e = .returned (.tuple #[.slice pu ps.length cu, .int .i64 0]) ∧ OwnG KP w' w.heap.size (.slice pu ps.length cu) ps ∧ Below w.heap.size w w') := by
      refine CN.mono ?_
      rintro e w' (⟨err, q1, q2, q3, q4⟩ | ⟨ps', u, q1, q2, q3, q4⟩)
      · rw [hck] at q3; cases q3
      · rw [hck] at q1
        injection q1 with q1
        subst q1
        obtain ⟨pu, cu, e9, _⟩ := q3.form
        rw [e9] at q2 q3
        exact ⟨pu, cu, q2, q3, q4⟩
    have mk := makT_all h.inv (s := s) (ps := ps) (by have := localB_size k1; omega) hpl k4 k2
    obtain ⟨pn, cn, hnv, hcn⟩ := t.nr.form
    rw [t.ll] at hnv hcn
    subst hnv
    -- behind checkNew
    have ST1 : Hid (∀ w1, Below w.heap.size w w1 → w1.cell? ⟨b, 1, none⟩ = some (.slice pn T.ns.length cn) ∧ w1.cell? ⟨b, 2, none⟩ = some (.map (some mb)) ∧ MV w1 mb T.ns.length (plF T.nms)) := fun w1 hb => ⟨(t.below hb).cells.2.1, (t.below hb).cells.2.2.1, (t.below hb).mp⟩
    have hnl := t.nl
    have H := hid t
    have H0 := hid h0
    have MK := hid mk
    have HK := hid k2
    have HP : Hid (∀ p ∈ ps, p < T.ns.length) := hpl
    have hpn8 : ps.length ≤ 8 := by omega
    have RES : Hid (∀ (bb : Bool) w', bb = decide (leastA T.od 256 ps ≠ 256) → TVu w base b (fp b cb mb (.slice pn T.ns.length cn) ov) w' (makT T s ps) → MakR w base b (fp b cb mb (.slice pn T.ns.length cn) ov) T s l w' (.returned (.tuple #[.bool bb, .int .i64 0]))) := fun bb w' hb hq => Or.inr ⟨ps, hck, by rw [hb], hq⟩
    obtain ⟨N, hN⟩ : ∃ N, N = T.ns.length := ⟨_, rfl⟩
    clear CN t h h0 hv hck mk k1 k2 k3 k5 hpl hpn
    go_enter Tryd.func12, Tryd.ntmps12
    go_upto_region 6 with (first | (go_at_call 28; refine CN2.out.mono ?_; rintro e w1 ⟨pu, cu, rfl, q1, q2⟩; obtain ⟨x1, x2, x3⟩ := ST1.out w1 q2; have Q1 := hid q1; have Q2 := hid q2; have X3 := hid x3; clear q1 q2 x3) | (at_mapUpdate; refine mv_put rfl _ _ _ 60 rfl 3 Tryd.underlying60 mb T.ns.length _ rfl X3.out (by unfold maxLen; omega) s (.int .i64 (T.ns.length : Nat)) rfl rfl hs ?_; intro w2 hm2 hb2; have M2 := hid hm2; have B2 := hid hb2; clear hm2 hb2))
    have tw1 := H.out.below Q2.out
    have D1 : Hid (∀ W, Below w2.heap.size w2 W → W.cell? ⟨b, 1, none⟩ = some (.slice pn T.ns.length cn) ∧ OwnG KN W 0 (.slice pn T.ns.length cn) L) := fun W hb => by
      have nb := tw1.b_ne
      have e1 : W.heap[b]? = w1.heap[b]? := (hb.block b (by have := B2.out.size; have := lt_of_heap tw1.tr; omega)).trans (B2.out.block b (lt_of_heap tw1.tr) (fun e => nb.2.1 e.symm))
      refine ⟨(World.cell?_of_block (w := w1) (a := ⟨b, 1, none⟩) e1).trans tw1.cells.2.1, tw1.nr.far (fun g hg => ?_)⟩
      exact (hb.block g (by have := B2.out.size; have := (tw1.nr.lt hg).2; omega)).trans (B2.out.block g (tw1.nr.lt hg).2 (tw1.nv_ne hg).2.2.1)
    have NR0 : Hid (∀ W, Below w2.heap.size w2 W → NRd W b (.slice pn T.ns.length cn) T) := fun W hb w' hb' => by
      obtain ⟨e1, e2⟩ := D1.out w' (hb.trans (hb'.mono hb.size))
      refine ⟨e1, fun p hp => ?_⟩
      obtain ⟨hl, hr⟩ := H.out.getL hp
      obtain ⟨X, cap, e3, _⟩ := e2.place (by
        intro hn
        rcases e2.2 with ⟨_, e0⟩ | ⟨g, c, cur, e0, _⟩
        · have := H.out.ll; omega
        · rw [e0] at hn; cases hn)
      have e4 : pn = some ⟨X, 0, none⟩ := by injection e3
      subst e4
      refine ⟨X, cn, rfl, fun k hk => ?_⟩
      obtain ⟨X', o', e5, _, hcell⟩ := (e2.gs KN_ok.len).at hl
      injection e5 with e5
      injection e5 with e6 e7 _
      subst e6 e7
      have := hcell (1 + k) (.int .u64 (L[p].ab k)) (by
        have : k = 0 ∨ k = 1 ∨ k = 2 ∨ k = 3 := by omega
        rcases this with rfl | rfl | rfl | rfl <;> rfl)
      rw [show KN.W = 9 from rfl, Nat.zero_add, ← Nat.add_assoc] at this
      rw [this, hr.ab]
    have GP : Hid (∀ W, But (fp b cb mb (.slice pn T.ns.length cn) ov) w1 W → GS KP W (.slice pu ps.length cu) ps) := fun W k => (Q1.out.far (fun g hg => k.block g (Q1.out.lt hg).2 (fun q => by
      have := (Q1.out.lt hg).1
      have := H.out.okF.lt q
      omega))).gs KP_ok.len
    have NN : Hid (∀ W, Below w2.heap.size w2 W → Calls Tryd.prog 29 #[.pointer (some ⟨b, 0, none⟩), .string s, .slice pu ps.length cu] W fun e w' => e = .returned (.agg #[.string s, .int .u64 (newAb T ps 0), .int .u64 (newAb T ps 1), .int .u64 (newAb T ps 2), .int .u64 (newAb T ps 3), .int .i64 1099511627777, .int .i64 256, .int .i64 0, .slice none 0 0]) ∧ Below w2.heap.size w2 w' ∧ w'.cell? ⟨b, 1, none⟩ = some (.slice pn T.ns.length cn)) := fun W hb => by
      have kk : But (fp b cb mb (.slice pn T.ns.length cn) ov) w1 W := (B2.out.weak (fun y hy => by subst hy; exact Or.inr (Or.inr (Or.inl rfl)))).trans (But.of_below (F := fun _ => False) hb) (fun _ q => q.elim)
      refine (newNode_any W b _ T (NR0.out W hb) H.out.nl H.out.wd s _ ps (GP.out W kk) HP.out (by omega)).mono ?_
      rintro e w' ⟨rfl, q⟩
      have q2 := hb.trans (q.mono hb.size)
      exact ⟨rfl, q2, (D1.out w' q2).1⟩
    have NX : Hid (∀ W2 g3 cap3 w3, Below w2.heap.size w2 W2 → OwnG KN w3 0 (.slice (some ⟨g3, 0, none⟩) (L.length + 1) cap3) (L ++ [⟨s, newAb T ps, 1099511627777, 256, 0, none, 0, 0⟩]) → Below 0 W2 w3 → (∀ k, k < W2.heap.size → some k ≠ (Value.slice pn T.ns.length cn).ownBlock → w3.heap[k]? = W2.heap[k]?) → ((Value.slice pn T.ns.length cn).ownBlock = some g3 ∨ W2.heap.size ≤ g3) → w3.cell? ⟨b, 1, none⟩ = some (.slice pn T.ns.length cn) ∧ w3.frozen? ⟨b, 1, none⟩ = false ∧ TX (w3.setCell ⟨b, 1, none⟩ (.slice (some ⟨g3, 0, none⟩) (L.length + 1) cap3)) b cb mb (.slice (some ⟨g3, 0, none⟩) (L.length + 1) cap3) ov (L ++ [⟨s, newAb T ps, 1099511627777, 256, 0, none, 0, 0⟩]) (addT T s ps) ∧ But (fp b cb mb (.slice pn T.ns.length cn) ov) w1 (w3.setCell ⟨b, 1, none⟩ (.slice (some ⟨g3, 0, none⟩) (L.length + 1) cap3)) ∧ Fr w1 (fp b cb mb (.slice pn T.ns.length cn) ov) (fp b cb mb (.slice (some ⟨g3, 0, none⟩) (L.length + 1) cap3) ov)) := fun W2 g3 cap3 w3 hb ho h3 hk hg => by
      have k2 : But (fun x => x = mb) w1 W2 := B2.out.trans (But.of_below (F := fun _ => False) hb) (fun _ q => q.elim)
      have k3 : But (fun x => (Value.slice pn T.ns.length cn).ownBlock = some x) W2 w3 := ⟨h3.os, h3.tape, h3.output, h3.size, fun x hx hn => hk x hx (fun e => hn e.symm)⟩
      have nb := tw1.b_ne
      have eb : w3.heap[b]? = w1.heap[b]? := (k3.block b (by have := k2.size; have := lt_of_heap tw1.tr; omega) (fun q => (tw1.nv_ne q).1 rfl)).trans (k2.block b (lt_of_heap tw1.tr) (fun e => nb.2.1 e.symm))
      refine ⟨(World.cell?_of_block (w := w1) (a := ⟨b, 1, none⟩) eb).trans tw1.cells.2.1, by rw [tw1.tr] at eb; simp [World.frozen?, eb], ?_⟩
      exact add_tx tw1 H0.out.inv s ps HP.out k4 HK.out (M2.out.below hb) k2 _ ho k3 (fun g hg' => by
        injection hg' with hg'
        have : g3 = g := hg'
        subst this
        exact hg)
    have LL : Hid (L.length = T.ns.length) := H.out.ll
    have HLN : Hid ((L.length + 1) * KN.B ≤ 140737488355328) := by show (L.length + 1) * 96 ≤ _; have := LL.out; omega
    have d1 := (D1.out w2 (Below.refl _ _)).1
    have hbw2 : b < w2.heap.size := block_lt_of_cell d1
    clear x1 x2 M2 X3 ST1 CN2
    go_region_law (first
      | (refine step_append_g KN KN_ok (by rfl) (.tmp 37) (.tmp 42) 59 (by rfl) 0 Tryd.underlying59 _ _ _ _ (by first | exact heap_alloc_new _ _) (.slice pn T.ns.length cn) L ⟨s, newAb T ps, 1099511627777, 256, 0, none, 0, 0⟩ _ (by rfl) ((D1.out _ BB).2.below ((Below.refl _ _).alloc (Nat.le_refl _) _)) (by rfl) (by rfl) HLN.out (Nat.zero_le _) ?_; intro g8 c8 w8 o8 b8 k8 q8; obtain ⟨n1, n2, n3⟩ := NX.out _ g8 c8 w8 (BB.trans (((Below.refl _ _).alloc (Nat.le_refl _) _).mono BB.size)) o8 b8 k8 q8; have N3 := hid n3; clear n3 o8 b8 k8 q8)
      | (go_simp; go_at_call 29; refine (NN.out _ (by first | exact Below.refl _ _ | exact (Below.refl _ _).drew)).mono ?_; rintro e w5 ⟨rfl, BB, d5⟩; have d6 : ∀ ob, (w5.alloc ob).cell? ⟨b, 1, none⟩ = some (.slice pn T.ns.length cn) := fun ob => (((Below.refl w5.heap.size w5).alloc (Nat.le_refl _) ob).cell (p := ⟨b, 1, none⟩) (block_lt_of_cell d5)).trans d5))
    all_goals
      clear d1 d5 d6 n1 n2 NN NX NR0 D1 BB hbw2
      generalize hV : World.setCell w8 _ _ = V at N3 ⊢
      clear hV
      obtain ⟨c0, c1, c2, c3⟩ := N3.out.1.cells
      have LS : Hid (Calls Tryd.prog 30 #[.pointer (some ⟨b, 0, none⟩), .slice pu ps.length cu] V fun e w' => e = .returned (.int .i64 (leastA T.od 256 ps : Nat)) ∧ w' = V) := least_any V b cb mb _ ov _ (addT T s ps) N3.out.1 _ ps (GP.out V N3.out.2.1) (fun p hp => by rw [addT_len]; have := HP.out p hp; omega) (by omega)
      have kA : Hid (But (fp b cb mb (.slice pn T.ns.length cn) ov) w V ∧ Fr w (fp b cb mb (.slice pn T.ns.length cn) ov) (fp b cb mb (.slice (some ⟨g8, 0, none⟩) (L.length + 1) c8) ov)) := ⟨(But.of_below Q2.out).trans N3.out.2.1 (fun x q => Or.inl q), fun x hx => by
        rcases N3.out.2.2 x hx with q | q
        · exact Or.inl q
        · exact Or.inr (Nat.le_trans Q2.out.size q)⟩
      have hol : T.od.length ≤ 256 := H.out.ol
      by_cases hle : leastA T.od 256 ps = 256
      · have eM : makT T s ps = addT T s ps := by unfold makT; rw [if_pos hle]
        have FIN := hid (RES.out false V (by simp [hle]) (by rw [eM]; exact TVu.of H0.out ⟨_, _, _, N3.out.1, kA.out.1, kA.out.2⟩ (by rw [← eM]; exact MK.out.1)))
        rw [hle] at LS
        clear RES N3 GP c0 c1 c2 c3 hle eM
        go_wp2_with (go_at_call 30; refine LS.out.mono ?_; rintro e w6 ⟨rfl, hw6⟩; subst w6)
        go_ret2
        exact FIN.out
      · rcases leastA_spec hol ps with ⟨e, _⟩ | ⟨elt, p0, hp0, hp0d, ep⟩
        · exact absurd e hle
        · have hp0l := HP.out p0 hp0
          obtain ⟨X, cap, hnv, hcap, hX, fz, m0, m1, m5, m6, m7, wp, wc, m8, ow⟩ := N3.out.1.nd (p := p0) (by rw [addT_len]; omega)
          have eX : X = g8 := by
            injection hnv with hnv _ _
            injection hnv with hnv
            injection hnv with hnv _ _
            exact hnv.symm
          subst eX
          rw [addT_old hp0l] at m7
          obtain ⟨go, co, hov, hco⟩ := N3.out.1.or.place (by
            intro hn
            rcases N3.out.1.or.2 with ⟨_, e0⟩ | ⟨g, c, cur, e0, _⟩
            · have : T.od.length = 0 := e0
              rw [List.length_eq_zero_iff.1 this] at hp0d; cases hp0d
            · rw [e0] at hn; cases hn)
          have hro : T.od.length ≤ co := hco
          have hov' : ov = .slice (some ⟨go, 0, none⟩) T.od.length co := hov
          rw [hov'] at c3
          have hrl := rkOf_lt hp0d
          rw [← ep] at hrl
          have oc : V.cell? ⟨go, leastA T.od 256 ps, none⟩ = some (.int .i64 (p0 : Nat)) := by
            have ho := N3.out.1.or
            rw [hov'] at ho
            obtain ⟨X', o', e', _, hc'⟩ := (ho.gs KP_ok.len).at (k := leastA T.od 256 ps) hrl
            injection e' with e'
            injection e' with e1 e2 _
            subst e1 e2
            have := hc' 0 _ rfl
            rw [show KP.W = 1 from rfl, Nat.mul_one, Nat.zero_add, Nat.add_zero] at this
            rw [this]
            have e7 := rkOf_at hp0d
            rw [← ep, List.getElem?_eq_getElem hrl] at e7
            injection e7 with e7
            have e8 : (addT T s ps).od[leastA T.od 256 ps] = p0 := e7
            rw [e8]
          have e9 : T.od.getD (leastA T.od 256 ps) 0 = p0 := by
            have e7 := rkOf_at hp0d
            rw [← ep] at e7
            simp only [List.getD, e7]; rfl
          have EN : Hid (∀ n, Calls Tryd.prog 31 #[.pointer (some ⟨b, 0, none⟩), .int .i64 (T.ns.length : Nat), .int .i64 ((T.n p0).bw : Nat)] (V.drewN n) fun e w' => e = .returned (.tuple #[]) ∧ MakR w base b (fp b cb mb (.slice pn T.ns.length cn) ov) T s l w' (.returned (.tuple #[.bool true, .int .i64 0]))) := fun n => by
            have hln : T.ns.length ∉ (addT T s ps).od := fun q => by have := H0.out.inv.lt _ q; omega
            refine (end_any (V.drewN n) b cb mb _ ov _ (addT T s ps) (N3.out.1.drewN n) T.ns.length (T.n p0).bw (by rw [addT_len]; omega) hln (by
              show T.od.length < 256
              have := nodup_len T.ns.length T.od H0.out.inv.nd H0.out.inv.lt
              omega)).mono ?_
            rintro e w' ⟨rfl, hq⟩
            have eM : makT T s ps = endT (addT T s ps) T.ns.length (T.n p0).bw := by unfold makT; rw [if_neg hle, e9]
            refine ⟨rfl, RES.out true w' (by simp [hle]) ?_⟩
            have iv := MK.out.1
            rw [eM] at iv ⊢
            exact TVu.of H0.out (Ts.trans (kA.out.1.drewN n) kA.out.2 hq) iv
          have hz1 : (((leastA T.od 256 ps : Nat) : Int) == 256) = false := by simp; omega
          have hz2 : ¬ ((leastA T.od 256 ps : Nat) : Int) = 256 := by omega
          have hLL := LL.out
          have hp0L : p0 < L.length + 1 := by omega
          have hL256 : L.length ≤ 256 := by omega
          clear RES N3 GP c0 c2 MK kA m0 m1 m5 m6 m8 ow fz hnv hcap hov hov' ep hp0d hp0 e9 hle hLL
          generalize leastA T.od 256 ps = f at *
          generalize (T.n p0).bw = bw0 at *
          go_upto_region 10 with (go_at_call 30; refine LS.out.mono ?_; rintro e w6 ⟨rfl, hw6⟩; subst w6)
          refine wp_region_lastL default _ (by simp) (by kernel_rfl) (by kernel_rfl) (by kernel_rfl) (fun _ _ h => by cases h) (fun t ht => by cases ht; decide) ?_
          dsimp only [muteL, lastO, mute]
          repeat (go_big_quiet_step (fail))
          refine wpQuiet_nil ?_
          intro nq
          refine ⟨31, #[.pointer (some ⟨b, 0, none⟩), .int .i64 (T.ns.length : Nat), .int .i64 (bw0 : Nat)], (by rw [execOp_call_go]; go_simp), (EN.out nq).mono ?_⟩
          rintro e w6 ⟨rfl, hq⟩
          refine ⟨_, rfl, ?_⟩
          have HQ := hid hq
          clear hq
          go_wp2_with fail
          go_ret2
          exact HQ.out
end Go.Proofs.YtkebflllbphkkaaDoor
