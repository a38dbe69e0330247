/- Tokens: one is put behind all that are cancelled (end). -/
import Derived.Test.YtkebflllbphkkaaDoorTq4
namespace Go.Proofs.YtkebflllbphkkaaDoor
open Go.RowKit

theorem fill_set {α : Type} (A : List α) (z x : α) (m : Nat) (hm : 0 < m) : (A ++ List.replicate m z).set A.length x = (A ++ [x]) ++ List.replicate (m - 1) z := by
  rw [List.set_append_right _ _ (Nat.le_refl _), Nat.sub_self]
  obtain ⟨k, rfl⟩ : ∃ k, m = k + 1 := ⟨m - 1, by omega⟩
  rw [List.replicate_succ, List.set_cons_zero]
  simp
/-- The places of names. -/
def fAll (nms : List ByteArray) : List ByteArray → Option (List Nat)
  | [] => some []
  | s :: r => match plO nms s with
    | none => none
    | some p => (fAll nms r).map (fun q => p :: q)
theorem fAll_snoc (nms : List ByteArray) : ∀ (l : List ByteArray) (ps : List Nat) (s : ByteArray) (p : Nat), fAll nms l = some ps → plO nms s = some p → fAll nms (l ++ [s]) = some (ps ++ [p])
  | [], ps, s, p, h, k => by
    injection h with h
    subst h
    show (match plO nms s with | none => none | some p => (fAll nms []).map (fun q => p :: q)) = _
    rw [k]; rfl
  | x :: r, ps, s, p, h, k => by
    unfold fAll at h
    cases hx : plO nms x with
    | none => rw [hx] at h; cases h
    | some q =>
      rw [hx] at h
      obtain ⟨qs, h1, h2⟩ := Option.map_eq_some_iff.1 h
      subst h2
      show (match plO nms x with | none => none | some p => (fAll nms (r ++ [s])).map (fun q => p :: q)) = _
      rw [hx, fAll_snoc nms r qs s p h1 k]; rfl
theorem fAll_none (nms : List ByteArray) : ∀ (l : List ByteArray) (s : ByteArray), s ∈ l → plO nms s = none → fAll nms l = none
  | x :: r, s, hs, k => by
    unfold fAll
    rcases List.mem_cons.1 hs with e | e
    · subst e; rw [k]
    · cases hx : plO nms x with
      | none => rfl
      | some q => rw [fAll_none nms r s e k]; rfl
theorem fAll_lt {T : Tr} : ∀ (l : List ByteArray) (ps : List Nat), fAll T.nms l = some ps → ∀ p ∈ ps, p < T.ns.length ∧ (T.n p).name ∈ l
  | [], ps, h, p, hp => by injection h with h; subst h; cases hp
  | x :: r, ps, h, p, hp => by
    unfold fAll at h
    cases hx : plO T.nms x with
    | none => rw [hx] at h; cases h
    | some q =>
      rw [hx] at h
      obtain ⟨qs, h1, h2⟩ := Option.map_eq_some_iff.1 h
      subst h2
      rcases List.mem_cons.1 hp with e | e
      · subst e
        obtain ⟨a, b⟩ := plO_some hx
        exact ⟨a, by rw [b]; exact List.mem_cons_self ..⟩
      · obtain ⟨a, b⟩ := fAll_lt r qs h1 p e
        exact ⟨a, List.mem_cons_of_mem _ b⟩
theorem kp_set {w : World} {base g n cap : Nat} {l : List Nat} (h : OwnG KP w base (.slice (some ⟨g, 0, none⟩) n cap) l) (k p : Nat) : OwnG KP (w.setCell ⟨g, k, none⟩ (.int .i64 p)) base (.slice (some ⟨g, 0, none⟩) n cap) (l.set k p) := h.set1 rfl KP_ok.len p _ rfl
theorem ks_set {w : World} {base g n cap : Nat} {l : List ByteArray} (h : OwnG KS w base (.slice (some ⟨g, 0, none⟩) n cap) l) (k : Nat) (p : ByteArray) : OwnG KS (w.setCell ⟨g, k, none⟩ (.string p)) base (.slice (some ⟨g, 0, none⟩) n cap) (l.set k p) := h.set1 rfl KS_ok.len p _ rfl
def fAllR (w w' : World) (e : Ending) : Option (List Nat) → Prop
  | none => e = .returned (.tuple #[.slice none 0 0, .int .i64 4])
  | some ps => e = .returned (.tuple #[.slice (some ⟨w.heap.size, 0, none⟩) ps.length ps.length, .int .i64 0]) ∧ OwnG KP w' w.heap.size (.slice (some ⟨w.heap.size, 0, none⟩) ps.length ps.length) ps
set_option maxHeartbeats 8000000 in
set_option maxRecDepth 100000 in
theorem findAll_any (w : World) (b cb mb : Nat) (nv ov : Value) (L : List NM) (T : Tr) (h : TX w b cb mb nv ov L T) (v : Value) (l : List ByteArray) (hv : GS KS w v l) (hs : ∀ s ∈ l, s.size ≤ maxLen) (hll : l.length ≤ 100000) :
    Calls Tryd.prog 45 #[.pointer (some ⟨b, 0, none⟩), v] w fun e w' => fAllR w w' e (fAll T.nms l) ∧ Below w.heap.size w w' := by
  obtain ⟨pv, cv, rfl⟩ := hv.form
  have H := hid h
  have HV := hid hv
  have HS : Hid (∀ s ∈ l, s.size ≤ maxLen) := hs
  clear h hv hs
  go_enter Tryd.func45, Tryd.ntmps45
  go_wp2_with (at_make; refine make_g KP KP_ok 0 rfl rfl _ rfl _ _ 51 rfl Tryd.underlying51 l.length rfl rfl hll (by decide) ?_; intro w1 ho1 hb1)
  have O1 : Hid (OwnG KP w1 w.heap.size (.slice (some ⟨w.heap.size, 0, none⟩) l.length l.length) (List.replicate l.length 0) ∧ Below w.heap.size w w1) := ⟨ho1, hb1⟩
  clear ho1 hb1
  go_loopw [16] (fun i wr => ∃ (k : Nat) (ps : List Nat) (wk : World), k ≤ l.length ∧ i = .int .i64 k ∧ wk = wr ∧ Hid (ps.length = k ∧ fAll T.nms (l.take k) = some ps ∧ OwnG KP wk w.heap.size (.slice (some ⟨w.heap.size, 0, none⟩) l.length l.length) (ps ++ List.replicate (l.length - k) 0) ∧ Below w.heap.size w wk)) (fun i _ => l.length - (intOf i).toNat)
  case atStart => exact ⟨0, [], w1, Nat.zero_le _, rfl, rfl, ⟨rfl, rfl, O1.out.1, O1.out.2⟩⟩
  case round =>
    obtain ⟨k, ps, wr, hk, rfl, rfl, HR⟩ := hrel
    clear O1
    by_cases hlt : k < l.length
    · obtain ⟨X, o, rfl, hX, hc⟩ := (HV.out.below HR.out.2.2.2).at hlt
      have e0 := hc 0 _ rfl
      rw [show KS.W = 1 from rfl, Nat.mul_one, Nat.add_zero] at e0
      have FD := hid (find_any wr b cb mb nv ov L T (H.out.below HR.out.2.2.2) l[k] (HS.out _ (List.getElem_mem hlt)))
      have hmem : l[k] ∈ l := List.getElem_mem hlt
      have tk : l.take (k + 1) = l.take k ++ [l[k]] := by rw [List.take_add_one, List.getElem?_eq_getElem hlt, Option.toList_some]
      obtain ⟨s, hse⟩ : ∃ s, s = l[k] := ⟨_, rfl⟩
      rw [← hse] at e0 FD hmem tk
      clear hse hc
      cases hp : plO T.nms s with
      | none =>
        have FN : Hid (fAll T.nms l = none) := fAll_none _ _ s hmem hp
        rw [hp] at FD
        have FD2 : Hid (Calls Tryd.prog 25 #[.pointer (some ⟨b, 0, none⟩), .string s] wr fun e w' => e = .returned (.tuple #[.int .i64 0, .int .i64 4]) ∧ w' = wr) := FD
        clear FD hp tk
        go_wp2_with (go_at_call 25; refine FD2.out.mono ?_; rintro e w2 ⟨rfl, hw2⟩; subst w2)
        go_ret2
        exact ⟨by rw [FN.out]; rfl, HR.out.2.2.2⟩
      | some p =>
        rw [hp] at FD
        have FD2 : Hid (Calls Tryd.prog 25 #[.pointer (some ⟨b, 0, none⟩), .string s] wr fun e w' => e = .returned (.tuple #[.int .i64 (p : Nat), .int .i64 0]) ∧ w' = wr) := FD
        have hfz := own_frozen HR.out.2.2.1 k
        have hin : wr.cell? ⟨w.heap.size, k, none⟩ = some (.int .i64 ((0 : Nat) : Int)) := by
          obtain ⟨X', o', e', _, hc'⟩ := (HR.out.2.2.1.gs KP_ok.len).at (k := k) (by have := HR.out.1; simp; omega)
          injection e' with e'
          injection e' with e1 e2 _
          subst e1 e2
          have := hc' 0 _ rfl
          rw [show KP.W = 1 from rfl, Nat.mul_one, Nat.zero_add, Nat.add_zero] at this
          rw [this, List.getElem_append_right (by rw [HR.out.1]; exact Nat.le_refl _), List.getElem_replicate]
        have N1 : Hid ((ps ++ [p]).length = k + 1 ∧ fAll T.nms (l.take (k + 1)) = some (ps ++ [p]) ∧ OwnG KP (wr.setCell ⟨w.heap.size, k, none⟩ (.int .i64 p)) w.heap.size (.slice (some ⟨w.heap.size, 0, none⟩) l.length l.length) ((ps ++ [p]) ++ List.replicate (l.length - (k + 1)) 0) ∧ Below w.heap.size w (wr.setCell ⟨w.heap.size, k, none⟩ (.int .i64 p))) := by
          obtain ⟨r1, r2, r3, r4⟩ := HR.out
          refine ⟨by simp [r1], by rw [tk]; exact fAll_snoc _ _ _ _ _ r2 hp, ?_, r4.setCell (p := ⟨w.heap.size, k, none⟩) (Nat.le_refl _) _⟩
          have := kp_set r3 k p
          rw [← r1, fill_set _ _ _ _ (by omega)] at this
          rw [r1] at this
          rw [show l.length - (k + 1) = l.length - k - 1 by omega]
          exact this
        clear FD hp tk HR
        go_wp2_with (go_at_call 25; refine FD2.out.mono ?_; rintro e w2 ⟨rfl, hw2⟩; subst w2)
        go_roundw
        case rel => exact ⟨k + 1, ps ++ [p], _, by omega, by go_num, rfl, N1⟩
        case measure => simp [intOf]; omega
    · have HE : Hid (fAll T.nms l = some ps ∧ ps.length = l.length ∧ OwnG KP wr w.heap.size (.slice (some ⟨w.heap.size, 0, none⟩) l.length l.length) ps ∧ Below w.heap.size w wr) := by
        obtain ⟨r1, r2, r3, r4⟩ := HR.out
        rw [List.take_of_length_le (by omega)] at r2
        rw [show l.length - k = 0 by omega, List.replicate_zero, List.append_nil] at r3
        exact ⟨r2, by omega, r3, r4⟩
      clear HR
      go_wp2
      go_ret2
      refine ⟨?_, HE.out.2.2.2⟩
      rw [HE.out.1]
      refine ⟨by rw [HE.out.2.1]; rfl, ?_⟩
      rw [HE.out.2.1]; exact HE.out.2.2.1
set_option maxHeartbeats 8000000 in
set_option maxRecDepth 100000 in
theorem namesOf_any (w : World) (b cb mb : Nat) (nv ov : Value) (L : List NM) (T : Tr) (h : TX w b cb mb nv ov L T) (v : Value) (l : List Nat) (hv : GS KP w v l) (hs : ∀ p ∈ l, p < T.ns.length) (hll : l.length ≤ 100000) :
    Calls Tryd.prog 24 #[.pointer (some ⟨b, 0, none⟩), v] w fun e w' => e = .returned (.slice (some ⟨w.heap.size, 0, none⟩) l.length l.length) ∧ OwnG KS w' w.heap.size (.slice (some ⟨w.heap.size, 0, none⟩) l.length l.length) (l.map (fun p => (T.n p).name)) ∧ Below w.heap.size w w' := by
  obtain ⟨pv, cv, rfl⟩ := hv.form
  have H := hid h
  have HV := hid hv
  have HS : Hid (∀ p ∈ l, p < T.ns.length) := hs
  clear h hv hs
  go_enter Tryd.func24, Tryd.ntmps24
  go_wp2_with (at_make; refine make_g KS KS_ok ByteArray.empty rfl rfl _ rfl _ _ 26 rfl Tryd.underlying26 l.length rfl rfl hll (by decide) ?_; intro w1 ho1 hb1)
  have O1 : Hid (OwnG KS w1 w.heap.size (.slice (some ⟨w.heap.size, 0, none⟩) l.length l.length) (List.replicate l.length ByteArray.empty) ∧ Below w.heap.size w w1) := ⟨ho1, hb1⟩
  clear ho1 hb1
  go_loopw [13] (fun i wr => ∃ (k : Nat) (wk : World), k ≤ l.length ∧ i = .int .i64 k ∧ wk = wr ∧ Hid (OwnG KS wk w.heap.size (.slice (some ⟨w.heap.size, 0, none⟩) l.length l.length) ((l.take k).map (fun p => (T.n p).name) ++ List.replicate (l.length - k) ByteArray.empty) ∧ Below w.heap.size w wk)) (fun i _ => l.length - (intOf i).toNat)
  case atStart => exact ⟨0, w1, Nat.zero_le _, rfl, rfl, ⟨O1.out.1, O1.out.2⟩⟩
  case round =>
    obtain ⟨k, wr, hk, rfl, rfl, HR⟩ := hrel
    clear O1
    by_cases hlt : k < l.length
    · obtain ⟨X, o, rfl, hX, hc⟩ := (HV.out.below HR.out.2).at hlt
      have e0 := hc 0 _ rfl
      rw [show KP.W = 1 from rfl, Nat.mul_one, Nat.add_zero] at e0
      have hp := HS.out _ (List.getElem_mem hlt)
      have TK : Hid ((l.take (k + 1)).map (fun p => (T.n p).name) = (l.take k).map (fun p => (T.n p).name) ++ [(T.n l[k]).name]) := by
        show _ = _
        rw [List.take_add_one, List.getElem?_eq_getElem hlt, Option.toList_some, List.map_append]; rfl
      obtain ⟨p, hpe⟩ : ∃ p, p = l[k] := ⟨_, rfl⟩
      rw [← hpe] at e0 hp TK
      have hT := H.out.below HR.out.2
      obtain ⟨c0, c1, c2, c3⟩ := hT.cells
      obtain ⟨Y, cap, hnv, hcap, hY, fz, n0, n1, n5, n6, n7, wp, wc, n8, ow⟩ := hT.nd hp
      rw [hnv] at c1
      have hnl := H.out.nl
      have hfz := own_frozen HR.out.1 k
      have hin : wr.cell? ⟨w.heap.size, k, none⟩ = some (.string ByteArray.empty) := by
        obtain ⟨X', o', e', _, hc'⟩ := (HR.out.1.gs KS_ok.len).at (k := k) (by simp; omega)
        injection e' with e'
        injection e' with e1 e2 _
        subst e1 e2
        have := hc' 0 _ rfl
        rw [show KS.W = 1 from rfl, Nat.mul_one, Nat.zero_add, Nat.add_zero] at this
        rw [this, List.getElem_append_right (by simp; omega), List.getElem_replicate]
      have N1 : Hid (OwnG KS (wr.setCell ⟨w.heap.size, k, none⟩ (.string (T.n p).name)) w.heap.size (.slice (some ⟨w.heap.size, 0, none⟩) l.length l.length) ((l.take (k + 1)).map (fun p => (T.n p).name) ++ List.replicate (l.length - (k + 1)) ByteArray.empty) ∧ Below w.heap.size w (wr.setCell ⟨w.heap.size, k, none⟩ (.string (T.n p).name))) := by
        obtain ⟨r3, r4⟩ := HR.out
        refine ⟨?_, r4.setCell (p := ⟨w.heap.size, k, none⟩) (Nat.le_refl _) _⟩
        have := ks_set r3 k (T.n p).name
        have hkl : ((l.take k).map (fun p => (T.n p).name)).length = k := by simp; omega
        have e9 := fill_set ((l.take k).map (fun p => (T.n p).name)) ByteArray.empty (T.n p).name (l.length - k) (by omega)
        rw [hkl] at e9
        rw [e9] at this
        rw [TK.out, show l.length - (k + 1) = l.length - k - 1 by omega]
        exact this
      clear n1 n5 n6 n7 n8 ow hnv hpe hc fz HR hT c0 c2 c3 TK
      generalize hz : T.ns.length = N at *
      generalize (T.n p).name = nm at *
      clear hz
      go_wp2
      go_roundw
      case rel => exact ⟨k + 1, _, by omega, by go_num, rfl, N1⟩
      case measure => simp [intOf]; omega
    · have HE : Hid (OwnG KS wr w.heap.size (.slice (some ⟨w.heap.size, 0, none⟩) l.length l.length) (l.map (fun p => (T.n p).name)) ∧ Below w.heap.size w wr) := by
        obtain ⟨r3, r4⟩ := HR.out
        rw [List.take_of_length_le (by omega)] at r3
        rw [show l.length - k = 0 by omega, List.replicate_zero, List.append_nil] at r3
        exact ⟨r3, r4⟩
      clear HR
      go_wp2
      go_ret
      exact ⟨rfl, HE.out⟩
set_option maxHeartbeats 4000000 in
theorem order_any (w : World) (b cb mb : Nat) (nv ov : Value) (L : List NM) (T : Tr) (h : TX w b cb mb nv ov L T) (hs : ∀ p ∈ T.od, p < T.ns.length) :
    Calls Tryd.prog 9 #[.pointer (some ⟨b, 0, none⟩)] w fun e w' => e = .returned (.slice (some ⟨w.heap.size, 0, none⟩) T.od.length T.od.length) ∧ OwnG KS w' w.heap.size (.slice (some ⟨w.heap.size, 0, none⟩) T.od.length T.od.length) (T.od.map (fun p => (T.n p).name)) ∧ Below w.heap.size w w' := by
  obtain ⟨c0, c1, c2, c3⟩ := h.cells
  have NO := hid (namesOf_any w b cb mb nv ov L T h ov T.od (h.or.gs KP_ok.len) hs (by have := h.ol; omega))
  clear h hs c0 c1 c2
  go_enter Tryd.func9, Tryd.ntmps9
  go_wp2_with (go_at_call 24; refine NO.out.mono ?_; rintro e w' ⟨rfl, hq⟩)
  go_ret
  exact ⟨rfl, hq⟩
set_option maxHeartbeats 8000000 in
set_option maxRecDepth 100000 in
theorem names_any (w : World) (b cb mb : Nat) (nv ov : Value) (L : List NM) (T : Tr) (h : TX w b cb mb nv ov L T) :
    Calls Tryd.prog 19 #[.pointer (some ⟨b, 0, none⟩)] w fun e w' => e = .returned (.slice (some ⟨w.heap.size, 0, none⟩) T.ns.length T.ns.length) ∧ OwnG KS w' w.heap.size (.slice (some ⟨w.heap.size, 0, none⟩) T.ns.length T.ns.length) T.nms ∧ Below w.heap.size w w' := by
  obtain ⟨c0, c1, c2, c3⟩ := h.cells
  have H := hid h
  obtain ⟨pn, cn, hnv, hcn⟩ := h.nr.form
  rw [h.ll] at hnv hcn
  subst hnv
  have hnl := h.nl
  have HN : Hid (T.nms.length = T.ns.length) := nms_len T
  clear h c0 c2 c3
  generalize hz : T.ns.length = N at *
  have HZ := hid hz
  clear hz
  go_enter Tryd.func19, Tryd.ntmps19
  go_wp2_with (at_make; refine make_g KS KS_ok ByteArray.empty rfl rfl _ rfl _ _ 26 rfl Tryd.underlying26 N rfl rfl (by omega) (by decide) ?_; intro w1 ho1 hb1; obtain ⟨d0, d1, d2, d3⟩ := (H.out.below hb1).cells)
  have O1 : Hid (OwnG KS w1 w.heap.size (.slice (some ⟨w.heap.size, 0, none⟩) N N) (List.replicate N ByteArray.empty) ∧ Below w.heap.size w w1) := ⟨ho1, hb1⟩
  clear ho1 hb1
  go_loopw [17] (fun i wr => ∃ (k : Nat) (wk : World), k ≤ N ∧ i = .int .i64 k ∧ wk = wr ∧ Hid (OwnG KS wk w.heap.size (.slice (some ⟨w.heap.size, 0, none⟩) N N) (T.nms.take k ++ List.replicate (N - k) ByteArray.empty) ∧ Below w.heap.size w wk)) (fun i _ => N - (intOf i).toNat)
  case atStart => exact ⟨0, w1, Nat.zero_le _, rfl, rfl, ⟨O1.out.1, O1.out.2⟩⟩
  case round =>
    obtain ⟨k, wr, hk, rfl, rfl, HR⟩ := hrel
    clear O1 d0 d1 d2 d3
    by_cases hlt : k < N
    · have hT := H.out.below HR.out.2
      obtain ⟨Y, cap, hnv, hcap, hY, fz, n0, n1, n5, n6, n7, wp, wc, n8, ow⟩ := hT.nd (p := k) (by rw [HZ.out]; exact hlt)
      injection hnv with hnv _ hcc
      subst hnv
      have a0 := n1 0 (by omega)
      have a1 := n1 1 (by omega)
      have a2 := n1 2 (by omega)
      have a3 := n1 3 (by omega)
      rw [Nat.add_zero] at a0
      have hfz := own_frozen HR.out.1 k
      have hin : wr.cell? ⟨w.heap.size, k, none⟩ = some (.string ByteArray.empty) := by
        obtain ⟨X', o', e', _, hc'⟩ := (HR.out.1.gs KS_ok.len).at (k := k) (by have := HN.out; simp; omega)
        injection e' with e'
        injection e' with e1 e2 _
        subst e1 e2
        have := hc' 0 _ rfl
        rw [show KS.W = 1 from rfl, Nat.mul_one, Nat.zero_add, Nat.add_zero] at this
        rw [this, List.getElem_append_right (by have := HN.out; simp; omega), List.getElem_replicate]
      have hws : w.heap.size < wr.heap.size := block_lt_of_cell hin
      have N1 : Hid (∀ ob, OwnG KS ((wr.setCell ⟨w.heap.size, k, none⟩ (.string (T.n k).name)).alloc ob) w.heap.size (.slice (some ⟨w.heap.size, 0, none⟩) N N) (T.nms.take (k + 1) ++ List.replicate (N - (k + 1)) ByteArray.empty) ∧ Below w.heap.size w ((wr.setCell ⟨w.heap.size, k, none⟩ (.string (T.n k).name)).alloc ob)) := fun ob => by
        obtain ⟨r3, r4⟩ := HR.out
        have r5 := r4.setCell (p := ⟨w.heap.size, k, none⟩) (Nat.le_refl _) (.string (T.n k).name)
        refine ⟨?_, r5.alloc r5.size _⟩
        refine OwnG.below ?_ ((Below.refl _ _).alloc (Nat.le_refl _) _)
        have := ks_set r3 k (T.n k).name
        have hkl : (T.nms.take k).length = k := by have := HN.out; simp; omega
        have e9 := fill_set (T.nms.take k) ByteArray.empty (T.n k).name (N - k) (by omega)
        rw [hkl] at e9
        rw [e9] at this
        have tk : T.nms.take (k + 1) = T.nms.take k ++ [(T.n k).name] := by rw [List.take_add_one, nms_at (by rw [HZ.out]; exact hlt), Option.toList_some]
        rw [tk, show N - (k + 1) = N - k - 1 by omega]
        exact this
      clear n1 ow HR hT fz hcc hcap
      generalize (T.n k).name = nm at *
      generalize (T.n k).ab = ab at *
      generalize (T.n k).til = tl at *
      generalize rkOf T.od k = rk at *
      generalize (T.n k).bw = bw at *
      generalize (T.n k).why.length = wl at *
      go_wp2
      go_roundw
      case rel => exact ⟨k + 1, _, by omega, by go_num, rfl, hid (N1.out _)⟩
      case measure => simp [intOf]; omega
    · have HE : Hid (OwnG KS wr w.heap.size (.slice (some ⟨w.heap.size, 0, none⟩) N N) T.nms ∧ Below w.heap.size w wr) := by
        obtain ⟨r3, r4⟩ := HR.out
        rw [List.take_of_length_le (by have := HN.out; omega)] at r3
        rw [show N - k = 0 by omega, List.replicate_zero, List.append_nil] at r3
        exact ⟨r3, r4⟩
      clear HR
      go_wp2
      go_ret
      exact ⟨rfl, HE.out⟩
/-- What Done answers. -/
def dnA (od : List Nat) : Option Nat → Array Value
  | some p => #[.bool (decide (p ∈ od)), .int .i64 0]
  | none => #[.bool false, .int .i64 4]
set_option maxHeartbeats 4000000 in
theorem done_any (w : World) (b cb mb : Nat) (nv ov : Value) (L : List NM) (T : Tr) (h : TX w b cb mb nv ov L T) (s : ByteArray) (hs : s.size ≤ maxLen) :
    Calls Tryd.prog 17 #[.pointer (some ⟨b, 0, none⟩), .string s] w fun e w' => e = .returned (.tuple (dnA T.od (plO T.nms s))) ∧ w' = w := by
  have FD := find_any w b cb mb nv ov L T h s hs
  cases hp : plO T.nms s with
  | none =>
    rw [hp] at FD
    have FD2 : Hid (Calls Tryd.prog 25 #[.pointer (some ⟨b, 0, none⟩), .string s] w fun e w' => e = .returned (.tuple #[.int .i64 0, .int .i64 4]) ∧ w' = w) := FD
    clear FD hp h
    go_enter Tryd.func17, Tryd.ntmps17
    go_wp2_with (go_at_call 25; refine FD2.out.mono ?_; rintro e w2 ⟨rfl, hw2⟩; subst w2)
    go_ret2
    exact ⟨rfl, rfl⟩
  | some p =>
    rw [hp] at FD
    have FD2 : Hid (Calls Tryd.prog 25 #[.pointer (some ⟨b, 0, none⟩), .string s] w fun e w' => e = .returned (.tuple #[.int .i64 (p : Nat), .int .i64 0]) ∧ w' = w) := FD
    have DN := hid (isDone_any w b cb mb nv ov L T h p (plO_some hp).1)
    clear FD hp h
    obtain ⟨d, hd⟩ : ∃ d, d = decide (p ∈ T.od) := ⟨_, rfl⟩
    have HD : Hid (dnA T.od (some p) = #[.bool d, .int .i64 0]) := by rw [hd]; rfl
    rw [← hd] at DN
    clear hd
    go_enter Tryd.func17, Tryd.ntmps17
    go_wp2_with (first | (go_at_call 25; refine FD2.out.mono ?_; rintro e w2 ⟨rfl, hw2⟩; subst w2) | (go_at_call 26; refine DN.out.mono ?_; rintro e w2 ⟨rfl, hw2⟩; subst w2))
    go_ret2
    exact ⟨by rw [HD.out]; rfl, rfl⟩
end Go.Proofs.YtkebflllbphkkaaDoor
namespace Go.Proofs.YtkebflllbphkkaaDoor
open Go.RowKit

theorem But.set {w : World} (b o : Nat) (u : Value) : But (fun x => x = b) w (w.setCell ⟨b, o, none⟩ u) :=
  ⟨rfl, rfl, rfl, by simp [World.setCell], fun x _ hn => Below.heap_setCell _ _ _ _ hn⟩
theorem But.weak {F G : Nat → Prop} {a b : World} (h : But F a b) (k : ∀ x, F x → G x) : But G a b := ⟨h.os, h.tape, h.output, h.size, fun x hx hn => h.block x hx (fun q => hn (k x q))⟩
theorem But.drewN {F : Nat → Prop} {a b : World} (h : But F a b) (n : Nat) : But F a (b.drewN n) := ⟨h.os, h.tape, h.output, h.size, h.block⟩
theorem But.drew {F : Nat → Prop} {a b : World} (h : But F a b) : But F a b.drew := ⟨h.os, h.tape, h.output, h.size, h.block⟩
/-- What is in the footprint stays in it, or is new. -/
def Fr (w : World) (F F' : Nat → Prop) : Prop := ∀ x, F' x → F x ∨ w.heap.size ≤ x
theorem Fr.refl (w : World) (F : Nat → Prop) : Fr w F F := fun _ hx => Or.inl hx
theorem Fr.trans {w w' : World} {F G H : Nat → Prop} (h : Fr w F G) (k : Fr w' G H) (hs : w.heap.size ≤ w'.heap.size) : Fr w F H := fun x hx => by
  rcases k x hx with q | q
  · exact h x q
  · exact Or.inr (Nat.le_trans hs q)
theorem TX.nv_ne {w : World} {b cb mb : Nat} {nv ov : Value} {L : List NM} {T : Tr} (h : TX w b cb mb nv ov L T) {X : Nat} (hX : nv.ownBlock = some X) : X ≠ b ∧ X ≠ cb ∧ X ≠ mb ∧ ov.ownBlock ≠ some X := by
  obtain ⟨c, hc⟩ := h.nr.ty hX
  refine ⟨?_, ?_, ?_, fun q => ?_⟩
  · rintro rfl
    rw [h.tr] at hc
    injection hc with hc
    injection hc with _ hc _
    exact absurd hc (by decide)
  · rintro rfl
    rw [h.ck] at hc
    injection hc with hc
    injection hc with _ hc _
    exact absurd hc (by decide)
  · rintro rfl
    obtain ⟨D, ⟨es, cl, h1, _⟩, _⟩ := h.mp
    rw [h1] at hc
    injection hc with hc
    cases hc
  · exact h.or.apart h.nr (by decide) hX q
theorem TX.ov_ne {w : World} {b cb mb : Nat} {nv ov : Value} {L : List NM} {T : Tr} (h : TX w b cb mb nv ov L T) {X : Nat} (hX : ov.ownBlock = some X) : X ≠ b ∧ X ≠ cb ∧ X ≠ mb ∧ nv.ownBlock ≠ some X := by
  obtain ⟨c, hc⟩ := h.or.ty hX
  refine ⟨?_, ?_, ?_, fun q => ?_⟩
  · rintro rfl
    rw [h.tr] at hc
    injection hc with hc
    injection hc with _ hc _
    exact absurd hc (by decide)
  · rintro rfl
    rw [h.ck] at hc
    injection hc with hc
    injection hc with _ hc _
    exact absurd hc (by decide)
  · rintro rfl
    obtain ⟨D, ⟨es, cl, h1, _⟩, _⟩ := h.mp
    rw [h1] at hc
    injection hc with hc
    cases hc
  · exact h.nr.apart h.or (by decide) hX q
theorem TX.b_ne {w : World} {b cb mb : Nat} {nv ov : Value} {L : List NM} {T : Tr} (h : TX w b cb mb nv ov L T) : cb ≠ b ∧ mb ≠ b ∧ mb ≠ cb := by
  refine ⟨?_, ?_, ?_⟩
  · rintro rfl
    have := h.tr
    rw [h.ck] at this
    injection this with this
    injection this with _ this _
    exact absurd this (by decide)
  · rintro rfl
    obtain ⟨D, ⟨es, cl, h1, _⟩, _⟩ := h.mp
    have := h.tr
    rw [h1] at this
    injection this with this
    cases this
  · rintro rfl
    obtain ⟨D, ⟨es, cl, h1, _⟩, _⟩ := h.mp
    have := h.ck
    rw [h1] at this
    injection this with this
    cases this
/-- Cells of one token are others. -/
theorem TX.nset {w w' : World} {b cb mb : Nat} {nv ov : Value} {L : List NM} {T U : Tr} (h : TX w b cb mb nv ov L T) {X : Nat} (hX : nv.ownBlock = some X) (k : But (fun x => x = X) w w') {p : Nat} (hp : p < T.ns.length) (x : NM) (hr : OwnG KN w' 0 nv (L.set p x))
    (u1 : U.now = T.now) (u2 : U.od = T.od) (u3 : U.ns.length = T.ns.length) (u4 : U.nms = T.nms) (u5 : ∀ a, a ≠ p → U.n a = T.n a) (u6 : NR w' T.od p x (U.n p)) (u7 : ∀ k, (U.n p).ab k < 18446744073709551616) : TX w' b cb mb nv ov (L.set p x) U := by
  obtain ⟨n1, n2, n3, n4⟩ := h.nv_ne hX
  have ok : OkF w (fun x => x = X) := fun y hy => h.okF y (by subst hy; exact Or.inr (Or.inr (Or.inr (Or.inl hX))))
  refine ⟨(k.block b (lt_of_heap h.tr) (fun e => n1 e.symm)).trans h.tr, by rw [u1]; exact (k.block cb (lt_of_heap h.ck) (fun e => n2 e.symm)).trans h.ck, hr, by rw [u2]; exact h.or.far (fun g hg => k.block g (h.or.lt hg).2 (fun e => n4 (by rw [← e]; exact hg))), by rw [u3, u4]; exact h.mp.far (k.block mb h.mp.lt (fun e => n3 e.symm)), by rw [List.length_set, u3]; exact h.ll, fun a ha => ?_, by rw [u3]; exact h.nl, by rw [u2]; exact h.ol, fun a j ha => ?_⟩
  · rw [u2]
    have hpl : p < L.length := by rw [h.ll]; exact hp
    by_cases e : a = p
    · subst e
      have : (L.set a x).getD a NM0 = x := by simp [List.getD, hpl]
      rw [this]; exact u6
    · have : (L.set p x).getD a NM0 = L.getD a NM0 := by simp [List.getD, Ne.symm e]
      rw [this, u5 a e]
      rw [u3] at ha
      exact (h.lr a ha).keep k ok
  · by_cases e : a = p
    · subst e; exact u7 j
    · rw [u5 a e]; rw [u3] at ha; exact h.wd a j ha
theorem TX.getL {w : World} {b cb mb : Nat} {nv ov : Value} {L : List NM} {T : Tr} (h : TX w b cb mb nv ov L T) {p : Nat} (hp : p < T.ns.length) : ∃ hl : p < L.length, NR w T.od p L[p] (T.n p) := by
  have hl : p < L.length := by rw [h.ll]; exact hp
  have := h.lr p hp
  rw [show L.getD p NM0 = L[p] by simp [List.getD, hl]] at this
  exact ⟨hl, this⟩
/-- Behind the two stores and the append of end. -/
theorem end_tx {w w2 w3 : World} {b cb mb X n cap : Nat} {ov : Value} {L : List NM} {T : Tr} (h : TX w b cb mb (.slice (some ⟨X, 0, none⟩) n cap) ov L T) {p q : Nat} (hp : p < T.ns.length) (hn : p ∉ T.od) (hol : T.od.length < 256)
    (k2 : But (fun x => x = X) w w2) (x : NM) (hx : ∃ hl : p < L.length, x = { L[p] with rk := T.od.length, bw := q }) (hr : OwnG KN w2 0 (.slice (some ⟨X, 0, none⟩) n cap) (L.set p x))
    (ov' : Value) (ho : OwnG KP w3 0 ov' (T.od ++ [p])) (k3 : But (fun x => ov.ownBlock = some x) w2 w3) (hov : ∀ g, ov'.ownBlock = some g → ov.ownBlock = some g ∨ w2.heap.size ≤ g) :
    ∃ L', TX (w3.setCell ⟨b, 3, none⟩ ov') b cb mb (.slice (some ⟨X, 0, none⟩) n cap) ov' L' (endT T p q) ∧ But (fp b cb mb (.slice (some ⟨X, 0, none⟩) n cap) ov) w (w3.setCell ⟨b, 3, none⟩ ov') ∧ Fr w (fp b cb mb (.slice (some ⟨X, 0, none⟩) n cap) ov) (fp b cb mb (.slice (some ⟨X, 0, none⟩) n cap) ov') := by
  obtain ⟨hl, hx⟩ := hx
  obtain ⟨n1, n2, n3, n4⟩ := h.nv_ne (X := X) rfl
  obtain ⟨b1, b2, b3⟩ := h.b_ne
  have sub : ∀ x, (x = X ∨ ov.ownBlock = some x ∨ x = b) → fp b cb mb (.slice (some ⟨X, 0, none⟩) n cap) ov x := by
    rintro y (rfl | hy | rfl)
    · exact Or.inr (Or.inr (Or.inr (Or.inl rfl)))
    · exact Or.inr (Or.inr (Or.inr (Or.inr hy)))
    · exact Or.inl rfl
  have kA : But (fp b cb mb (.slice (some ⟨X, 0, none⟩) n cap) ov) w (w3.setCell ⟨b, 3, none⟩ ov') :=
    ((k2.weak (fun y hy => sub y (Or.inl hy))).trans k3 (fun y hy => Or.inl (sub y (Or.inr (Or.inl hy))))).trans (But.set b 3 ov') (fun y hy => Or.inl (sub y (Or.inr (Or.inr hy))))
  have hov2 : ∀ g, ov'.ownBlock = some g → g ≠ b ∧ g ≠ cb ∧ g ≠ mb ∧ g ≠ X := fun g hg => by
    have hz := k2.size
    rcases hov g hg with q | q
    · obtain ⟨m1, m2, m3, m4⟩ := h.ov_ne q
      exact ⟨m1, m2, m3, fun e => m4 (by rw [e]; rfl)⟩
    · have l1 := lt_of_heap h.tr
      have l2 := lt_of_heap h.ck
      have l3 := h.mp.lt
      have l4 := (h.nr.lt (g := X) rfl).2
      exact ⟨by omega, by omega, by omega, by omega⟩
  have sz2 : w.heap.size ≤ w2.heap.size := k2.size
  have st2 : ∀ y, y < w.heap.size → y ≠ X → ov.ownBlock ≠ some y → w3.heap[y]? = w.heap[y]? := fun y hy hyX hyo => (k3.block y (by omega) hyo).trans (k2.block y hy hyX)
  have nov : ∀ y, y = b ∨ y = cb ∨ y = mb → ov.ownBlock ≠ some y := by
    rintro y hy e
    obtain ⟨m1, m2, m3, _⟩ := h.ov_ne e
    rcases hy with q | q | q
    · exact m1 q
    · exact m2 q
    · exact m3 q
  have h3b : w3.heap[b]? = some (.cells #[.pointer (some ⟨cb, 0, none⟩), .slice (some ⟨X, 0, none⟩) n cap, .map (some mb), ov] 62) := (st2 b (lt_of_heap h.tr) (fun e => n1 e.symm) (nov b (Or.inl rfl))).trans h.tr
  have hcn := endT_cn hp hn q
  refine ⟨L.set p x, ⟨?_, ?_, ?_, ?_, ?_, by rw [List.length_set, endT_len]; exact h.ll, fun a ha => ?_, by rw [endT_len]; exact h.nl, by show (T.od ++ [p]).length ≤ 256; simp; omega, fun a j ha => ?_⟩, kA, fun y hy => ?_⟩
  · rw [heap_setCell_same w3 b 3 _ _ _ h3b]; rfl
  · rw [Below.heap_setCell _ _ _ _ b1]
    exact (st2 cb (lt_of_heap h.ck) (fun e => n2 e.symm) (nov cb (Or.inr (Or.inl rfl)))).trans h.ck
  · refine OwnG.far hr (fun g hg => ?_)
    injection hg with hg
    have : X = g := hg
    subst this
    rw [Below.heap_setCell _ _ _ _ n1]
    exact k3.block X ((hr.lt (g := X) rfl).2) (fun e => n4 e)
  · exact ho.far (fun g hg => Below.heap_setCell _ _ _ _ (hov2 g hg).1)
  · rw [endT_len, hcn.nms]
    refine h.mp.far ?_
    rw [Below.heap_setCell _ _ _ _ b2]
    exact st2 mb h.mp.lt (fun e => n3 e.symm) (nov mb (Or.inr (Or.inr rfl)))
  · rw [endT_len] at ha
    have ok : OkF w (fp b cb mb (.slice (some ⟨X, 0, none⟩) n cap) ov) := h.okF
    have hra := (h.lr a ha).keep kA ok
    rw [endT_n hp]
    show NR _ (T.od ++ [p]) a _ _
    by_cases e : a = p
    · subst e
      have e1 : (L.set a x).getD a NM0 = x := by simp [List.getD, hl]
      have e2 : L.getD a NM0 = L[a] := by simp [List.getD, hl]
      rw [e2] at hra
      rw [e1, if_pos rfl, hx]
      exact ⟨hra.name, hra.ab, hra.til, by show T.od.length = _; rw [rkOf_snoc hn, if_pos rfl], rfl, hra.why⟩
    · have e1 : (L.set p x).getD a NM0 = L.getD a NM0 := by simp [List.getD, Ne.symm e]
      rw [e1, if_neg e]
      exact ⟨hra.name, hra.ab, hra.til, by rw [rkOf_snoc hn, if_neg e]; exact hra.rk, hra.bw, hra.why⟩
  · rw [hcn.ab]; rw [endT_len] at ha; exact h.wd a j ha
  · rcases hy with q | q | q | q | q
    · exact Or.inl (Or.inl q)
    · exact Or.inl (Or.inr (Or.inl q))
    · exact Or.inl (Or.inr (Or.inr (Or.inl q)))
    · exact Or.inl (Or.inr (Or.inr (Or.inr (Or.inl q))))
    · rcases hov y q with r | r
      · exact Or.inl (Or.inr (Or.inr (Or.inr (Or.inr r))))
      · exact Or.inr (by omega)
/-- What a call that changes the tree leaves. -/
def Ts (w : World) (b cb mb : Nat) (nv ov : Value) (w' : World) (U : Tr) : Prop := ∃ nv' ov' L', TX w' b cb mb nv' ov' L' U ∧ But (fp b cb mb nv ov) w w' ∧ Fr w (fp b cb mb nv ov) (fp b cb mb nv' ov')
set_option maxHeartbeats 8000000 in
set_option maxRecDepth 100000 in
theorem end_any (w : World) (b cb mb : Nat) (nv ov : Value) (L : List NM) (T : Tr) (h : TX w b cb mb nv ov L T) (p q : Nat) (hp : p < T.ns.length) (hn : p ∉ T.od) (hol : T.od.length < 256) :
    Calls Tryd.prog 31 #[.pointer (some ⟨b, 0, none⟩), .int .i64 p, .int .i64 q] w fun e w' => e = .returned (.tuple #[]) ∧ Ts w b cb mb nv ov w' (endT T p q) := by
  obtain ⟨c0, c1, c2, c3⟩ := h.cells
  obtain ⟨X, cap, rfl, hcap, hX, fz, n0, n1, n5, n6, n7, wp, wc, n8, ow⟩ := h.nd hp
  obtain ⟨po, co, rfl, hco⟩ := h.or.form
  obtain ⟨hl, hnr⟩ := h.getL hp
  have hnl := h.nl
  have nXb := (h.nv_ne (X := X) rfl).1
  have fzb := h.fz 3
  have hbl := lt_of_heap h.tr
  obtain ⟨x, hx⟩ : ∃ x : NM, x = { L[p] with rk := T.od.length, bw := q } := ⟨_, rfl⟩
  have H := hid h
  have E2 : Hid (∃ hl : p < L.length, x = { L[p] with rk := T.od.length, bw := q }) := ⟨hl, hx⟩
  have W2 : Hid (∀ W : World, W = (w.setCell ⟨X, p * 9 + 6, none⟩ (.int .i64 T.od.length)).drew → But (fun y => y = X) w (W.setCell ⟨X, p * 9 + 7, none⟩ (.int .i64 q)) ∧ OwnG KN (W.setCell ⟨X, p * 9 + 7, none⟩ (.int .i64 q)) 0 (.slice (some ⟨X, 0, none⟩) T.ns.length cap) (L.set p x)) := fun W hW => by
    refine ⟨?_, ?_⟩
    · have h1 : But (fun y => y = X) w W := by rw [hW]; exact (But.set (w := w) X (p * 9 + 6) (.int .i64 T.od.length)).drew
      exact h1.trans (But.set X (p * 9 + 7) (.int .i64 q)) (fun y hy => Or.inl hy)
    · have o1 := h.nr.setW KN_ok.len hl (j := 6) (by decide) { L[p] with rk := T.od.length } (.int .i64 T.od.length) rfl
      have o1' : OwnG KN W 0 (.slice (some ⟨X, 0, none⟩) T.ns.length cap) (L.set p { L[p] with rk := T.od.length }) := by rw [hW]; exact o1
      have o2 := o1'.setW KN_ok.len (k := p) (by rw [List.length_set]; exact hl) (j := 7) (by decide) x (.int .i64 q) (by rw [hx, List.getElem_set_self]; rfl)
      rw [List.set_set] at o2
      exact o2
  obtain ⟨W, hW⟩ : ∃ W, W = (w.setCell ⟨X, p * 9 + 6, none⟩ (.int .i64 T.od.length)).drew := ⟨_, rfl⟩
  have kW : But (fun y => y = X) w W := by rw [hW]; exact (But.set (w := w) X (p * 9 + 6) (.int .i64 T.od.length)).drew
  have tW : W.heap[b]? = w.heap[b]? := kW.block b hbl (fun e => nXb e.symm)
  have c1W : W.cell? ⟨b, 1, none⟩ = some (.slice (some ⟨X, 0, none⟩) T.ns.length cap) := (World.cell?_of_block (w := w) (a := ⟨b, 1, none⟩) tW).trans c1
  have c3W : W.cell? ⟨b, 3, none⟩ = some (.slice po T.od.length co) := (World.cell?_of_block (w := w) (a := ⟨b, 3, none⟩) tW).trans c3
  have oW : OwnG KN W 0 (.slice (some ⟨X, 0, none⟩) T.ns.length cap) (L.set p { L[p] with rk := T.od.length }) := by rw [hW]; exact h.nr.setW KN_ok.len hl (j := 6) (by decide) { L[p] with rk := T.od.length } (.int .i64 T.od.length) rfl
  have fW := own_frozen oW (p * 9 + 7)
  have n7W : W.cell? ⟨X, p * 9 + 7, none⟩ = some (.int .i64 (T.n p).bw) := by
    obtain ⟨X', o', e', _, hc'⟩ := (oW.gs KN_ok.len).at (k := p) (by rw [List.length_set]; exact hl)
    injection e' with e'
    injection e' with e1 e2 _
    subst e1 e2
    have := hc' 7 (.int .i64 L[p].bw) (by rw [List.getElem_set_self]; rfl)
    rw [show KN.W = 9 from rfl, Nat.zero_add] at this
    rw [this, hnr.bw]
  have zW : w.heap.size ≤ W.heap.size := kW.size
  have E3 := hid (W2.out W hW)
  have nOX := (h.nv_ne (X := X) rfl).2.2.2
  have O4 : Hid (OwnG KP (W.setCell ⟨X, p * 9 + 7, none⟩ (.int .i64 q)) 0 (.slice po T.od.length co) T.od) := h.or.far (fun g hg => E3.out.1.block g (h.or.lt hg).2 (fun e => nOX (by rw [← e]; exact hg)))
  have T4 : Hid ((W.setCell ⟨X, p * 9 + 7, none⟩ (.int .i64 q)).heap[b]? = w.heap[b]?) := E3.out.1.block b hbl (fun e => nXb e.symm)
  have NB3 : Hid ((Value.slice po T.od.length co).ownBlock ≠ some b) := fun e => (h.ov_ne e).1 rfl
  have HTR := hid h.tr
  have HLN : Hid ((T.od.length + 1) * KP.B ≤ 140737488355328) := by show (T.od.length + 1) * 8 ≤ _; omega
  have HWq := hid hW
  clear h n0 n1 n5 n8 ow c0 c2 hnr W2 kW tW oW hX hbl nOX hx
  go_enter Tryd.func31, Tryd.ntmps31
  go_wp2
  go_region
  rw [← HWq.out]
  clear HWq c1 c3 n6 n7 fz hW
  go_wp2_with (at_builtin; go_loud (refine append_g KP KP_ok rfl _ _ 51 rfl 0 Tryd.underlying51 (W.setCell ⟨X, p * 9 + 7, none⟩ (.int .i64 q)) _ _ (.slice po T.od.length co) T.od p _ rfl O4.out W.heap.size (by simp) rfl rfl HLN.out (Nat.zero_le _) ?_; intro g3 cap3 w3 ho3 hb3 hk3 hg3; have hb3' : w3.heap[b]? = some (.cells #[.pointer (some ⟨cb, 0, none⟩), .slice (some ⟨X, 0, none⟩) T.ns.length cap, .map (some mb), .slice po T.od.length co] 62) := (hk3 b (by have := T4.out; rw [HTR.out] at this; exact lt_of_heap this) (fun e => NB3.out e.symm)).trans (T4.out.trans HTR.out); have fz3 : w3.frozen? ⟨b, 3, none⟩ = false := (by simp [World.frozen?, hb3']); have c33 : w3.cell? ⟨b, 3, none⟩ = some (.slice po T.od.length co) := (by rw [cell_of_row _ _ _ _ _ _ hb3']; rfl); have K3 : Hid (But (fun x => (Value.slice po T.od.length co).ownBlock = some x) (W.setCell ⟨X, p * 9 + 7, none⟩ (.int .i64 q)) w3) := ⟨hb3.os, hb3.tape, hb3.output, hb3.size, fun x hx hn => hk3 x hx (fun e => hn e.symm)⟩; have G3 := hid hg3; have O3 := hid ho3; clear hb3' hk3 hg3 ho3 hb3))
  go_end0
  obtain ⟨L', t1, t2, t3⟩ := end_tx H.out hp hn hol E3.out.1 x E2.out E3.out.2 _ O3.out K3.out (fun g hg => by
    injection hg with hg
    have : g3 = g := hg
    subst this
    exact G3.out)
  exact ⟨rfl, _, _, L', t1, t2, t3⟩
end Go.Proofs.YtkebflllbphkkaaDoor
