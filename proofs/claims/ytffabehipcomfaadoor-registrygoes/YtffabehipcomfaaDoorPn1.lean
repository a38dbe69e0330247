/- Names: renamed expressions, plain; In and SameTexts over rows of texts. -/
import Derived.Test.YtffabehipcomfaaDoorPs1
import Derived.Test.YtffabehipcomfaaDoorPu4
import Derived.Test.YtffabehipcomfaaDoorPs8
import Derived.BigQuiet
namespace Go.Proofs.YtffabehipcomfaaDoor
open Go.RowKit

/-- A slice of numbers, with an error's number. -/
def AnsI (w w' : World) (e : Ending) (l : List Int) (c : Int) : Prop := ∃ p cap, e = .returned (.tuple #[.slice p l.length cap, .int .i64 c]) ∧ IS w' (.slice p l.length cap) l ∧ Below w.heap.size w w'
end Go.Proofs.YtffabehipcomfaaDoor
namespace Go.Proofs.YtffabehipcomfaaDoor
open Go.RowKit

/-- A row that is filled from the back, as far as r. -/
def qRow (P : List Int) (r : Nat) : List Int := List.replicate r 0 ++ P.drop r
theorem qRow_len (P : List Int) {r : Nat} (h : r ≤ P.length) : (qRow P r).length = P.length := by unfold qRow; simp; omega
theorem qRow_all (P : List Int) : qRow P P.length = List.replicate P.length 0 := by unfold qRow; simp
theorem qRow_zero (P : List Int) : qRow P 0 = P := by unfold qRow; simp
theorem qRow_set (P : List Int) {r : Nat} (h : r < P.length) : (qRow P (r + 1)).set r (P.getD r 0) = qRow P r := by
  unfold qRow
  rw [List.drop_eq_getElem_cons h, List.replicate_succ', List.append_assoc, List.set_append_right _ _ (by simp)]
  simp [List.getD, List.getElem?_eq_getElem h]
end Go.Proofs.YtffabehipcomfaaDoor
namespace Go.Proofs.YtffabehipcomfaaDoor
open Go.RowKit

theorem flat_set {α : Type} {K : RK α} (hf : ∀ x, (K.f x).length = K.W) (x : α) (u : Value) (j : Nat) (hj : j < K.W) : ∀ (l : List α) (k : Nat) (hk : k < l.length), K.f x = (K.f l[k]).set j u → (l.set k x).flatMap K.f = (l.flatMap K.f).set (k * K.W + j) u
  | [], k, hk, _ => by simp at hk
  | y :: r, 0, _, hx => by
    rw [List.set_cons_zero, List.flatMap_cons, List.flatMap_cons, Nat.zero_mul, Nat.zero_add, List.set_append_left _ _ (by rw [hf]; exact hj), hx]; rfl
  | y :: r, k + 1, hk, hx => by
    have ih := flat_set hf x u j hj r k (by simpa using hk) hx
    rw [List.set_cons_succ, List.flatMap_cons, List.flatMap_cons, ih, List.set_append_right _ _ (by rw [hf, Nat.add_mul]; omega), hf]
    congr 2
    rw [Nat.add_mul]; omega
/-- A field of a member written. -/
theorem OwnG.setF {α : Type} {K : RK α} (hf : ∀ x, (K.f x).length = K.W) {w : World} {base g n cap : Nat} {l : List α} (h : OwnG K w base (.slice (some ⟨g, 0, none⟩) n cap) l) {k j : Nat} (hk : k < l.length) (hj : j < K.W) (x : α) (u : Value) (hx : K.f x = (K.f l[k]).set j u) : OwnG K (w.setCell ⟨g, k * K.W + j, none⟩ u) base (.slice (some ⟨g, 0, none⟩) n cap) (l.set k x) := by
  obtain ⟨h1, h2⟩ := h
  rcases h2 with ⟨h2, _⟩ | ⟨g', cp, cur, e1, e2, e3, e4, e5, e6, e7⟩
  · cases h2
  · injection e1 with e1 e8 e9
    injection e1 with e1
    injection e1 with e1 _ _
    subst e1 e9
    refine ⟨RK.flat_len hf _, Or.inr ⟨g, cap, cur.setIfInBounds (k * K.W + j) u, by rw [List.length_set, e8], e2, heap_setCell_same w g (k * K.W + j) cur _ _ e3, by rw [List.length_set]; exact e4, e5, by simpa using e6, ?_⟩⟩
    rw [List.length_set, flat_set hf x u j hj l k hk hx, ← e7]
    simp [Array.toList_setIfInBounds, List.take_set]
/-- An operation renamed. -/
def ren (f t : ByteArray) (o : Opn) : Opn := if o.kind = 3 ∧ o.text = f then ⟨o.kind, o.n, o.int, t⟩ else o
/-- The first k renamed. -/
def renK (l : List Opn) (f t : ByteArray) (k : Nat) : List Opn := (l.take k).map (ren f t) ++ l.drop k
theorem renK_len (l : List Opn) (f t : ByteArray) (k : Nat) : (renK l f t k).length = l.length := by unfold renK; simp; omega
theorem renK_zero (l : List Opn) (f t : ByteArray) : renK l f t 0 = l := by simp [renK]
theorem renK_all (l : List Opn) (f t : ByteArray) : renK l f t l.length = l.map (ren f t) := by simp [renK]
theorem renK_at (l : List Opn) (f t : ByteArray) {k : Nat} (h : k < l.length) : (renK l f t k)[k]'(by rw [renK_len]; exact h) = l[k] := by
  have e : (renK l f t k)[k]? = some l[k] := by
    unfold renK
    rw [List.getElem?_append_right (by simp; omega)]
    simp [List.getElem?_eq_getElem h, Nat.min_eq_left (Nat.le_of_lt h)]
  have := List.getElem?_eq_getElem (l := renK l f t k) (i := k) (by rw [renK_len]; exact h)
  rw [e] at this
  exact (Option.some.inj this).symm
theorem renK_next (l : List Opn) (f t : ByteArray) {k : Nat} (h : k < l.length) : renK l f t (k + 1) = (renK l f t k).set k (ren f t l[k]) := by
  unfold renK
  rw [List.set_append_right _ _ (by simp; omega)]
  have e : k - ((l.take k).map (ren f t)).length = 0 := by simp; omega
  rw [e, List.drop_eq_getElem_cons h, List.set_cons_zero, List.take_add_one, List.getElem?_eq_getElem h, Option.toList_some, List.map_append, List.append_assoc]
  rfl
theorem renK_same (l : List Opn) (f t : ByteArray) {k : Nat} (h : k < l.length) (hr : ren f t l[k] = l[k]) : renK l f t (k + 1) = renK l f t k := by
  rw [renK_next l f t h, hr]
  have := renK_at l f t h
  rw [← this]
  exact List.set_getElem_self (by rw [renK_len]; exact h)
def renE (l : List Opn) (f t : ByteArray) : Int := if chkO l = 0 then (if nameB f = true ∧ nameB t = true then 0 else 2) else chkO l
def renL (l : List Opn) (f t : ByteArray) : List Opn := if renE l f t = 0 then l.map (ren f t) else []
/-- A row of operations of the call's own, with an error's number. -/
def AnsO (w w' : World) (e : Ending) (l : List Opn) (c : Int) : Prop := ∃ p cap, e = .returned (.tuple #[.slice p l.length cap, .int .i64 c]) ∧ OwnG KO w' w.heap.size (.slice p l.length cap) l ∧ Below w.heap.size w w'
end Go.Proofs.YtffabehipcomfaaDoor
namespace Go.Proofs.YtffabehipcomfaaDoor
open Go.RowKit

theorem ren_kind (f t : ByteArray) (o : Opn) : (ren f t o).kind = o.kind := by unfold ren; split <;> rfl
theorem ren_n (f t : ByteArray) (o : Opn) : (ren f t o).n = o.n := by unfold ren; split <;> rfl
theorem ren_int (f t : ByteArray) (o : Opn) : (ren f t o).int = o.int := by unfold ren; split <;> rfl
theorem ren_text (f t : ByteArray) {o : Opn} (h : o.kind ≠ 3) : (ren f t o).text = o.text := by unfold ren; rw [if_neg (fun e => h e.1)]
theorem ren_text3 (f t : ByteArray) {o : Opn} (h : o.kind = 3) : (ren f t o).text = if o.text = f then t else o.text := by
  unfold ren
  by_cases e : o.text = f
  · rw [if_pos ⟨h, e⟩, if_pos e]
  · rw [if_neg (fun x => e x.2), if_neg e]
theorem ren_opB {f t : ByteArray} {o : Opn} (h : opB o = true) (ht : nameB t = true) : opB (ren f t o) = true := by
  unfold ren
  split
  · rename_i hc
    obtain ⟨h1, h2, h3, _⟩ := opB_parts h
    have e : txB ⟨o.kind, o.n, o.int, t⟩ = true := by
      unfold txB
      show (if otxt o.kind = 1 then true else if otxt o.kind = 2 then nameB t else decide (t.size = 0)) = true
      rw [hc.1, show otxt 3 = 2 by decide, if_neg (by decide), if_pos rfl]; exact ht
    show (isX o.kind && (arB o && inB' o && txB ⟨o.kind, o.n, o.int, t⟩)) = true
    rw [h1, h2, h3, e]; rfl
  · exact h
theorem opA_ren (l : List Opn) (f t : ByteArray) (k : Nat) : opA (l.map (ren f t)) k = ren f t (opA l k) := by
  unfold opA
  have e0 : ren f t op0 = op0 := by unfold ren; rw [if_neg (fun e => absurd e.1 (by decide))]
  rw [List.getD_eq_getElem?_getD, List.getD_eq_getElem?_getD, List.getElem?_map]
  cases l[k]? <;> simp [e0]
theorem nsO_ren (l : List Opn) (f t : ByteArray) : nsO (l.map (ren f t)) = nsO l := by
  unfold nsO
  rw [List.map_map]
  exact List.map_congr_left (fun o _ => ren_n f t o)
theorem ptO_ren (l : List Opn) (f t : ByteArray) (k : Nat) : ptO (l.map (ren f t)) k = ptO l k := by unfold ptO; rw [nsO_ren]
theorem unbK_ren (l : List Opn) (f t : ByteArray) : ∀ k, unbK (l.map (ren f t)) k = unbK l k
  | 0 => rfl
  | k + 1 => by
    rw [unbK, unbK, unbK_ren l f t k, opA_ren, ren_kind]
    by_cases h4 : (opA l k).kind = 4
    · rw [if_pos h4, if_pos h4]
    · rw [if_neg h4, if_neg h4]
      by_cases h19 : (opA l k).kind = 19
      · rw [if_pos h19, if_pos h19]
        refine List.filter_congr (fun u hu => ?_)
        obtain ⟨i, rfl, _, hi, _⟩ := (unbK_mem l k u).1 hu
        unfold bindB p0
        rw [ptO_ren, opA_ren, opA_ren, Int.toNat_natCast, ren_text f t (o := opA l i) (by rw [hi]; decide), ren_text f t (o := opA l k) (by rw [h19]; decide)]
      · rw [if_neg h19, if_neg h19]
theorem nameB_24 {s : ByteArray} (h : nameB s = true) : s.size ≤ 24 := by
  unfold nameB localB at h
  simp only [Bool.and_eq_true, decide_eq_true_eq] at h
  have := h.1.1
  simpa using this
theorem chkO_ren {l : List Opn} {f t : ByteArray} (h : chkO l = 0) (ht : nameB t = true) : chkO (l.map (ren f t)) = 0 := by
  obtain ⟨h1, h2, h3, h4, h5⟩ := chkO_ok h
  obtain ⟨ha, hw⟩ := wholeB_ok h2
  have w1 : wholeB (l.map (ren f t)) = true := by
    unfold wholeB
    refine decide_eq_true ((walkO_iff _ 0 1).2 ⟨fun c hc => ?_, by rw [nsO_ren]; exact hw⟩)
    obtain ⟨o, ho, rfl⟩ := List.mem_map.1 hc
    exact ren_opB (ha o ho) ht
  have w2 : boundB (l.map (ren f t)) = true := by
    unfold boundB at *
    rw [List.length_map, unbK_ren]; exact h3
  have w3 : longB (l.map (ren f t)) = false := by
    have ht4 := nameB_24 ht
    unfold longB at *
    rw [List.any_eq_false] at *
    intro c hc
    obtain ⟨o, ho, rfl⟩ := List.mem_map.1 hc
    have := h4 o ho
    by_cases k3 : o.kind = 3
    · rw [ren_text3 f t k3]
      split
      · simp; omega
      · exact this
    · rw [ren_text f t k3]; exact this
  unfold chkO
  rw [List.length_map, if_neg (by omega), if_pos ⟨w1, w2⟩, if_neg]
  unfold deepO at *
  rw [w3, nsO_ren]
  simp; omega
def sg (f t x : ByteArray) : ByteArray := if x = f then t else x
theorem txL_ren (f t : ByteArray) : ∀ l : List Opn, txL (l.map (ren f t)) 3 = (txL l 3).map (sg f t)
  | [] => rfl
  | o :: r => by
    have ih := txL_ren f t r
    unfold txL at *
    rw [List.map_cons, List.filter_cons, List.filter_cons, ren_kind]
    by_cases h : o.kind = 3
    · have hb : (o.kind == 3) = true := by simpa using h
      rw [if_pos hb, if_pos hb, List.map_cons, List.map_cons, List.map_cons, ih, ren_text3 f t h]; rfl
    · have hb : ¬ (o.kind == 3) = true := by simpa using h
      rw [if_neg hb, if_neg hb, ih]
theorem sg_inj {f t : ByteArray} {L : List ByteArray} (h : t ∉ L) {x y : ByteArray} (hx : x ∈ L) (hy : y ∈ L) (e : sg f t x = sg f t y) : x = y := by
  unfold sg at e
  split at e <;> split at e
  · rename_i a b; rw [a, b]
  · exact absurd (e ▸ hy) h
  · exact absurd (e ▸ hx) h
  · exact e
theorem seenK_sg {f t : ByteArray} {L : List ByteArray} (h : t ∉ L) (k : Nat) {s : ByteArray} (hs : s ∈ L) : seenK (L.map (sg f t)) k (sg f t s) = seenK L k s := by
  unfold seenK
  rw [← List.map_take, List.any_map]
  have : ∀ M : List ByteArray, (∀ x ∈ M, x ∈ L) → (M.any ((fun x => decide (sg f t s = x)) ∘ sg f t)) = M.any fun x => decide (s = x) := fun M => by
    induction M with
    | nil => intro _; rfl
    | cons a r ih =>
      intro hM
      rw [List.any_cons, List.any_cons, ih (fun x hx => hM x (List.mem_cons_of_mem _ hx))]
      congr 1
      show decide (sg f t s = sg f t a) = decide (s = a)
      by_cases e : s = a
      · simp [e]
      · rw [decide_eq_false e, decide_eq_false (fun x => e (sg_inj h hs (hM a (List.mem_cons_self ..)) x))]
  exact this _ (fun x hx => List.mem_of_mem_take hx)
theorem onceL_sg {f t : ByteArray} {L : List ByteArray} (h : t ∉ L) : onceL (L.map (sg f t)) = (onceL L).map (sg f t) := by
  unfold onceL
  rw [List.length_map]
  have : ∀ k, k ≤ L.length → keepK (L.map (sg f t)) ByteArray.empty (fun k => seenK (L.map (sg f t)) k ((L.map (sg f t)).getD k ByteArray.empty)) k = (keepK L ByteArray.empty (fun k => seenK L k (L.getD k ByteArray.empty)) k).map (sg f t) := fun k => by
    induction k with
    | zero => intro _; rfl
    | succ k ih =>
      intro hk
      have e1 : (L.map (sg f t)).getD k ByteArray.empty = sg f t (L.getD k ByteArray.empty) := by
        rw [List.getD_eq_getElem?_getD, List.getD_eq_getElem?_getD, List.getElem?_map, List.getElem?_eq_getElem (by omega)]; rfl
      have e2 : L.getD k ByteArray.empty ∈ L := by
        rw [List.getD_eq_getElem?_getD, List.getElem?_eq_getElem (by omega)]; exact List.getElem_mem _
      rw [keepK, keepK, ih (by omega), e1, seenK_sg h k e2]
      split
      · rfl
      · rw [List.map_append]; rfl
  exact this _ (Nat.le_refl _)
theorem onceL_mem {L : List ByteArray} {x : ByteArray} (h : x ∈ L) : x ∈ onceL L := by
  have : ∀ k, k ≤ L.length → ∀ x ∈ L.take k, x ∈ keepK L ByteArray.empty (fun k => seenK L k (L.getD k ByteArray.empty)) k := fun k => by
    induction k with
    | zero => intro _ x hx; simp at hx
    | succ k ih =>
      intro hk x hx
      have hk2 : k < L.length := by omega
      have e1 : L.getD k ByteArray.empty = L[k] := by simp [List.getD, List.getElem?_eq_getElem hk2]
      rw [keepK, e1]
      rw [List.take_succ_eq_append_getElem hk2, List.mem_append, List.mem_singleton] at hx
      by_cases hs : seenK L k L[k] = true
      · rw [if_pos hs]
        rcases hx with hx | hx
        · exact ih (by omega) x hx
        · unfold seenK at hs
          rw [List.any_eq_true] at hs
          obtain ⟨y, hy, hxy⟩ := hs
          rw [hx, of_decide_eq_true hxy]
          exact ih (by omega) y hy
      · rw [if_neg hs, List.mem_append, List.mem_singleton]
        rcases hx with hx | hx
        · exact Or.inl (ih (by omega) x hx)
        · exact Or.inr hx
  exact this _ (Nat.le_refl _) x (by rw [List.take_length]; exact h)
theorem textsL_ren {l : List Opn} {f t : ByteArray} (h : t ∉ textsL l 3) : textsL (l.map (ren f t)) 3 = (textsL l 3).map (sg f t) := by
  unfold textsL at *
  rw [txL_ren, onceL_sg (fun e => h (onceL_mem e))]
theorem ren_back {l : List Opn} {f t : ByteArray} (h : t ∉ textsL l 3) : (l.map (ren f t)).map (ren t f) = l := by
  rw [List.map_map]
  conv => rhs; rw [← List.map_id l]
  refine List.map_congr_left (fun o ho => ?_)
  show ren t f (ren f t o) = o
  by_cases hc : o.kind = 3 ∧ o.text = f
  · have e : ren f t o = ⟨o.kind, o.n, o.int, t⟩ := by unfold ren; rw [if_pos hc]
    rw [e]
    unfold ren
    rw [if_pos ⟨hc.1, rfl⟩, ← hc.2]
  · have e : ren f t o = o := by unfold ren; rw [if_neg hc]
    rw [e]
    unfold ren
    rw [if_neg]
    rintro ⟨k3, rfl⟩
    refine h (onceL_mem ?_)
    unfold txL
    exact List.mem_map.2 ⟨o, List.mem_filter.2 ⟨ho, by simpa using k3⟩, rfl⟩
theorem inB_iff (L : List ByteArray) (s : ByteArray) : inB L s = true ↔ s ∈ L := by
  unfold inB
  rw [List.any_eq_true]
  constructor
  · rintro ⟨x, hx, e⟩
    rw [bytes_beq, decide_eq_true_eq] at e
    exact e ▸ hx
  · intro h
    exact ⟨s, h, by simp⟩
set_option maxHeartbeats 4000000 in
theorem inG_any (v : Value) (L : List ByteArray) (s : ByteArray) (w : World) (h : GS KS w v L) (hlm : L.length ≤ 1000000000000000) :
    Calls Tryd.prog 50 #[v, .string s] w fun e w' => e = .returned (.bool (inB L s)) ∧ w' = w := by
  obtain ⟨p, cap, rfl⟩ := h.form
  have HS : Hid (GS KS w (.slice p L.length cap) L) := h
  clear h
  go_enter Tryd.func50, Tryd.ntmps50
  go_wp2
  go_loop [5] (fun i => ∃ k : Nat, k ≤ L.length ∧ i = .int .i64 k ∧ Hid (inB L s = inB (L.drop k) s)) (fun i => L.length - (intOf i).toNat)
  case atStart => exact ⟨0, Nat.zero_le _, rfl, rfl⟩
  case round =>
    obtain ⟨k, hkl, rfl, HR⟩ := hrel
    by_cases hlt : k < L.length
    · obtain ⟨X, o, rfl, hc⟩ := HS.out.atS hlt
      cases ht : (L[k].toList == s.toList)
      · go_wp2
        go_round
        case rel => exact ⟨k + 1, by omega, by go_num, by show _ = _; rw [HR.out, inB_miss hlt ht]⟩
        case measure => simp [intOf]; omega
      · go_wp2
        go_ret
        exact ⟨ret_bool (inB_hit hlt ht).symm, rfl⟩
    · go_wp2
      go_ret
      exact ⟨ret_bool (by rw [HR.out, inB_end (by omega)]), rfl⟩
set_option maxHeartbeats 4000000 in
theorem sameTextsG (w : World) (v1 v2 : Value) (P : List ByteArray) (h1 : GS KS w v1 P) (h2 : GS KS w v2 P) (hl : P.length ≤ 100000000000000000) :
    Calls Tryd.prog 28 #[v1, v2] w fun e w' => e = .returned (.bool true) ∧ ∃ n, w' = w.drewN n := by
  obtain ⟨p1, c1, rfl⟩ := h1.form
  obtain ⟨p2, c2, rfl⟩ := h2.form
  have A1 : Hid (GS KS w (.slice p1 P.length c1) P) := h1
  have A2 : Hid (GS KS w (.slice p2 P.length c2) P) := h2
  clear h1 h2
  go_enter Tryd.func28, Tryd.ntmps28
  go_wp2
  go_loopw [5] (fun i wr => ∃ k n : Nat, k ≤ P.length ∧ i = .int .i64 k ∧ wr = w.drewN n) (fun i _ => P.length - (intOf i).toNat)
  case atStart => exact ⟨0, 0, Nat.zero_le _, rfl, rfl⟩
  case round =>
    obtain ⟨k, n, hk, rfl, rfl⟩ := hrel
    by_cases hlt : k < P.length
    · obtain ⟨X1, o1, rfl, a1⟩ := A1.out.atS hlt
      obtain ⟨X2, o2, rfl, a2⟩ := A2.out.atS hlt
      generalize P[k] = y at *
      go_wp2
      go_quiet (fail)
      go_wp2
      all_goals
        go_roundw
        case rel => exact ⟨k + 1, _, by omega, by go_num, rfl⟩
        case measure => simp [intOf]; omega
    · go_wp2
      go_ret
      exact ⟨rfl, n, rfl⟩
end Go.Proofs.YtffabehipcomfaaDoor
