/- Registry: Names. -/
import Derived.Test.YtffabehipcomfaaDoorRa3
namespace Go.Proofs.YtffabehipcomfaaDoor
open Go.RowKit Go.Maps

def fndN (N : List ByteArray) (s : ByteArray) : Nat := if idxN N s < N.length then idxN N s else 0
def fndE (N : List ByteArray) (s : ByteArray) : Int := if idxN N s < N.length then 0 else 4
set_option maxHeartbeats 4000000 in
theorem find_any (s : ByteArray) (w : World) {base r m : Nat} {vs : Value} {L : List Pvx} {fz : Bool} (h : GX w base r m vs L fz) (hs : s.size ≤ maxLen) :
    Calls Tryd.prog 16 #[.pointer (some ⟨r, 0, none⟩), .string s] w fun e w' => e = .returned (.tuple #[.int .i64 (fndN (nameL (pL L)) s : Nat), .int .i64 (fndE (nameL (pL L)) s)]) ∧ Below w.heap.size w w' := by
  obtain ⟨c0, c1, c2, _⟩ := h.cells
  have LK : Hid (∀ w', Below w.heap.size w w' → (Instr.lookup 64 (.map (some m)) (.string s) true).run Tryd.prog w' = .ok (.tuple #[((numF (nameL (pL L)) s).getD (.int .i64 0)), .bool (numF (nameL (pL L)) s).isSome]) w') := fun w' b => (h.below b).mv.lookOk Tryd.underlying64 (zeroI _) hs
  have k0 := LK.out w (Below.refl _ _)
  have k1 := LK.out w.drew (Below.refl _ _).drew
  have RN : Hid (fndN (nameL (pL L)) s = if idxN (nameL (pL L)) s < (nameL (pL L)).length then idxN (nameL (pL L)) s else 0) := rfl
  have RE : Hid (fndE (nameL (pL L)) s = if idxN (nameL (pL L)) s < (nameL (pL L)).length then 0 else 4) := rfl
  by_cases hlt : idxN (nameL (pL L)) s < (nameL (pL L)).length
  · have e1 : numF (nameL (pL L)) s = some (.int .i64 (idxN (nameL (pL L)) s : Nat)) := by unfold numF; rw [if_pos hlt]
    rw [e1] at k0 k1
    rw [RN.out, RE.out, if_pos hlt, if_pos hlt]
    generalize idxN (nameL (pL L)) s = k at *
    simp only [Option.getD_some, Option.isSome_some] at k0 k1
    clear h LK RN RE e1 hlt
    go_enter Tryd.func16, Tryd.ntmps16
    go_wp2_with fail
    all_goals
      go_ret2
      exact ⟨rfl, Below.refl _ _⟩
  · have e1 : numF (nameL (pL L)) s = none := by unfold numF; rw [if_neg hlt]
    rw [e1] at k0 k1
    rw [RN.out, RE.out, if_neg hlt, if_neg hlt]
    simp only [Option.getD_none, Option.isSome_none] at k0 k1
    clear h LK RN RE e1 hlt
    go_enter Tryd.func16, Tryd.ntmps16
    go_wp2_with fail
    all_goals
      go_ret2
      exact ⟨rfl, Below.refl _ _⟩
theorem len_any (w : World) {base r m : Nat} {vs : Value} {L : List Pvx} {fz : Bool} (h : GX w base r m vs L fz) : Calls Tryd.prog 15 #[.pointer (some ⟨r, 0, none⟩)] w fun e w' => e = .returned (.int .i64 L.length) ∧ w' = w := by
  obtain ⟨c0, c1, c2, _⟩ := h.cells
  obtain ⟨p, c, rfl⟩ := h.form
  clear h
  go_enter Tryd.func15, Tryd.ntmps15
  go_wp2_with fail
  go_ret
  exact ⟨rfl, rfl⟩
theorem frozen_any (w : World) {base r m : Nat} {vs : Value} {L : List Pvx} {fz : Bool} (h : GX w base r m vs L fz) : Calls Tryd.prog 35 #[.pointer (some ⟨r, 0, none⟩)] w fun e w' => e = .returned (.bool fz) ∧ w' = w := by
  obtain ⟨c0, c1, c2, _⟩ := h.cells
  clear h
  go_enter Tryd.func35, Tryd.ntmps35
  go_wp2_with fail
  go_ret
  exact ⟨rfl, rfl⟩
theorem freeze_any (w : World) {base r m : Nat} {vs : Value} {L : List Pvx} {fz : Bool} (h : GX w base r m vs L fz) : Calls Tryd.prog 21 #[.pointer (some ⟨r, 0, none⟩)] w fun e w' => e = .returned (.tuple #[]) ∧ GX w' base r m vs L true ∧ But (FX r m vs) w w' := by
  have F := hidr h.freeze
  obtain ⟨c0, c1, c2, cf⟩ := h.cells
  clear h
  go_enter Tryd.func21, Tryd.ntmps21
  go_wp2_with fail
  go_end0
  exact ⟨rfl, F.out⟩
set_option maxHeartbeats 4000000 in
theorem get_no (n : Int) (w : World) {base r m : Nat} {vs : Value} {L : List Pvx} {fz : Bool} (h : GX w base r m vs L fz) (hn : n < 0 ∨ (L.length : Int) ≤ n) :
    Calls Tryd.prog 17 #[.pointer (some ⟨r, 0, none⟩), .int .i64 n] w fun e w' => e = .returned (.tuple #[.agg zPrv, .int .i64 1]) ∧ Below w.heap.size w w' := by
  have AL : Hid (∀ ob, Below w.heap.size w (w.alloc ob)) := fun ob => balr w ob
  obtain ⟨p, c, rfl⟩ := h.form
  have c0 : ∀ ob, (w.alloc ob).cell? ⟨r, 0, none⟩ = some (.slice p L.length c) := fun ob => (h.below (balr w ob)).cells.1
  obtain ⟨k, hk⟩ : ∃ k, k = L.length := ⟨_, rfl⟩
  rw [← hk] at c0 hn
  clear h hk
  by_cases h0 : n < 0
  · clear hn
    go_enter Tryd.func17, Tryd.ntmps17
    go_wp2_with fail
    refine bodyPost_ret (v := .tuple #[.agg zPrv, .int .i64 1]) (by simp [results, Tryd.results17, go_sem, zPrv]; rfl) rfl ⟨rfl, ?_⟩
    exact AL.out _
  · have h1 : (k : Int) ≤ n := by omega
    clear hn
    go_enter Tryd.func17, Tryd.ntmps17
    go_wp2_with fail
    refine bodyPost_ret (v := .tuple #[.agg zPrv, .int .i64 1]) (by simp [results, Tryd.results17, go_sem, zPrv]; rfl) rfl ⟨rfl, ?_⟩
    exact AL.out _
set_option maxHeartbeats 4000000 in
theorem get_ok (k : Nat) (w : World) {base r m : Nat} {vs : Value} {L : List Pvx} {fz : Bool} (h : GX w base r m vs L fz) (hk : k < L.length) :
    Calls Tryd.prog 17 #[.pointer (some ⟨r, 0, none⟩), .int .i64 k] w fun e w' => ∃ q c, e = .returned (.tuple #[prvV L[k].p (.slice q L[k].p.ops.length c), .int .i64 0]) ∧ OwnG KO w' w.heap.size (.slice q L[k].p.ops.length c) L[k].p.ops ∧ Below w.heap.size w w' := by
  have AL : Hid (∀ ob, Below w.heap.size w (w.alloc ob)) := fun ob => balr w ob
  have hops := chk_len (h.ok _ (List.getElem_mem hk))
  have CP : Hid (∀ W, Below w.heap.size w W → _) := fun W b => copied_any L[k].p L[k].v W ((h.ps _ (List.getElem_mem hk)).below b) (by omega)
  obtain ⟨p, c, rfl⟩ := h.form
  have c0 : ∀ ob, (w.alloc ob).cell? ⟨r, 0, none⟩ = some (.slice p L.length c) := fun ob => (h.below (balr w ob)).cells.1
  obtain ⟨X, o, e1, x0, x1, x2, x3, x4, x5, x6, x7, x8⟩ := (h.own.gs KP_ok.len).atP hk
  subst e1
  have lX := block_lt_of_cell x0
  have h1 : ¬ (L.length : Int) ≤ (k : Int) := by omega
  have h2 : (k : Int) < (L.length : Int) := by omega
  have h3 : ¬ (k : Int) < 0 := by omega
  obtain ⟨n, hn⟩ : ∃ n, n = L.length := ⟨_, rfl⟩
  rw [← hn] at c0 h1 h2
  have XA : Hid (∀ ob o v, w.cell? ⟨X, o, none⟩ = some v → (w.alloc ob).cell? ⟨X, o, none⟩ = some v) := fun ob o v e => ((balr w ob).cell (p := ⟨X, o, none⟩) lX).trans e
  obtain ⟨y, hy⟩ : ∃ y, y = L[k] := ⟨_, rfl⟩
  rw [← hy] at x0 x1 x2 x3 x4 x5 x6 x7 x8 CP
  rw [← hy]
  obtain ⟨⟨nm, ops, ag, ⟨pt, pb, pf, pc⟩, ck, ct⟩, q, cq⟩ := y
  simp only [prvV, Pvx.v] at *
  replace x0 := fun ob => XA.out ob _ _ x0
  replace x1 := fun ob => XA.out ob _ _ x1
  replace x2 := fun ob => XA.out ob _ _ x2
  replace x3 := fun ob => XA.out ob _ _ x3
  replace x4 := fun ob => XA.out ob _ _ x4
  replace x5 := fun ob => XA.out ob _ _ x5
  replace x6 := fun ob => XA.out ob _ _ x6
  replace x7 := fun ob => XA.out ob _ _ x7
  replace x8 := fun ob => XA.out ob _ _ x8
  clear h hn hk hops XA lX hy
  go_enter Tryd.func17, Tryd.ntmps17
  go_wp2_with fail
  refine (CP.out _ (AL.out _)).mono ?_
  rintro e w1 ⟨q1, c1, rfl, ho1, hb1⟩
  have Q1 : Hid (w1.heap[w.heap.size]? = some (.cells zPrv 37)) := (hb1.block w.heap.size (by simp)).trans (heap_alloc_new w (.cells zPrv 37))
  have B1 : Hid (Below w.heap.size w w1) := blr (AL.out _) hb1
  obtain ⟨z0, z1, z2, z3, z4, z5, z6, z7, z8⟩ := zPrv_cells Q1.out
  have fz2 : ∀ o, w1.frozen? ⟨w.heap.size, o, none⟩ = false := fun o => box_frozen Q1.out
  have O1 : Hid (OwnG KO w1 (w.heap.size + 1) (.slice q1 ops.length c1) ops) := ho1.low (by simp)
  clear ho1 hb1 CP x0 x1 x2 x3 x4 x5 x6 x7 x8 c0
  go_wp2_with fail
  refine bodyPost_ret (v := .tuple #[.agg #[.string nm, .slice q1 ops.length c1, .bool ag, .int .i64 pt, .int .i64 pb, .int .i64 pf, .int .i64 pc, .int .i64 ck, .string ct], .int .i64 0]) (by simp [results, Tryd.results17, go_sem, *]) rfl ?_
  refine ⟨q1, c1, rfl, (O1.out.low (by omega)).far (fun g hg => ?_), ?_⟩
  · have hgg := (O1.out.lt hg).1
    repeat rw [set_far (show g ≠ _ by omega)]
  · repeat' refine Below.setCell ?_ (by simp) _
    exact B1.out
end Go.Proofs.YtffabehipcomfaaDoor
namespace Go.Proofs.YtffabehipcomfaaDoor
open Go.RowKit Go.Maps

/-- The names, as far as they are laid. -/
structure NM (w wk : World) (g n : Nat) (N M : List ByteArray) (k : Nat) : Prop where
  own : OwnG KS wk w.heap.size (.slice (some ⟨g, 0, none⟩) n n) M
  ln : M.length = n
  at_ : ∀ j, j < k → M[j]? = N[j]?
  bl : Below w.heap.size w wk
theorem NM.below {w wk W : World} {g n : Nat} {N M : List ByteArray} {k : Nat} (h : NM w wk g n N M k) (hb : Below wk.heap.size wk W) : NM w W g n N M k := ⟨h.own.below hb, h.ln, h.at_, blr h.bl hb⟩
theorem NM.next {w wk W : World} {g n : Nat} {N M : List ByteArray} {k : Nat} {s : ByteArray} (h : NM w wk g n N M k) (hk : k < n) (hs : N[k]? = some s) (hb : Below wk.heap.size wk W) : NM w (W.setCell ⟨g, k, none⟩ (.string s)) g n N (M.set k s) (k + 1) := by
  have o2 := h.own.below hb
  have b2 := blr h.bl hb
  refine ⟨o2.set1 rfl KS_ok.len s _ rfl, by rw [List.length_set]; exact h.ln, fun j hj => ?_, Below.setCell b2 (h.own.lt (g := g) rfl).1 _⟩
  by_cases e : j = k
  · subst e
    rw [List.getElem?_set_self (by rw [h.ln]; exact hk), hs]
  · rw [List.getElem?_set_ne (fun q => e q.symm)]
    exact h.at_ j (by omega)
theorem own_frz {α : Type} {K : RK α} {w : World} {base g n cap : Nat} {l : List α} (h : OwnG K w base (.slice (some ⟨g, 0, none⟩) n cap) l) : ∀ o, w.frozen? ⟨g, o, none⟩ = false := by
  rcases h.2 with ⟨e, _⟩ | ⟨g', cp, cur, e1, _, e3, _⟩
  · cases e
  · injection e1 with e1 _ _
    injection e1 with e1
    injection e1 with e1 _ _
    subst e1
    intro o
    simp [World.frozen?, e3]
set_option maxHeartbeats 4000000 in
theorem names_any (w : World) {base r m : Nat} {vs : Value} {L : List Pvx} {fz : Bool} (h : GX w base r m vs L fz) :
    Calls Tryd.prog 14 #[.pointer (some ⟨r, 0, none⟩)] w fun e w' => ∃ p c, e = .returned (.slice p (nameL (pL L)).length c) ∧ OwnG KS w' w.heap.size (.slice p (nameL (pL L)).length c) (nameL (pL L)) ∧ Below w.heap.size w w' := by
  have hln := h.ln
  have hnl : (nameL (pL L)).length = L.length := by rw [nameL_len]
  have NA : Hid (∀ k (hk : k < L.length), (nameL (pL L))[k]? = some L[k].p.name) := fun k hk => by unfold nameL pL; simp [List.getElem?_eq_getElem hk]
  have HX := hidr h
  obtain ⟨p, c, rfl⟩ := h.form
  obtain ⟨n, hn⟩ : ∃ n, n = L.length := ⟨_, rfl⟩
  have CL : Hid (∀ w', Below w.heap.size w w' → w'.cell? ⟨r, 0, none⟩ = some (.slice p n c)) := fun w' b => by rw [hn]; exact (HX.out.below b).cells.1
  have RO : Hid (∀ w', Below w.heap.size w w' → ∀ k (hk : k < L.length), ∃ X o, p = some ⟨X, o, none⟩ ∧ _) := fun w' b k hk => ((HX.out.below b).own.gs KP_ok.len).atP hk
  have c0 := CL.out w (Below.refl _ _)
  have HN := hidr hn
  rw [hnl, ← hn]
  rw [← hn] at hln hnl
  have HNL := hidr hnl
  generalize nameL (pL L) = N at *
  clear h hn hnl
  go_enter Tryd.func14, Tryd.ntmps14
  go_wp2_with (at_make; refine make_g KS KS_ok ByteArray.empty rfl rfl _ rfl _ _ 50 rfl Tryd.underlying50 n rfl rfl (by omega) (by decide) ?_; intro w1 ho1 hb1; have c1 := CL.out w1 hb1; have N0 : Hid (NM w w1 w.heap.size n N (List.replicate n ByteArray.empty) 0) := ⟨ho1, by simp, fun j hj => by omega, hb1⟩; clear ho1 hb1 c0)
  go_loopw [17] (fun v17 wr => ∃ (k : Nat) (M : List ByteArray) (wk : World), v17 = .int .i64 k ∧ wk = wr ∧ k ≤ n ∧ Hid (NM w wk w.heap.size n N M k)) (fun v17 _ => n - (intOf v17).toNat)
  case atStart => exact ⟨0, _, _, rfl, rfl, Nat.zero_le _, N0⟩
  case round =>
    obtain ⟨k, M, wr, rfl, rfl, hk, HI⟩ := hrel
    clear N0 c1
    by_cases hlt : k < n
    · have hkl : k < L.length := by rw [← HN.out]; exact hlt
      have NX := hidr ((HI.out.next hlt (NA.out k hkl) (Below.refl _ _)))
      have g1 : w.heap.size < wr.heap.size := (HI.out.own.lt (g := w.heap.size) rfl).2
      have ml : k < M.length := by rw [HI.out.ln]; exact hlt
      obtain ⟨u, gc⟩ : ∃ u, wr.cell? ⟨w.heap.size, k, none⟩ = some u := by
        have o2 := HI.out.own
        have hn := HI.out.ln
        rw [← hn] at o2
        obtain ⟨X, o, e1, hc⟩ := (o2.gs KS_ok.len).atS ml
        injection e1 with e1
        injection e1 with e1 e2 _
        subst e1 e2
        rw [Nat.zero_add] at hc
        exact ⟨_, hc⟩
      have gc2 : ∀ ob, (wr.alloc ob).cell? ⟨w.heap.size, k, none⟩ = some u := fun ob => ((balr wr ob).cell (p := ⟨w.heap.size, k, none⟩) g1).trans gc
      have gz : wr.frozen? ⟨w.heap.size, k, none⟩ = false := own_frz HI.out.own k
      have gz2 : ∀ ob, (wr.alloc ob).frozen? ⟨w.heap.size, k, none⟩ = false := fun ob => own_frz (HI.out.own.below (balr wr ob)) k
      clear ml
      obtain ⟨X, o, e1, x0, x1, x2, x3, x4, x5, x6, x7, x8⟩ := RO.out wr HI.out.bl k hkl
      obtain rfl : p = some ⟨X, o, none⟩ := e1
      generalize L[k] = y at *
      obtain ⟨⟨nm, ops, ag, ⟨pt, pb, pf, pc⟩, ck, ct⟩, q, cq⟩ := y
      simp only at x0 x1 x2 x3 x4 x5 x6 x7 x8 NX
      clear NA RO CL HX
      go_wp2_with fail
      go_roundw
      case rel => exact ⟨k + 1, _, _, by go_num, rfl, by omega, NX.out.below (balr _ _)⟩
      case measure => simp [intOf]; omega
    · obtain rfl : k = n := by omega
      go_wp2_with fail
      go_ret
      have hM : M = N := List.ext_getElem? fun j => by
        by_cases hj : j < k
        · exact HI.out.at_ j hj
        · rw [List.getElem?_eq_none (by have := HI.out.ln; omega), List.getElem?_eq_none (by have := HNL.out; omega)]
      subst hM
      exact ⟨_, _, rfl, HI.out.own, HI.out.bl⟩
end Go.Proofs.YtffabehipcomfaaDoor
