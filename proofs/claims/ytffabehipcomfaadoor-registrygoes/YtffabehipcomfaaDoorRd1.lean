/- Registry, the document's side: Find, Names, Missing, Users. -/
import Derived.Test.YtffabehipcomfaaDoorRa8
import Derived.Test.YtffabehipcomfaaDoorQa9
namespace Go.Proofs.YtffabehipcomfaaDoor
open Go.RowKit Go.Maps

/-- The document's registry in a box. -/
def YB (w : World) (b : Nat) (v : Value) (fz : Bool) : Prop := w.heap[b]? = some (.cells #[v, .bool fz] 26)
theorem YB.below {w w' : World} {b : Nat} {v : Value} {fz : Bool} (h : YB w b v fz) (k : Below w.heap.size w w') : YB w' b v fz := (k.block b (lt_heap h)).trans h
theorem YB.cells {w : World} {b : Nat} {v : Value} {fz : Bool} (h : YB w b v fz) : w.cell? ⟨b, 0, none⟩ = some v ∧ w.cell? ⟨b, 1, none⟩ = some (.bool fz) ∧ ∀ o, w.frozen? ⟨b, o, none⟩ = false :=
  ⟨cell_of_row _ _ _ _ _ _ h, cell_of_row _ _ _ _ _ _ h, fun o => by unfold YB at h; simp [World.frozen?, h]⟩
theorem toList_inj9 {x y : ByteArray} (h : x.toList = y.toList) : x = y := by
  rw [ByteArray.toList_eq, ByteArray.toList_eq] at h
  cases x; cases y
  simp only [ByteArray.mk.injEq]
  exact Array.toList_inj.1 h
set_option maxHeartbeats 4000000 in
theorem rfind_any (v : Value) (L : List Pvx) (fz : Bool) (s : ByteArray) (w : World) (h : PR w v L) (hl : L.length ≤ 256) :
    Calls Tryd.prog 33 #[.agg #[v, .bool fz], .string s] w fun e w' => e = .returned (.tuple #[.int .i64 (fndN (nameL (pL L)) s : Nat), .int .i64 (fndE (nameL (pL L)) s)]) ∧ Below w.heap.size w w' := by
  obtain ⟨p, c, rfl⟩ := h.gs.form
  have Y0 : Hid (YB (w.alloc (.cells #[.slice p L.length c, .bool fz] 26)) w.heap.size (.slice p L.length c) fz) := heap_alloc_new _ _
  have CL : Hid (∀ k (hk : k < L.length), ∃ X o, p = some ⟨X, o, none⟩ ∧ ∀ ob, (w.alloc ob).cell? ⟨X, o + k * 9, none⟩ = some (.string L[k].p.name)) := fun k hk => by
    obtain ⟨X, o, e1, x0, _⟩ := h.gs.atP hk
    exact ⟨X, o, e1, fun ob => ((balr w ob).cell (p := ⟨X, o + k * 9, none⟩) (block_lt_of_cell x0)).trans x0⟩
  have AL : Hid (∀ ob, Below w.heap.size w (w.alloc ob)) := fun ob => balr w ob
  have NA : Hid (∀ k (hk : k < L.length), (nameL (pL L))[k]'(by rw [nameL_len]; exact hk) = L[k].p.name) := fun k hk => by unfold nameL pL; simp
  have NL : Hid ((nameL (pL L)).length = L.length) := by show _ = _; rw [nameL_len]
  obtain ⟨n, hn⟩ : ∃ n, n = L.length := ⟨_, rfl⟩
  have HN := hidr hn
  rw [← hn] at Y0 hl ⊢
  clear h hn
  obtain ⟨c0, c1, _⟩ := Y0.out.cells
  go_enter Tryd.func33, Tryd.ntmps33
  go_wp2_with fail
  go_loopw [6] (fun v6 wr => ∃ k : Nat, v6 = .int .i64 k ∧ wr = w.alloc (.cells #[.slice p n c, .bool fz] 26) ∧ k ≤ n ∧ Hid (∀ j (hj : j < k) (hl : j < L.length), L[j].p.name ≠ s)) (fun v6 _ => n - (intOf v6).toNat)
  case atStart => exact ⟨0, rfl, rfl, Nat.zero_le _, fun j hj => by omega⟩
  case round =>
    obtain ⟨k, rfl, rfl, hk, HJ⟩ := hrel
    by_cases hlt : k < n
    · have hkl : k < L.length := by rw [← HN.out]; exact hlt
      have hk1 : (k : Int) < (n : Int) := by omega
      obtain ⟨X, o, e1, x0⟩ := CL.out k hkl
      obtain rfl : p = some ⟨X, o, none⟩ := e1
      by_cases hs : L[k].p.name = s
      · have RN : Hid (fndN (nameL (pL L)) s = k ∧ fndE (nameL (pL L)) s = 0) := by
          have e := idxN_spec (N := nameL (pL L)) (s := s) (k := k) (by rw [NL.out]; exact hkl) (fun j hj => by rw [NA.out j (by omega)]; exact HJ.out j hj (by omega)) (by rw [NA.out k hkl]; exact hs)
          unfold fndN fndE
          rw [e, NL.out, if_pos hkl, if_pos hkl]
          exact ⟨rfl, rfl⟩
        rw [hs] at x0
        clear CL NA NL HJ
        go_wp2_with fail
        go_ret2
        exact ⟨by rw [RN.out.1, RN.out.2]; rfl, AL.out _⟩
      · have ht : (L[k].p.name.toList == s.toList) = false := by
          have : ¬ L[k].p.name.toList = s.toList := fun q => hs (toList_inj9 q)
          simpa using this
        have HJ2 : Hid (∀ j (hj : j < k + 1) (hl : j < L.length), L[j].p.name ≠ s) := fun j hj hl => by
          by_cases e : j = k
          · subst e; exact hs
          · exact HJ.out j (by omega) hl
        generalize hy : L[k].p.name = y at *
        clear hy CL NA NL HJ hs
        go_wp2_with fail
        go_roundw
        case rel => exact ⟨k + 1, by go_num, by first | rfl | trivial, by omega, HJ2⟩
        case measure => simp [intOf]; omega
    · obtain rfl : k = n := by omega
      have hk1 : ¬ (k : Int) < (k : Int) := by omega
      have RN : Hid (fndN (nameL (pL L)) s = 0 ∧ fndE (nameL (pL L)) s = 4) := by
        have e := idxN_none (N := nameL (pL L)) (s := s) (fun j hj => by rw [NL.out] at hj; rw [NA.out j hj]; exact HJ.out j (by have := HN.out; omega) hj)
        unfold fndN fndE
        rw [e, if_neg (Nat.lt_irrefl _), if_neg (Nat.lt_irrefl _)]
        exact ⟨rfl, rfl⟩
      clear CL NA NL HJ
      go_wp2_with fail
      go_ret2
      exact ⟨by rw [RN.out.1, RN.out.2]; rfl, AL.out _⟩
set_option maxHeartbeats 4000000 in
theorem rnames_any (v : Value) (L : List Pvx) (fz : Bool) (w : World) (h : PR w v L) (hl : L.length ≤ 256) :
    Calls Tryd.prog 36 #[.agg #[v, .bool fz]] w fun e w' => ∃ p c, e = .returned (.slice p (nameL (pL L)).length c) ∧ GS KS w' (.slice p (nameL (pL L)).length c) (nameL (pL L)) ∧ Below w.heap.size w w' := by
  obtain ⟨p, c, rfl⟩ := h.gs.form
  have BA : Hid (Below w.heap.size w ((w.alloc (.cells #[.slice p L.length c, .bool fz] 26)).alloc (.cells #[] 9))) := blr (balr _ _) (balr _ _)
  have Y0 : Hid (YB ((w.alloc (.cells #[.slice p L.length c, .bool fz] 26)).alloc (.cells #[] 9)) w.heap.size (.slice p L.length c) fz) := YB.below (w := w.alloc (.cells #[.slice p L.length c, .bool fz] 26)) (heap_alloc_new _ _) (balr _ _)
  have O0 : Hid (OwnG KS ((w.alloc (.cells #[.slice p L.length c, .bool fz] 26)).alloc (.cells #[] 9)) (w.heap.size + 1) (.slice (some ⟨w.heap.size + 1, 0, none⟩) 0 0) []) := by
    have := OwnG.empty KS (w.alloc (.cells #[.slice p L.length c, .bool fz] 26))
    rw [show (w.alloc (.cells #[.slice p L.length c, .bool fz] 26)).heap.size = w.heap.size + 1 by simp] at this
    exact this
  have HS := hidr h
  have NA : Hid (∀ k (hk : k < L.length), nameL ((pL L).take (k + 1)) = nameL ((pL L).take k) ++ [L[k].p.name]) := fun k hk => by
    show _ = _
    rw [List.take_succ_eq_append_getElem (by rw [pL_len]; exact hk), pL_at hk]
    unfold nameL; rw [List.map_append]; rfl
  have NL : Hid (∀ k, (nameL ((pL L).take k)).length ≤ 256) := fun k => by
    show _ ≤ _
    unfold nameL
    have := List.length_take_le' k (pL L)
    rw [pL_len] at this
    rw [List.length_map]; omega
  have N0 : Hid (nameL ((pL L).take 0) = []) := by show _ = _; simp [nameL]
  obtain ⟨n, hn⟩ : ∃ n, n = L.length := ⟨_, rfl⟩
  have NF : Hid (nameL ((pL L).take n) = nameL (pL L)) := by show _ = _; rw [List.take_of_length_le (by rw [pL_len]; omega)]
  have HN := hidr hn
  rw [← hn] at Y0 BA O0 hl HS ⊢
  clear h hn
  obtain ⟨c0, c1, _⟩ := Y0.out.cells
  go_enter Tryd.func36, Tryd.ntmps36
  go_wp2_with fail
  go_loopw [3, 4] (fun v3 v4 wr => ∃ (k : Nat) (vs : Value) (wk : World), v4 = .int .i64 k ∧ vs = v3 ∧ wk = wr ∧ k ≤ n ∧ Hid (OwnG KS wk (w.heap.size + 1) vs (nameL ((pL L).take k))) ∧ Hid (YB wk w.heap.size (.slice p n c) fz) ∧ Hid (Below w.heap.size w wk)) (fun _ v4 _ => n - (intOf v4).toNat)
  case atStart => exact ⟨0, _, _, rfl, rfl, rfl, Nat.zero_le _, by rw [N0.out]; exact O0, Y0, BA⟩
  case round =>
    obtain ⟨k, vs, wr, rfl, rfl, rfl, hk, HO, HY, HB⟩ := hrel
    clear O0 Y0 BA c0 c1
    obtain ⟨c0, c1, _⟩ := HY.out.cells
    by_cases hlt : k < n
    · have hkl : k < L.length := by rw [← HN.out]; exact hlt
      have hk1 : (k : Int) < (n : Int) := by omega
      obtain ⟨X, o, e1, x0, _⟩ := (HS.out.below HB.out).gs.atP hkl
      obtain rfl : p = some ⟨X, o, none⟩ := e1
      have N1 := hidr (NA.out k hkl)
      have L1 : Hid (((nameL ((pL L).take k)).length + 1) * KS.B ≤ 140737488355328) := by show (_ + 1) * 16 ≤ _; have := NL.out k; omega
      have ZB : Hid (w.heap.size + 1 ≤ wr.heap.size) := Nat.succ_le_of_lt (lt_heap HY.out)
      generalize L[k].p.name = nm at *
      generalize nameL ((pL L).take k) = U at *
      clear NA NL N0 NF
      go_wp2_with (at_builtin; refine append_g KS KS_ok rfl _ _ 50 rfl (w.heap.size + 1) Tryd.underlying50 wr _ _ vs U nm _ rfl HO.out _ rfl rfl rfl L1.out ZB.out ?_; intro g8 c8 w8 o8 b8 k8 q8; have N8 := hidr (And.intro o8 (And.intro (b8.mono (Nat.le_succ w.heap.size)) ((b8.block w.heap.size (by omega)).trans HY.out))); clear o8 b8 k8 q8)
      go_roundw
      case rel => exact ⟨k + 1, _, _, by go_num, rfl, rfl, by omega, by rw [N1.out]; exact N8.out.1, N8.out.2.2, HB.out.trans N8.out.2.1⟩
      case measure => simp [intOf]; omega
    · obtain rfl : k = n := by omega
      have hk1 : ¬ (k : Int) < (k : Int) := by omega
      go_wp2_with fail
      go_ret
      have h1 := HO.out
      rw [NF.out] at h1
      obtain ⟨q, cq, e, _⟩ := h1.form
      subst e
      exact ⟨q, cq, rfl, h1.gs KS_ok.len, HB.out⟩
set_option maxHeartbeats 4000000 in
theorem rmissing2_any (v : Value) (L : List Pvx) (fz : Bool) (w : World) (h : PR w v L) :
    Calls Tryd.prog 37 #[.agg #[v, .bool fz]] w fun e w' => ∃ p c, e = .returned (.slice p (misL (pL L)).length c) ∧ GS KS w' (.slice p (misL (pL L)).length c) (misL (pL L)) ∧ Below w.heap.size w w' := by
  have Y0 : Hid (YB (w.alloc (.cells #[v, .bool fz] 26)) w.heap.size v fz) := heap_alloc_new _ _
  have AL : Hid (∀ ob, Below w.heap.size w (w.alloc ob)) := fun ob => balr w ob
  have MI := hidr (rmissing_any v L (w.alloc (.cells #[v, .bool fz] 26)) (h.below (balr _ _)))
  obtain ⟨p, c, rfl⟩ := h.gs.form
  generalize misL (pL L) = M at *
  generalize setF (pL L) = F at *
  clear h
  obtain ⟨c0, c1, _⟩ := Y0.out.cells
  go_enter Tryd.func37, Tryd.ntmps37
  go_wp2_with fail
  refine MI.out.mono ?_
  rintro e w1 ⟨q, cq, rfl, ho, hb⟩
  have HO := hidr (And.intro ((ho.below (balr w1 (.cells #[.int .i64 F.1, .int .i64 F.2] 83))).gs KS_ok.len) (blr (AL.out (.cells #[.slice p L.length c, .bool fz] 26)) (blr hb (balr w1 (.cells #[.int .i64 F.1, .int .i64 F.2] 83)))))
  clear ho hb
  go_wp2_with fail
  go_ret
  exact ⟨_, _, rfl, HO.out⟩
set_option maxHeartbeats 8000000 in
theorem rusers_any (v : Value) (L : List Pvx) (fz : Bool) (s : ByteArray) (w : World) (h : PR w v L) (hl : L.length ≤ 256) (hops : ∀ x ∈ L, x.p.ops.length ≤ 256) :
    Calls Tryd.prog 38 #[.agg #[v, .bool fz], .string s] w fun e w' => ∃ p c, e = .returned (.slice p (usersL (pL L) s).length c) ∧ GS KS w' (.slice p (usersL (pL L) s).length c) (usersL (pL L) s) ∧ Below w.heap.size w w' := by
  obtain ⟨p, c, rfl⟩ := h.gs.form
  have BA : Hid (Below w.heap.size w ((w.alloc (.cells #[.slice p L.length c, .bool fz] 26)).alloc (.cells #[] 9))) := blr (balr _ _) (balr _ _)
  have Y0 : Hid (YB ((w.alloc (.cells #[.slice p L.length c, .bool fz] 26)).alloc (.cells #[] 9)) w.heap.size (.slice p L.length c) fz) := YB.below (w := w.alloc (.cells #[.slice p L.length c, .bool fz] 26)) (heap_alloc_new _ _) (balr _ _)
  have O0 : Hid (OwnG KS ((w.alloc (.cells #[.slice p L.length c, .bool fz] 26)).alloc (.cells #[] 9)) (w.heap.size + 1) (.slice (some ⟨w.heap.size + 1, 0, none⟩) 0 0) []) := by
    have := OwnG.empty KS (w.alloc (.cells #[.slice p L.length c, .bool fz] 26))
    rw [show (w.alloc (.cells #[.slice p L.length c, .bool fz] 26)).heap.size = w.heap.size + 1 by simp] at this
    exact this
  have HS := hidr h
  have AK : Hid (∀ w', Below w.heap.size w w' → ∀ k (hk : k < L.length), Calls Tryd.prog 49 #[.slice L[k].q L[k].p.ops.length L[k].c] w' fun e w2 => AnsT w' w2 e (askL L[k].p.ops 3) (chkO L[k].p.ops)) := fun w' b k hk => by
    have hp := (HS.out.below b).ps _ (List.getElem_mem hk)
    exact rasked_any L[k].v L[k].p.ops w' hp.os hp.tx (by have := hops _ (List.getElem_mem hk); omega)
  have AKL : Hid (∀ k (hk : k < L.length), (askL L[k].p.ops 3).length ≤ 1000000) := fun k hk => askL_len (by have := hops _ (List.getElem_mem hk); omega)
  have UN : Hid (∀ k (hk : k < L.length), usersL ((pL L).take (k + 1)) s = usersL ((pL L).take k) s ++ (if inB (askL L[k].p.ops 3) s = true then [L[k].p.name] else [])) := fun k hk => by
    have := usersL_next (L := pL L) (k := k) (by rw [pL_len]; exact hk) s
    rw [pL_at hk] at this; exact this
  have UL : Hid (∀ k, (usersL ((pL L).take k) s).length ≤ 256) := fun k => by
    have h1 := usersL_len ((pL L).take k) s
    have h3 := List.length_take_le' k (pL L)
    rw [pL_len] at h3
    show _ ≤ _
    omega
  have U0 : Hid (usersL ((pL L).take 0) s = []) := by show _ = _; simp [usersL]
  obtain ⟨n, hn⟩ : ∃ n, n = L.length := ⟨_, rfl⟩
  have UF : Hid (usersL ((pL L).take n) s = usersL (pL L) s) := by show _ = _; rw [List.take_of_length_le (by rw [pL_len]; omega)]
  have HN := hidr hn
  rw [← hn] at Y0 BA O0 hl HS ⊢
  clear h hn hops
  obtain ⟨c0, c1, _⟩ := Y0.out.cells
  go_enter Tryd.func38, Tryd.ntmps38
  go_wp2_with fail
  go_loopw [5, 6] (fun v5 v6 wr => ∃ (k : Nat) (vu : Value) (wk : World), v6 = .int .i64 k ∧ vu = v5 ∧ wk = wr ∧ k ≤ n ∧ Hid (OwnG KS wk (w.heap.size + 1) vu (usersL ((pL L).take k) s)) ∧ Hid (YB wk w.heap.size (.slice p n c) fz) ∧ Hid (Below w.heap.size w wk)) (fun _ v6 _ => n - (intOf v6).toNat)
  case atStart => exact ⟨0, _, _, rfl, rfl, rfl, Nat.zero_le _, by rw [U0.out]; exact O0, Y0, BA⟩
  case round =>
    obtain ⟨k, vu, wr, rfl, rfl, rfl, hk, HO, HY, HB⟩ := hrel
    clear O0 Y0 BA c0 c1
    obtain ⟨c0, c1, _⟩ := HY.out.cells
    by_cases hlt : k < n
    · have hkl : k < L.length := by rw [← HN.out]; exact hlt
      have hk1 : (k : Int) < (n : Int) := by omega
      obtain ⟨X, o, e1, _, x1, _⟩ := (HS.out.below HB.out).gs.atP hkl
      obtain rfl : p = some ⟨X, o, none⟩ := e1
      have XN := hidr (fun W (b : Below w.heap.size w W) => (HS.out.below b).gs.atP hkl)
      have A1 := hidr (AK.out wr HB.out k hkl)
      have AL1 := hidr (AKL.out k hkl)
      have U1 := hidr (UN.out k hkl)
      have L1 := hidr (UL.out k)
      generalize L[k] = y at *
      generalize usersL ((pL L).take k) s = U at *
      obtain ⟨⟨nm, ops, ag, ⟨pt, pb, pf, pc⟩, ck, ct⟩, q, cq⟩ := y
      simp only at *
      generalize askL ops 3 = A at *
      generalize chkO ops = ce at *
      clear AK AKL UN UL U0 UF
      go_wp2_with fail
      refine A1.out.mono ?_
      rintro e w2 ⟨q2, cq2, rfl, o2, b2⟩
      have IN := hidr (inG_any _ A s w2 (o2.gs KS_ok.len) (by have := AL1.out; omega))
      have B2 := hidr (HB.out.trans (b2.mono HB.out.size))
      have Y2 := hidr (HY.out.below b2)
      have O2 := hidr (HO.out.below b2)
      clear o2 b2 x1 c0 c1 A1 AL1
      obtain ⟨c0, c1, _⟩ := Y2.out.cells
      obtain ⟨X', o', e1, x0, _⟩ := XN.out w2 B2.out
      injection e1 with e1
      injection e1 with e1 e2 _
      subst e1 e2
      have ZB : Hid (w.heap.size + 1 ≤ w2.heap.size) := Nat.succ_le_of_lt (lt_heap Y2.out)
      generalize A.length = na at *
      generalize inB A s = b at *
      go_wp2_with fail
      refine IN.out.mono ?_
      rintro e w3 ⟨rfl, rfl⟩
      cases b with
      | false =>
        go_wp2_with fail
        go_roundw
        case rel => exact ⟨k + 1, _, _, by go_num, rfl, rfl, by omega, by rw [U1.out, if_neg (by decide), List.append_nil]; exact O2, Y2, B2⟩
        case measure => simp [intOf]; omega
      | true =>
        have LS : Hid ((U.length + 1) * KS.B ≤ 140737488355328) := by show (U.length + 1) * 16 ≤ _; have := L1.out; omega
        go_wp2_with (at_builtin; refine append_g KS KS_ok rfl _ _ 50 rfl (w.heap.size + 1) Tryd.underlying50 w3 _ _ vu U nm _ rfl O2.out _ rfl rfl rfl LS.out ZB.out ?_; intro g8 c8 w8 o8 b8 k8 q8; have N8 := hidr (And.intro o8 (And.intro (b8.mono (Nat.le_succ w.heap.size)) ((b8.block w.heap.size (by omega)).trans Y2.out))); clear o8 b8 k8 q8)
        go_roundw
        case rel => exact ⟨k + 1, _, _, by go_num, rfl, rfl, by omega, by (have e2 := U1.out); simp only [if_true] at e2; rw [e2]; exact N8.out.1, N8.out.2.2, B2.out.trans N8.out.2.1⟩
        case measure => simp [intOf]; omega
    · obtain rfl : k = n := by omega
      have hk1 : ¬ (k : Int) < (k : Int) := by omega
      go_wp2_with fail
      go_ret
      have h1 := HO.out
      rw [UF.out] at h1
      obtain ⟨q, cq, e, _⟩ := h1.form
      subst e
      exact ⟨q, cq, rfl, h1.gs KS_ok.len, HB.out⟩
end Go.Proofs.YtffabehipcomfaaDoor
