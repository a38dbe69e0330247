/- Registry: Users. -/
import Derived.Test.YtffabehipcomfaaDoorRa5
import Derived.Test.YtffabehipcomfaaDoorQa7
namespace Go.Proofs.YtffabehipcomfaaDoor
open Go.RowKit Go.Maps

set_option maxHeartbeats 4000000 in
theorem index_s (v : Value) (L : List ByteArray) (s : ByteArray) (w : World) (h : GS KS w v L) (hlm : L.length ≤ 1000000000000000) :
    Calls Tryd.prog 77 #[v, .string s] w fun e w' => ∃ i : Int, e = .returned (.int .i64 i) ∧ ((i = -1 ∧ inB L s = false) ∨ (0 ≤ i ∧ inB L s = true)) ∧ w' = w := by
  obtain ⟨p, cap, rfl⟩ := h.form
  have HS : Hid (GS KS w (.slice p L.length cap) L) := h
  clear h
  go_enter Tryd.func77, Tryd.ntmps77
  go_wp2
  go_loop [8] (fun i => ∃ k : Nat, k ≤ L.length ∧ i = .int .i64 k ∧ Hid (inB L s = inB (L.drop k) s)) (fun i => L.length - (intOf i).toNat)
  case atStart => exact ⟨0, Nat.zero_le _, rfl, rfl⟩
  case round =>
    obtain ⟨k, hkl, rfl, HR⟩ := hrel
    by_cases hlt : k < L.length
    · obtain ⟨X, o, rfl, hc⟩ := HS.out.atS hlt
      cases ht : (L[k].toList == s.toList)
      · have ht2 : (s.toList == L[k].toList) = false := by
          have : ¬ L[k].toList = s.toList := by simpa using ht
          simpa using Ne.symm this
        go_wp2
        go_round
        case rel => exact ⟨k + 1, by omega, by go_num, by show _ = _; rw [HR.out, inB_miss hlt ht]⟩
        case measure => simp [intOf]; omega
      · have ht2 : (s.toList == L[k].toList) = true := by
          have : L[k].toList = s.toList := by simpa using ht
          simpa using this.symm
        go_wp2
        go_ret
        exact ⟨_, rfl, Or.inr ⟨by omega, inB_hit hlt ht⟩, rfl⟩
    · go_wp2
      go_ret
      exact ⟨_, rfl, Or.inl ⟨rfl, by rw [HR.out, inB_end (by omega)]⟩, rfl⟩
theorem contains_s (v : Value) (L : List ByteArray) (s : ByteArray) (w : World) (h : GS KS w v L) (hlm : L.length ≤ 1000000000000000) :
    Calls Tryd.prog 56 #[v, .string s] w fun e w' => e = .returned (.bool (inB L s)) ∧ w' = w := by
  have IX := hidr (index_s v L s w h hlm)
  obtain ⟨p, cap, rfl⟩ := h.form
  clear h
  generalize inB L s = b at *
  go_enter Tryd.func56, Tryd.ntmps56
  go_wp2_with fail
  refine IX.out.mono ?_
  rintro e w1 ⟨i, rfl, h, rfl⟩
  rcases h with ⟨rfl, rfl⟩ | ⟨hi, rfl⟩
  · go_wp2_with fail
    go_ret
    exact ⟨rfl, rfl⟩
  · go_wp2_with fail
    go_ret
    exact ⟨ret_bool (by simp), rfl⟩
def asksB (p : Prv) (s : ByteArray) : Bool := inB (askL p.ops 3) s
theorem askL_len {l : List Opn} (h : l.length ≤ 1000000) : (askL l 3).length ≤ 1000000 := by
  unfold askL
  split
  · have := textsL_len l 3; omega
  · simp
set_option maxHeartbeats 4000000 in
theorem asks_any (p : Prv) (ve : Value) (s : ByteArray) (w : World) (h : PS w p ve) (hv : NV w) (hl : p.ops.length ≤ 1000000) :
    Calls Tryd.prog 41 #[prvV p ve, .string s] w fun e w' => e = .returned (.bool (asksB p s)) ∧ Below w.heap.size w w' := by
  have AL : Hid (∀ ob, Below w.heap.size w (w.alloc ob)) := fun ob => balr w ob
  have AK : Hid (∀ w1, Below w.heap.size w w1 → _) := fun w1 b => asked_any ve p.ops w1 (h.os.below b) h.tx (hv.below b) (by omega)
  have PX : Hid (PBx (w.alloc (.cells (prvC p ve) 37)) w.heap.size p ve) := heap_alloc_new _ _
  have PY : Hid (∀ w1, PBx w1 w.heap.size p ve → _) := fun w1 h => PBx.cells h
  have LL := hidr (askL_len hl)
  have RB : Hid (asksB p s = inB (askL p.ops 3) s) := rfl
  obtain ⟨pe, ce, hve⟩ := h.os.form
  subst hve
  generalize asksB p s = rb at *
  obtain ⟨nm, ops, ag, ⟨pt, pb, pf, pc⟩, ck, ct⟩ := p
  simp only [prvV, prvC] at *
  generalize askL ops 3 = A at *
  clear h hv hl
  go_enter Tryd.func41, Tryd.ntmps41
  obtain ⟨y0, y1, y2, y3, y4, y5, y6, y7, y8⟩ := PY.out _ PX.out
  go_wp2_with fail
  refine (AK.out _ (AL.out _)).mono ?_
  rintro e w1 ⟨q, c, rfl, ho, hb⟩
  have CT := hidr (contains_s _ A s w1 (ho.gs KS_ok.len) (by have := LL.out; omega))
  have B1 := hidr (blr (AL.out _) hb)
  clear ho hb y0 y1 y2 y3 y4 y5 y6 y7 y8 AK PX PY
  generalize A.length = n at *
  go_wp2_with fail
  refine CT.out.mono ?_
  rintro e w2 ⟨rfl, rfl⟩
  go_wp2_with fail
  go_ret
  exact ⟨ret_bool RB.out.symm, B1.out⟩
set_option maxHeartbeats 4000000 in
theorem rmiss_any (w : World) {base r m : Nat} {vs : Value} {L : List Pvx} {fz : Bool} (h : GX w base r m vs L fz) (hv : NV w) :
    Calls Tryd.prog 30 #[.pointer (some ⟨r, 0, none⟩)] w fun e w' => ∃ p c, e = .returned (.slice p (misL (pL L)).length c) ∧ OwnG KS w' w.heap.size (.slice p (misL (pL L)).length c) (misL (pL L)) ∧ Below w.heap.size w w' := by
  obtain ⟨c0, c1, c2, _⟩ := h.cells
  have MI := hidr (missing_any vs L w h.pr hv)
  obtain ⟨p, c, rfl⟩ := h.form
  generalize misL (pL L) = M at *
  generalize setF (pL L) = F at *
  clear h hv
  go_enter Tryd.func30, Tryd.ntmps30
  go_wp2_with fail
  refine MI.out.mono ?_
  rintro e w1 ⟨q, cq, rfl, ho, hb⟩
  have HO := hidr (And.intro (ho.below (balr w1 (.cells #[.int .i64 F.1, .int .i64 F.2] 83))) (blr hb (balr w1 (.cells #[.int .i64 F.1, .int .i64 F.2] 83))))
  clear ho hb
  go_wp2_with fail
  go_ret
  exact ⟨_, _, rfl, HO.out⟩
end Go.Proofs.YtffabehipcomfaaDoor
namespace Go.Proofs.YtffabehipcomfaaDoor
open Go.RowKit Go.Maps

/-- Who asks for it. -/
def usersL (L : List Prv) (s : ByteArray) : List ByteArray := (L.filter fun p => asksB p s).map (·.name)
theorem usersL_next {L : List Prv} {k : Nat} (h : k < L.length) (s : ByteArray) : usersL (L.take (k + 1)) s = usersL (L.take k) s ++ (if asksB L[k] s = true then [L[k].name] else []) := by
  unfold usersL
  rw [List.take_succ_eq_append_getElem h, List.filter_append, List.map_append]
  by_cases e : asksB L[k] s = true <;> simp [e]
theorem usersL_len (L : List Prv) (s : ByteArray) : (usersL L s).length ≤ L.length := by unfold usersL; rw [List.length_map]; exact List.length_filter_le _ _
set_option maxHeartbeats 8000000 in
theorem users_any (s : ByteArray) (w : World) {base r m : Nat} {vs : Value} {L : List Pvx} {fz : Bool} (h : GX w base r m vs L fz) (hv : NV w) :
    Calls Tryd.prog 29 #[.pointer (some ⟨r, 0, none⟩), .string s] w fun e w' => ∃ p c, e = .returned (.slice p (usersL (pL L) s).length c) ∧ OwnG KS w' w.heap.size (.slice p (usersL (pL L) s).length c) (usersL (pL L) s) ∧ Below w.heap.size w w' := by
  have hln := h.ln
  have HX := hidr h
  obtain ⟨p, c, rfl⟩ := h.form
  obtain ⟨n, hn⟩ : ∃ n, n = L.length := ⟨_, rfl⟩
  have c0 : w.cell? ⟨r, 0, none⟩ = some (.slice p n c) := by rw [hn]; exact h.cells.1
  have RO : Hid (∀ w', Below w.heap.size w w' → ∀ k (hk : k < L.length), ∃ X o, p = some ⟨X, o, none⟩ ∧ _) := fun w' b k hk => ((HX.out.below b).own.gs KP_ok.len).atP hk
  have AK : Hid (∀ w', Below w.heap.size w w' → ∀ k (hk : k < L.length), Calls Tryd.prog 41 #[prvV L[k].p L[k].v, .string s] w' fun e w2 => e = .returned (.bool (asksB L[k].p s)) ∧ Below w'.heap.size w' w2) := fun w' b k hk => asks_any L[k].p L[k].v s w' ((HX.out.below b).ps _ (List.getElem_mem hk)) (hv.below b) (by have := chk_len (h.ok _ (List.getElem_mem hk)); omega)
  have UN : Hid (∀ k (hk : k < L.length), usersL ((pL L).take (k + 1)) s = usersL ((pL L).take k) s ++ (if asksB L[k].p s = true then [L[k].p.name] else [])) := fun k hk => by
    have := usersL_next (L := pL L) (k := k) (by rw [pL_len]; exact hk) s
    rw [pL_at hk] at this; exact this
  have UL : Hid (∀ k, (usersL ((pL L).take k) s).length ≤ 256) := fun k => by
    have h1 := usersL_len ((pL L).take k) s
    have h2 := List.length_take_le k (pL L)
    have h3 := List.length_take_le' k (pL L)
    rw [pL_len] at h3
    show _ ≤ _
    omega
  have U0 : Hid (usersL ((pL L).take 0) s = []) := by show _ = _; simp [usersL]
  have UF : Hid (usersL ((pL L).take n) s = usersL (pL L) s) := by show _ = _; rw [List.take_of_length_le (by rw [pL_len]; omega)]
  have HN := hidr hn
  clear h hn hv
  go_enter Tryd.func29, Tryd.ntmps29
  go_wp2_with fail
  go_loopw [5, 13] (fun v5 v13 wr => ∃ (k : Nat) (vu : Value) (wk : World), v13 = .int .i64 k ∧ vu = v5 ∧ wk = wr ∧ k ≤ n ∧ Hid (OwnG KS wk w.heap.size vu (usersL ((pL L).take k) s)) ∧ Hid (Below w.heap.size w wk)) (fun _ v13 _ => n - (intOf v13).toNat)
  case atStart => exact ⟨0, _, _, rfl, rfl, rfl, Nat.zero_le _, by rw [U0.out]; exact OwnG.nil _ _ _, Below.refl _ _⟩
  case round =>
    obtain ⟨k, vu, wr, rfl, rfl, rfl, hk, HO, HB⟩ := hrel
    by_cases hlt : k < n
    · have hkl : k < L.length := by rw [← HN.out]; exact hlt
      obtain ⟨X, o, e1, x0, x1, x2, x3, x4, x5, x6, x7, x8⟩ := RO.out wr HB.out k hkl
      obtain rfl : p = some ⟨X, o, none⟩ := e1
      have A1 := hidr (fun ob => AK.out (wr.alloc ob) (blr HB.out (balr wr ob)) k hkl)
      have U1 := hidr (UN.out k hkl)
      have L1 := hidr (UL.out k)
      have PX : Hid (PBx (wr.alloc (.cells (prvC L[k].p L[k].v) 37)) wr.heap.size L[k].p L[k].v) := heap_alloc_new _ _
      have PY : Hid (∀ w1, PBx w1 wr.heap.size L[k].p L[k].v → _) := fun w1 h => PBx.cells h
      generalize L[k] = y at *
      generalize usersL ((pL L).take k) s = U at *
      obtain ⟨⟨nm, ops, ag, ⟨pt, pb, pf, pc⟩, ck, ct⟩, q, cq⟩ := y
      simp only [prvV, prvC, Pvx.v] at *
      obtain ⟨y0, y1, y2, y3, y4, y5, y6, y7, y8⟩ := PY.out _ PX.out
      clear RO AK UN UL U0 UF HX
      go_wp2_with fail
      refine (A1.out _).mono ?_
      rintro e w2 ⟨rfl, hb⟩
      have B2 := hidr (blr (balr wr _) hb)
      have P2 := hidr (PBx.below PX.out hb)
      clear hb y0 y1 y2 y3 y4 y5 y6 y7 y8 x0 x1 x2 x3 x4 x5 x6 x7 x8 A1
      obtain ⟨y0, y1, y2, y3, y4, y5, y6, y7, y8⟩ := PY.out _ P2.out
      have O2 := hidr (HO.out.below B2.out)
      generalize asksB _ s = b at *
      cases b with
      | false =>
        go_wp2_with fail
        go_roundw
        case rel => exact ⟨k + 1, _, _, by go_num, rfl, rfl, by omega, by rw [U1.out, if_neg (by decide), List.append_nil]; exact O2.out, blr HB.out B2.out⟩
        case measure => simp [intOf]; omega
      | true =>
        have LS : Hid ((U.length + 1) * KS.B ≤ 140737488355328) := by show (U.length + 1) * 16 ≤ _; have := L1.out; omega
        have Z2 : Hid (w.heap.size ≤ w2.heap.size) := Nat.le_trans HB.out.size B2.out.size
        go_wp2_with (at_builtin; refine append_g KS KS_ok rfl _ _ 50 rfl w.heap.size Tryd.underlying50 w2 _ _ vu U nm _ rfl O2.out _ rfl rfl rfl LS.out Z2.out ?_; intro g8 c8 w8 o8 b8 k8 q8; have N8 := hidr (And.intro o8 b8); clear o8 b8 k8 q8)
        go_roundw
        case rel => exact ⟨k + 1, _, _, by go_num, rfl, rfl, by omega, by (have e2 := U1.out); simp only [if_true] at e2; rw [e2]; exact N8.out.1, (HB.out.trans (B2.out.mono HB.out.size)).trans N8.out.2⟩
        case measure => simp [intOf]; omega
    · obtain rfl : k = n := by omega
      go_wp2_with fail
      go_ret
      have h1 := HO.out
      rw [UF.out] at h1
      obtain ⟨q, cq, e, _⟩ := h1.form
      subst e
      exact ⟨q, cq, rfl, h1, HB.out⟩
end Go.Proofs.YtffabehipcomfaaDoor
