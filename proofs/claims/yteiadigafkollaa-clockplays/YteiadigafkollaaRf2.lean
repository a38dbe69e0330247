/- The reference's laid. -/
import Derived.Test.YteiadigafkollaaRf1
namespace Go.Proofs.Yteiadigafkollaa
open Go.RowKit Go.Sort Go.Shelf

theorem OwnT.lower {w : World} {base base' : Nat} {v : Value} {l : List Tm} (h : OwnT w base v l) (hb : base' ≤ base) : OwnT w base' v l := by
  obtain ⟨h1, h2⟩ := h
  refine ⟨h1, ?_⟩
  rcases h2 with h2 | ⟨g, cap, cur, e1, e2, e3⟩
  · exact Or.inl h2
  · exact Or.inr ⟨g, cap, cur, e1, Nat.le_trans hb e2, e3⟩
theorem OwnT.form {w : World} {base : Nat} {v : Value} {l : List Tm} (h : OwnT w base v l) : ∃ p cap, v = .slice p l.length cap := h.rs.form
/-- What laid has made up to i. -/
def LaidI (t : Tm) (L : List Tm) (i : Nat) (dn : Bool) (out : List Tm) : Prop :=
  out.length ≤ i + 1 ∧ ((dn = false ∧ out = L.take i ∧ ∀ x ∈ L.take i, tlt t x = false) ∨ (dn = true ∧ out ++ L.drop i = ins t L))
theorem LaidI.start (t : Tm) (L : List Tm) : LaidI t L 0 false [] := ⟨by simp, Or.inl ⟨rfl, rfl, fun x hx => by simp at hx⟩⟩
theorem LaidI.past {t : Tm} {L : List Tm} {i : Nat} {out : List Tm} (h : LaidI t L i true out) (hi : i < L.length) : LaidI t L (i + 1) true (out ++ [L[i]]) := by
  obtain ⟨h1, ⟨h2, _⟩ | ⟨_, h2⟩⟩ := h
  · cases h2
  · refine ⟨by simp; omega, Or.inr ⟨rfl, ?_⟩⟩
    rw [← h2, List.append_assoc]
    congr 1
    exact (List.drop_eq_getElem_cons hi).symm
theorem LaidI.not {t : Tm} {L : List Tm} {i : Nat} {out : List Tm} (h : LaidI t L i false out) (hi : i < L.length) (ht : tlt t L[i] = false) : LaidI t L (i + 1) false (out ++ [L[i]]) := by
  obtain ⟨h1, ⟨_, h2, h3⟩ | ⟨h2, _⟩⟩ := h
  · refine ⟨by simp; omega, Or.inl ⟨rfl, ?_, ?_⟩⟩
    · rw [h2, List.take_succ_eq_append_getElem hi]
    · intro x hx
      rw [List.take_succ_eq_append_getElem hi, List.mem_append] at hx
      rcases hx with hx | hx
      · exact h3 x hx
      · rw [List.mem_singleton] at hx; subst hx; exact ht
  · cases h2
theorem LaidI.now {t : Tm} {L : List Tm} {i : Nat} {out : List Tm} (h : LaidI t L i false out) (hi : i < L.length) (ht : tlt t L[i] = true) : LaidI t L (i + 1) true (out ++ [t] ++ [L[i]]) := by
  obtain ⟨h1, ⟨_, h2, h3⟩ | ⟨h2, _⟩⟩ := h
  · have hl : out.length ≤ i := by rw [h2]; exact List.length_take_le _ _
    refine ⟨by simp; omega, Or.inr ⟨rfl, ?_⟩⟩
    rw [ins_mid hi h3 ht, h2, List.drop_eq_getElem_cons hi]
    simp
  · cases h2
theorem LaidI.done {t : Tm} {L out : List Tm} (h : LaidI t L L.length true out) : out = ins t L := by
  obtain ⟨h1, ⟨h2, _⟩ | ⟨_, h2⟩⟩ := h
  · cases h2
  · simpa using h2
theorem LaidI.last {t : Tm} {L out : List Tm} (h : LaidI t L L.length false out) : out ++ [t] = ins t L := by
  obtain ⟨h1, ⟨_, h2, h3⟩ | ⟨h2, _⟩⟩ := h
  · rw [List.take_length] at h2 h3
    rw [h2, ins_end h3]
  · cases h2
set_option maxHeartbeats 8000000 in
set_option maxRecDepth 100000 in
theorem laid_any (w : World) (v : Value) (L : List Tm) (t : Tm) (h : RS w v L) (hl : L.length ≤ 2000) :
    Calls Try.prog 45 #[v, .agg #[.int .i64 t.num, .int .i64 t.tm, .int .i64 t.ev]] w fun e w' => ∃ p cap, e = .returned (.slice p (L.length + 1) cap) ∧ OwnT w' w.heap.size (.slice p (L.length + 1) cap) (ins t L) ∧ Below w.heap.size w w' := by
  obtain ⟨p0, c0, rfl⟩ := h.form
  have HR : Hid (RS w (.slice p0 L.length c0) L) := h
  clear h
  have FIN : Hid (∀ w' v', OwnT w' (w.heap.size + 1) v' (ins t L) → Below w.heap.size w w' → ∃ p cap, Ending.returned v' = .returned (.slice p (L.length + 1) cap) ∧ OwnT w' w.heap.size (.slice p (L.length + 1) cap) (ins t L) ∧ Below w.heap.size w w') := by
    intro w' v' ho hb
    obtain ⟨p, cap, rfl⟩ := ho.form
    rw [ins_len] at ho ⊢
    exact ⟨p, cap, rfl, ho.lower (by omega), hb⟩
  have hbx : Hid (∀ ob wk, Below (w.heap.size + 1) (w.alloc ob) wk → Below w.heap.size w wk) := fun ob wk hb => ((Below.refl _ _).alloc (Nat.le_refl _) ob).trans (hb.mono (by omega))
  have BOX : Hid (∀ wk, Below (w.heap.size + 1) (w.alloc (.cells #[.int .i64 t.num, .int .i64 t.tm, .int .i64 t.ev] 47)) wk → wk.cell? ⟨w.heap.size, 0, none⟩ = some (.int .i64 t.num) ∧ wk.cell? ⟨w.heap.size, 1, none⟩ = some (.int .i64 t.tm) ∧ wk.cell? ⟨w.heap.size, 2, none⟩ = some (.int .i64 t.ev)) := by
    intro wk hb
    refine ⟨(hb.cell (p := ⟨w.heap.size, 0, none⟩) (Nat.lt_succ_self _)).trans ?_, (hb.cell (p := ⟨w.heap.size, 1, none⟩) (Nat.lt_succ_self _)).trans ?_, (hb.cell (p := ⟨w.heap.size, 2, none⟩) (Nat.lt_succ_self _)).trans ?_⟩ <;> (rw [cell_of_row _ _ _ _ _ _ (heap_alloc_new w _)]; rfl)
  go_enter Try.func45, Try.ntmps45
  go_wp2
  go_loopw [5, 6, 7] (fun v5 v6 v7 wr => ∃ (i : Nat) (dn : Bool) (vo : Value) (out : List Tm) (wk : World), v7 = .int .i64 i ∧ v6 = .bool dn ∧ vo = v5 ∧ wk = wr ∧ i ≤ L.length ∧ Hid (OwnT wk (w.heap.size + 1) vo out) ∧ Hid (LaidI t L i dn out) ∧ Hid (Below (w.heap.size + 1) (w.alloc (.cells #[.int .i64 t.num, .int .i64 t.tm, .int .i64 t.ev] 47)) wk)) (fun _ _ v7 _ => L.length - (intOf v7).toNat)
  case atStart =>
    refine ⟨0, false, _, [], _, rfl, rfl, rfl, rfl, Nat.zero_le _, ?_, LaidI.start t L, (Below.refl _ _).alloc (by simp) _⟩
    have := ownT_empty (w.alloc (.cells #[.int .i64 t.num, .int .i64 t.tm, .int .i64 t.ev] 47))
    show OwnT _ _ _ _
    simpa using this
  case round =>
    obtain ⟨i, dn, vo, out, wr, rfl, rfl, rfl, rfl, hi, HO, HL, HB⟩ := hrel
    have HBW : Hid (Below w.heap.size w wr) := hbx.out _ _ HB.out
    have hol : out.length ≤ 100000 := by have := HL.out.1; omega
    have HOL : Hid (out.length ≤ 100000) := hol
    have hsz : Hid (w.heap.size + 1 ≤ wr.heap.size) := by have := HB.out.size; simp at this; exact this
    clear hol
    by_cases hlt : i < L.length
    · obtain ⟨X, o, e1, d1, d2, d3⟩ := HR.out.at hlt
      obtain rfl : p0 = some ⟨X, o, none⟩ := e1
      obtain ⟨s, hs⟩ : ∃ s, s = L[i] := ⟨_, rfl⟩
      rw [← hs] at d1 d2 d3
      have HS : Hid (s = L[i]) := hs
      have hX : X < w.heap.size := block_lt_of_cell d1
      have CE : Hid (∀ wk, Below (w.heap.size + 1) (w.alloc (.cells #[.int .i64 t.num, .int .i64 t.tm, .int .i64 t.ev] 47)) wk → wk.cell? ⟨X, o + i * 3, none⟩ = some (.int .i64 s.num) ∧ wk.cell? ⟨X, o + i * 3 + 1, none⟩ = some (.int .i64 s.tm) ∧ wk.cell? ⟨X, o + i * 3 + 2, none⟩ = some (.int .i64 s.ev)) := fun wk hb => by
        have hb2 := hbx.out _ _ hb
        exact ⟨(hb2.cell (p := ⟨X, o + i * 3, none⟩) hX).trans d1, (hb2.cell (p := ⟨X, o + i * 3 + 1, none⟩) hX).trans d2, (hb2.cell (p := ⟨X, o + i * 3 + 2, none⟩) hX).trans d3⟩
      obtain ⟨x1, x2, x3⟩ := CE.out _ HB.out
      clear hs d1 d2 d3
      cases dn with
      | true =>
        go_wp2
        go_quiet (fail)
        have HO2 : Hid (OwnT (wr.drewN nq) (w.heap.size + 1) vo out) := HO.out.below (below_drewN' (Below.refl _ _) _)
        go_wp2_with (at_builtin; refine append_tm rfl (.tmp 29) (.tmp 34) 26 rfl (w.heap.size + 1) Try.underlying26 info_tm _ _ _ vo out s _ rfl HO2.out _ rfl rfl rfl HOL.out hsz.out ?_; intro v8 w8 ho8 hb8)
        go_roundw
        case rel => exact ⟨i + 1, true, _, _, _, by go_num, rfl, rfl, rfl, by omega, ho8, HS.out ▸ HL.out.past hlt, (below_drewN' HB.out _).trans hb8⟩
        case measure => simp [intOf]; omega
      | false =>
        obtain ⟨y1, y2, y3⟩ := BOX.out _ HB.out
        cases hts : tlt t s with
        | false =>
          go_wp2
          go_region_with (go_at_call 54; refine (ahead_any _ t s).mono ?_; rintro e w5 ⟨rfl, hb5⟩)
          all_goals
            have HO2 : Hid (OwnT w5 (w.heap.size + 1) vo out) := (show OwnT wr.drew (w.heap.size + 1) vo out from HO.out).below hb5
            have HB5 : Hid (Below (w.heap.size + 1) (w.alloc (.cells #[.int .i64 t.num, .int .i64 t.tm, .int .i64 t.ev] 47)) w5) := (HB.out.drew).trans (hb5.mono hsz.out)
            have HS5 : Hid (w.heap.size + 1 ≤ w5.heap.size) := Nat.le_trans hsz.out hb5.size
            obtain ⟨z1, z2, z3⟩ := CE.out _ HB5.out
            clear hb5
            go_wp2_with (at_builtin; refine append_tm rfl (.tmp 29) (.tmp 34) 26 rfl (w.heap.size + 1) Try.underlying26 info_tm _ _ _ vo out s _ rfl HO2.out _ rfl rfl rfl HOL.out HS5.out ?_; intro v8 w8 ho8 hb8)
            go_roundw
            case rel => exact ⟨i + 1, false, _, _, _, by go_num, rfl, rfl, rfl, by omega, ho8, HS.out ▸ HL.out.not hlt (HS.out ▸ hts), HB5.out.trans hb8⟩
            case measure => simp [intOf]; omega
        | true =>
          go_wp2
          go_region_with (go_at_call 54; refine (ahead_any _ t s).mono ?_; rintro e w5 ⟨rfl, hb5⟩)
          all_goals
            have HO2 : Hid (OwnT w5 (w.heap.size + 1) vo out) := (show OwnT wr.drew (w.heap.size + 1) vo out from HO.out).below hb5
            have HB5 : Hid (Below (w.heap.size + 1) (w.alloc (.cells #[.int .i64 t.num, .int .i64 t.tm, .int .i64 t.ev] 47)) w5) := (HB.out.drew).trans (hb5.mono hsz.out)
            have HS5 : Hid (w.heap.size + 1 ≤ w5.heap.size) := Nat.le_trans hsz.out hb5.size
            obtain ⟨z1, z2, z3⟩ := BOX.out _ HB5.out
            clear hb5
            go_wp2_with (first | (at_builtin; refine append_tm rfl (.tmp 25) (.tmp 27) 26 rfl (w.heap.size + 1) Try.underlying26 info_tm _ _ _ vo out t _ rfl HO2.out _ rfl rfl rfl HOL.out HS5.out ?_; intro v8 w8 ho8 hb8; have HO8 : Hid (OwnT w8 (w.heap.size + 1) v8 (out ++ [t])) := ho8; have HB8 : Hid (Below (w.heap.size + 1) (w.alloc (.cells #[.int .i64 t.num, .int .i64 t.tm, .int .i64 t.ev] 47)) w8) := HB5.out.trans hb8; have HS8 : Hid (w.heap.size + 1 ≤ w8.heap.size) := Nat.le_trans HS5.out hb8.size; have HOL8 : Hid ((out ++ [t]).length ≤ 100000) := (by have := HL.out.1; show (out ++ [t]).length ≤ 100000; simp; omega); obtain ⟨u1, u2, u3⟩ := CE.out _ HB8.out; clear ho8 hb8) | (at_builtin; refine append_tm rfl (.tmp 29) (.tmp 34) 26 rfl (w.heap.size + 1) Try.underlying26 info_tm _ _ _ v8 (out ++ [t]) s _ rfl HO8.out _ rfl rfl rfl HOL8.out HS8.out ?_; intro v9 w9 ho9 hb9))
            go_roundw
            case rel => exact ⟨i + 1, true, _, _, _, by go_num, rfl, rfl, rfl, by omega, ho9, HS.out ▸ HL.out.now hlt (HS.out ▸ hts), HB8.out.trans hb9⟩
            case measure => simp [intOf]; omega
    · have hi2 : i = L.length := by omega
      cases dn with
      | true =>
        have HE : Hid (out = ins t L) := (hi2 ▸ HL.out).done
        clear hi2
        go_wp2
        go_ret
        exact FIN.out _ _ (HE.out ▸ HO.out) HBW.out
      | false =>
        have HE : Hid (out ++ [t] = ins t L) := (hi2 ▸ HL.out).last
        obtain ⟨y1, y2, y3⟩ := BOX.out _ HB.out
        clear hi2
        go_wp2_with (at_builtin; refine append_tm rfl (.tmp 38) (.tmp 40) 26 rfl (w.heap.size + 1) Try.underlying26 info_tm _ _ _ vo out t _ rfl HO.out _ rfl rfl rfl HOL.out hsz.out ?_; intro v8 w8 ho8 hb8)
        go_ret
        exact FIN.out _ _ (HE.out ▸ ho8) (hbx.out _ _ (HB.out.trans hb8))
end Go.Proofs.Yteiadigafkollaa
