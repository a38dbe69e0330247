/- Names, the reference: number, CheckSet. -/
import Derived.Test.YthmppnmmlblbhaaDoorQa5
import Derived.Test.YthmppnmmlblbhaaDoorPn1
import Derived.Deep.RegionHeld3
namespace Go.Proofs.YthmppnmmlblbhaaDoor
open Go.RowKit

/-- The place of a name; -1. -/
def numI (N : List ByteArray) (s : ByteArray) : Int := if inB N s = true then ((N.findIdx fun x => decide (x = s) : Nat) : Int) else -1
theorem numI_neg (N : List ByteArray) (s : ByteArray) : (numI N s < 0 ↔ inB N s = false) ∧ (0 ≤ numI N s ↔ inB N s = true) := by
  unfold numI
  cases h : inB N s with
  | true => rw [if_pos rfl]; exact ⟨⟨fun e => by omega, fun e => by cases e⟩, ⟨fun _ => rfl, fun _ => by omega⟩⟩
  | false => rw [if_neg (by decide)]; exact ⟨⟨fun _ => rfl, fun _ => by omega⟩, ⟨fun e => by omega, fun e => by cases e⟩⟩
theorem numI_hit {N : List ByteArray} {s : ByteArray} {k : Nat} (hk : k < N.length) (ha : ∀ j (hj : j < k), N[j]'(by omega) ≠ s) (hb : N[k] = s) : numI N s = k := by
  have e : (N.findIdx fun x => decide (x = s)) = k := (List.findIdx_eq hk).2 ⟨by simpa using hb, fun j hj => by simpa using ha j hj⟩
  unfold numI
  rw [if_pos ((inB_iff _ _).2 (by rw [← hb]; exact List.getElem_mem hk)), e]
theorem numI_miss {N : List ByteArray} {s : ByteArray} (ha : ∀ j (hj : j < N.length), N[j] ≠ s) : numI N s = -1 := by
  unfold numI
  rw [if_neg]
  intro h
  obtain ⟨j, hj, e⟩ := List.mem_iff_getElem.1 ((inB_iff _ _).1 h)
  exact ha j hj e
theorem seenK_in (N : List ByteArray) (k : Nat) (s : ByteArray) : seenK N k s = inB (N.take k) s := by
  rw [Bool.eq_iff_iff, inB_iff]
  unfold seenK
  rw [List.any_eq_true]
  exact ⟨fun ⟨y, hy, e⟩ => by rw [of_decide_eq_true e]; exact hy, fun h => ⟨s, h, by simp⟩⟩
theorem GS.take {α : Type} {K : RK α} {w : World} {X o n cap m : Nat} {l : List α} (h : GS K w (.slice (some ⟨X, o, none⟩) n cap) l) (hm : m ≤ l.length) : GS K w (.slice (some ⟨X, o, none⟩) m cap) (l.take m) := by
  rcases h with ⟨_, rfl⟩ | ⟨X', o', cap', e, hX, hc, hcl⟩
  · simp at hm; subst hm; exact Or.inl ⟨Or.inr ⟨_, _, rfl⟩, by simp⟩
  · injection e with e1 e2 e3
    injection e1 with e1
    injection e1 with e1 e4 _
    subst e1 e4 e3
    have hl : (l.take m).length = m := by simp; omega
    refine Or.inr ⟨X, o, cap, by rw [hl], hX, by omega, fun k hk j u hu => hcl k (by omega) j u ?_⟩
    rw [List.getElem_take] at hu
    exact hu
theorem nm_ne {a b : ByteArray} (h : (a.toList == b.toList) = false) : a ≠ b := fun e => by subst e; simp at h
theorem nm_eq {a b : ByteArray} (h : (a.toList == b.toList) = true) : a = b := by
  have := eq_of_beq h
  rw [ByteArray.toList_eq, ByteArray.toList_eq] at this
  cases a; cases b
  simp only [ByteArray.mk.injEq]
  exact Array.toList_inj.1 this
theorem nameL_get {L : List Pvx} {j : Nat} (h : j < L.length) : (nameL (pL L))[j]'(by rw [nameL_len]; exact h) = L[j].p.name := by unfold nameL pL; simp
set_option maxHeartbeats 4000000 in
theorem number_any (v : Value) (L : List Pvx) (s : ByteArray) (w : World) (h : GS KP w v L) (hlm : L.length ≤ 100000000000) :
    Calls Tryd.prog 43 #[v, .string s] w fun e w' => e = .returned (.int .i64 (numI (nameL (pL L)) s)) ∧ w' = w := by
  obtain ⟨p, cap, rfl⟩ := h.form
  have HS : Hid (GS KP w (.slice p L.length cap) L) := h
  have HH : Hid (∀ k (hk : k < L.length), (∀ j (hj : j < k), (L[j]'(by omega)).p.name ≠ s) → L[k].p.name = s → numI (nameL (pL L)) s = k) := fun k hk ha hb => numI_hit (by rw [nameL_len]; exact hk) (fun j hj => by rw [nameL_get (by omega)]; exact ha j hj) (by rw [nameL_get hk]; exact hb)
  have HM : Hid ((∀ j (hj : j < L.length), L[j].p.name ≠ s) → numI (nameL (pL L)) s = -1) := fun ha => numI_miss (fun j hj => by rw [nameL_len] at hj; rw [nameL_get hj]; exact ha j hj)
  generalize numI (nameL (pL L)) s = R at *
  clear h
  go_enter Tryd.func43, Tryd.ntmps43
  go_wp2
  go_loop [5] (fun i => ∃ k : Nat, k ≤ L.length ∧ i = .int .i64 k ∧ Hid (∀ j (hj : j < k) (hl : j < L.length), L[j].p.name ≠ s)) (fun i => L.length - (intOf i).toNat)
  case atStart => exact ⟨0, Nat.zero_le _, rfl, fun j hj => by omega⟩
  case round =>
    obtain ⟨k, hkl, rfl, HR⟩ := hrel
    by_cases hlt : k < L.length
    · obtain ⟨X, o, rfl, hc, _⟩ := HS.out.atP hlt
      cases ht : (L[k].p.name.toList == s.toList)
      · have hne := nm_ne ht
        go_wp2
        go_round
        case rel =>
          refine ⟨k + 1, by omega, by go_num, fun j hj hl => ?_⟩
          by_cases e : j = k
          · subst e; exact hne
          · exact HR.out j (by omega) hl
        case measure => simp [intOf]; omega
      · have he : Hid (L[k].p.name = s) := nm_eq ht
        go_wp2
        go_ret
        exact ⟨ret_int (HH.out k hlt (fun j hj => HR.out j hj _) he.out).symm, rfl⟩
    · go_wp2
      go_ret
      exact ⟨ret_int (HM.out (fun j hj => HR.out j (by omega) hj)).symm, rfl⟩
set_option maxHeartbeats 4000000 in
theorem rcheckSet_any (v : Value) (L : List Pvx) (w : World) (h : PR w v L) :
    Calls Tryd.prog 11 #[v] w fun e w' => e = .returned (.agg #[.int .i64 (setF (pL L)).1, .int .i64 (setF (pL L)).2]) ∧ Below w.heap.size w w' := by
  obtain ⟨p, cap, rfl⟩ := h.gs.form
  have HS : Hid (PR w (.slice p L.length cap) L) := h
  have A0 : Hid (∀ ob, Below w.heap.size w (w.alloc ob)) := fun ob => (Below.refl _ _).alloc (Nat.le_refl _) ob
  have F0 : Hid (FBx (w.alloc (.cells #[.int .i64 0, .int .i64 0] 26)) w.heap.size 0 0) := heap_alloc_new _ _
  by_cases hlong : 256 < L.length
  · rw [setF_long (by rw [pL_len]; exact hlong)]
    clear h
    go_enter Tryd.func11, Tryd.ntmps11
    go_wp2
    exact bodyPost_ret (v := .agg #[.int .i64 0, .int .i64 3]) (by simp [results, Tryd.results11, go_sem]) rfl ⟨rfl, A0.out _⟩
  · have CK : Hid (∀ w1 k (hk : k < L.length), Below w.heap.size w w1 → Calls Tryd.prog 42 #[.agg #[.string L[k].p.name, .slice L[k].q L[k].p.ops.length L[k].c, .bool L[k].p.again, .int .i64 L[k].p.pol.t, .int .i64 L[k].p.pol.b, .int .i64 L[k].p.pol.f, .int .i64 L[k].p.pol.c, .int .i64 L[k].p.ck, .string L[k].p.ct]] w1 fun e w' => e = .returned (.int .i64 (prvE L[k].p)) ∧ Below w1.heap.size w1 w') := fun w1 k hk b => rcheckProv_any L[k].p L[k].v w1 ((h.ps _ (List.getElem_mem hk)).below b)
    have SB : Hid (∀ k (hk : k < L.length), (∀ j (hj : j < k), prvE (L[j]'(by omega)).p = 0) → prvE L[k].p ≠ 0 → setF (pL L) = ((k : Int), prvE L[k].p)) := fun k hk ha hb => by
      have := setF_bad (L := pL L) (by rw [pL_len]; exact hlong) (k := k) (by rw [pL_len]; exact hk) (fun j hj => by rw [pL_at (by omega)]; exact ha j hj) (by rw [pL_at hk]; exact hb)
      rw [this, pL_at hk]
    have SD : Hid ((∀ j (hj : j < L.length), prvE L[j].p = 0) → ∀ k (hk : k < L.length), (∀ j, j < k → dupB (pL L) j = false) → dupB (pL L) k = true → setF (pL L) = ((k : Int), 6)) := fun ha k hk hd hb => setF_dup (by rw [pL_len]; exact hlong) (fun j hj => by rw [pL_at (by rw [pL_len] at hj; exact hj)]; exact ha j _) (by rw [pL_len]; exact hk) hd hb
    have SO : Hid ((∀ j (hj : j < L.length), prvE L[j].p = 0) → (∀ j, j < L.length → dupB (pL L) j = false) → setF (pL L) = (0, 0)) := fun ha hd => setF_ok (by rw [pL_len]; exact hlong) (fun j hj => by rw [pL_at (by rw [pL_len] at hj; exact hj)]; exact ha j _) (by rw [pL_len]; exact hd)
    have HD : Hid (∀ k (hk : k < L.length), (0 ≤ numI (nameL (pL (L.take k))) L[k].p.name ↔ dupB (pL L) k = true) ∧ (numI (nameL (pL (L.take k))) L[k].p.name < 0 ↔ dupB (pL L) k = false)) := fun k hk => by
      have e : nameL (pL (L.take k)) = (nameL (pL L)).take k := by unfold nameL pL; simp
      have e2 : dupB (pL L) k = inB ((nameL (pL L)).take k) L[k].p.name := by unfold dupB; rw [nameL_at hk, seenK_in]
      rw [e, e2]
      exact ⟨(numI_neg _ _).2, (numI_neg _ _).1⟩
    clear h
    generalize setF (pL L) = R at *
    go_enter Tryd.func11, Tryd.ntmps11
    go_wp2
    go_loopw [3] (fun v3 wr => ∃ (k : Nat) (wk : World), v3 = .int .i64 k ∧ wk = wr ∧ k ≤ L.length ∧ Hid (Below w.heap.size w wk ∧ FBx wk w.heap.size 0 0 ∧ ∀ j (hj : j < k) (hl : j < L.length), prvE L[j].p = 0)) (fun v3 _ => L.length - (intOf v3).toNat)
    case atStart => exact ⟨0, _, rfl, rfl, Nat.zero_le _, ⟨A0.out _, F0.out, fun j hj => by omega⟩⟩
    case round =>
      obtain ⟨k, wr, rfl, rfl, hk, HI⟩ := hrel
      clear F0
      by_cases hlt : k < L.length
      · obtain ⟨X, o, e1, x0, x1, x2, x3, x4, x5, x6, x7, x8⟩ := (HS.out.gs.below HI.out.1).atP hlt
        obtain rfl : p = some ⟨X, o, none⟩ := e1
        have C1 : Hid _ := CK.out wr k hlt HI.out.1
        have SB1 : Hid (prvE L[k].p ≠ 0 → R = (↑k, prvE L[k].p)) := fun hb => SB.out k hlt (fun j hj => HI.out.2.2 j hj _) hb
        have HN : Hid (prvE L[k].p = 0 → ∀ j (hj : j < k + 1) (hl : j < L.length), prvE L[j].p = 0) := fun e j hj hl => by
          by_cases e2 : j = k
          · subst e2; exact e
          · exact HI.out.2.2 j (by omega) hl
        obtain ⟨c, hc⟩ : ∃ c, c = L[k] := ⟨_, rfl⟩
        rw [← hc] at x0 x1 x2 x3 x4 x5 x6 x7 x8 C1 SB1 HN
        clear hc CK SB SD SO HD
        go_wp2_with fail
        refine Calls.mono C1.out ?_
        rintro e w1 ⟨rfl, hb1⟩
        have B2 : Hid (Below w.heap.size w w1) := HI.out.1.trans (hb1.mono HI.out.1.size)
        have F2 : Hid (FBx w1 w.heap.size 0 0) := HI.out.2.1.below hb1
        clear hb1 C1 x0 x1 x2 x3 x4 x5 x6 x7 x8
        generalize prvE c.p = r at *
        by_cases hr : r = 0
        · subst hr
          go_wp2_with fail
          go_roundw
          case rel => exact ⟨k + 1, _, by go_num, rfl, by omega, ⟨B2.out, F2.out, HN.out (by simp)⟩⟩
          case measure => simp [intOf]; omega
        · have h1 : (r == 0) = false := by simpa using hr
          have h2 : (r != 0) = true := by simpa using hr
          have hR := SB1.out hr
          obtain ⟨y0, y1⟩ := F2.out.cells
          have fz := F2.out.fz
          have zl := F2.out.lt
          clear SB1 HN
          go_wp2_with fail
          exact bodyPost_ret (v := .agg #[.int .i64 k, .int .i64 r]) (by simp [results, Tryd.results11, go_sem, y0, y1]) rfl ⟨by rw [hR], below_set2 B2.out (Nat.le_refl _) _ _⟩
      · have hke : k = L.length := by omega
        subst hke
        have HA : Hid (∀ j (hj : j < L.length), prvE L[j].p = 0) := fun j hj => HI.out.2.2 j hj hj
        have D0 : Hid (Below w.heap.size w wr ∧ FBx wr w.heap.size 0 0 ∧ ∀ j, j < 0 → dupB (pL L) j = false) := ⟨HI.out.1, HI.out.2.1, fun j hj => by omega⟩
        have SD1 : Hid _ := SD.out HA.out
        have SO1 : Hid _ := SO.out HA.out
        clear HI SB SD SO CK HA
        go_wp2
        go_loopw [5] (fun v5 wr => ∃ (k : Nat) (wk : World), v5 = .int .i64 k ∧ wk = wr ∧ k ≤ L.length ∧ Hid (Below w.heap.size w wk ∧ FBx wk w.heap.size 0 0 ∧ ∀ j, j < k → dupB (pL L) j = false)) (fun v5 _ => L.length - (intOf v5).toNat)
        case atStart => exact ⟨0, _, rfl, rfl, Nat.zero_le _, D0⟩
        case round =>
          obtain ⟨k, wr, rfl, rfl, hk, HI⟩ := hrel
          clear D0
          by_cases hlt : k < L.length
          · obtain ⟨X, o, e1, x0, _⟩ := (HS.out.gs.below HI.out.1).atP hlt
            obtain rfl : p = some ⟨X, o, none⟩ := e1
            have hcap : L.length ≤ cap := HS.out.gs.cap
            have q1 : (0 : Int) ≤ (k : Int) := by omega
            have q2 : (k : Int) ≤ (cap : Int) := by omega
            have q3 : k ≤ cap := by omega
            have q4 : ¬ cap = 0 := by omega
            obtain ⟨hd1, hd2⟩ := HD.out k hlt
            have HD1 : Hid _ := hd1
            have HD2 : Hid _ := hd2
            have SD2 : Hid _ := SD1.out k hlt HI.out.2.2
            have NU : Hid (∀ wn, Below wr.heap.size wr wn → Calls Tryd.prog 43 #[.slice (some ⟨X, o, none⟩) k cap, .string L[k].p.name] wn fun e w' => e = .returned (.int .i64 (numI (nameL (pL (L.take k))) L[k].p.name)) ∧ w' = wn) := fun wn b => number_any _ (L.take k) _ wn (((HS.out.gs.below HI.out.1).below b).take (by omega)) (by simp; omega)
            clear hd1 hd2 HD SD1
            generalize numI (nameL (pL (L.take k))) L[k].p.name = nn at *
            obtain ⟨c, hc⟩ : ∃ c, c = L[k] := ⟨_, rfl⟩
            rw [← hc] at x0 NU
            clear hc
            have XC : Hid (∀ wx, Below wr.heap.size wr wx → wx.cell? ⟨X, o + k * 9, none⟩ = some (.string c.p.name)) := fun wx b => (b.cell (p := ⟨X, o + k * 9, none⟩) (block_lt_of_cell x0)).trans x0
            cases hdup : dupB (pL L) k with
            | true =>
              have hn : 0 ≤ nn := HD1.out.2 hdup
              have hR := SD2.out hdup
              clear SD2 SO1 HD1 HD2
              go_wp2
              go_region_held3 (fun w' => w'.cell? ⟨X, o + k * 9, none⟩ = some (.string c.p.name)) (go_keep) (first | (go_at_call 43; refine Calls.mono (NU.out _ ?_) ?_; (first | exact Below.refl _ _ | exact (Below.refl _ _).drew); rintro e w3 ⟨rfl, hw3⟩; have B3 : Hid (Below wr.heap.size wr w3) := (by rw [hw3]; first | exact Below.refl _ _ | exact (Below.refl _ _).drew); have xc3 := XC.out _ B3.out; clear hw3))
              all_goals
                have F2 : Hid (FBx w3 w.heap.size 0 0) := HI.out.2.1.below B3.out
                have BB : Hid (Below w.heap.size w w3) := HI.out.1.trans (B3.out.mono HI.out.1.size)
                obtain ⟨y0, y1⟩ := F2.out.cells
                have fz := F2.out.fz
                have zl := F2.out.lt
                go_wp2_with fail
                exact bodyPost_ret (v := .agg #[.int .i64 k, .int .i64 6]) (by simp [results, Tryd.results11, go_sem, y0, y1]) rfl ⟨by rw [hR], below_set2 BB.out (Nat.le_refl _) _ _⟩
            | false =>
              have hn : nn < 0 := HD2.out.2 hdup
              clear SD2 SO1 HD1 HD2
              go_wp2
              go_region_held3 (fun w' => w'.cell? ⟨X, o + k * 9, none⟩ = some (.string c.p.name)) (go_keep) (first | (go_at_call 43; refine Calls.mono (NU.out _ ?_) ?_; (first | exact Below.refl _ _ | exact (Below.refl _ _).drew); rintro e w3 ⟨rfl, hw3⟩; have B3 : Hid (Below wr.heap.size wr w3) := (by rw [hw3]; first | exact Below.refl _ _ | exact (Below.refl _ _).drew); have xc3 := XC.out _ B3.out; clear hw3))
              all_goals
                have N3 : Hid (Below w.heap.size w w3 ∧ FBx w3 w.heap.size 0 0 ∧ ∀ j, j < k + 1 → dupB (pL L) j = false) := ⟨HI.out.1.trans (B3.out.mono HI.out.1.size), HI.out.2.1.below B3.out, fun j hj => by
                  by_cases e2 : j = k
                  · subst e2; exact hdup
                  · exact HI.out.2.2 j (by omega)⟩
                go_wp2_with fail
                go_roundw
                case rel => exact ⟨k + 1, _, by go_num, rfl, by omega, N3⟩
                case measure => simp [intOf]; omega
          · have hke : k = L.length := by omega
            subst hke
            have hR := SO1.out HI.out.2.2
            have F2 : Hid (FBx wr w.heap.size 0 0) := HI.out.2.1
            obtain ⟨y0, y1⟩ := F2.out.cells
            have fz := F2.out.fz
            have zl := F2.out.lt
            go_wp2_with fail
            exact bodyPost_ret (v := .agg #[.int .i64 0, .int .i64 0]) (by simp [results, Tryd.results11, go_sem, y0, y1]) rfl ⟨by rw [hR], below_set2 HI.out.1 (Nat.le_refl _) _ _⟩
end Go.Proofs.YthmppnmmlblbhaaDoor
