/- Names: Missing. -/
import Derived.Test.YtffabehipcomfaaDoorQa3
import Derived.Test.YtffabehipcomfaaDoorPn1
import Derived.Deep.RegionHeld3
import Derived.Test.YtffabehipcomfaaDoorGr2
namespace Go.Proofs.YtffabehipcomfaaDoor
open Go.RowKit

/-- The place of a name; -1. -/
def numI (N : List ByteArray) (s : ByteArray) : Int := if inB N s = true then ((N.findIdx fun x => decide (x = s) : Nat) : Int) else -1
theorem numI_neg (N : List ByteArray) (s : ByteArray) : (numI N s < 0 ↔ inB N s = false) ∧ (0 ≤ numI N s ↔ inB N s = true) := by
  unfold numI
  cases h : inB N s with
  | true => rw [if_pos rfl]; exact ⟨⟨fun e => by omega, fun e => by cases e⟩, ⟨fun _ => rfl, fun _ => by omega⟩⟩
  | false => rw [if_neg (by decide)]; exact ⟨⟨fun _ => rfl, fun _ => by omega⟩, ⟨fun e => by omega, fun e => by cases e⟩⟩
theorem numI_hit {N : List ByteArray} {s : ByteArray} {k : Nat} (hk : k < N.length) (ha : ∀ j (hj : j < k), N[j]'(by omega) ≠ s) (hb : N[k] = s) : numI N s = k := by
  have e : (N.findIdx fun x => decide (x = s)) = k := (List.findIdx_eq hk).2 ⟨by simpa using hb, fun j hj => by simpa using ha j hj⟩
  unfold numI
  rw [if_pos ((inB_iff _ _).2 (by rw [← hb]; exact List.getElem_mem hk)), e]
theorem numI_miss {N : List ByteArray} {s : ByteArray} (ha : ∀ j (hj : j < N.length), N[j] ≠ s) : numI N s = -1 := by
  unfold numI
  rw [if_neg]
  intro h
  obtain ⟨j, hj, e⟩ := List.mem_iff_getElem.1 ((inB_iff _ _).1 h)
  exact ha j hj e
theorem seenK_in (N : List ByteArray) (k : Nat) (s : ByteArray) : seenK N k s = inB (N.take k) s := by
  rw [Bool.eq_iff_iff, inB_iff]
  unfold seenK
  rw [List.any_eq_true]
  exact ⟨fun ⟨y, hy, e⟩ => by rw [of_decide_eq_true e]; exact hy, fun h => ⟨s, h, by simp⟩⟩
theorem GS.take {α : Type} {K : RK α} {w : World} {X o n cap m : Nat} {l : List α} (h : GS K w (.slice (some ⟨X, o, none⟩) n cap) l) (hm : m ≤ l.length) : GS K w (.slice (some ⟨X, o, none⟩) m cap) (l.take m) := by
  rcases h with ⟨_, rfl⟩ | ⟨X', o', cap', e, hX, hc, hcl⟩
  · simp at hm; subst hm; exact Or.inl ⟨Or.inr ⟨_, _, rfl⟩, by simp⟩
  · injection e with e1 e2 e3
    injection e1 with e1
    injection e1 with e1 e4 _
    subst e1 e4 e3
    have hl : (l.take m).length = m := by simp; omega
    refine Or.inr ⟨X, o, cap, by rw [hl], hX, by omega, fun k hk j u hu => hcl k (by omega) j u ?_⟩
    rw [List.getElem_take] at hu
    exact hu
theorem nm_ne {a b : ByteArray} (h : (a.toList == b.toList) = false) : a ≠ b := fun e => by subst e; simp at h
theorem nm_eq {a b : ByteArray} (h : (a.toList == b.toList) = true) : a = b := by
  have := eq_of_beq h
  rw [ByteArray.toList_eq, ByteArray.toList_eq] at this
  cases a; cases b
  simp only [ByteArray.mk.injEq]
  exact Array.toList_inj.1 this
theorem nameL_get {L : List Pvx} {j : Nat} (h : j < L.length) : (nameL (pL L))[j]'(by rw [nameL_len]; exact h) = L[j].p.name := by unfold nameL pL; simp
set_option maxHeartbeats 4000000 in
theorem number_any (v : Value) (L : List Pvx) (s : ByteArray) (w : World) (h : GS KP w v L) (hlm : L.length ≤ 100000000000) :
    Calls Tryd.prog 68 #[v, .string s] w fun e w' => e = .returned (.int .i64 (numI (nameL (pL L)) s)) ∧ w' = w := by
  obtain ⟨p, cap, rfl⟩ := h.form
  have HS : Hid (GS KP w (.slice p L.length cap) L) := h
  have HH : Hid (∀ k (hk : k < L.length), (∀ j (hj : j < k), (L[j]'(by omega)).p.name ≠ s) → L[k].p.name = s → numI (nameL (pL L)) s = k) := fun k hk ha hb => numI_hit (by rw [nameL_len]; exact hk) (fun j hj => by rw [nameL_get (by omega)]; exact ha j hj) (by rw [nameL_get hk]; exact hb)
  have HM : Hid ((∀ j (hj : j < L.length), L[j].p.name ≠ s) → numI (nameL (pL L)) s = -1) := fun ha => numI_miss (fun j hj => by rw [nameL_len] at hj; rw [nameL_get hj]; exact ha j hj)
  generalize numI (nameL (pL L)) s = R at *
  clear h
  go_enter Tryd.func68, Tryd.ntmps68
  go_wp2
  go_loop [5] (fun i => ∃ k : Nat, k ≤ L.length ∧ i = .int .i64 k ∧ Hid (∀ j (hj : j < k) (hl : j < L.length), L[j].p.name ≠ s)) (fun i => L.length - (intOf i).toNat)
  case atStart => exact ⟨0, Nat.zero_le _, rfl, fun j hj => by omega⟩
  case round =>
    obtain ⟨k, hkl, rfl, HR⟩ := hrel
    by_cases hlt : k < L.length
    · obtain ⟨X, o, rfl, hc, _⟩ := HS.out.atP hlt
      cases ht : (L[k].p.name.toList == s.toList)
      · have hne := nm_ne ht
        go_wp2
        go_round
        case rel =>
          refine ⟨k + 1, by omega, by go_num, fun j hj hl => ?_⟩
          by_cases e : j = k
          · subst e; exact hne
          · exact HR.out j (by omega) hl
        case measure => simp [intOf]; omega
      · have he : Hid (L[k].p.name = s) := nm_eq ht
        go_wp2
        go_ret
        exact ⟨ret_int (HH.out k hlt (fun j hj => HR.out j hj _) he.out).symm, rfl⟩
    · go_wp2
      go_ret
      exact ⟨ret_int (HM.out (fun j hj => HR.out j (by omega) hj)).symm, rfl⟩
set_option maxHeartbeats 4000000 in
theorem rcheckSet_any (v : Value) (L : List Pvx) (w : World) (h : PR w v L) :
    Calls Tryd.prog 66 #[v] w fun e w' => e = .returned (.agg #[.int .i64 (setF (pL L)).1, .int .i64 (setF (pL L)).2]) ∧ Below w.heap.size w w' := by
  obtain ⟨p, cap, rfl⟩ := h.gs.form
  have HS : Hid (PR w (.slice p L.length cap) L) := h
  have A0 : Hid (∀ ob, Below w.heap.size w (w.alloc ob)) := fun ob => (Below.refl _ _).alloc (Nat.le_refl _) ob
  have F0 : Hid (FBx (w.alloc (.cells #[.int .i64 0, .int .i64 0] 83)) w.heap.size 0 0) := heap_alloc_new _ _
  by_cases hlong : 256 < L.length
  · rw [setF_long (by rw [pL_len]; exact hlong)]
    clear h
    go_enter Tryd.func66, Tryd.ntmps66
    go_wp2
    exact bodyPost_ret (v := .agg #[.int .i64 0, .int .i64 3]) (by simp [results, Tryd.results66, go_sem]) rfl ⟨rfl, A0.out _⟩
  · have CK : Hid (∀ w1 k (hk : k < L.length), Below w.heap.size w w1 → Calls Tryd.prog 32 #[.agg #[.string L[k].p.name, .slice L[k].q L[k].p.ops.length L[k].c, .bool L[k].p.again, .int .i64 L[k].p.pol.t, .int .i64 L[k].p.pol.b, .int .i64 L[k].p.pol.f, .int .i64 L[k].p.pol.c, .int .i64 L[k].p.ck, .string L[k].p.ct]] w1 fun e w' => e = .returned (.int .i64 (prvE L[k].p)) ∧ Below w1.heap.size w1 w') := fun w1 k hk b => rcheckProv_any L[k].p L[k].v w1 ((h.ps _ (List.getElem_mem hk)).below b)
    have SB : Hid (∀ k (hk : k < L.length), (∀ j (hj : j < k), prvE (L[j]'(by omega)).p = 0) → prvE L[k].p ≠ 0 → setF (pL L) = ((k : Int), prvE L[k].p)) := fun k hk ha hb => by
      have := setF_bad (L := pL L) (by rw [pL_len]; exact hlong) (k := k) (by rw [pL_len]; exact hk) (fun j hj => by rw [pL_at (by omega)]; exact ha j hj) (by rw [pL_at hk]; exact hb)
      rw [this, pL_at hk]
    have SD : Hid ((∀ j (hj : j < L.length), prvE L[j].p = 0) → ∀ k (hk : k < L.length), (∀ j, j < k → dupB (pL L) j = false) → dupB (pL L) k = true → setF (pL L) = ((k : Int), 6)) := fun ha k hk hd hb => setF_dup (by rw [pL_len]; exact hlong) (fun j hj => by rw [pL_at (by rw [pL_len] at hj; exact hj)]; exact ha j _) (by rw [pL_len]; exact hk) hd hb
    have SO : Hid ((∀ j (hj : j < L.length), prvE L[j].p = 0) → (∀ j, j < L.length → dupB (pL L) j = false) → setF (pL L) = (0, 0)) := fun ha hd => setF_ok (by rw [pL_len]; exact hlong) (fun j hj => by rw [pL_at (by rw [pL_len] at hj; exact hj)]; exact ha j _) (by rw [pL_len]; exact hd)
    have HD : Hid (∀ k (hk : k < L.length), (0 ≤ numI (nameL (pL (L.take k))) L[k].p.name ↔ dupB (pL L) k = true) ∧ (numI (nameL (pL (L.take k))) L[k].p.name < 0 ↔ dupB (pL L) k = false)) := fun k hk => by
      have e : nameL (pL (L.take k)) = (nameL (pL L)).take k := by unfold nameL pL; simp
      have e2 : dupB (pL L) k = inB ((nameL (pL L)).take k) L[k].p.name := by unfold dupB; rw [nameL_at hk, seenK_in]
      rw [e, e2]
      exact ⟨(numI_neg _ _).2, (numI_neg _ _).1⟩
    clear h
    generalize setF (pL L) = R at *
    go_enter Tryd.func66, Tryd.ntmps66
    go_wp2
    go_loopw [3] (fun v3 wr => ∃ (k : Nat) (wk : World), v3 = .int .i64 k ∧ wk = wr ∧ k ≤ L.length ∧ Hid (Below w.heap.size w wk ∧ FBx wk w.heap.size 0 0 ∧ ∀ j (hj : j < k) (hl : j < L.length), prvE L[j].p = 0)) (fun v3 _ => L.length - (intOf v3).toNat)
    case atStart => exact ⟨0, _, rfl, rfl, Nat.zero_le _, ⟨A0.out _, F0.out, fun j hj => by omega⟩⟩
    case round =>
      obtain ⟨k, wr, rfl, rfl, hk, HI⟩ := hrel
      clear F0
      by_cases hlt : k < L.length
      · obtain ⟨X, o, e1, x0, x1, x2, x3, x4, x5, x6, x7, x8⟩ := (HS.out.gs.below HI.out.1).atP hlt
        obtain rfl : p = some ⟨X, o, none⟩ := e1
        have C1 : Hid _ := CK.out wr k hlt HI.out.1
        have SB1 : Hid (prvE L[k].p ≠ 0 → R = (↑k, prvE L[k].p)) := fun hb => SB.out k hlt (fun j hj => HI.out.2.2 j hj _) hb
        have HN : Hid (prvE L[k].p = 0 → ∀ j (hj : j < k + 1) (hl : j < L.length), prvE L[j].p = 0) := fun e j hj hl => by
          by_cases e2 : j = k
          · subst e2; exact e
          · exact HI.out.2.2 j (by omega) hl
        obtain ⟨c, hc⟩ : ∃ c, c = L[k] := ⟨_, rfl⟩
        rw [← hc] at x0 x1 x2 x3 x4 x5 x6 x7 x8 C1 SB1 HN
        clear hc CK SB SD SO HD
        go_wp2_with fail
        refine Calls.mono C1.out ?_
        rintro e w1 ⟨rfl, hb1⟩
        have B2 : Hid (Below w.heap.size w w1) := HI.out.1.trans (hb1.mono HI.out.1.size)
        have F2 : Hid (FBx w1 w.heap.size 0 0) := HI.out.2.1.below hb1
        clear hb1 C1 x0 x1 x2 x3 x4 x5 x6 x7 x8
        generalize prvE c.p = r at *
        by_cases hr : r = 0
        · subst hr
          go_wp2_with fail
          go_roundw
          case rel => exact ⟨k + 1, _, by go_num, rfl, by omega, ⟨B2.out, F2.out, HN.out (by simp)⟩⟩
          case measure => simp [intOf]; omega
        · have h1 : (r == 0) = false := by simpa using hr
          have h2 : (r != 0) = true := by simpa using hr
          have hR := SB1.out hr
          obtain ⟨y0, y1⟩ := F2.out.cells
          have fz := F2.out.fz
          have zl := F2.out.lt
          clear SB1 HN
          go_wp2_with fail
          exact bodyPost_ret (v := .agg #[.int .i64 k, .int .i64 r]) (by simp [results, Tryd.results66, go_sem, y0, y1]) rfl ⟨by rw [hR], below_set2 B2.out (Nat.le_refl _) _ _⟩
      · have hke : k = L.length := by omega
        subst hke
        have HA : Hid (∀ j (hj : j < L.length), prvE L[j].p = 0) := fun j hj => HI.out.2.2 j hj hj
        have D0 : Hid (Below w.heap.size w wr ∧ FBx wr w.heap.size 0 0 ∧ ∀ j, j < 0 → dupB (pL L) j = false) := ⟨HI.out.1, HI.out.2.1, fun j hj => by omega⟩
        have SD1 : Hid _ := SD.out HA.out
        have SO1 : Hid _ := SO.out HA.out
        clear HI SB SD SO CK HA
        go_wp2
        go_loopw [5] (fun v5 wr => ∃ (k : Nat) (wk : World), v5 = .int .i64 k ∧ wk = wr ∧ k ≤ L.length ∧ Hid (Below w.heap.size w wk ∧ FBx wk w.heap.size 0 0 ∧ ∀ j, j < k → dupB (pL L) j = false)) (fun v5 _ => L.length - (intOf v5).toNat)
        case atStart => exact ⟨0, _, rfl, rfl, Nat.zero_le _, D0⟩
        case round =>
          obtain ⟨k, wr, rfl, rfl, hk, HI⟩ := hrel
          clear D0
          by_cases hlt : k < L.length
          · obtain ⟨X, o, e1, x0, _⟩ := (HS.out.gs.below HI.out.1).atP hlt
            obtain rfl : p = some ⟨X, o, none⟩ := e1
            have hcap : L.length ≤ cap := HS.out.gs.cap
            have q1 : (0 : Int) ≤ (k : Int) := by omega
            have q2 : (k : Int) ≤ (cap : Int) := by omega
            have q3 : k ≤ cap := by omega
            have q4 : ¬ cap = 0 := by omega
            obtain ⟨hd1, hd2⟩ := HD.out k hlt
            have HD1 : Hid _ := hd1
            have HD2 : Hid _ := hd2
            have SD2 : Hid _ := SD1.out k hlt HI.out.2.2
            have NU : Hid (∀ wn, Below wr.heap.size wr wn → Calls Tryd.prog 68 #[.slice (some ⟨X, o, none⟩) k cap, .string L[k].p.name] wn fun e w' => e = .returned (.int .i64 (numI (nameL (pL (L.take k))) L[k].p.name)) ∧ w' = wn) := fun wn b => number_any _ (L.take k) _ wn (((HS.out.gs.below HI.out.1).below b).take (by omega)) (by simp; omega)
            clear hd1 hd2 HD SD1
            generalize numI (nameL (pL (L.take k))) L[k].p.name = nn at *
            obtain ⟨c, hc⟩ : ∃ c, c = L[k] := ⟨_, rfl⟩
            rw [← hc] at x0 NU
            clear hc
            have XC : Hid (∀ wx, Below wr.heap.size wr wx → wx.cell? ⟨X, o + k * 9, none⟩ = some (.string c.p.name)) := fun wx b => (b.cell (p := ⟨X, o + k * 9, none⟩) (block_lt_of_cell x0)).trans x0
            cases hdup : dupB (pL L) k with
            | true =>
              have hn : 0 ≤ nn := HD1.out.2 hdup
              have hR := SD2.out hdup
              clear SD2 SO1 HD1 HD2
              go_wp2
              go_region_held3 (fun w' => w'.cell? ⟨X, o + k * 9, none⟩ = some (.string c.p.name)) (go_keep) (first | (go_at_call 68; refine Calls.mono (NU.out _ ?_) ?_; (first | exact Below.refl _ _ | exact (Below.refl _ _).drew); rintro e w3 ⟨rfl, hw3⟩; have B3 : Hid (Below wr.heap.size wr w3) := (by rw [hw3]; first | exact Below.refl _ _ | exact (Below.refl _ _).drew); have xc3 := XC.out _ B3.out; clear hw3))
              all_goals
                have F2 : Hid (FBx w3 w.heap.size 0 0) := HI.out.2.1.below B3.out
                have BB : Hid (Below w.heap.size w w3) := HI.out.1.trans (B3.out.mono HI.out.1.size)
                obtain ⟨y0, y1⟩ := F2.out.cells
                have fz := F2.out.fz
                have zl := F2.out.lt
                go_wp2_with fail
                exact bodyPost_ret (v := .agg #[.int .i64 k, .int .i64 6]) (by simp [results, Tryd.results66, go_sem, y0, y1]) rfl ⟨by rw [hR], below_set2 BB.out (Nat.le_refl _) _ _⟩
            | false =>
              have hn : nn < 0 := HD2.out.2 hdup
              clear SD2 SO1 HD1 HD2
              go_wp2
              go_region_held3 (fun w' => w'.cell? ⟨X, o + k * 9, none⟩ = some (.string c.p.name)) (go_keep) (first | (go_at_call 68; refine Calls.mono (NU.out _ ?_) ?_; (first | exact Below.refl _ _ | exact (Below.refl _ _).drew); rintro e w3 ⟨rfl, hw3⟩; have B3 : Hid (Below wr.heap.size wr w3) := (by rw [hw3]; first | exact Below.refl _ _ | exact (Below.refl _ _).drew); have xc3 := XC.out _ B3.out; clear hw3))
              all_goals
                have N3 : Hid (Below w.heap.size w w3 ∧ FBx w3 w.heap.size 0 0 ∧ ∀ j, j < k + 1 → dupB (pL L) j = false) := ⟨HI.out.1.trans (B3.out.mono HI.out.1.size), HI.out.2.1.below B3.out, fun j hj => by
                  by_cases e2 : j = k
                  · subst e2; exact hdup
                  · exact HI.out.2.2 j (by omega)⟩
                go_wp2_with fail
                go_roundw
                case rel => exact ⟨k + 1, _, by go_num, rfl, by omega, N3⟩
                case measure => simp [intOf]; omega
          · have hke : k = L.length := by omega
            subst hke
            have hR := SO1.out HI.out.2.2
            have F2 : Hid (FBx wr w.heap.size 0 0) := HI.out.2.1
            obtain ⟨y0, y1⟩ := F2.out.cells
            have fz := F2.out.fz
            have zl := F2.out.lt
            go_wp2_with fail
            exact bodyPost_ret (v := .agg #[.int .i64 0, .int .i64 0]) (by simp [results, Tryd.results66, go_sem, y0, y1]) rfl ⟨by rw [hR], below_set2 HI.out.1 (Nat.le_refl _) _ _⟩
end Go.Proofs.YtffabehipcomfaaDoor
namespace Go.Proofs.YtffabehipcomfaaDoor
open Go.RowKit

/-- What a provider asks for and none of these names is. -/
def misF (N : List ByteArray) (p : Prv) : List ByteArray := (textsL p.ops 3).filter fun s => !inB N s
def misU (L : List Prv) (k : Nat) : List ByteArray := (L.take k).flatMap (misF (nameL L))
def misL (L : List Prv) : List ByteArray := if (setF L).2 = 0 then onceL (misU L L.length) else []
theorem misU_next {L : List Prv} {k : Nat} (h : k < L.length) : misU L (k + 1) = misU L k ++ misF (nameL L) L[k] := by
  unfold misU
  rw [List.take_add_one, List.getElem?_eq_getElem h, Option.toList_some, List.flatMap_append]; simp
theorem misF_len {N : List ByteArray} {p : Prv} (h : p.ops.length ≤ 256) : (misF N p).length ≤ 256 := by
  unfold misF
  have h1 := List.length_filter_le (fun s => !inB N s) (textsL p.ops 3)
  have h2 := textsL_len p.ops 3
  omega
theorem misU_len {L : List Prv} (hc : ∀ j (hj : j < L.length), L[j].ops.length ≤ 256) : ∀ k, k ≤ L.length → (misU L k).length ≤ k * 256
  | 0, _ => by simp [misU]
  | k + 1, hk => by
    have := misU_len hc k (by omega)
    have h2 := misF_len (N := nameL L) (hc k (by omega))
    rw [misU_next (by omega), List.length_append]; omega
theorem AKI.below {w wk w2 : World} {b : Nat} {L : List Pvx} {k : Nat} {f : ByteArray → Option Value} (h : AKI w wk b L k f) (c : Below wk.heap.size wk w2) : AKI w w2 b L k f :=
  ⟨h.bl.trans (c.mono h.bl.size), h.lo, h.mv.below c, h.hs, fun j hj hl => let ⟨p, q, e, o⟩ := h.each j hj hl; ⟨p, q, e, o.below c⟩⟩
theorem AKI.has {w wk : World} {b : Nat} {L : List Pvx} {f : ByteArray → Option Value} (h : AKI w wk b L L.length f) (s : ByteArray) : (f s).isSome = inB (nameL (pL L)) s := by
  rw [h.hs, seenK_in, List.take_of_length_le (by rw [nameL_len]; omega)]
theorem texts_sz {l : List Opn} {kd : Int} (ht : ∀ c ∈ l, c.text.size ≤ maxLen) : ∀ x ∈ textsL l kd, x.size ≤ maxLen := fun x hx => by
  unfold textsL onceL at hx
  obtain ⟨o, ho, _, rfl⟩ := txL_mem (keepK_in _ _ _ _ (Nat.le_refl _) _ hx)
  exact ht o ho
/-- removeFunc with provides: those that are not provided. -/
theorem removeProv_any (v : Value) (l : List ByteArray) (b n : Nat) (f : ByteArray → Option Value) (N : List ByteArray) (w : World) (h : GS KS w v l) (hm : MV w b n f) (hN : ∀ s, (f s).isSome = inB N s) (hlm : l.length ≤ 1000000) (ht : ∀ x ∈ l, x.size ≤ maxLen) :
    Calls Tryd.prog 58 #[v, .func (.func 59) #[.map (some b)] #[]] w fun e w' => ∃ p c, e = .returned (.slice p (l.filter fun s => !inB N s).length c) ∧ OwnG KS w' w.heap.size (.slice p (l.filter fun s => !inB N s).length c) (l.filter fun s => !inB N s) ∧ Below w.heap.size w w' := by
  have e0 : keepK l ByteArray.empty (fun k => inB N (l.getD k ByteArray.empty)) l.length = l.filter fun s => !inB N s := by
    rw [keepK_filter l ByteArray.empty (fun s => inB N s) l.length (Nat.le_refl _), List.take_length]
  refine (removeM_any v l 59 (.map (some b)) (fun k => inB N (l.getD k ByteArray.empty)) w _ (fun _ => False) none_vis h (fun x _ e => e) hlm (fun x e => e) Tryd.call59 ?_).mono ?_
  · intro k F wk hk hI _ hbt
    have hg : l.getD k ByteArray.empty ∈ l := by rw [List.getD_eq_getElem?_getD, List.getElem?_eq_getElem hk]; exact List.getElem_mem hk
    refine (provides_any b n f _ wk (hm.below hbt.below) (ht _ hg)).mono ?_
    rintro e w' ⟨rfl, rfl⟩
    exact ⟨by rw [hN], F, hI, fun x hx => Or.inl hx, But.refl _ _⟩
  · rintro e w' ⟨p, c, F', rfl, R⟩
    rw [e0]
    have s := R.s
    rw [e0] at s
    exact ⟨p, c, rfl, s, R.bt.below⟩
/-- A row of texts of the call's own, with a fault. -/
def AnsF (w w' : World) (e : Ending) (l : List ByteArray) (x : Int × Int) : Prop := ∃ p cap, e = .returned (.tuple #[.slice p l.length cap, .agg #[.int .i64 x.1, .int .i64 x.2]]) ∧ OwnG KS w' w.heap.size (.slice p l.length cap) l ∧ Below w.heap.size w w'
set_option maxHeartbeats 8000000 in
theorem missing_any (v : Value) (L : List Pvx) (w : World) (h : PR w v L) (hv : NV w) :
    Calls Tryd.prog 42 #[v] w fun e w' => AnsF w w' e (misL (pL L)) (setF (pL L)) := by
  have A0 : Hid (∀ ob, Below w.heap.size w (w.alloc ob)) := fun ob => (Below.refl _ _).alloc (Nat.le_refl _) ob
  have F0 : Hid (FBx (w.alloc (.cells #[.int .i64 0, .int .i64 0] 83)) w.heap.size 0 0) := heap_alloc_new _ _
  by_cases hn : (setF (pL L)).2 = 0
  · obtain ⟨hl, hg, hd, hz⟩ := setF_fine hn
    rw [pL_len] at hl
    have hG : ∀ k (hk : k < L.length), chkO L[k].p.ops = 0 ∧ nameB L[k].p.name = true := fun k hk => by
      have := hg k (by rw [pL_len]; exact hk)
      rw [pL_at hk] at this
      exact prvE_ops this
    have e1 : misL (pL L) = onceL (misU (pL L) L.length) := by unfold misL; rw [if_pos hn, pL_len]
    rw [e1, hz]
    have AK : Hid (∀ w1, Below w.heap.size w w1 → _) := fun w1 b => askingOf_ok v L w1 (h.below b) (hv.below b) hn
    obtain ⟨p, cap, rfl⟩ := h.gs.form
    have HS : Hid (PR w (.slice p L.length cap) L) := h
    have hc256 : ∀ j (hj : j < (pL L).length), (pL L)[j].ops.length ≤ 256 := fun j hj => by
      rw [pL_len] at hj
      rw [pL_at hj]; exact (chkO_ok (hG j hj).1).1
    have HU : Hid (∀ k (hk : k < L.length), misU (pL L) (k + 1) = misU (pL L) k ++ (textsL L[k].p.ops 3).filter fun s => !inB (nameL (pL L)) s) := fun k hk => by
      have := misU_next (L := pL L) (k := k) (by rw [pL_len]; exact hk)
      rw [pL_at hk] at this; exact this
    have HLn : Hid (∀ k, k ≤ L.length → (misU (pL L) k).length ≤ 65536) := fun k hk => by
      have := misU_len hc256 k (by rw [pL_len]; exact hk)
      show _ ≤ _
      omega
    have HT : Hid (∀ k (hk : k < L.length), (textsL L[k].p.ops 3).length ≤ 256 ∧ ∀ x ∈ textsL L[k].p.ops 3, x.size ≤ maxLen) := fun k hk => by
      have h1 := textsL_len L[k].p.ops 3
      have h2 := (chkO_ok (hG k hk).1).1
      exact ⟨by omega, texts_sz (h.ps _ (List.getElem_mem hk)).tx⟩
    have HM : Hid (∀ x ∈ misU (pL L) L.length, x.size ≤ maxLen) := fun x hx => by
      unfold misU at hx
      obtain ⟨q, hq, hx⟩ := List.mem_flatMap.1 hx
      have hq := List.mem_of_mem_take hq
      unfold pL at hq
      obtain ⟨y, hy, rfl⟩ := List.mem_map.1 hq
      unfold misF at hx
      exact texts_sz (h.ps _ hy).tx x (List.mem_filter.1 hx).1
    have NM : Hid (∀ k (hk : k < L.length), L[k].p.name.size ≤ maxLen) := fun k hk => (h.ps _ (List.getElem_mem hk)).nm
    have hmf : ∀ (fn : Fn) (first cap : Array Value) (w : World), (Instr.makeFunc fn first cap).run Tryd.prog w = .ok (.func fn first cap) w := fun _ _ _ _ => rfl
    have U0 : Hid (misU (pL L) 0 = []) := by show _ = _; simp [misU]
    clear h hv hn hg hd hz hG hc256 e1
    go_enter Tryd.func42, Tryd.ntmps42
    go_wp2_with fail
    refine Calls.mono (AK.out _ (A0.out _)) ?_
    rintro e w1 ⟨b, f, rfl, ak1⟩
    have B1 : Hid (Below w.heap.size w w1) := (A0.out _).trans (ak1.bl.mono (A0.out _).size)
    have F1 : Hid (FBx w1 w.heap.size 0 0) := F0.out.below ak1.bl
    have K1 : Hid (∀ s, (f s).isSome = inB (nameL (pL L)) s) := ak1.has
    have M1 : Hid (MV w1 b L.length f) := ak1.mv
    have E1 : Hid (∀ j (hl : j < L.length), ∃ p c, f L[j].p.name = some (.slice p (textsL L[j].p.ops 3).length c) ∧ GS KS w1 (.slice p (textsL L[j].p.ops 3).length c) (textsL L[j].p.ops 3)) := fun j hl => let ⟨p, q, e, o⟩ := ak1.each j hl hl; ⟨p, q, e, o.gs KS_ok.len⟩
    clear ak1 AK F0
    have BA : Hid (∀ ob, Below w1.heap.size w1 (w1.alloc ob)) := fun ob => (Below.refl _ _).alloc (Nat.le_refl _) ob
    go_wp2_with fail
    generalize hW : w1.alloc _ = w2 at *
    have B2 : Hid (Below w1.heap.size w1 w2) := by rw [← hW]; exact BA.out _
    clear hW BA
    go_loopw [6, 20] (fun v6 v20 wr => ∃ (k : Nat) (vs : Value) (wk : World), v20 = .int .i64 k ∧ vs = v6 ∧ wk = wr ∧ k ≤ L.length ∧ Hid (OwnG KS wk w2.heap.size vs (misU (pL L) k) ∧ Below w2.heap.size w2 wk)) (fun _ v20 _ => L.length - (intOf v20).toNat)
    case atStart => exact ⟨0, _, _, rfl, rfl, rfl, Nat.zero_le _, ⟨by rw [U0.out]; exact OwnG.nil _ _ _, Below.refl _ _⟩⟩
    case round =>
      obtain ⟨k, vs, wr, rfl, rfl, rfl, hk, HI⟩ := hrel
      have BW : Hid (Below w1.heap.size w1 wr) := B2.out.trans (HI.out.2.mono B2.out.size)
      by_cases hlt : k < L.length
      · obtain ⟨X, o, e1, x0, x1, x2, x3, x4, x5, x6, x7, x8⟩ := (HS.out.gs.below (B1.out.trans (BW.out.mono B1.out.size))).atP hlt
        obtain rfl : p = some ⟨X, o, none⟩ := e1
        have nm := NM.out k hlt
        obtain ⟨pT, cT, hf, gT⟩ := E1.out k hlt
        have AL : Hid (∀ ob, Below wr.heap.size wr (wr.alloc ob)) := fun ob => (Below.refl _ _).alloc (Nat.le_refl _) ob
        have MW : Hid (∀ ob, MV (wr.alloc ob) b L.length f) := fun ob => (M1.out.below BW.out).below (AL.out ob)
        obtain ⟨ht1, ht2⟩ := HT.out k hlt
        have RM : Hid (∀ ob, Calls Tryd.prog 58 #[.slice pT (textsL L[k].p.ops 3).length cT, .func (.func 59) #[.map (some b)] #[]] (wr.alloc ob) fun e w' => ∃ p c, e = .returned (.slice p ((textsL L[k].p.ops 3).filter fun s => !inB (nameL (pL L)) s).length c) ∧ GS KS w' (.slice p ((textsL L[k].p.ops 3).filter fun s => !inB (nameL (pL L)) s).length c) ((textsL L[k].p.ops 3).filter fun s => !inB (nameL (pL L)) s) ∧ Below wr.heap.size wr w') := fun ob => by
          refine (removeProv_any _ _ b L.length f _ _ ((gT.below BW.out).below (AL.out ob)) (MW.out ob) K1.out (by omega) ht2).mono ?_
          rintro e w' ⟨p, c, rfl, o, bb⟩
          exact ⟨p, c, rfl, o.gs KS_ok.len, (AL.out ob).trans (bb.mono (AL.out ob).size)⟩
        have HUk : Hid _ := HU.out k hlt
        have LS : Hid (((misU (pL L) k).length + ((textsL L[k].p.ops 3).filter fun s => !inB (nameL (pL L)) s).length) * KS.B ≤ 140737488355328) := by
          have h1 := HLn.out k hk
          have h2 := List.length_filter_le (fun s => !inB (nameL (pL L)) s) (textsL L[k].p.ops 3)
          show _ * 16 ≤ _
          omega
        have HF : Hid (f L[k].p.name = some (.slice pT (textsL L[k].p.ops 3).length cT)) := hf
        generalize ((textsL L[k].p.ops 3).filter fun s => !inB (nameL (pL L)) s) = FL at *
        obtain ⟨c, hc⟩ : ∃ c, c = L[k] := ⟨_, rfl⟩
        rw [← hc] at x0 x1 x2 x3 x4 x5 x6 x7 x8 nm RM HF
        clear hc hf gT ht1 ht2 HT E1 HU HLn NM
        generalize textsL c.p.ops 3 = TT at *
        go_wp2_with (at_lookup; refine mv_hit rfl _ _ 95 rfl 50 Tryd.underlying95 (zeroSS _) b L.length f rfl (MW.out _) c.p.name rfl nm (.slice pT TT.length cT) HF.out ?_)
        refine Calls.mono (RM.out _) ?_
        rintro e w3 ⟨p3, c3, rfl, g3, b3⟩
        have G3 : Hid (GS KS w3 (.slice p3 FL.length c3) FL) := g3
        have O3 : Hid (OwnG KS w3 w2.heap.size vs (misU (pL L) k)) := HI.out.1.below b3
        have B3 : Hid (Below w2.heap.size w2 w3) := HI.out.2.trans (b3.mono HI.out.2.size)
        clear g3 b3 RM MW HF x0 x1 x2 x3 x4 x5 x6 x7 x8
        go_wp2_with (at_builtin; refine append_gs KS KS_ok rfl (.tmp 24) (.tmp 31) 50 rfl w2.heap.size Tryd.underlying50 w3 vs (.slice p3 FL.length c3) (misU (pL L) k) FL rfl rfl O3.out G3.out LS.out B3.out.size ?_; intro v4 w4 ho4 hb4 hk4)
        have N4 : Hid (OwnG KS w4 w2.heap.size v4 (misU (pL L) (k + 1)) ∧ Below w2.heap.size w2 w4) := ⟨by rw [HUk.out]; exact ho4, B3.out.trans hb4⟩
        clear ho4 hb4 hk4 HUk
        go_roundw
        case rel => exact ⟨k + 1, _, _, by go_num, rfl, rfl, by omega, N4⟩
        case measure => simp [intOf]; omega
      · have hke : k = L.length := by omega
        subst hke
        have EO : Hid (Calls Tryd.prog 60 #[vs] wr fun e w' => ∃ p c, e = .returned (.slice p (onceL (misU (pL L) L.length)).length c) ∧ OwnG KS w' wr.heap.size (.slice p (onceL (misU (pL L) L.length)).length c) (onceL (misU (pL L) L.length)) ∧ Below wr.heap.size wr w') := eachOnce_any vs _ wr (HI.out.1.gs KS_ok.len) (by have := HLn.out L.length (Nat.le_refl _); omega) HM.out
        obtain ⟨p2, c2, hvs, _⟩ := HI.out.1.form
        have ZW : Hid (w.heap.size < wr.heap.size) := by have h1 := F1.out.lt; have h2 := BW.out.size; show _ < _; omega
        have BX : Hid (Below w.heap.size w wr) := B1.out.trans (BW.out.mono B1.out.size)
        have FX : Hid (FBx wr w.heap.size 0 0) := F1.out.below BW.out
        clear HI HU HLn HM HT NM E1 M1 K1 U0
        subst hvs
        go_wp2_with fail
        refine Calls.mono EO.out ?_
        rintro e w3 ⟨p3, c3, rfl, o3, b3⟩
        have F3 : Hid (FBx w3 w.heap.size 0 0) := FX.out.below b3
        have B3 : Hid (Below w.heap.size w w3) := BX.out.trans (b3.mono BX.out.size)
        have O3 : Hid (∀ u0 u1, OwnG KS ((w3.setCell ⟨w.heap.size, 0, none⟩ u0).setCell ⟨w.heap.size, 1, none⟩ u1) w.heap.size (.slice p3 (onceL (misU (pL L) L.length)).length c3) (onceL (misU (pL L) L.length))) := fun u0 u1 => by
          refine (o3.low (Nat.le_of_lt ZW.out)).far fun g hg => ?_
          have h1 := (o3.lt hg).1
          have h2 := ZW.out
          rw [set_far (show g ≠ w.heap.size by omega), set_far (show g ≠ w.heap.size by omega)]
        obtain ⟨y0, y1⟩ := F3.out.cells
        have fz := F3.out.fz
        have zl := F3.out.lt
        clear o3 b3 EO
        go_wp2_with fail
        exact bodyPost_ret (v := .tuple #[.slice p3 (onceL (misU (pL L) L.length)).length c3, .agg #[.int .i64 0, .int .i64 0]]) (by simp [results, Tryd.results42, go_sem, y0, y1]) rfl ⟨p3, c3, rfl, O3.out _ _, below_set2 B3.out (Nat.le_refl _) _ _⟩
  · have e1 : misL (pL L) = [] := by unfold misL; rw [if_neg hn]
    rw [e1]
    have AK : Hid (∀ w1, Below w.heap.size w w1 → _) := fun w1 b => askingOf_no v L w1 (h.below b) (hv.below b) hn
    obtain ⟨p, cap, rfl⟩ := h.gs.form
    generalize setF (pL L) = R at *
    obtain ⟨ra, rc⟩ := R
    have h1 : (rc == 0) = false := by simpa using hn
    have h2 : (rc != 0) = true := by simpa using hn
    clear h hv e1
    go_enter Tryd.func42, Tryd.ntmps42
    go_wp2_with fail
    refine Calls.mono (AK.out _ (A0.out _)) ?_
    rintro e w1 ⟨rfl, hb1⟩
    have B1 : Hid (Below w.heap.size w w1) := (A0.out _).trans (hb1.mono (A0.out _).size)
    have F1 : Hid (FBx w1 w.heap.size 0 0) := F0.out.below hb1
    clear hb1 AK
    obtain ⟨y0, y1⟩ := F1.out.cells
    have fz := F1.out.fz
    have zl := F1.out.lt
    obtain ⟨z0, z1⟩ := F1.out.setA ra rc
    go_wp2_with fail
    go_region
    all_goals
      go_wp2_with fail
      exact bodyPost_ret (v := .tuple #[.slice none 0 0, .agg #[.int .i64 ra, .int .i64 rc]]) (by simp [results, Tryd.results42, go_sem, z0, z1]) rfl ⟨none, 0, rfl, OwnG.nil _ _ _, (below_alloc' (below_set2 B1.out (Nat.le_refl _) _ _) _).drew⟩
end Go.Proofs.YtffabehipcomfaaDoor
