/- Graph: the base's Rising. -/
import Derived.Test.YtghkhceplpjegaaYc1
namespace Go.Proofs.Ytghkhceplpjegaa
open Go.RowKit

/-- These, rising, each once. -/
structure Sri (T l : List Int) : Prop where
  up : T.Pairwise (· < ·)
  mem : ∀ x, x ∈ T ↔ x ∈ l
theorem nodup_le : ∀ (C N : List Int), C.Nodup → (∀ x ∈ C, x ∈ N) → C.length ≤ N.length
  | [], N, _, _ => by simp
  | a :: r, N, hn, hs => by
    rw [List.nodup_cons] at hn
    have ha := hs a (.head _)
    have ih := nodup_le r (N.filter fun x => decide (x ≠ a)) hn.2 (fun x hx => List.mem_filter.2 ⟨hs x (.tail _ hx), by
      simp only [ne_eq, decide_not, Bool.not_eq_true', decide_eq_false_iff_not]
      intro e; rw [e] at hx; exact hn.1 hx⟩)
    have hlt : (N.filter fun x => decide (x ≠ a)).length < N.length := List.length_filter_lt_length_iff_exists.2 ⟨a, ha, by simp⟩
    rw [List.length_cons]; omega
theorem up_sub {T l : List Int} (hT : T.Pairwise (· < ·)) (h : ∀ x ∈ T, x ∈ l) : T.length ≤ l.length := by
  have hn : T.Nodup := hT.imp fun {a b} hab e => by omega
  exact nodup_le T l hn h
theorem Sri.len {T l : List Int} (h : Sri T l) : T.length ≤ l.length := up_sub h.up fun x hx => (h.mem x).1 hx
/-- One more, in its place. -/
theorem Sri.ins {T l : List Int} (h : Sri T l) {s : Int} {a : Nat} (ha : a ≤ T.length) (hhi : ∀ j (hj : j < T.length), a ≤ j → s < T[j]) (hlo : ∀ (h0 : 0 < a), (T[a - 1]'(by omega)) < s) : (T.take a ++ [s] ++ T.drop a).Pairwise (· < ·) ∧ ∀ x, x ∈ (T.take a ++ [s] ++ T.drop a) ↔ x ∈ l ∨ x = s := by
  have hp := List.pairwise_iff_getElem.1 h.up
  have hlo2 : ∀ j (hj : j < T.length), j < a → T[j] < s := fun j hj hja => by
    have h1 := hlo (by omega)
    by_cases e : j = a - 1
    · subst e; exact h1
    · have := hp j (a - 1) hj (by omega) (by omega)
      omega
  refine ⟨?_, fun x => ?_⟩
  · rw [List.pairwise_append, List.pairwise_append]
    refine ⟨⟨h.up.sublist (List.take_sublist _ _), List.pairwise_singleton _ _, fun x hx y hy => ?_⟩, h.up.sublist (List.drop_sublist _ _), fun x hx y hy => ?_⟩
    · rw [List.mem_singleton] at hy
      subst hy
      rw [List.mem_take_iff_getElem] at hx
      obtain ⟨j, hj, rfl⟩ := hx
      exact hlo2 j (by omega) (by omega)
    · rw [List.mem_drop_iff_getElem] at hy
      obtain ⟨j, hj, rfl⟩ := hy
      rw [List.mem_append, List.mem_singleton] at hx
      rcases hx with hx | rfl
      · rw [List.mem_take_iff_getElem] at hx
        obtain ⟨i, hi, rfl⟩ := hx
        exact hp i (a + j) (by omega) (by omega) (by omega)
      · exact hhi (a + j) (by omega) (by omega)
  · rw [List.mem_append, List.mem_append, List.mem_singleton, ← h.mem]
    have : x ∈ T ↔ x ∈ T.take a ∨ x ∈ T.drop a := by rw [← List.mem_append, List.take_append_drop]
    rw [this]
    constructor
    · rintro ((h1 | h1) | h1)
      · exact Or.inl (Or.inl h1)
      · exact Or.inr h1
      · exact Or.inl (Or.inr h1)
    · rintro ((h1 | h1) | h1)
      · exact Or.inl (Or.inl h1)
      · exact Or.inr h1
      · exact Or.inl (Or.inr h1)
/-- Those behind a place moved up by one: what stands at the place does not matter. -/
def gapL (T : List Int) (k : Nat) (j : Int) : List Int := T.take k ++ [j] ++ T.drop k
theorem gapL_len {T : List Int} {k : Nat} (_hk : k ≤ T.length) (j : Int) : (gapL T k j).length = T.length + 1 := by unfold gapL; simp; omega
theorem gapL_at {T : List Int} {k : Nat} (hk : k ≤ T.length) (h0 : 0 < k) (j : Int) : (gapL T k j)[k - 1]'(by rw [gapL_len hk]; omega) = T[k - 1]'(by omega) := by
  unfold gapL
  rw [List.getElem_append_left (by simp; omega), List.getElem_append_left (by simp; omega), List.getElem_take]
theorem gapL_set {T : List Int} {k : Nat} (hk : k ≤ T.length) (h0 : 0 < k) (j : Int) : (gapL T k j).set k (T[k - 1]'(by omega)) = gapL T (k - 1) (T[k - 1]'(by omega)) := by
  unfold gapL
  have e1 : T.take k = T.take (k - 1) ++ [T[k - 1]'(by omega)] := by
    have := List.take_succ_eq_append_getElem (l := T) (i := k - 1) (by omega)
    rw [show k - 1 + 1 = k by omega] at this; exact this
  have e2 : T.drop (k - 1) = T[k - 1]'(by omega) :: T.drop k := by
    have := List.drop_eq_getElem_cons (l := T) (i := k - 1) (by omega)
    rw [show k - 1 + 1 = k by omega] at this; exact this
  rw [e2, List.append_assoc, List.set_append_right _ _ (by simp; omega)]
  have : k - (T.take k).length = 0 := by simp; omega
  rw [this]
  simp only [List.cons_append, List.nil_append, List.set_cons_zero]
  rw [e1]
theorem gapL_put {T : List Int} {k : Nat} (hk : k ≤ T.length) (j s : Int) : (gapL T k j).set k s = gapL T k s := by
  unfold gapL
  rw [List.append_assoc, List.set_append_right _ _ (by simp; omega)]
  have : k - (T.take k).length = 0 := by simp; omega
  rw [this]; simp
theorem gapL_end (T : List Int) (j : Int) : gapL T T.length j = T ++ [j] := by unfold gapL; simp
set_option maxHeartbeats 16000000 in
set_option maxRecDepth 100000 in
theorem rising_any (v : Value) (l : List Int) (w : World) (h : GS KI w v l) (hlm : l.length ≤ 100000) :
    Calls Try.prog 66 #[v] w fun e w' => ∃ M q c, e = .returned (.slice q M.length c) ∧ OwnG KI w' w.heap.size (.slice q M.length c) M ∧ Sri M l ∧ Below w.heap.size w w' := by
  obtain ⟨p, cap, rfl⟩ := h.form
  have HS : Hid (GS KI w (.slice p l.length cap) l) := h
  have D0 : Hid (Sri [] (l.take 0) ∧ OwnG KI (w.alloc (.cells #[] 3)) w.heap.size (.slice (some ⟨w.heap.size, 0, none⟩) 0 0) [] ∧ Below w.heap.size w (w.alloc (.cells #[] 3))) := ⟨⟨.nil, fun s => by simp⟩, OwnG.empty KI w, (Below.refl _ _).alloc (Nat.le_refl _) _⟩
  clear h
  go_enter Try.func66, Try.ntmps66
  go_wp2
  go_loopw [3, 4] (fun v3 v4 wr => ∃ (k g c : Nat) (T : List Int) (wk : World), v4 = .int .i64 k ∧ v3 = .slice (some ⟨g, 0, none⟩) T.length c ∧ wk = wr ∧ k ≤ l.length ∧ Hid (Sri T (l.take k) ∧ OwnG KI wk w.heap.size (.slice (some ⟨g, 0, none⟩) T.length c) T ∧ Below w.heap.size w wk)) (fun _ v4 _ => l.length - (intOf v4).toNat)
  case atStart => exact ⟨0, _, 0, [], _, rfl, rfl, rfl, Nat.zero_le _, D0⟩
  case round =>
    obtain ⟨k, g, cp, T, wr, rfl, rfl, rfl, hk, HI⟩ := hrel
    clear D0
    by_cases hlt : k < l.length
    · obtain ⟨X, o, e1, x1⟩ := (HS.out.below HI.out.2.2).atI hlt
      obtain rfl : p = some ⟨X, o, none⟩ := e1
      have hTl : T.length ≤ k := by have := HI.out.1.len; rw [List.length_take] at this; omega
      have IN := hid (has_any wr _ T l[k] (HI.out.2.1.gs KI_ok.len) (by omega))
      have ES : Hid (∀ x, x ∈ l.take (k + 1) ↔ x ∈ l.take k ∨ x = l[k]) := fun x => by rw [List.take_succ_eq_append_getElem hlt, List.mem_append, List.mem_singleton]
      have XC : Hid (∀ w1, Below w.heap.size w w1 → w1.cell? ⟨X, o + k, none⟩ = some (.int .i64 l[k])) := fun w1 b => by
        obtain ⟨X', o', e1', x1'⟩ := HS.out.atI hlt
        injection e1' with e1'
        injection e1' with e1' e2' _
        subst e1' e2'
        exact (b.cell (p := ⟨X, o + k, none⟩) (World.block_lt_of_cell? _ _ x1')).trans x1'
      have HLT : Hid (k + 1 ≤ l.length) := hlt
      generalize l[k] = s at *
      cases hi : decide (s ∈ T) with
      | true =>
        rw [hi] at IN
        have N1 : Hid (Sri T (l.take (k + 1)) ∧ OwnG KI wr w.heap.size (.slice (some ⟨g, 0, none⟩) T.length cp) T ∧ Below w.heap.size w wr) := by
          refine ⟨⟨HI.out.1.up, fun x => ?_⟩, HI.out.2⟩
          rw [ES.out, HI.out.1.mem]
          constructor
          · exact Or.inl
          · rintro (e | rfl)
            · exact e
            · exact (HI.out.1.mem _).1 (of_decide_eq_true hi)
        go_wp2_with fail
        refine Calls.mono IN.out ?_
        rintro e w1 ⟨rfl, hw1⟩
        rw [hw1]
        clear hw1 IN
        go_wp2_with fail
        go_roundw
        case rel => exact ⟨k + 1, g, cp, T, _, by go_num, rfl, rfl, HLT.out, N1⟩
        case measure => have := HLT.out; simp [intOf]; omega
      | false =>
        rw [hi] at IN
        have NI : Hid (∀ j (hj : j < T.length), T[j] ≠ s) := fun j hj e => by
          exact absurd (by rw [← e]; exact List.getElem_mem hj) (of_decide_eq_false hi)
        clear hi
        go_wp2_with fail
        refine Calls.mono IN.out ?_
        rintro e w1 ⟨rfl, hw1⟩
        rw [hw1]
        clear hw1 IN
        go_wp2_with fail
        go_loopw [5] (fun v5 wx => ∃ (a : Nat) (wk : World), v5 = .int .i64 a ∧ wk = wx ∧ a ≤ T.length ∧ Hid (∀ j (hj : j < T.length), a ≤ j → s < T[j]) ∧ Hid (Below wr.heap.size wr wk)) (fun v5 _ => (intOf v5).toNat)
        case atStart => exact ⟨T.length, _, rfl, rfl, Nat.le_refl _, fun j hj h2 => by omega, Below.refl _ _⟩
        case round =>
          obtain ⟨a, wx, rfl, rfl, ha, HA, BX⟩ := hrel
          have OX : Hid (OwnG KI wx w.heap.size (.slice (some ⟨g, 0, none⟩) T.length cp) T) := HI.out.2.1.below BX.out
          have xc := XC.out _ (HI.out.2.2.trans (BX.out.mono HI.out.2.2.size))
          by_cases hgo : ∃ (h0 : 0 < a), s < (T[a - 1]'(by omega))
          · obtain ⟨h0, hgt⟩ := hgo
            obtain ⟨b, rfl⟩ : ∃ b, a = b + 1 := ⟨a - 1, by omega⟩
            have ha1 : b < T.length := by omega
            obtain ⟨X2, o2, e2, yc⟩ := (OX.out.gs KI_ok.len).atI ha1
            injection e2 with e2
            injection e2 with e2 e3 _
            subst e2 e3
            rw [Nat.zero_add] at yc
            have hgt2 : s < T[b] := hgt
            have T2 : Hid (∀ j (hj : j < T.length), b ≤ j → s < T[j]) := fun j hj hbj => by
              by_cases e : j = b
              · subst e; exact hgt2
              · exact HA.out j hj (by omega)
            have hg : s < T[b] := hgt2
            have hbI : ((b + 1 : Nat) : Int) = (b : Int) + 1 := by omega
            clear HA hgt hgt2
            obtain ⟨y, hy⟩ : ∃ y, y = T[b] := ⟨_, rfl⟩
            rw [← hy] at yc hg
            clear hy
            go_wp2
            go_quiet (fail)
            go_wp2
            go_roundw
            case rel => exact ⟨b, _, by go_num, rfl, by omega, T2, BX.out.trans ((drew_below _ _).mono BX.out.size)⟩
            case measure => simp [intOf]
          · have HG : Hid (∀ (h0 : 0 < a), ¬ s < (T[a - 1]'(by omega))) := fun h0 e => hgo ⟨h0, e⟩
            have LO : Hid (∀ (h0 : 0 < a), (T[a - 1]'(by omega)) < s) := fun h0 => by
              have h1 := HG.out h0
              have h2 := NI.out (a - 1) (by omega)
              omega
            have SI : Hid (Sri (gapL T a s) (l.take (k + 1))) := by
              have h2 := HI.out.1.ins ha HA.out LO.out
              exact ⟨h2.1, fun x => (h2.2 x).trans (ES.out x).symm⟩
            have LS : Hid ((T.length + 1) * KI.B ≤ 140737488355328) := by show (T.length + 1) * 8 ≤ _; omega
            have ZX : Hid (w.heap.size ≤ wx.heap.size) := Nat.le_trans HI.out.2.2.size BX.out.size
            have BW : Hid (Below w.heap.size w wx) := HI.out.2.2.trans (BX.out.mono HI.out.2.2.size)
            clear hgo HA LO NI ES
            by_cases h0 : 0 < a
            · obtain ⟨b, rfl⟩ : ∃ b, a = b + 1 := ⟨a - 1, by omega⟩
              have ha1 : b < T.length := by omega
              obtain ⟨X2, o2, e2, yc⟩ := (OX.out.gs KI_ok.len).atI ha1
              injection e2 with e2
              injection e2 with e2 e3 _
              subst e2 e3
              rw [Nat.zero_add] at yc
              have hg : ¬ s < T[b] := HG.out h0
              have hbI : ((b + 1 : Nat) : Int) = (b : Int) + 1 := by omega
              obtain ⟨y, hy⟩ : ∃ y, y = T[b] := ⟨_, rfl⟩
              rw [← hy] at yc hg
              clear hy HG
              go_wp2
              go_quiet (fail)
              go_wp2_with (at_builtin; refine append_g KI KI_ok rfl (.tmp 38) (.tmp 39) 25 rfl w.heap.size Try.underlying25 _ _ _ (.slice (some ⟨g, 0, none⟩) T.length cp) T 0 _ rfl (OX.out.below (drew_below _ _)) _ rfl rfl rfl LS.out ZX.out ?_; intro g2 c2 w2 ho2 hb2 hk2 hg2)
              have D2 : Hid (OwnG KI w2 w.heap.size (.slice (some ⟨g2, 0, none⟩) (T.length + 1) c2) (gapL T T.length 0) ∧ Below w.heap.size w w2) := ⟨by rw [gapL_end]; exact ho2, (BW.out.trans ((drew_below _ _).mono BW.out.size)).trans hb2⟩
              clear ho2 hb2 hk2 hg2 OX
              go_loopw [6] (fun v6 wz => ∃ (m : Nat) (j : Int) (wk : World), v6 = .int .i64 m ∧ wk = wz ∧ (b + 1) ≤ m ∧ m ≤ T.length ∧ Hid (OwnG KI wk w.heap.size (.slice (some ⟨g2, 0, none⟩) (T.length + 1) c2) (gapL T m j) ∧ Below w.heap.size w wk)) (fun v6 _ => (intOf v6).toNat)
              case atStart => exact ⟨T.length, 0, _, by go_num, rfl, ha, Nat.le_refl _, D2⟩
              case round =>
                obtain ⟨m, j, wz, rfl, rfl, hm1, hm2, HZ⟩ := hrel
                clear D2
                by_cases hgo2 : (b + 1) < m
                · obtain ⟨b3, rfl⟩ : ∃ b3, m = b3 + 1 := ⟨m - 1, by omega⟩
                  have hl3 : (gapL T (b3 + 1) j).length = T.length + 1 := gapL_len hm2 j
                  obtain ⟨X3, o3, e3, zc⟩ := (HZ.out.1.gs KI_ok.len).atI (k := b3) (by rw [hl3]; omega)
                  injection e3 with e3
                  injection e3 with e3 e4 _
                  subst e3 e4
                  rw [Nat.zero_add] at zc
                  have ez : (gapL T (b3 + 1) j)[b3]'(by rw [hl3]; omega) = T[b3]'(by omega) := gapL_at hm2 (by omega) j
                  rw [ez] at zc
                  have fz := own_frozen HZ.out.1
                  obtain ⟨X4, o4, e5, zc4⟩ := (HZ.out.1.gs KI_ok.len).atI (k := b3 + 1) (by rw [hl3]; omega)
                  injection e5 with e5
                  injection e5 with e5 e6 _
                  subst e5 e6
                  rw [Nat.zero_add] at zc4
                  have N3 : Hid (OwnG KI (wz.setCell ⟨g2, b3 + 1, none⟩ (.int .i64 (T[b3]'(by omega)))) w.heap.size (.slice (some ⟨g2, 0, none⟩) (T.length + 1) c2) (gapL T b3 (T[b3]'(by omega))) ∧ Below w.heap.size w (wz.setCell ⟨g2, b3 + 1, none⟩ (.int .i64 (T[b3]'(by omega))))) := by
                    refine ⟨?_, HZ.out.2.setCell (p := ⟨g2, b3 + 1, none⟩) (HZ.out.1.lt rfl).1 _⟩
                    have := HZ.out.1.set1 rfl KI_ok.len (k := b3 + 1) (T[b3]'(by omega)) (.int .i64 (T[b3]'(by omega))) rfl
                    have e7 := gapL_set hm2 (by omega) j
                    rw [show (gapL T (b3 + 1) j).set (b3 + 1) (T[b3]'(by omega)) = gapL T b3 (T[b3]'(by omega)) from e7] at this
                    exact this
                  have hbI3 : ((b3 + 1 : Nat) : Int) = (b3 : Int) + 1 := by omega
                  clear ez HZ
                  generalize (gapL T (b3 + 1) j)[b3 + 1]'(by rw [hl3]; omega) = junk at *
                  obtain ⟨y3, hy3⟩ : ∃ y3, y3 = T[b3]'(by omega) := ⟨_, rfl⟩
                  rw [← hy3] at zc N3
                  clear hy3
                  go_wp2
                  go_roundw
                  case rel => exact ⟨b3, y3, _, by go_num, rfl, by omega, by omega, N3⟩
                  case measure => simp [intOf]
                · have hma : m = (b + 1) := by omega
                  rw [hma] at HZ hm2
                  clear hma
                  have hl3 : (gapL T (b + 1) j).length = T.length + 1 := gapL_len hm2 j
                  have fz := own_frozen HZ.out.1
                  obtain ⟨X4, o4, e5, zc4⟩ := (HZ.out.1.gs KI_ok.len).atI (k := (b + 1)) (by rw [hl3]; omega)
                  injection e5 with e5
                  injection e5 with e5 e6 _
                  subst e5 e6
                  rw [Nat.zero_add] at zc4
                  have xz := XC.out _ HZ.out.2
                  have hl4 : (gapL T (b + 1) s).length = T.length + 1 := gapL_len hm2 s
                  have N4 : Hid (Sri (gapL T (b + 1) s) (l.take (k + 1)) ∧ OwnG KI (wz.setCell ⟨g2, (b + 1), none⟩ (.int .i64 s)) w.heap.size (.slice (some ⟨g2, 0, none⟩) (gapL T (b + 1) s).length c2) (gapL T (b + 1) s) ∧ Below w.heap.size w (wz.setCell ⟨g2, (b + 1), none⟩ (.int .i64 s))) := by
                    refine ⟨SI.out, ?_, HZ.out.2.setCell (p := ⟨g2, (b + 1), none⟩) (HZ.out.1.lt rfl).1 _⟩
                    have := HZ.out.1.set1 rfl KI_ok.len (k := (b + 1)) s (.int .i64 s) rfl
                    rw [gapL_put hm2] at this
                    rw [hl4]; exact this
                  clear HZ
                  generalize (gapL T (b + 1) j)[(b + 1)]'(by rw [hl3]; omega) = junk at *
                  go_wp2
                  go_roundw
                  case rel => exact ⟨k + 1, g2, c2, gapL T (b + 1) s, _, by go_num, by rw [hl4], rfl, HLT.out, N4⟩
                  case measure => have := HLT.out; simp [intOf]; omega
            · have h0' : decide ((0 : Int) < (a : Int)) = false := by simp; omega
              clear HG
              go_wp2
              go_quiet (fail)
              go_wp2_with (at_builtin; refine append_g KI KI_ok rfl (.tmp 38) (.tmp 39) 25 rfl w.heap.size Try.underlying25 _ _ _ (.slice (some ⟨g, 0, none⟩) T.length cp) T 0 _ rfl (OX.out.below (drew_below _ _)) _ rfl rfl rfl LS.out ZX.out ?_; intro g2 c2 w2 ho2 hb2 hk2 hg2)
              have D2 : Hid (OwnG KI w2 w.heap.size (.slice (some ⟨g2, 0, none⟩) (T.length + 1) c2) (gapL T T.length 0) ∧ Below w.heap.size w w2) := ⟨by rw [gapL_end]; exact ho2, (BW.out.trans ((drew_below _ _).mono BW.out.size)).trans hb2⟩
              clear ho2 hb2 hk2 hg2 OX
              go_loopw [6] (fun v6 wz => ∃ (m : Nat) (j : Int) (wk : World), v6 = .int .i64 m ∧ wk = wz ∧ a ≤ m ∧ m ≤ T.length ∧ Hid (OwnG KI wk w.heap.size (.slice (some ⟨g2, 0, none⟩) (T.length + 1) c2) (gapL T m j) ∧ Below w.heap.size w wk)) (fun v6 _ => (intOf v6).toNat)
              case atStart => exact ⟨T.length, 0, _, by go_num, rfl, ha, Nat.le_refl _, D2⟩
              case round =>
                obtain ⟨m, j, wz, rfl, rfl, hm1, hm2, HZ⟩ := hrel
                clear D2
                by_cases hgo2 : a < m
                · obtain ⟨b3, rfl⟩ : ∃ b3, m = b3 + 1 := ⟨m - 1, by omega⟩
                  have hl3 : (gapL T (b3 + 1) j).length = T.length + 1 := gapL_len hm2 j
                  obtain ⟨X3, o3, e3, zc⟩ := (HZ.out.1.gs KI_ok.len).atI (k := b3) (by rw [hl3]; omega)
                  injection e3 with e3
                  injection e3 with e3 e4 _
                  subst e3 e4
                  rw [Nat.zero_add] at zc
                  have ez : (gapL T (b3 + 1) j)[b3]'(by rw [hl3]; omega) = T[b3]'(by omega) := gapL_at hm2 (by omega) j
                  rw [ez] at zc
                  have fz := own_frozen HZ.out.1
                  obtain ⟨X4, o4, e5, zc4⟩ := (HZ.out.1.gs KI_ok.len).atI (k := b3 + 1) (by rw [hl3]; omega)
                  injection e5 with e5
                  injection e5 with e5 e6 _
                  subst e5 e6
                  rw [Nat.zero_add] at zc4
                  have N3 : Hid (OwnG KI (wz.setCell ⟨g2, b3 + 1, none⟩ (.int .i64 (T[b3]'(by omega)))) w.heap.size (.slice (some ⟨g2, 0, none⟩) (T.length + 1) c2) (gapL T b3 (T[b3]'(by omega))) ∧ Below w.heap.size w (wz.setCell ⟨g2, b3 + 1, none⟩ (.int .i64 (T[b3]'(by omega))))) := by
                    refine ⟨?_, HZ.out.2.setCell (p := ⟨g2, b3 + 1, none⟩) (HZ.out.1.lt rfl).1 _⟩
                    have := HZ.out.1.set1 rfl KI_ok.len (k := b3 + 1) (T[b3]'(by omega)) (.int .i64 (T[b3]'(by omega))) rfl
                    have e7 := gapL_set hm2 (by omega) j
                    rw [show (gapL T (b3 + 1) j).set (b3 + 1) (T[b3]'(by omega)) = gapL T b3 (T[b3]'(by omega)) from e7] at this
                    exact this
                  have hbI3 : ((b3 + 1 : Nat) : Int) = (b3 : Int) + 1 := by omega
                  clear ez HZ
                  generalize (gapL T (b3 + 1) j)[b3 + 1]'(by rw [hl3]; omega) = junk at *
                  obtain ⟨y3, hy3⟩ : ∃ y3, y3 = T[b3]'(by omega) := ⟨_, rfl⟩
                  rw [← hy3] at zc N3
                  clear hy3
                  go_wp2
                  go_roundw
                  case rel => exact ⟨b3, y3, _, by go_num, rfl, by omega, by omega, N3⟩
                  case measure => simp [intOf]
                · have hma : m = a := by omega
                  rw [hma] at HZ hm2
                  clear hma
                  have hl3 : (gapL T a j).length = T.length + 1 := gapL_len hm2 j
                  have fz := own_frozen HZ.out.1
                  obtain ⟨X4, o4, e5, zc4⟩ := (HZ.out.1.gs KI_ok.len).atI (k := a) (by rw [hl3]; omega)
                  injection e5 with e5
                  injection e5 with e5 e6 _
                  subst e5 e6
                  rw [Nat.zero_add] at zc4
                  have xz := XC.out _ HZ.out.2
                  have hl4 : (gapL T a s).length = T.length + 1 := gapL_len hm2 s
                  have N4 : Hid (Sri (gapL T a s) (l.take (k + 1)) ∧ OwnG KI (wz.setCell ⟨g2, a, none⟩ (.int .i64 s)) w.heap.size (.slice (some ⟨g2, 0, none⟩) (gapL T a s).length c2) (gapL T a s) ∧ Below w.heap.size w (wz.setCell ⟨g2, a, none⟩ (.int .i64 s))) := by
                    refine ⟨SI.out, ?_, HZ.out.2.setCell (p := ⟨g2, a, none⟩) (HZ.out.1.lt rfl).1 _⟩
                    have := HZ.out.1.set1 rfl KI_ok.len (k := a) s (.int .i64 s) rfl
                    rw [gapL_put hm2] at this
                    rw [hl4]; exact this
                  clear HZ
                  generalize (gapL T a j)[a]'(by rw [hl3]; omega) = junk at *
                  go_wp2
                  go_roundw
                  case rel => exact ⟨k + 1, g2, c2, gapL T a s, _, by go_num, by rw [hl4], rfl, HLT.out, N4⟩
                  case measure => have := HLT.out; simp [intOf]; omega
    · have hke : k = l.length := by omega
      subst hke
      have H2 : Hid (OwnG KI wr w.heap.size (.slice (some ⟨g, 0, none⟩) T.length cp) T ∧ Below w.heap.size w wr) := HI.out.2
      have H3 : Hid (Sri T l) := by have := HI.out.1; rw [List.take_length] at this; exact this
      go_wp2
      go_ret
      exact ⟨T, some ⟨g, 0, none⟩, cp, rfl, H2.out.1, H3.out, H2.out.2⟩
end Go.Proofs.Ytghkhceplpjegaa
