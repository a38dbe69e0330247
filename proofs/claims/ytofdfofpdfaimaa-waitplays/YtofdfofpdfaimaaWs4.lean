/- Waiting: texts put in order, one by one (the document's Sorted). -/
import Derived.Test.YtofdfofpdfaimaaWs3
import Derived.Sort.Walk0
import Derived.Laws.Cover1
import Derived.BigQuiet
namespace Go.Proofs.Ytofdfofpdfaimaa
open Go.RowKit Go.Maps
def inB (l : List ByteArray) (s : ByteArray) : Bool := l.any fun x => x.toList == s.toList
theorem inB_miss {l : List ByteArray} {s : ByteArray} {k : Nat} (hk : k < l.length) (h : (l[k].toList == s.toList) = false) : inB (l.drop k) s = inB (l.drop (k + 1)) s := by
  unfold inB; rw [List.drop_eq_getElem_cons hk, List.any_cons, h, Bool.false_or]
theorem inB_hit {l : List ByteArray} {s : ByteArray} {k : Nat} (hk : k < l.length) (h : (l[k].toList == s.toList) = true) : inB l s = true := by
  unfold inB; rw [List.any_eq_true]; exact ⟨l[k], List.getElem_mem hk, h⟩
theorem inB_end {l : List ByteArray} {s : ByteArray} {k : Nat} (hk : l.length ≤ k) : inB (l.drop k) s = false := by
  unfold inB; rw [List.drop_eq_nil_iff.2 hk]; rfl

--[need oncewebbase.In
theorem box_frozen {w : World} {b o : Nat} {c : Array Value} {t : TypeId} (h : w.heap[b]? = some (.cells c t)) : w.frozen? ⟨b, o, none⟩ = false := by simp [World.frozen?, h]
theorem nodup_le : ∀ (C N : List ByteArray), C.Nodup → (∀ x ∈ C, x ∈ N) → C.length ≤ N.length
  | [], N, _, _ => by simp
  | a :: r, N, hn, hs => by
    rw [List.nodup_cons] at hn
    have ha := hs a (.head _)
    have ih := nodup_le r (N.filter fun x => decide (x ≠ a)) hn.2 (fun x hx => List.mem_filter.2 ⟨hs x (.tail _ hx), by
      simp only [ne_eq, decide_not, Bool.not_eq_true', decide_eq_false_iff_not]
      intro e; rw [e] at hx; exact hn.1 hx⟩)
    have hlt : (N.filter fun x => decide (x ≠ a)).length < N.length := List.length_filter_lt_length_iff_exists.2 ⟨a, ha, by simp⟩
    rw [List.length_cons]; omega
theorem inB_iff (L : List ByteArray) (s : ByteArray) : inB L s = true ↔ s ∈ L := by
  unfold inB
  rw [List.any_eq_true]
  constructor
  · rintro ⟨x, hx, e⟩
    rw [eq_list, decide_eq_true_eq] at e
    exact e ▸ hx
  · intro h
    exact ⟨s, h, by simp⟩
set_option maxHeartbeats 4000000 in
theorem inG_any (v : Value) (L : List ByteArray) (s : ByteArray) (w : World) (h : GS KS w v L) (hlm : L.length ≤ 1000000000000000) :
    Calls Try.prog 60 #[v, .string s] w fun e w' => e = .returned (.bool (inB L s)) ∧ w' = w := by
  obtain ⟨p, cap, rfl⟩ := h.form
  have HS : Hid (GS KS w (.slice p L.length cap) L) := h
  clear h
  go_enter Try.func60, Try.ntmps60
  go_wp2
  go_loop [5] (fun i => ∃ k : Nat, k ≤ L.length ∧ i = .int .i64 k ∧ Hid (inB L s = inB (L.drop k) s)) (fun i => L.length - (intOf i).toNat)
  case atStart => exact ⟨0, Nat.zero_le _, rfl, rfl⟩
  case round =>
    obtain ⟨k, hkl, rfl, HR⟩ := hrel
    by_cases hlt : k < L.length
    · obtain ⟨X, o, rfl, hc⟩ := HS.out.atS hlt
      cases ht : (L[k].toList == s.toList)
      · go_wp2
        go_round
        case rel => exact ⟨k + 1, by omega, by go_num, by show _ = _; rw [HR.out, inB_miss hlt ht]⟩
        case measure => simp [intOf]; omega
      · go_wp2
        go_ret
        exact ⟨ret_bool (inB_hit hlt ht).symm, rfl⟩
    · go_wp2
      go_ret
      exact ⟨ret_bool (by rw [HR.out, inB_end (by omega)]), rfl⟩

theorem OwnG.fz {α : Type} {K : RK α} {w : World} {base g n cap : Nat} {l : List α} (h : OwnG K w base (.slice (some ⟨g, 0, none⟩) n cap) l) : ∀ o, w.frozen? ⟨g, o, none⟩ = false := by
  rcases h.2 with ⟨e, _⟩ | ⟨g', cp, cur, e1, _, e3, _⟩
  · cases e
  · injection e1 with e1 _ _
    injection e1 with e1
    injection e1 with e1 _ _
    subst e1
    exact fun o => box_frozen e3
def gtB (x s : ByteArray) : Bool := !(Op.bytesLess x.toList s.toList || x.toList == s.toList)
theorem gtB_true {x s : ByteArray} (h : gtB x s = true) : s.data.toList < x.data.toList := by
  unfold gtB at h
  rw [bytesLess_eq, ByteArray.toList_eq, ByteArray.toList_eq] at h
  simp only [Bool.not_eq_true', Bool.or_eq_false_iff, decide_eq_false_iff_not, beq_eq_false_iff_ne, ne_eq] at h
  rcases List.le_iff_lt_or_eq.1 (List.not_lt.1 h.1) with e | e
  · exact e
  · exact absurd e.symm h.2
theorem gtB_false {x s : ByteArray} (h : gtB x s = false) (hne : x ≠ s) : x.data.toList < s.data.toList := by
  unfold gtB at h
  rw [bytesLess_eq, ByteArray.toList_eq, ByteArray.toList_eq] at h
  simp only [Bool.not_eq_false', Bool.or_eq_true, decide_eq_true_eq, beq_iff_eq] at h
  rcases h with e | e
  · exact e
  · exact absurd (bytes_ext e) hne
/-- One more, in its place. -/
theorem Srt.ins {T : List ByteArray} {p : ByteArray → Bool} (h : Srt T p) {s : ByteArray} {a : Nat} (ha : a ≤ T.length) (hhi : ∀ j (hj : j < T.length), a ≤ j → s.data.toList < T[j].data.toList) (hlo : ∀ (h0 : 0 < a), (T[a - 1]'(by omega)).data.toList < s.data.toList) : Srt (T.take a ++ [s] ++ T.drop a) (fun x => p x || decide (x = s)) := by
  have hp := List.pairwise_iff_getElem.1 h.up
  have hlo2 : ∀ j (hj : j < T.length), j < a → T[j].data.toList < s.data.toList := fun j hj hja => by
    have h1 := hlo (by omega)
    by_cases e : j = a - 1
    · subst e; exact h1
    · exact List.lt_trans (hp j (a - 1) hj (by omega) (by omega)) h1
  refine ⟨?_, fun x => ?_⟩
  · rw [List.pairwise_append, List.pairwise_append]
    refine ⟨⟨h.up.sublist (List.take_sublist _ _), List.pairwise_singleton _ _, fun x hx y hy => ?_⟩, h.up.sublist (List.drop_sublist _ _), fun x hx y hy => ?_⟩
    · rw [List.mem_singleton] at hy
      subst hy
      rw [List.mem_take_iff_getElem] at hx
      obtain ⟨j, hj, rfl⟩ := hx
      exact hlo2 j (by omega) (by omega)
    · rw [List.mem_drop_iff_getElem] at hy
      obtain ⟨j, hj, rfl⟩ := hy
      rw [List.mem_append, List.mem_singleton] at hx
      rcases hx with hx | rfl
      · rw [List.mem_take_iff_getElem] at hx
        obtain ⟨i, hi, rfl⟩ := hx
        exact hp i (a + j) (by omega) (by omega) (by omega)
      · exact hhi (a + j) (by omega) (by omega)
  · rw [List.mem_append, List.mem_append, List.mem_singleton, Bool.or_eq_true, decide_eq_true_eq, ← h.mem]
    have : x ∈ T ↔ x ∈ T.take a ∨ x ∈ T.drop a := by rw [← List.mem_append, List.take_append_drop]
    rw [this]
    constructor
    · rintro ((h1 | h1) | h1)
      · exact Or.inl (Or.inl h1)
      · exact Or.inr h1
      · exact Or.inl (Or.inr h1)
    · rintro ((h1 | h1) | h1)
      · exact Or.inl (Or.inl h1)
      · exact Or.inr h1
      · exact Or.inl (Or.inr h1)
/-- Those behind a place moved up by one: what stands at the place does not matter. -/
def gapL (T : List ByteArray) (k : Nat) (j : ByteArray) : List ByteArray := T.take k ++ [j] ++ T.drop k
theorem gapL_len {T : List ByteArray} {k : Nat} (_hk : k ≤ T.length) (j : ByteArray) : (gapL T k j).length = T.length + 1 := by unfold gapL; simp; omega
theorem gapL_at {T : List ByteArray} {k : Nat} (hk : k ≤ T.length) (h0 : 0 < k) (j : ByteArray) : (gapL T k j)[k - 1]'(by rw [gapL_len hk]; omega) = T[k - 1]'(by omega) := by
  unfold gapL
  rw [List.getElem_append_left (by simp; omega), List.getElem_append_left (by simp; omega), List.getElem_take]
theorem gapL_set {T : List ByteArray} {k : Nat} (hk : k ≤ T.length) (h0 : 0 < k) (j : ByteArray) : (gapL T k j).set k (T[k - 1]'(by omega)) = gapL T (k - 1) (T[k - 1]'(by omega)) := by
  unfold gapL
  have e1 : T.take k = T.take (k - 1) ++ [T[k - 1]'(by omega)] := by
    have := List.take_succ_eq_append_getElem (l := T) (i := k - 1) (by omega)
    rw [show k - 1 + 1 = k by omega] at this; exact this
  have e2 : T.drop (k - 1) = T[k - 1]'(by omega) :: T.drop k := by
    have := List.drop_eq_getElem_cons (l := T) (i := k - 1) (by omega)
    rw [show k - 1 + 1 = k by omega] at this; exact this
  rw [e2, List.append_assoc, List.set_append_right _ _ (by simp; omega)]
  have : k - (T.take k).length = 0 := by simp; omega
  rw [this]
  simp only [List.cons_append, List.nil_append, List.set_cons_zero]
  rw [e1]
theorem gapL_put {T : List ByteArray} {k : Nat} (hk : k ≤ T.length) (j s : ByteArray) : (gapL T k j).set k s = gapL T k s := by
  unfold gapL
  rw [List.append_assoc, List.set_append_right _ _ (by simp; omega)]
  have : k - (T.take k).length = 0 := by simp; omega
  rw [this]; simp
theorem gapL_end (T : List ByteArray) (j : ByteArray) : gapL T T.length j = T ++ [j] := by unfold gapL; simp
theorem Srt.len {T l : List ByteArray} (h : Srt T (inB l)) : T.length ≤ l.length := by
  refine nodup_le T l (h.up.imp fun {a b} hlt e => by subst e; exact List.lt_irrefl _ hlt) (fun x hx => (inB_iff _ _).1 ((h.mem x).1 hx))
theorem inB_snoc (l : List ByteArray) {k : Nat} (hk : k < l.length) : inB (l.take (k + 1)) = fun x => inB (l.take k) x || decide (x = l[k]) := by
  funext x
  rw [Bool.eq_iff_iff, inB_iff, Bool.or_eq_true, inB_iff, decide_eq_true_eq, List.take_add_one, List.getElem?_eq_getElem hk, Option.toList_some, List.mem_append, List.mem_singleton]

theorem drewN_same {w : World} (n : Nat) : Below w.heap.size w (w.drewN n) := ⟨rfl, rfl, rfl, Nat.le_refl _, fun _ _ => rfl⟩
set_option maxHeartbeats 16000000 in
set_option maxRecDepth 100000 in
theorem sortedB_any (v : Value) (l : List ByteArray) (w : World) (h : GS KS w v l) (hlm : l.length ≤ 100000) :
    Calls Try.prog 44 #[v] w fun e w' => ∃ q c T, Srt T (inB l) ∧ e = .returned (.slice q T.length c) ∧ OwnG KS w' w.heap.size (.slice q T.length c) T ∧ Below w.heap.size w w' := by
  obtain ⟨p, cap, rfl⟩ := h.form
  have HS : Hid (GS KS w (.slice p l.length cap) l) := h
  have D0 : Hid (Srt [] (inB (l.take 0)) ∧ OwnG KS (w.alloc (.cells #[] 9)) w.heap.size (.slice (some ⟨w.heap.size, 0, none⟩) 0 0) [] ∧ Below w.heap.size w (w.alloc (.cells #[] 9))) := ⟨⟨.nil, fun s => by simp [inB]⟩, OwnG.empty KS w, (Below.refl _ _).alloc (Nat.le_refl _) _⟩
  have HE : Hid (∀ T, Srt T (inB (l.take l.length)) → Srt T (inB l)) := fun T hT => by rw [List.take_length] at hT; exact hT
  clear h
  go_enter Try.func44, Try.ntmps44
  go_wp2
  go_loopw [3, 4] (fun v3 v4 wr => ∃ (k g c : Nat) (T : List ByteArray) (wk : World), v4 = .int .i64 k ∧ v3 = .slice (some ⟨g, 0, none⟩) T.length c ∧ wk = wr ∧ k ≤ l.length ∧ Hid (Srt T (inB (l.take k)) ∧ OwnG KS wk w.heap.size (.slice (some ⟨g, 0, none⟩) T.length c) T ∧ Below w.heap.size w wk)) (fun _ v4 _ => l.length - (intOf v4).toNat)
  case atStart => exact ⟨0, _, 0, [], _, rfl, rfl, rfl, Nat.zero_le _, D0⟩
  case round =>
    obtain ⟨k, g, cp, T, wr, rfl, rfl, rfl, hk, HI⟩ := hrel
    clear D0
    by_cases hlt : k < l.length
    · obtain ⟨X, o, e1, x1⟩ := (HS.out.below HI.out.2.2).atS hlt
      obtain rfl : p = some ⟨X, o, none⟩ := e1
      have hTl : T.length ≤ k := by have := HI.out.1.len; rw [List.length_take] at this; omega
      have IN : Hid _ := inG_any _ T l[k] wr (HI.out.2.1.gs KS_ok.len) (by omega)
      have ES : Hid (inB (l.take (k + 1)) = fun x => inB (l.take k) x || decide (x = l[k])) := inB_snoc l hlt
      have XC : Hid (∀ w1, Below w.heap.size w w1 → w1.cell? ⟨X, o + k, none⟩ = some (.string l[k])) := fun w1 b => by
        obtain ⟨X', o', e1', x1'⟩ := HS.out.atS hlt
        injection e1' with e1'
        injection e1' with e1' e2' _
        subst e1' e2'
        exact (b.cell (p := ⟨X, o + k, none⟩) (block_lt_of_cell x1')).trans x1'
      have HLT : Hid (k + 1 ≤ l.length) := hlt
      generalize l[k] = s at *
      cases hi : inB T s with
      | true =>
        rw [hi] at IN
        have N1 : Hid (Srt T (inB (l.take (k + 1))) ∧ OwnG KS wr w.heap.size (.slice (some ⟨g, 0, none⟩) T.length cp) T ∧ Below w.heap.size w wr) := by
          refine ⟨⟨HI.out.1.up, fun x => ?_⟩, HI.out.2⟩
          rw [ES.out, Bool.or_eq_true, decide_eq_true_eq, HI.out.1.mem]
          constructor
          · exact Or.inl
          · rintro (e | rfl)
            · exact e
            · exact (HI.out.1.mem _).1 ((inB_iff _ _).1 hi)
        go_wp2_with fail
        refine Calls.mono IN.out ?_
        rintro e w1 ⟨rfl, hw1⟩
        rw [hw1]
        clear hw1 IN
        go_wp2_with fail
        go_roundw
        case rel => exact ⟨k + 1, g, cp, T, _, by go_num, rfl, rfl, HLT.out, N1⟩
        case measure => have := HLT.out; simp [intOf]; omega
      | false =>
        rw [hi] at IN
        have NI : Hid (∀ j (hj : j < T.length), T[j] ≠ s) := fun j hj e => by
          have : inB T s = true := (inB_iff _ _).2 (by rw [← e]; exact List.getElem_mem hj)
          rw [this] at hi; cases hi
        clear hi
        go_wp2_with fail
        refine Calls.mono IN.out ?_
        rintro e w1 ⟨rfl, hw1⟩
        rw [hw1]
        clear hw1 IN
        go_wp2_with fail
        go_loopw [5] (fun v5 wx => ∃ (a : Nat) (wk : World), v5 = .int .i64 a ∧ wk = wx ∧ a ≤ T.length ∧ Hid (∀ j (hj : j < T.length), a ≤ j → s.data.toList < T[j].data.toList) ∧ Hid (Below wr.heap.size wr wk)) (fun v5 _ => (intOf v5).toNat)
        case atStart => exact ⟨T.length, _, rfl, rfl, Nat.le_refl _, fun j hj h2 => by omega, Below.refl _ _⟩
        case round =>
          obtain ⟨a, wx, rfl, rfl, ha, HA, BX⟩ := hrel
          have OX : Hid (OwnG KS wx w.heap.size (.slice (some ⟨g, 0, none⟩) T.length cp) T) := HI.out.2.1.below BX.out
          have xc := XC.out _ (HI.out.2.2.trans (BX.out.mono HI.out.2.2.size))
          by_cases hgo : ∃ (h0 : 0 < a), gtB (T[a - 1]'(by omega)) s = true
          · obtain ⟨h0, hgt⟩ := hgo
            obtain ⟨b, rfl⟩ : ∃ b, a = b + 1 := ⟨a - 1, by omega⟩
            have ha1 : b < T.length := by omega
            obtain ⟨X2, o2, e2, yc⟩ := (OX.out.gs KS_ok.len).atS ha1
            injection e2 with e2
            injection e2 with e2 e3 _
            subst e2 e3
            rw [Nat.zero_add] at yc
            have hgt2 : gtB T[b] s = true := hgt
            have T2 : Hid (∀ j (hj : j < T.length), b ≤ j → s.data.toList < T[j].data.toList) := fun j hj hbj => by
              by_cases e : j = b
              · subst e; exact gtB_true hgt2
              · exact HA.out j hj (by omega)
            have hg : (!(Op.bytesLess T[b].toList s.toList || T[b].toList == s.toList)) = true := hgt2
            have hbI : ((b + 1 : Nat) : Int) = (b : Int) + 1 := by omega
            clear HA hgt hgt2
            obtain ⟨y, hy⟩ : ∃ y, y = T[b] := ⟨_, rfl⟩
            rw [← hy] at yc hg
            clear hy
            go_wp2
            go_quiet (fail)
            go_wp2
            go_roundw
            case rel => exact ⟨b, _, by go_num, rfl, by omega, T2, BX.out.trans ((drewN_same _).mono BX.out.size)⟩
            case measure => simp [intOf]
          · have LO : Hid (∀ (h0 : 0 < a), (T[a - 1]'(by omega)).data.toList < s.data.toList) := fun h0 => by
              cases hgt : gtB (T[a - 1]'(by omega)) s with
              | true => exact absurd ⟨h0, hgt⟩ hgo
              | false => exact gtB_false hgt (NI.out _ (by omega))
            have HG : Hid (∀ (h0 : 0 < a), gtB (T[a - 1]'(by omega)) s = false) := fun h0 => by
              cases hgt : gtB (T[a - 1]'(by omega)) s with
              | true => exact absurd ⟨h0, hgt⟩ hgo
              | false => rfl
            have SI : Hid (Srt (gapL T a s) (inB (l.take (k + 1)))) := by
              show Srt _ _
              rw [ES.out]
              exact HI.out.1.ins ha HA.out LO.out
            have LS : Hid ((T.length + 1) * KS.B ≤ 140737488355328) := by show (T.length + 1) * 16 ≤ _; omega
            have ZX : Hid (w.heap.size ≤ wx.heap.size) := Nat.le_trans HI.out.2.2.size BX.out.size
            have BW : Hid (Below w.heap.size w wx) := HI.out.2.2.trans (BX.out.mono HI.out.2.2.size)
            clear hgo HA LO NI ES
            by_cases h0 : 0 < a
            · obtain ⟨b, rfl⟩ : ∃ b, a = b + 1 := ⟨a - 1, by omega⟩
              have ha1 : b < T.length := by omega
              obtain ⟨X2, o2, e2, yc⟩ := (OX.out.gs KS_ok.len).atS ha1
              injection e2 with e2
              injection e2 with e2 e3 _
              subst e2 e3
              rw [Nat.zero_add] at yc
              have hg : (!(Op.bytesLess T[b].toList s.toList || T[b].toList == s.toList)) = false := HG.out h0
              have hbI : ((b + 1 : Nat) : Int) = (b : Int) + 1 := by omega
              obtain ⟨y, hy⟩ : ∃ y, y = T[b] := ⟨_, rfl⟩
              rw [← hy] at yc hg
              clear hy HG
              go_wp2
              go_quiet (fail)
              go_wp2_with (at_builtin; refine append_g KS KS_ok rfl (.tmp 38) (.tmp 39) 45 rfl w.heap.size Try.underlying45 _ _ _ (.slice (some ⟨g, 0, none⟩) T.length cp) T ByteArray.empty _ rfl (OX.out.below (drewN_same _)) _ rfl rfl rfl LS.out ZX.out ?_; intro g2 c2 w2 ho2 hb2 hk2 hg2)
              have D2 : Hid (OwnG KS w2 w.heap.size (.slice (some ⟨g2, 0, none⟩) (T.length + 1) c2) (gapL T T.length ByteArray.empty) ∧ Below w.heap.size w w2) := ⟨by rw [gapL_end]; exact ho2, (BW.out.trans ((drewN_same _).mono BW.out.size)).trans hb2⟩
              clear ho2 hb2 hk2 hg2 OX
              go_loopw [6] (fun v6 wz => ∃ (m : Nat) (j : ByteArray) (wk : World), v6 = .int .i64 m ∧ wk = wz ∧ (b + 1) ≤ m ∧ m ≤ T.length ∧ Hid (OwnG KS wk w.heap.size (.slice (some ⟨g2, 0, none⟩) (T.length + 1) c2) (gapL T m j) ∧ Below w.heap.size w wk)) (fun v6 _ => (intOf v6).toNat)
              case atStart => exact ⟨T.length, ByteArray.empty, _, by go_num, rfl, ha, Nat.le_refl _, D2⟩
              case round =>
                obtain ⟨m, j, wz, rfl, rfl, hm1, hm2, HZ⟩ := hrel
                clear D2
                by_cases hgo2 : (b + 1) < m
                · obtain ⟨b3, rfl⟩ : ∃ b3, m = b3 + 1 := ⟨m - 1, by omega⟩
                  have hl3 : (gapL T (b3 + 1) j).length = T.length + 1 := gapL_len hm2 j
                  obtain ⟨X3, o3, e3, zc⟩ := (HZ.out.1.gs KS_ok.len).atS (k := b3) (by rw [hl3]; omega)
                  injection e3 with e3
                  injection e3 with e3 e4 _
                  subst e3 e4
                  rw [Nat.zero_add] at zc
                  have ez : (gapL T (b3 + 1) j)[b3]'(by rw [hl3]; omega) = T[b3]'(by omega) := gapL_at hm2 (by omega) j
                  rw [ez] at zc
                  have fz := HZ.out.1.fz
                  obtain ⟨X4, o4, e5, zc4⟩ := (HZ.out.1.gs KS_ok.len).atS (k := b3 + 1) (by rw [hl3]; omega)
                  injection e5 with e5
                  injection e5 with e5 e6 _
                  subst e5 e6
                  rw [Nat.zero_add] at zc4
                  have N3 : Hid (OwnG KS (wz.setCell ⟨g2, b3 + 1, none⟩ (.string (T[b3]'(by omega)))) w.heap.size (.slice (some ⟨g2, 0, none⟩) (T.length + 1) c2) (gapL T b3 (T[b3]'(by omega))) ∧ Below w.heap.size w (wz.setCell ⟨g2, b3 + 1, none⟩ (.string (T[b3]'(by omega))))) := by
                    refine ⟨?_, HZ.out.2.setCell (p := ⟨g2, b3 + 1, none⟩) (HZ.out.1.lt rfl).1 _⟩
                    have := HZ.out.1.set1 rfl KS_ok.len (k := b3 + 1) (T[b3]'(by omega)) (.string (T[b3]'(by omega))) rfl
                    have e7 := gapL_set hm2 (by omega) j
                    rw [show (gapL T (b3 + 1) j).set (b3 + 1) (T[b3]'(by omega)) = gapL T b3 (T[b3]'(by omega)) from e7] at this
                    exact this
                  have hbI3 : ((b3 + 1 : Nat) : Int) = (b3 : Int) + 1 := by omega
                  clear ez HZ
                  generalize (gapL T (b3 + 1) j)[b3 + 1]'(by rw [hl3]; omega) = junk at *
                  obtain ⟨y3, hy3⟩ : ∃ y3, y3 = T[b3]'(by omega) := ⟨_, rfl⟩
                  rw [← hy3] at zc N3
                  clear hy3
                  go_wp2
                  go_roundw
                  case rel => exact ⟨b3, y3, _, by go_num, rfl, by omega, by omega, N3⟩
                  case measure => simp [intOf]
                · have hma : m = (b + 1) := by omega
                  rw [hma] at HZ hm2
                  clear hma
                  have hl3 : (gapL T (b + 1) j).length = T.length + 1 := gapL_len hm2 j
                  have fz := HZ.out.1.fz
                  obtain ⟨X4, o4, e5, zc4⟩ := (HZ.out.1.gs KS_ok.len).atS (k := (b + 1)) (by rw [hl3]; omega)
                  injection e5 with e5
                  injection e5 with e5 e6 _
                  subst e5 e6
                  rw [Nat.zero_add] at zc4
                  have xz := XC.out _ HZ.out.2
                  have hl4 : (gapL T (b + 1) s).length = T.length + 1 := gapL_len hm2 s
                  have N4 : Hid (Srt (gapL T (b + 1) s) (inB (l.take (k + 1))) ∧ OwnG KS (wz.setCell ⟨g2, (b + 1), none⟩ (.string s)) w.heap.size (.slice (some ⟨g2, 0, none⟩) (gapL T (b + 1) s).length c2) (gapL T (b + 1) s) ∧ Below w.heap.size w (wz.setCell ⟨g2, (b + 1), none⟩ (.string s))) := by
                    refine ⟨SI.out, ?_, HZ.out.2.setCell (p := ⟨g2, (b + 1), none⟩) (HZ.out.1.lt rfl).1 _⟩
                    have := HZ.out.1.set1 rfl KS_ok.len (k := (b + 1)) s (.string s) rfl
                    rw [gapL_put hm2] at this
                    rw [hl4]; exact this
                  clear HZ
                  generalize (gapL T (b + 1) j)[(b + 1)]'(by rw [hl3]; omega) = junk at *
                  go_wp2
                  go_roundw
                  case rel => exact ⟨k + 1, g2, c2, gapL T (b + 1) s, _, by go_num, by rw [hl4], rfl, HLT.out, N4⟩
                  case measure => have := HLT.out; simp [intOf]; omega
            · have h0' : decide ((0 : Int) < (a : Int)) = false := by simp; omega
              clear HG
              go_wp2
              go_quiet (fail)
              go_wp2_with (at_builtin; refine append_g KS KS_ok rfl (.tmp 38) (.tmp 39) 45 rfl w.heap.size Try.underlying45 _ _ _ (.slice (some ⟨g, 0, none⟩) T.length cp) T ByteArray.empty _ rfl (OX.out.below (drewN_same _)) _ rfl rfl rfl LS.out ZX.out ?_; intro g2 c2 w2 ho2 hb2 hk2 hg2)
              have D2 : Hid (OwnG KS w2 w.heap.size (.slice (some ⟨g2, 0, none⟩) (T.length + 1) c2) (gapL T T.length ByteArray.empty) ∧ Below w.heap.size w w2) := ⟨by rw [gapL_end]; exact ho2, (BW.out.trans ((drewN_same _).mono BW.out.size)).trans hb2⟩
              clear ho2 hb2 hk2 hg2 OX
              go_loopw [6] (fun v6 wz => ∃ (m : Nat) (j : ByteArray) (wk : World), v6 = .int .i64 m ∧ wk = wz ∧ a ≤ m ∧ m ≤ T.length ∧ Hid (OwnG KS wk w.heap.size (.slice (some ⟨g2, 0, none⟩) (T.length + 1) c2) (gapL T m j) ∧ Below w.heap.size w wk)) (fun v6 _ => (intOf v6).toNat)
              case atStart => exact ⟨T.length, ByteArray.empty, _, by go_num, rfl, ha, Nat.le_refl _, D2⟩
              case round =>
                obtain ⟨m, j, wz, rfl, rfl, hm1, hm2, HZ⟩ := hrel
                clear D2
                by_cases hgo2 : a < m
                · obtain ⟨b3, rfl⟩ : ∃ b3, m = b3 + 1 := ⟨m - 1, by omega⟩
                  have hl3 : (gapL T (b3 + 1) j).length = T.length + 1 := gapL_len hm2 j
                  obtain ⟨X3, o3, e3, zc⟩ := (HZ.out.1.gs KS_ok.len).atS (k := b3) (by rw [hl3]; omega)
                  injection e3 with e3
                  injection e3 with e3 e4 _
                  subst e3 e4
                  rw [Nat.zero_add] at zc
                  have ez : (gapL T (b3 + 1) j)[b3]'(by rw [hl3]; omega) = T[b3]'(by omega) := gapL_at hm2 (by omega) j
                  rw [ez] at zc
                  have fz := HZ.out.1.fz
                  obtain ⟨X4, o4, e5, zc4⟩ := (HZ.out.1.gs KS_ok.len).atS (k := b3 + 1) (by rw [hl3]; omega)
                  injection e5 with e5
                  injection e5 with e5 e6 _
                  subst e5 e6
                  rw [Nat.zero_add] at zc4
                  have N3 : Hid (OwnG KS (wz.setCell ⟨g2, b3 + 1, none⟩ (.string (T[b3]'(by omega)))) w.heap.size (.slice (some ⟨g2, 0, none⟩) (T.length + 1) c2) (gapL T b3 (T[b3]'(by omega))) ∧ Below w.heap.size w (wz.setCell ⟨g2, b3 + 1, none⟩ (.string (T[b3]'(by omega))))) := by
                    refine ⟨?_, HZ.out.2.setCell (p := ⟨g2, b3 + 1, none⟩) (HZ.out.1.lt rfl).1 _⟩
                    have := HZ.out.1.set1 rfl KS_ok.len (k := b3 + 1) (T[b3]'(by omega)) (.string (T[b3]'(by omega))) rfl
                    have e7 := gapL_set hm2 (by omega) j
                    rw [show (gapL T (b3 + 1) j).set (b3 + 1) (T[b3]'(by omega)) = gapL T b3 (T[b3]'(by omega)) from e7] at this
                    exact this
                  have hbI3 : ((b3 + 1 : Nat) : Int) = (b3 : Int) + 1 := by omega
                  clear ez HZ
                  generalize (gapL T (b3 + 1) j)[b3 + 1]'(by rw [hl3]; omega) = junk at *
                  obtain ⟨y3, hy3⟩ : ∃ y3, y3 = T[b3]'(by omega) := ⟨_, rfl⟩
                  rw [← hy3] at zc N3
                  clear hy3
                  go_wp2
                  go_roundw
                  case rel => exact ⟨b3, y3, _, by go_num, rfl, by omega, by omega, N3⟩
                  case measure => simp [intOf]
                · have hma : m = a := by omega
                  rw [hma] at HZ hm2
                  clear hma
                  have hl3 : (gapL T a j).length = T.length + 1 := gapL_len hm2 j
                  have fz := HZ.out.1.fz
                  obtain ⟨X4, o4, e5, zc4⟩ := (HZ.out.1.gs KS_ok.len).atS (k := a) (by rw [hl3]; omega)
                  injection e5 with e5
                  injection e5 with e5 e6 _
                  subst e5 e6
                  rw [Nat.zero_add] at zc4
                  have xz := XC.out _ HZ.out.2
                  have hl4 : (gapL T a s).length = T.length + 1 := gapL_len hm2 s
                  have N4 : Hid (Srt (gapL T a s) (inB (l.take (k + 1))) ∧ OwnG KS (wz.setCell ⟨g2, a, none⟩ (.string s)) w.heap.size (.slice (some ⟨g2, 0, none⟩) (gapL T a s).length c2) (gapL T a s) ∧ Below w.heap.size w (wz.setCell ⟨g2, a, none⟩ (.string s))) := by
                    refine ⟨SI.out, ?_, HZ.out.2.setCell (p := ⟨g2, a, none⟩) (HZ.out.1.lt rfl).1 _⟩
                    have := HZ.out.1.set1 rfl KS_ok.len (k := a) s (.string s) rfl
                    rw [gapL_put hm2] at this
                    rw [hl4]; exact this
                  clear HZ
                  generalize (gapL T a j)[a]'(by rw [hl3]; omega) = junk at *
                  go_wp2
                  go_roundw
                  case rel => exact ⟨k + 1, g2, c2, gapL T a s, _, by go_num, by rw [hl4], rfl, HLT.out, N4⟩
                  case measure => have := HLT.out; simp [intOf]; omega
    · have hke : k = l.length := by omega
      subst hke
      have e0 := HE.out T HI.out.1
      have H2 : Hid (OwnG KS wr w.heap.size (.slice (some ⟨g, 0, none⟩) T.length cp) T ∧ Below w.heap.size w wr) := HI.out.2
      go_wp2
      go_ret
      exact ⟨some ⟨g, 0, none⟩, cp, T, e0, rfl, H2.out.1, H2.out.2⟩
end Go.Proofs.Ytofdfofpdfaimaa
