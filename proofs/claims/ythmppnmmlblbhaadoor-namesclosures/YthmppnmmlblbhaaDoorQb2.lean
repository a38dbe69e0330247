/- Names: a closure gathered: follow, closure. -/
import Derived.Test.YthmppnmmlblbhaaDoorQa7
import Derived.Test.YthmppnmmlblbhaaDoorQb1
namespace Go.Proofs.YthmppnmmlblbhaaDoor
open Go.RowKit

/-- What a name asks for, in a set. -/
def askF (L : List Prv) (s : ByteArray) : List ByteArray := match L.find? (fun p => decide (p.name = s)) with
  | some p => textsL p.ops 3
  | none => []
/-- What all ask for. -/
def askU (L : List Prv) : List ByteArray := L.flatMap fun p => textsL p.ops 3
theorem askF_mem {L : List Prv} {s x : ByteArray} (h : x ∈ askF L s) : x ∈ askU L := by
  unfold askF at h
  split at h
  · rename_i p hp
    exact List.mem_flatMap.2 ⟨p, List.mem_of_find?_eq_some hp, h⟩
  · cases h
theorem askF_len (L : List Prv) (s : ByteArray) : (askF L s).length ≤ (askU L).length := by
  unfold askF
  split
  · rename_i p hp
    have hm := List.mem_of_find?_eq_some hp
    clear hp
    unfold askU
    induction L with
    | nil => cases hm
    | cons a r ih =>
      rw [List.flatMap_cons, List.length_append]
      cases hm with
      | head => omega
      | tail _ h => have := ih h; omega
  · simp
/-- The map of what is asked for, in a world: a name's row, or none. -/
structure AKM (w : World) (b : Nat) (L : List Prv) (f : ByteArray → Option Value) : Prop where
  mv : MV w b L.length f
  hs : ∀ s, (f s).isSome = inB (nameL L) s
  each : ∀ s, ∃ p c, (f s).getD (.slice none 0 0) = .slice p (askF L s).length c ∧ GS KS w (.slice p (askF L s).length c) (askF L s) ∧ (∀ x, (Value.slice p (askF L s).length c).ownBlock = some x → x ≠ b)
  un : ∀ x ∈ askU L, x.size ≤ maxLen
  le : (askU L).length ≤ 65536
  fr : ∀ x v y, f x = some v → v.ownBlock = some y → ∃ cs, w.heap[y]? = some (.cells cs 9)
theorem AKM.far {w w' : World} {b : Nat} {L : List Prv} {f : ByteArray → Option Value} {F : Nat → Prop} (h : AKM w b L f) (k : But F w w') (hF : ∀ x, F x → ∀ cs, w.heap[x]? ≠ some (.cells cs 9)) (hb : ¬ F b) : AKM w' b L f := by
  refine ⟨h.mv.far (k.block b h.mv.lt hb), h.hs, fun s => ?_, h.un, h.le, fun x v y hx hy => ?_⟩
  · obtain ⟨p, c, h1, h2, h3⟩ := h.each s
    refine ⟨p, c, h1, ?_, h3⟩
    cases hf : f s with
    | none =>
      rw [hf] at h1
      have e : (Value.slice none 0 0) = .slice p (askF L s).length c := h1
      injection e with e1 e2 e3
      subst e1 e3
      have : askF L s = [] := List.length_eq_zero_iff.1 e2.symm
      rw [this]
      exact Or.inl ⟨Or.inl rfl, rfl⟩
    | some v =>
      have e : v = .slice p (askF L s).length c := by rw [hf] at h1; exact h1
      refine h2.blk k.size fun x hx hl => k.block x hl fun hf2 => ?_
      obtain ⟨cs, hc⟩ := h.fr s v x hf (by rw [e]; exact hx)
      exact hF x hf2 cs hc
  · obtain ⟨cs, hc⟩ := h.fr x v y hx hy
    have hl : y < w.heap.size := (Array.getElem?_eq_some_iff.1 hc).1
    exact ⟨cs, (k.block y hl fun hf => hF y hf cs hc).trans hc⟩
theorem AKM.below {w w' : World} {b : Nat} {L : List Prv} {f : ByteArray → Option Value} (h : AKM w b L f) (k : Below w.heap.size w w') : AKM w' b L f :=
  h.far (But.of_below (F := fun _ => False) k) (fun _ e => e.elim) (fun e => e)
theorem find_name {L : List Prv} {k : Nat} (hk : k < L.length) (hd : ∀ j, j < L.length → dupB L j = false) : L.find? (fun p => decide (p.name = L[k].name)) = some L[k] := by
  have hmem : ∃ j, ∃ hj : j < L.length, (∀ i (hi : i < j), (L[i]'(by omega)).name ≠ L[k].name) ∧ L[j].name = L[k].name := by
    have hi : (L.findIdx fun p => decide (p.name = L[k].name)) < L.length := List.findIdx_lt_length_of_exists ⟨L[k], List.getElem_mem hk, by simp⟩
    refine ⟨_, hi, fun i hi2 => ?_, ?_⟩
    · have := List.not_of_lt_findIdx hi2
      simpa using this
    · have := List.findIdx_getElem (w := hi)
      simpa using this
  obtain ⟨j, hj, h1, h2⟩ := hmem
  have e : j = k := by
    by_cases e : j = k
    · exact e
    · exfalso
      have : j < k ∨ k < j := by omega
      rcases this with hlt | hlt
      · have hdk := hd k hk
        have : dupB L k = true := by
          unfold dupB seenK nameL
          rw [List.any_eq_true]
          refine ⟨L[j].name, ?_, by simp [List.getD, hk, h2]⟩
          rw [List.mem_take_iff_getElem]
          exact ⟨j, by simp; omega, by simp⟩
        rw [this] at hdk; cases hdk
      · exact h1 k hlt rfl
  subst e
  rw [List.find?_eq_some_iff_getElem]
  refine ⟨by simp, j, hj, rfl, fun i hi => ?_⟩
  have := h1 i hi
  simpa using this
theorem AKI.akm {w wk : World} {b : Nat} {L : List Pvx} {f : ByteArray → Option Value} (h : AKI w wk b L L.length f) (hd : ∀ j, j < L.length → dupB (pL L) j = false) (hc : ∀ j (hj : j < L.length), L[j].p.ops.length ≤ 256) (hl : L.length ≤ 256) (ht : ∀ x ∈ L, ∀ c ∈ x.p.ops, c.text.size ≤ maxLen) : AKM wk b (pL L) f := by
  have hask : ∀ k (hk : k < L.length), askF (pL L) L[k].p.name = textsL L[k].p.ops 3 := fun k hk => by
    have := find_name (L := pL L) (k := k) (by rw [pL_len]; exact hk) (by rw [pL_len]; exact hd)
    rw [pL_at hk] at this
    unfold askF
    rw [this]
  have hnone : ∀ s, f s = none → askF (pL L) s = [] := fun s hs => by
    have h1 := h.has s
    rw [hs] at h1
    unfold askF
    have : (pL L).find? (fun p => decide (p.name = s)) = none := by
      rw [List.find?_eq_none]
      intro p hp
      simp only [decide_eq_true_eq]
      intro e
      have : inB (nameL (pL L)) s = true := (inB_iff _ _).2 (List.mem_map.2 ⟨p, hp, e⟩)
      rw [this] at h1; cases h1
    rw [this]
  have hsome : ∀ s v, f s = some v → ∃ k, ∃ hk : k < L.length, L[k].p.name = s := fun s v hs => by
    have h1 := h.has s
    rw [hs] at h1
    have h2 := (inB_iff _ _).1 h1.symm
    unfold nameL pL at h2
    rw [List.map_map] at h2
    obtain ⟨x, hx, e⟩ := List.mem_map.1 h2
    obtain ⟨k, hk, rfl⟩ := List.mem_iff_getElem.1 hx
    exact ⟨k, hk, e⟩
  refine ⟨by rw [pL_len]; exact h.mv, h.has, fun s => ?_, fun x hx => ?_, ?_, fun x v y hx hy => ?_⟩
  · cases hf : f s with
    | none => exact ⟨none, 0, by rw [hnone s hf]; rfl, by rw [hnone s hf]; exact Or.inl ⟨Or.inl rfl, rfl⟩, fun x hx => by simp [Value.ownBlock] at hx⟩
    | some v =>
      obtain ⟨k, hk, e⟩ := hsome s v hf
      obtain ⟨p, c, e1, o⟩ := h.each k hk hk
      rw [← e, hask k hk]
      rw [← e] at hf
      rw [e1] at hf
      injection hf with hf
      refine ⟨p, c, by rw [← hf]; rfl, o.gs KS_ok.len, fun x hx => own_mp o h.mv hx⟩
  · unfold askU pL at hx
    obtain ⟨q, hq, hx⟩ := List.mem_flatMap.1 hx
    obtain ⟨y, hy, rfl⟩ := List.mem_map.1 hq
    exact texts_sz (ht y hy) x hx
  · have key : ∀ M : List Pvx, (∀ x ∈ M, x.p.ops.length ≤ 256) → (askU (pL M)).length ≤ M.length * 256 := fun M => by
      induction M with
      | nil => intro _; simp [askU, pL]
      | cons a r ih =>
        intro hM
        have h1 := ih (fun x hx => hM x (.tail _ hx))
        have h2 := hM a (.head _)
        have h3 := textsL_len a.p.ops 3
        unfold askU pL at h1 ⊢
        rw [List.map_cons, List.flatMap_cons, List.length_append, List.length_cons]
        omega
    have := key L (fun x hx => by obtain ⟨k, hk, rfl⟩ := List.mem_iff_getElem.1 hx; exact hc k hk)
    omega
  · obtain ⟨k, hk, e⟩ := hsome x v hx
    obtain ⟨p, c, e1, o⟩ := h.each k hk hk
    rw [e, hx] at e1
    injection e1 with e1
    rw [e1] at hy
    rcases o.2 with ⟨q, _⟩ | ⟨g, cap, cur, q1, _, q3, _⟩
    · rw [q] at hy; cases hy
    · rw [q1] at hy
      injection hy with hy
      exact ⟨cur, by rw [← (show g = y from hy)]; exact q3⟩
/-- The boxes that follow knows: the map of what is asked for, the set, itself. -/
structure FW (w : World) (ba bf bx bA bS : Nat) : Prop where
  a : w.heap[ba]? = some (.cells #[.map (some bA)] 70)
  s : w.heap[bf]? = some (.cells #[.map (some bS)] 66)
  x : w.heap[bx]? = some (.cells #[.func (.func 88) #[] #[.pointer (some ⟨ba, 0, none⟩), .pointer (some ⟨bf, 0, none⟩), .pointer (some ⟨bx, 0, none⟩)]] 68)
  ne : bS ≠ ba ∧ bS ≠ bf ∧ bS ≠ bx ∧ bS ≠ bA
theorem FW.far {w w' : World} {ba bf bx bA bS : Nat} (h : FW w ba bf bx bA bS) (k : But (fun x => x = bS) w w') : FW w' ba bf bx bA bS := by
  have lt : ∀ {y o}, w.heap[y]? = some o → y < w.heap.size := fun e => (Array.getElem?_eq_some_iff.1 e).1
  exact ⟨(k.block ba (lt h.a) (fun e => h.ne.1 e.symm)).trans h.a, (k.block bf (lt h.s) (fun e => h.ne.2.1 e.symm)).trans h.s, (k.block bx (lt h.x) (fun e => h.ne.2.2.1 e.symm)).trans h.x, h.ne⟩
theorem SA.notRow {w : World} {b n : Nat} {p : ByteArray → Bool} (h : SA w b n p) : ∀ cs, w.heap[b]? ≠ some (.cells cs 9) := fun cs e => by
  obtain ⟨D, ⟨es, cl, h1, _⟩, _⟩ := h
  rw [e] at h1; cases h1
set_option maxHeartbeats 8000000 in
set_option maxRecDepth 100000 in
theorem follow_any (L : List Prv) (ba bf bx bA bS : Nat) (f : ByteArray → Option Value) (B : Nat) (hB : B ≤ 1000000) : ∀ (m : Nat) (nm : ByteArray) (w : World) (n : Nat) (p : ByteArray → Bool), mu (askU L) p ≤ m → n + mu (askU L) p ≤ B → nm.size ≤ maxLen → FW w ba bf bx bA bS → AKM w bA L f → SA w bS n p →
    Calls Tryd.prog 88 #[.string nm, .pointer (some ⟨ba, 0, none⟩), .pointer (some ⟨bf, 0, none⟩), .pointer (some ⟨bx, 0, none⟩)] w fun e w' => e = .returned (.tuple #[]) ∧ ∃ n' q, SA w' bS n' q ∧ n' + mu (askU L) q ≤ B ∧ DF (askF L) nm p q ∧ But (fun x => x = bS) w w' := by
  intro m
  induction m using Nat.strongRecOn with
  | _ m IH0 =>
  intro nm w n p hmu hn hnm hw hk hs
  have IH : Hid (∀ (y : ByteArray) (w1 : World) (n1 : Nat) (p1 : ByteArray → Bool), mu (askU L) p1 < m → n1 + mu (askU L) p1 ≤ B → y.size ≤ maxLen → FW w1 ba bf bx bA bS → AKM w1 bA L f → SA w1 bS n1 p1 → _) := fun y w1 n1 p1 h1 h2 h3 h4 h5 h6 => IH0 (mu (askU L) p1) h1 y w1 n1 p1 (Nat.le_refl _) h2 h3 h4 h5 h6
  obtain ⟨pT, cT, e1, gT, nT⟩ := hk.each nm
  have HE : Hid ((f nm).getD (.slice none 0 0) = .slice pT (askF L nm).length cT) := e1
  have HM : Hid (MV w bA L.length f) := hk.mv
  have HG : Hid (∀ w1, But (fun x => x = bS) w w1 → GS KS w1 (.slice pT (askF L nm).length cT) (askF L nm)) := fun w1 k => by
    refine gT.blk k.size fun x hx hl => k.block x hl fun e => ?_
    cases hf : f nm with
    | none => rw [hf] at e1; have e1 : (Value.slice none 0 0) = .slice pT (askF L nm).length cT := e1; rw [← e1] at hx; cases hx
    | some v =>
      have ev : v = .slice pT (askF L nm).length cT := by rw [hf] at e1; exact e1
      obtain ⟨cs, hc⟩ := hk.fr nm v x hf (by rw [ev]; exact hx)
      rw [e] at hc
      exact hs.notRow cs hc
  have HW : Hid (∀ w1, But (fun x => x = bS) w w1 → FW w1 ba bf bx bA bS) := fun w1 k => hw.far k
  have HK : Hid (∀ w1, But (fun x => x = bS) w w1 → AKM w1 bA L f) := fun w1 k => hk.far k (fun x e => by rw [e]; exact hs.notRow) (fun e => hw.ne.2.2.2 e.symm)
  have HT : Hid (∀ y ∈ askF L nm, y.size ≤ maxLen ∧ y ∈ askU L) := fun y hy => ⟨hk.un y (askF_mem hy), askF_mem hy⟩
  have hl : (askF L nm).length ≤ 65536 := Nat.le_trans (askF_len L nm) hk.le
  have ca := box_cell hw.a
  have cs := box_cell hw.s
  have cx := box_cell hw.x
  have S0 : Hid (∃ n' q, SA w bS n' q ∧ n' + mu (askU L) q ≤ B ∧ DK (askF L) nm p q 0 ∧ But (fun x => x = bS) w w) := ⟨n, p, hs, hn, DK.start _ _ _, But.refl _ _⟩
  have HMU : Hid (mu (askU L) p ≤ m) := hmu
  clear IH0 hmu hn hw hk hs e1 gT nT
  go_enter Tryd.func88, Tryd.ntmps88
  go_wp2_with (at_lookup; refine mv_at rfl _ _ 70 rfl 28 Tryd.underlying70 (zeroSS _) bA L.length f rfl HM.out nm rfl hnm ?_; rw [HE.out])
  go_loopw [11] (fun v11 wr => ∃ (k : Nat) (wk : World), v11 = .int .i64 k ∧ wk = wr ∧ k ≤ (askF L nm).length ∧ Hid (∃ n' q, SA wk bS n' q ∧ n' + mu (askU L) q ≤ B ∧ DK (askF L) nm p q k ∧ But (fun x => x = bS) w wk)) (fun v11 _ => (askF L nm).length - (intOf v11).toNat)
  case atStart => exact ⟨0, _, rfl, rfl, Nat.zero_le _, S0⟩
  case round =>
    obtain ⟨k, wr, rfl, rfl, hk, HI⟩ := hrel
    clear S0
    obtain ⟨n', q, hs, hn, hd, hbt⟩ := HI.out
    have SQ : Hid (SA wr bS n' q) := hs
    have NQ : Hid (n' + mu (askU L) q ≤ B) := hn
    have DQ : Hid (DK (askF L) nm p q k) := hd
    have BQ : Hid (But (fun x => x = bS) w wr) := hbt
    clear HI hs hn hd hbt ca cs cx
    by_cases hlt : k < (askF L nm).length
    · obtain ⟨X, o, e1, x1⟩ := (HG.out _ BQ.out).atS hlt
      obtain rfl : pT = some ⟨X, o, none⟩ := e1
      have cs := box_cell (HW.out _ BQ.out).s
      have ysz := (HT.out _ (List.getElem_mem hlt)).1
      have YU : Hid ((askF L nm)[k] ∈ askU L) := (HT.out _ (List.getElem_mem hlt)).2
      have HA : Hid _ := has_any bS n' q (askF L nm)[k] wr SQ.out ysz
      have SK : Hid (q (askF L nm)[k] = true → DK (askF L) nm p q (k + 1)) := fun e => DQ.out.skip hlt e
      have SG : Hid (∀ q', DF (askF L) (askF L nm)[k] (addP q (askF L nm)[k]) q' → DK (askF L) nm p q' (k + 1)) := fun q' e => DQ.out.go hlt e
      have ZB : Hid (bf < wr.heap.size ∧ bx < wr.heap.size) := ⟨(Array.getElem?_eq_some_iff.1 (HW.out _ BQ.out).s).1, (Array.getElem?_eq_some_iff.1 (HW.out _ BQ.out).x).1⟩
      have BT : Hid (∀ w1, Below wr.heap.size wr w1 → But (fun x => x = bS) w w1) := fun w1 b => BQ.out.trans (But.of_below (F := fun _ => False) b) (fun _ h => h.elim)
      have MQ : Hid (∀ q', (∀ s, q s = true → q' s = true) → q (askF L nm)[k] = false → q' (askF L nm)[k] = true → mu (askU L) q' < mu (askU L) q) := fun q' h1 h2 h3 => mu_lt h1 YU.out h2 h3
      have MP : Hid (mu (askU L) q ≤ mu (askU L) p) := mu_le _ DQ.out.up
      have HLT : Hid (k + 1 ≤ (askF L nm).length) := hlt
      generalize (askF L nm)[k] = y at *
      go_wp2_with fail
      refine Calls.mono HA.out ?_
      rintro e w1 ⟨rfl, hb1⟩
      have B1 : Hid (Below wr.heap.size wr w1) := hb1
      clear hb1 HA x1
      cases hq : q y with
      | true =>
        have N1 : Hid (∃ n' q, SA w1 bS n' q ∧ n' + mu (askU L) q ≤ B ∧ DK (askF L) nm p q (k + 1) ∧ But (fun x => x = bS) w w1) := ⟨n', q, SQ.out.below B1.out, NQ.out, SK.out hq, BT.out _ B1.out⟩
        go_wp2_with fail
        go_roundw
        case rel => exact ⟨k + 1, _, by go_num, rfl, HLT.out, N1⟩
        case measure => have := HLT.out; simp [intOf]; omega
      | false =>
        have lt1 := MQ.out (addP q y) (fun s hs => addP_iff.2 (Or.inl hs)) hq (addP_iff.2 (Or.inr rfl))
        have LT : Hid (mu (askU L) (addP q y) < m ∧ n' + 1 + mu (askU L) (addP q y) ≤ B) := ⟨by have h1 := MP.out; have h2 := HMU.out; omega, by have h1 := NQ.out; omega⟩
        have W1 : Hid (FW w1 ba bf bx bA bS) := HW.out _ (BT.out _ B1.out)
        have cs1 := box_cell W1.out.s
        have AD : Hid (Calls Tryd.prog 41 #[.map (some bS), .string y] w1 fun e w' => e = .returned (.tuple #[]) ∧ SA w' bS (n' + 1) (addP q y) ∧ But (fun x => x = bS) w1 w') := add_any bS n' q y w1 (SQ.out.below B1.out) ysz (by have := LT.out.2; unfold maxLen; omega)
        clear lt1 MQ
        go_wp2_with fail
        refine Calls.mono AD.out ?_
        rintro e w2 ⟨rfl, hs2, hb2⟩
        have B2 : Hid (But (fun x => x = bS) w w2) := (BT.out _ B1.out).trans hb2 (fun x hx => Or.inl hx)
        have S2 : Hid (SA w2 bS (n' + 1) (addP q y)) := hs2
        clear hs2 hb2 AD cs1
        have cx2 := box_cell (HW.out _ B2.out).x
        have C2 : Hid _ := IH.out y w2 (n' + 1) (addP q y) LT.out.1 LT.out.2 ysz (HW.out _ B2.out) (HK.out _ B2.out) S2.out
        go_wp2_with fail
        refine Calls.mono C2.out ?_
        rintro e w3 ⟨rfl, n3, q3, hs3, hn3, hd3, hb3⟩
        have N3 : Hid (∃ n' q, SA w3 bS n' q ∧ n' + mu (askU L) q ≤ B ∧ DK (askF L) nm p q (k + 1) ∧ But (fun x => x = bS) w w3) := ⟨n3, q3, hs3, hn3, SG.out _ hd3, B2.out.trans hb3 (fun x hx => Or.inl hx)⟩
        clear hs3 hn3 hd3 hb3 C2
        go_wp2_with fail
        go_roundw
        case rel => exact ⟨k + 1, _, by go_num, rfl, HLT.out, N3⟩
        case measure => have := HLT.out; simp [intOf]; omega
    · have hke : k = (askF L nm).length := by omega
      have DE : Hid (DK (askF L) nm p q (askF L nm).length) := by rw [← hke]; exact DQ.out
      clear DQ hke
      go_wp2_with fail
      go_end0
      exact ⟨rfl, n', q, SQ.out, NQ.out, DE.out.fin, BQ.out⟩
end Go.Proofs.YthmppnmmlblbhaaDoor
