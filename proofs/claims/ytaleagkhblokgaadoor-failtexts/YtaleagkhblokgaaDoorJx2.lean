/- Failures: the printer's lay, walked. -/
import Derived.Test.YtaleagkhblokgaaDoorJx1
import Derived.Test.YtaleagkhblokgaaDoorStrApp
import Derived.Test.YtaleagkhblokgaaDoorQuote
import Derived.Test.YtaleagkhblokgaaDoorHx5
namespace Go.Proofs.YtaleagkhblokgaaDoor
open Go.RowKit

theorem Own.form {w : World} {base : Nat} {v : Value} {bs : List UInt8} (h : Own w base v bs) : ∃ p cap, v = .slice p bs.length cap := by
  rcases h.2 with ⟨rfl, e⟩ | ⟨g, cap, cur, rfl, _⟩
  · exact ⟨none, 0, by rw [e]⟩
  · exact ⟨_, cap, rfl⟩
theorem Own.far {w w' : World} {base : Nat} {v : Value} {bs : List UInt8} (h : Own w base v bs) (k : ∀ g, v.ownBlock = some g → w'.heap[g]? = w.heap[g]?) : Own w' base v bs := by
  obtain ⟨h1, h2⟩ := h
  refine ⟨h1, ?_⟩
  rcases h2 with h2 | ⟨g, cap, cur, e1, e2, e3, e4⟩
  · exact Or.inl h2
  · exact Or.inr ⟨g, cap, cur, e1, e2, by rw [k g (by rw [e1]; rfl)]; exact e3, e4⟩
theorem Own.blk {w : World} {base : Nat} {v : Value} {bs : List UInt8} (h : Own w base v bs) {g : Nat} (hg : v.ownBlock = some g) : base ≤ g ∧ ∃ cur, w.heap[g]? = some (.cells cur 5) := by
  rcases h.2 with ⟨rfl, _⟩ | ⟨g', cap, cur, rfl, e2, e3, _⟩
  · cases hg
  · injection hg with hg
    have e : g' = g := hg
    subst e
    exact ⟨e2, cur, e3⟩
/-- All but the printer's own block, and rows of bytes from it on, stay. -/
structure KT (pb : Nat) (a b : World) : Prop where
  os : b.os = a.os
  tape : b.tape = a.tape
  output : b.output = a.output
  size : a.heap.size ≤ b.heap.size
  block : ∀ j, j < a.heap.size → j ≠ pb → (j < pb ∨ ∀ arr, a.heap[j]? ≠ some (.cells arr 5)) → b.heap[j]? = a.heap[j]?
theorem KT.refl (pb : Nat) (a : World) : KT pb a a := ⟨rfl, rfl, rfl, Nat.le_refl _, fun _ _ _ _ => rfl⟩
theorem KT.trans {pb : Nat} {a b c : World} (h : KT pb a b) (k : KT pb b c) : KT pb a c :=
  ⟨k.os.trans h.os, k.tape.trans h.tape, k.output.trans h.output, Nat.le_trans h.size k.size, fun j hj hp hc => by
    have e := h.block j hj hp hc
    exact (k.block j (Nat.lt_of_lt_of_le hj h.size) hp (by rw [e]; exact hc)).trans e⟩
theorem KT.below {pb : Nat} {a b : World} (h : KT pb a b) (hp : pb < a.heap.size) : Below pb a b :=
  ⟨h.os, h.tape, h.output, h.size, fun j hj => h.block j (by omega) (by omega) (Or.inl hj)⟩
theorem KT.of_below {pb : Nat} {a b : World} (h : Below a.heap.size a b) : KT pb a b :=
  ⟨h.os, h.tape, h.output, h.size, fun j hj _ _ => h.block j hj⟩
theorem KT.grown {pb : Nat} {a b : World} {base : Nat} {v : Value} {bs : List UInt8} (h : a.grownBy b v.ownBlock) (ho : Own a base v bs) (hb : pb < base) : KT pb a b := by
  have hB := (Below.refl 0 a).grown h (Nat.zero_le _) (fun q hq => Nat.zero_le _)
  refine ⟨hB.os, hB.tape, hB.output, hB.size, fun j hj hp hc => h.block j hj (fun e => ?_)⟩
  obtain ⟨h1, cur, h2⟩ := ho.blk e.symm
  rcases hc with hc | hc
  · omega
  · exact hc cur h2
theorem KT.set {pb : Nat} {a b : World} (h : KT pb a b) (o : Nat) (v : Value) : KT pb a (b.setCell ⟨pb, o, none⟩ v) :=
  ⟨h.os, h.tape, h.output, by simpa [World.setCell] using h.size, fun j hj hp hc => (Below.heap_setCell _ _ _ _ hp).trans (h.block j hj hp hc)⟩
/-- A block of other things than bytes. -/
theorem KT.keep {pb : Nat} {a b : World} (h : KT pb a b) {X : Nat} {arr : Array Value} {t : TypeId} (hX : a.heap[X]? = some (.cells arr t)) (hp : X ≠ pb) (ht : t ≠ 5) : b.heap[X]? = some (.cells arr t) := by
  have hl : X < a.heap.size := (Array.getElem?_eq_some_iff.1 hX).1
  rw [h.block X hl hp (Or.inr (fun arr' e => by rw [hX] at e; injection e with e; injection e with _ e _; exact ht e))]
  exact hX
/-- The printer, what it has told so far. -/
structure PR (pb : Nat) (wk : World) (vf vw tv : Value) (bs : List UInt8) : Prop where
  hp : wk.heap[pb]? = some (.cells #[vf, vw, tv] 73)
  ow : Own wk (pb + 1) tv bs
theorem PR.lt {pb : Nat} {wk : World} {vf vw tv : Value} {bs : List UInt8} (h : PR pb wk vf vw tv bs) : pb < wk.heap.size := (Array.getElem?_eq_some_iff.1 h.hp).1
theorem PR.c0 {pb : Nat} {wk : World} {vf vw tv : Value} {bs : List UInt8} (h : PR pb wk vf vw tv bs) : wk.cell? ⟨pb, 0, none⟩ = some vf := cell_of_row _ _ _ _ _ _ h.hp
theorem PR.c1 {pb : Nat} {wk : World} {vf vw tv : Value} {bs : List UInt8} (h : PR pb wk vf vw tv bs) : wk.cell? ⟨pb, 1, none⟩ = some vw := cell_of_row _ _ _ _ _ _ h.hp
theorem PR.c2 {pb : Nat} {wk : World} {vf vw tv : Value} {bs : List UInt8} (h : PR pb wk vf vw tv bs) : wk.cell? ⟨pb, 2, none⟩ = some tv := cell_of_row _ _ _ _ _ _ h.hp
theorem PR.fz {pb : Nat} {wk : World} {vf vw tv : Value} {bs : List UInt8} (h : PR pb wk vf vw tv bs) (o : Nat) : wk.frozen? ⟨pb, o, none⟩ = false := by simp [World.frozen?, h.hp]
theorem PR.below {pb : Nat} {wk w' : World} {vf vw tv : Value} {bs : List UInt8} (h : PR pb wk vf vw tv bs) (b : Below wk.heap.size wk w') : PR pb w' vf vw tv bs :=
  ⟨(b.block pb h.lt).trans h.hp, h.ow.below b⟩
theorem PR.put {pb : Nat} {wk w1 : World} {vf vw tv tv' : Value} {bs bs' : List UInt8} (h : PR pb wk vf vw tv bs) (hg : wk.grownBy w1 tv.ownBlock) (ho : Own w1 (pb + 1) tv' bs') : PR pb (w1.setCell ⟨pb, 2, none⟩ tv') vf vw tv' bs' ∧ KT pb wk (w1.setCell ⟨pb, 2, none⟩ tv') ∧ w1.cell? ⟨pb, 2, none⟩ = some tv ∧ w1.frozen? ⟨pb, 2, none⟩ = false := by
  have hb : w1.heap[pb]? = some (.cells #[vf, vw, tv] 73) := by
    rw [hg.block pb h.lt (fun e => by have := (h.ow.blk e.symm).1; omega)]; exact h.hp
  refine ⟨⟨?_, ho.far (fun g hg => Below.heap_setCell _ _ _ _ (by have := (ho.blk hg).1; show g ≠ pb; omega))⟩, (KT.grown hg h.ow (by omega)).set _ _, cell_of_row _ _ _ _ _ _ hb, by simp [World.frozen?, hb]⟩
  have := heap_setCell_same w1 pb 2 _ _ tv' hb
  simpa using this
def catB (T : List ByteArray) : List UInt8 := T.flatMap fun t => t.data.toList
theorem catB_snoc (T : List ByteArray) (k : Nat) (h : k < T.length) : catB (T.take (k + 1)) = catB (T.take k) ++ (T.getD k ByteArray.empty).data.toList := by
  unfold catB
  rw [List.take_add_one, List.getElem?_eq_getElem h, List.flatMap_append]
  simp [List.getD, h]
theorem catB_le (T : List ByteArray) (k : Nat) : (catB (T.take k)).length ≤ (catB T).length := by
  unfold catB
  conv => rhs; rw [← List.take_append_drop k T, List.flatMap_append, List.length_append]
  omega
set_option maxHeartbeats 4000000 in
set_option maxRecDepth 100000 in
theorem lay_any (w : World) (pb X cx : Nat) (vf vw tv : Value) (bs : List UInt8) (T : List ByteArray) (arr : Array Value) (h : PR pb w vf vw tv bs) (hX : w.heap[X]? = some (.cells arr 9)) (ha : arr.toList = sV T) (hl : bs.length + (catB T).length ≤ 100000000000) (hT : T.length ≤ 1000) :
    Calls Tryd.prog 60 #[.pointer (some ⟨pb, 0, none⟩), .slice (some ⟨X, 0, none⟩) T.length cx] w fun e w' => e = .returned (.tuple #[]) ∧ ∃ tv', PR pb w' vf vw tv' (bs ++ catB T) ∧ KT pb w w' := by
  obtain ⟨i0, hi0, hz0, hz1, hz2⟩ := info_parts info_u8
  have HX : Hid (∀ w', KT pb w w' → ∀ k, k < T.length → w'.cell? ⟨X, k, none⟩ = some (.string (T.getD k ByteArray.empty))) := fun w' kt k hk => by
    have hne : X ≠ pb := fun e => by rw [e, h.hp] at hX; simp at hX
    rw [cell_of_row _ _ _ _ _ _ (kt.keep hX hne (by decide)), ← Array.getElem?_toList, ha]
    simp [sV, hk]
  have P0 : Hid (PR pb w vf vw tv (bs ++ catB (T.take 0))) := by show PR _ _ _ _ _ _; simpa [catB] using h
  have HT0 : Hid (T.take T.length = T) := List.take_length
  have HLE : Hid (∀ k, k < T.length → (bs ++ catB (T.take k)).length + (T.getD k ByteArray.empty).size ≤ 100000000000) := fun k hk => by
    have h1 := catB_snoc T k hk
    have h2 := catB_le T (k + 1)
    rw [h1, List.length_append] at h2
    rw [List.length_append]
    have e : (T.getD k ByteArray.empty).data.toList.length = (T.getD k ByteArray.empty).size := by simp
    omega
  have HSN : Hid (∀ k, k < T.length → bs ++ catB (T.take (k + 1)) = (bs ++ catB (T.take k)) ++ (T.getD k ByteArray.empty).data.toList) := fun k hk => by rw [catB_snoc T k hk, List.append_assoc]
  have hpb := h.lt
  clear h hX ha
  go_enter Tryd.func60, Tryd.ntmps60
  go_wp2
  go_loopw [8] (fun b wl => ∃ (k : Nat) (tk : Value) (wk : World), k ≤ T.length ∧ b = .int .i64 k ∧ wk = wl ∧ Hid (PR pb wk vf vw tk (bs ++ catB (T.take k))) ∧ Hid (KT pb w wk)) (fun b _ => T.length - (intOf b).toNat)
  case atStart => exact ⟨0, _, _, Nat.zero_le _, rfl, rfl, P0, KT.refl _ _⟩
  case round =>
    obtain ⟨k, tk, wr, hk, rfl, rfl, HP, HK⟩ := hrel
    clear P0
    by_cases hlt : k < T.length
    · have cX := HX.out _ HK.out k hlt
      obtain ⟨pk, ck, hck⟩ := HP.out.ow.form
      subst hck
      have c2 := HP.out.c2
      have hle := HLE.out k hlt
      have hsn := HSN.out k hlt
      obtain ⟨B, hB⟩ : ∃ B, B = bs ++ catB (T.take k) := ⟨_, rfl⟩
      rw [← hB] at HP hle hsn c2
      obtain ⟨s, hs⟩ : ∃ s, s = T.getD k ByteArray.empty := ⟨_, rfl⟩
      rw [← hs] at cX hle hsn
      have HS : Hid (bs ++ catB (T.take (k + 1)) = B ++ s.data.toList) := hsn
      have L63 : Hid (B.length + s.size ≤ maxLen) := by show _ ≤ _; unfold maxLen; omega
      have LBY : Hid (B.length + s.size ≤ 140737488355328) := by show _ ≤ _; omega
      have OWB : Hid (wr.ownsRow (pb + 1) 5 1 (.slice pk B.length ck) B.length (B.map byteV)) := HP.out.ow
      have BSE : Hid (pb + 1 ≤ wr.heap.size) := HP.out.lt
      have PUT : Hid (∀ v' w', w'.ownsRow (pb + 1) 5 1 v' (B.length + s.size) (B.map byteV ++ Lib.strCells s) → wr.grownBy w' (Value.slice pk B.length ck).ownBlock → Own w' (pb + 1) v' (B ++ s.data.toList)) := fun v' w' ho hg => by
        unfold Own
        rw [List.length_append, List.map_append, show s.data.toList.length = s.size by simp]
        exact ho
      obtain ⟨nL, hnL⟩ : ∃ nL, nL = (B ++ s.data.toList).length := ⟨_, rfl⟩
      have HNL : Hid (nL = (B ++ s.data.toList).length) := hnL
      clear hsn hB hs hle hnL
      go_wp2_with (at_builtin; refine Lib.wpList_append_own_string _ rfl (.tmp 16) (.tmp 17) 71 9 rfl (pb + 1) 5 i0 Tryd.underlying71 Tryd.underlying9 hi0 hz0 hz1 hz2 (.slice pk B.length ck) B.length (B.map byteV) rfl OWB.out s rfl L63.out LBY.out BSE.out ?_; intro v6 w6 ho6 hg6 _; have O6 := PUT.out v6 w6 ho6 hg6; obtain ⟨p6, c6, hv6⟩ := O6.form; rw [← HNL.out] at hv6; subst hv6; obtain ⟨n1, n2, n3, n4⟩ := HP.out.put hg6 O6; have N1 : Hid _ := n1; have N2 : Hid _ := n2; clear ho6 hg6 O6 n1 n2)
      go_roundw
      case rel => exact ⟨k + 1, _, _, by omega, by go_num, rfl, by rw [HS.out]; exact N1, HK.out.trans N2.out⟩
      case measure => simp [intOf]; omega
    · have hke : k = T.length := by omega
      have FIN : Hid (PR pb wr vf vw tk (bs ++ catB T)) := by have := HP.out; rw [hke, HT0.out] at this; exact this
      have FK : Hid (KT pb w wr) := HK
      clear HP HK
      go_wp2
      go_end0
      exact ⟨rfl, tk, FIN.out, FK.out⟩
end Go.Proofs.YtaleagkhblokgaaDoor
