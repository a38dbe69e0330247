/- Failures: gather. -/
import Derived.Test.YtkebflllbphkkaaDoorFx8
namespace Go.Proofs.YtkebflllbphkkaaDoor
open Go.RowKit

theorem CS.blk {w w' : World} {v : Value} {l : List Cr} (h : CS w v l) (hs : w.heap.size ≤ w'.heap.size) (k : ∀ x, v.ownBlock = some x → x < w.heap.size → w'.heap[x]? = w.heap[x]?) : CS w' v l := by
  rcases h with h | ⟨X, o, cap, rfl, hX, hcp, hc⟩
  · exact Or.inl h
  · have kb : w'.heap[X]? = w.heap[X]? := k X rfl hX
    refine Or.inr ⟨X, o, cap, rfl, by omega, hcp, fun i hi => ?_⟩
    obtain ⟨c1, c2, c3⟩ := hc i hi
    exact ⟨(World.cell?_of_block (w := w) (a := ⟨X, _, none⟩) kb).trans c1, (World.cell?_of_block (w := w) (a := ⟨X, _, none⟩) kb).trans c2, (World.cell?_of_block (w := w) (a := ⟨X, _, none⟩) kb).trans c3⟩
/-- The slice reads as these failures. -/
def FS (w : World) (v : Value) (ll : List (List Cr)) : Prop := ∃ p cap, v = .slice p ll.length cap ∧ ll.length ≤ cap ∧ ∀ k (h : k < ll.length), ∃ X o u, p = some ⟨X, o, none⟩ ∧ X < w.heap.size ∧ w.cell? ⟨X, o + k, none⟩ = some u ∧ CS w u ll[k]
theorem FS.form {w : World} {v : Value} {ll : List (List Cr)} (h : FS w v ll) : ∃ p cap, v = .slice p ll.length cap := by
  obtain ⟨p, cap, rfl, _⟩ := h; exact ⟨p, cap, rfl⟩
theorem FS.below {w w' : World} {v : Value} {ll : List (List Cr)} (h : FS w v ll) (b : Below w.heap.size w w') : FS w' v ll := by
  obtain ⟨p, cap, rfl, hcp, h⟩ := h
  refine ⟨p, cap, rfl, hcp, fun k hk => ?_⟩
  obtain ⟨X, o, u, e, hX, hc, hs⟩ := h k hk
  exact ⟨X, o, u, e, Nat.lt_of_lt_of_le hX b.size, (b.cell (p := ⟨X, o + k, none⟩) hX).trans hc, hs.below b⟩
theorem FS.at {w : World} {p : Option Addr} {n cap : Nat} {ll : List (List Cr)} (h : FS w (.slice p n cap) ll) {k : Nat} (hk : k < ll.length) : ∃ X o pu cu, p = some ⟨X, o, none⟩ ∧ X < w.heap.size ∧ w.cell? ⟨X, o + k, none⟩ = some (.slice pu ll[k].length cu) ∧ CS w (.slice pu ll[k].length cu) ll[k] := by
  obtain ⟨p', cap', e, _, h⟩ := h
  injection e with e1 _ _
  subst e1
  obtain ⟨X, o, u, e, hX, hc, hs⟩ := h k hk
  obtain ⟨pu, cu, rfl⟩ := hs.form
  exact ⟨X, o, pu, cu, e, hX, hc, hs⟩
theorem info_fl : (Tryd.prog.info? 30).map (fun i => (i.zero, i.size, i.bytes)) = some (some (.slice none 0 0), 1, 24) := by kernel_rfl
/-- The slice owns a row of these slices. -/
def OwnS (w : World) (base : Nat) (v : Value) (us : List Value) : Prop := w.ownsRow base 30 1 v us.length us
theorem OwnS.far {w w' : World} {base : Nat} {v : Value} {l : List Value} (h : OwnS w base v l) (k : ∀ g, v.ownBlock = some g → w'.heap[g]? = w.heap[g]?) : OwnS w' base v l := by
  obtain ⟨h1, h2⟩ := h
  refine ⟨h1, ?_⟩
  rcases h2 with h2 | ⟨g, cap, cur, e1, e2, e3, e4⟩
  · exact Or.inl h2
  · exact Or.inr ⟨g, cap, cur, e1, e2, by rw [k g (by rw [e1]; rfl)]; exact e3, e4⟩
theorem OwnS.below {w : World} {base : Nat} {v : Value} {l : List Value} (h : OwnS w base v l) {w' : World} (k : Below w.heap.size w w') : OwnS w' base v l :=
  h.far (fun g hg => k.block g (World.ownsRow.lt h g hg).2)
theorem OwnS.low {w : World} {base base' : Nat} {v : Value} {l : List Value} (h : OwnS w base v l) (hb : base' ≤ base) : OwnS w base' v l := by
  obtain ⟨h1, h2⟩ := h
  refine ⟨h1, ?_⟩
  rcases h2 with h2 | ⟨g, cap, cur, e1, e2, e3⟩
  · exact Or.inl h2
  · exact Or.inr ⟨g, cap, cur, e1, Nat.le_trans hb e2, e3⟩
theorem ownS_empty (w : World) : OwnS (w.alloc (.cells #[] 30)) w.heap.size (.slice (some ⟨w.heap.size, 0, none⟩) 0 0) [] :=
  ⟨rfl, Or.inr ⟨w.heap.size, 0, #[], rfl, Nat.le_refl _, heap_alloc_new w _, Nat.le_refl _, Nat.zero_le _, rfl, rfl⟩⟩
theorem OwnS.form {w : World} {base : Nat} {v : Value} {l : List Value} (h : OwnS w base v l) : ∃ p cap, v = .slice p l.length cap ∧ l.length ≤ cap := by
  rcases h.2 with ⟨e, e2⟩ | ⟨g, cap, cur, e, _, _, hcp, _⟩
  · exact ⟨none, 0, by rw [e2]; exact e, by omega⟩
  · exact ⟨_, cap, e, hcp⟩
/-- A row whose members read as failures is a row of these failures. -/
theorem OwnS.fs {w : World} {base : Nat} {v : Value} {us : List Value} {ll : List (List Cr)} (h : OwnS w base v us) (hl : us.length = ll.length) (hc : ∀ k (h1 : k < us.length) (h2 : k < ll.length), CS w us[k] ll[k]) : FS w v ll := by
  have h0 := h
  rcases h.2 with ⟨e, e2⟩ | ⟨g, cap, cur, e, _, _, hcp, _⟩
  · refine ⟨none, 0, by rw [← hl, e2]; exact e, by omega, fun k hk => by omega⟩
  · subst e
    refine ⟨_, cap, by rw [hl], by omega, fun k hk => ⟨g, 0, us[k], rfl, (World.ownsRow.lt h0 g rfl).2, ?_, hc k (by omega) hk⟩⟩
    rw [Nat.zero_add]
    exact (World.ownsRow.cellAt h0 k (by omega)).trans (List.getElem?_eq_getElem (by omega))
theorem append_sv {P : Program} {ops : Array Oper} {rest : List Oper} {o : Oper} {a : Act} {Q : Exit → Act → World → Prop} (hgd : o.guard = none) (s x : Operand) (t : TypeId)
    (ho : o.op = .call { callee := .builtin .append, args := #[s, x], argTypes := #[t, t] })
    (base : Nat) (ht : P.underlying t = some (.slice 30)) (hi : (P.info? 30).map (fun i => (i.zero, i.size, i.bytes)) = some (some (.slice none 0 0), 1, 24))
    (w0 : World) (cells : Array Value) (tc : TypeId) (v : Value) (l : List Value) (pu : Option Addr) (nu cu : Nat) (c : Nat) (hs : a.eval s = v) (hown : OwnS w0 base v l) (b : Nat) (hb : w0.heap.size = b)
    (hx : a.eval x = .slice (some ⟨b, 0, none⟩) 1 c) (hc : cells.toList = [.slice pu nu cu])
    (hlen : (l.length + 1) * 24 ≤ 140737488355328) (hbase : base ≤ w0.heap.size)
    (h : ∀ g cap w', OwnS w' base (.slice (some ⟨g, 0, none⟩) (l.length + 1) cap) (l ++ [.slice pu nu cu]) → Below base w0 w' → (∀ k, k < w0.heap.size → some k ≠ v.ownBlock → w'.heap[k]? = w0.heap[k]?) → (v.ownBlock = some g ∨ w0.heap.size ≤ g) → wpList P ops Q rest (a.put o.dst (.slice (some ⟨g, 0, none⟩) (l.length + 1) cap)) w') : wpList P ops Q (o :: rest) a (w0.alloc (.cells cells tc)) := by
  subst hb
  obtain ⟨i0, hi0, hz0, hz1, hz2⟩ := info_parts hi
  have hown2 : (w0.alloc (.cells cells tc)).ownsRow base 30 1 v l.length l := World.ownsRow.alloc hown _
  have one : ∀ u ∈ [Value.slice pu nu cu], u.oneCell' = true := fun u hu => by simp at hu; subst hu; rfl
  refine wpList_append_lies _ hgd s x t ho base 30 i0 (.slice none 0 0) 1 24 ht hi0 hz0 hz1 hz2 rfl (by decide) v l.length l hs hown2 ⟨w0.heap.size, 0, none⟩ 1 c [.slice pu nu cu] hx rfl (news_at w0 cells tc _ hc) one
    (by decide) (by unfold maxLen; omega) (by omega) (by simp; omega) _ rfl ?_
  intro g cap w' ho' hg hgg _
  have hgb : Below base w0 w' := ((Below.refl base w0).alloc hbase _).grown hg (by simp; omega) (fun q hq => (hown2.lt q hq).1)
  refine h g cap w' ?_ hgb ?_ ?_
  · unfold OwnS
    rw [List.length_append]
    simpa using ho'
  · intro k hk hne
    rw [hg.block k (by simp; omega) hne]
    exact Below.heap_alloc w0 _ k hk
  · rcases hgg with hgg | hgg
    · exact Or.inl hgg
    · right; rw [hgg]; simp
/-- A block of n cracks. -/
def RB (w : World) (g n : Nat) : Prop := ∃ cur, w.heap[g]? = some (.cells cur 56) ∧ cur.size = n * 3
theorem RB.cell {w : World} {g n : Nat} (h : RB w g n) {o : Nat} (ho : o < n * 3) : ∃ v, w.cell? ⟨g, o, none⟩ = some v := by
  obtain ⟨cur, h1, h2⟩ := h
  exact ⟨cur[o]'(by omega), cell_of_row _ _ _ _ _ _ h1 |>.trans (by simp [h2, ho])⟩
theorem RB.frozen {w : World} {g n : Nat} (h : RB w g n) (o : Nat) : w.frozen? ⟨g, o, none⟩ = false := by
  obtain ⟨cur, h1, h2⟩ := h
  simp [World.frozen?, h1]
theorem RB.set {w : World} {g n : Nat} (h : RB w g n) (o : Nat) (v : Value) : RB (w.setCell ⟨g, o, none⟩ v) g n := by
  obtain ⟨cur, h1, h2⟩ := h
  exact ⟨cur.setIfInBounds o v, heap_setCell_same w g o cur _ v h1, by simpa using h2⟩
/-- All but one block as it was. -/
structure KB (g : Option Nat) (a b : World) : Prop where
  os : b.os = a.os
  tape : b.tape = a.tape
  output : b.output = a.output
  size : b.heap.size = a.heap.size
  block : ∀ j, some j ≠ g → b.heap[j]? = a.heap[j]?
theorem KB.refl (g : Option Nat) (a : World) : KB g a a := ⟨rfl, rfl, rfl, rfl, fun _ _ => rfl⟩
theorem KB.set {g : Nat} {a b : World} (h : KB (some g) a b) (o : Nat) (v : Value) : KB (some g) a (b.setCell ⟨g, o, none⟩ v) :=
  ⟨h.os, h.tape, h.output, by simpa [World.setCell] using h.size, fun j hj => (Below.heap_setCell _ _ _ _ (fun e => hj (by rw [e]))).trans (h.block j hj)⟩
theorem KB.below {g : Option Nat} {a b : World} (h : KB g a b) {N : Nat} (hN : ∀ x, g = some x → N ≤ x) : Below N a b :=
  ⟨h.os, h.tape, h.output, by rw [h.size]; exact Nat.le_refl _, fun j hj => h.block j (fun e => by have := hN j e.symm; omega)⟩
theorem KB.trans {g : Option Nat} {a b c : World} (h : KB g a b) (k : KB g b c) : KB g a c :=
  ⟨k.os.trans h.os, k.tape.trans h.tape, k.output.trans h.output, k.size.trans h.size, fun j hj => (k.block j hj).trans (h.block j hj)⟩
end Go.Proofs.YtkebflllbphkkaaDoor
namespace Go.Proofs.YtkebflllbphkkaaDoor
open Go.RowKit

/-- A crack behind its parts; or the one that says that it is too long. -/
def arL (k : Int) (t : ByteArray) (ll : List (List Cr)) : List Cr := if 1024 < 1 + ll.flatten.length then [⟨11, 0, ByteArray.empty⟩] else ll.flatten ++ [⟨k, ll.length, t⟩]
def flK (ll : List (List Cr)) (j : Nat) : List Cr := (ll.take j).flatten
theorem flK_zero (ll : List (List Cr)) : flK ll 0 = [] := by simp [flK]
theorem flK_succ {ll : List (List Cr)} {j : Nat} (h : j < ll.length) : flK ll (j + 1) = flK ll j ++ ll[j] := by
  unfold flK
  rw [List.take_add_one, List.getElem?_eq_getElem h, Option.toList_some, List.flatten_append]; simp
theorem flK_all {ll : List (List Cr)} {j : Nat} (h : ll.length ≤ j) : flK ll j = ll.flatten := by
  unfold flK; rw [List.take_of_length_le h]
theorem flK_len {ll : List (List Cr)} (h1 : ∀ x ∈ ll, x.length ≤ 1024) : ∀ j, j ≤ ll.length → (flK ll j).length ≤ j * 1024
  | 0, _ => by simp [flK_zero]
  | j + 1, hj => by
    rw [flK_succ (by omega), List.length_append]
    have := flK_len h1 j (by omega)
    have := h1 _ (List.getElem_mem (show j < ll.length by omega))
    omega
theorem ownC_one (w : World) (k n : Int) (t : ByteArray) : OwnC (w.alloc (.cells #[.int .i64 k, .int .i64 n, .string t] 56)) w.heap.size (.slice (some ⟨w.heap.size, 0, none⟩) 1 1) [⟨k, n, t⟩] :=
  ⟨rfl, Or.inr ⟨w.heap.size, 1, _, rfl, Nat.le_refl _, heap_alloc_new w _, Nat.le_refl _, by unfold maxLen; omega, rfl, rfl⟩⟩
set_option maxHeartbeats 4000000 in
set_option maxRecDepth 100000 in
theorem around_any (k : Int) (t : ByteArray) (w : World) (v : Value) (ll : List (List Cr)) (h : FS w v ll) (h1 : ∀ x ∈ ll, x.length ≤ 1024) (h2 : ll.length ≤ 4096) :
    Calls Tryd.prog 49 #[.int .i64 k, .string t, v] w fun e w' => ∃ p cap, e = .returned (.slice p (arL k t ll).length cap) ∧ OwnC w' w.heap.size (.slice p (arL k t ll).length cap) (arL k t ll) ∧ Below w.heap.size w w' := by
  obtain ⟨p, cap, rfl⟩ := h.form
  have HS : Hid (FS w (.slice p ll.length cap) ll) := h
  have HX : Hid (∀ j, j ≤ ll.length → (flK ll j).length ≤ j * 1024) := flK_len h1
  have HA : Hid (arL k t ll = if 1024 < 1 + ll.flatten.length then [⟨11, 0, ByteArray.empty⟩] else ll.flatten ++ [⟨k, ll.length, t⟩]) := rfl
  generalize arL k t ll = R at *
  clear h h1
  go_enter Tryd.func49, Tryd.ntmps49
  go_wp2
  go_loop [7, 15] (fun a b => ∃ j : Nat, j ≤ ll.length ∧ b = .int .i64 j ∧ a = .int .i64 ((1 + (flK ll j).length : Nat) : Int)) (fun _ b => ll.length - (intOf b).toNat)
  case atStart => exact ⟨0, Nat.zero_le _, rfl, by rw [flK_zero]; rfl⟩
  case round =>
    obtain ⟨j, hj, rfl, rfl⟩ := hrel
    have hb := HX.out j hj
    by_cases hlt : j < ll.length
    · obtain ⟨X, o, pu, cu, rfl, hX, hc, _⟩ := HS.out.at hlt
      have NX : Hid ((flK ll (j + 1)).length = (flK ll j).length + ll[j].length) := by show _ = _; rw [flK_succ hlt, List.length_append]
      have hb2 := HX.out (j + 1) hlt
      rw [NX.out] at hb2
      generalize (flK ll j).length = a at *
      generalize ll[j].length = b at *
      go_wp2
      go_round
      case rel => exact ⟨j + 1, by omega, by go_num, by rw [NX.out]; go_num⟩
      case measure => simp [intOf]; omega
    · rw [flK_all (by omega)] at hb ⊢
      obtain ⟨F, hF⟩ : ∃ F, F = ll.flatten := ⟨_, rfl⟩
      rw [← hF] at hb HA ⊢
      have HF : Hid (F = ll.flatten) := hF
      by_cases hbig : 1024 < 1 + F.length
      · have HR : Hid (R = [⟨11, 0, ByteArray.empty⟩]) := by show R = _; rw [HA.out, if_pos hbig]
        have hbig2 : ((1 + F.length : Nat) : Int) > 1024 := by omega
        clear HA hF HS
        go_wp2
        go_ret
        rw [HR.out]
        exact ⟨_, _, rfl, ownC_one w 11 0 ByteArray.empty, (Below.refl _ _).alloc (Nat.le_refl _) _⟩
      · have HR : Hid (R = F ++ [⟨k, ll.length, t⟩]) := by show R = _; rw [HA.out, if_neg hbig]
        have hnb : ¬ (1024 : Int) < 1 + (F.length : Int) := by omega
        clear HA hF
        go_wp2_with (at_make; refine make_cr _ rfl _ _ 30 rfl Tryd.underlying30 info_cr w.heap.size (1 + F.length) rfl rfl (by omega) (Nat.le_refl _) ?_; intro v2 w2 ho2 hb2)
        have O2 : Hid (OwnC w2 w.heap.size v2 []) := ho2
        have B2 : Hid (Below w.heap.size w w2) := hb2
        clear ho2 hb2
        go_loopw [10, 32] (fun a b wr => ∃ (j : Nat) (va : Value) (wk : World), j ≤ ll.length ∧ b = .int .i64 j ∧ va = a ∧ wk = wr ∧ Hid (OwnC wk w.heap.size va (flK ll j)) ∧ Hid (Below w.heap.size w wk)) (fun _ b _ => ll.length - (intOf b).toNat)
        case atStart => exact ⟨0, v2, w2, Nat.zero_le _, rfl, rfl, rfl, by rw [flK_zero]; exact O2, B2⟩
        case round =>
          obtain ⟨j, va, wr, hj2, rfl, rfl, rfl, HO, HB⟩ := hrel
          by_cases hlt2 : j < ll.length
          · obtain ⟨X, o, pu, cu, rfl, hX, hc, hcs⟩ := (HS.out.below HB.out).at hlt2
            have HC : Hid (CS wr (.slice pu ll[j].length cu) ll[j]) := hcs
            have hfj := HX.out (j + 1) hlt2
            have SU : Hid (flK ll (j + 1) = flK ll j ++ ll[j]) := flK_succ hlt2
            have HLN : Hid (((flK ll j).length + ll[j].length) * 32 ≤ 140737488355328) := by
              show ((flK ll j).length + ll[j].length) * 32 ≤ 140737488355328
              rw [SU.out, List.length_append] at hfj; omega
            have ZB : Hid (w.heap.size ≤ wr.heap.size) := HB.out.size
            clear hcs hfj
            go_wp2_with (at_builtin; refine append_crs rfl (.tmp 36) (.tmp 37) 30 rfl w.heap.size Tryd.underlying30 info_cr _ va _ (flK ll j) ll[j] rfl rfl HO.out HC.out HLN.out ZB.out ?_; intro v5 w5 ho5 hb5)
            go_roundw
            case rel => exact ⟨j + 1, v5, w5, by omega, by go_num, rfl, rfl, SU.out ▸ ho5, HB.out.trans hb5⟩
            case measure => simp [intOf]; omega
          · have HO2 : Hid (OwnC wr w.heap.size va F) := by
              show OwnC _ _ _ _
              rw [HF.out, ← flK_all (j := j) (by omega)]; exact HO.out
            have HLN : Hid ((F.length + 1) * 32 ≤ 140737488355328) := by show (F.length + 1) * 32 ≤ 140737488355328; omega
            have ZB : Hid (w.heap.size ≤ wr.heap.size) := HB.out.size
            clear HO
            go_wp2_with (at_builtin; refine append_cr rfl (.tmp 40) (.tmp 46) 30 rfl w.heap.size Tryd.underlying30 info_cr _ _ _ va F ⟨k, ll.length, t⟩ _ rfl HO2.out _ rfl rfl rfl HLN.out ZB.out ?_; intro v8 w8 ho8 hb8)
            go_ret
            rw [HR.out]
            obtain ⟨p8, c8, rfl⟩ := ho8.form
            exact ⟨p8, c8, rfl, ho8, HB.out.trans hb8⟩
end Go.Proofs.YtkebflllbphkkaaDoor
namespace Go.Proofs.YtkebflllbphkkaaDoor
open Go.RowKit

/-- The error of the first failure that is neither empty nor right. -/
def gaE : List (List Cr) → Int
  | [] => 0
  | x :: r => if x.length = 0 then gaE r else if chk x = 0 then gaE r else chk x
def neL (ll : List (List Cr)) : List (List Cr) := ll.filter (fun x => decide (x.length ≠ 0))
def gaL (ll : List (List Cr)) : List (List Cr) := if gaE ll = 0 then neL ll else []
def neK (ll : List (List Cr)) (j : Nat) : List (List Cr) := neL (ll.take j)
theorem neK_succ {ll : List (List Cr)} {j : Nat} (h : j < ll.length) : neK ll (j + 1) = neK ll j ++ if ll[j].length = 0 then [] else [ll[j]] := by
  unfold neK neL
  rw [List.take_add_one, List.getElem?_eq_getElem h, Option.toList_some, List.filter_append]
  congr 1
  by_cases h0 : ll[j].length = 0
  · rw [if_pos h0, List.filter_cons_of_neg (by simpa using h0)]; rfl
  · rw [if_neg h0, List.filter_cons_of_pos (by simpa using h0)]; rfl
theorem gaE_drop {ll : List (List Cr)} {j : Nat} (h : j < ll.length) : gaE (ll.drop j) = if ll[j].length = 0 then gaE (ll.drop (j + 1)) else if chk ll[j] = 0 then gaE (ll.drop (j + 1)) else chk ll[j] := by
  rw [List.drop_eq_getElem_cons h, gaE]
theorem neK_le (ll : List (List Cr)) (j : Nat) : (neK ll j).length ≤ j := by
  unfold neK neL
  have := List.length_filter_le (fun x : List Cr => decide (x.length ≠ 0)) (ll.take j)
  simp only [List.length_take] at this; omega
/-- The failures so far. -/
structure GI (w wk : World) (va : Value) (us : List Value) (ll : List (List Cr)) (j : Nat) : Prop where
  s : OwnS wk w.heap.size va us
  ln : us.length = (neK ll j).length
  cs : ∀ k (h1 : k < us.length) (h2 : k < (neK ll j).length), CS w us[k] (neK ll j)[k]
  bl : Below w.heap.size w wk
  ge : gaE ll = gaE (ll.drop j)
theorem GI.skip {w wk w' : World} {va : Value} {us : List Value} {ll : List (List Cr)} {j : Nat} (h : GI w wk va us ll j) (hj : j < ll.length) (h0 : ll[j].length = 0) (b : Below wk.heap.size wk w') : GI w w' va us ll (j + 1) := by
  have e : neK ll (j + 1) = neK ll j := by rw [neK_succ hj, if_pos h0, List.append_nil]
  refine ⟨h.s.below b, by rw [e]; exact h.ln, ?_, h.bl.trans (b.mono h.bl.size), ?_⟩
  · rw [e]; exact h.cs
  · rw [h.ge, gaE_drop hj, if_pos h0]
theorem GI.next {w wk w' : World} {va va' : Value} {us : List Value} {u : Value} {ll : List (List Cr)} {j : Nat} (h : GI w wk va us ll j) (hj : j < ll.length) (h0 : ¬ ll[j].length = 0) (hc : chk ll[j] = 0) (hu : CS w u ll[j]) (o : OwnS w' w.heap.size va' (us ++ [u])) (b : Below w.heap.size wk w') : GI w w' va' (us ++ [u]) ll (j + 1) := by
  have e : neK ll (j + 1) = neK ll j ++ [ll[j]] := by rw [neK_succ hj, if_neg h0]
  refine ⟨o, by rw [e]; simp [h.ln], ?_, h.bl.trans b, ?_⟩
  · intro k h1 h2
    have hl := h.ln
    by_cases hk : k < us.length
    · have h3 : (us ++ [u])[k] = us[k] := List.getElem_append_left hk
      have h4 : (neK ll (j + 1))[k] = (neK ll j)[k]'(by omega) := by simp only [e]; exact List.getElem_append_left (by omega)
      rw [h3, h4]; exact h.cs k hk (by omega)
    · have hk2 : k = us.length := by simp at h1; omega
      have h3 : (us ++ [u])[k] = u := by simp [hk2]
      have h4 : (neK ll (j + 1))[k] = ll[j] := by simp only [e]; simp [hk2, hl]
      rw [h3, h4]; exact hu
  · rw [h.ge, gaE_drop hj, if_neg h0, if_pos hc]
set_option maxHeartbeats 4000000 in
set_option maxRecDepth 100000 in
theorem gather_any (w : World) (v : Value) (ll : List (List Cr)) (h : FS w v ll) (ht : ∀ x ∈ ll, ∀ c ∈ x, c.text.size ≤ maxLen) (hx : ∀ x ∈ ll, x.length ≤ 1000000000000000) (hl : (ll.length + 1) * 24 ≤ 140737488355328) (hv : FV w) :
    Calls Tryd.prog 48 #[v] w fun e w' => ∃ p cap, e = .returned (.tuple #[.slice p (gaL ll).length cap, .int .i64 (gaE ll)]) ∧ FS w' (.slice p (gaL ll).length cap) (gaL ll) ∧ Below w.heap.size w w' := by
  obtain ⟨p, cap, rfl⟩ := h.form
  have HS : Hid (FS w (.slice p ll.length cap) ll) := h
  have CK : Hid (∀ j (hj : j < ll.length) w' v', CS w' v' ll[j] → Below w.heap.size w w' → _) := fun j hj w' v' cs b => check_any v' ll[j] w' cs (ht _ (List.getElem_mem hj)) (hv.below b) (hx _ (List.getElem_mem hj))
  have G0 : Hid (GI w w (.slice none 0 0) [] ll 0) := ⟨World.ownsRow_nil _ _ _ _, by simp [neK, neL], fun k h1 => by simp at h1, Below.refl _ _, rfl⟩
  have HB : Hid (∀ j (hj : j < ll.length), ll[j].length ≤ 1000000000000000) := fun j hj => hx _ (List.getElem_mem hj)
  clear h ht hx hv
  go_enter Tryd.func48, Tryd.ntmps48
  go_wp2
  go_loopw [4, 10] (fun a b wr => ∃ (j : Nat) (va : Value) (us : List Value) (wk : World), j ≤ ll.length ∧ b = .int .i64 j ∧ va = a ∧ wk = wr ∧ Hid (GI w wk va us ll j)) (fun _ b _ => ll.length - (intOf b).toNat)
  case atStart => exact ⟨0, _, [], _, Nat.zero_le _, rfl, rfl, rfl, G0⟩
  case round =>
    obtain ⟨j, va, us, wr, hj, rfl, rfl, rfl, HI⟩ := hrel
    clear G0
    by_cases hlt : j < ll.length
    · obtain ⟨X, o, pu, cu, rfl, hX, hc, hcs⟩ := HS.out.at hlt
      have hc2 := (HI.out.bl.cell (p := ⟨X, o + j, none⟩) hX).trans hc
      have hbj := HB.out j hlt
      have HC : Hid (CS w (.slice pu ll[j].length cu) ll[j]) := hcs
      by_cases h0 : ll[j].length = 0
      · have NX : Hid (GI w wr va us ll (j + 1)) := HI.out.skip hlt h0 (Below.refl _ _)
        clear HI hcs hc
        rw [h0] at hc2
        go_wp2
        go_roundw
        case rel => exact ⟨j + 1, _, _, _, by omega, by go_num, rfl, rfl, NX⟩
        case measure => simp [intOf]; omega
      · have CKJ := CK.out j hlt wr (.slice pu ll[j].length cu) (hcs.below HI.out.bl) HI.out.bl
        have hlne : ¬ ((ll[j].length : Nat) : Int) = 0 := by omega
        have hlb : (((ll[j].length : Nat) : Int) == 0) = false := by simpa using hlne
        by_cases hok : chk ll[j] = 0
        · rw [hok] at CKJ
          have NX : Hid (∀ v' w5 w6, Below wr.heap.size wr w5 → OwnS w6 w.heap.size v' (us ++ [.slice pu ll[j].length cu]) → Below w.heap.size w5 w6 → GI w w6 v' (us ++ [.slice pu ll[j].length cu]) ll (j + 1)) := fun v' w5 w6 b5 o6 b6 => HI.out.next hlt h0 hok HC.out o6 ((b5.mono HI.out.bl.size).trans b6)
          have LN : Hid ((us.length + 1) * 24 ≤ 140737488355328) := by
            show (us.length + 1) * 24 ≤ 140737488355328
            have := HI.out.ln; have := neK_le ll j; omega
          have OW : Hid (∀ w5, Below wr.heap.size wr w5 → OwnS w5 w.heap.size va us ∧ w.heap.size ≤ w5.heap.size) := fun w5 b => ⟨HI.out.s.below b, by have := HI.out.bl.size; have := b.size; omega⟩
          generalize ll[j].length = n at *
          clear hcs hc HI CK hok
          go_wp2_with (first | (go_at_call 61; refine CKJ.mono ?_; rintro e w5 ⟨rfl, hb5⟩; have B5 : Hid (Below wr.heap.size wr w5) := hb5; clear hb5) | (at_builtin; refine append_sv rfl (.tmp 22) (.tmp 24) 28 rfl w.heap.size Tryd.underlying28 info_fl _ _ _ va us pu n cu _ rfl (OW.out _ B5.out).1 _ rfl rfl rfl LN.out (OW.out _ B5.out).2 ?_; intro g1 c1 w6 ho6 hb6 hk6 hg6))
          go_roundw
          case rel => exact ⟨j + 1, _, _, _, by omega, by go_num, rfl, rfl, NX.out _ _ _ B5.out ho6 hb6⟩
          case measure => simp [intOf]; omega
        · have GE : Hid (gaE ll = chk ll[j]) := by show gaE ll = _; rw [HI.out.ge, gaE_drop hlt, if_neg h0, if_neg hok]
          have BL : Hid (Below w.heap.size w wr) := HI.out.bl
          have RS : Hid (gaL ll = []) := by show gaL ll = []; unfold gaL; rw [GE.out, if_neg hok]
          generalize chk ll[j] = ce at *
          have e1 : (ce == 0) = false := by simpa using hok
          have e2 : (ce != 0) = true := by simpa using hok
          generalize ll[j].length = n at *
          clear hcs hc HI CK
          go_wp2_with (go_at_call 61; refine CKJ.mono ?_; rintro e w5 ⟨rfl, hb5⟩; have B5 : Hid (Below wr.heap.size wr w5) := hb5; clear hb5)
          go_ret2
          rw [GE.out, RS.out]
          exact ⟨none, 0, rfl, ⟨none, 0, rfl, Nat.le_refl _, fun k hk => by simp at hk⟩, BL.out.trans (B5.out.mono BL.out.size)⟩
    · have GE : Hid (gaE ll = 0) := by show gaE ll = 0; rw [HI.out.ge, List.drop_eq_nil_of_le (by omega), gaE]
      have RS : Hid (gaL ll = neK ll j) := by
        show gaL ll = _
        unfold gaL neK; rw [GE.out, if_pos rfl, List.take_of_length_le (by omega)]
      have FN : Hid (FS wr va (neK ll j)) := HI.out.s.fs HI.out.ln (fun k h1 h2 => (HI.out.cs k h1 h2).below HI.out.bl)
      have BL : Hid (Below w.heap.size w wr) := HI.out.bl
      obtain ⟨pv, cv, rfl⟩ := FN.out.form
      clear HI
      go_wp2
      go_ret2
      rw [GE.out, RS.out]
      exact ⟨pv, cv, rfl, FN.out, BL.out⟩
end Go.Proofs.YtkebflllbphkkaaDoor
