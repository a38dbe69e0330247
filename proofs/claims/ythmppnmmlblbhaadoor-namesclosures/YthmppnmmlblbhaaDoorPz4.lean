/- Names: removeFunc, whatever it is handed. -/
import Derived.Test.YthmppnmmlblbhaaDoorPz3
namespace Go.Proofs.YthmppnmmlblbhaaDoor
open Go.RowKit

/-- Those of the first k that stay. -/
def keepK {α : Type} (l : List α) (d : α) (pr : Nat → Bool) : Nat → List α
  | 0 => []
  | k + 1 => if pr k = true then keepK l d pr k else keepK l d pr k ++ [l.getD k d]
theorem keepK_len {α : Type} (l : List α) (d : α) (pr : Nat → Bool) : ∀ k, (keepK l d pr k).length ≤ k
  | 0 => by simp [keepK]
  | k + 1 => by have := keepK_len l d pr k; rw [keepK]; split <;> simp <;> omega
theorem keepK_filter {α : Type} (l : List α) (d : α) (q : α → Bool) : ∀ k, k ≤ l.length → keepK l d (fun k => q (l.getD k d)) k = (l.take k).filter (fun x => !(q x))
  | 0, _ => by simp [keepK]
  | k + 1, h => by
    have hk : k < l.length := by omega
    rw [keepK, keepK_filter l d q k (by omega), List.take_add_one, List.getElem?_eq_getElem hk, Option.toList_some, List.filter_append]
    have e : l.getD k d = l[k] := by simp [List.getD, List.getElem?_eq_getElem hk]
    rw [e]
    cases hq : q l[k] with
    | true => simp [hq]
    | false => simp [hq]
/-- Where removeFunc stands. -/
structure RW {α : Type} (K : RK α) (w wk : World) (I : Nat → (Nat → Prop) → World → Prop) (F0 F : Nat → Prop) (vs : Value) (m : List α) (k : Nat) : Prop where
  i : I k F wk
  s : OwnG K wk w.heap.size vs m
  ap : ∀ x, vs.ownBlock = some x → ¬ F x
  bt : But F0 w wk
  fn : ∀ x, F x → F0 x ∨ w.heap.size ≤ x
/-- One is looked at. -/
theorem RW.look {α : Type} {K : RK α} {w wk w1 : World} {I : Nat → (Nat → Prop) → World → Prop} {F0 F F1 : Nat → Prop} {vs : Value} {m : List α} {k : Nat} (h : RW K w wk I F0 F vs m k)
    (i1 : I (k + 1) F1 w1) (f1 : ∀ x, F1 x → F x ∨ wk.heap.size ≤ x) (b1 : But F wk w1) : RW K w w1 I F0 F1 vs m (k + 1) := by
  have hvs : ∀ x, vs.ownBlock = some x → w.heap.size ≤ x ∧ x < wk.heap.size := fun x hx => h.s.lt hx
  refine ⟨i1, h.s.far (fun x hx => b1.block x (hvs x hx).2 (h.ap x hx)), fun x hx hf => ?_, h.bt.trans b1 (fun x hx => h.fn x hx), fun x hx => ?_⟩
  · rcases f1 x hf with e | e
    · exact h.ap x hx e
    · have := (hvs x hx).2; omega
  · rcases f1 x hx with e | e
    · exact h.fn x e
    · have := h.bt.size; right; omega
/-- One more is kept. -/
theorem RW.push {α : Type} {K : RK α} {w w1 w2 : World} {I : Nat → (Nat → Prop) → World → Prop} {F0 F : Nat → Prop} {vs : Value} {m m2 : List α} {k g n c : Nat} (V : Vis I) (h : RW K w w1 I F0 F vs m k)
    (o2 : OwnG K w2 w.heap.size (.slice (some ⟨g, 0, none⟩) n c) m2)
    (os : w2.os = w1.os) (tp : w2.tape = w1.tape) (op : w2.output = w1.output) (sz : w1.heap.size ≤ w2.heap.size) (k2 : ∀ x, x < w1.heap.size → some x ≠ vs.ownBlock → w2.heap[x]? = w1.heap[x]?) (hg : vs.ownBlock = some g ∨ w1.heap.size ≤ g) :
    RW K w w2 I F0 F (.slice (some ⟨g, 0, none⟩) n c) m2 k := by
  have hvs : ∀ x, vs.ownBlock = some x → w.heap.size ≤ x ∧ x < w1.heap.size := fun x hx => h.s.lt hx
  refine ⟨V.keep _ _ _ _ h.i sz os tp op (fun x hx => k2 x (V.lt _ _ _ h.i x hx) (fun e => h.ap x e.symm hx)), o2, fun x hx => ?_, ?_, h.fn⟩
  · have : x = g := by simpa [Value.ownBlock] using hx.symm
    subst this
    rcases hg with e | e
    · exact h.ap x e
    · intro hf; have := V.lt _ _ _ h.i x hf; omega
  · have b2 : But (fun x => vs.ownBlock = some x) w1 w2 := ⟨os, tp, op, sz, fun x hx hn => k2 x hx (fun e => hn e.symm)⟩
    exact h.bt.trans b2 (fun x hx => Or.inr (hvs x hx).1)
set_option maxHeartbeats 8000000 in
set_option maxRecDepth 100000 in
theorem removeI_any (v : Value) (l : List Int) (fn : Nat) (cp : Array Value) (pr : Nat → Bool) (w : World) (I : Nat → (Nat → Prop) → World → Prop) (F0 : Nat → Prop) (V : Vis I) (h : GS KI w v l) (hX : ∀ x, v.ownBlock = some x → ¬ F0 x) (hlm : l.length ≤ 1000000) (I0 : I 0 F0 w) (hen : ∀ args w, Sem.run Tryd.prog (callFunc fn args) w = .ok (.enter fn args) w)
    (VS : ∀ k F wk, k < l.length → I k F wk → (∀ x, F x → F0 x ∨ w.heap.size ≤ x) → But F0 w wk → Calls Tryd.prog fn (#[.int .i64 (l.getD k 0)] ++ cp) wk fun e w' => e = .returned (.bool (pr k)) ∧ ∃ F', I (k + 1) F' w' ∧ (∀ x, F' x → F x ∨ wk.heap.size ≤ x) ∧ But F wk w') :
    Calls Tryd.prog 94 #[v, .func (.func fn) #[] cp] w fun e w' => ∃ p c F', e = .returned (.slice p (keepK l 0 pr l.length).length c) ∧ RW KI w w' I F0 F' (.slice p (keepK l 0 pr l.length).length c) (keepK l 0 pr l.length) l.length := by
  obtain ⟨p, cap, rfl⟩ := h.form
  have HS : Hid (GS KI w (.slice p l.length cap) l) := h
  have HX : Hid (∀ x, (Value.slice p l.length cap).ownBlock = some x → ¬ F0 x) := hX
  have HV : Hid _ := VS
  have E0 : Hid (RW KI w w I F0 F0 (.slice none 0 0) (keepK l 0 pr 0) 0) := ⟨I0, OwnG.nil _ _ _, fun x hx => by simp [Value.ownBlock] at hx, But.refl _ _, fun x hx => Or.inl hx⟩
  have HK : Hid (∀ k, keepK l 0 pr (k + 1) = if pr k = true then keepK l 0 pr k else keepK l 0 pr k ++ [l.getD k 0]) := fun k => rfl
  have HL : Hid (∀ k, (keepK l 0 pr k).length ≤ k) := keepK_len l 0 pr
  generalize keepK l 0 pr = kp at *
  clear h hX VS I0
  go_enter Tryd.func94, Tryd.ntmps94
  go_wp2
  go_loopw [5, 10] (fun v5 v10 wr => ∃ (k : Nat) (vs : Value) (F : Nat → Prop) (wk : World), v10 = .int .i64 k ∧ vs = v5 ∧ wk = wr ∧ k ≤ l.length ∧ Hid (RW KI w wk I F0 F vs (kp k) k)) (fun _ v10 _ => l.length - (intOf v10).toNat)
  case atStart => exact ⟨0, _, F0, _, rfl, rfl, rfl, Nat.zero_le _, E0⟩
  case round =>
    obtain ⟨k, vs, F, wr, rfl, rfl, rfl, hk, HB⟩ := hrel
    clear E0
    by_cases hlt : k < l.length
    · obtain ⟨X, o, e1, x1⟩ := (HS.out.blk HB.out.bt.size (fun x hx hxl => HB.out.bt.block x hxl (HX.out x hx))).atI hlt
      obtain rfl : p = some ⟨X, o, none⟩ := e1
      have hc : l[k] = l.getD k 0 := by simp [List.getD, List.getElem?_eq_getElem hlt]
      rw [hc] at x1
      have CL : Hid _ := HV.out k F wr hlt HB.out.i HB.out.fn HB.out.bt
      have HKk : Hid _ := HK.out k
      have LS : Hid (((kp k).length + 1) * (KI).B ≤ 140737488355328) := by have := HL.out k; show ((kp k).length + 1) * 8 ≤ _; omega
      obtain ⟨c, hcc⟩ : ∃ c, c = l.getD k 0 := ⟨_, rfl⟩
      rw [← hcc] at x1 CL HKk
      clear hc hcc
      cases hp : pr k with
      | true =>
        rw [hp] at CL HKk
        rw [if_pos rfl] at HKk
        go_wp2_with fail
        refine Calls.mono CL.out ?_
        rintro e w1 ⟨rfl, F1, i1, f1, b1⟩
        have R1 : Hid (RW KI w w1 I F0 F1 vs (kp (k + 1)) (k + 1)) := by show RW _ _ _ _ _ _ _ _ _; rw [HKk.out]; exact HB.out.look i1 f1 b1
        clear i1 f1 b1 CL HKk
        go_wp2
        go_roundw
        case rel => exact ⟨k + 1, _, F1, _, by go_num, rfl, rfl, by omega, R1⟩
        case measure => simp [intOf]; omega
      | false =>
        rw [hp] at CL HKk
        rw [if_neg (by decide)] at HKk
        go_wp2_with fail
        refine Calls.mono CL.out ?_
        rintro e w1 ⟨rfl, F1, i1, f1, b1⟩
        have R1 : Hid (RW KI w w1 I F0 F1 vs (kp k) (k + 1)) := HB.out.look i1 f1 b1
        have Z1 : Hid (w.heap.size ≤ w1.heap.size) := R1.out.bt.size
        clear i1 f1 b1 CL
        go_wp2_with (at_builtin; refine append_g KI KI_ok rfl (.tmp 18) (.tmp 20) 37 rfl w.heap.size Tryd.underlying37 _ _ _ vs (kp k) c _ rfl R1.out.s _ rfl rfl rfl LS.out Z1.out ?_; intro g2 c2 w2 ho2 hb2 hk2 hg2)
        go_roundw
        case rel =>
          refine ⟨k + 1, _, F1, _, by go_num, rfl, rfl, by omega, ?_⟩
          rw [HKk.out]
          exact R1.out.push V ho2 hb2.os hb2.tape hb2.output hb2.size hk2 hg2
        case measure => simp [intOf]; omega
    · have hkl : k = l.length := by omega
      subst hkl
      obtain ⟨p2, c2, hvs, _⟩ := HB.out.s.form
      subst hvs
      go_wp2
      go_ret
      exact ⟨p2, c2, F, rfl, HB.out⟩
set_option maxHeartbeats 8000000 in
set_option maxRecDepth 100000 in
theorem removeS_any (v : Value) (l : List ByteArray) (fn : Nat) (cp : Array Value) (pr : Nat → Bool) (w : World) (I : Nat → (Nat → Prop) → World → Prop) (F0 : Nat → Prop) (V : Vis I) (h : GS KS w v l) (hX : ∀ x, v.ownBlock = some x → ¬ F0 x) (hlm : l.length ≤ 1000000) (I0 : I 0 F0 w) (hen : ∀ args w, Sem.run Tryd.prog (callFunc fn args) w = .ok (.enter fn args) w)
    (VS : ∀ k F wk, k < l.length → I k F wk → (∀ x, F x → F0 x ∨ w.heap.size ≤ x) → But F0 w wk → Calls Tryd.prog fn (#[.string (l.getD k ByteArray.empty)] ++ cp) wk fun e w' => e = .returned (.bool (pr k)) ∧ ∃ F', I (k + 1) F' w' ∧ (∀ x, F' x → F x ∨ wk.heap.size ≤ x) ∧ But F wk w') :
    Calls Tryd.prog 45 #[v, .func (.func fn) #[] cp] w fun e w' => ∃ p c F', e = .returned (.slice p (keepK l ByteArray.empty pr l.length).length c) ∧ RW KS w w' I F0 F' (.slice p (keepK l ByteArray.empty pr l.length).length c) (keepK l ByteArray.empty pr l.length) l.length := by
  obtain ⟨p, cap, rfl⟩ := h.form
  have HS : Hid (GS KS w (.slice p l.length cap) l) := h
  have HX : Hid (∀ x, (Value.slice p l.length cap).ownBlock = some x → ¬ F0 x) := hX
  have HV : Hid _ := VS
  have E0 : Hid (RW KS w w I F0 F0 (.slice none 0 0) (keepK l ByteArray.empty pr 0) 0) := ⟨I0, OwnG.nil _ _ _, fun x hx => by simp [Value.ownBlock] at hx, But.refl _ _, fun x hx => Or.inl hx⟩
  have HK : Hid (∀ k, keepK l ByteArray.empty pr (k + 1) = if pr k = true then keepK l ByteArray.empty pr k else keepK l ByteArray.empty pr k ++ [l.getD k ByteArray.empty]) := fun k => rfl
  have HL : Hid (∀ k, (keepK l ByteArray.empty pr k).length ≤ k) := keepK_len l ByteArray.empty pr
  generalize keepK l ByteArray.empty pr = kp at *
  clear h hX VS I0
  go_enter Tryd.func45, Tryd.ntmps45
  go_wp2
  go_loopw [5, 10] (fun v5 v10 wr => ∃ (k : Nat) (vs : Value) (F : Nat → Prop) (wk : World), v10 = .int .i64 k ∧ vs = v5 ∧ wk = wr ∧ k ≤ l.length ∧ Hid (RW KS w wk I F0 F vs (kp k) k)) (fun _ v10 _ => l.length - (intOf v10).toNat)
  case atStart => exact ⟨0, _, F0, _, rfl, rfl, rfl, Nat.zero_le _, E0⟩
  case round =>
    obtain ⟨k, vs, F, wr, rfl, rfl, rfl, hk, HB⟩ := hrel
    clear E0
    by_cases hlt : k < l.length
    · obtain ⟨X, o, e1, x1⟩ := (HS.out.blk HB.out.bt.size (fun x hx hxl => HB.out.bt.block x hxl (HX.out x hx))).atS hlt
      obtain rfl : p = some ⟨X, o, none⟩ := e1
      have hc : l[k] = l.getD k ByteArray.empty := by simp [List.getD, List.getElem?_eq_getElem hlt]
      rw [hc] at x1
      have CL : Hid _ := HV.out k F wr hlt HB.out.i HB.out.fn HB.out.bt
      have HKk : Hid _ := HK.out k
      have LS : Hid (((kp k).length + 1) * (KS).B ≤ 140737488355328) := by have := HL.out k; show ((kp k).length + 1) * 16 ≤ _; omega
      obtain ⟨c, hcc⟩ : ∃ c, c = l.getD k ByteArray.empty := ⟨_, rfl⟩
      rw [← hcc] at x1 CL HKk
      clear hc hcc
      cases hp : pr k with
      | true =>
        rw [hp] at CL HKk
        rw [if_pos rfl] at HKk
        go_wp2_with fail
        refine Calls.mono CL.out ?_
        rintro e w1 ⟨rfl, F1, i1, f1, b1⟩
        have R1 : Hid (RW KS w w1 I F0 F1 vs (kp (k + 1)) (k + 1)) := by show RW _ _ _ _ _ _ _ _ _; rw [HKk.out]; exact HB.out.look i1 f1 b1
        clear i1 f1 b1 CL HKk
        go_wp2
        go_roundw
        case rel => exact ⟨k + 1, _, F1, _, by go_num, rfl, rfl, by omega, R1⟩
        case measure => simp [intOf]; omega
      | false =>
        rw [hp] at CL HKk
        rw [if_neg (by decide)] at HKk
        go_wp2_with fail
        refine Calls.mono CL.out ?_
        rintro e w1 ⟨rfl, F1, i1, f1, b1⟩
        have R1 : Hid (RW KS w w1 I F0 F1 vs (kp k) (k + 1)) := HB.out.look i1 f1 b1
        have Z1 : Hid (w.heap.size ≤ w1.heap.size) := R1.out.bt.size
        clear i1 f1 b1 CL
        go_wp2_with (at_builtin; refine append_g KS KS_ok rfl (.tmp 18) (.tmp 20) 28 rfl w.heap.size Tryd.underlying28 _ _ _ vs (kp k) c _ rfl R1.out.s _ rfl rfl rfl LS.out Z1.out ?_; intro g2 c2 w2 ho2 hb2 hk2 hg2)
        go_roundw
        case rel =>
          refine ⟨k + 1, _, F1, _, by go_num, rfl, rfl, by omega, ?_⟩
          rw [HKk.out]
          exact R1.out.push V ho2 hb2.os hb2.tape hb2.output hb2.size hk2 hg2
        case measure => simp [intOf]; omega
    · have hkl : k = l.length := by omega
      subst hkl
      obtain ⟨p2, c2, hvs, _⟩ := HB.out.s.form
      subst hvs
      go_wp2
      go_ret
      exact ⟨p2, c2, F, rfl, HB.out⟩
end Go.Proofs.YthmppnmmlblbhaaDoor
