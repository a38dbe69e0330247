/- Names: isBound, isTooDeep, Check. -/
import Derived.Test.YtffabehipcomfaaDoorPz3
import Derived.Deep.QuietTactic
import Derived.BigQuiet
namespace Go.Proofs.YtffabehipcomfaaDoor
open Go.RowKit

/-- Those of the first k that stay. -/
def keepK {α : Type} (l : List α) (d : α) (pr : Nat → Bool) : Nat → List α
  | 0 => []
  | k + 1 => if pr k = true then keepK l d pr k else keepK l d pr k ++ [l.getD k d]
theorem keepK_len {α : Type} (l : List α) (d : α) (pr : Nat → Bool) : ∀ k, (keepK l d pr k).length ≤ k
  | 0 => by simp [keepK]
  | k + 1 => by have := keepK_len l d pr k; rw [keepK]; split <;> simp <;> omega
theorem keepK_filter {α : Type} (l : List α) (d : α) (q : α → Bool) : ∀ k, k ≤ l.length → keepK l d (fun k => q (l.getD k d)) k = (l.take k).filter (fun x => !(q x))
  | 0, _ => by simp [keepK]
  | k + 1, h => by
    have hk : k < l.length := by omega
    rw [keepK, keepK_filter l d q k (by omega), List.take_add_one, List.getElem?_eq_getElem hk, Option.toList_some, List.filter_append]
    have e : l.getD k d = l[k] := by simp [List.getD, List.getElem?_eq_getElem hk]
    rw [e]
    cases hq : q l[k] with
    | true => simp [hq]
    | false => simp [hq]
/-- Where removeFunc stands. -/
structure RW {α : Type} (K : RK α) (w wk : World) (I : Nat → (Nat → Prop) → World → Prop) (F0 F : Nat → Prop) (vs : Value) (m : List α) (k : Nat) : Prop where
  i : I k F wk
  s : OwnG K wk w.heap.size vs m
  ap : ∀ x, vs.ownBlock = some x → ¬ F x
  bt : But F0 w wk
  fn : ∀ x, F x → F0 x ∨ w.heap.size ≤ x
/-- One is looked at. -/
theorem RW.look {α : Type} {K : RK α} {w wk w1 : World} {I : Nat → (Nat → Prop) → World → Prop} {F0 F F1 : Nat → Prop} {vs : Value} {m : List α} {k : Nat} (h : RW K w wk I F0 F vs m k)
    (i1 : I (k + 1) F1 w1) (f1 : ∀ x, F1 x → F x ∨ wk.heap.size ≤ x) (b1 : But F wk w1) : RW K w w1 I F0 F1 vs m (k + 1) := by
  have hvs : ∀ x, vs.ownBlock = some x → w.heap.size ≤ x ∧ x < wk.heap.size := fun x hx => h.s.lt hx
  refine ⟨i1, h.s.far (fun x hx => b1.block x (hvs x hx).2 (h.ap x hx)), fun x hx hf => ?_, h.bt.trans b1 (fun x hx => h.fn x hx), fun x hx => ?_⟩
  · rcases f1 x hf with e | e
    · exact h.ap x hx e
    · have := (hvs x hx).2; omega
  · rcases f1 x hx with e | e
    · exact h.fn x e
    · have := h.bt.size; right; omega
/-- One more is kept. -/
theorem RW.push {α : Type} {K : RK α} {w w1 w2 : World} {I : Nat → (Nat → Prop) → World → Prop} {F0 F : Nat → Prop} {vs : Value} {m m2 : List α} {k g n c : Nat} (V : Vis I) (h : RW K w w1 I F0 F vs m k)
    (o2 : OwnG K w2 w.heap.size (.slice (some ⟨g, 0, none⟩) n c) m2)
    (os : w2.os = w1.os) (tp : w2.tape = w1.tape) (op : w2.output = w1.output) (sz : w1.heap.size ≤ w2.heap.size) (k2 : ∀ x, x < w1.heap.size → some x ≠ vs.ownBlock → w2.heap[x]? = w1.heap[x]?) (hg : vs.ownBlock = some g ∨ w1.heap.size ≤ g) :
    RW K w w2 I F0 F (.slice (some ⟨g, 0, none⟩) n c) m2 k := by
  have hvs : ∀ x, vs.ownBlock = some x → w.heap.size ≤ x ∧ x < w1.heap.size := fun x hx => h.s.lt hx
  refine ⟨V.keep _ _ _ _ h.i sz os tp op (fun x hx => k2 x (V.lt _ _ _ h.i x hx) (fun e => h.ap x e.symm hx)), o2, fun x hx => ?_, ?_, h.fn⟩
  · have : x = g := by simpa [Value.ownBlock] using hx.symm
    subst this
    rcases hg with e | e
    · exact h.ap x e
    · intro hf; have := V.lt _ _ _ h.i x hf; omega
  · have b2 : But (fun x => vs.ownBlock = some x) w1 w2 := ⟨os, tp, op, sz, fun x hx hn => k2 x hx (fun e => hn e.symm)⟩
    exact h.bt.trans b2 (fun x hx => Or.inr (hvs x hx).1)
set_option maxHeartbeats 8000000 in
set_option maxRecDepth 100000 in
theorem removeI_any (v : Value) (l : List Int) (fn : Nat) (cp : Array Value) (pr : Nat → Bool) (w : World) (I : Nat → (Nat → Prop) → World → Prop) (F0 : Nat → Prop) (V : Vis I) (h : GS KI w v l) (hX : ∀ x, v.ownBlock = some x → ¬ F0 x) (hlm : l.length ≤ 1000000) (I0 : I 0 F0 w) (hen : ∀ args w, Sem.run Tryd.prog (callFunc fn args) w = .ok (.enter fn args) w)
    (VS : ∀ k F wk, k < l.length → I k F wk → (∀ x, F x → F0 x ∨ w.heap.size ≤ x) → But F0 w wk → Calls Tryd.prog fn (#[.int .i64 (l.getD k 0)] ++ cp) wk fun e w' => e = .returned (.bool (pr k)) ∧ ∃ F', I (k + 1) F' w' ∧ (∀ x, F' x → F x ∨ wk.heap.size ≤ x) ∧ But F wk w') :
    Calls Tryd.prog 87 #[v, .func (.func fn) #[] cp] w fun e w' => ∃ p c F', e = .returned (.slice p (keepK l 0 pr l.length).length c) ∧ RW KI w w' I F0 F' (.slice p (keepK l 0 pr l.length).length c) (keepK l 0 pr l.length) l.length := by
  obtain ⟨p, cap, rfl⟩ := h.form
  have HS : Hid (GS KI w (.slice p l.length cap) l) := h
  have HX : Hid (∀ x, (Value.slice p l.length cap).ownBlock = some x → ¬ F0 x) := hX
  have HV : Hid _ := VS
  have E0 : Hid (RW KI w w I F0 F0 (.slice none 0 0) (keepK l 0 pr 0) 0) := ⟨I0, OwnG.nil _ _ _, fun x hx => by simp [Value.ownBlock] at hx, But.refl _ _, fun x hx => Or.inl hx⟩
  have HK : Hid (∀ k, keepK l 0 pr (k + 1) = if pr k = true then keepK l 0 pr k else keepK l 0 pr k ++ [l.getD k 0]) := fun k => rfl
  have HL : Hid (∀ k, (keepK l 0 pr k).length ≤ k) := keepK_len l 0 pr
  generalize keepK l 0 pr = kp at *
  clear h hX VS I0
  go_enter Tryd.func87, Tryd.ntmps87
  go_wp2
  go_loopw [5, 10] (fun v5 v10 wr => ∃ (k : Nat) (vs : Value) (F : Nat → Prop) (wk : World), v10 = .int .i64 k ∧ vs = v5 ∧ wk = wr ∧ k ≤ l.length ∧ Hid (RW KI w wk I F0 F vs (kp k) k)) (fun _ v10 _ => l.length - (intOf v10).toNat)
  case atStart => exact ⟨0, _, F0, _, rfl, rfl, rfl, Nat.zero_le _, E0⟩
  case round =>
    obtain ⟨k, vs, F, wr, rfl, rfl, rfl, hk, HB⟩ := hrel
    clear E0
    by_cases hlt : k < l.length
    · obtain ⟨X, o, e1, x1⟩ := (HS.out.blk HB.out.bt.size (fun x hx hxl => HB.out.bt.block x hxl (HX.out x hx))).atI hlt
      obtain rfl : p = some ⟨X, o, none⟩ := e1
      have hc : l[k] = l.getD k 0 := by simp [List.getD, List.getElem?_eq_getElem hlt]
      rw [hc] at x1
      have CL : Hid _ := HV.out k F wr hlt HB.out.i HB.out.fn HB.out.bt
      have HKk : Hid _ := HK.out k
      have LS : Hid (((kp k).length + 1) * (KI).B ≤ 140737488355328) := by have := HL.out k; show ((kp k).length + 1) * 8 ≤ _; omega
      obtain ⟨c, hcc⟩ : ∃ c, c = l.getD k 0 := ⟨_, rfl⟩
      rw [← hcc] at x1 CL HKk
      clear hc hcc
      cases hp : pr k with
      | true =>
        rw [hp] at CL HKk
        rw [if_pos rfl] at HKk
        go_wp2_with fail
        refine Calls.mono CL.out ?_
        rintro e w1 ⟨rfl, F1, i1, f1, b1⟩
        have R1 : Hid (RW KI w w1 I F0 F1 vs (kp (k + 1)) (k + 1)) := by show RW _ _ _ _ _ _ _ _ _; rw [HKk.out]; exact HB.out.look i1 f1 b1
        clear i1 f1 b1 CL HKk
        go_wp2
        go_roundw
        case rel => exact ⟨k + 1, _, F1, _, by go_num, rfl, rfl, by omega, R1⟩
        case measure => simp [intOf]; omega
      | false =>
        rw [hp] at CL HKk
        rw [if_neg (by decide)] at HKk
        go_wp2_with fail
        refine Calls.mono CL.out ?_
        rintro e w1 ⟨rfl, F1, i1, f1, b1⟩
        have R1 : Hid (RW KI w w1 I F0 F1 vs (kp k) (k + 1)) := HB.out.look i1 f1 b1
        have Z1 : Hid (w.heap.size ≤ w1.heap.size) := R1.out.bt.size
        clear i1 f1 b1 CL
        go_wp2_with (at_builtin; refine append_g KI KI_ok rfl (.tmp 18) (.tmp 20) 100 rfl w.heap.size Tryd.underlying100 _ _ _ vs (kp k) c _ rfl R1.out.s _ rfl rfl rfl LS.out Z1.out ?_; intro g2 c2 w2 ho2 hb2 hk2 hg2)
        go_roundw
        case rel =>
          refine ⟨k + 1, _, F1, _, by go_num, rfl, rfl, by omega, ?_⟩
          rw [HKk.out]
          exact R1.out.push V ho2 hb2.os hb2.tape hb2.output hb2.size hk2 hg2
        case measure => simp [intOf]; omega
    · have hkl : k = l.length := by omega
      subst hkl
      obtain ⟨p2, c2, hvs, _⟩ := HB.out.s.form
      subst hvs
      go_wp2
      go_ret
      exact ⟨p2, c2, F, rfl, HB.out⟩
set_option maxHeartbeats 8000000 in
set_option maxRecDepth 100000 in
theorem removeS_any (v : Value) (l : List ByteArray) (fn : Nat) (cp : Array Value) (pr : Nat → Bool) (w : World) (I : Nat → (Nat → Prop) → World → Prop) (F0 : Nat → Prop) (V : Vis I) (h : GS KS w v l) (hX : ∀ x, v.ownBlock = some x → ¬ F0 x) (hlm : l.length ≤ 1000000) (I0 : I 0 F0 w) (hen : ∀ args w, Sem.run Tryd.prog (callFunc fn args) w = .ok (.enter fn args) w)
    (VS : ∀ k F wk, k < l.length → I k F wk → (∀ x, F x → F0 x ∨ w.heap.size ≤ x) → But F0 w wk → Calls Tryd.prog fn (#[.string (l.getD k ByteArray.empty)] ++ cp) wk fun e w' => e = .returned (.bool (pr k)) ∧ ∃ F', I (k + 1) F' w' ∧ (∀ x, F' x → F x ∨ wk.heap.size ≤ x) ∧ But F wk w') :
    Calls Tryd.prog 58 #[v, .func (.func fn) #[] cp] w fun e w' => ∃ p c F', e = .returned (.slice p (keepK l ByteArray.empty pr l.length).length c) ∧ RW KS w w' I F0 F' (.slice p (keepK l ByteArray.empty pr l.length).length c) (keepK l ByteArray.empty pr l.length) l.length := by
  obtain ⟨p, cap, rfl⟩ := h.form
  have HS : Hid (GS KS w (.slice p l.length cap) l) := h
  have HX : Hid (∀ x, (Value.slice p l.length cap).ownBlock = some x → ¬ F0 x) := hX
  have HV : Hid _ := VS
  have E0 : Hid (RW KS w w I F0 F0 (.slice none 0 0) (keepK l ByteArray.empty pr 0) 0) := ⟨I0, OwnG.nil _ _ _, fun x hx => by simp [Value.ownBlock] at hx, But.refl _ _, fun x hx => Or.inl hx⟩
  have HK : Hid (∀ k, keepK l ByteArray.empty pr (k + 1) = if pr k = true then keepK l ByteArray.empty pr k else keepK l ByteArray.empty pr k ++ [l.getD k ByteArray.empty]) := fun k => rfl
  have HL : Hid (∀ k, (keepK l ByteArray.empty pr k).length ≤ k) := keepK_len l ByteArray.empty pr
  generalize keepK l ByteArray.empty pr = kp at *
  clear h hX VS I0
  go_enter Tryd.func58, Tryd.ntmps58
  go_wp2
  go_loopw [5, 10] (fun v5 v10 wr => ∃ (k : Nat) (vs : Value) (F : Nat → Prop) (wk : World), v10 = .int .i64 k ∧ vs = v5 ∧ wk = wr ∧ k ≤ l.length ∧ Hid (RW KS w wk I F0 F vs (kp k) k)) (fun _ v10 _ => l.length - (intOf v10).toNat)
  case atStart => exact ⟨0, _, F0, _, rfl, rfl, rfl, Nat.zero_le _, E0⟩
  case round =>
    obtain ⟨k, vs, F, wr, rfl, rfl, rfl, hk, HB⟩ := hrel
    clear E0
    by_cases hlt : k < l.length
    · obtain ⟨X, o, e1, x1⟩ := (HS.out.blk HB.out.bt.size (fun x hx hxl => HB.out.bt.block x hxl (HX.out x hx))).atS hlt
      obtain rfl : p = some ⟨X, o, none⟩ := e1
      have hc : l[k] = l.getD k ByteArray.empty := by simp [List.getD, List.getElem?_eq_getElem hlt]
      rw [hc] at x1
      have CL : Hid _ := HV.out k F wr hlt HB.out.i HB.out.fn HB.out.bt
      have HKk : Hid _ := HK.out k
      have LS : Hid (((kp k).length + 1) * (KS).B ≤ 140737488355328) := by have := HL.out k; show ((kp k).length + 1) * 16 ≤ _; omega
      obtain ⟨c, hcc⟩ : ∃ c, c = l.getD k ByteArray.empty := ⟨_, rfl⟩
      rw [← hcc] at x1 CL HKk
      clear hc hcc
      cases hp : pr k with
      | true =>
        rw [hp] at CL HKk
        rw [if_pos rfl] at HKk
        go_wp2_with fail
        refine Calls.mono CL.out ?_
        rintro e w1 ⟨rfl, F1, i1, f1, b1⟩
        have R1 : Hid (RW KS w w1 I F0 F1 vs (kp (k + 1)) (k + 1)) := by show RW _ _ _ _ _ _ _ _ _; rw [HKk.out]; exact HB.out.look i1 f1 b1
        clear i1 f1 b1 CL HKk
        go_wp2
        go_roundw
        case rel => exact ⟨k + 1, _, F1, _, by go_num, rfl, rfl, by omega, R1⟩
        case measure => simp [intOf]; omega
      | false =>
        rw [hp] at CL HKk
        rw [if_neg (by decide)] at HKk
        go_wp2_with fail
        refine Calls.mono CL.out ?_
        rintro e w1 ⟨rfl, F1, i1, f1, b1⟩
        have R1 : Hid (RW KS w w1 I F0 F1 vs (kp k) (k + 1)) := HB.out.look i1 f1 b1
        have Z1 : Hid (w.heap.size ≤ w1.heap.size) := R1.out.bt.size
        clear i1 f1 b1 CL
        go_wp2_with (at_builtin; refine append_g KS KS_ok rfl (.tmp 18) (.tmp 20) 50 rfl w.heap.size Tryd.underlying50 _ _ _ vs (kp k) c _ rfl R1.out.s _ rfl rfl rfl LS.out Z1.out ?_; intro g2 c2 w2 ho2 hb2 hk2 hg2)
        go_roundw
        case rel =>
          refine ⟨k + 1, _, F1, _, by go_num, rfl, rfl, by omega, ?_⟩
          rw [HKk.out]
          exact R1.out.push V ho2 hb2.os hb2.tape hb2.output hb2.size hk2 hg2
        case measure => simp [intOf]; omega
    · have hkl : k = l.length := by omega
      subst hkl
      obtain ⟨p2, c2, hvs, _⟩ := HB.out.s.form
      subst hvs
      go_wp2
      go_ret
      exact ⟨p2, c2, F, rfl, HB.out⟩
end Go.Proofs.YtffabehipcomfaaDoor
namespace Go.Proofs.YtffabehipcomfaaDoor
open Go.RowKit

theorem bytes_toList (b : ByteArray) : b.toList = b.data.toList := by
  first | exact Go.ByteArray.toList_eq b | exact ByteArray.toList_eq b
theorem bytes_beq (a b : ByteArray) : (a.toList == b.toList) = decide (a = b) := by
  by_cases h : a = b
  · subst h; simp
  · rw [decide_eq_false h, beq_eq_false_iff_ne]
    intro e
    refine h ?_
    rw [bytes_toList, bytes_toList] at e
    cases a; cases b
    simp only [ByteArray.mk.injEq]
    exact Array.toList_inj.1 e
set_option maxHeartbeats 4000000 in
theorem bind1_any (l : List Opn) (k u : Nat) (bp be ba : Nat) (vp ve : Value) (w : World) (hk : k < l.length) (hu : u < l.length) (hp : 0 < (ptO l k).length) (_hlm : l.length ≤ 1000000)
    (cp : w.cell? ⟨bp, 0, none⟩ = some vp) (ce : w.cell? ⟨be, 0, none⟩ = some ve) (ca : w.cell? ⟨ba, 0, none⟩ = some (.int .i64 k)) (hP : IS w vp (ptO l k)) (hE : OS w ve l) :
    Calls Tryd.prog 88 (#[.int .i64 u] ++ #[.pointer (some ⟨bp, 0, none⟩), .pointer (some ⟨be, 0, none⟩), .pointer (some ⟨ba, 0, none⟩)]) w fun e w' => e = .returned (.bool (bindB l k u)) ∧ Below w.heap.size w w' := by
  obtain ⟨p1, c1, rfl⟩ := hP.form
  obtain ⟨p2, c2, rfl⟩ := hE.form
  obtain ⟨X1, o1, rfl, q0⟩ := hP.atI hp
  obtain ⟨X2, o2, rfl, _, _, _, tk⟩ := hE.atO hk
  obtain ⟨X3, o3, e3, _, _, _, tu⟩ := hE.atO hu
  injection e3 with e3
  injection e3 with e3 e4 _
  subst e3 e4
  have HB : Hid (bindB l k u = (decide (p0 l k < u) && decide ((opA l u).text = (opA l k).text))) := by show bindB l k u = _; unfold bindB; rw [Int.toNat_natCast]
  have e0 : p0 l k = (ptO l k)[0] := by unfold p0; simp [List.getD, List.getElem?_eq_getElem hp]
  rw [opA_eq hk, opA_eq hu, e0] at HB
  rw [Nat.add_zero] at q0
  generalize (ptO l k)[0] = P0 at *
  generalize bindB l k u = r at *
  obtain ⟨N, hN⟩ : ∃ N, N = (ptO l k).length := ⟨_, rfl⟩
  rw [← hN] at cp hp
  clear hP hE e0 hN
  generalize l[k].text = TK at *
  generalize l[u].text = TU at *
  have hlm := _hlm
  obtain ⟨L, hL⟩ : ∃ L, L = l.length := ⟨_, rfl⟩
  rw [← hL] at hk hu hlm ce
  clear hL
  have DR : Hid (∀ n, Below w.heap.size w (w.drewN n)) := fun n => ⟨rfl, rfl, rfl, Nat.le_refl _, fun _ _ => rfl⟩
  by_cases hg : (u : Int) > P0
  · have hg2 : decide ((u : Int) > P0) = true := decide_eq_true hg
    go_enter Tryd.func88, Tryd.ntmps88
    go_wp2
    go_quiet (fail)
    go_wp2
    go_ret
    exact ⟨ret_bool (by rw [HB.out, show decide (P0 < (u : Int)) = true from hg2, bytes_beq]; rfl), DR.out _⟩
  · have hg2 : decide ((u : Int) > P0) = false := decide_eq_false hg
    go_enter Tryd.func88, Tryd.ntmps88
    go_wp2
    go_quiet (fail)
    go_wp2
    go_ret
    exact ⟨ret_bool (by rw [HB.out]; rw [show decide (P0 < (u : Int)) = false from hg2]; rfl), DR.out _⟩
/-- A box with one value. -/
theorem box_cell {w : World} {b : Nat} {v : Value} {t : TypeId} (h : w.heap[b]? = some (.cells #[v] t)) : w.cell? ⟨b, 0, none⟩ = some v := (cell_of_row _ _ _ _ _ _ h).trans rfl
theorem box_frozen {w : World} {b o : Nat} {c : Array Value} {t : TypeId} (h : w.heap[b]? = some (.cells c t)) : w.frozen? ⟨b, o, none⟩ = false := by simp [World.frozen?, h]
theorem box_set {w : World} {b : Nat} {v u : Value} {t : TypeId} (h : w.heap[b]? = some (.cells #[v] t)) : (w.setCell ⟨b, 0, none⟩ u).heap[b]? = some (.cells #[u] t) := heap_setCell_same w b 0 _ _ _ h
theorem set_far {w : World} {b o x : Nat} {u : Value} (h : x ≠ b) : (w.setCell ⟨b, o, none⟩ u).heap[x]? = w.heap[x]? := Below.heap_setCell _ _ _ _ h
theorem set_size (w : World) (b o : Nat) (u : Value) : (w.setCell ⟨b, o, none⟩ u).heap.size = w.heap.size := by simp [World.setCell]
/-- The state of isBound's visits: the box of what is unbound, and its row. -/
def UB (l : List Opn) (b : Nat) (base : Nat) (k : Nat) (F : Nat → Prop) (w : World) : Prop := ∃ v, w.heap[b]? = some (.cells #[v] 100) ∧ OwnG KI w base v (unbK l k) ∧ b < base ∧ ∀ x, F x ↔ x = b ∨ v.ownBlock = some x
theorem UB_vis (l : List Opn) (b base : Nat) : Vis (UB l b base) where
  lt := fun k F w h x hx => by
    obtain ⟨v, h1, h2, h3, h4⟩ := h
    rcases (h4 x).1 hx with e | e
    · subst e; exact (Array.getElem?_eq_some_iff.1 h1).1
    · exact (h2.lt e).2
  keep := fun k F w w' h hs _ _ _ hk => by
    obtain ⟨v, h1, h2, h3, h4⟩ := h
    have hb : w'.heap[b]? = w.heap[b]? := hk b ((h4 b).2 (Or.inl rfl))
    exact ⟨v, hb.trans h1, h2.far (fun g hg => hk g ((h4 g).2 (Or.inr hg))), h3, h4⟩
theorem UB.store {l : List Opn} {b base k : Nat} {F : Nat → Prop} {w w2 : World} {v v' : Value} (h1 : w.heap[b]? = some (.cells #[v] 100)) (h4 : ∀ x, F x ↔ x = b ∨ v.ownBlock = some x) (h3 : b < base) (B : But F w w2) (hb : w2.heap[b]? = w.heap[b]?) (o2 : OwnG KI w2 base v' (unbK l (k + 1))) (hn : ∀ g, v'.ownBlock = some g → F g ∨ w.heap.size ≤ g) :
    ∃ F', UB l b base (k + 1) F' (w2.setCell ⟨b, 0, none⟩ v') ∧ (∀ x, F' x → F x ∨ w.heap.size ≤ x) ∧ But F w (w2.setCell ⟨b, 0, none⟩ v') := by
  refine ⟨fun x => x = b ∨ v'.ownBlock = some x, ⟨v', box_set (hb.trans h1), o2.far (fun g hg => set_far (by have := (o2.lt hg).1; omega)), h3, fun x => Iff.rfl⟩, fun x hx => ?_, ⟨B.os, B.tape, B.output, by rw [set_size]; exact B.size, fun x hx hf => (set_far (fun e => hf ((h4 x).2 (Or.inl e)))).trans (B.block x hx hf)⟩⟩
  rcases hx with e | e
  · exact Or.inl ((h4 x).2 (Or.inl e))
  · exact hn x e
theorem But.below {a b : World} (h : But (fun _ => False) a b) : Below a.heap.size a b := ⟨h.os, h.tape, h.output, h.size, fun x hx => h.block x hx (fun e => e)⟩
theorem none_vis : Vis (fun _ F _ => ∀ x, ¬ F x) where
  lt := fun _ _ _ h x hx => (h x hx).elim
  keep := fun _ _ _ _ h _ _ _ _ _ => h
theorem unb_remove (l : List Opn) (k bp be ba : Nat) (vu vp ve : Value) (w : World) (hk : k < l.length) (hp : 0 < (ptO l k).length) (hlm : l.length ≤ 256) (h19 : (opA l k).kind = 19)
    (cp : w.cell? ⟨bp, 0, none⟩ = some vp) (ce : w.cell? ⟨be, 0, none⟩ = some ve) (ca : w.cell? ⟨ba, 0, none⟩ = some (.int .i64 k)) (hP : IS w vp (ptO l k)) (hE : OS w ve l) (hU : IS w vu (unbK l k)) :
    Calls Tryd.prog 87 #[vu, .func (.func 88) #[] #[.pointer (some ⟨bp, 0, none⟩), .pointer (some ⟨be, 0, none⟩), .pointer (some ⟨ba, 0, none⟩)]] w fun e w' => ∃ p c, e = .returned (.slice p (unbK l (k + 1)).length c) ∧ OwnG KI w' w.heap.size (.slice p (unbK l (k + 1)).length c) (unbK l (k + 1)) ∧ Below w.heap.size w w' := by
  have hbd := unbK_bd l k
  have hul := unbK_len l k
  have eK : keepK (unbK l k) 0 (fun i => bindB l k ((unbK l k).getD i 0)) (unbK l k).length = unbK l (k + 1) := by
    rw [keepK_filter (unbK l k) 0 (bindB l k) _ (Nat.le_refl _), List.take_length, unbK, if_neg (by rw [h19]; decide), if_pos h19]
  refine (removeI_any vu (unbK l k) 88 _ (fun i => bindB l k ((unbK l k).getD i 0)) w _ (fun _ => False) none_vis hU (fun x _ e => e) (by omega) (fun x e => e) Tryd.call88 ?_).mono ?_
  · intro i F wk hi hF _ hbt
    have hB := hbt.below
    have hm := hbd _ (mem_getD hi)
    obtain ⟨u, hu⟩ : ∃ u : Nat, (unbK l k).getD i 0 = u := ⟨((unbK l k).getD i 0).toNat, by omega⟩
    rw [hu] at hm ⊢
    refine (bind1_any l k u bp be ba vp ve wk hk (by omega) hp (by omega) ((hB.cell (p := ⟨bp, 0, none⟩) (block_lt_of_cell cp)).trans cp) ((hB.cell (p := ⟨be, 0, none⟩) (block_lt_of_cell ce)).trans ce) ((hB.cell (p := ⟨ba, 0, none⟩) (block_lt_of_cell ca)).trans ca) (hP.below hB) (hE.below hB)).mono ?_
    rintro e w' ⟨rfl, hb⟩
    exact ⟨rfl, F, hF, fun x hx => Or.inl hx, But.of_below hb⟩
  · rintro e w' ⟨p, c, F', rfl, R⟩
    rw [eK] at R
    rw [eK]
    exact ⟨p, c, rfl, R.s, R.bt.below⟩
set_option maxHeartbeats 8000000 in
set_option maxRecDepth 100000 in
theorem boundV_any (l : List Opn) (k bu be base : Nat) (F : Nat → Prop) (vp ve : Value) (w : World) (hwh : wholeB l = true) (hk : k < l.length) (hlm : l.length ≤ 256)
    (U : UB l bu base k F w) (hbase : base ≤ w.heap.size) (ce : w.cell? ⟨be, 0, none⟩ = some ve) (hP : IS w vp (ptO l k)) (hE : OS w ve l) :
    Calls Tryd.prog 86 (#[.int .i64 k, vp] ++ #[.pointer (some ⟨be, 0, none⟩), .pointer (some ⟨bu, 0, none⟩)]) w fun e w' => e = .returned (.tuple #[]) ∧ ∃ F', UB l bu base (k + 1) F' w' ∧ (∀ x, F' x → F x ∨ w.heap.size ≤ x) ∧ But F w w' := by
  obtain ⟨vu, h1, h2, h3, h4⟩ := U
  have HE : Hid (OS w ve l) := hE
  have HP : Hid (IS w vp (ptO l k)) := hP
  obtain ⟨p2, c2, rfl⟩ := hE.form
  obtain ⟨X2, o2, rfl, xk, _, _, tk⟩ := hE.atO hk
  obtain ⟨p1, c1, rfl⟩ := hP.form
  have H1 : Hid (w.heap[bu]? = some (.cells #[vu] 100)) := h1
  have H2 : Hid (OwnG KI w base vu (unbK l k)) := h2
  have H4 : Hid (∀ x, F x ↔ x = bu ∨ vu.ownBlock = some x) := h4
  have bx := box_cell h1
  have bf : ∀ o, w.frozen? ⟨bu, o, none⟩ = false := fun o => box_frozen h1
  have hul := unbK_len l k
  have ZB : Hid (bu < w.heap.size) := block_lt_of_cell bx
  have ZE : Hid (be < w.heap.size) := block_lt_of_cell ce
  have ZX : Hid (X2 < w.heap.size) := block_lt_of_cell xk
  rw [← opA_eq hk] at xk
  have HU : Hid (unbK l (k + 1) = if (opA l k).kind = 4 then unbK l k ++ [(k : Int)] else if (opA l k).kind = 19 then (unbK l k).filter (fun u => !(bindB l k u)) else unbK l k) := rfl
  have AL : Hid (∀ o1 o2, Below w.heap.size w ((w.alloc o1).alloc o2)) := fun o1 o2 => ((Below.refl _ _).alloc (Nat.le_refl _) o1).alloc (by simp) o2
  have HPL : Hid ((opA l k).kind = 19 → 0 < (ptO l k).length) := fun h19 => by
    obtain ⟨ha, hw⟩ := wholeB_ok hwh
    have h5 := (ptO_len hw hk).1
    have hn := opB_n2 (ha _ (List.getElem_mem hk)) (by rw [opA_eq hk] at h19; rw [h19]; decide)
    rw [opA_eq hk] at h19
    rw [h19, show oprt 19 = 2 by decide] at hn
    omega
  have ce2 : ∀ a b, ((w.alloc a).alloc b).cell? ⟨be, 0, none⟩ = some (.slice (some ⟨X2, o2, none⟩) l.length c2) := fun a b => ((AL.out a b).cell (p := ⟨be, 0, none⟩) ZE.out).trans ce
  have xk2 : ∀ a b, ((w.alloc a).alloc b).cell? ⟨X2, o2 + k * 4, none⟩ = some (.int .i64 (opA l k).kind) := fun a b => ((AL.out a b).cell (p := ⟨X2, o2 + k * 4, none⟩) ZX.out).trans xk
  have bx2 : ∀ a b, ((w.alloc a).alloc b).cell? ⟨bu, 0, none⟩ = some vu := fun a b => ((AL.out a b).cell (p := ⟨bu, 0, none⟩) ZB.out).trans bx
  by_cases k4 : (opA l k).kind = 4
  · have k4b : ((opA l k).kind == 4) = true := by simpa using k4
    rw [if_pos k4] at HU
    generalize (opA l k).kind = kd at *
    have O2 : Hid (∀ a b, OwnG KI ((w.alloc a).alloc b) base vu (unbK l k)) := fun a b => H2.out.below (AL.out a b)
    have LS : Hid (((unbK l k).length + 1) * KI.B ≤ 140737488355328) := by show ((unbK l k).length + 1) * 8 ≤ _; omega
    have Z0 : Hid (∀ a b, base ≤ ((w.alloc a).alloc b).heap.size) := fun a b => Nat.le_trans hbase (AL.out a b).size
    obtain ⟨un, hun⟩ : ∃ un, un = unbK l k := ⟨_, rfl⟩
    rw [← hun] at O2 LS HU
    clear h1 h2 hE hP tk hul hun ce xk bx bf
    go_enter Tryd.func86, Tryd.ntmps86
    have FZ : ∀ w2 : World, w2.heap[bu]? = w.heap[bu]? → w2.frozen? ⟨bu, 0, none⟩ = false ∧ w2.cell? ⟨bu, 0, none⟩ = some vu := fun w2 h => ⟨box_frozen (h.trans H1.out), box_cell (h.trans H1.out)⟩
    have HFZ : Hid _ := FZ
    have BUN : Hid (∀ a b, ∀ g, vu.ownBlock = some g → bu ≠ g) := fun a b g hg => by have := ((O2.out a b).lt hg).1; omega
    clear FZ
    go_wp2_with (at_builtin; refine append_g KI KI_ok rfl (.tmp 13) (.tmp 15) 100 rfl base Tryd.underlying100 _ _ _ vu un (k : Int) _ rfl (O2.out _ _) (w.heap.size + 2) (by simp) rfl rfl LS.out (Z0.out _ _) ?_; intro g2 c3 w2 ho2 hb2 hk2 hg2; have hbu : w2.heap[bu]? = w.heap[bu]? := (hk2 bu (Nat.lt_of_lt_of_le ZB.out (AL.out _ _).size) (fun e => BUN.out (.cells #[] 0) (.cells #[] 0) bu e.symm rfl)).trans ((AL.out _ _).block bu ZB.out); obtain ⟨fz, cz⟩ := HFZ.out _ hbu)
    go_end0
    refine ⟨rfl, UB.store H1.out H4.out h3 (w2 := w2) ⟨hb2.os.trans (AL.out _ _).os, hb2.tape.trans (AL.out _ _).tape, hb2.output.trans (AL.out _ _).output, Nat.le_trans (AL.out _ _).size hb2.size, fun x hx hf => (hk2 x (Nat.lt_of_lt_of_le hx (AL.out _ _).size) (fun e => hf ((H4.out x).2 (Or.inr e.symm)))).trans ((AL.out _ _).block x hx)⟩ hbu (HU.out ▸ ho2) (fun g hg => ?_)⟩
    have : g = g2 := by simpa [Value.ownBlock] using hg.symm
    subst this
    rcases hg2 with e | e
    · exact Or.inl ((H4.out g).2 (Or.inr e))
    · exact Or.inr (Nat.le_trans (AL.out _ _).size e)
  · by_cases k19 : (opA l k).kind = 19
    · have k4b : ((opA l k).kind == 4) = false := by simpa using k4
      have k19b : ((opA l k).kind == 19) = true := by simpa using k19
      have hpl := HPL.out k19
      have RM : Hid _ := unb_remove l k (w.heap.size + 1) be w.heap.size vu (.slice p1 (ptO l k).length c1) _ ((w.alloc (.cells #[.int .i64 k] 3)).alloc (.cells #[.slice p1 (ptO l k).length c1] 100)) hk hpl hlm k19 (by
        simp) (ce2 _ _) (by
        rw [((Below.refl (w.heap.size + 1) (w.alloc (.cells #[.int .i64 k] 3))).alloc (by simp) (.cells #[.slice p1 (ptO l k).length c1] 100)).cell (p := ⟨w.heap.size, 0, none⟩) (by simp)]
        simp) (HP.out.below (AL.out _ _)) (HE.out.below (AL.out _ _)) ((H2.out.below (AL.out _ _)).gs KI_ok.len)
      rw [if_neg k4, if_pos k19] at HU
      generalize (opA l k).kind = kd at *
      have FZ : Hid (∀ w2 : World, w2.heap[bu]? = w.heap[bu]? → w2.frozen? ⟨bu, 0, none⟩ = false ∧ w2.cell? ⟨bu, 0, none⟩ = some vu) := fun w2 h => ⟨box_frozen (h.trans H1.out), box_cell (h.trans H1.out)⟩
      obtain ⟨pf, cf, hvu, _⟩ := H2.out.form
      clear h1 h2 hE hP tk ce xk bx bf hul
      subst hvu
      go_enter Tryd.func86, Tryd.ntmps86
      go_wp2_with fail
      refine Calls.mono RM.out ?_
      rintro e w2 ⟨p3, c3, rfl, ho2, hb2⟩
      have hbu : w2.heap[bu]? = w.heap[bu]? := (hb2.block bu (Nat.lt_of_lt_of_le ZB.out (AL.out _ _).size)).trans ((AL.out _ _).block bu ZB.out)
      obtain ⟨fz, cz⟩ := FZ.out _ hbu
      have B2 : Hid (Below w.heap.size w w2) := (AL.out _ _).trans (hb2.mono (AL.out _ _).size)
      have O2 : Hid (OwnG KI w2 w.heap.size _ (unbK l (k + 1))) := ho2.low (AL.out _ _).size
      have HBU : Hid _ := hbu
      clear hbu ho2 hb2 RM
      go_wp2
      go_end0
      exact ⟨rfl, UB.store H1.out H4.out h3 (w2 := w2) (But.of_below B2.out) HBU.out (O2.out.low hbase) (fun g hg => Or.inr (O2.out.lt hg).1)⟩
    · have k4b : ((opA l k).kind == 4) = false := by simpa using k4
      have k19b : ((opA l k).kind == 19) = false := by simpa using k19
      rw [if_neg k4, if_neg k19] at HU
      generalize (opA l k).kind = kd at *
      clear h1 h2 hE hP tk ce xk bx bf
      go_enter Tryd.func86, Tryd.ntmps86
      go_wp2
      go_end0
      exact ⟨rfl, F, (UB_vis l bu base).keep _ _ _ _ ⟨vu, H1.out, HU.out ▸ H2.out, h3, H4.out⟩ (AL.out _ _).size (AL.out _ _).os (AL.out _ _).tape (AL.out _ _).output (fun x hx => (AL.out _ _).block x ((UB_vis l bu base).lt k F w ⟨vu, H1.out, H2.out, h3, H4.out⟩ x hx)), fun x hx => Or.inl hx, But.of_below (AL.out _ _)⟩
end Go.Proofs.YtffabehipcomfaaDoor
namespace Go.Proofs.YtffabehipcomfaaDoor
open Go.RowKit

theorem walk_ne {l : List Opn} (h : walkN 0 (nsO l) = some 1) : 0 < l.length := by
  cases l with
  | nil => simp [nsO, walkN] at h
  | cons a r => simp
set_option maxHeartbeats 4000000 in
theorem isBound_any (v : Value) (l : List Opn) (w : World) (h : OS w v l) (hwh : wholeB l = true) (hlm : l.length ≤ 256) :
    Calls Tryd.prog 72 #[v] w fun e w' => e = .returned (.bool (boundB l)) ∧ Below w.heap.size w w' := by
  obtain ⟨ha, hw⟩ := wholeB_ok hwh
  have hne := walk_ne hw
  obtain ⟨wa, hwa⟩ : ∃ wa, wa = (w.alloc (.cells #[v] 31)).alloc (.cells #[.slice none 0 0] 100) := ⟨_, rfl⟩
  have AL : Below w.heap.size w wa := by rw [hwa]; exact ((Below.refl _ _).alloc (Nat.le_refl _) _).alloc (by simp) _
  have hza : wa.heap.size = w.heap.size + 2 := by rw [hwa]; simp
  have b0 : wa.heap[w.heap.size]? = some (.cells #[v] 31) := by
    rw [hwa, ((Below.refl (w.heap.size + 1) (w.alloc (.cells #[v] 31))).alloc (by simp) _).block _ (by omega)]
    exact heap_alloc_new _ _
  have b1 : wa.heap[w.heap.size + 1]? = some (.cells #[.slice none 0 0] 100) := by
    have := heap_alloc_new (w.alloc (.cells #[v] 31)) (.cells #[.slice none 0 0] 100)
    rw [hwa]; simpa using this
  have EW := eachWhole_any v l 86 #[.pointer (some ⟨w.heap.size, 0, none⟩), .pointer (some ⟨w.heap.size + 1, 0, none⟩)] wa (UB l (w.heap.size + 1) (w.heap.size + 2)) (fun x => x = w.heap.size + 1 ∨ (Value.slice none 0 0).ownBlock = some x) (UB_vis _ _ _) (h.below AL) (fun x hx e => by
      have := h.lt hne hx
      rcases e with e | e
      · omega
      · simp [Value.ownBlock] at e) hw hlm ⟨.slice none 0 0, b1, OwnG.nil _ _ _, by omega, fun x => Iff.rfl⟩ Tryd.call86 (fun k F wk vp hk hI hP hap hfn hbt => by
      have hsz := hbt.size
      have be : wk.heap[w.heap.size]? = some (.cells #[v] 31) := (hbt.block w.heap.size (by omega) (fun e => by
        rcases e with e | e
        · omega
        · simp [Value.ownBlock] at e)).trans b0
      refine boundV_any l k (w.heap.size + 1) w.heap.size (w.heap.size + 2) F vp v wk hwh hk hlm hI (by omega) (box_cell be) hP ((h.below AL).blk hsz (fun x hx _ => hbt.block x (by have := h.lt hne hx; omega) (fun e => by
        have := h.lt hne hx
        rcases e with e | e
        · omega
        · simp [Value.ownBlock] at e)))
      )
  have EW2 : Hid (Calls Tryd.prog 85 #[v, .func (.func 86) #[] #[.pointer (some ⟨w.heap.size, 0, none⟩), .pointer (some ⟨w.heap.size + 1, 0, none⟩)]] wa fun e w' => e = .returned (.tuple #[]) ∧ (∃ p c, w'.cell? ⟨w.heap.size + 1, 0, none⟩ = some (.slice p (unbK l l.length).length c)) ∧ Below w.heap.size w w') := by
    refine Calls.mono EW ?_
    rintro e w' ⟨rfl, F', ⟨vu, u1, u2, _⟩, _, hbt⟩
    obtain ⟨p, c, rfl, _⟩ := u2.form
    refine ⟨rfl, ⟨p, c, box_cell u1⟩, AL.trans ⟨hbt.os, hbt.tape, hbt.output, hbt.size, fun x hx => hbt.block x (by omega) (fun e => by
        rcases e with e | e
        · omega
        · simp [Value.ownBlock] at e)⟩⟩
  have HB : Hid (boundB l = decide ((unbK l l.length).length = 0)) := rfl
  have hmf : ∀ (fn : Fn) (first cap : Array Value) (w : World), (Instr.makeFunc fn first cap).run Tryd.prog w = .ok (.func fn first cap) w := fun _ _ _ _ => rfl
  generalize boundB l = r at *
  generalize (unbK l l.length).length = U at *
  subst hwa
  obtain ⟨p, cap, rfl⟩ := h.form
  clear h EW b1 hw ha AL hza b0
  go_enter Tryd.func72, Tryd.ntmps72
  go_wp2_with fail
  refine Calls.mono EW2.out ?_
  rintro e w1 ⟨rfl, ⟨p1, c1, hc⟩, hb1⟩
  have B1 : Hid (Below w.heap.size w w1) := hb1
  clear hb1 EW2
  go_wp2_with fail
  go_ret
  exact ⟨ret_bool (by rw [HB.out]; by_cases e : U = 0 <;> simp [e]), B1.out⟩
end Go.Proofs.YtffabehipcomfaaDoor
