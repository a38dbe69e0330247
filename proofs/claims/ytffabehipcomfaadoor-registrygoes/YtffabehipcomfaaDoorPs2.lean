/- Names: texts of a kind; Asked, Gates. -/
import Derived.Test.YtffabehipcomfaaDoorPz6
import Derived.Test.YtffabehipcomfaaDoorPs1
namespace Go.Proofs.YtffabehipcomfaaDoor
open Go.RowKit

set_option maxHeartbeats 8000000 in
set_option maxRecDepth 100000 in
theorem removeM_any (v : Value) (l : List ByteArray) (fn : Nat) (m : Value) (pr : Nat → Bool) (w : World) (I : Nat → (Nat → Prop) → World → Prop) (F0 : Nat → Prop) (V : Vis I) (h : GS KS w v l) (hX : ∀ x, v.ownBlock = some x → ¬ F0 x) (hlm : l.length ≤ 1000000) (I0 : I 0 F0 w) (hen : ∀ args w, Sem.run Tryd.prog (callFunc fn args) w = .ok (.enter fn args) w)
    (VS : ∀ k F wk, k < l.length → I k F wk → (∀ x, F x → F0 x ∨ w.heap.size ≤ x) → But F0 w wk → Calls Tryd.prog fn #[m, .string (l.getD k ByteArray.empty)] wk fun e w' => e = .returned (.bool (pr k)) ∧ ∃ F', I (k + 1) F' w' ∧ (∀ x, F' x → F x ∨ wk.heap.size ≤ x) ∧ But F wk w') :
    Calls Tryd.prog 58 #[v, .func (.func fn) #[m] #[]] w fun e w' => ∃ p c F', e = .returned (.slice p (keepK l ByteArray.empty pr l.length).length c) ∧ RW KS w w' I F0 F' (.slice p (keepK l ByteArray.empty pr l.length).length c) (keepK l ByteArray.empty pr l.length) l.length := by
  obtain ⟨p, cap, rfl⟩ := h.form
  have HS : Hid (GS KS w (.slice p l.length cap) l) := h
  have HX : Hid (∀ x, (Value.slice p l.length cap).ownBlock = some x → ¬ F0 x) := hX
  have HV : Hid _ := VS
  have E0 : Hid (RW KS w w I F0 F0 (.slice none 0 0) (keepK l ByteArray.empty pr 0) 0) := ⟨I0, OwnG.nil _ _ _, fun x hx => by simp [Value.ownBlock] at hx, But.refl _ _, fun x hx => Or.inl hx⟩
  have HK : Hid (∀ k, keepK l ByteArray.empty pr (k + 1) = if pr k = true then keepK l ByteArray.empty pr k else keepK l ByteArray.empty pr k ++ [l.getD k ByteArray.empty]) := fun k => rfl
  have HL : Hid (∀ k, (keepK l ByteArray.empty pr k).length ≤ k) := keepK_len l ByteArray.empty pr
  generalize keepK l ByteArray.empty pr = kp at *
  clear h hX VS I0
  go_enter Tryd.func58, Tryd.ntmps58
  go_wp2
  go_loopw [5, 10] (fun v5 v10 wr => ∃ (k : Nat) (vs : Value) (F : Nat → Prop) (wk : World), v10 = .int .i64 k ∧ vs = v5 ∧ wk = wr ∧ k ≤ l.length ∧ Hid (RW KS w wk I F0 F vs (kp k) k)) (fun _ v10 _ => l.length - (intOf v10).toNat)
  case atStart => exact ⟨0, _, F0, _, rfl, rfl, rfl, Nat.zero_le _, E0⟩
  case round =>
    obtain ⟨k, vs, F, wr, rfl, rfl, rfl, hk, HB⟩ := hrel
    clear E0
    by_cases hlt : k < l.length
    · obtain ⟨X, o, e1, x1⟩ := (HS.out.blk HB.out.bt.size (fun x hx hxl => HB.out.bt.block x hxl (HX.out x hx))).atS hlt
      obtain rfl : p = some ⟨X, o, none⟩ := e1
      have hc : l[k] = l.getD k ByteArray.empty := by simp [List.getD, List.getElem?_eq_getElem hlt]
      rw [hc] at x1
      have CL : Hid _ := HV.out k F wr hlt HB.out.i HB.out.fn HB.out.bt
      have HKk : Hid _ := HK.out k
      have LS : Hid (((kp k).length + 1) * (KS).B ≤ 140737488355328) := by have := HL.out k; show ((kp k).length + 1) * 16 ≤ _; omega
      obtain ⟨c, hcc⟩ : ∃ c, c = l.getD k ByteArray.empty := ⟨_, rfl⟩
      rw [← hcc] at x1 CL HKk
      clear hc hcc
      cases hp : pr k with
      | true =>
        rw [hp] at CL HKk
        rw [if_pos rfl] at HKk
        go_wp2_with fail
        refine Calls.mono CL.out ?_
        rintro e w1 ⟨rfl, F1, i1, f1, b1⟩
        have R1 : Hid (RW KS w w1 I F0 F1 vs (kp (k + 1)) (k + 1)) := by show RW _ _ _ _ _ _ _ _ _; rw [HKk.out]; exact HB.out.look i1 f1 b1
        clear i1 f1 b1 CL HKk
        go_wp2
        go_roundw
        case rel => exact ⟨k + 1, _, F1, _, by go_num, rfl, rfl, by omega, R1⟩
        case measure => simp [intOf]; omega
      | false =>
        rw [hp] at CL HKk
        rw [if_neg (by decide)] at HKk
        go_wp2_with fail
        refine Calls.mono CL.out ?_
        rintro e w1 ⟨rfl, F1, i1, f1, b1⟩
        have R1 : Hid (RW KS w w1 I F0 F1 vs (kp k) (k + 1)) := HB.out.look i1 f1 b1
        have Z1 : Hid (w.heap.size ≤ w1.heap.size) := R1.out.bt.size
        clear i1 f1 b1 CL
        go_wp2_with (at_builtin; refine append_g KS KS_ok rfl (.tmp 18) (.tmp 20) 50 rfl w.heap.size Tryd.underlying50 _ _ _ vs (kp k) c _ rfl R1.out.s _ rfl rfl rfl LS.out Z1.out ?_; intro g2 c2 w2 ho2 hb2 hk2 hg2)
        go_roundw
        case rel =>
          refine ⟨k + 1, _, F1, _, by go_num, rfl, rfl, by omega, ?_⟩
          rw [HKk.out]
          exact R1.out.push V ho2 hb2.os hb2.tape hb2.output hb2.size hk2 hg2
        case measure => simp [intOf]; omega
    · have hkl : k = l.length := by omega
      subst hkl
      obtain ⟨p2, c2, hvs, _⟩ := HB.out.s.form
      subst hvs
      go_wp2
      go_ret
      exact ⟨p2, c2, F, rfl, HB.out⟩
end Go.Proofs.YtffabehipcomfaaDoor
namespace Go.Proofs.YtffabehipcomfaaDoor
open Go.RowKit Go.Maps

def hE (v : Value) : Option (DataW Value × List MemPlace) := some (.held v, [])
theorem hE_inj {v z : Value} {ps : List MemPlace} (h : hE v = some (.held z, ps)) : v = z := by
  have q : (some (DataW.held v, []) : Option (DataW Value × List MemPlace)) = some (.held z, ps) := h
  exact DataW.held.inj (congrArg Prod.fst (Option.some.inj q))
/-- The block is a map in which a text s has f s. -/
def MV (w : World) (b n : Nat) (f : ByteArray → Option Value) : Prop := ∃ D : DataW Value, w.ownsMap Tryd.prog 9 hE b n D ∧ (∀ s, Maps.has D (kS s) = (f s).isSome) ∧ ∀ s z, D.atKey (kS s) (.held z) = .held ((f s).getD z)
theorem MV.far {w w' : World} {b n : Nat} {f : ByteArray → Option Value} (h : MV w b n f) (k : w'.heap[b]? = w.heap[b]?) : MV w' b n f := by
  obtain ⟨D, ⟨es, cl, h1, h2⟩, h3⟩ := h
  exact ⟨D, ⟨es, cl, k.trans h1, h2⟩, h3⟩
theorem MV.lt {w : World} {b n : Nat} {f : ByteArray → Option Value} (h : MV w b n f) : b < w.heap.size := by
  obtain ⟨D, h1, _⟩ := h
  exact h1.lt
theorem MV.below {w w' : World} {b n : Nat} {f : ByteArray → Option Value} (h : MV w b n f) (k : Below w.heap.size w w') : MV w' b n f := h.far (k.block b h.lt)
theorem MV.made (w : World) : MV (w.alloc (.map #[] 0)) w.heap.size 0 (fun _ => none) := ⟨.map [], World.ownsMap_made _ _ _ _, fun _ => rfl, fun _ _ => rfl⟩
theorem MV.congr {w : World} {b n : Nat} {f g : ByteArray → Option Value} (h : MV w b n f) (hq : ∀ s, f s = g s) : MV w b n g := by
  have : f = g := funext hq
  rw [← this]; exact h
theorem MV.more {w : World} {b n m : Nat} {f : ByteArray → Option Value} (h : MV w b n f) (hm : n ≤ m) : MV w b m f := by
  obtain ⟨D, h1, h2⟩ := h
  exact ⟨D, h1.mono hm, h2⟩
/-- A text is given something. -/
def putF (f : ByteArray → Option Value) (s : ByteArray) (v : Value) : ByteArray → Option Value := fun x => if x = s then some v else f x
theorem MV.put {w : World} {b n : Nat} {f : ByteArray → Option Value} (h : MV w b n f) {t e : TypeId} (ht : Tryd.prog.underlying t = some (.map 9 e)) (hn : n < maxLen) {s : ByteArray} (hs : s.size ≤ maxLen) (val : Value) :
    ∃ w', (Instr.mapUpdate t (.map (some b)) (.string s) val).run Tryd.prog w = .ok () w' ∧ MV w' b (n + 1) (putF f s val) ∧ But (fun x => x = b) w w' := by
  obtain ⟨D, h1, h2, h3⟩ := h
  have HM : IsMap D := h1.isMap
  obtain ⟨w', hrun, ho, hgr⟩ := h1.update lawS ht hn (key_mk hs) (show hE val = some (.held val, []) from rfl)
  refine ⟨w', hrun, ⟨_, ho, fun y => ?_, fun y z => ?_⟩, But.of_grown hgr⟩
  · unfold putF
    by_cases e : y = s
    · subst e; rw [has_put_same HM (kS_key _), if_pos rfl]; rfl
    · rw [has_put_other (fun q => e (kS_inj.1 q)), if_neg e, h2]
  · unfold putF
    by_cases e : y = s
    · subst e; rw [atKey_put_same HM (kS_key _), if_pos rfl]; rfl
    · rw [atKey_put_other (fun q => e (kS_inj.1 q)), if_neg e, h3]
section
variable {w : World} {ops : Array Oper} {rest : List Oper} {o : Oper} {a : Act} {Q : Exit → Act → World → Prop}
theorem mv_ok (hg : o.guard = none) (m x : Operand) (t : TypeId) (hop : o.op = Op.lookup t m x true) (e : TypeId) (ht : Tryd.prog.underlying t = some (.map 9 e)) {z : Value} (hz : (zeroValue e).run Tryd.prog w = .ok z w)
    (b n : Nat) (f : ByteArray → Option Value) (hm : a.eval m = .map (some b)) (h : MV w b n f) (s : ByteArray) (hx : a.eval x = .string s) (hs : s.size ≤ maxLen)
    (hK : wpList Tryd.prog ops Q rest (a.put o.dst (.tuple #[(f s).getD z, .bool (f s).isSome])) w) : wpList Tryd.prog ops Q (o :: rest) a w := by
  obtain ⟨D, h1, h2, h3⟩ := h
  refine wpList_lookup_own_ok w hg m x t hop 9 e lawS ht hE hz (.held z) [] rfl b n D hm h1 _ _ hx (key_mk hs) ?_
  intro v ps hv
  rw [h3] at hv
  have e1 : v = (f s).getD z := hE_inj hv
  rw [e1, h2]; exact hK
theorem mv_at (hg : o.guard = none) (m x : Operand) (t : TypeId) (hop : o.op = Op.lookup t m x false) (e : TypeId) (ht : Tryd.prog.underlying t = some (.map 9 e)) {z : Value} (hz : (zeroValue e).run Tryd.prog w = .ok z w)
    (b n : Nat) (f : ByteArray → Option Value) (hm : a.eval m = .map (some b)) (h : MV w b n f) (s : ByteArray) (hx : a.eval x = .string s) (hs : s.size ≤ maxLen)
    (hK : wpList Tryd.prog ops Q rest (a.put o.dst ((f s).getD z)) w) : wpList Tryd.prog ops Q (o :: rest) a w := by
  obtain ⟨D, h1, h2, h3⟩ := h
  refine wpList_plain hg fun K' hK' => ?_
  obtain ⟨v, ps, hrun, hv⟩ := h1.lookup lawS ht hz (show hE z = some (.held z, []) from rfl) (key_mk hs)
  rw [h3] at hv
  have e1 : v = (f s).getD z := hE_inj hv
  unfold Oper.wp
  simp [execOp, hop, hm, hx, hrun, Result.andThen]
  rw [e1]
  exact hK' _ _ hK
theorem mv_hit (hg : o.guard = none) (m x : Operand) (t : TypeId) (hop : o.op = Op.lookup t m x false) (e : TypeId) (ht : Tryd.prog.underlying t = some (.map 9 e)) {z : Value} (hz : (zeroValue e).run Tryd.prog w = .ok z w)
    (b n : Nat) (f : ByteArray → Option Value) (hm : a.eval m = .map (some b)) (h : MV w b n f) (s : ByteArray) (hx : a.eval x = .string s) (hs : s.size ≤ maxLen) (v : Value) (hf : f s = some v)
    (hK : wpList Tryd.prog ops Q rest (a.put o.dst v) w) : wpList Tryd.prog ops Q (o :: rest) a w :=
  mv_at hg m x t hop e ht hz b n f hm h s hx hs (by rw [hf]; exact hK)
theorem mv_put (hg : o.guard = none) (m x v : Operand) (t : TypeId) (hop : o.op = Op.mapUpdate t m x v) (e : TypeId) (ht : Tryd.prog.underlying t = some (.map 9 e))
    (b n : Nat) (f : ByteArray → Option Value) (hm : a.eval m = .map (some b)) (h : MV w b n f) (hn : n < maxLen) (s : ByteArray) (val : Value) (hx : a.eval x = .string s) (hv : a.eval v = val) (hs : s.size ≤ maxLen)
    (hK : ∀ w', MV w' b (n + 1) (putF f s val) → But (fun x => x = b) w w' → wpList Tryd.prog ops Q rest (a.put o.dst undef) w') : wpList Tryd.prog ops Q (o :: rest) a w := by
  obtain ⟨D, h1, h2, h3⟩ := h
  have HM : IsMap D := h1.isMap
  refine wpList_mapUpdate_own w hg m x v t hop 9 e lawS ht hE b n D hm h1 hn _ val _ hx hv (key_mk hs) (.held val) [] rfl ?_
  intro w' ho hgr
  refine hK w' ⟨_, ho, fun y => ?_, fun y z => ?_⟩ (But.of_grown hgr)
  · unfold putF
    by_cases e : y = s
    · subst e; rw [has_put_same HM (kS_key _), if_pos rfl]; rfl
    · rw [has_put_other (fun q => e (kS_inj.1 q)), if_neg e, h2]
  · unfold putF
    by_cases e : y = s
    · subst e; rw [atKey_put_same HM (kS_key _), if_pos rfl]; rfl
    · rw [atKey_put_other (fun q => e (kS_inj.1 q)), if_neg e, h3]
end
end Go.Proofs.YtffabehipcomfaaDoor
namespace Go.Proofs.YtffabehipcomfaaDoor
open Go.RowKit

/-- The texts of the operations of a kind. -/
def txL (l : List Opn) (kd : Int) : List ByteArray := (l.filter fun o => o.kind == kd).map (·.text)
theorem txL_len (l : List Opn) (kd : Int) : (txL l kd).length ≤ l.length := by unfold txL; rw [List.length_map]; exact List.length_filter_le _ _
theorem txL_next (l : List Opn) (kd : Int) {k : Nat} (h : k < l.length) : txL (l.take (k + 1)) kd = txL (l.take k) kd ++ (if (l[k].kind == kd) = true then [l[k].text] else []) := by
  unfold txL
  rw [List.take_add_one, List.getElem?_eq_getElem h, Option.toList_some, List.filter_append, List.map_append]
  congr 1
  by_cases e : (l[k].kind == kd) = true
  · rw [if_pos e]; simp [e]
  · rw [if_neg e]; simp [e]
theorem txL_mem {l : List Opn} {kd : Int} {x : ByteArray} (h : x ∈ txL l kd) : ∃ o ∈ l, o.kind = kd ∧ o.text = x := by
  unfold txL at h
  obtain ⟨o, ho, rfl⟩ := List.mem_map.1 h
  rw [List.mem_filter] at ho
  exact ⟨o, ho.1, by simpa using ho.2, rfl⟩
def textsL (l : List Opn) (kd : Int) : List ByteArray := onceL (txL l kd)
set_option maxHeartbeats 4000000 in
theorem textsOf_any (v : Value) (l : List Opn) (kd : Int) (w : World) (h : OS w v l) (hlm : l.length ≤ 256) (ht : ∀ c ∈ l, c.text.size ≤ maxLen) :
    Calls Tryd.prog 76 #[v, .int .i64 kd] w fun e w' => ∃ p c, e = .returned (.slice p (textsL l kd).length c) ∧ OwnG KS w' w.heap.size (.slice p (textsL l kd).length c) (textsL l kd) ∧ Below w.heap.size w w' := by
  obtain ⟨p, cap, rfl⟩ := h.form
  have HS : Hid (OS w (.slice p l.length cap) l) := h
  have EO : Hid (∀ w1 u, Below w.heap.size w w1 → SS w1 u (txL l kd) → Calls Tryd.prog 60 #[u] w1 fun e w' => ∃ p c, e = .returned (.slice p (textsL l kd).length c) ∧ OwnG KS w' w.heap.size (.slice p (textsL l kd).length c) (textsL l kd) ∧ Below w.heap.size w w') := fun w1 u b hu => by
    refine (eachOnce_any u (txL l kd) w1 hu (by have := txL_len l kd; omega) (fun x hx => by obtain ⟨o, ho, _, rfl⟩ := txL_mem hx; exact ht o ho)).mono ?_
    rintro e w' ⟨p, c, rfl, ho, hb⟩
    exact ⟨p, c, rfl, ho.low b.size, b.trans (hb.mono b.size)⟩
  have HN : Hid (∀ k (h : k < l.length), txL (l.take (k + 1)) kd = txL (l.take k) kd ++ (if (l[k].kind == kd) = true then [l[k].text] else [])) := fun k h => txL_next l kd h
  have HL : Hid (∀ k, ((txL (l.take k) kd).length + 1) * KS.B ≤ 140737488355328) := fun k => by
    have h1 := txL_len (l.take k) kd
    have h2 : (l.take k).length ≤ l.length := by simp; omega
    show ((txL (l.take k) kd).length + 1) * 16 ≤ _
    omega
  have HA : Hid (txL (l.take l.length) kd = txL l kd) := by show _ = _; rw [List.take_length]
  generalize textsL l kd = T at *
  clear h ht
  go_enter Tryd.func76, Tryd.ntmps76
  go_wp2
  go_loopw [5, 10] (fun v5 v10 wr => ∃ (k : Nat) (vs : Value) (wk : World), v10 = .int .i64 k ∧ vs = v5 ∧ wk = wr ∧ k ≤ l.length ∧ Hid (OwnG KS wk w.heap.size vs (txL (l.take k) kd) ∧ Below w.heap.size w wk)) (fun _ v10 _ => l.length - (intOf v10).toNat)
  case atStart => exact ⟨0, _, _, rfl, rfl, rfl, Nat.zero_le _, ⟨by simp [txL]; exact OwnG.nil _ _ _, Below.refl _ _⟩⟩
  case round =>
    obtain ⟨k, vs, wr, rfl, rfl, rfl, hk, HI⟩ := hrel
    by_cases hlt : k < l.length
    · obtain ⟨X, o, e1, x1, x2, x3, x4⟩ := (HS.out.below HI.out.2).atO hlt
      obtain rfl : p = some ⟨X, o, none⟩ := e1
      have AL : Hid (∀ ob, Below wr.heap.size wr (wr.alloc ob)) := fun ob => (Below.refl _ _).alloc (Nat.le_refl _) ob
      have IA : Hid (∀ ob, OwnG KS (wr.alloc ob) w.heap.size vs (txL (l.take k) kd) ∧ Below w.heap.size w (wr.alloc ob)) := fun ob => ⟨HI.out.1.below (AL.out ob), HI.out.2.trans ((AL.out ob).mono HI.out.2.size)⟩
      have HK : Hid _ := HN.out k hlt
      have LS : Hid _ := HL.out k
      obtain ⟨c, hc⟩ : ∃ c, c = l[k] := ⟨_, rfl⟩
      rw [← hc] at x1 x2 x3 x4 HK
      clear hc
      cases hq : (c.kind == kd) with
      | true =>
        rw [hq, if_pos rfl] at HK
        go_wp2_with (at_builtin; refine append_g KS KS_ok rfl (.tmp 18) (.tmp 21) 50 rfl w.heap.size Tryd.underlying50 _ _ _ vs (txL (l.take k) kd) c.text _ rfl (IA.out _).1 (wr.heap.size + 1) (by simp) rfl rfl LS.out (IA.out _).2.size ?_; intro g2 c2 w2 ho2 hb2 hk2 hg2)
        go_roundw
        case rel => exact ⟨k + 1, _, _, by go_num, rfl, rfl, by omega, ⟨by rw [HK.out]; exact ho2, (IA.out _).2.trans hb2⟩⟩
        case measure => simp [intOf]; omega
      | false =>
        rw [hq, if_neg (by decide), List.append_nil] at HK
        go_wp2_with fail
        go_roundw
        case rel => exact ⟨k + 1, _, _, by go_num, rfl, rfl, by omega, by rw [HK.out]; exact IA.out _⟩
        case measure => simp [intOf]; omega
    · have hke : k = l.length := by omega
      subst hke
      have HI2 : Hid (OwnG KS wr w.heap.size vs (txL l kd)) := by rw [← HA.out]; exact HI.out.1
      have E1 : Hid _ := EO.out _ _ HI.out.2 (HI2.out.gs KS_ok.len)
      obtain ⟨p2, c2, hvs, _⟩ := HI2.out.form
      clear HI EO HI2
      subst hvs
      go_wp2_with fail
      refine Calls.mono E1.out ?_
      rintro e w2 ⟨p3, c3, rfl, ho, hb⟩
      go_wp2_with fail
      go_ret
      exact ⟨p3, c3, rfl, ho, hb⟩
/-- What Asked and Gates answer. -/
def askL (l : List Opn) (kd : Int) : List ByteArray := if chkO l = 0 then textsL l kd else []
/-- A row of texts of the call's own, with an error's number. -/
def AnsT (w w' : World) (e : Ending) (l : List ByteArray) (c : Int) : Prop := ∃ p cap, e = .returned (.tuple #[.slice p l.length cap, .int .i64 c]) ∧ OwnG KS w' w.heap.size (.slice p l.length cap) l ∧ Below w.heap.size w w'
set_option maxHeartbeats 4000000 in
theorem asked_any (v : Value) (l : List Opn) (w : World) (h : OS w v l) (ht : ∀ c ∈ l, c.text.size ≤ maxLen) (hv : NV w) (hlm : l.length ≤ 1000000000000000) :
    Calls Tryd.prog 55 #[v] w fun e w' => AnsT w w' e (askL l 3) (chkO l) := by
  have CK : Hid _ := check_any v l w h ht hv hlm
  by_cases hc : chkO l = 0
  · have e1 : askL l 3 = textsL l 3 := by unfold askL; rw [if_pos hc]
    rw [e1, hc]
    rw [hc] at CK
    have TX : Hid (∀ w1, Below w.heap.size w w1 → _) := fun w1 b => textsOf_any v l 3 w1 (h.below b) (chkO_ok hc).1 ht
    obtain ⟨p, cap, rfl⟩ := h.form
    generalize textsL l 3 = L at *
    clear h ht hv hc e1
    go_enter Tryd.func55, Tryd.ntmps55
    go_wp2_with fail
    refine Calls.mono CK.out ?_
    rintro e w1 ⟨rfl, hb1⟩
    have B1 : Hid (Below w.heap.size w w1) := hb1
    clear hb1 CK
    go_wp2_with fail
    refine Calls.mono (TX.out _ B1.out) ?_
    rintro e w2 ⟨p2, c2, rfl, ho, hb2⟩
    have B2 : Hid (Below w.heap.size w w2) := B1.out.trans (hb2.mono B1.out.size)
    have O2 : Hid (OwnG KS w2 w.heap.size (.slice p2 L.length c2) L) := ho.low B1.out.size
    clear ho hb2 TX
    go_wp2_with fail
    go_ret2
    exact ⟨p2, c2, rfl, O2.out, B2.out⟩
  · have e1 : askL l 3 = [] := by unfold askL; rw [if_neg hc]
    rw [e1]
    obtain ⟨p, cap, rfl⟩ := h.form
    generalize chkO l = c at *
    have h1 : (c == 0) = false := by simpa using hc
    have h2 : (c != 0) = true := by simpa using hc
    clear h ht hv e1
    go_enter Tryd.func55, Tryd.ntmps55
    go_wp2_with fail
    refine Calls.mono CK.out ?_
    rintro e w1 ⟨rfl, hb1⟩
    have B1 : Hid (Below w.heap.size w w1) := hb1
    clear hb1 CK
    go_wp2_with fail
    go_ret2
    exact ⟨none, 0, rfl, OwnG.nil _ _ _, B1.out⟩
end Go.Proofs.YtffabehipcomfaaDoor
