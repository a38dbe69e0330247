/- Names: removeFunc, handed a bound method. -/
import Derived.Test.YtkdoojndighdjaaDoorPz4
namespace Go.Proofs.YtkdoojndighdjaaDoor
open Go.RowKit

set_option maxHeartbeats 8000000 in
set_option maxRecDepth 100000 in
theorem removeM_any (v : Value) (l : List ByteArray) (fn : Nat) (m : Value) (pr : Nat → Bool) (w : World) (I : Nat → (Nat → Prop) → World → Prop) (F0 : Nat → Prop) (V : Vis I) (h : GS KS w v l) (hX : ∀ x, v.ownBlock = some x → ¬ F0 x) (hlm : l.length ≤ 1000000) (I0 : I 0 F0 w) (hen : ∀ args w, Sem.run Tryd.prog (callFunc fn args) w = .ok (.enter fn args) w)
    (VS : ∀ k F wk, k < l.length → I k F wk → (∀ x, F x → F0 x ∨ w.heap.size ≤ x) → But F0 w wk → Calls Tryd.prog fn #[m, .string (l.getD k ByteArray.empty)] wk fun e w' => e = .returned (.bool (pr k)) ∧ ∃ F', I (k + 1) F' w' ∧ (∀ x, F' x → F x ∨ wk.heap.size ≤ x) ∧ But F wk w') :
    Calls Tryd.prog 60 #[v, .func (.func fn) #[m] #[]] w fun e w' => ∃ p c F', e = .returned (.slice p (keepK l ByteArray.empty pr l.length).length c) ∧ RW KS w w' I F0 F' (.slice p (keepK l ByteArray.empty pr l.length).length c) (keepK l ByteArray.empty pr l.length) l.length := by
  obtain ⟨p, cap, rfl⟩ := h.form
  have HS : Hid (GS KS w (.slice p l.length cap) l) := h
  have HX : Hid (∀ x, (Value.slice p l.length cap).ownBlock = some x → ¬ F0 x) := hX
  have HV : Hid _ := VS
  have E0 : Hid (RW KS w w I F0 F0 (.slice none 0 0) (keepK l ByteArray.empty pr 0) 0) := ⟨I0, OwnG.nil _ _ _, fun x hx => by simp [Value.ownBlock] at hx, But.refl _ _, fun x hx => Or.inl hx⟩
  have HK : Hid (∀ k, keepK l ByteArray.empty pr (k + 1) = if pr k = true then keepK l ByteArray.empty pr k else keepK l ByteArray.empty pr k ++ [l.getD k ByteArray.empty]) := fun k => rfl
  have HL : Hid (∀ k, (keepK l ByteArray.empty pr k).length ≤ k) := keepK_len l ByteArray.empty pr
  generalize keepK l ByteArray.empty pr = kp at *
  clear h hX VS I0
  go_enter Tryd.func60, Tryd.ntmps60
  go_wp2
  go_loopw [5, 10] (fun v5 v10 wr => ∃ (k : Nat) (vs : Value) (F : Nat → Prop) (wk : World), v10 = .int .i64 k ∧ vs = v5 ∧ wk = wr ∧ k ≤ l.length ∧ Hid (RW KS w wk I F0 F vs (kp k) k)) (fun _ v10 _ => l.length - (intOf v10).toNat)
  case atStart => exact ⟨0, _, F0, _, rfl, rfl, rfl, Nat.zero_le _, E0⟩
  case round =>
    obtain ⟨k, vs, F, wr, rfl, rfl, rfl, hk, HB⟩ := hrel
    clear E0
    by_cases hlt : k < l.length
    · obtain ⟨X, o, e1, x1⟩ := (HS.out.blk HB.out.bt.size (fun x hx hxl => HB.out.bt.block x hxl (HX.out x hx))).atS hlt
      obtain rfl : p = some ⟨X, o, none⟩ := e1
      have hc : l[k] = l.getD k ByteArray.empty := by simp [List.getD, List.getElem?_eq_getElem hlt]
      rw [hc] at x1
      have CL : Hid _ := HV.out k F wr hlt HB.out.i HB.out.fn HB.out.bt
      have HKk : Hid _ := HK.out k
      have LS : Hid (((kp k).length + 1) * (KS).B ≤ 140737488355328) := by have := HL.out k; show ((kp k).length + 1) * 16 ≤ _; omega
      obtain ⟨c, hcc⟩ : ∃ c, c = l.getD k ByteArray.empty := ⟨_, rfl⟩
      rw [← hcc] at x1 CL HKk
      clear hc hcc
      cases hp : pr k with
      | true =>
        rw [hp] at CL HKk
        rw [if_pos rfl] at HKk
        go_wp2_with fail
        refine Calls.mono CL.out ?_
        rintro e w1 ⟨rfl, F1, i1, f1, b1⟩
        have R1 : Hid (RW KS w w1 I F0 F1 vs (kp (k + 1)) (k + 1)) := by show RW _ _ _ _ _ _ _ _ _; rw [HKk.out]; exact HB.out.look i1 f1 b1
        clear i1 f1 b1 CL HKk
        go_wp2
        go_roundw
        case rel => exact ⟨k + 1, _, F1, _, by go_num, rfl, rfl, by omega, R1⟩
        case measure => simp [intOf]; omega
      | false =>
        rw [hp] at CL HKk
        rw [if_neg (by decide)] at HKk
        go_wp2_with fail
        refine Calls.mono CL.out ?_
        rintro e w1 ⟨rfl, F1, i1, f1, b1⟩
        have R1 : Hid (RW KS w w1 I F0 F1 vs (kp k) (k + 1)) := HB.out.look i1 f1 b1
        have Z1 : Hid (w.heap.size ≤ w1.heap.size) := R1.out.bt.size
        clear i1 f1 b1 CL
        go_wp2_with (at_builtin; refine append_g KS KS_ok rfl (.tmp 18) (.tmp 20) 43 rfl w.heap.size Tryd.underlying43 _ _ _ vs (kp k) c _ rfl R1.out.s _ rfl rfl rfl LS.out Z1.out ?_; intro g2 c2 w2 ho2 hb2 hk2 hg2)
        go_roundw
        case rel =>
          refine ⟨k + 1, _, F1, _, by go_num, rfl, rfl, by omega, ?_⟩
          rw [HKk.out]
          exact R1.out.push V ho2 hb2.os hb2.tape hb2.output hb2.size hk2 hg2
        case measure => simp [intOf]; omega
    · have hkl : k = l.length := by omega
      subst hkl
      obtain ⟨p2, c2, hvs, _⟩ := HB.out.s.form
      subst hvs
      go_wp2
      go_ret
      exact ⟨p2, c2, F, rfl, HB.out⟩
end Go.Proofs.YtkdoojndighdjaaDoor
