/- Values: the law ValueTexts, walked. -/
import Derived.Test.YtahcllncjpaijaaDoorVp2
import Derived.Test.YtahcllncjpaijaaDoorVi0
namespace Go.Proofs.YtahcllncjpaijaaDoor
open Go.RowKit

theorem prnS_tree {l : List Atm} {t : Vt} (e : l = flV t) (hr : RT t) : prnS l = ⟨(prV t).toArray⟩ := by
  unfold prnS
  rw [e, if_pos hr.chk, treeA_flat hr.wf, txP_is hr.wf]
set_option maxHeartbeats 4000000 in
set_option maxRecDepth 100000 in
theorem rprint_any (v : Value) (l : List Atm) (w : World) (h : AS w v l) (ht : AT l) (hlm : l.length ≤ 1000000000000000) :
    Calls Tryd.prog 17 #[v] w fun e w' => e = .returned (.tuple #[.string (prnS l), .int .i64 (chkV l)]) ∧ Below w.heap.size w w' := by
  have CA : Hid (Calls Tryd.prog 31 #[v] w fun e w' => e = .returned (.int .i64 (chkV l)) ∧ Below w.heap.size w w') := rvcheck_any v l w h ht hlm
  by_cases hc : chkV l = 0
  · obtain ⟨t, e, hr⟩ := RT.of hc
    rw [prnS_tree e hr]
    have TX : Hid (∀ w1, Below w.heap.size w w1 → Calls Tryd.prog 32 #[v] w1 fun e w' => e = .returned (.string ⟨(prV t).toArray⟩) ∧ Below w1.heap.size w1 w') := fun w1 b => rprint_tree 32 t hr.dp hr v w1 (by rw [← e]; exact GS.below h b)
    obtain ⟨q, c, rfl⟩ := h.form
    rw [hc] at CA ⊢
    generalize (⟨(prV t).toArray⟩ : ByteArray) = tx at *
    clear h ht hc e hr
    go_enter Tryd.func17, Tryd.ntmps17
    go_wp2_with (first
      | (go_at_call 31; refine CA.out.mono ?_; rintro e w1 ⟨rfl, hb⟩; have B1 : Hid (Below w.heap.size w w1) := hb; clear hb)
      | (go_at_call 32; refine (TX.out _ B1.out).mono ?_; rintro e w2 ⟨rfl, hb⟩; have B2 : Hid (Below w.heap.size w w2) := B1.out.trans (hb.mono B1.out.size); clear hb))
    exact bodyPost_ret (v := .tuple #[.string tx, .int .i64 0]) (by simp [results, Tryd.results17, go_sem]) rfl ⟨rfl, B2.out⟩
  · have e : prnS l = ByteArray.empty := by unfold prnS; rw [if_neg hc]
    rw [e]
    obtain ⟨q, c, rfl⟩ := h.form
    generalize chkV l = r at *
    have hcb : (r != 0) = true := by simpa using hc
    clear h ht e
    go_enter Tryd.func17, Tryd.ntmps17
    go_wp2_with (go_at_call 31; refine CA.out.mono ?_; rintro e w1 ⟨rfl, hb⟩; have B1 : Hid (Below w.heap.size w w1) := hb; clear hb)
    exact bodyPost_ret (v := .tuple #[.string ByteArray.empty, .int .i64 r]) (by simp [results, Tryd.results17, go_sem]; try rfl) rfl ⟨rfl, B1.out⟩
theorem psA_len (s : List UInt8) : (psA s).length ≤ 8192 := by
  unfold psA
  split
  · exact (rdA_at s).2
  · simp
set_option maxHeartbeats 8000000 in
set_option maxRecDepth 100000 in
theorem valueTexts_any (v : Value) (s : ByteArray) (l : List Atm) (w : World) (h : AS w v l) (ht : AT l) (hl : l.length * 40 ≤ 140737488355328) (hmax : s.size ≤ maxLen) (hk : L1.KeysAt w) (hm : L1.MarksAt w) (hp : PowBelow w.heap.size w) :
    Calls Tryd.prog 4 #[v, .string s] w fun e w' => e = .returned (.bool true) ∧ Below w.heap.size w w' := by
  have C1 : Hid (Calls Tryd.prog 15 #[v] w fun e w' => ∃ p cap, e = .returned (.slice p l.length cap) ∧ OwnG KA w' w.heap.size (.slice p l.length cap) l ∧ Below w.heap.size w w') := copyV_any v l w h hl
  have P1 : Hid (∀ u w1, AS w1 u l → Below w.heap.size w w1 → Calls Tryd.prog 16 #[u] w1 fun e w' => e = .returned (.tuple #[.string (prnS l), .int .i64 (chkV l)]) ∧ Below w1.heap.size w1 w') := fun u w1 hu b => print_any u l w1 hu ht (by omega) (fun w2 b2 => hp w2 (b.trans (b2.mono b.size)))
  have P2 : Hid (∀ w1, Below w.heap.size w w1 → Calls Tryd.prog 17 #[v] w1 fun e w' => e = .returned (.tuple #[.string (prnS l), .int .i64 (chkV l)]) ∧ Below w1.heap.size w1 w') := fun w1 b => rprint_any v l w1 (GS.below h b) ht (by omega)
  have E1 : Hid (∀ u w1, AS w1 u l → Below w.heap.size w w1 → Calls Tryd.prog 10 #[u, v] w1 fun e w' => e = .returned (.bool true) ∧ Below w1.heap.size w1 w') := fun u w1 hu b => sameV_same w1 u v l hu (GS.below h b) (by omega)
  have Q1 : Hid (∀ w1, Below w.heap.size w w1 → Calls Tryd.prog 18 #[.string s] w1 fun e w' => ∃ x, e = .returned (.tuple #[x, .int .i64 (psE s.data.toList)]) ∧ AS w' x (psA s.data.toList) ∧ Below w1.heap.size w1 w') := fun w1 b => vparse_any s w1 hmax (L1.KeysAt.below hk b) (L1.MarksAt.below hm b) (fun w2 b2 => hp w2 (b.trans (b2.mono b.size)))
  have Q2 : Hid (∀ w1, Calls Tryd.prog 19 #[.string s] w1 fun e w' => ∃ x, e = .returned (.tuple #[x, .int .i64 (psE s.data.toList)]) ∧ AS w' x (psA s.data.toList) ∧ Below w1.heap.size w1 w') := fun w1 => rvparse_any s w1 hmax
  have E2 : Hid (∀ x y w1, AS w1 x (psA s.data.toList) → AS w1 y (psA s.data.toList) → Calls Tryd.prog 10 #[x, y] w1 fun e w' => e = .returned (.bool true) ∧ Below w1.heap.size w1 w') := fun x y w1 hx hy => sameV_same w1 x y _ hx hy (by have := psA_len s.data.toList; omega)
  generalize psE s.data.toList = pe at *
  generalize psA s.data.toList = pa at *
  generalize prnS l = tx at *
  generalize chkV l = ck at *
  obtain ⟨q, c, rfl⟩ := h.form
  clear h ht hl hmax hk hm hp
  go_enter Tryd.func4, Tryd.ntmps4
  go_wp2_with (first
    | (go_at_call 15; refine C1.out.mono ?_; rintro e w1 ⟨p1, c1, rfl, ho, hb⟩; have B1 : Hid (Below w.heap.size w w1) := hb; have A1 : Hid (AS w1 (.slice p1 l.length c1) l) := ho.gs KA_ok.len; clear hb ho C1)
    | (go_at_call 16; refine (P1.out _ _ A1.out B1.out).mono ?_; rintro e w2 ⟨rfl, hb⟩; have B2 : Hid (Below w.heap.size w w2) := B1.out.trans (hb.mono B1.out.size); have A2 : Hid (AS w2 (.slice p1 l.length c1) l) := GS.below A1.out hb; clear hb A1 B1 P1)
    | (go_at_call 17; refine (P2.out _ B2.out).mono ?_; rintro e w3 ⟨rfl, hb⟩; have B3 : Hid (Below w.heap.size w w3) := B2.out.trans (hb.mono B2.out.size); have A3 : Hid (AS w3 (.slice p1 l.length c1) l) := GS.below A2.out hb; clear hb A2 B2 P2)
    | (go_at_call 10; refine (E1.out _ _ A3.out B3.out).mono ?_; rintro e w4 ⟨rfl, hb⟩; have B4 : Hid (Below w.heap.size w w4) := B3.out.trans (hb.mono B3.out.size); clear hb A3 B3 E1)
    | (go_at_call 18; refine (Q1.out _ B4.out).mono ?_; rintro e w5 ⟨x, rfl, hx, hb⟩; have B5 : Hid (Below w.heap.size w w5) := B4.out.trans (hb.mono B4.out.size); have A5 : Hid (AS w5 x pa) := hx; clear hb hx B4 Q1)
    | (go_at_call 19; refine (Q2.out _).mono ?_; rintro e w6 ⟨y, rfl, hy, hb⟩; have B6 : Hid (Below w.heap.size w w6) := B5.out.trans (hb.mono B5.out.size); have A6 : Hid (AS w6 x pa) := GS.below A5.out hb; have C6 : Hid (AS w6 y pa) := hy; clear hb hy B5 Q2 A5)
    | (go_at_call 10; refine (E2.out _ _ _ A6.out C6.out).mono ?_; rintro e w7 ⟨rfl, hb⟩; have B7 : Hid (Below w.heap.size w w7) := B6.out.trans (hb.mono B6.out.size); clear hb))
  go_ret
  exact ⟨rfl, B7.out⟩
end Go.Proofs.YtahcllncjpaijaaDoor
