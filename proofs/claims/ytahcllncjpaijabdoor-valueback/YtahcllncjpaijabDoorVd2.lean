/- Values: Members, both. -/
import Derived.Test.YtahcllncjpaijabDoorVo2
namespace Go.Proofs.YtahcllncjpaijabDoor
open Go.RowKit

/-- Values of new memory, and an error. -/
def AnsS (w w' : World) (e : Ending) (A : List (List Atm)) (err : Int) : Prop := ∃ p c M, e = .returned (.tuple #[.slice p A.length c, .int .i64 err]) ∧ OwnG KV w' w.heap.size (.slice p A.length c) M ∧ (∀ x ∈ M, AS w' x.v x.a) ∧ aL M = A ∧ VT M ∧ (∀ x ∈ M, SPV w' w.heap.size x.v) ∧ Below w.heap.size w w'
theorem AnsS.none {w w' : World} (b : Below w.heap.size w w') (err : Int) : AnsS w w' (.returned (.tuple #[.slice none 0 0, .int .i64 err])) [] err :=
  ⟨.none, 0, [], rfl, OwnG.nil _ _ _, (fun x hx => by cases hx), rfl, ⟨by simp, (fun x hx => by cases hx), (fun x hx => by cases hx)⟩, (fun x hx => by cases hx), b⟩
theorem vt_trees {M : List Vx} {t : Vt} (h : aL M = t.ps.map flV) (hr : RT t) (hx : AT (flV t)) : VT M := by
  have h1 : VT (mbR 0 0 t.ps) := mbR_vt hr hx
  exact h1.of (by rw [h, mbR_aL])
theorem memE_rt {t : Vt} (h : RT t) : memE (flV t) = if t.k = 3 then 0 else 7 := by
  unfold memE
  rw [if_pos h.chk, (memT_flat h.wf).2]
theorem memL_rt {t : Vt} (h : RT t) : memL (flV t) = if t.k = 3 then t.ps.map flV else [] := by
  unfold memL
  rw [memE_rt h, (memT_flat h.wf).1]
  by_cases e : t.k = 3
  · rw [if_pos e, if_pos e, if_pos rfl]
  · rw [if_neg e, if_neg e, if_neg (by decide)]
set_option maxHeartbeats 4000000 in
theorem members_any (v : Value) (l : List Atm) (w : World) (h : AS w v l) (ht : AT l) (hlm : l.length ≤ 1000000000000000) :
    Calls Tryd.prog 8 #[v] w fun e w' => AnsS w w' e (memL l) (memE l) := by
  have CK : Hid _ := vcheck_any v l w h ht hlm
  by_cases hz : chkV l = 0
  · obtain ⟨t, rfl, hr⟩ := RT.of hz
    rw [hz] at CK
    have hsz := hr.sz
    have WH : Hid (∀ w1, Below w.heap.size w w1 → _) := fun w1 b => whole_any v t w1 (h.below b) (by omega)
    have CL : Hid (∀ w1, Below w.heap.size w w1 → _) := fun w1 b => cloneA_any w1 v (flV t) (h.below b) (by show szV t ≤ _; omega)
    have MB : Hid (∀ w1 u, AS w1 u (flV t) → _) := fun w1 u hu => membersOf_any u t w1 hu hr
    have FIN : Hid (∀ w' w1 (X n c gg : Nat), OwnG KA w1 w.heap.size (.slice (some ⟨X, 0, none⟩) n c) (flV t) → OwnG KV w' w1.heap.size (.slice (some ⟨gg, 0, none⟩) t.ps.length t.ps.length) (mbR X 0 t.ps) → Below w1.heap.size w1 w' → Below w.heap.size w w1 → AnsS w w' (.returned (.tuple #[.slice (some ⟨gg, 0, none⟩) t.ps.length t.ps.length, .int .i64 0])) (t.ps.map flV) 0) := fun w' w1 X n c gg o1 o2 b1 b0 => by
      have o3 := o1.below b1
      refine ⟨some ⟨gg, 0, none⟩, t.ps.length, mbR X 0 t.ps, by rw [List.length_map], (by rw [List.length_map]; exact o2.low b0.size), mbR_vr (o3.gs KA_ok.len), mbR_aL X 0 t.ps, mbR_vt hr ht, mbR_spv o3, b0.trans (b1.mono b0.size)⟩
    have HL : Hid (memL (flV t) = if t.k = 3 then t.ps.map flV else []) := memL_rt hr
    have HE : Hid (memE (flV t) = if t.k = 3 then 0 else 7) := memE_rt hr
    obtain ⟨p, cap, rfl⟩ := h.form
    have hfl : (flV t).length = szV t := rfl
    have hpos := szV_pos t
    rw [hfl] at CK WH CL ⊢
    clear h hz hlm ht hr
    by_cases hk : t.k = 3
    · rw [if_pos hk] at HL HE
      rw [HL.out, HE.out]
      rw [hk] at WH
      generalize t.i = i0 at WH
      generalize t.tx = tx0 at WH
      have hfd := fld0 3 (t.ps.length : Nat) i0 tx0
      clear HL HE hk
      go_enter Tryd.func8, Tryd.ntmps8
      go_wp2_with fail
      refine Calls.mono CK.out ?_
      rintro e w1 ⟨rfl, hb1⟩
      have B1 : Hid (Below w.heap.size w w1) := hb1
      have W1 : Hid _ := WH.out w1 hb1
      clear hb1 CK WH
      go_wp2_with fail
      refine Calls.mono W1.out ?_
      rintro e w2 ⟨rfl, hb2⟩
      have B2 : Hid (Below w.heap.size w w2) := B1.out.trans (hb2.mono B1.out.size)
      have C2 : Hid _ := CL.out w2 B2.out
      clear hb2 W1 B1 CL
      go_wp2_with fail
      refine Calls.mono C2.out ?_
      rintro e w3 ⟨q3, c3, rfl, ho3, hb3⟩
      have O3 : Hid (OwnG KA w3 w.heap.size (.slice q3 (szV t) c3) (flV t)) := ho3.low B2.out.size
      have B3 : Hid (Below w.heap.size w w3) := B2.out.trans (hb3.mono B2.out.size)
      have M3 : Hid _ := MB.out w3 _ (O3.out.gs KA_ok.len)
      clear hb3 ho3 C2 B2 MB hfd
      go_wp2_with fail
      refine Calls.mono M3.out ?_
      rintro e w4 ⟨X, o, n4, c4, g4, e4, rfl, ho4, hb4⟩
      have F4 : Hid (AnsS w w4 (.returned (.tuple #[.slice (some ⟨g4, 0, none⟩) t.ps.length t.ps.length, .int .i64 0])) (t.ps.map flV) 0) := by
        obtain ⟨gx, cx, e5, _⟩ := O3.out.place (by rw [e4]; simp [Value.ownBlock])
        rw [e5] at e4
        injection e4 with e4 e6 e7
        injection e4 with e4
        injection e4 with e4 e8 _
        subst e4 e8
        exact FIN.out _ _ _ _ _ _ (by rw [← e5]; exact O3.out) ho4 hb4 B3.out
      clear ho4 hb4 M3 FIN e4
      go_wp2_with fail
      exact bodyPost_ret (v := .tuple #[.slice (some ⟨g4, 0, none⟩) t.ps.length t.ps.length, .int .i64 0]) (by simp [results, Tryd.results8, go_sem]) rfl F4.out
    · rw [if_neg hk] at HL HE
      rw [HL.out, HE.out]
      generalize t.i = i0 at WH
      generalize t.tx = tx0 at WH
      have hfd := fld0 t.k (t.ps.length : Nat) i0 tx0
      generalize t.k = k0 at *
      clear HL HE FIN MB CL
      have hk2 : (k0 != 3) = true := by simp [hk]
      go_enter Tryd.func8, Tryd.ntmps8
      go_wp2_with fail
      refine Calls.mono CK.out ?_
      rintro e w1 ⟨rfl, hb1⟩
      have B1 : Hid (Below w.heap.size w w1) := hb1
      have W1 : Hid _ := WH.out w1 hb1
      clear hb1 CK WH
      go_wp2_with fail
      refine Calls.mono W1.out ?_
      rintro e w2 ⟨rfl, hb2⟩
      have B2 : Hid (Below w.heap.size w w2) := B1.out.trans (hb2.mono B1.out.size)
      clear hb2 W1 B1
      go_wp2_with fail
      exact bodyPost_ret (v := .tuple #[.slice none 0 0, .int .i64 7]) (by simp [results, Tryd.results8, go_sem]) rfl (AnsS.none B2.out 7)
  · have HL : Hid (memL l = [] ∧ memE l = chkV l) := by
      unfold memL memE
      rw [if_neg hz, if_neg hz]; exact ⟨rfl, rfl⟩
    rw [HL.out.1, HL.out.2]
    obtain ⟨p, cap, rfl⟩ := h.form
    clear HL h ht
    generalize chkV l = r at *
    have hz2 : (r != 0) = true := by simp [hz]
    go_enter Tryd.func8, Tryd.ntmps8
    go_wp2_with fail
    refine Calls.mono CK.out ?_
    rintro e w1 ⟨rfl, hb1⟩
    have B1 : Hid (Below w.heap.size w w1) := hb1
    clear hb1 CK
    go_wp2_with fail
    exact bodyPost_ret (v := .tuple #[.slice none 0 0, .int .i64 r]) (by simp [results, Tryd.results8, go_sem]) rfl (AnsS.none B1.out r)
end Go.Proofs.YtahcllncjpaijabDoor
