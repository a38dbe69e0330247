/- Values, the reference: operations. -/
import Derived.Test.YtpiikidpgjmmbaaDoorVf4
namespace Go.Proofs.YtpiikidpgjmmbaaDoor
open Go.RowKit

/-- A value of new memory, if there is one; else anything. -/
def AnsR (w w' : World) (e : Ending) (r : Option Vt) : Prop := ∃ p n c, e = .returned (.tuple #[.slice p n c, .bool r.isSome]) ∧ (∀ t, r = some t → n = szV t ∧ OwnG KA w' w.heap.size (.slice p n c) (flV t)) ∧ Below w.heap.size w w'
theorem AnsT.toR {w w' : World} {e : Ending} {r : Option Vt} (h : AnsT w w' e r) : AnsR w w' e r := by
  obtain ⟨p, c, h1, h2, h3⟩ := h
  refine ⟨p, _, c, h1, fun t ht => ?_, h3⟩
  subst ht
  exact ⟨rfl, h2⟩
theorem AnsR.low {w w1 w' : World} {e : Ending} {r : Option Vt} (h : AnsR w1 w' e r) (b : Below w.heap.size w w1) : AnsR w w' e r := by
  obtain ⟨p, n, c, h1, h2, h3⟩ := h
  exact ⟨p, n, c, h1, fun t ht => ⟨(h2 t ht).1, (h2 t ht).2.low b.size⟩, b.trans (h3.mono b.size)⟩
theorem AnsM.toR {w w' : World} {e : Ending} {ts : List Vt} (hr : ∀ t ∈ ts, RT t) (h : AnsM w w' e (ts.map flV)) : AnsR w w' e (lstT ts) := by
  obtain ⟨p, n, c, h1, h2, h3⟩ := h
  refine ⟨p, n, c, by rw [h1, (lokL_lst hr).2], fun t ht => ?_, h3⟩
  obtain ⟨_, e2⟩ := lstT_rt hr ht
  obtain ⟨h4, h5⟩ := h2 (by rw [(lokL_lst hr).2, ht]; rfl)
  rw [lstA_trees, ← e2] at h4 h5
  exact ⟨h4, h5⟩
set_option maxHeartbeats 4000000 in
theorem rnumber_any (n : Int) (w : World) : Calls Tryd.prog 50 #[.int .i64 n] w fun e w' => AnsT w w' e (numT n) := by
  have IN : Hid _ := rint_any n w
  obtain ⟨h1, h2⟩ := intL_num n
  have H1 : Hid _ := h1
  have H2 : Hid _ := h2
  clear h1 h2
  unfold AnsV at IN
  unfold AnsT
  rw [← H1.out, ← H2.out]
  generalize intL n = il at *
  generalize intE n = ie at *
  clear H1 H2
  go_enter Tryd.func50, Tryd.ntmps50
  go_wp2_with fail
  refine Calls.mono IN.out ?_
  rintro e w1 ⟨p1, c1, rfl, ho1, hb1⟩
  have H1 : Hid (OwnG KA w1 w.heap.size (.slice p1 il.length c1) il ∧ Below w.heap.size w w1) := ⟨ho1, hb1⟩
  clear ho1 hb1 IN
  go_wp2_with fail
  exact bodyPost_ret (v := .tuple #[.slice p1 il.length c1, .bool (ie == 0)]) (by simp [results, Tryd.results50, go_sem]) rfl ⟨p1, c1, rfl, H1.out⟩
theorem rsize_any (n : Int) (w : World) (h1 : -9007199254740992 ≤ n) (h2 : n ≤ 9007199254740992) : Calls Tryd.prog 54 #[.int .i64 n] w fun e w' => e = .returned (.int .i64 (n.natAbs : Nat)) ∧ w' = w := by
  by_cases h : n < 0
  · have H : Hid (-n = ((n.natAbs : Nat) : Int)) := by show _ = _; omega
    go_enter Tryd.func54, Tryd.ntmps54
    go_wp2_with fail
    go_ret
    exact ⟨ret_i H.out, rfl⟩
  · have H : Hid (n = ((n.natAbs : Nat) : Int)) := by show _ = _; omega
    go_enter Tryd.func54, Tryd.ntmps54
    go_wp2_with fail
    go_ret
    exact ⟨ret_i H.out, rfl⟩
set_option maxHeartbeats 4000000 in
set_option maxRecDepth 100000 in
theorem rdoList_any (v : Value) (L : List Vx) (ts : List Vt) (w : World) (h : VR w v L) (ht : VT L) (he : aL L = ts.map flV) (hr : ∀ t ∈ ts, RT t) (hlm : L.length ≤ 4096) :
    Calls Tryd.prog 29 #[.int .i64 5, v] w fun e w' => AnsR w w' e (lstT ts) := by
  have LO : Hid (Calls Tryd.prog 48 #[v] w fun e w' => AnsR w w' e (lstT ts)) := by
    have := made_any v L w h ht (fun a ha => by rw [he] at ha; obtain ⟨t, ht', e⟩ := List.mem_map.1 ha; rw [← e]; exact (hr t ht').chk) hlm
    rw [he] at this
    exact this.mono fun e w' h => h.toR hr
  obtain ⟨p, cap, rfl⟩ := h.gs.form
  generalize lstT ts = r at *
  clear h ht he hr
  go_enter Tryd.func29, Tryd.ntmps29
  go_wp2_with fail
  refine Calls.mono LO.out ?_
  rintro e w1 ⟨p1, n1, c1, rfl, h1⟩
  have H1 : Hid _ := h1
  clear h1 LO
  go_wp2_with fail
  exact bodyPost_ret (v := .tuple #[.slice p1 n1 c1, .bool r.isSome]) (by simp [results, Tryd.results29, go_sem]) rfl ⟨p1, n1, c1, rfl, H1.out⟩
theorem do1T_alt {a : Vt} (h : RT a) : do1T a = if a.k = 1 then none else numT (((a.tx.size : Nat) : Int) + ((a.ps.length : Nat) : Int)) := by
  have hw := h.wf
  cases a with
  | nd k i tx ps =>
    rw [wfV] at hw
    have hk := (atB_n hw.1).2.2
    simp only at hk
    show (if k = 2 then numT tx.size else if k = 3 then numT ps.length else none) = if k = 1 then none else numT (((tx.size : Nat) : Int) + ((ps.length : Nat) : Int))
    have ha := hw.1
    unfold atB at ha
    rcases hk with e | e | e
    · subst e; simp
    · subst e
      simp at ha
      rw [ha.1.1]; simp
    · subst e
      simp at ha
      rw [ha.2]; simp
set_option maxHeartbeats 8000000 in
set_option maxRecDepth 100000 in
theorem rdoSize_any (X o cap : Nat) (q1 : Option Addr) (c1 : Nat) (a : Vt) (w : World) (x0 : w.cell? ⟨X, o, none⟩ = some (.slice q1 (szV a) c1)) (h : AS w (.slice q1 (szV a) c1) (flV a)) (ha : RT a) :
    Calls Tryd.prog 29 #[.int .i64 11, .slice (some ⟨X, o, none⟩) 1 cap] w fun e w' => AnsR w w' e (do1T a) := by
  have hs1 := ha.sz
  have W1 : Hid _ := rwholeX_any _ a w h (by omega)
  have HD : Hid (do1T a = if a.k = 1 then none else numT (((a.tx.size : Nat) : Int) + ((a.ps.length : Nat) : Int))) := do1T_alt ha
  have lp1 : a.ps.length ≤ 1024 := by have h3 := memT_len (t := a); have h4 := szV_ps a; omega
  have tz := ha.text
  have N1 : Hid (∀ w1, _) := fun w1 => rnumber_any (((a.tx.size : Nat) : Int) + ((a.ps.length : Nat) : Int)) w1
  have BA : Hid (∀ ob ob', Below w.heap.size w ((w.alloc ob).alloc ob')) := fun ob ob' => ((Below.refl _ _).alloc (Nat.le_refl _) _).alloc (by simp) _
  generalize szV a = n1 at *
  generalize a.k = k1 at *
  generalize a.i = i1 at *
  generalize a.tx = t1 at *
  generalize a.ps.length = m1 at *
  rw [HD.out]
  clear HD h ha
  by_cases h2 : k1 = 1
  · subst h2
    rw [if_pos rfl]
    clear N1
    go_enter Tryd.func29, Tryd.ntmps29
    go_wp2_with fail
    refine Calls.mono W1.out ?_
    rintro e w1 ⟨rfl, hw1⟩
    rw [hw1]
    clear hw1 W1
    go_wp2_with fail
    exact bodyPost_ret (v := .tuple #[.slice none 0 0, .bool false]) (by simp [results, Tryd.results29, go_sem]) rfl (AnsT.toR (AnsT.nil (BA.out _ _)))
  · rw [if_neg h2]
    have h2b : (k1 == 1) = false := by simp [h2]
    generalize numT (((t1.size : Nat) : Int) + ((m1 : Nat) : Int)) = r at *
    go_enter Tryd.func29, Tryd.ntmps29
    go_wp2_with fail
    refine Calls.mono W1.out ?_
    rintro e w1 ⟨rfl, hw1⟩
    rw [hw1]
    clear hw1 W1
    go_wp2_with fail
    refine Calls.mono (N1.out _) ?_
    rintro e w2 hans
    obtain ⟨p2, cc2, rfl, ho2, hb2⟩ := hans.low (BA.out _ _)
    have H2 : Hid (OwnG KA w2 w.heap.size (.slice p2 (outL r).length cc2) (outL r) ∧ Below w.heap.size w w2) := ⟨ho2, hb2⟩
    clear ho2 hb2 N1 hans
    go_wp2_with fail
    exact bodyPost_ret (v := .tuple #[.slice p2 (outL r).length cc2, .bool r.isSome]) (by simp [results, Tryd.results29, go_sem]) rfl (AnsT.toR ⟨p2, cc2, rfl, H2.out⟩)
end Go.Proofs.YtpiikidpgjmmbaaDoor
