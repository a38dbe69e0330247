/- Cells: End, whole. -/
import Derived.Test.YtbgeihgenckihaaDoorCb7
import Derived.Test.YtbgeihgenckihaaDoorCb4
namespace Go.Proofs.YtbgeihgenckihaaDoor
open Go.RowKit

theorem HB.below {w w2 w3 : World} {b : Nat} {A : Array Value} (h : HB w b A w2) (k : Below w2.heap.size w2 w3) : HB w b A w3 := ⟨(k.block b (lt_of_heap h.hp)).trans h.hp, h.bu.trans (Bu.of k)⟩
theorem HB.fresh {w w2 w3 w' : World} {b : Nat} {A B : Array Value} {o : Oc} {v f : Value} (h : HB w b A w') (k : HB w3 b B w') (cp : CpR w2 o w3 v f) (hb : b < w2.heap.size) (c' : Ce) (hA : A = ceA c' v f) (ho : c'.out = o) : Cdo w b c' w' := by
  obtain ⟨q1, q2, q3⟩ := cp
  have n1 : ∀ x, v.ownBlock = some x → x ≠ b := fun x hx => by have := (q1.lt hx).1; omega
  have n2 : ∀ x, f.ownBlock = some x → x ≠ b := fun x hx => by have := (q2.lt hx).1; omega
  refine ⟨v, f, ⟨by rw [h.hp, hA], ?_, ?_, n1, n2⟩, h.bu⟩
  · rw [ho]; exact (q1.gs KA_ok.len).blk k.bu.size (fun x hx hl => k.bu.block x hl (n1 x hx))
  · rw [ho]; exact (ownC_g q2).cs.blk k.bu.size (fun x hx hl => k.bu.block x hl (n2 x hx))
theorem OkO.bu {w w' : World} {b : Nat} {o : Oc} {vv fv : Value} (h : OkO w o vv fv) (k : Bu b w w') (n1 : ∀ x, vv.ownBlock = some x → x ≠ b) (n2 : ∀ x, fv.ownBlock = some x → x ≠ b) : OkO w' o vv fv :=
  ⟨h.sv.blk k.size (fun x hx hl => k.block x hl (n1 x hx)), h.sf.blk k.size (fun x hx hl => k.block x hl (n2 x hx)), h.at_, h.ct, h.l1, h.l2⟩
def endX (c : Ce) (tk : Int) (o : Oc) (n : Int) : Ce := if endE c tk o n = 0 then endC c o n else c
set_option maxHeartbeats 8000000 in
set_option maxRecDepth 100000 in
theorem end_no (w : World) (b : Nat) (c : Ce) (vv fv : Value) (h : CX w b c vv fv) (tk n : Int) (o : Oc) (va fl : Value) (ho : OkO w o va fl) (he : tskB tk = false ∨ ¬ (c.st = 2 ∧ c.tk = tk)) :
    Calls Tryd.prog 16 #[.pointer (some ⟨b, 0, none⟩), .int .i64 tk, .agg #[.int .i64 o.kind, va, fl], .int .i64 n] w fun e w' => e = .returned (.int .i64 (endE c tk o n)) ∧ Cdo w b c w' := by
  have HE : Hid (endE c tk o n = if tskB tk = false then 1 else if ¬ (c.st = 2 ∧ c.tk = tk) then 7 else if outB o = false then 110 else if nowB c n = false then 1 else 0) := rfl
  generalize endE c tk o n = er at *
  obtain ⟨kd, ov, of⟩ := o
  obtain ⟨pv, cv, rfl⟩ := GS.form ho.sv
  obtain ⟨pf, cf, rfl⟩ := CS.form ho.sf
  have IK := fun w' => isTask_any tk w'
  have AL : Hid (∀ ob, Below w.heap.size w (w.alloc ob)) := fun ob => (Below.refl _ _).alloc (Nat.le_refl _) ob
  have SM : Hid (∀ w', Below w.heap.size w w' → Cdo w b c w') := fun w' k => Cdo.same h k
  have CB : Hid (∀ w', Below w.heap.size w w' → w'.cell? ⟨b, 5, none⟩ = some (.int .i64 c.st) ∧ w'.cell? ⟨b, 6, none⟩ = some (.int .i64 c.tk)) := fun w' k => by
    obtain ⟨d0, d1, d2, d3, d4, d5, d6, d7, d8, d9, d10, d11, d12⟩ := (h.below k).cells
    exact ⟨d5, d6⟩
  have cob : ∀ ob, (w.alloc ob).cell? ⟨b, 5, none⟩ = some (.int .i64 c.st) ∧ (w.alloc ob).cell? ⟨b, 6, none⟩ = some (.int .i64 c.tk) := fun ob => CB.out _ (AL.out ob)
  have hbl := h.lt
  clear h ho CB
  simp only
  cases ht : tskB tk with
  | false =>
    rw [ht] at IK HE
    rw [if_pos rfl] at HE
    clear ht he cob
    go_enter Tryd.func16, Tryd.ntmps16
    go_wp2_with (go_at_call 26; refine (IK _).mono ?_; rintro e w' ⟨rfl, rfl⟩)
    go_ret
    exact ⟨ret_int HE.out.symm, SM.out _ (AL.out _)⟩
  | true =>
    rw [ht] at IK HE he
    have he2 : ¬ (c.st = 2 ∧ c.tk = tk) := by simpa using he
    rw [if_neg (by simp), if_pos he2] at HE
    clear he ht
    have cob5 : ∀ ob, (w.alloc ob).cell? ⟨b, 5, none⟩ = some (.int .i64 c.st) := fun ob => (cob ob).1
    have cob6 : ∀ ob, (w.alloc ob).cell? ⟨b, 6, none⟩ = some (.int .i64 c.tk) := fun ob => (cob ob).2
    clear cob
    generalize c.st = st at *
    generalize c.tk = ck at *
    by_cases h2 : st = 2
    · subst h2
      have h3 : (ck == tk) = false := by simpa using he2
      clear he2
      go_enter Tryd.func16, Tryd.ntmps16
      go_wp2_with (go_at_call 26; refine (IK _).mono ?_; rintro e w' ⟨rfl, rfl⟩)
      go_ret
      exact ⟨ret_int HE.out.symm, SM.out _ (AL.out _)⟩
    · have h3 : (st == 2) = false := by simpa using h2
      clear he2 h2
      go_enter Tryd.func16, Tryd.ntmps16
      go_wp2_with (go_at_call 26; refine (IK _).mono ?_; rintro e w' ⟨rfl, rfl⟩)
      go_ret
      exact ⟨ret_int HE.out.symm, SM.out _ (AL.out _)⟩
set_option maxHeartbeats 8000000 in
set_option maxRecDepth 100000 in
theorem end_bad (w : World) (b : Nat) (c : Ce) (vv fv : Value) (h : CX w b c vv fv) (n : Int) (o : Oc) (va fl : Value) (ho : OkO w o va fl) (hv : FV w) (ht : tskB c.tk = true) (hs : c.st = 2) (he : outB o = false ∨ nowB c n = false) :
    Calls Tryd.prog 16 #[.pointer (some ⟨b, 0, none⟩), .int .i64 c.tk, .agg #[.int .i64 o.kind, va, fl], .int .i64 n] w fun e w' => e = .returned (.int .i64 (endE c c.tk o n)) ∧ Cdo w b (endX c c.tk o n) w' := by
  have HE : Hid (endE c c.tk o n = if outB o = false then 110 else if nowB c n = false then 1 else 0) := by show _ = _; unfold endE; rw [ht, if_neg (by simp), if_neg (fun q => q ⟨hs, rfl⟩)]
  have HX : Hid (endX c c.tk o n = if endE c c.tk o n = 0 then endC c o n else c) := rfl
  obtain ⟨pv, cv, rfl⟩ := GS.form ho.sv
  obtain ⟨pf, cf, rfl⟩ := CS.form ho.sf
  have IK : Hid (∀ w', Calls Tryd.prog 26 #[.int .i64 c.tk] w' fun e w'' => e = .returned (.bool true) ∧ w'' = w') := fun w' => (isTask_any c.tk w').mono (fun e w'' q => by rw [ht] at q; exact q)
  have AL : Hid (∀ ob, Below w.heap.size w (w.alloc ob)) := fun ob => (Below.refl _ _).alloc (Nat.le_refl _) ob
  have SM : Hid (∀ w', Below w.heap.size w w' → Cdo w b c w') := fun w' k => Cdo.same h k
  have cob5 : ∀ ob, (w.alloc ob).cell? ⟨b, 5, none⟩ = some (.int .i64 2) := fun ob => by rw [← hs]; exact (h.below (AL.out ob)).cells.2.2.2.2.2.1
  have cob6 : ∀ ob, (w.alloc ob).cell? ⟨b, 6, none⟩ = some (.int .i64 c.tk) := fun ob => (h.below (AL.out ob)).cells.2.2.2.2.2.2.1
  have hbl := h.lt
  have IO : Hid (∀ ob, Calls Tryd.prog 36 #[.agg #[.int .i64 o.kind, .slice pv o.val.length cv, .slice pf o.fl.length cf]] (w.alloc ob) fun e w' => e = .returned (.bool (outB o)) ∧ Below (w.alloc ob).heap.size (w.alloc ob) w') := fun ob => isOutcome_any _ o _ _ (ho.below (AL.out ob)) (hv.below (AL.out ob))
  have BX : Hid (∀ ob w5, Below (w.alloc ob).heap.size (w.alloc ob) w5 → (∀ o u, (w.alloc ob).cell? ⟨w.heap.size, o, none⟩ = some u → w5.cell? ⟨w.heap.size, o, none⟩ = some u) ∧ Below w.heap.size w w5) := fun ob w5 hb => ⟨fun o u hu => (hb.cell (p := ⟨w.heap.size, o, none⟩) (by simp)).trans hu, (AL.out ob).trans (hb.mono (AL.out ob).size)⟩
  have IN : Hid (∀ w1, Below w.heap.size w w1 → Calls Tryd.prog 27 #[.pointer (some ⟨b, 0, none⟩), .int .i64 n] w1 fun e w' => e = .returned (.bool (nowB c n)) ∧ w' = w1) := fun w1 k => isNow_any w1 b c vv fv (h.below k) n
  clear h ho hv
  generalize endX c c.tk o n = xr at *
  generalize endE c c.tk o n = er at *
  cases hb : outB o with
  | false =>
    rw [hb] at HE IO
    rw [if_pos rfl] at HE
    clear he hb IN
    generalize c.tk = ck at *
    obtain ⟨kd, ov, of⟩ := o
    simp only at *
    go_enter Tryd.func16, Tryd.ntmps16
    go_wp2_with (first | (go_at_call 26; refine (IK.out _).mono ?_; rintro e w' ⟨rfl, rfl⟩) | (go_at_call 36; refine (IO.out _).mono ?_; rintro e w1 ⟨rfl, hb⟩; have B1 := hid (BX.out _ _ hb).2; clear hb))
    go_ret
    exact ⟨ret_int HE.out.symm, by rw [HX.out, HE.out]; exact SM.out _ B1.out⟩
  | true =>
    rw [hb] at HE IO he
    have hn : nowB c n = false := by simpa using he
    rw [hn] at HE IN
    rw [if_neg (by simp), if_pos rfl] at HE
    clear he hb hn
    generalize c.tk = ck at *
    obtain ⟨kd, ov, of⟩ := o
    simp only at *
    go_enter Tryd.func16, Tryd.ntmps16
    go_wp2_with (first | (go_at_call 26; refine (IK.out _).mono ?_; rintro e w' ⟨rfl, rfl⟩) | (go_at_call 36; refine (IO.out _).mono ?_; rintro e w1 ⟨rfl, hb⟩; have B1 := hid (BX.out _ _ hb).2; have N1 := hid (IN.out _ B1.out); clear hb) | (go_at_call 27; refine N1.out.mono ?_; rintro e w' ⟨rfl, rfl⟩))
    go_ret
    exact ⟨ret_int HE.out.symm, by rw [HX.out, HE.out]; exact SM.out _ B1.out⟩
end Go.Proofs.YtbgeihgenckihaaDoor
namespace Go.Proofs.YtbgeihgenckihaaDoor
open Go.RowKit

set_option maxHeartbeats 8000000 in
set_option maxRecDepth 100000 in
theorem end_ok1 (w : World) (b : Nat) (c : Ce) (vv fv : Value) (h : CX w b c vv fv) (hi : CI c) (n : Int) (o : Oc) (va fl : Value) (ho : OkO w o va fl) (hv : FV w) (ht : tskB c.tk = true) (hs : c.st = 2) (n1 : ∀ x, va.ownBlock = some x → x ≠ b) (n2 : ∀ x, fl.ownBlock = some x → x ≠ b) (hob : outB o = true) (hn : nowB c n = true) (hk : o.kind = 1) :
    Calls Tryd.prog 16 #[.pointer (some ⟨b, 0, none⟩), .int .i64 c.tk, .agg #[.int .i64 o.kind, va, fl], .int .i64 n] w fun e w' => e = .returned (.int .i64 (endE c c.tk o n)) ∧ Cdo w b (endX c c.tk o n) w' := by
  have HE : Hid (endE c c.tk o n = if outB o = false then 110 else if nowB c n = false then 1 else 0) := by show _ = _; unfold endE; rw [ht, if_neg (by simp), if_neg (fun q => q ⟨hs, rfl⟩)]
  have HX : Hid (endX c c.tk o n = if endE c c.tk o n = 0 then endC c o n else c) := rfl
  obtain ⟨pv, cv, rfl⟩ := GS.form ho.sv
  obtain ⟨pf, cf, rfl⟩ := CS.form ho.sf
  have IK : Hid (∀ w', Calls Tryd.prog 26 #[.int .i64 c.tk] w' fun e w'' => e = .returned (.bool true) ∧ w'' = w') := fun w' => (isTask_any c.tk w').mono (fun e w'' q => by rw [ht] at q; exact q)
  have AL : Hid (∀ ob, Below w.heap.size w (w.alloc ob)) := fun ob => (Below.refl _ _).alloc (Nat.le_refl _) ob
  have SM : Hid (∀ w', Below w.heap.size w w' → Cdo w b c w') := fun w' k => Cdo.same h k
  have cob5 : ∀ ob, (w.alloc ob).cell? ⟨b, 5, none⟩ = some (.int .i64 2) := fun ob => by rw [← hs]; exact (h.below (AL.out ob)).cells.2.2.2.2.2.1
  have cob6 : ∀ ob, (w.alloc ob).cell? ⟨b, 6, none⟩ = some (.int .i64 c.tk) := fun ob => (h.below (AL.out ob)).cells.2.2.2.2.2.2.1
  have hbl := h.lt
  have IO : Hid (∀ ob, Calls Tryd.prog 36 #[.agg #[.int .i64 o.kind, .slice pv o.val.length cv, .slice pf o.fl.length cf]] (w.alloc ob) fun e w' => e = .returned (.bool (outB o)) ∧ Below (w.alloc ob).heap.size (w.alloc ob) w') := fun ob => isOutcome_any _ o _ _ (ho.below (AL.out ob)) (hv.below (AL.out ob))
  have BX : Hid (∀ ob w5, Below (w.alloc ob).heap.size (w.alloc ob) w5 → (∀ o u, (w.alloc ob).cell? ⟨w.heap.size, o, none⟩ = some u → w5.cell? ⟨w.heap.size, o, none⟩ = some u) ∧ Below w.heap.size w w5) := fun ob w5 hb => ⟨fun o u hu => (hb.cell (p := ⟨w.heap.size, o, none⟩) (by simp)).trans hu, (AL.out ob).trans (hb.mono (AL.out ob).size)⟩
  have IN : Hid (∀ w1, Below w.heap.size w w1 → Calls Tryd.prog 27 #[.pointer (some ⟨b, 0, none⟩), .int .i64 n] w1 fun e w' => e = .returned (.bool (nowB c n)) ∧ w' = w1) := fun w1 k => isNow_any w1 b c vv fv (h.below k) n
  have E1 : Hid (endE c c.tk o n = 0) := by show _ = _; rw [HE.out, hob, hn]; simp
  rw [hn] at IN
  rw [hob] at IO
  have CO : Hid (∀ w2, Bu b w w2 → Calls Tryd.prog 25 #[.agg #[.int .i64 o.kind, .slice pv o.val.length cv, .slice pf o.fl.length cf]] w2 fun e w' => ∃ v f, e = .returned (.agg #[.int .i64 o.kind, v, f]) ∧ CpR w2 o w' v f) := fun w2 k => by
    have q := ho.bu k n1 n2
    exact copyOf_any w2 o _ _ q.sv q.sf q.l1 q.l2
  have H0 : Hid (∀ w1, Below w.heap.size w w1 → HB w b (ceA c vv fv) w1) := fun w1 k => HB.of (h.below k) k
  have CB : Hid (∀ w1, Below w.heap.size w w1 → (w1.cell? ⟨b, 5, none⟩ = some (.int .i64 2) ∧ w1.cell? ⟨b, 6, none⟩ = some (.int .i64 c.tk) ∧ w1.cell? ⟨b, 8, none⟩ = some (.int .i64 c.fails)) ∧ ∀ o, w1.frozen? ⟨b, o, none⟩ = false) := fun w1 k => by
    obtain ⟨d0, d1, d2, d3, d4, d5, d6, d7, d8, d9, d10, d11, d12⟩ := (h.below k).cells
    rw [hs] at d5
    exact ⟨⟨d5, d6, d8⟩, (h.below k).fz⟩
  have hf0 := hi.fl0
  have hpb := pol_bd hi.pol
  have hfb : 0 ≤ c.fails ∧ c.fails ≤ 64 := by omega
  obtain ⟨hf1, hf2⟩ := hfb
  clear h ho hi hv n1 n2 HE hob hn hf0 hpb SM
  have GH : Hid (∀ w2 w3 : World, HB w b #[.bool c.again, .int .i64 c.p.t, .int .i64 c.p.b, .int .i64 c.p.f, .int .i64 c.p.c, .int .i64 3, .int .i64 0, .int .i64 c.gen, .int .i64 c.fails, .int .i64 c.last, .int .i64 c.out.kind, vv, fv] w2 → ∀ v f, CpR w2 o w3 v f → b < w2.heap.size ∧ HB w b #[.bool c.again, .int .i64 c.p.t, .int .i64 c.p.b, .int .i64 c.p.f, .int .i64 c.p.c, .int .i64 3, .int .i64 0, .int .i64 c.gen, .int .i64 c.fails, .int .i64 c.last, .int .i64 c.out.kind, vv, fv] w3 ∧ (∀ q, w3.frozen? ⟨b, q, none⟩ = false) ∧ w3.cell? ⟨b, 9, none⟩ = some (.int .i64 c.last) ∧ w3.cell? ⟨b, 10, none⟩ = some (.int .i64 c.out.kind) ∧ w3.cell? ⟨b, 11, none⟩ = some vv ∧ w3.cell? ⟨b, 12, none⟩ = some fv ∧ HB w3 b #[.bool c.again, .int .i64 c.p.t, .int .i64 c.p.b, .int .i64 c.p.f, .int .i64 c.p.c, .int .i64 3, .int .i64 0, .int .i64 c.gen, .int .i64 c.fails, .int .i64 c.last, .int .i64 c.out.kind, vv, fv] w3) := fun w2 w3 k v f cp => by
    have k3 := k.below cp.2.2
    have hp := k3.hp
    exact ⟨lt_of_heap k.hp, k3, fun q => by simp [World.frozen?, hp], cell_of_row _ _ _ _ _ _ hp, cell_of_row _ _ _ _ _ _ hp, cell_of_row _ _ _ _ _ _ hp, cell_of_row _ _ _ _ _ _ hp, ⟨hp, Bu.refl _ _⟩⟩
  rw [E1.out] at HX
  rw [if_pos rfl] at HX
  have EC : Hid (endC c o n = { c with st := 3, tk := 0, fails := c.fails, out := o, last := n }) := by show _ = _; unfold endC; simp [hk]
  generalize endX c c.tk o n = xr at *
  generalize endE c c.tk o n = er at *
  generalize endC c o n = ec at *
  obtain ⟨kd, ov, of⟩ := o
  simp only at hk
  subst hk
  generalize hck : c.tk = ck at *
  simp only at *
  clear hs
  go_enter Tryd.func16, Tryd.ntmps16
  go_wp2_with (first | (go_at_call 26; refine (IK.out _).mono ?_; rintro e w' ⟨rfl, rfl⟩) | (go_at_call 36; refine (IO.out _).mono ?_; rintro e w1 ⟨rfl, hb⟩; obtain ⟨y, hb1⟩ := BX.out _ _ hb; have y0 := y 0 _ (cell_of_row _ _ _ _ _ _ (heap_alloc_new w _)); have y1 := y 1 _ (cell_of_row _ _ _ _ _ _ (heap_alloc_new w _)); have y2 := y 2 _ (cell_of_row _ _ _ _ _ _ (heap_alloc_new w _)); have B1 := hid hb1; have N1 := hid (IN.out _ B1.out); obtain ⟨⟨g5, g6, g8⟩, fz⟩ := CB.out _ B1.out; clear hb y hb1) | (go_at_call 27; refine N1.out.mono ?_; rintro e w' ⟨rfl, rfl⟩) | (go_at_call 25; have K2 := hid (((H0.out _ B1.out).set 5 (.int .i64 3)).set 6 (.int .i64 0)); refine (CO.out _ K2.out.bu).mono ?_; rintro e w3 ⟨v, f, rfl, cp⟩; obtain ⟨p7, c7, rfl, _⟩ := OwnG.form cp.1; obtain ⟨p8, c8, rfl, _⟩ := OwnG.form cp.2.1; obtain ⟨t1, t2, t3, t9, t10, t11, t12, t13⟩ := GH.out _ _ K2.out _ _ cp; have T2 := hid t2; have T13 := hid t13; have CP := hid cp; have T1 := hid t1; clear t1 t2 t13 cp))
  go_ret
  exact ⟨ret_int E1.out.symm, by rw [HX.out, EC.out]; exact HB.fresh ((((T2.out.set 10 _).set 11 _).set 12 _).set 9 _) ((((T13.out.set 10 _).set 11 _).set 12 _).set 9 _) CP.out T1.out _ rfl rfl⟩
end Go.Proofs.YtbgeihgenckihaaDoor
namespace Go.Proofs.YtbgeihgenckihaaDoor
open Go.RowKit

set_option maxHeartbeats 8000000 in
set_option maxRecDepth 100000 in
theorem end_okF (w : World) (b : Nat) (c : Ce) (vv fv : Value) (h : CX w b c vv fv) (hi : CI c) (n : Int) (o : Oc) (va fl : Value) (ho : OkO w o va fl) (hv : FV w) (ht : tskB c.tk = true) (hs : c.st = 2) (n1 : ∀ x, va.ownBlock = some x → x ≠ b) (n2 : ∀ x, fl.ownBlock = some x → x ≠ b) (hob : outB o = true) (hn : nowB c n = true) (hk : o.kind ≠ 1) :
    Calls Tryd.prog 16 #[.pointer (some ⟨b, 0, none⟩), .int .i64 c.tk, .agg #[.int .i64 o.kind, va, fl], .int .i64 n] w fun e w' => e = .returned (.int .i64 (endE c c.tk o n)) ∧ Cdo w b (endX c c.tk o n) w' := by
  have HE : Hid (endE c c.tk o n = if outB o = false then 110 else if nowB c n = false then 1 else 0) := by show _ = _; unfold endE; rw [ht, if_neg (by simp), if_neg (fun q => q ⟨hs, rfl⟩)]
  have HX : Hid (endX c c.tk o n = if endE c c.tk o n = 0 then endC c o n else c) := rfl
  obtain ⟨pv, cv, rfl⟩ := GS.form ho.sv
  obtain ⟨pf, cf, rfl⟩ := CS.form ho.sf
  have IK : Hid (∀ w', Calls Tryd.prog 26 #[.int .i64 c.tk] w' fun e w'' => e = .returned (.bool true) ∧ w'' = w') := fun w' => (isTask_any c.tk w').mono (fun e w'' q => by rw [ht] at q; exact q)
  have AL : Hid (∀ ob, Below w.heap.size w (w.alloc ob)) := fun ob => (Below.refl _ _).alloc (Nat.le_refl _) ob
  have SM : Hid (∀ w', Below w.heap.size w w' → Cdo w b c w') := fun w' k => Cdo.same h k
  have cob5 : ∀ ob, (w.alloc ob).cell? ⟨b, 5, none⟩ = some (.int .i64 2) := fun ob => by rw [← hs]; exact (h.below (AL.out ob)).cells.2.2.2.2.2.1
  have cob6 : ∀ ob, (w.alloc ob).cell? ⟨b, 6, none⟩ = some (.int .i64 c.tk) := fun ob => (h.below (AL.out ob)).cells.2.2.2.2.2.2.1
  have hbl := h.lt
  have IO : Hid (∀ ob, Calls Tryd.prog 36 #[.agg #[.int .i64 o.kind, .slice pv o.val.length cv, .slice pf o.fl.length cf]] (w.alloc ob) fun e w' => e = .returned (.bool (outB o)) ∧ Below (w.alloc ob).heap.size (w.alloc ob) w') := fun ob => isOutcome_any _ o _ _ (ho.below (AL.out ob)) (hv.below (AL.out ob))
  have BX : Hid (∀ ob w5, Below (w.alloc ob).heap.size (w.alloc ob) w5 → (∀ o u, (w.alloc ob).cell? ⟨w.heap.size, o, none⟩ = some u → w5.cell? ⟨w.heap.size, o, none⟩ = some u) ∧ Below w.heap.size w w5) := fun ob w5 hb => ⟨fun o u hu => (hb.cell (p := ⟨w.heap.size, o, none⟩) (by simp)).trans hu, (AL.out ob).trans (hb.mono (AL.out ob).size)⟩
  have IN : Hid (∀ w1, Below w.heap.size w w1 → Calls Tryd.prog 27 #[.pointer (some ⟨b, 0, none⟩), .int .i64 n] w1 fun e w' => e = .returned (.bool (nowB c n)) ∧ w' = w1) := fun w1 k => isNow_any w1 b c vv fv (h.below k) n
  have E1 : Hid (endE c c.tk o n = 0) := by show _ = _; rw [HE.out, hob, hn]; simp
  rw [hn] at IN
  rw [hob] at IO
  have CO : Hid (∀ w2, Bu b w w2 → Calls Tryd.prog 25 #[.agg #[.int .i64 o.kind, .slice pv o.val.length cv, .slice pf o.fl.length cf]] w2 fun e w' => ∃ v f, e = .returned (.agg #[.int .i64 o.kind, v, f]) ∧ CpR w2 o w' v f) := fun w2 k => by
    have q := ho.bu k n1 n2
    exact copyOf_any w2 o _ _ q.sv q.sf q.l1 q.l2
  have H0 : Hid (∀ w1, Below w.heap.size w w1 → HB w b (ceA c vv fv) w1) := fun w1 k => HB.of (h.below k) k
  have CB : Hid (∀ w1, Below w.heap.size w w1 → (w1.cell? ⟨b, 5, none⟩ = some (.int .i64 2) ∧ w1.cell? ⟨b, 6, none⟩ = some (.int .i64 c.tk) ∧ w1.cell? ⟨b, 8, none⟩ = some (.int .i64 c.fails)) ∧ ∀ o, w1.frozen? ⟨b, o, none⟩ = false) := fun w1 k => by
    obtain ⟨d0, d1, d2, d3, d4, d5, d6, d7, d8, d9, d10, d11, d12⟩ := (h.below k).cells
    rw [hs] at d5
    exact ⟨⟨d5, d6, d8⟩, (h.below k).fz⟩
  have hf0 := hi.fl0
  have hpb := pol_bd hi.pol
  have hfb : 0 ≤ c.fails ∧ c.fails ≤ 64 := by omega
  obtain ⟨hf1, hf2⟩ := hfb
  clear h ho hi hv n1 n2 HE hob hn hf0 hpb SM
  have GH : Hid (∀ w2 w3 : World, HB w b #[.bool c.again, .int .i64 c.p.t, .int .i64 c.p.b, .int .i64 c.p.f, .int .i64 c.p.c, .int .i64 4, .int .i64 0, .int .i64 c.gen, .int .i64 (c.fails + 1), .int .i64 c.last, .int .i64 c.out.kind, vv, fv] w2 → ∀ v f, CpR w2 o w3 v f → b < w2.heap.size ∧ HB w b #[.bool c.again, .int .i64 c.p.t, .int .i64 c.p.b, .int .i64 c.p.f, .int .i64 c.p.c, .int .i64 4, .int .i64 0, .int .i64 c.gen, .int .i64 (c.fails + 1), .int .i64 c.last, .int .i64 c.out.kind, vv, fv] w3 ∧ (∀ q, w3.frozen? ⟨b, q, none⟩ = false) ∧ w3.cell? ⟨b, 9, none⟩ = some (.int .i64 c.last) ∧ w3.cell? ⟨b, 10, none⟩ = some (.int .i64 c.out.kind) ∧ w3.cell? ⟨b, 11, none⟩ = some vv ∧ w3.cell? ⟨b, 12, none⟩ = some fv ∧ HB w3 b #[.bool c.again, .int .i64 c.p.t, .int .i64 c.p.b, .int .i64 c.p.f, .int .i64 c.p.c, .int .i64 4, .int .i64 0, .int .i64 c.gen, .int .i64 (c.fails + 1), .int .i64 c.last, .int .i64 c.out.kind, vv, fv] w3) := fun w2 w3 k v f cp => by
    have k3 := k.below cp.2.2
    have hp := k3.hp
    exact ⟨lt_of_heap k.hp, k3, fun q => by simp [World.frozen?, hp], cell_of_row _ _ _ _ _ _ hp, cell_of_row _ _ _ _ _ _ hp, cell_of_row _ _ _ _ _ _ hp, cell_of_row _ _ _ _ _ _ hp, ⟨hp, Bu.refl _ _⟩⟩
  rw [E1.out] at HX
  rw [if_pos rfl] at HX
  have EC : Hid (endC c o n = { c with st := 4, tk := 0, fails := c.fails + 1, out := o, last := n }) := by show _ = _; unfold endC; simp [hk]
  generalize endX c c.tk o n = xr at *
  generalize endE c c.tk o n = er at *
  generalize endC c o n = ec at *
  obtain ⟨kd, ov, of⟩ := o
  simp only at hk
  have hk2 : (kd != 1) = true := by simpa using hk
  generalize hck : c.tk = ck at *
  simp only at *
  clear hs
  go_enter Tryd.func16, Tryd.ntmps16
  go_wp2_with (first | (go_at_call 26; refine (IK.out _).mono ?_; rintro e w' ⟨rfl, rfl⟩) | (go_at_call 36; refine (IO.out _).mono ?_; rintro e w1 ⟨rfl, hb⟩; obtain ⟨y, hb1⟩ := BX.out _ _ hb; have y0 := y 0 _ (cell_of_row _ _ _ _ _ _ (heap_alloc_new w _)); have y1 := y 1 _ (cell_of_row _ _ _ _ _ _ (heap_alloc_new w _)); have y2 := y 2 _ (cell_of_row _ _ _ _ _ _ (heap_alloc_new w _)); have B1 := hid hb1; have N1 := hid (IN.out _ B1.out); obtain ⟨⟨g5, g6, g8⟩, fz⟩ := CB.out _ B1.out; clear hb y hb1) | (go_at_call 27; refine N1.out.mono ?_; rintro e w' ⟨rfl, rfl⟩) | (go_at_call 25; have K2 := hid ((((((H0.out _ B1.out).set 5 (.int .i64 3)).set 6 (.int .i64 0)).set 5 (.int .i64 4)).set 6 (.int .i64 0)).set 8 (.int .i64 (c.fails + 1))); refine (CO.out _ K2.out.bu).mono ?_; rintro e w3 ⟨v, f, rfl, cp⟩; obtain ⟨p7, c7, rfl, _⟩ := OwnG.form cp.1; obtain ⟨p8, c8, rfl, _⟩ := OwnG.form cp.2.1; obtain ⟨t1, t2, t3, t9, t10, t11, t12, t13⟩ := GH.out _ _ K2.out _ _ cp; have T2 := hid t2; have T13 := hid t13; have CP := hid cp; have T1 := hid t1; clear t1 t2 t13 cp))
  go_ret
  exact ⟨ret_int E1.out.symm, by rw [HX.out, EC.out]; exact HB.fresh ((((T2.out.set 10 _).set 11 _).set 12 _).set 9 _) ((((T13.out.set 10 _).set 11 _).set 12 _).set 9 _) CP.out T1.out _ rfl rfl⟩
end Go.Proofs.YtbgeihgenckihaaDoor
namespace Go.Proofs.YtbgeihgenckihaaDoor
open Go.RowKit

theorem end_any (w : World) (b : Nat) (c : Ce) (vv fv : Value) (h : CX w b c vv fv) (hi : CI c) (tk n : Int) (o : Oc) (va fl : Value) (ho : OkO w o va fl) (hv : FV w) (n1 : ∀ x, va.ownBlock = some x → x ≠ b) (n2 : ∀ x, fl.ownBlock = some x → x ≠ b) :
    Calls Tryd.prog 16 #[.pointer (some ⟨b, 0, none⟩), .int .i64 tk, .agg #[.int .i64 o.kind, va, fl], .int .i64 n] w fun e w' => e = .returned (.int .i64 (endE c tk o n)) ∧ Cdo w b (endX c tk o n) w' := by
  by_cases he : tskB tk = false ∨ ¬ (c.st = 2 ∧ c.tk = tk)
  · have hx : endX c tk o n = c := by
      unfold endX
      rw [if_neg]
      unfold endE
      rcases he with he | he
      · rw [if_pos he]; decide
      · split
        · decide
        · first | decide | (rw [if_pos he]; decide)
    rw [hx]
    exact end_no w b c vv fv h tk n o va fl ho he
  · have ht : tskB tk = true := by cases q : tskB tk with
      | true => rfl
      | false => exact absurd (Or.inl q) he
    have hs : c.st = 2 ∧ c.tk = tk := by
      by_cases q : c.st = 2 ∧ c.tk = tk
      · exact q
      · exact absurd (Or.inr q) he
    obtain ⟨hs, rfl⟩ := hs
    by_cases hb : outB o = false ∨ nowB c n = false
    · exact end_bad w b c vv fv h n o va fl ho hv ht hs hb
    · have h1 : outB o = true := by cases q : outB o with
        | true => rfl
        | false => exact absurd (Or.inl q) hb
      have h2 : nowB c n = true := by cases q : nowB c n with
        | true => rfl
        | false => exact absurd (Or.inr q) hb
      by_cases hk : o.kind = 1
      · exact end_ok1 w b c vv fv h hi n o va fl ho hv ht hs n1 n2 h1 h2 hk
      · exact end_okF w b c vv fv h hi n o va fl ho hv ht hs n1 n2 h1 h2 hk
end Go.Proofs.YtbgeihgenckihaaDoor
