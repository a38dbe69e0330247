/- Tokens: Cancel. -/
import Derived.Test.YtkebflllbphkkaaDoorTa1
namespace Go.Proofs.YtkebflllbphkkaaDoor
open Go.RowKit

theorem make0_g {α : Type} {P : Program} (K : RK α) (hk : K.Ok P) (w : World) {ops : Array Oper} {rest : List Oper} {o : Oper} {a : Act} {Q : Exit → Act → World → Prop}
    (hg : o.guard = none) (l c : Operand) (t : TypeId) (hop : o.op = Op.makeSlice t l c) (ht : P.underlying t = some (.slice K.ty))
    (n : Nat) (hl : a.eval l = .int .i64 0) (hc : a.eval c = .int .i64 n) (hn : n ≤ 100000) (hB : K.B ≤ 1000)
    (hK : ∀ w', OwnG K w' w.heap.size (.slice (some ⟨w.heap.size, 0, none⟩) 0 n) [] → Below w.heap.size w w' → wpList P ops Q rest (a.put o.dst (.slice (some ⟨w.heap.size, 0, none⟩) 0 n)) w') : wpList P ops Q (o :: rest) a w := by
  obtain ⟨i0, hi0, hz0, hz1, hz2⟩ := hk.info
  have hmul : K.B * n ≤ 1000 * 100000 := Nat.mul_le_mul hB hn
  refine wpList_make_own w hg l c t hop w.heap.size K.ty i0 K.z K.W ht hi0 hz0 hz1 .i64 .i64 n n hl hc rfl (by rw [hz2]; omega) (by unfold maxLen; omega) (Nat.le_refl _) ?_
  intro w' ho hgr
  exact hK w' ho ((Below.refl _ _).grown hgr (Nat.le_refl _) (fun k hk => by cases hk))
def KF : RK (Int × Int) := ⟨102, 2, 16, .agg #[.int .i64 0, .int .i64 0], fun x => [.int .i64 x.1, .int .i64 x.2]⟩
theorem KF_ok : KF.Ok Tryd.prog :=
  ⟨fun _ => rfl, fun x u hu => by simp [KF] at hu; rcases hu with rfl | rfl <;> rfl, rfl, by decide, by decide, info_parts' (by kernel_rfl)⟩
/-- Whether so many ticks may pass. -/
def mayB (now x : Int) : Bool := decide (0 ≤ x ∧ x ≤ 1099511627776 - now)
set_option maxHeartbeats 4000000 in
theorem mayPass_any (w : World) (cb : Nat) (now x : Int) (h : w.cell? ⟨cb, 0, none⟩ = some (.int .i64 now)) (hn : 0 ≤ now ∧ now ≤ 1099511627776) :
    Calls Tryd.prog 53 #[.pointer (some ⟨cb, 0, none⟩), .int .i64 x] w fun e w' => e = .returned (.bool (mayB now x)) ∧ w' = w := by
  have HR : Hid (mayB now x = decide (0 ≤ x ∧ x ≤ 1099511627776 - now)) := rfl
  generalize mayB now x = r at *
  obtain ⟨h1, h2⟩ := hn
  by_cases hx : 0 ≤ x
  · by_cases hy : x ≤ 1099511627776 - now
    · go_enter Tryd.func53, Tryd.ntmps53
      go_wp2
      go_ret
      exact ⟨ret_bool (by rw [HR.out]; simp [hx, hy]), rfl⟩
    · go_enter Tryd.func53, Tryd.ntmps53
      go_wp2
      go_ret
      exact ⟨ret_bool (by rw [HR.out]; simp; omega), rfl⟩
  · go_enter Tryd.func53, Tryd.ntmps53
    go_wp2
    go_ret
    exact ⟨ret_bool (by rw [HR.out]; simp; omega), rfl⟩
set_option maxHeartbeats 4000000 in
theorem qdue_any (w : World) (u : Int) :
    Calls Tryd.prog 54 #[.slice none 0 0, .int .i64 u] w fun e w' => e = .returned (.int .i64 0) ∧ w' = w := by
  go_enter Tryd.func54, Tryd.ntmps54
  go_wp2
  go_loop [5, 10] (fun a i => a = .int .i64 0 ∧ i = .int .i64 0) (fun _ _ => 0)
  case atStart => exact ⟨rfl, rfl⟩
  case round =>
    obtain ⟨rfl, rfl⟩ := hrel
    go_wp2
    go_ret
    exact ⟨rfl, rfl⟩
/-- What the clock's Advance leaves. -/
def CAdv (w w' : World) (e : Ending) (cb : Nat) (now x : Int) : Prop := ∃ v, e = .returned (.tuple #[v, .int .i64 (if mayB now x = true then 0 else 1)]) ∧ But (fun y => y = cb) w w' ∧ w'.heap[cb]? = some (.cells #[.int .i64 (if mayB now x = true then now + x else now), .int .i64 0, .slice none 0 0] 99)
set_option maxHeartbeats 4000000 in
set_option maxRecDepth 100000 in
theorem cadv_any (w : World) (cb : Nat) (now x : Int) (h : w.heap[cb]? = some (.cells #[.int .i64 now, .int .i64 0, .slice none 0 0] 99)) (hn : 0 ≤ now ∧ now ≤ 1099511627776) :
    Calls Tryd.prog 35 #[.pointer (some ⟨cb, 0, none⟩), .int .i64 x] w fun e w' => CAdv w w' e cb now x := by
  have c0 : w.cell? ⟨cb, 0, none⟩ = some (.int .i64 now) := by rw [cell_of_row _ _ _ _ _ _ h]; rfl
  have c2 : w.cell? ⟨cb, 2, none⟩ = some (.slice none 0 0) := by rw [cell_of_row _ _ _ _ _ _ h]; rfl
  have fz : w.frozen? ⟨cb, 0, none⟩ = false := by simp [World.frozen?, h]
  have MP := hid (mayPass_any w cb now x c0 hn)
  have H := hid h
  have hlt := lt_of_heap h
  cases hm : mayB now x with
  | false =>
    rw [hm] at MP
    have CA : Hid (∀ v, CAdv w w (.returned (.tuple #[v, .int .i64 1])) cb now x) := fun v => ⟨v, by rw [hm]; rfl, But.refl _ _, by rw [hm]; exact h⟩
    clear h hm H
    go_enter Tryd.func35, Tryd.ntmps35
    go_wp2_with (go_at_call 53; refine MP.out.mono ?_; rintro e w2 ⟨rfl, hw2⟩; subst w2)
    go_ret2
    exact CA.out _
  | true =>
    rw [hm] at MP
    have QD := hid (qdue_any w (now + x))
    have hm2 : 0 ≤ x ∧ x ≤ 1099511627776 - now := by unfold mayB at hm; simpa using hm
    obtain ⟨h1, h2⟩ := hn
    obtain ⟨h3, h4⟩ := hm2
    have CA : Hid (∀ v w', But (fun y => y = cb) w w' → w'.heap[cb]? = some (.cells #[.int .i64 (now + x), .int .i64 0, .slice none 0 0] 99) → CAdv w w' (.returned (.tuple #[v, .int .i64 0])) cb now x) := fun v w' k q => ⟨v, by rw [hm]; rfl, k, by rw [hm]; exact q⟩
    have FIN : Hid (∀ w1, Below w.heap.size w w1 → But (fun y => y = cb) w (w1.setCell ⟨cb, 0, none⟩ (.int .i64 (now + x))) ∧ (w1.setCell ⟨cb, 0, none⟩ (.int .i64 (now + x))).heap[cb]? = some (.cells #[.int .i64 (now + x), .int .i64 0, .slice none 0 0] 99)) := fun w1 b => by
      refine ⟨(But.of_below b).trans (But.set cb 0 _) (fun y hy => Or.inl hy), ?_⟩
      rw [heap_setCell_same w1 cb 0 _ _ _ ((b.block cb hlt).trans H.out)]; rfl
    have CL : Hid (∀ w1, Below w.heap.size w w1 → w1.frozen? ⟨cb, 0, none⟩ = false ∧ w1.cell? ⟨cb, 0, none⟩ = some (.int .i64 now)) := fun w1 b => by
      have e := (b.block cb hlt).trans H.out
      exact ⟨by simp [World.frozen?, e], by rw [cell_of_row _ _ _ _ _ _ e]; rfl⟩
    clear h hm
    go_enter Tryd.func35, Tryd.ntmps35
    go_wp2_with (first | (go_at_call 53; refine MP.out.mono ?_; rintro e w2 ⟨rfl, hw2⟩; subst w2) | (go_at_call 54; refine QD.out.mono ?_; rintro e w2 ⟨rfl, hw2⟩; subst w2) | (at_make; refine make0_g KF KF_ok _ rfl _ _ 79 rfl Tryd.underlying79 0 rfl rfl (by omega) (by decide) ?_; intro w5 ho5 hb5; obtain ⟨z1, z2⟩ := CL.out w5 hb5; have FI := hid (FIN.out w5 hb5); clear ho5 hb5))
    go_loop [30] (fun i => i = .int .i64 0) (fun _ => 0)
    case atStart => rfl
    case round =>
      subst hrel
      go_wp2
      go_ret2
      exact CA.out _ _ FI.out.1 FI.out.2
end Go.Proofs.YtkebflllbphkkaaDoor
namespace Go.Proofs.YtkebflllbphkkaaDoor
open Go.RowKit

/-- A tree that calls have made, in memory, above a base. -/
structure TV (w : World) (base b : Nat) (F : Nat → Prop) (T : Tr) : Prop where
  ex : ∃ cb mb nv ov L, TX w b cb mb nv ov L T ∧ F = fp b cb mb nv ov
  ge : ∀ x, F x → base ≤ x
  sz : base ≤ w.heap.size
  fb : FB w base
  inv : Inv T
theorem TV.ok {w : World} {base b : Nat} {F : Nat → Prop} {T : Tr} (h : TV w base b F T) : OkF w F := by
  obtain ⟨cb, mb, nv, ov, L, t, e⟩ := h.ex
  rw [e]; exact t.okF
theorem TV.below {w w' : World} {base b : Nat} {F : Nat → Prop} {T : Tr} (h : TV w base b F T) (k : Below w.heap.size w w') : TV w' base b F T := by
  obtain ⟨cb, mb, nv, ov, L, t, e⟩ := h.ex
  exact ⟨⟨cb, mb, nv, ov, L, t.below k, e⟩, h.ge, Nat.le_trans h.sz k.size, h.fb.below (k.mono h.sz), h.inv⟩
/-- What a call that changes the tree leaves. -/
def TVu (w : World) (base b : Nat) (F : Nat → Prop) (w' : World) (U : Tr) : Prop := ∃ F', TV w' base b F' U ∧ But F w w' ∧ Fr w F F'
theorem TVu.of {w w' : World} {base b cb mb : Nat} {nv ov : Value} {T U : Tr} (h : TV w base b (fp b cb mb nv ov) T) (k : Ts w b cb mb nv ov w' U) (hi : Inv U) : TVu w base b (fp b cb mb nv ov) w' U := by
  obtain ⟨nv1, ov1, L1, t1, k1, f1⟩ := k
  have bl := k1.to h.ge h.sz
  exact ⟨_, ⟨⟨cb, mb, nv1, ov1, L1, t1, rfl⟩, fun x hx => by
    rcases f1 x hx with q | q
    · exact h.ge x q
    · exact Nat.le_trans h.sz q, Nat.le_trans h.sz bl.size, h.fb.below bl, hi⟩, k1, f1⟩
theorem TVu.same {w w' : World} {base b : Nat} {F : Nat → Prop} {T : Tr} (h : TV w base b F T) (k : Below w.heap.size w w') : TVu w base b F w' T := ⟨F, h.below k, But.of_below k, Fr.refl _ _⟩
/-- Names, and an error beside them. -/
def NmE (w w' : World) (e : Ending) (l : List ByteArray) (err : Int) : Prop := ∃ v, e = .returned (.tuple #[v, .int .i64 err]) ∧ OwnG KS w' w.heap.size v l
theorem NmE.none (w w' : World) (err : Int) : NmE w w' (.returned (.tuple #[.slice none 0 0, .int .i64 err])) [] err := ⟨_, rfl, OwnG.nil _ _ _⟩
def nowT (T : Tr) (n : Int) : Tr := { T with now := n }
theorem nowT_inv {T : Tr} (h : Inv T) {n : Int} (h1 : 0 ≤ n) (h2 : n ≤ 1099511627776) : Inv (nowT T n) := ⟨h.len, h.nd, h.lt, h.nm, h.nk, h.bw, h.why, h.up, h.tr, h.cl, ⟨h1, h2⟩, h.til, h.wl, h.wd⟩
theorem TX.now {w w' : World} {b cb mb : Nat} {nv ov : Value} {L : List NM} {T : Tr} (h : TX w b cb mb nv ov L T) {n : Int} (k : But (fun y => y = cb) w w') (hc : w'.heap[cb]? = some (.cells #[.int .i64 n, .int .i64 0, .slice none 0 0] 99)) : TX w' b cb mb nv ov L (nowT T n) := by
  obtain ⟨b1, b2, b3⟩ := h.b_ne
  have ok : OkF w (fun y => y = cb) := fun y hy => h.okF y (by subst hy; exact Or.inr (Or.inl rfl))
  exact ⟨(k.block b (lt_of_heap h.tr) (fun e => b1 e.symm)).trans h.tr, hc, h.nr.far (fun g hg => k.block g (h.nr.lt hg).2 (fun e => (h.nv_ne hg).2.1 e)), h.or.far (fun g hg => k.block g (h.or.lt hg).2 (fun e => (h.ov_ne hg).2.1 e)), h.mp.far (k.block mb h.mp.lt b3), h.ll, fun p hp => (h.lr p hp).keep k ok, h.nl, h.ol, h.wd⟩
/-- What Advance answers. -/
def AdvR (w : World) (base b : Nat) (F : Nat → Prop) (T : Tr) (x : Int) (w' : World) (e : Ending) : Prop :=
  (mayB T.now x = true ∧ ∃ E, DU (nowT T (T.now + x)) E ∧ NmE w w' e (nmL (expT (nowT T (T.now + x)) E) T.od.length) 0 ∧ TVu w base b F w' (expT (nowT T (T.now + x)) E)) ∨ (mayB T.now x = false ∧ NmE w w' e [] 1 ∧ TVu w base b F w' T)
theorem DU.lt {T : Tr} {E : List Nat} (h : DU T E) : ∀ p ∈ E, p < T.ns.length := fun _ hp => dueK_lt (h.pm.mem_iff.1 hp)
set_option maxHeartbeats 8000000 in
theorem advance_any (w : World) (base b : Nat) (F : Nat → Prop) (T : Tr) (h : TV w base b F T) (x : Int) :
    Calls Tryd.prog 15 #[.pointer (some ⟨b, 0, none⟩), .int .i64 x] w fun e w' => AdvR w base b F T x w' e := by
  have h0 := h
  obtain ⟨cb, mb, nv, ov, L, t, e⟩ := h.ex
  subst e
  obtain ⟨c0, c1, c2, c3⟩ := t.cells
  have CA := hid (cadv_any w cb T.now x t.ck h.inv.tm)
  cases hm : mayB T.now x with
  | false =>
    have FIN : Hid (∀ w1 v, CAdv w w1 (.returned v) cb T.now x → ∃ u, v = .tuple #[u, .int .i64 1] ∧ AdvR w base b (fp b cb mb nv ov) T x w1 (.returned (.tuple #[.slice none 0 0, .int .i64 1]))) := by
      rintro w1 v ⟨u, e1, k1, k2⟩
      rw [hm] at e1 k2
      injection e1 with e1
      refine ⟨u, e1, Or.inr ⟨hm, NmE.none _ _ _, ?_⟩⟩
      have t1 : TX w1 b cb mb nv ov L (nowT T T.now) := t.now k1 k2
      exact TVu.of h0 ⟨nv, ov, L, t1, k1.weak (fun y hy => by subst hy; exact Or.inr (Or.inl rfl)), Fr.refl _ _⟩ h0.inv
    have CA2 : Hid (Calls Tryd.prog 35 #[.pointer (some ⟨cb, 0, none⟩), .int .i64 x] w fun e w' => ∃ u, e = .returned (.tuple #[u, .int .i64 1]) ∧ AdvR w base b (fp b cb mb nv ov) T x w' (.returned (.tuple #[.slice none 0 0, .int .i64 1]))) := by
      refine CA.out.mono ?_
      rintro e w1 hq
      have hq2 := hq
      obtain ⟨u0, e1, _⟩ := hq2
      subst e1
      obtain ⟨u, e2, hr⟩ := FIN.out w1 _ hq
      exact ⟨u, by rw [e2], hr⟩
    clear FIN CA t h h0 c1 c2 c3 hm
    go_enter Tryd.func15, Tryd.ntmps15
    go_wp2_with (go_at_call 35; refine CA2.out.mono ?_; rintro e w1 ⟨u, rfl, hq⟩; have HQ := hid hq; clear hq)
    go_ret2
    exact HQ.out
  | true =>
    have hm2 : 0 ≤ x ∧ x ≤ 1099511627776 - T.now := by unfold mayB at hm; simpa using hm
    have tm := h.inv.tm
    have iv := nowT_inv h.inv (n := T.now + x) (by omega) (by omega)
    have CA2 : Hid (Calls Tryd.prog 35 #[.pointer (some ⟨cb, 0, none⟩), .int .i64 x] w fun e w' => ∃ u, e = .returned (.tuple #[u, .int .i64 0]) ∧ Calls Tryd.prog 34 #[.pointer (some ⟨b, 0, none⟩)] w' fun e w' => ∃ v, e = .returned v ∧ AdvR w base b (fp b cb mb nv ov) T x w' (.returned (.tuple #[v, .int .i64 0]))) := by
      refine CA.out.mono ?_
      rintro e w1 ⟨u, e1, k1, k2⟩
      rw [hm] at e1 k2
      refine ⟨u, e1, ?_⟩
      have k3 : But (fp b cb mb nv ov) w w1 := k1.weak (fun y hy => by subst hy; exact Or.inr (Or.inl rfl))
      have bl := k3.to h0.ge h0.sz
      have t1 : TX w1 b cb mb nv ov L (nowT T (T.now + x)) := t.now k1 k2
      refine (expire_any w1 base b cb mb nv ov L _ t1 iv h0.ge (Nat.le_trans h0.sz bl.size) (h0.fb.below bl)).mono ?_
      rintro e w2 ⟨E, du, ⟨B, e2, hB, ho⟩, ts⟩
      refine ⟨_, e2, Or.inl ⟨hm, E, du, ⟨_, rfl, ho.low k3.size⟩, ?_⟩⟩
      exact TVu.of h0 (Ts.trans k3 (Fr.refl _ _) ts) (expT_all E _ iv du.lt).2.1
    clear CA t h h0 c1 c2 c3 hm hm2 tm iv
    go_enter Tryd.func15, Tryd.ntmps15
    go_wp2_with (first | (go_at_call 35; refine CA2.out.mono ?_; rintro e w1 ⟨u, rfl, hq⟩; have HQ := hid hq; clear hq) | (go_at_call 34; refine HQ.out.mono ?_; rintro e w2 ⟨v, rfl, hq⟩; have HR := hid hq; clear hq))
    go_ret2
    exact HR.out
def untT (T : Tr) (p : Nat) (a : Int) : Tr := { T with ns := T.ns.set p { T.n p with til := min (T.n p).til a } }
theorem untT_n {T : Tr} {p : Nat} (hp : p < T.ns.length) (a : Int) (q : Nat) : (untT T p a).n q = if q = p then { T.n p with til := min (T.n p).til a } else T.n q := n_set hp _ q
theorem untT_len (T : Tr) (p : Nat) (a : Int) : (untT T p a).ns.length = T.ns.length := by simp [untT]
/-- All but the deadlines stays. -/
structure Ut (T U : Tr) : Prop where
  now : U.now = T.now
  len : U.ns.length = T.ns.length
  name : ∀ a, (U.n a).name = (T.n a).name
  ab : ∀ a, (U.n a).ab = (T.n a).ab
  od : U.od = T.od
  bw : ∀ a, (U.n a).bw = (T.n a).bw
  why : ∀ a, (U.n a).why = (T.n a).why
theorem untT_ut {T : Tr} {p : Nat} (hp : p < T.ns.length) (x : Int) : Ut T (untT T p x) := by
  have e := untT_n hp x
  refine ⟨rfl, untT_len _ _ _, fun a => ?_, fun a => ?_, rfl, fun a => ?_, fun a => ?_⟩ <;> (rw [e]; split <;> first | rfl | (rename_i h; rw [h]))
theorem Ut.nms {T U : Tr} (h : Ut T U) : U.nms = T.nms := by
  refine List.ext_getElem? (fun p => ?_)
  by_cases hp : p < T.ns.length
  · rw [nms_at hp, nms_at (by rw [h.len]; exact hp), h.name]
  · rw [List.getElem?_eq_none (by rw [nms_len, h.len]; omega), List.getElem?_eq_none (by rw [nms_len]; omega)]
theorem Ut.up {T U : Tr} (h : Ut T U) (a q : Nat) : U.up a q = T.up a q := by unfold Tr.up; rw [h.ab]
theorem untT_inv {T : Tr} (h : Inv T) {p : Nat} (hp : p < T.ns.length) {x : Int} (hx : 0 ≤ x) : Inv (untT T p x) := by
  have u := untT_ut hp x
  have e := untT_n hp x
  refine ⟨by rw [u.len]; exact h.len, by rw [u.od]; exact h.nd, fun a ha => by rw [u.len]; rw [u.od] at ha; exact h.lt a ha, fun a b ha hb => by rw [u.name, u.name]; rw [u.len] at ha hb; exact h.nm a b ha hb, fun a ha => by rw [u.name]; rw [u.len] at ha; exact h.nk a ha, fun a ha => by rw [u.od] at ha ⊢; rw [u.bw]; exact h.bw a ha, fun a ha => by rw [u.od] at ha; rw [u.bw, u.why]; exact h.why a ha, fun a q ha => by rw [u.up]; rw [u.len] at ha; exact h.up a q ha, fun a q r ha => by rw [u.up, u.up, u.up]; rw [u.len] at ha; exact h.tr a q r ha, fun a q ha => by rw [u.up, u.od]; rw [u.len] at ha; exact h.cl a q ha, h.tm, fun a ha => ?_, fun a ha => by rw [u.why]; rw [u.len] at ha; exact h.wl a ha, fun a k ha => by rw [u.ab]; rw [u.len] at ha; exact h.wd a k ha⟩
  rw [u.len] at ha
  rw [e]
  have := h.til a ha
  split
  · rename_i q; subst q
    show 0 ≤ min _ _ ∧ min _ _ ≤ _
    omega
  · exact this
/-- What Until answers. -/
def UntR (w : World) (base b : Nat) (F : Nat → Prop) (T : Tr) (s : ByteArray) (a : Int) (w' : World) (e : Ending) : Prop :=
  (∃ err, NmE w w' e [] err ∧ err ≠ 0 ∧ TVu w base b F w' T) ∨ ∃ p E, plO T.nms s = some p ∧ DU (untT T p a) E ∧ 0 ≤ a ∧ NmE w w' e (nmL (expT (untT T p a) E) T.od.length) 0 ∧ TVu w base b F w' (expT (untT T p a) E)
set_option maxHeartbeats 8000000 in
set_option maxRecDepth 100000 in
theorem until_any (w : World) (base b : Nat) (F : Nat → Prop) (T : Tr) (h : TV w base b F T) (s : ByteArray) (hs : s.size ≤ maxLen) (a : Int) :
    Calls Tryd.prog 14 #[.pointer (some ⟨b, 0, none⟩), .string s, .int .i64 a] w fun e w' => UntR w base b F T s a w' e := by
  have h0 := h
  obtain ⟨cb, mb, nv, ov, L, t, e⟩ := h.ex
  subst e
  obtain ⟨c0, c1, c2, c3⟩ := t.cells
  have FD := find_any w b cb mb nv ov L T t s hs
  have BAD : Hid (∀ err : Int, err ≠ 0 → UntR w base b (fp b cb mb nv ov) T s a w (.returned (.tuple #[.slice none 0 0, .int .i64 err]))) := fun err he => Or.inl ⟨err, NmE.none _ _ _, he, TVu.same h0 (Below.refl _ _)⟩
  cases hp : plO T.nms s with
  | none =>
    rw [hp] at FD
    have FD2 : Hid (Calls Tryd.prog 25 #[.pointer (some ⟨b, 0, none⟩), .string s] w fun e w' => e = .returned (.tuple #[.int .i64 0, .int .i64 4]) ∧ w' = w) := FD
    clear FD hp h h0 t c0 c1 c2 c3
    go_enter Tryd.func14, Tryd.ntmps14
    go_wp2_with (go_at_call 25; refine FD2.out.mono ?_; rintro e w2 ⟨rfl, hw2⟩; subst w2)
    go_ret2
    exact BAD.out 4 (by decide)
  | some p =>
    rw [hp] at FD
    have FD2 : Hid (Calls Tryd.prog 25 #[.pointer (some ⟨b, 0, none⟩), .string s] w fun e w' => e = .returned (.tuple #[.int .i64 (p : Nat), .int .i64 0]) ∧ w' = w) := FD
    obtain ⟨hpl, hnm⟩ := plO_some hp
    by_cases ha1 : a < 0
    · clear FD hp h h0 t c0 c1 c2 c3 hnm hpl
      go_enter Tryd.func14, Tryd.ntmps14
      go_wp2_with (go_at_call 25; refine FD2.out.mono ?_; rintro e w2 ⟨rfl, hw2⟩; subst w2)
      go_ret2
      exact BAD.out 1 (by decide)
    · by_cases ha2 : 1099511627776 < a
      · clear FD hp h h0 t c0 c1 c2 c3 hnm hpl
        go_enter Tryd.func14, Tryd.ntmps14
        go_wp2_with (go_at_call 25; refine FD2.out.mono ?_; rintro e w2 ⟨rfl, hw2⟩; subst w2)
        go_ret2
        exact BAD.out 1 (by decide)
      · obtain ⟨X, cap, hnv, hcap, hX, fz, n0, n1, n5, n6, n7, wp, wc, n8, ow⟩ := t.nd hpl
        subst hnv
        have fz5 := fz (p * 9 + 5)
        have hnl := t.nl
        have til := h.inv.til p hpl
        obtain ⟨m, hm⟩ : ∃ m, m = min (T.n p).til a := ⟨_, rfl⟩
        have EX : Hid (∀ W, W = (w.setCell ⟨X, p * 9 + 5, none⟩ (.int .i64 m)).drew → Calls Tryd.prog 34 #[.pointer (some ⟨b, 0, none⟩)] W fun e w' => ∃ v, e = .returned v ∧ UntR w base b (fp b cb mb (.slice (some ⟨X, 0, none⟩) T.ns.length cap) ov) T s a w' (.returned (.tuple #[v, .int .i64 0]))) := fun W hW => by
          obtain ⟨hl, hr⟩ := t.getL hpl
          have k : But (fun x => x = X) w W := by rw [hW]; exact (But.set X (p * 9 + 5) (.int .i64 m)).drew
          have ok : OkF w (fun x => x = X) := fun z hz => t.okF z (by subst hz; exact Or.inr (Or.inr (Or.inr (Or.inl rfl))))
          have u := untT_ut hpl a
          have e := untT_n hpl a
          have k3 : But (fp b cb mb (.slice (some ⟨X, 0, none⟩) T.ns.length cap) ov) w W := k.weak (fun z hz => by subst hz; exact Or.inr (Or.inr (Or.inr (Or.inl rfl))))
          have t1 : TX W b cb mb (.slice (some ⟨X, 0, none⟩) T.ns.length cap) ov (L.set p { L[p] with til := m }) (untT T p a) := by
            refine t.nset (U := untT T p a) (X := X) rfl k hpl { L[p] with til := m } ?_ rfl rfl (untT_len _ _ _) u.nms (fun q hq => by rw [e, if_neg hq]) ?_ (fun j => by rw [u.ab]; exact t.wd p j hpl)
            · rw [hW]
              exact t.nr.setW KN_ok.len hl (j := 5) (by decide) { L[p] with til := m } (.int .i64 m) rfl
            · rw [e, if_pos rfl]
              exact ⟨hr.name, hr.ab, hm, hr.rk, hr.bw, ownC_g (hr.why.g.butF k ok kc_no)⟩
          have iv := untT_inv h0.inv hpl (x := a) (by omega)
          have bl := k3.to h0.ge h0.sz
          refine (expire_any W base b cb mb _ ov _ _ t1 iv h0.ge (Nat.le_trans h0.sz bl.size) (h0.fb.below bl)).mono ?_
          rintro e w2 ⟨E, du, ⟨B, e2, hB, ho⟩, ts⟩
          refine ⟨_, e2, Or.inr ⟨p, E, hp, du, by omega, ⟨_, rfl, ho.low k3.size⟩, ?_⟩⟩
          exact TVu.of h0 (Ts.trans k3 (Fr.refl _ _) ts) (expT_all E _ iv du.lt).2.1
        have hm2 : (T.n p).til ≤ a → m = (T.n p).til := fun q => by omega
        have hm3 : ¬ (T.n p).til ≤ a → m = a := fun q => by omega
        clear FD hp h h0 t c0 c2 c3 hnm n0 n1 n6 n7 n8 ow fz hm BAD til
        generalize (T.n p).til = tl at *
        by_cases hle : tl ≤ a
        · have := hm2 hle
          subst this
          clear hm2 hm3
          go_enter Tryd.func14, Tryd.ntmps14
          go_wp2_with (go_at_call 25; refine FD2.out.mono ?_; rintro e w2 ⟨rfl, hw2⟩; subst w2)
          go_region
          all_goals
            go_wp2_with (go_at_call 34; refine (EX.out _ rfl).mono ?_; rintro e w2 ⟨v, rfl, hq⟩; have HR := hid hq; clear hq)
            go_ret2
            exact HR.out
        · have := hm3 hle
          subst this
          clear hm2 hm3
          go_enter Tryd.func14, Tryd.ntmps14
          go_wp2_with (go_at_call 25; refine FD2.out.mono ?_; rintro e w2 ⟨rfl, hw2⟩; subst w2)
          go_region
          all_goals
            go_wp2_with (go_at_call 34; refine (EX.out _ rfl).mono ?_; rintro e w2 ⟨v, rfl, hq⟩; have HR := hid hq; clear hq)
            go_ret2
            exact HR.out
end Go.Proofs.YtkebflllbphkkaaDoor
namespace Go.Proofs.YtkebflllbphkkaaDoor
open Go.RowKit

/-- What Cancel answers. -/
def CanR (w : World) (base b : Nat) (F : Nat → Prop) (T : Tr) (s : ByteArray) (l : List Cr) (w' : World) (e : Ending) : Prop :=
  (∃ err, NmE w w' e [] err ∧ err ≠ 0 ∧ (plO T.nms s = none ∨ tokE s l ≠ 0) ∧ TVu w base b F w' T) ∨ ∃ p, plO T.nms s = some p ∧ tokE s l = 0 ∧ NmE w w' e (nmL (cancelT T p (tokL s l)) T.od.length) 0 ∧ TVu w base b F w' (cancelT T p (tokL s l))
set_option maxHeartbeats 8000000 in
set_option maxRecDepth 100000 in
theorem tcancel_any (w : World) (base b : Nat) (F : Nat → Prop) (T : Tr) (h : TV w base b F T) (s : ByteArray) (hs : s.size ≤ maxLen) (v : Value) (l : List Cr) (hv : CS w v l) (ht : ∀ c ∈ l, c.text.size ≤ maxLen) (hlm : l.length ≤ 1000000000000000) :
    Calls Tryd.prog 13 #[.pointer (some ⟨b, 0, none⟩), .string s, v] w fun e w' => CanR w base b F T s l w' e := by
  have h0 := h
  obtain ⟨cb, mb, nv, ov, L, t, e⟩ := h.ex
  subst e
  obtain ⟨c0, c1, c2, c3⟩ := t.cells
  have FD := find_any w b cb mb nv ov L T t s hs
  cases hp : plO T.nms s with
  | none =>
    have BAD : Hid (CanR w base b (fp b cb mb nv ov) T s l w (.returned (.tuple #[.slice none 0 0, .int .i64 4]))) := Or.inl ⟨4, NmE.none _ _ _, by decide, Or.inl hp, TVu.same h0 (Below.refl _ _)⟩
    rw [hp] at FD
    have FD2 : Hid (Calls Tryd.prog 25 #[.pointer (some ⟨b, 0, none⟩), .string s] w fun e w' => e = .returned (.tuple #[.int .i64 0, .int .i64 4]) ∧ w' = w) := FD
    clear FD hp h h0 t c0 c1 c2 c3 hv
    go_enter Tryd.func13, Tryd.ntmps13
    go_wp2_with (go_at_call 25; refine FD2.out.mono ?_; rintro e w2 ⟨rfl, hw2⟩; subst w2)
    go_ret2
    exact BAD.out
  | some p =>
    rw [hp] at FD
    have FD2 : Hid (Calls Tryd.prog 25 #[.pointer (some ⟨b, 0, none⟩), .string s] w fun e w' => e = .returned (.tuple #[.int .i64 (p : Nat), .int .i64 0]) ∧ w' = w) := FD
    obtain ⟨hpl, hnm⟩ := plO_some hp
    have TK := hid (token_any s v l w hs hv ht hlm h.fb.fv)
    by_cases hE : tokE s l = 0
    · obtain ⟨po, co, hov, hco⟩ := t.or.form
      subst hov
      have hol := t.ol
      have hpre := (cancelT_all h.inv hpl (tokL s l)).1
      have hiv := (cancelT_all h.inv hpl (tokL s l)).2.2.1 (tokL_ok hE).1 (tokL_ok hE).2
      have CC : Hid (∀ w1 p3 c3, OwnC w1 w.heap.size (.slice p3 (tokL s l).length c3) (tokL s l) → Below w.heap.size w w1 → w1.cell? ⟨b, 3, none⟩ = some (.slice po T.od.length co) ∧ Calls Tryd.prog 33 #[.pointer (some ⟨b, 0, none⟩), .int .i64 p, .slice p3 (tokL s l).length c3] w1 fun e w' => e = .returned (.tuple #[]) ∧ Ts w b cb mb nv (.slice po T.od.length co) w' (cancelT T p (tokL s l))) := fun w1 p3 c3 ho hb => by
        have t1 := t.below hb
        refine ⟨t1.cells.2.2.2, ?_⟩
        refine (cancel_any w1 b cb mb nv _ L T t1 p hpl h0.inv.j p3 c3 _ (ho.low (Nat.zero_le _))).mono ?_
        rintro e w' ⟨rfl, hq⟩
        exact ⟨rfl, Ts.trans (But.of_below hb) (Fr.refl _ _) hq⟩
      have NO : Hid (∀ w2, Ts w b cb mb nv (.slice po T.od.length co) w2 (cancelT T p (tokL s l)) → ∃ po1 n1 co1, w2.cell? ⟨b, 3, none⟩ = some (.slice po1 n1 co1) ∧ n1 ≤ co1 ∧ n1 ≤ 256 ∧ T.od.length ≤ n1 ∧ (po1 = none ∧ n1 = 0 ∧ co1 = 0 ∨ ∃ g, po1 = some ⟨g, 0, none⟩) ∧ ∀ p' n' c', (p' = po1 ∧ T.od.length = co1 ∨ ∃ g, po1 = some ⟨g, 0, none⟩ ∧ p' = some ⟨g, T.od.length, none⟩) → n' = n1 - T.od.length → c' = co1 - T.od.length → Calls Tryd.prog 24 #[.pointer (some ⟨b, 0, none⟩), .slice p' n' c'] w2 fun e w' => ∃ v, e = .returned v ∧ CanR w base b (fp b cb mb nv (.slice po T.od.length co)) T s l w' (.returned (.tuple #[v, .int .i64 0]))) := fun w2 hts => by
        have hts2 := hts
        obtain ⟨nv1, ov1, L1, t1, k1, f1⟩ := hts2
        obtain ⟨po1, co1, hov1, hco1⟩ := t1.or.form
        subst hov1
        refine ⟨po1, _, co1, t1.cells.2.2.2, hco1, t1.ol, hpre.od.length_le, ?_, fun p' n' c' hp' hn hc => ?_⟩
        · rcases t1.or.2 with ⟨e0, e9⟩ | ⟨g, cap, cur, e0, _⟩
          · injection e0 with e0 _ e8; exact Or.inl ⟨e0, e9, e8⟩
          · injection e0 with e0 _ _; exact Or.inr ⟨g, e0⟩
        · have gs := gs_drop t1.or hpre.od.length_le p' hp' n' c' hn hc
          refine (namesOf_any w2 b cb mb nv1 _ L1 _ t1 _ _ gs (fun q hq => hiv.lt q (List.mem_of_mem_drop hq)) (by rw [List.length_drop]; have := t1.ol; omega)).mono ?_
          rintro e w' ⟨rfl, ho, hb⟩
          refine ⟨_, rfl, Or.inr ⟨p, hp, hE, ⟨_, rfl, ho.low k1.size⟩, ?_⟩⟩
          refine TVu.of h0 ⟨nv1, _, L1, t1.below hb, k1.trans (But.of_below (F := fun _ => False) hb) (fun _ q => q.elim), f1⟩ hiv
      clear FD hp h h0 t c0 c1 c2 hnm hpre hiv hv
      rw [hE] at TK
      generalize tokL s l = y at *
      go_enter Tryd.func13, Tryd.ntmps13
      go_upto_region 9 with (first | (go_at_call 25; refine FD2.out.mono ?_; rintro e w2 ⟨rfl, hw2⟩; subst w2) | (go_at_call 32; refine TK.out.mono ?_; rintro e w1 ⟨p3, c3', rfl, ho3, hb3⟩; obtain ⟨d3, hq⟩ := CC.out w1 p3 c3' ho3 hb3; have HQ := hid hq; clear hq ho3 hb3) | (go_at_call 33; refine HQ.out.mono ?_; rintro e w4 ⟨rfl, hq⟩; obtain ⟨po1, n1, co1, d4, d5, d6, d7, d8, hq⟩ := NO.out w4 hq; have HR := hid hq; have D8 := hid d8; clear hq d8))
      clear c3 d3 FD2 TK CC NO HQ
      all_goals
        rcases D8.out with ⟨r1, r2, r3⟩ | ⟨g, r1⟩
        · subst r1 r2 r3
          have hz : T.od.length = 0 := by omega
          have HR2 := hid (HR.out none 0 0 (Or.inl ⟨rfl, hz⟩) (by omega) (by omega))
          clear HR
          rw [hz] at HR2
          go_wp2_with (go_at_call 24; refine HR2.out.mono ?_; rintro e w5 ⟨v5, rfl, hq⟩; have HF := hid hq; clear hq)
          go_ret2
          rw [hz]
          exact HF.out
        · subst r1
          go_wp2_with (go_at_call 24; refine (HR.out _ _ _ (by first | exact Or.inr ⟨g, rfl, rfl⟩ | exact Or.inl ⟨rfl, by omega⟩ | (split <;> first | exact Or.inr ⟨g, rfl, rfl⟩ | exact Or.inl ⟨rfl, by omega⟩)) rfl rfl).mono ?_; rintro e w5 ⟨v5, rfl, hq⟩; have HF := hid hq; clear hq)
          all_goals
            go_ret2
            exact HF.out
    · have BAD : Hid (∀ w1, Below w.heap.size w w1 → CanR w base b (fp b cb mb nv ov) T s l w1 (.returned (.tuple #[.slice none 0 0, .int .i64 5]))) := fun w1 hb => Or.inl ⟨5, NmE.none _ _ _, by decide, Or.inr hE, TVu.same h0 hb⟩
      clear FD hp h h0 t c0 c1 c2 c3 hnm hv
      generalize tokE s l = ee at *
      generalize tokL s l = y at *
      have z1 : (ee == 0) = false := by simpa using hE
      have z2 : (ee != 0) = true := by simpa using hE
      go_enter Tryd.func13, Tryd.ntmps13
      go_wp2_with (first | (go_at_call 25; refine FD2.out.mono ?_; rintro e w2 ⟨rfl, hw2⟩; subst w2) | (go_at_call 32; refine TK.out.mono ?_; rintro e w1 ⟨p3, c3', rfl, ho3, hb3⟩; have HB := hid (BAD.out w1 hb3); clear ho3 hb3))
      go_ret2
      exact HB.out
end Go.Proofs.YtkebflllbphkkaaDoor
