/- Tokens, the laws: the calls of a law. -/
import Derived.Test.YtkebflllbphkkaaDoorTl1
namespace Go.Proofs.YtkebflllbphkkaaDoor
open Go.RowKit

/-- What is cancelled stays so. -/
structure Ext (T U : Tr) : Prop where
  len : T.ns.length ≤ U.ns.length
  nm : ∀ a, a < T.ns.length → (U.n a).name = (T.n a).name
  od : T.od <+: U.od
  bw : ∀ a ∈ T.od, (U.n a).bw = (T.n a).bw
  why : ∀ a ∈ T.od, (U.n a).why = (T.n a).why
theorem Ext.refl (T : Tr) : Ext T T := ⟨Nat.le_refl _, fun _ _ => rfl, List.prefix_refl _, fun _ _ => rfl, fun _ _ => rfl⟩
theorem Ext.trans {T U V : Tr} (h : Ext T U) (k : Ext U V) : Ext T V := ⟨Nat.le_trans h.len k.len, fun a ha => (k.nm a (Nat.lt_of_lt_of_le ha h.len)).trans (h.nm a ha), h.od.trans k.od, fun a ha => (k.bw a (h.od.subset ha)).trans (h.bw a ha), fun a ha => (k.why a (h.od.subset ha)).trans (h.why a ha)⟩
theorem Cn.ext {T U : Tr} (h : Cn T U) : Ext T U := ⟨by rw [h.len]; exact Nat.le_refl _, fun a _ => h.name a, h.od, h.bw, h.why⟩
theorem Ut.ext {T U : Tr} (h : Ut T U) : Ext T U := ⟨by rw [h.len]; exact Nat.le_refl _, fun a _ => h.name a, by rw [h.od]; exact List.prefix_refl _, fun a _ => h.bw a, fun a _ => h.why a⟩
theorem nowT_ext (T : Tr) (n : Int) : Ext T (nowT T n) := ⟨Nat.le_refl _, fun _ _ => rfl, List.prefix_refl _, fun _ _ => rfl, fun _ _ => rfl⟩
/-- A tree, and another one that a call has made of it. -/
def StepR (w : World) (base b : Nat) (F : Nat → Prop) (T : Tr) (w' : World) : Prop := ∃ U, Ext T U ∧ TVu w base b F w' U
theorem adv_step {w w' : World} {base b : Nat} {F : Nat → Prop} {T : Tr} (hi : Inv T) {x : Int} {e : Ending} (h : AdvR w base b F T x w' e) : ∃ v, e = .returned v ∧ StepR w base b F T w' := by
  rcases h with ⟨hm, E, du, ⟨v, rfl, _⟩, hu⟩ | ⟨_, ⟨v, rfl, _⟩, hu⟩
  · have hm2 : 0 ≤ x ∧ x ≤ 1099511627776 - T.now := by unfold mayB at hm; simpa using hm
    have tm := hi.tm
    exact ⟨_, rfl, _, (nowT_ext T _).trans (expT_all E _ (nowT_inv hi (by omega) (by omega)) du.lt).1.ext, hu⟩
  · exact ⟨_, rfl, _, Ext.refl _, hu⟩
theorem unt_step {w w' : World} {base b : Nat} {F : Nat → Prop} {T : Tr} (hi : Inv T) {s : ByteArray} {a : Int} {e : Ending} (h : UntR w base b F T s a w' e) : ∃ v, e = .returned v ∧ StepR w base b F T w' := by
  rcases h with ⟨err, ⟨v, rfl, _⟩, _, hu⟩ | ⟨p, E, hp, du, ha, ⟨v, rfl, _⟩, hu⟩
  · exact ⟨_, rfl, _, Ext.refl _, hu⟩
  · have hpl := (plO_some hp).1
    exact ⟨_, rfl, _, (untT_ut hpl a).ext.trans (expT_all E _ (untT_inv hi hpl ha) du.lt).1.ext, hu⟩
theorem can_step {w w' : World} {base b : Nat} {F : Nat → Prop} {T : Tr} (hi : Inv T) {s : ByteArray} {l : List Cr} {e : Ending} (h : CanR w base b F T s l w' e) : ∃ v, e = .returned v ∧ StepR w base b F T w' := by
  rcases h with ⟨err, ⟨v, rfl, _⟩, _, _, hu⟩ | ⟨p, hp, hE, ⟨v, rfl, _⟩, hu⟩
  · exact ⟨_, rfl, _, Ext.refl _, hu⟩
  · exact ⟨_, rfl, _, (cancelT_all hi (plO_some hp).1 (tokL s l)).1.ext, hu⟩
theorem mak_ext {T : Tr} (hi : Inv T) {s : ByteArray} {l : List ByteArray} {ps : List Nat} (h : ckO T s l = some ps) : Ext T (makT T s ps) := by
  obtain ⟨k1, k2, k3, k4, k5⟩ := ckO_some h
  have hpl := fun p hp => (fAll_lt l ps k5 p hp).1
  obtain ⟨_, m2, m3, _, _, m6, _⟩ := makT_all hi (s := s) (ps := ps) (by have := localB_size k1; omega) hpl k4 k2
  refine ⟨by rw [m2]; omega, fun a ha => by rw [m3 a ha], ?_, fun a ha => by rw [m3 a (hi.lt a ha)], fun a ha => by rw [m3 a (hi.lt a ha)]⟩
  rcases m6 with ⟨_, e⟩ | ⟨_, e⟩
  · rw [e]; exact List.prefix_refl _
  · rw [e]; exact List.prefix_append _ _
theorem mak_step {w w' : World} {base b : Nat} {F : Nat → Prop} {T : Tr} (hi : Inv T) {s : ByteArray} {l : List ByteArray} {e : Ending} (h : MakR w base b F T s l w' e) : ∃ v, e = .returned v ∧ StepR w base b F T w' := by
  rcases h with ⟨err, _, rfl, _, hu⟩ | ⟨ps, hck, rfl, hu⟩
  · exact ⟨_, rfl, _, Ext.refl _, hu⟩
  · exact ⟨_, rfl, _, mak_ext hi hck, hu⟩
/-- A tree above a base, behind a world. -/
def PS (w0 wk : World) (base b : Nat) (T : Tr) : Prop := ∃ F, TV wk base b F T ∧ Below base w0 wk
theorem PS.below {w0 wk w' : World} {base b : Nat} {T : Tr} (h : PS w0 wk base b T) (k : Below wk.heap.size wk w') : PS w0 w' base b T := by
  obtain ⟨F, h1, h2⟩ := h
  exact ⟨F, h1.below k, h2.trans (k.mono h1.sz)⟩
theorem PS.to {w0 wk w' : World} {base b : Nat} {F : Nat → Prop} {T U : Tr} (h : TV wk base b F T) (hb : Below base w0 wk) (k : TVu wk base b F w' U) : PS w0 w' base b U := by
  obtain ⟨F', q1, q2, _⟩ := k
  exact ⟨F', q1, hb.trans (q2.to h.ge h.sz)⟩
/-- A call as it lies in memory. -/
structure Cx where
  kind : Int
  n : Int
  name : ByteArray
  np : Option Addr
  nn : Nat
  nc : Nat
  names : List ByteArray
  cp : Option Addr
  cn : Nat
  cc : Nat
  cause : List Cr
def cxC (x : Cx) : List Value := [.int .i64 x.kind, .int .i64 x.n, .string x.name, .slice x.np x.nn x.nc, .slice x.cp x.cn x.cc]
def KX : RK Cx := ⟨35, 5, 80, .agg #[.int .i64 0, .int .i64 0, .string ByteArray.empty, .slice none 0 0, .slice none 0 0], cxC⟩
theorem KX_ok : KX.Ok Tryd.prog :=
  ⟨fun _ => rfl, fun x u hu => by simp [KX, cxC] at hu; rcases hu with rfl | rfl | rfl | rfl | rfl <;> rfl, rfl, by decide, by decide, info_parts' (by kernel_rfl)⟩
structure OkX (w : World) (x : Cx) : Prop where
  nm : x.name.size ≤ maxLen
  ns : GS KS w (.slice x.np x.nn x.nc) x.names
  nt : ∀ s ∈ x.names, s.size ≤ maxLen
  nl : x.names.length * 16 ≤ 140737488355328
  cs : CS w (.slice x.cp x.cn x.cc) x.cause
  ct : ∀ c ∈ x.cause, c.text.size ≤ maxLen
  cl : x.cause.length * 32 ≤ 140737488355328
structure ARG (w : World) (v : Value) (l : List Cx) : Prop where
  gs : GS KX w v l
  ok : ∀ x ∈ l, OkX w x
  len : l.length ≤ 1000000000000000
theorem OkX.below {w w' : World} {x : Cx} (h : OkX w x) (k : Below w.heap.size w w') : OkX w' x := ⟨h.nm, h.ns.below k, h.nt, h.nl, h.cs.below k, h.ct, h.cl⟩
theorem ARG.below {w w' : World} {v : Value} {l : List Cx} (h : ARG w v l) (k : Below w.heap.size w w') : ARG w' v l := ⟨h.gs.below k, fun x hx => (h.ok x hx).below k, h.len⟩
/-- A list more, at a step of a region that draws its order; whatever the list's slice is. -/
theorem step_append_any {α : Type} {P : Program} (K : RK α) (hk : K.Ok P) {ops : Array Oper} {o : Oper} {a : Act} {C : Act → World → Prop} {Q : Exit → Act → World → Prop} {E : Prop} (hgd : o.guard = none) (s x : Operand) (t : TypeId)
    (ho : o.op = .call { callee := .builtin .append, args := #[s, x], argTypes := #[t, t] })
    (base : Nat) (ht : P.underlying t = some (.slice K.ty))
    (w1 : World) (v vx : Value) (l m : List α) (hs : a.eval s = v) (hown : OwnG K w1 base v l) (hx : a.eval x = vx) (hm : GS K w1 vx m)
    (hlen : (l.length + m.length) * K.B ≤ 140737488355328) (hbase : base ≤ w1.heap.size)
    (h : ∀ v' w', OwnG K w' base v' (l ++ m) → Below base w1 w' → (∀ k, k < w1.heap.size → some k ≠ v.ownBlock → w'.heap[k]? = w1.heap[k]?) → C (a.put o.dst v') w') :
    if Region.wanted o (yielded ops a.tmps) = true then Oper.wp P o a w1 C Q else E := by
  obtain ⟨i0, hi0, hz0, hz1, hz2⟩ := hk.info
  have hpb := hk.posB
  have hlm : l.length + m.length ≤ 140737488355328 := Nat.le_trans (Nat.le_mul_of_pos_right _ hpb) hlen
  have hw : Region.wanted o (yielded ops a.tmps) = true := by simp [Region.wanted, hgd]
  rw [if_pos hw]
  have hm0 := hm
  rcases hm with ⟨rfl | ⟨ad, cap, rfl⟩, hmn⟩ | ⟨X, ox, cap, rfl, _⟩
  · subst hmn
    have hrun := run_append_owned_none (P := P) (w := w1) base t o.type K.ty i0 K.W ht hi0 v l.length (l.flatMap K.f) hown
    unfold Oper.wp
    simp [execOp, ho, resolve, invoke, builtin, hs, hx, hrun, Result.andThen]
    exact h v w1 (by rw [List.append_nil]; exact hown) (Below.refl _ _) (fun _ _ _ => rfl)
  · subst hmn
    refine wp_append_own w1 s x t ho base K.ty i0 K.z K.W K.B ht hi0 hz0 hz1 hz2 hk.zs hk.pos v l.length (l.flatMap K.f) hs hown ad 0 cap [] hx (by simp) (fun j u hj => by simp at hj) (fun u hu => by cases hu)
      (by unfold maxLen; simp at hlm; omega) (by simpa using hlen) hbase ?_
    intro v' w' ho' hg _
    refine h v' w' ?_ ((Below.refl base w1).grown hg hbase (fun q hq => (hown.lt hq).1)) (fun k hk hne => hg.block k hk hne)
    unfold OwnG
    rw [List.append_nil]
    simpa using ho'
  · have one : ∀ u ∈ m.flatMap K.f, u.oneCell' = true := fun u hu => by
      obtain ⟨f, _, hf⟩ := List.mem_flatMap.1 hu
      exact hk.one f u hf
    refine wp_append_own w1 s x t ho base K.ty i0 K.z K.W K.B ht hi0 hz0 hz1 hz2 hk.zs hk.pos v l.length (l.flatMap K.f) hs hown ⟨X, ox, none⟩ m.length cap (m.flatMap K.f) hx (RK.flat_len hk.len m) (hm0.news hk.len hk.pos) one
      (by unfold maxLen; omega) hlen hbase ?_
    intro v' w' ho' hg _
    refine h v' w' ?_ ((Below.refl base w1).grown hg hbase (fun q hq => (hown.lt hq).1)) (fun k hk hne => hg.block k hk hne)
    unfold OwnG
    rw [List.length_append, List.flatMap_append]
    exact ho'
end Go.Proofs.YtkebflllbphkkaaDoor
namespace Go.Proofs.YtkebflllbphkkaaDoor
open Go.RowKit

/-- Blocks that no tree writes into stay. -/
def Kp (w w' : World) : Prop := ∀ (B : Nat) (o : Obj), w.heap[B]? = some o → ¬ okT o → w'.heap[B]? = some o
theorem Kp.refl (w : World) : Kp w w := fun _ _ h _ => h
theorem Kp.trans {a b c : World} (h : Kp a b) (k : Kp b c) : Kp a c := fun B o q n => k B o (h B o q n) n
theorem Kp.of_below {w w' : World} (h : Below w.heap.size w w') : Kp w w' := fun B _ q _ => (h.block B (lt_of_heap q)).trans q
theorem Kp.of_but {w w' : World} {F : Nat → Prop} (h : But F w w') (k : OkF w F) : Kp w w' := fun B o q n => (h.block B (lt_of_heap q) (fun hx => by
  obtain ⟨o', ho, hk⟩ := k B hx
  rw [q] at ho
  injection ho with ho
  subst ho
  exact n hk)).trans q
theorem OwnG.kp {α : Type} {K : RK α} {w w' : World} {base : Nat} {v : Value} {l : List α} (h : OwnG K w base v l) (k : Kp w w') (ht : ¬ okT (.cells #[] K.ty (0, 0))) : OwnG K w' base v l :=
  h.far (fun g hg => by
    obtain ⟨c, hc⟩ := h.ty hg
    rw [k g _ hc ht, hc])
theorem kx_no (arr : Array Value) : ¬ okT (.cells arr 35 (0, 0)) := fun hk => by
  have hk2 : (35 : TypeId) = 62 ∨ (35 : TypeId) = 99 ∨ (35 : TypeId) = 71 ∨ (35 : TypeId) = 3 := hk
  exact absurd hk2 (by decide)
/-- What a law's call leaves. -/
def LC (w0 : World) (base b : Nat) (T : Tr) (W w' : World) (e : Ending) : Prop := ∃ u, e = .returned u ∧ Kp W w' ∧ ∃ U, Ext T U ∧ PS w0 w' base b U
theorem lc_of {w0 w w' W : World} {base b : Nat} {F : Nat → Prop} {T : Tr} (h : TV w base b F T) (hb : Below base w0 w) (hk : Kp W w) {e : Ending} (k : ∃ v, e = .returned v ∧ StepR w base b F T w') : LC w0 base b T W w' e := by
  obtain ⟨v, rfl, U, hx, hu⟩ := k
  refine ⟨v, rfl, ?_, U, hx, PS.to h hb hu⟩
  obtain ⟨F', _, k2, _⟩ := hu
  exact hk.trans (Kp.of_but k2 h.ok)
theorem mk_call {w0 W : World} {base b : Nat} {T : Tr} (h : PS w0 W base b T) {x : Cx} (hx : OkX W x) (w' : World) (pv : Option Addr) (cv : Nat) (ho : OwnG KS w' W.heap.size (.slice pv x.names.length cv) x.names) (hw : Below W.heap.size W w') :
    Calls Tryd.prog 12 #[.pointer (some ⟨b, 0, none⟩), .string x.name, .slice pv x.names.length cv] w' fun e w'' => LC w0 base b T W w'' e := by
  obtain ⟨F, h1, h2⟩ := h
  have hl := hx.nl
  refine (make_any w' base b F T (h1.below hw) x.name hx.nm _ x.names (ho.gs KS_ok.len) hx.nt (by omega)).mono ?_
  intro e w'' q
  exact lc_of (h1.below hw) (h2.trans (hw.mono h1.sz)) (Kp.of_below hw) (mak_step h1.inv q)
theorem can_call {w0 W : World} {base b : Nat} {T : Tr} (h : PS w0 W base b T) {x : Cx} (hx : OkX W x) (w' : World) (pv : Option Addr) (cv : Nat) (ho : OwnG KC w' W.heap.size (.slice pv x.cause.length cv) x.cause) (hw : Below W.heap.size W w') :
    Calls Tryd.prog 13 #[.pointer (some ⟨b, 0, none⟩), .string x.name, .slice pv x.cause.length cv] w' fun e w'' => LC w0 base b T W w'' e := by
  obtain ⟨F, h1, h2⟩ := h
  have hl := hx.cl
  refine (tcancel_any w' base b F T (h1.below hw) x.name hx.nm _ x.cause (ownC_g ho).cs hx.ct (by omega)).mono ?_
  intro e w'' q
  exact lc_of (h1.below hw) (h2.trans (hw.mono h1.sz)) (Kp.of_below hw) (can_step h1.inv q)
theorem unt_call {w0 W : World} {base b : Nat} {T : Tr} (h : PS w0 W base b T) {x : Cx} (hx : OkX W x) :
    Calls Tryd.prog 14 #[.pointer (some ⟨b, 0, none⟩), .string x.name, .int .i64 x.n] W fun e w'' => LC w0 base b T W w'' e := by
  obtain ⟨F, h1, h2⟩ := h
  refine (until_any W base b F T h1 x.name hx.nm x.n).mono ?_
  intro e w'' q
  exact lc_of h1 h2 (Kp.refl _) (unt_step h1.inv q)
theorem adv_call {w0 W : World} {base b : Nat} {T : Tr} (h : PS w0 W base b T) (x : Int) :
    Calls Tryd.prog 15 #[.pointer (some ⟨b, 0, none⟩), .int .i64 x] W fun e w'' => LC w0 base b T W w'' e := by
  obtain ⟨F, h1, h2⟩ := h
  refine (advance_any W base b F T h1 x).mono ?_
  intro e w'' q
  exact lc_of h1 h2 (Kp.refl _) (adv_step h1.inv q)
theorem clo_call {w0 W : World} {base b : Nat} {T : Tr} (h : PS w0 W base b T) :
    Calls Tryd.prog 20 #[.pointer (some ⟨b, 0, none⟩)] W fun e w'' => ∃ b', e = .returned (.pointer (some ⟨b', 0, none⟩)) ∧ PS w0 w'' base b' T := by
  obtain ⟨F, h1, h2⟩ := h
  refine (tclone_any W base b F T h1).mono ?_
  rintro e w'' ⟨b', F', rfl, q1, _, q3⟩
  exact ⟨b', rfl, F', q1, h2.trans (q3.mono h1.sz)⟩
theorem ARG.cells {w : World} {p : Option Addr} {n cap k : Nat} {l : List Cx} (h : ARG w (.slice p n cap) l) (hk : k < l.length) : ∃ X o, p = some ⟨X, o, none⟩ ∧ w.cell? ⟨X, o + k * 5, none⟩ = some (.int .i64 l[k].kind) ∧ w.cell? ⟨X, o + k * 5 + 1, none⟩ = some (.int .i64 l[k].n) ∧ w.cell? ⟨X, o + k * 5 + 2, none⟩ = some (.string l[k].name) ∧ w.cell? ⟨X, o + k * 5 + 3, none⟩ = some (.slice l[k].np l[k].nn l[k].nc) ∧ w.cell? ⟨X, o + k * 5 + 4, none⟩ = some (.slice l[k].cp l[k].cn l[k].cc) := by
  obtain ⟨X, o, h1, _, h2⟩ := GS.at h.gs hk
  exact ⟨X, o, h1, h2 0 _ rfl, h2 1 _ rfl, h2 2 _ rfl, h2 3 _ rfl, h2 4 _ rfl⟩
theorem cs_gs {w : World} {v : Value} {l : List Cr} (h : CS w v l) : GS KC w v l := by
  rcases h with h | ⟨X, o, cap, rfl, hX, hc, hq⟩
  · exact Or.inl h
  · refine Or.inr ⟨X, o, cap, rfl, hX, hc, fun k hk j u hu => ?_⟩
    obtain ⟨q1, q2, q3⟩ := hq k hk
    have hj : j < 3 := by
      by_cases hlt : j < 3
      · exact hlt
      · rw [List.getElem?_eq_none (by show 3 ≤ j; omega)] at hu; cases hu
    have : j = 0 ∨ j = 1 ∨ j = 2 := by omega
    rcases this with rfl | rfl | rfl
    · injection hu with hu; rw [← hu]; exact q1
    · injection hu with hu; rw [← hu]; exact q2
    · injection hu with hu; rw [← hu]; exact q3
def cxA (x : Cx) : Array Value := #[.int .i64 x.kind, .int .i64 x.n, .string x.name, .slice x.np x.nn x.nc, .slice x.cp x.cn x.cc]
/-- What played answers. -/
def PlR (w0 : World) (base : Nat) (w' : World) (e : Ending) : Prop := ∃ b T, e = .returned (.pointer (some ⟨b, 0, none⟩)) ∧ PS w0 w' base b T
set_option maxHeartbeats 16000000 in
set_option maxRecDepth 100000 in
theorem played_any (w0 w : World) (base : Nat) (v : Value) (l : List Cx) (hA : ARG w0 v l) (hbase : base = w0.heap.size) (hb : Below base w0 w) (hfb : FB w base) :
    Calls Tryd.prog 8 #[v] w fun e w' => PlR w0 base w' e := by
  obtain ⟨p, cap, rfl⟩ := hA.gs.form
  have hsz : base ≤ w.heap.size := by rw [hbase]; rw [hbase] at hb; exact hb.size
  have NW := hid (new_any w base hsz hfb)
  have HA := hid hA
  have HB := hid hb
  have HBS := hid hbase
  have hlen := hA.len
  clear hA hb hbase hfb
  go_enter Tryd.func8, Tryd.ntmps8
  go_wp2_with (go_at_call 23; refine NW.out.mono ?_; rintro e w1 ⟨b0, F0, rfl, q1, q2, q3⟩; have Q : Hid (PS w0 w1 base b0 T0) := ⟨F0, q1, HB.out.trans (q3.mono hsz)⟩; clear q1 q2 q3)
  go_loopw [3, 9] (fun v3 v9 wr => ∃ (k b : Nat) (T : Tr) (wk : World), v3 = .pointer (some ⟨b, 0, none⟩) ∧ v9 = .int .i64 k ∧ wk = wr ∧ k ≤ l.length ∧ Hid (PS w0 wk base b T)) (fun _ v9 _ => l.length - (intOf v9).toNat)
  case atStart => exact ⟨0, b0, T0, _, rfl, rfl, rfl, Nat.zero_le _, Q⟩
  case round =>
    obtain ⟨k, b, T, wr, rfl, rfl, rfl, hk, HS⟩ := hrel
    clear Q NW
    by_cases hlt : k < l.length
    · have bl : Below w0.heap.size w0 wr := by obtain ⟨F, _, q⟩ := HS.out; rw [← HBS.out]; exact q
      obtain ⟨X, o, rfl, x0, x1, x2, x3, x4⟩ := (HA.out.below bl).cells hlt
      have hx := ((HA.out.below bl).ok _ (List.getElem_mem hlt))
      obtain ⟨x, hxe⟩ : ∃ x, x = l[k] := ⟨_, rfl⟩
      rw [← hxe] at x0 x1 x2 x3 x4 hx
      obtain ⟨W, hW⟩ : ∃ W, W = wr.alloc (.cells (cxA x) 35) := ⟨_, rfl⟩
      have bW : Below wr.heap.size wr W := by rw [hW]; exact (Below.refl _ _).alloc (Nat.le_refl _) _
      have hBx : W.heap[wr.heap.size]? = some (.cells (cxA x) 35) := by rw [hW]; exact heap_alloc_new _ _
      have PW := hid (HS.out.below bW)
      have OX := hid (hx.below bW)
      have y0 : W.cell? ⟨wr.heap.size, 0, none⟩ = some (.int .i64 x.kind) := by rw [cell_of_row _ _ _ _ _ _ hBx]; rfl
      have y1 : W.cell? ⟨wr.heap.size, 1, none⟩ = some (.int .i64 x.n) := by rw [cell_of_row _ _ _ _ _ _ hBx]; rfl
      have y2 : W.cell? ⟨wr.heap.size, 2, none⟩ = some (.string x.name) := by rw [cell_of_row _ _ _ _ _ _ hBx]; rfl
      have y3 : W.cell? ⟨wr.heap.size, 3, none⟩ = some (.slice x.np x.nn x.nc) := by rw [cell_of_row _ _ _ _ _ _ hBx]; rfl
      have y4 : W.cell? ⟨wr.heap.size, 4, none⟩ = some (.slice x.cp x.cn x.cc) := by rw [cell_of_row _ _ _ _ _ _ hBx]; rfl
      have AM := hid (among_any x.kind 5 W (by decide) (by decide))
      have HW := hid hW
      have HBx := hid hBx
      have BC : Hid (∀ w' : World, w'.heap[wr.heap.size]? = some (.cells (cxA x) 35) → w'.cell? ⟨wr.heap.size, 2, none⟩ = some (.string x.name) ∧ w'.cell? ⟨wr.heap.size, 3, none⟩ = some (.slice x.np x.nn x.nc) ∧ w'.cell? ⟨wr.heap.size, 4, none⟩ = some (.slice x.cp x.cn x.cc)) := fun w' q => by
        refine ⟨?_, ?_, ?_⟩ <;> (rw [cell_of_row _ _ _ _ _ _ q]; rfl)
      clear hx bl HS hxe bW hBx hW
      go_upto_region 5 with fail
      rw [show (#[Value.int .i64 x.kind, .int .i64 x.n, .string x.name, .slice x.np x.nn x.nc, .slice x.cp x.cn x.cc] : Array Value) = cxA x from rfl, ← HW.out]
      clear x0 x1 x2 x3 x4 HW
      go_upto_region 8 with (go_at_call 11; refine AM.out.mono ?_; rintro e w2 ⟨⟨r, rfl, r0, r5⟩, hw2⟩; subst w2)
      have hr : r = 0 ∨ r = 1 ∨ r = 2 ∨ r = 3 ∨ r = 4 := by omega
      clear r0 r5 AM
      obtain ⟨B, hBe⟩ : ∃ B, B = wr.heap.size := ⟨_, rfl⟩
      rw [← hBe] at y0 y1 y2 y3 y4 HBx BC ⊢
      clear hBe
      rcases hr with rfl | rfl | rfl | rfl | rfl
      · go_upto_region 9 with fail
        go_region_held3 (fun w' => w'.cell? ⟨B, 2, none⟩ = some (.string x.name) ∧ w'.cell? ⟨B, 3, none⟩ = some (.slice x.np x.nn x.nc)) (go_keep) (first
          | (refine step_append_any KS KS_ok (by rfl) (.tmp 23) (.tmp 25) 26 (by rfl) W.heap.size Tryd.underlying26 _ _ _ [] x.names (by rfl) (OwnG.empty KS W.drew) (by rfl) (OX.out.ns.below (((Below.refl _ _).drew).alloc (Nat.le_refl _) _)) (by have := OX.out.nl; show (0 + _) * 16 ≤ _; omega) (by simp) ?_; intro v5 w5 ho5 hb5 hk5; obtain ⟨pv, cv, rfl, _⟩ := ho5.form; have CC := hid (mk_call PW.out OX.out w5 pv cv ho5 ((((Below.refl _ _).drew).alloc (Nat.le_refl _) _).trans hb5)); obtain ⟨e2, e3, _⟩ := BC.out w5 (((((Below.refl _ _).drew).alloc (Nat.le_refl _) _).trans hb5).block B (lt_of_heap HBx.out) |>.trans HBx.out); clear ho5 hb5 hk5)
          | (go_at_call 12; refine CC.out.mono ?_; rintro e w6 ⟨u6, rfl, hB6, hq⟩; obtain ⟨g2, g3, _⟩ := BC.out w6 (hB6 B _ HBx.out (kx_no _)); have HQ := hid hq; clear hq hB6))
        all_goals
          go_wp2_with fail
          go_roundw
          case rel => obtain ⟨U, _, hq⟩ := HQ.out; exact ⟨k + 1, b, U, _, rfl, by go_num, rfl, by omega, hq⟩
          case measure => simp [intOf]; omega
      · go_upto_region 11 with fail
        go_region_held3 (fun w' => w'.cell? ⟨B, 2, none⟩ = some (.string x.name) ∧ w'.cell? ⟨B, 4, none⟩ = some (.slice x.cp x.cn x.cc)) (go_keep) (first
          | (refine step_append_any KC KC_ok (by rfl) (.tmp 33) (.tmp 35) 30 (by rfl) W.heap.size Tryd.underlying30 _ _ _ [] x.cause (by rfl) (OwnG.empty KC W.drew) (by rfl) (cs_gs (OX.out.cs.below (((Below.refl _ _).drew).alloc (Nat.le_refl _) _))) (by have := OX.out.cl; show (0 + _) * 32 ≤ _; omega) (by simp) ?_; intro v5 w5 ho5 hb5 hk5; obtain ⟨pv, cv, rfl, _⟩ := ho5.form; have CC := hid (can_call PW.out OX.out w5 pv cv ho5 ((((Below.refl _ _).drew).alloc (Nat.le_refl _) _).trans hb5)); obtain ⟨e2, _, e4⟩ := BC.out w5 (((((Below.refl _ _).drew).alloc (Nat.le_refl _) _).trans hb5).block B (lt_of_heap HBx.out) |>.trans HBx.out); clear ho5 hb5 hk5)
          | (go_at_call 13; refine CC.out.mono ?_; rintro e w6 ⟨u6, rfl, hB6, hq⟩; obtain ⟨g2, _, g4⟩ := BC.out w6 (hB6 B _ HBx.out (kx_no _)); have HQ := hid hq; clear hq hB6))
        all_goals
          go_wp2_with fail
          go_roundw
          case rel => obtain ⟨U, _, hq⟩ := HQ.out; exact ⟨k + 1, b, U, _, rfl, by go_num, rfl, by omega, hq⟩
          case measure => simp [intOf]; omega
      · have UC := hid (unt_call PW.out OX.out)
        go_wp2_with (go_at_call 14; refine UC.out.mono ?_; rintro e w6 ⟨u6, rfl, hB6, hq⟩; have HQ := hid hq; clear hq hB6)
        go_roundw
        case rel => obtain ⟨U, _, hq⟩ := HQ.out; exact ⟨k + 1, b, U, _, rfl, by go_num, rfl, by omega, hq⟩
        case measure => simp [intOf]; omega
      · have UC := hid (adv_call PW.out x.n)
        go_wp2_with (go_at_call 15; refine UC.out.mono ?_; rintro e w6 ⟨u6, rfl, hB6, hq⟩; have HQ := hid hq; clear hq hB6)
        go_roundw
        case rel => obtain ⟨U, _, hq⟩ := HQ.out; exact ⟨k + 1, b, U, _, rfl, by go_num, rfl, by omega, hq⟩
        case measure => simp [intOf]; omega
      · have UC := hid (clo_call PW.out)
        go_wp2_with (go_at_call 20; refine UC.out.mono ?_; rintro e w6 ⟨b6, rfl, hq⟩; have HQ := hid hq; clear hq)
        go_roundw
        case rel => exact ⟨k + 1, b6, T, _, rfl, by go_num, rfl, by omega, HQ⟩
        case measure => simp [intOf]; omega
    · obtain rfl : k = l.length := by omega
      go_wp2_with fail
      go_ret
      exact ⟨b, T, rfl, HS.out⟩
end Go.Proofs.YtkebflllbphkkaaDoor
