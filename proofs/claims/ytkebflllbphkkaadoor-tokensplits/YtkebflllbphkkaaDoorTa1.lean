/- Tokens: expire. -/
import Derived.Test.YtkebflllbphkkaaDoorTq9
namespace Go.Proofs.YtkebflllbphkkaaDoor
open Go.RowKit

/-- The failures' variables lie below. -/
structure FB (w : World) (base : Nat) : Prop where
  fv : FV w
  k1 : 2 < base
  k2 : 1 < base
  k3 : 0 < base
theorem FB.below {w w' : World} {base : Nat} (h : FB w base) (k : Below base w w') : FB w' base := by
  refine ⟨⟨fun i hi => ?_, fun i hi => ?_, fun r hr j hj => ?_⟩, h.k1, h.k2, h.k3⟩
  · rw [k.cell (p := ⟨2, i, none⟩) h.k1]; exact h.fv.keys i hi
  · rw [k.cell (p := ⟨1, i, none⟩) h.k2]; exact h.fv.words i hi
  · rw [k.cell (p := ⟨0, r * 7 + j, none⟩) h.k3]; exact h.fv.rows r hr j hj
theorem But.to {F : Nat → Prop} {w w' : World} {base : Nat} (h : But F w w') (hF : ∀ x, F x → base ≤ x) (hb : base ≤ w.heap.size) : Below base w w' :=
  ⟨h.os, h.tape, h.output, h.size, fun x hx => h.block x (by omega) (fun q => by have := hF x q; omega)⟩
theorem dlC_ok : chk dlC = 0 := by decide
theorem tokL_ok {t : ByteArray} {l : List Cr} (h : tokE t l = 0) : tokL t l ≠ [] ∧ (tokL t l).length ≤ 1024 := by
  unfold tokL
  rw [if_pos h]
  unfold arL
  split
  · exact ⟨by simp, by simp⟩
  · refine ⟨by simp, ?_⟩
    rw [List.length_append]
    show _ + 1 ≤ 1024
    omega
theorem gaE_one (l : List Cr) : gaE [l] = if l.length = 0 then 0 else if chk l = 0 then 0 else chk l := by simp only [gaE]
theorem tokE_dl {t : ByteArray} (h : t.size ≤ 64) : tokE t dlC = 0 := by
  unfold tokE
  rw [if_neg (by omega), gaE_one, dlC_ok]; rfl
theorem expT_snoc : ∀ (l : List Nat) (T : Tr) (p : Nat), expT T (l ++ [p]) = cancelT (expT T l) p (tokL ((expT T l).n p).name dlC)
  | [], T, p => rfl
  | x :: r, T, p => by
    rw [List.cons_append, expT, expT, expT_snoc r]
theorem expT_all : ∀ (l : List Nat) (T : Tr), Inv T → (∀ p ∈ l, p < T.ns.length) → Cn T (expT T l) ∧ Inv (expT T l) ∧ ∀ a, a ∈ (expT T l).od ↔ a ∈ T.od ∨ ∃ q ∈ l, a = q ∨ (a < T.ns.length ∧ T.up a q = true)
  | [], T, h, _ => ⟨Cn.refl T, h, fun a => by simp [expT]⟩
  | x :: r, T, h, hl => by
    have hx := hl x (List.mem_cons_self ..)
    have ok := tokL_ok (tokE_dl (h.nk x hx))
    obtain ⟨c1, m1, i1, _⟩ := cancelT_all h hx (tokL (T.n x).name dlC)
    have iv := i1 ok.1 ok.2
    obtain ⟨c2, i2, m2⟩ := expT_all r (cancelT T x (tokL (T.n x).name dlC)) iv (fun p hp => by rw [c1.len]; exact hl p (List.mem_cons_of_mem _ hp))
    rw [expT]
    refine ⟨c1.trans c2, i2, fun a => ?_⟩
    rw [m2, m1]
    constructor
    · rintro ((q | q | q) | ⟨z, hz, q⟩)
      · exact Or.inl q
      · exact Or.inr ⟨x, List.mem_cons_self .., Or.inl q⟩
      · exact Or.inr ⟨x, List.mem_cons_self .., Or.inr q⟩
      · refine Or.inr ⟨z, List.mem_cons_of_mem _ hz, ?_⟩
        rw [c1.len, c1.up] at q
        exact q
    · rintro (q | ⟨z, hz, q⟩)
      · exact Or.inl (Or.inl q)
      · rcases List.mem_cons.1 hz with e | e
        · subst e
          exact Or.inl (Or.inr q)
        · refine Or.inr ⟨z, e, ?_⟩
          rw [c1.len, c1.up]
          exact q
/-- The rest of a slice of places. -/
def dropV (po : Option Addr) (n co m : Nat) : Value := .slice (if m = co then po else po.map (fun a => a.add m)) (n - m) (co - m)
theorem gs_drop {w : World} {po : Option Addr} {n co m : Nat} {l : List Nat} (h : OwnG KP w 0 (.slice po n co) l) (hm : m ≤ l.length) (p' : Option Addr) (hp : p' = po ∧ m = co ∨ ∃ g, po = some ⟨g, 0, none⟩ ∧ p' = some ⟨g, m, none⟩) (n' c' : Nat) (hn : n' = l.length - m) (hc : c' = co - m) : GS KP w (.slice p' n' c') (l.drop m) := by
  have hg := h.gs KP_ok.len
  have hcap := hg.cap
  by_cases he : l.length = m
  · left
    have e2 : l.drop m = [] := by rw [List.drop_eq_nil_iff]; omega
    refine ⟨?_, e2⟩
    have : n' = 0 := by omega
    subst this
    cases p' with
    | none =>
      rcases hp with ⟨q, hq⟩ | ⟨g, q, hq⟩
      · left
        rcases h.2 with ⟨e0, _⟩ | ⟨g, cap, cur, e0, _⟩
        · injection e0 with _ _ e0
          have : c' = 0 := by omega
          subst this; rfl
        · injection e0 with e0 _ _
          rw [e0] at q; cases q
      · cases hq
    | some a => exact Or.inr ⟨a, c', rfl⟩
  · rcases hp with ⟨q, hq⟩ | ⟨g, q, hq⟩
    · omega
    · subst q hq
      right
      refine ⟨g, m, c', by rw [List.length_drop, hn], ?_, by rw [List.length_drop]; omega, fun k hk j u hu => ?_⟩
      · exact (h.lt (g := g) rfl).2
      · have hk2 : m + k < l.length := by rw [List.length_drop] at hk; omega
        obtain ⟨X, o, e, _, hcl⟩ := hg.at hk2
        injection e with e
        injection e with e1 e2 _
        subst e1 e2
        have := hcl j u (by rw [List.getElem_drop] at hu; exact hu)
        rw [show KP.W = 1 from rfl, Nat.mul_one, Nat.zero_add] at this
        rw [show KP.W = 1 from rfl, Nat.mul_one]
        exact this
/-- What a call that changes the tree leaves: names of those that were cancelled. -/
def NmR (w w' : World) (e : Ending) (l : List ByteArray) : Prop := ∃ B, e = .returned (.slice (some ⟨B, 0, none⟩) l.length l.length) ∧ w.heap.size ≤ B ∧ OwnG KS w' w.heap.size (.slice (some ⟨B, 0, none⟩) l.length l.length) l
/-- The names of those that were cancelled behind the first m. -/
def nmL (T : Tr) (m : Nat) : List ByteArray := (T.od.drop m).map (fun p => (T.n p).name)
set_option maxHeartbeats 16000000 in
set_option maxRecDepth 100000 in
theorem expire_any (w : World) (base b cb mb : Nat) (nv ov : Value) (L : List NM) (T : Tr) (h : TX w b cb mb nv ov L T) (hi : Inv T) (hF : ∀ x, fp b cb mb nv ov x → base ≤ x) (hB : base ≤ w.heap.size) (hfb : FB w base) :
    Calls Tryd.prog 34 #[.pointer (some ⟨b, 0, none⟩)] w fun e w' => ∃ E, DU T E ∧ NmR w w' e (nmL (expT T E) T.od.length) ∧ Ts w b cb mb nv ov w' (expT T E) := by
  obtain ⟨c0, c1, c2, c3⟩ := h.cells
  obtain ⟨po, co, hov, hco⟩ := h.or.form
  subst hov
  have hol := h.ol
  have DU1 := hid (due_any w b cb mb nv _ L T h)
  have H := hid h
  have HI := hid hi
  have HF : Hid (∀ x, fp b cb mb nv (.slice po T.od.length co) x → base ≤ x) := hF
  have HFB := hid hfb
  clear h hi hF c0 c1 c2 hfb
  go_enter Tryd.func34, Tryd.ntmps34
  go_wp2_with (go_at_call 52; refine DU1.out.mono ?_; rintro e w1 ⟨v, E, rfl, q1, q2, q3⟩; obtain ⟨pe, ce, he, hce⟩ := q2.form; subst he; have Q1 := hid q1; have Q2 := hid q2; have Q3 := hid q3; clear q1 q2 q3)
  have LT : Hid (∀ p ∈ E, p < T.ns.length) := fun p hp => dueK_lt (Q1.out.pm.mem_iff.1 hp)
  have LN : Hid (E.length ≤ 256) := by show _ ≤ _; rw [Q1.out.pm.length_eq]; have := dueK_len T T.ns.length; have := H.out.nl; omega
  have RW : Hid (∀ wk, But (fp b cb mb nv (.slice po T.od.length co)) w1 wk → GS KP wk (.slice pe E.length ce) E) := fun wk k => (Q2.out.far (fun g hg => k.block g (Q2.out.lt hg).2 (fun q => by
    have := (Q2.out.lt hg).1
    have := H.out.okF.lt q
    omega))).gs KP_ok.len
  have S0 : Hid (Ts w1 b cb mb nv (.slice po T.od.length co) w1 (expT T (E.take 0))) := Ts.refl (H.out.below Q3.out)
  have FBK : Hid (∀ wk, But (fp b cb mb nv (.slice po T.od.length co)) w1 wk → FB wk base) := fun wk k => (HFB.out.below (Q3.out.mono hB)).below (k.to HF.out (by have := Q3.out.size; omega))
  have hln := LN.out
  go_loopw [16] (fun v16 wr => ∃ (k : Nat) (wk : World), v16 = .int .i64 k ∧ wk = wr ∧ k ≤ E.length ∧ Hid (Ts w1 b cb mb nv (.slice po T.od.length co) wk (expT T (E.take k)))) (fun v16 _ => E.length - (intOf v16).toNat)
  case atStart => exact ⟨0, _, rfl, rfl, Nat.zero_le _, S0⟩
  case round =>
    obtain ⟨k, wr, rfl, rfl, hk, HS⟩ := hrel
    clear S0 c3
    obtain ⟨nv1, ov1, L1, t1, k1, f1⟩ := HS.out
    obtain ⟨c0, c1, c2, c3⟩ := t1.cells
    have TL : Hid (∀ x ∈ E.take k, x < T.ns.length) := fun x hx => LT.out x (List.mem_of_mem_take hx)
    obtain ⟨x1, x2, x3⟩ := expT_all (E.take k) T HI.out TL.out
    by_cases hlt : k < E.length
    · obtain ⟨X, o, hpe, hX, hc⟩ := (RW.out wr k1).at hlt
      subst hpe
      have e0 := hc 0 _ rfl
      rw [show KP.W = 1 from rfl, Nat.mul_one, Nat.add_zero] at e0
      have hp := LT.out _ (List.getElem_mem hlt)
      have SN : Hid (expT T (E.take (k + 1)) = cancelT (expT T (E.take k)) E[k] (tokL ((expT T (E.take k)).n E[k]).name dlC)) := by
        show _ = _
        rw [List.take_add_one, List.getElem?_eq_getElem hlt, Option.toList_some, expT_snoc]
      obtain ⟨p, hpe⟩ : ∃ p, p = E[k] := ⟨_, rfl⟩
      rw [← hpe] at e0 hp SN
      have hp1 : p < (expT T (E.take k)).ns.length := by rw [x1.len]; exact hp
      obtain ⟨Y, cap, hnv, hcap, hY, fz, n0, n1, n5, n6, n7, wp, wc, n8, ow⟩ := t1.nd hp1
      rw [hnv] at c1
      have hnl := t1.nl
      have hsz : ((expT T (E.take k)).n p).name.size ≤ 64 := x2.nk p hp1
      have TK : Hid (Calls Tryd.prog 32 #[.string ((expT T (E.take k)).n p).name, .slice (some ⟨wr.heap.size, 0, none⟩) 1 1] (wr.alloc (.cells #[.int .i64 1, .int .i64 0, .string ⟨#[100, 101, 97, 100, 108, 105, 110, 101]⟩] 56)) fun e w' => Ans (wr.alloc (.cells #[.int .i64 1, .int .i64 0, .string ⟨#[100, 101, 97, 100, 108, 105, 110, 101]⟩] 56)) w' e (tokL ((expT T (E.take k)).n p).name dlC) (tokE ((expT T (E.take k)).n p).name dlC)) :=
        token_any _ _ dlC _ (by unfold maxLen; omega) (ownC_one wr 1 0 _).cs (fun c hc => by
          have : c = ⟨1, 0, ⟨#[100, 101, 97, 100, 108, 105, 110, 101]⟩⟩ := by simpa [dlC] using hc
          subst this; show (8 : Nat) ≤ maxLen; unfold maxLen; omega) (by show (1 : Nat) ≤ _; omega) ((FBK.out wr k1).fv.below ((Below.refl _ _).alloc (Nat.le_refl _) _))
      have CAN : Hid (∀ w3 p3 cap3, OwnC w3 (wr.alloc (.cells #[.int .i64 1, .int .i64 0, .string ⟨#[100, 101, 97, 100, 108, 105, 110, 101]⟩] 56)).heap.size (.slice p3 (tokL ((expT T (E.take k)).n p).name dlC).length cap3) (tokL ((expT T (E.take k)).n p).name dlC) → Below (wr.alloc (.cells #[.int .i64 1, .int .i64 0, .string ⟨#[100, 101, 97, 100, 108, 105, 110, 101]⟩] 56)).heap.size (wr.alloc (.cells #[.int .i64 1, .int .i64 0, .string ⟨#[100, 101, 97, 100, 108, 105, 110, 101]⟩] 56)) w3 → Calls Tryd.prog 33 #[.pointer (some ⟨b, 0, none⟩), .int .i64 p, .slice p3 (tokL ((expT T (E.take k)).n p).name dlC).length cap3] w3 fun e w' => e = .returned (.tuple #[]) ∧ Ts w1 b cb mb nv (.slice po T.od.length co) w' (expT T (E.take (k + 1)))) := fun w3 p3 cap3 ho hb => by
        have bw : Below wr.heap.size wr w3 := ((Below.refl _ _).alloc (Nat.le_refl _) _).trans (hb.mono (by simp))
        refine (cancel_any w3 b cb mb nv1 ov1 L1 _ (t1.below bw) p hp1 x2.j p3 cap3 _ (ho.low (Nat.zero_le _))).mono ?_
        rintro e w' ⟨rfl, hq⟩
        refine ⟨rfl, ?_⟩
        rw [SN.out]
        exact Ts.trans (k1.trans (But.of_below (F := fun _ => False) bw) (fun _ q => q.elim)) f1 hq
      clear t1 k1 f1 HS x1 x2 x3 n1 n5 n6 n7 n8 ow fz hnv c0 c2 c3 hpe hc SN TL hp
      generalize ((expT T (E.take k)).n p).name = nm at *
      generalize (expT T (E.take k)).ns.length = NN at *
      generalize tokE nm dlC = ee at *
      generalize tokL nm dlC = ll at *
      go_wp2_with (first | (go_at_call 32; refine TK.out.mono ?_; rintro e w3 ⟨p3, cap3, rfl, ho3, hb3⟩; have CC := hid (CAN.out w3 p3 cap3 ho3 hb3); clear ho3 hb3) | (go_at_call 33; refine CC.out.mono ?_; rintro e w4 ⟨rfl, hq⟩; have HQ := hid hq; clear hq))
      go_roundw
      case rel => exact ⟨k + 1, _, by go_num, rfl, by omega, HQ⟩
      case measure => simp [intOf]; omega
    · have e1 : E.take k = E := List.take_of_length_le (by omega)
      rw [e1] at HS t1 x1 x2 x3
      obtain ⟨po1, co1, hov1, hco1⟩ := t1.or.form
      subst hov1
      have hol1 := t1.ol
      have hpre : T.od.length ≤ (expT T E).od.length := x1.od.length_le
      have NO : Hid (∀ p' n' c', (p' = po1 ∧ T.od.length = co1 ∨ ∃ g, po1 = some ⟨g, 0, none⟩ ∧ p' = some ⟨g, T.od.length, none⟩) → n' = (expT T E).od.length - T.od.length → c' = co1 - T.od.length → Calls Tryd.prog 24 #[.pointer (some ⟨b, 0, none⟩), .slice p' n' c'] wr fun e w' => NmR w w' e (nmL (expT T E) T.od.length) ∧ Ts w b cb mb nv (.slice po T.od.length co) w' (expT T E)) := fun p' n' c' hp hn hc => by
        have gs := gs_drop t1.or hpre p' hp n' c' hn hc
        refine (namesOf_any wr b cb mb nv1 _ L1 _ t1 _ _ gs (fun p hp => x2.lt p (List.mem_of_mem_drop hp)) (by rw [List.length_drop]; omega)).mono ?_
        rintro e w' ⟨rfl, ho, hb⟩
        have z1 := Q3.out.size
        have z2 := k1.size
        have hl : (nmL (expT T E) T.od.length).length = ((expT T E).od.drop T.od.length).length := by simp [nmL]
        refine ⟨⟨wr.heap.size, by rw [hl], by omega, by rw [hl]; exact ho.low (by omega)⟩, ?_⟩
        have kk : But (fp b cb mb nv (.slice po T.od.length co)) w wr := (But.of_below Q3.out).trans k1 (fun x q => Or.inl q)
        refine ⟨nv1, _, L1, t1.below hb, kk.trans (But.of_below (F := fun _ => False) hb) (fun _ q => q.elim), ?_⟩
        intro x hx
        rcases f1 x hx with q | q
        · exact Or.inl q
        · exact Or.inr (by omega)
      have Q9 := hid Q1.out
      have PL : Hid (po1 = none ∧ (expT T E).od.length = 0 ∧ co1 = 0 ∨ ∃ g, po1 = some ⟨g, 0, none⟩) := by
        rcases t1.or.2 with ⟨e0, e9⟩ | ⟨g, cap, cur, e0, _⟩
        · injection e0 with e0 _ e8; exact Or.inl ⟨e0, e9, e8⟩
        · injection e0 with e0 _ _; exact Or.inr ⟨g, e0⟩
      clear t1 k1 f1 HS x1 x2 x3 c0 c1 c2 TL
      generalize (expT T E).od.length = n1 at *
      rcases PL.out with ⟨r1, r2, r3⟩ | ⟨g, r1⟩
      · subst r1 r2 r3
        have hz : T.od.length = 0 := by omega
        have NO2 := hid (NO.out none 0 0 (Or.inl ⟨rfl, hz⟩) (by omega) (by omega))
        clear NO
        rw [hz] at NO2
        go_wp2_with (go_at_call 24; refine NO2.out.mono ?_; rintro e w5 ⟨⟨B, rfl, hb1, hb2⟩, hq⟩; have HQ := hid hq; have HB1 := hid hb1; have HB2 := hid hb2; clear hq hb1 hb2)
        go_ret
        rw [hz]
        exact ⟨E, Q9.out, ⟨B, rfl, HB1.out, HB2.out⟩, HQ.out⟩
      · subst r1
        go_wp2_with (go_at_call 24; refine (NO.out _ _ _ (by first | exact Or.inr ⟨g, rfl, rfl⟩ | exact Or.inl ⟨rfl, by omega⟩ | (split <;> first | exact Or.inr ⟨g, rfl, rfl⟩ | exact Or.inl ⟨rfl, by omega⟩)) rfl rfl).mono ?_; rintro e w5 ⟨⟨B, rfl, hb1, hb2⟩, hq⟩; have HQ := hid hq; have HB1 := hid hb1; have HB2 := hid hb2; clear hq hb1 hb2)
        all_goals
          go_ret
          exact ⟨E, Q9.out, ⟨B, rfl, HB1.out, HB2.out⟩, HQ.out⟩
end Go.Proofs.YtkebflllbphkkaaDoor
