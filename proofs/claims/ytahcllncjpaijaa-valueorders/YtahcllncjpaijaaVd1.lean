/- Values, the reference: members; Members, both. -/
import Derived.Test.YtahcllncjpaijaaVc9
namespace Go.Proofs.Ytahcllncjpaijaa
open Go.RowKit

/-- Where the reference's members stands: those from j on are copied. -/
structure MJ (w wk : World) (g gf N m : Nat) (F : List Int) (ps : List Vt) (j : Nat) (R : List Vx) : Prop where
  own : OwnG KV wk w.heap.size (.slice (some ⟨g, 0, none⟩) N N) (List.replicate j zVx ++ R)
  each : ∀ x ∈ R, OwnG KA wk w.heap.size x.v x.a
  eq : aL R = (ps.drop j).map flV
  fr : ∃ q c, OwnG KI wk w.heap.size (.slice q F.length c) F ∧ gf = gf ∧ (0 < F.length → q = some ⟨gf, 0, none⟩)
  bl : Below w.heap.size w wk
theorem rep_cons (j : Nat) (x : Vx) (R : List Vx) : (List.replicate (j + 1) zVx ++ R).set j x = List.replicate j zVx ++ x :: R := by
  rw [List.replicate_succ', List.append_assoc, List.set_append_right _ _ (by simp)]
  simp
theorem set_apart {α : Type} {K : RK α} (hne : K.ty ≠ KV.ty) {w : World} {b b' g n c k : Nat} {u v : Value} {l : List α} {R : List Vx} (h : OwnG K w b v l) (h' : OwnG KV w b' (.slice (some ⟨g, 0, none⟩) n c) R) : OwnG K (w.setCell ⟨g, k, none⟩ u) b v l :=
  h.far fun x hx => Below.heap_setCell _ _ _ _ (fun e => own_apart hne h h' hx (by have e : x = g := e; rw [e]; rfl))
theorem MJ.next {w wr w1 : World} {g gf N m j : Nat} {F : List Int} {ps : List Vt} {R : List Vx} {x : Vx} (h : MJ w wr g gf N m F ps (j + 1) R) (hj : j < ps.length) (b1 : Below wr.heap.size wr w1) (o1 : OwnG KA w1 wr.heap.size x.v x.a) (hx : x.a = flV ps[j]) :
    MJ w (w1.setCell ⟨g, j, none⟩ (.slice x.q x.a.length x.c)) g gf N m F ps j (x :: R) := by
  have own1 := h.own.below b1
  have hg := (own1.lt (g := g) rfl).1
  obtain ⟨q, c, hf, _, hq⟩ := h.fr
  refine ⟨?_, fun y hy => ?_, ?_, ⟨q, c, set_apart (by decide) (hf.below b1) own1, rfl, hq⟩, (h.bl.trans (b1.mono h.bl.size)).setCell hg _⟩
  · have := own1.set1 rfl KV_ok.len (k := j) x (.slice x.q x.a.length x.c) rfl
    rw [rep_cons] at this; exact this
  · rcases List.mem_cons.1 hy with e | e
    · subst e; exact set_apart (by decide) (o1.low h.bl.size) own1
    · exact set_apart (by decide) ((h.each y e).below b1) own1
  · have := h.eq
    rw [List.drop_eq_getElem_cons hj]
    unfold aL at this ⊢
    rw [List.map_cons, List.map_cons, hx, this]
set_option maxHeartbeats 8000000 in
theorem rmembers_any (v : Value) (t : Vt) (w : World) (h : AS w v (flV t)) (hr : RT t) (ht : AT (flV t)) :
    Calls Try.prog 35 #[v] w fun e w' => ∃ g M, e = .returned (.slice (some ⟨g, 0, none⟩) t.ps.length t.ps.length) ∧ OwnG KV w' w.heap.size (.slice (some ⟨g, 0, none⟩) t.ps.length t.ps.length) M ∧ aL M = t.ps.map flV ∧ (∀ x ∈ M, OwnG KA w' w.heap.size x.v x.a) ∧ Below w.heap.size w w' := by
  have hsz := hr.sz
  have hps := szV_ps t
  have hml := memT_len (t := t)
  have hfl : (flV t).length = szV t := rfl
  have hd : depV (flV t) ≠ 0 := by rw [depV_flat hr.wf]; have := dpV_pos t; omega
  have BG : Hid (Calls Try.prog 30 #[v] w fun e w' => Below w.heap.size w w' ∧ ∃ (F : List Int) (gf c : Nat) (d : Int), e = .returned (.tuple #[.slice (some ⟨gf, 0, none⟩) (szV t) c, .int .i64 d, .bool true]) ∧ OwnG KI w' w.heap.size (.slice (some ⟨gf, 0, none⟩) (szV t) c) F ∧ FrL F 0 t.ps ∧ F.length = szV t) := by
    refine (rbegins_any v (flV t) w h ht (by omega)).mono ?_
    rintro e w' ⟨hb, ⟨h0, _⟩ | ⟨t', F, q, c, h1, h2, h3, h4, h5⟩⟩
    · exact absurd h0 hd
    · rw [bV_flat hr.wf] at h1
      injection h1 with h1
      injection h1 with h1
      subst h1
      have h5' : F.length = szV t := h5
      obtain ⟨gf, cp, e1, _⟩ := h3.place (by
        rcases h3.2 with ⟨_, e3⟩ | ⟨g, cap, cur, e3, _⟩
        · have := szV_pos t; omega
        · rw [e3]; simp [Value.ownBlock])
      injection e1 with e1 e2 e3
      subst e1
      rw [FrL] at h4
      rw [h5'] at h2 h3
      refine ⟨hb, F, gf, c, _, h2, h3, ?_, h5'⟩
      have h6 := h4.1
      cases t with
      | nd k i tx ps => rw [FrT] at h6; exact h6.2
  have WH : Hid (∀ w1, Below w.heap.size w w1 → _) := fun w1 b => rwhole_any v t w1 (h.below b) (by omega)
  obtain ⟨p, cap, rfl⟩ := h.form
  obtain ⟨X, o, e1⟩ : ∃ X o, p = some ⟨X, o, none⟩ := by obtain ⟨X, o, e1, _⟩ := h.atA (k := 0) (by omega); exact ⟨X, o, e1⟩
  subst e1
  have hcap : szV t ≤ cap := by have := h.cap; omega
  rw [hfl] at BG WH ⊢
  obtain ⟨ps, hpe⟩ : ∃ ps, ps = t.ps := ⟨_, rfl⟩
  have CP : Hid (∀ w1 j c' (hj : j < ps.length), Below w.heap.size w w1 → szV ps[j] ≤ c' → Calls Try.prog 20 #[.slice (some ⟨X, o + szVL (ps.take j) * 4, none⟩) (szV ps[j]) c'] w1 fun e w' => ∃ q c, e = .returned (.slice q (flV ps[j]).length c) ∧ OwnG KA w' w1.heap.size (.slice q (flV ps[j]).length c) (flV ps[j]) ∧ Below w1.heap.size w1 w') := fun w1 j c' hj b hc' => by
    subst hpe
    have h1 := flVL_cut t.ps hj [⟨t.k, (t.ps.length : Nat), t.i, t.tx⟩]
    rw [← flV_last t] at h1
    have h2 := szVL_take_succ t.ps hj
    have h3 := szVL_take_le t.ps (j + 1)
    have := GS.sub (h.below b) (j := szVL (t.ps.take j)) (m := szV t.ps[j]) (c' := c') (by omega) (szV_pos _) hc'
    rw [h1] at this
    have h6 := (hr.parts _ (List.getElem_mem hj)).sz
    exact copyV_any _ (flV t.ps[j]) w1 this (by show szV t.ps[j] * 40 ≤ _; omega)
  rw [← hpe] at hps hml BG WH ⊢
  generalize t.k = k0 at *
  generalize t.i = i0 at *
  generalize t.tx = tx0 at *
  clear hpe hfl h hr ht hd
  generalize szV t = sz at *
  have SS : Hid (∀ j (hj : j < ps.length), szVL (ps.take (j + 1)) = szVL (ps.take j) + szV ps[j]) := fun j hj => szVL_take_succ ps hj
  have SL : Hid (∀ j, szVL (ps.take j) ≤ szVL ps) := fun j => szVL_take_le ps j
  have SA : Hid (szVL (ps.take ps.length) = szVL ps) := by rw [List.take_length]; rfl
  have SP : Hid (∀ j (hj : j < ps.length), 0 < szV ps[j]) := fun j hj => szV_pos _
  obtain ⟨N, hN⟩ : ∃ N, N = ps.length := ⟨_, rfl⟩
  obtain ⟨m, hm⟩ : ∃ m, m = szVL ps := ⟨_, rfl⟩
  rw [← hm] at hps hml
  rw [← hN] at WH hml ⊢
  have HN : Hid (N = ps.length) := hN
  have HM : Hid (m = szVL ps) := hm
  subst hps
  have hmb : m ≤ 1023 := by omega
  have hNb : N ≤ 1023 := by omega
  clear hN hm hsz
  go_enter Try.func35, Try.ntmps35
  go_wp2_with fail
  refine Calls.mono BG.out ?_
  rintro e w1 ⟨hb1, F, gf, cf, d, rfl, hof, hfr, hfn⟩
  have OF : Hid (OwnG KI w1 w.heap.size (.slice (some ⟨gf, 0, none⟩) (m + 1) cf) F) := hof
  have FR : Hid (FrL F 0 ps) := hfr
  have FLN : Hid (F.length = m + 1) := hfn
  have B1 : Hid (Below w.heap.size w w1) := hb1
  have W1 : Hid _ := WH.out w1 hb1
  clear hof hb1 BG WH hfr hfn
  go_wp2_with fail
  refine Calls.mono W1.out ?_
  rintro e w2 ⟨rfl, hb2⟩
  have OF2 : Hid (OwnG KI w2 w.heap.size (.slice (some ⟨gf, 0, none⟩) (m + 1) cf) F) := OF.out.below hb2
  have B2 : Hid (Below w.heap.size w w2) := B1.out.trans (hb2.mono B1.out.size)
  clear hb2 W1 OF B1
  have hfd := fld1 k0 N i0 tx0
  go_wp2_with (at_make; refine make_g KV KV_ok zVx rfl rfl _ rfl _ _ 22 rfl Try.underlying22 N rfl rfl (by omega) (by decide) ?_; intro w5 ho5 hb5)
  clear hfd
  have H5 : Hid (MJ w w5 w2.heap.size gf N m F ps N []) := ⟨by rw [List.append_nil]; exact ho5.low B2.out.size, (fun x hx => by cases hx), (by rw [HN.out, List.drop_length]; rfl), ⟨some ⟨gf, 0, none⟩, cf, by rw [FLN.out]; exact OF2.out.below hb5, rfl, fun _ => rfl⟩, B2.out.trans (hb5.mono B2.out.size)⟩
  generalize w2.heap.size = g at *
  clear ho5 hb5 OF2 B2
  have FR5 : Hid (∀ j (hj : j < N), ∃ b : Nat, F.getD (szVL (ps.take (j + 1)) - 1) 0 = (b : Int) ∧ b = szVL (ps.take j) ∧ szVL (ps.take (j + 1)) ≤ m) := fun j hj => by
    have hj' : j < ps.length := by have := HN.out; omega
    obtain ⟨h1, h2⟩ := FR.out.at hj'
    rw [Nat.zero_add, Nat.zero_add] at h1
    refine ⟨szVL (ps.take j), by rw [List.getD, h1]; rfl, rfl, by rw [HM.out]; exact SL.out _⟩
  go_wp2_with fail
  go_loopw [8, 9] (fun v8 v9 wr => ∃ (j en : Nat) (R : List Vx) (wk : World), v9 = .int .i64 ((j : Int) - 1) ∧ v8 = .int .i64 ((en : Int) - 1) ∧ wk = wr ∧ j ≤ N ∧ Hid (en = szVL (ps.take j)) ∧ Hid (MJ w wk g gf N m F ps j R)) (fun _ v9 _ => (intOf v9 + 1).toNat)
  case atStart => exact ⟨N, m, [], _, by go_num, by go_num, rfl, Nat.le_refl _, (by show _ = _; rw [HN.out, SA.out, HM.out]), H5⟩
  case round =>
    obtain ⟨j, en, R, wr, rfl, rfl, rfl, hj, HE, HI⟩ := hrel
    clear H5
    by_cases hj0 : j = 0
    · subst hj0
      have OM : Hid (∃ g M, Ending.returned (.slice (some ⟨g, 0, none⟩) N N) = Ending.returned (.slice (some ⟨g, 0, none⟩) N N) ∧ g = g) := ⟨g, 0, rfl, rfl⟩
      have FIN : Hid (OwnG KV wr w.heap.size (.slice (some ⟨g, 0, none⟩) N N) R ∧ aL R = ps.map flV ∧ (∀ x ∈ R, OwnG KA wr w.heap.size x.v x.a) ∧ Below w.heap.size w wr) := by
        have h1 := HI.out.own
        have h2 := HI.out.eq
        rw [List.replicate_zero, List.nil_append] at h1
        rw [List.drop_zero] at h2
        exact ⟨h1, h2, HI.out.each, HI.out.bl⟩
      clear HI FR5 OM
      go_wp2_with fail
      go_ret
      exact ⟨g, R, rfl, FIN.out⟩
    · obtain ⟨i, rfl⟩ : ∃ i, j = i + 1 := ⟨j - 1, by omega⟩
      obtain ⟨b, hb1, hb2, hb3⟩ := FR5.out i (by omega)
      rw [← HE.out] at hb1 hb3
      have hi' : i < ps.length := by have := HN.out; omega
      have hss := SS.out i hi'
      have hsp := SP.out i hi'
      rw [← HE.out, ← hb2] at hss
      have cb : wr.cell? ⟨gf, en - 1, none⟩ = some (.int .i64 (b : Int)) := by
        obtain ⟨q, c, h1, _, h2⟩ := HI.out.fr
        rw [h2 (by rw [FLN.out]; omega)] at h1
        have h3 := own_int h1 rfl (j := en - 1) (by rw [FLN.out]; omega)
        rw [hb1] at h3; exact h3
      have hji : ((i + 1 : Nat) : Int) - 1 = (i : Int) := by omega
      have heI : (en : Int) - 1 = ((en - 1 : Nat) : Int) := by omega
      have heI2 : ((en - 1 : Nat) : Int) + 1 = (en : Int) := by omega
      have NX : Hid (∀ w1 (x : Vx), Below wr.heap.size wr w1 → OwnG KA w1 wr.heap.size x.v x.a → x.a = flV ps[i] → MJ w (w1.setCell ⟨g, i, none⟩ (.slice x.q x.a.length x.c)) g gf N m F ps i (x :: R)) := fun w1 x b1 o1 hx => HI.out.next hi' b1 o1 hx
      have CU : Hid (∀ w1, Below wr.heap.size wr w1 → (∃ u, w1.cell? ⟨g, i, none⟩ = some u) ∧ w1.frozen? ⟨g, i, none⟩ = false ∧ w1.cell? ⟨gf, en - 1, none⟩ = some (.int .i64 (b : Int))) := fun w1 b1 => by
        have h1 := HI.out.own.below b1
        refine ⟨own_cellV h1 ?_ (j := i) (by simp; omega), own_frozen h1 i, (b1.cell (p := ⟨gf, en - 1, none⟩) (block_lt_of_cell cb)).trans cb⟩
        have h2 := congrArg List.length HI.out.eq
        rw [aL_len, List.length_map, List.length_drop] at h2
        have := HN.out
        simp; omega
      have C1 : Hid _ := CP.out wr i (cap - b) hi' HI.out.bl (by omega)
      have HB2 : Hid (b = szVL (ps.take i)) := hb2
      rw [← hb2] at C1
      have hfle : (flV ps[i]).length = szV ps[i] := rfl
      rw [hfle] at C1
      obtain ⟨y, hy⟩ : ∃ y, y = flV ps[i] := ⟨_, rfl⟩
      obtain ⟨d, hd⟩ : ∃ d, d = szV ps[i] := ⟨_, rfl⟩
      rw [← hy] at C1 NX
      rw [← hd] at C1 hss hsp
      have HYL : Hid (y.length = d) := by rw [hy, hd]; rfl
      have hen : b + d = en := by omega
      have hcb : b + d ≤ cap := by omega
      clear hb1 hb2 HI FR5 HE CP SS SP SL SA hy hd hfle hss
      subst hen
      go_wp2_with fail
      refine Calls.mono C1.out ?_
      rintro e w1 ⟨q1, c1, rfl, ho1, hb1⟩
      obtain ⟨⟨u, cu⟩, fu, cb1⟩ := CU.out w1 hb1
      have NX1 : Hid (MJ w (w1.setCell ⟨g, i, none⟩ (.slice q1 d c1)) g gf N m F ps i (⟨y, q1, c1⟩ :: R)) := by
        have := NX.out w1 ⟨y, q1, c1⟩ hb1 (by unfold Vx.v; simp only; rw [HYL.out]; exact ho1) rfl
        simp only at this
        rw [HYL.out] at this; exact this
      have CB : Hid (∀ v, (w1.setCell ⟨g, i, none⟩ v).cell? ⟨gf, b + d - 1, none⟩ = some (.int .i64 (b : Int))) := fun v => by
        obtain ⟨q, c, h1, _, h2⟩ := NX1.out.fr
        refine (World.cell?_setCell_other _ _ _ _ ?_).trans cb1
        intro e
        injection e with e1 _ _
        rw [h2 (by rw [FLN.out]; omega)] at h1
        exact own_apart (by decide) h1 NX1.out.own (g := gf) rfl (by rw [e1]; rfl)
      have cb2 := CB.out (.slice q1 d c1)
      clear ho1 hb1 C1 CU NX CB cb
      go_wp2_with fail
      all_goals
        go_roundw
        case rel => exact ⟨i, b, _, _, by go_num, by go_num, rfl, by omega, HB2, NX1⟩
        case measure => first | (simp [intOf]; done) | (simp [intOf]; omega)
end Go.Proofs.Ytahcllncjpaijaa
