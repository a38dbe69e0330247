/- Values: members. -/
import Derived.Test.YtahcllncjpaijabDoorVc8
namespace Go.Proofs.YtahcllncjpaijabDoor
open Go.RowKit

/-- A part of a row. -/
theorem GS.sub {α : Type} {K : RK α} {w : World} {X o n c : Nat} {l : List α} (h : GS K w (.slice (some ⟨X, o, none⟩) n c) l) {j m c' : Nat} (hj : j + m ≤ l.length) (hm : 0 < m) (hc' : m ≤ c') : GS K w (.slice (some ⟨X, o + j * K.W, none⟩) m c') ((l.drop j).take m) := by
  have hl : ((l.drop j).take m).length = m := by rw [List.length_take, List.length_drop]; omega
  obtain ⟨X', o', e, hX, hc⟩ : ∃ X' o', (some (⟨X, o, none⟩ : Addr)) = some ⟨X', o', none⟩ ∧ X' < w.heap.size ∧ ∀ k (hk : k < l.length) i u, (K.f l[k])[i]? = some u → w.cell? ⟨X', o' + k * K.W + i, none⟩ = some u := by
    rcases h with ⟨_, rfl⟩ | ⟨X', o', cap', e, hX, _, hc⟩
    · simp at hj; omega
    · injection e with e1 _ _
      exact ⟨X', o', e1, hX, hc⟩
  injection e with e
  injection e with e1 e2 _
  subst e1 e2
  refine Or.inr ⟨X, o + j * K.W, c', by rw [hl], hX, by rw [hl]; exact hc', fun k hk i u hu => ?_⟩
  have hk' : j + k < l.length := by omega
  have eg : ((l.drop j).take m)[k] = l[j + k] := by simp
  rw [eg] at hu
  have := hc (j + k) hk' i u hu
  rw [Nat.add_mul] at this
  rw [← this]
  congr 2
  omega
/-- The members of a value that lies there. -/
def mbR (X : Nat) : Nat → List Vt → List Vx
  | _, [] => []
  | o, p :: r => ⟨flV p, some ⟨X, o, none⟩, szV p⟩ :: mbR X (o + szV p * 4) r
theorem mbR_len (X : Nat) : ∀ (o : Nat) (l : List Vt), (mbR X o l).length = l.length
  | _, [] => rfl
  | o, p :: r => by rw [mbR, List.length_cons, mbR_len, List.length_cons]
theorem mbR_get (X : Nat) : ∀ (o : Nat) (l : List Vt) (i : Nat) (h : i < l.length), (mbR X o l)[i]'(by rw [mbR_len]; exact h) = ⟨flV l[i], some ⟨X, o + szVL (l.take i) * 4, none⟩, szV l[i]⟩
  | o, p :: r, 0, _ => by simp [mbR, szVL, flVL]
  | o, p :: r, i + 1, h => by
    simp only [mbR, List.getElem_cons_succ, List.take_succ_cons]
    rw [mbR_get X (o + szV p * 4) r i (by simpa using h), szVL_cons, Nat.add_mul, Nat.add_assoc]
theorem mbR_aL (X o : Nat) (l : List Vt) : aL (mbR X o l) = l.map flV := by
  induction l generalizing o with
  | nil => rfl
  | cons p r ih =>
    have := ih (o + szV p * 4)
    unfold aL at this ⊢
    rw [mbR, List.map_cons, List.map_cons, this]
/-- They read as the parts. -/
theorem mbR_vr {w : World} {X o n c : Nat} {t : Vt} (h : AS w (.slice (some ⟨X, o, none⟩) n c) (flV t)) : ∀ x ∈ mbR X o t.ps, AS w x.v x.a := by
  intro x hx
  obtain ⟨i, hi, rfl⟩ := List.mem_iff_getElem.1 hx
  have hi' : i < t.ps.length := by rw [mbR_len] at hi; exact hi
  rw [mbR_get X o t.ps i hi']
  have h1 := flVL_cut t.ps hi' [⟨t.k, (t.ps.length : Nat), t.i, t.tx⟩]
  rw [← flV_last t] at h1
  have h2 := szVL_take_succ t.ps hi'
  have h3 := szVL_take_le t.ps (i + 1)
  have h4 : (flV t).length = szV t := rfl
  have h5 := szV_ps t
  have := GS.sub h (j := szVL (t.ps.take i)) (m := szV t.ps[i]) (c' := szV t.ps[i]) (by omega) (szV_pos _) (Nat.le_refl _)
  rw [h1] at this
  exact this
theorem mbR_vt {X o : Nat} {t : Vt} (h : RT t) (hx : ∀ a ∈ flV t, a.text.size ≤ maxLen) : VT (mbR X o t.ps) := by
  have h1 := h.sz
  have h2 := szV_ps t
  have h3 := memT_len (t := t)
  refine ⟨by rw [mbR_len]; omega, fun x hx' => ?_, fun x hx' c hc => ?_⟩
  · obtain ⟨i, hi, rfl⟩ := List.mem_iff_getElem.1 hx'
    have hi' : i < t.ps.length := by rw [mbR_len] at hi; exact hi
    rw [mbR_get X o t.ps i hi']
    have := (h.parts _ (List.getElem_mem hi')).sz
    unfold szV at this
    show (flV t.ps[i]).length * 40 ≤ _
    omega
  · obtain ⟨i, hi, rfl⟩ := List.mem_iff_getElem.1 hx'
    have hi' : i < t.ps.length := by rw [mbR_len] at hi; exact hi
    rw [mbR_get X o t.ps i hi'] at hc
    have hc : c ∈ flV t.ps[i] := hc
    refine hx c ?_
    rw [flV_last t]
    refine List.mem_append_left _ ?_
    rw [flVL_map]
    exact List.mem_flatMap.2 ⟨_, List.getElem_mem hi', hc⟩
/-- .. and may be written over, if the value may. -/
theorem mbR_spv {w : World} {base X n c : Nat} {t : Vt} (h : OwnG KA w base (.slice (some ⟨X, 0, none⟩) n c) (flV t)) : ∀ x ∈ mbR X 0 t.ps, SPV w base x.v := by
  intro x hx
  obtain ⟨i, hi, rfl⟩ := List.mem_iff_getElem.1 hx
  have hi' : i < t.ps.length := by rw [mbR_len] at hi; exact hi
  rw [mbR_get X 0 t.ps i hi']
  have h2 := szVL_take_succ t.ps hi'
  have h3 := szVL_take_le t.ps (i + 1)
  have h5 := szV_ps t
  have h4 : (flV t).length = szV t := rfl
  rcases h.2 with ⟨e, _⟩ | ⟨g, cap, cur, e, hb, hg, hcp, hmx, hcs, _⟩
  · cases e
  · injection e with e1 e2 e3
    injection e1 with e1
    injection e1 with e1 _ _
    subst e1
    have e4 : cap * KA.W = cap * 4 := rfl
    unfold maxLen at hmx
    exact Or.inr ⟨X, 0 + szVL (t.ps.take i) * 4, (flV t.ps[i]).length, szV t.ps[i], cur.size, rfl, hb, ⟨cur, hg, rfl⟩, by omega, by omega, Nat.le_refl _⟩
def zVx : Vx := ⟨[], none, 0⟩
set_option maxHeartbeats 4000000 in
theorem cloneA_any (w : World) (v : Value) (l : List Atm) (h : AS w v l) (_hl : l.length ≤ 1000000) :
    Calls Tryd.prog 20 #[v] w fun e w' => ∃ p cap, e = .returned (.slice p l.length cap) ∧ OwnG KA w' w.heap.size (.slice p l.length cap) l ∧ Below w.heap.size w w' := by
  have hl := _hl
  have h0 := h
  have EQ : ∀ a l c w, Sem.run Tryd.prog (binOp .eql 23 (.slice a l c) (.slice none 0 0)) w = .ok (.bool a.isNone) w := fun a l c w => by
    simp only [binOp]
    simp [run_equal_slice_nil w 23 _ a l c Tryd.underlying23]
  have H0 : Hid (AS (w.alloc (.cells #[] 43)) v l) := h0.below ((Below.refl _ _).alloc (Nat.le_refl _) _)
  have E0 : Hid (OwnG KA (w.alloc (.cells #[] 43)) w.heap.size (.slice (some ⟨w.heap.size, 0, none⟩) 0 0) []) := OwnG.empty KA w
  have HL : Hid ((([] : List Atm).length + l.length) * KA.B ≤ 140737488355328) := by show (([] : List Atm).length + l.length) * 40 ≤ _; simp; omega
  obtain ⟨p, cap, rfl⟩ := h.form
  cases p with
  | none =>
    have hn : l = [] := by
      rcases h with ⟨_, e⟩ | ⟨X, o, c, e, _⟩
      · exact e
      · cases e
    subst hn
    clear h h0
    go_enter Tryd.func20, Tryd.ntmps20
    go_wp2
    go_ret
    exact ⟨none, 0, rfl, OwnG.nil _ _ _, Below.refl _ _⟩
  | some a =>
    clear h h0
    go_enter Tryd.func20, Tryd.ntmps20
    go_wp2_with (at_builtin; refine append_gs KA KA_ok rfl (.tmp 5) (.tmp 6) 23 rfl w.heap.size Tryd.underlying23 _ _ (.slice (some a) l.length cap) [] l rfl rfl E0.out H0.out HL.out (by simp) ?_; intro v8 w8 ho8 hb8 hk8)
    go_ret
    rw [List.nil_append] at ho8
    obtain ⟨p, cap2, rfl, _⟩ := ho8.form
    exact ⟨p, cap2, rfl, ho8, ((Below.refl _ _).alloc (Nat.le_refl _) _).trans hb8⟩
theorem rep_row {M : List Vx} {j : Nat} (h : j < M.length) : ((List.replicate (j + 1) zVx ++ M.drop (j + 1)).set j M[j]) = List.replicate j zVx ++ M.drop j := by
  rw [List.replicate_succ', List.append_assoc, List.set_append_right _ _ (by simp)]
  simp
/-- A row of a call's own that is filled from the back. -/
structure MI (w wk : World) (g n : Nat) (R : List Vx) : Prop where
  own : OwnG KV wk w.heap.size (.slice (some ⟨g, 0, none⟩) n n) R
  bl : Below w.heap.size w wk
theorem own_cellV {w : World} {base g n cap : Nat} {R : List Vx} (h : OwnG KV w base (.slice (some ⟨g, 0, none⟩) n cap) R) (hn : n = R.length) {j : Nat} (hj : j < R.length) : ∃ u, w.cell? ⟨g, j, none⟩ = some u := by
  subst hn
  obtain ⟨X, o, e, hc⟩ := (h.gs KV_ok.len).atV hj
  injection e with e
  injection e with e1 e2 _
  subst e1 e2
  rw [Nat.zero_add] at hc
  exact ⟨_, hc⟩
theorem MI.set {w wk : World} {g n : Nat} {R : List Vx} (h : MI w wk g n R) (j : Nat) (x : Vx) : MI w (wk.setCell ⟨g, j, none⟩ (.slice x.q x.a.length x.c)) g n (R.set j x) :=
  ⟨h.own.set1 rfl KV_ok.len x _ rfl, h.bl.setCell (h.own.lt (g := g) rfl).1 _⟩
set_option maxHeartbeats 8000000 in
theorem membersOf_any (v : Value) (t : Vt) (w : World) (h : AS w v (flV t)) (hr : RT t) :
    Calls Tryd.prog 19 #[v] w fun e w' => ∃ X o n c g, v = .slice (some ⟨X, o, none⟩) n c ∧ e = .returned (.slice (some ⟨g, 0, none⟩) t.ps.length t.ps.length) ∧ OwnG KV w' w.heap.size (.slice (some ⟨g, 0, none⟩) t.ps.length t.ps.length) (mbR X o t.ps) ∧ Below w.heap.size w w' := by
  have hsz := hr.sz
  have hps := szV_ps t
  have hml := memT_len (t := t)
  have hfl : (flV t).length = szV t := rfl
  have hd : depV (flV t) ≠ 0 := by rw [depV_flat hr.wf]; have := dpV_pos t; omega
  have BG : Hid _ := beginsOf_any v (flV t) w h hd (by omega)
  have WH : Hid (∀ w1, Below w.heap.size w w1 → _) := fun w1 b => whole_any v t w1 (h.below b) (by omega)
  have FR : Hid (FrL (frV [] (flV t)) 0 t.ps) := by
    have := frV_tree hr.wf
    rw [FrL] at this
    have h2 := this.1
    cases t with
    | nd k i tx ps => rw [FrT] at h2; exact h2.2
  have FLN : Hid ((frV [] (flV t)).length = szV t) := frV_len hd
  obtain ⟨p, cap, rfl⟩ := h.form
  obtain ⟨X, o, e1⟩ : ∃ X o, p = some ⟨X, o, none⟩ := by obtain ⟨X, o, e1, _⟩ := h.atA (k := 0) (by omega); exact ⟨X, o, e1⟩
  subst e1
  have hcap : szV t ≤ cap := by have := h.cap; omega
  rw [hfl] at BG WH ⊢
  generalize frV [] (flV t) = F at *
  obtain ⟨M, hM⟩ : ∃ M, M = mbR X o t.ps := ⟨_, rfl⟩
  have HML : Hid (M.length = t.ps.length) := by rw [hM]; exact mbR_len X o t.ps
  have HMG : Hid (∀ i (hi : i < t.ps.length) (hi' : i < M.length), M[i] = ⟨flV t.ps[i], some ⟨X, o + szVL (t.ps.take i) * 4, none⟩, szV t.ps[i]⟩) := fun i hi hi' => by subst hM; exact mbR_get X o t.ps i hi
  suffices hsuf : Calls Tryd.prog 19 #[.slice (some ⟨X, o, none⟩) (szV t) cap] w fun e w' => ∃ g, e = .returned (.slice (some ⟨g, 0, none⟩) t.ps.length t.ps.length) ∧ OwnG KV w' w.heap.size (.slice (some ⟨g, 0, none⟩) t.ps.length t.ps.length) M ∧ Below w.heap.size w w' from by
    refine hsuf.mono ?_
    rintro e w' ⟨g, h1, h2, h3⟩
    rw [hM] at h2
    exact ⟨X, o, szV t, cap, g, rfl, h1, h2, h3⟩
  clear h hr hd hM
  obtain ⟨ps, hpe⟩ : ∃ ps, ps = t.ps := ⟨_, rfl⟩
  rw [← hpe] at hps hml FR HML HMG WH ⊢
  generalize t.k = k0 at *
  generalize t.i = i0 at *
  generalize t.tx = tx0 at *
  clear hpe hfl
  generalize szV t = sz at *
  have SS : Hid (∀ j (hj : j < ps.length), szVL (ps.take (j + 1)) = szVL (ps.take j) + szV ps[j]) := fun j hj => szVL_take_succ ps hj
  have SL : Hid (∀ j, szVL (ps.take j) ≤ szVL ps) := fun j => szVL_take_le ps j
  have SA : Hid (szVL (ps.take ps.length) = szVL ps) := by rw [List.take_length]; rfl
  have SP : Hid (∀ j (hj : j < ps.length), 0 < szV ps[j]) := fun j hj => szV_pos _
  obtain ⟨N, hN⟩ : ∃ N, N = ps.length := ⟨_, rfl⟩
  obtain ⟨m, hm⟩ : ∃ m, m = szVL ps := ⟨_, rfl⟩
  rw [← hm] at hps hml
  rw [← hN] at WH HML hml ⊢
  have HN : Hid (N = ps.length) := hN
  have HM : Hid (m = szVL ps) := hm
  subst hps
  have hmb : m ≤ 1023 := by omega
  have hNb : N ≤ 1023 := by omega
  clear hN hm hsz
  go_enter Tryd.func19, Tryd.ntmps19
  go_wp2_with fail
  refine Calls.mono BG.out ?_
  rintro e w1 ⟨gf, rfl, hof, hb1⟩
  have OF : Hid (OwnG KI w1 w.heap.size (.slice (some ⟨gf, 0, none⟩) (m + 1) (m + 1)) F) := hof
  have B1 : Hid (Below w.heap.size w w1) := hb1
  have W1 : Hid _ := WH.out w1 hb1
  clear hof hb1 BG WH
  go_wp2_with fail
  refine Calls.mono W1.out ?_
  rintro e w2 ⟨rfl, hb2⟩
  have OF2 : Hid (OwnG KI w2 w.heap.size (.slice (some ⟨gf, 0, none⟩) (m + 1) (m + 1)) F) := OF.out.below hb2
  have B2 : Hid (Below w.heap.size w w2) := B1.out.trans (hb2.mono B1.out.size)
  clear hb2 W1 OF B1
  have hfd := fld1 k0 N i0 tx0
  go_wp2_with (at_make; refine make_g KV KV_ok zVx rfl rfl _ rfl _ _ 24 rfl Tryd.underlying24 N rfl rfl (by omega) (by decide) ?_; intro w5 ho5 hb5)
  clear hfd
  have OF5 : Hid (OwnG KI w5 w.heap.size (.slice (some ⟨gf, 0, none⟩) (m + 1) (m + 1)) F) := OF2.out.below hb5
  have hgg : gf ≠ w2.heap.size := by have := (OF2.out.lt (g := gf) rfl).2; omega
  have H5 : Hid (MI w w5 w2.heap.size N (List.replicate N zVx ++ M.drop N)) := ⟨by rw [List.drop_eq_nil_of_le (by rw [HML.out]; exact Nat.le_refl _), List.append_nil]; exact ho5.low B2.out.size, B2.out.trans (hb5.mono B2.out.size)⟩
  generalize w2.heap.size = g at *
  clear ho5 hb5 OF2 B2
  have FR5 : Hid (∀ j (hj : j < N), ∃ b : Nat, F.getD (szVL (ps.take (j + 1)) - 1) 0 = (b : Int) ∧ b = szVL (ps.take j) ∧ szVL (ps.take (j + 1)) ≤ m) := fun j hj => by
    have hj' : j < ps.length := by have := HN.out; omega
    obtain ⟨h1, h2⟩ := FR.out.at hj'
    rw [Nat.zero_add, Nat.zero_add] at h1
    refine ⟨szVL (ps.take j), by rw [List.getD, h1]; rfl, rfl, by rw [HM.out]; exact SL.out _⟩
  go_wp2_with fail
  go_loopw [5, 6] (fun v5 v6 wr => ∃ (j en : Nat) (wk : World), v6 = .int .i64 ((j : Int) - 1) ∧ v5 = .int .i64 en ∧ wk = wr ∧ j ≤ N ∧ Hid (en = szVL (ps.take j)) ∧ Hid (MI w wk g N (List.replicate j zVx ++ M.drop j)) ∧ Hid (OwnG KI wk w.heap.size (.slice (some ⟨gf, 0, none⟩) (m + 1) (m + 1)) F)) (fun _ v6 _ => (intOf v6 + 1).toNat)
  case atStart => exact ⟨N, m, _, by go_num, by go_num, rfl, Nat.le_refl _, (by show _ = _; rw [HN.out, SA.out, HM.out]), H5, OF5⟩
  case round =>
    obtain ⟨j, en, wr, rfl, rfl, rfl, hj, HE, HI, HF⟩ := hrel
    clear H5 OF5
    by_cases hj0 : j = 0
    · subst hj0
      have OM : Hid (OwnG KV wr w.heap.size (.slice (some ⟨g, 0, none⟩) N N) M) := by have := HI.out.own; rw [List.replicate_zero, List.nil_append, List.drop_zero] at this; exact this
      have B9 : Hid (Below w.heap.size w wr) := HI.out.bl
      clear HI HF FR5
      go_wp2_with fail
      go_ret
      exact ⟨g, rfl, OM.out, B9.out⟩
    · obtain ⟨i, rfl⟩ : ∃ i, j = i + 1 := ⟨j - 1, by omega⟩
      obtain ⟨b, hb1, hb2, hb3⟩ := FR5.out i (by omega)
      rw [← HE.out] at hb1 hb3
      have hi' : i < ps.length := by have := HN.out; omega
      have hbe : b < en := by have h1 := SS.out i hi'; have h2 := SP.out i hi'; rw [← HE.out, ← hb2] at h1; omega
      have cb : wr.cell? ⟨gf, en - 1, none⟩ = some (.int .i64 (b : Int)) := by
        have h1 := own_int HF.out (by rw [FLN.out]) (j := en - 1) (by rw [FLN.out]; omega)
        rw [hb1] at h1; exact h1
      have hji : ((i + 1 : Nat) : Int) - 1 = (i : Int) := by omega
      have heI : (en : Int) - 1 = ((en - 1 : Nat) : Int) := by omega
      obtain ⟨u, cu⟩ := own_cellV HI.out.own (by simp [HML.out]; omega) (j := i) (by simp [HML.out]; omega)
      have fu := own_frozen HI.out.own i
      have MX : Hid (∀ X0, X0 = (⟨flV ps[i], some ⟨X, o + b * 4, none⟩, szV ps[i]⟩ : Vx) → MI w (wr.setCell ⟨g, i, none⟩ (.slice X0.q X0.a.length X0.c)) g N (List.replicate i zVx ++ M.drop i) ∧ OwnG KI (wr.setCell ⟨g, i, none⟩ (.slice X0.q X0.a.length X0.c)) w.heap.size (.slice (some ⟨gf, 0, none⟩) (m + 1) (m + 1)) F) := fun X0 e0 => by
        have h1 := HI.out.set i X0
        have hiM : i < M.length := by rw [HML.out]; omega
        have h2 := HMG.out i hi' hiM
        rw [← hb2] at h2
        rw [e0, ← h2, rep_row hiM] at h1
        rw [e0, ← h2]
        exact ⟨h1, HF.out.far (fun x hx => Below.heap_setCell _ _ _ _ (fun e => by
          have h3 : x = gf := by simpa [Value.ownBlock] using hx.symm
          exact hgg (by rw [← h3]; exact e)))⟩
      have hln : en - b = (flV ps[i]).length := by
        have h1 := SS.out i hi'; rw [← HE.out, ← hb2] at h1
        have : (flV ps[i]).length = szV ps[i] := rfl
        omega
      have MX2 : Hid (MI w (wr.setCell ⟨g, i, none⟩ (.slice (some ⟨X, o + b * 4, none⟩) (en - b) (en - b))) g N (List.replicate i zVx ++ M.drop i) ∧ OwnG KI (wr.setCell ⟨g, i, none⟩ (.slice (some ⟨X, o + b * 4, none⟩) (en - b) (en - b))) w.heap.size (.slice (some ⟨gf, 0, none⟩) (m + 1) (m + 1)) F) := by
        have := MX.out _ rfl
        have e2 : szV ps[i] = en - b := by rw [hln]; rfl
        rw [hln]
        rw [e2] at this
        rw [← hln] at this ⊢
        exact this
      have HB2 : Hid (b = szVL (ps.take i)) := hb2
      obtain ⟨d, hd⟩ : ∃ d, d = en - b := ⟨_, rfl⟩
      rw [← hd] at MX2
      have hdp : 0 < d := by omega
      have hen : b + d = en := by omega
      clear MX hb1 hb2 HI HF FR5 HE hln hd
      subst hen
      go_wp2_with fail
      all_goals
        go_roundw
        case rel => exact ⟨i, b, _, by go_num, rfl, rfl, by omega, HB2, MX2.out.1, MX2.out.2⟩
        case measure => first | (simp [intOf]; done) | (simp [intOf]; omega)
end Go.Proofs.YtahcllncjpaijabDoor
