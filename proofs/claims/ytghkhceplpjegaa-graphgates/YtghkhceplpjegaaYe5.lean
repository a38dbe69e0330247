/- Graph: the document's Round, walked. -/
import Derived.Test.YtghkhceplpjegaaYe3
namespace Go.Proofs.Ytghkhceplpjegaa
open Go.RowKit

noncomputable def rnA (n : Int) (e : List (Int × Int)) : List Int := if chkG n e = 0 then nI (rnL n.toNat (eN e)) else []
theorem rnA_ok {N : Nat} {E : List (Nat × Nat)} (hg : GOK N E) : rnA N (eI E) = nI (rnL N E) := by unfold rnA; rw [if_pos hg.chk, eN_eI]; simp
theorem rnA_no {n : Int} {e : List (Int × Int)} (h : chkG n e ≠ 0) : rnA n e = [] := by unfold rnA; rw [if_neg h]
/-- Who is told to go round so far: of the first lists; of one more, the first nodes; by the first edges. -/
def pO (Q : List (List Nat)) (i x : Nat) : Prop := ∃ j, j < i ∧ 1 < (Q.getD j []).length ∧ x ∈ Q.getD j []
def pI (Q : List (List Nat)) (i k x : Nat) : Prop := pO Q i x ∨ (1 < (Q.getD i []).length ∧ x ∈ (Q.getD i []).take k)
def pE (Q : List (List Nat)) (E : List (Nat × Nat)) (j x : Nat) : Prop := pO Q Q.length x ∨ (x, x) ∈ E.take j
theorem pI_zero {Q : List (List Nat)} {i x : Nat} : pO Q i x ↔ pI Q i 0 x := by unfold pI; simp
theorem pI_end {Q : List (List Nat)} {i k x : Nat} (h : ¬ (k < (Q.getD i []).length ∧ 1 < (Q.getD i []).length)) (hk : k ≤ (Q.getD i []).length) : pI Q i k x ↔ pO Q (i + 1) x := by
  unfold pI pO
  constructor
  · rintro (⟨j, h1, h2⟩ | ⟨h1, h2⟩)
    · exact ⟨j, by omega, h2⟩
    · exact ⟨i, by omega, h1, List.mem_of_mem_take h2⟩
  · rintro ⟨j, h1, h2, h3⟩
    by_cases e : j = i
    · subst e
      refine Or.inr ⟨h2, ?_⟩
      rw [List.take_of_length_le (by omega)]
      exact h3
    · exact Or.inl ⟨j, by omega, h2, h3⟩
theorem pI_put {Q : List (List Nat)} {i k x : Nat} (hk : k < (Q.getD i []).length) (h1 : 1 < (Q.getD i []).length) : (pI Q i k x ∨ x = (Q.getD i [])[k]) ↔ pI Q i (k + 1) x := by
  unfold pI
  rw [List.take_succ_eq_append_getElem hk, List.mem_append, List.mem_singleton]
  constructor
  · rintro ((h | ⟨_, h⟩) | h)
    · exact Or.inl h
    · exact Or.inr ⟨h1, Or.inl h⟩
    · exact Or.inr ⟨h1, Or.inr h⟩
  · rintro (h | ⟨_, h | h⟩)
    · exact Or.inl (Or.inl h)
    · exact Or.inl (Or.inr ⟨h1, h⟩)
    · exact Or.inr h
theorem pE_zero {Q : List (List Nat)} {E : List (Nat × Nat)} {x : Nat} : pO Q Q.length x ↔ pE Q E 0 x := by unfold pE; simp
theorem pE_put {Q : List (List Nat)} {E : List (Nat × Nat)} {j x : Nat} (hj : j < E.length) (he : E[j].1 = E[j].2) : (pE Q E j x ∨ x = E[j].1) ↔ pE Q E (j + 1) x := by
  unfold pE
  rw [List.take_succ_eq_append_getElem hj, List.mem_append, List.mem_singleton]
  have : (x, x) = E[j] ↔ x = E[j].1 := by
    constructor
    · intro h; rw [← h]
    · intro h; rw [Prod.ext_iff]; exact ⟨h, by rw [← he]; exact h⟩
  rw [this, or_assoc]
theorem pE_skip {Q : List (List Nat)} {E : List (Nat × Nat)} {j x : Nat} (hj : j < E.length) (he : E[j].1 ≠ E[j].2) : pE Q E j x ↔ pE Q E (j + 1) x := by
  unfold pE
  rw [List.take_succ_eq_append_getElem hj, List.mem_append, List.mem_singleton]
  have : ¬ (x, x) = E[j] := fun h => he (by rw [← h])
  simp [this]
theorem cmL_getD {N : Nat} {E : List (Nat × Nat)} {j : Nat} (h : j < (cmL N E).length) : (cmL N E).getD j [] = prt N E ((ris N (lst E)).getD j 0) ∧ (ris N (lst E)).getD j 0 < N := by
  unfold cmL at h ⊢
  rw [List.length_map] at h
  have e : (ris N (lst E)).getD j 0 = (ris N (lst E))[j] := by simp [List.getD, h]
  refine ⟨by simp [List.getD, h], ?_⟩
  rw [e]
  exact (ris_mem.1 (List.getElem_mem h)).1
theorem cmL_lt {N : Nat} {E : List (Nat × Nat)} {j x : Nat} (h : j < (cmL N E).length) (hx : x ∈ (cmL N E).getD j []) : x < N := by
  rw [(cmL_getD h).1] at hx
  exact (prt_mem.1 hx).1
theorem pE_end {N : Nat} {E : List (Nat × Nat)} (hg : GOK N E) {x : Nat} (hx : x < N) : pE (cmL N E) E E.length x ↔ wyB E (-1) [x] x = true := by
  rw [rn_iff hg hx]
  unfold pE pO
  rw [List.take_length]
  constructor
  · rintro (⟨j, h1, h2, h3⟩ | h)
    · rw [(cmL_getD h1).1] at h2 h3
      refine Or.inr ?_
      rw [prt_same (prt_mem.1 h3).2] at h2
      exact h2
    · exact Or.inl h
  · rintro (h | h)
    · exact Or.inr h
    · obtain ⟨s, h2, h3, h4⟩ := prt_hd (E := E) hx
      obtain ⟨j, hj, e⟩ := List.getElem_of_mem (ris_mem.2 ⟨h3, h2⟩)
      have hj2 : j < (cmL N E).length := by unfold cmL; rw [List.length_map]; exact hj
      have e2 : (cmL N E).getD j [] = prt N E x := by
        rw [(cmL_getD hj2).1, h4]
        have : (ris N (lst E)).getD j 0 = (ris N (lst E))[j] := by simp [List.getD, hj]
        rw [this, e]
      refine Or.inl ⟨j, hj2, by rw [e2]; exact h, by rw [e2]; exact prt_mem.2 ⟨hx, sc.refl _ _⟩⟩
/-- A row of bools of which each says so. -/
structure GR (V : World) (N bs : Nat) (P : Nat → Prop) (W : World) : Prop where
  bl : Below V.heap.size V W
  ow : ∃ f : Nat → Bool, OwnG KB W V.heap.size (.slice (some ⟨bs, 0, none⟩) N N) ((List.range N).map f) ∧ ∀ x, x < N → (f x = true ↔ P x)
theorem GR.imp {V W : World} {N bs : Nat} {P Q : Nat → Prop} (h : GR V N bs P W) (k : ∀ x, x < N → (P x ↔ Q x)) : GR V N bs Q W := by
  obtain ⟨f, h1, h2⟩ := h.ow
  exact ⟨h.bl, f, h1, fun x hx => (h2 x hx).trans (k x hx)⟩
theorem GR.below {V W W' : World} {N bs : Nat} {P : Nat → Prop} (h : GR V N bs P W) (k : Below W.heap.size W W') : GR V N bs P W' := by
  obtain ⟨f, h1, h2⟩ := h.ow
  exact ⟨bl3 h.bl k, f, h1.below k, h2⟩
theorem GR.put {V W : World} {N bs : Nat} {P : Nat → Prop} (h : GR V N bs P W) {y : Nat} (hy : y < N) : GR V N bs (fun x => P x ∨ x = y) (W.setCell ⟨bs, y, none⟩ (.bool true)) ∧ (∃ u, W.cell? ⟨bs, y, none⟩ = some (.bool u)) ∧ W.frozen? ⟨bs, y, none⟩ = false := by
  obtain ⟨f, h1, h2⟩ := h.ow
  refine ⟨⟨Below.setCell (p := ⟨bs, y, none⟩) h.bl (h1.lt (g := bs) rfl).1 _, adP f y, ?_, fun x hx => ?_⟩, ?_, own_frozen h1 y⟩
  · have := h1.set1 rfl KB_ok.len (k := y) true (.bool true) rfl
    rw [rmap_set] at this
    exact this
  · rw [adP_iff, h2 x hx]
  · obtain ⟨X, o, e, hc⟩ := (h1.gs KB_ok.len).atB (k := y) (by simpa using hy)
    injection e with e
    injection e with e1 e2 _
    subst e1 e2
    rw [Nat.zero_add] at hc
    exact ⟨_, hc⟩
theorem GR.told {V W : World} {N bs : Nat} {E : List (Nat × Nat)} (hg : GOK N E) (h : GR V N bs (pE (cmL N E) E E.length) W) : ∃ L : List Bool, GS KB W (.slice (some ⟨bs, 0, none⟩) N N) L ∧ L.length = N ∧ ris L.length (bF L) = rnL N E := by
  obtain ⟨f, h1, h2⟩ := h.ow
  refine ⟨_, h1.gs KB_ok.len, by simp, ?_⟩
  rw [List.length_map, List.length_range]
  refine ris_congr fun x hx => ?_
  have e : bF ((List.range N).map f) x = f x := by simp [bF, List.getD, hx]
  rw [e, Bool.eq_iff_iff, h2 x hx, pE_end hg hx]
end Go.Proofs.Ytghkhceplpjegaa
namespace Go.Proofs.Ytghkhceplpjegaa
open Go.RowKit

set_option maxRecDepth 100000 in
set_option maxHeartbeats 16000000 in
theorem rRound_any (w : World) (n : Int) (v : Value) (l : List (Int × Int)) (hv : GS KE w v l) : Calls Try.prog 40 #[.agg #[.int .i64 n, v]] w fun e w' => AnsI w (rnA n l) (chkG n l) e w' := by
  obtain ⟨p, c, rfl⟩ := hv.form
  generalize hW : w.alloc (.cells #[.int .i64 n, .slice p l.length c] 24) = W
  have BW : Hid (Below w.heap.size w W) := by rw [← hW]; exact bal _ _
  have C0 : Hid (∀ W', Below W.heap.size W W' → W'.cell? ⟨w.heap.size, 0, none⟩ = some (.int .i64 n) ∧ W'.cell? ⟨w.heap.size, 1, none⟩ = some (.slice p l.length c)) := fun W' hb => by
    have e : W'.heap[w.heap.size]? = some (.cells #[.int .i64 n, .slice p l.length c] 24) := (hb.block _ (by rw [← hW, asz]; omega)).trans (by rw [← hW]; exact heap_alloc_new _ _)
    exact ⟨cell_of_row _ _ _ _ _ _ e, cell_of_row _ _ _ _ _ _ e⟩
  have CM := hid (rComponents_any W n _ l (hv.below BW.out))
  obtain ⟨d0, d1⟩ := C0.out W (Below.refl _ _)
  by_cases h0 : chkG n l = 0
  · obtain ⟨N, E, rfl, rfl, hg⟩ := chkG_ok h0
    rw [rnA_ok hg, h0]
    rw [cmA_ok hg, h0] at CM
    unfold AnsP at CM
    have GB := hid (fun w' (hb : Below w.heap.size w w') j (hj : j < E.length) => GS.atN (hv.below hb) hj)
    rw [eI_len] at C0 d1 hW CM ⊢
    have a5 : N ≤ 4096 := hg.n
    have a4 := hg.e
    have HG := hid hg
    have CL := hid (fun j (hj : j < (cmL N E).length) x (hx : x ∈ (cmL N E).getD j []) => cmL_lt hj hx)
    have QN : Hid ((cmL N E).length ≤ 4096) := by show _ ≤ _; unfold cmL; rw [List.length_map]; have := ris_len N (lst E); omega
    have PL : Hid (∀ j, ((cmL N E).getD j []).length ≤ 4096) := fun j => by
      by_cases hj : j < (cmL N E).length
      · rw [(cmL_getD hj).1]; have := ris_len N (scB E ((ris N (lst E)).getD j 0)); unfold prt; omega
      · have : (cmL N E).getD j [] = [] := by simp [List.getD, List.getElem?_eq_none (show (cmL N E).length ≤ j by omega)]
        rw [this]; simp
    have TO := hid (fun V W bs (h : GR V N bs (pE (cmL N E) E E.length) W) => GR.told HG.out h)
    have EL := hid (fun e (he : e ∈ E) => HG.out.lt e he)
    obtain ⟨el, hel⟩ : ∃ el, el = E.length := ⟨_, rfl⟩
    rw [← hel] at C0 d1 hW CM a4 ⊢
    have ME : Hid (E.length = el) := hel.symm
    generalize cmL N E = Q at *
    obtain ⟨ql, hql⟩ : ∃ ql, ql = Q.length := ⟨_, rfl⟩
    rw [← hql] at CM QN
    have MQ : Hid (Q.length = ql) := hql.symm
    have q4 := QN.out
    clear h0 hg hv hel hql QN
    go_enter Try.func40, Try.ntmps40
    go_upto_region 4 with (go_at_call 64; refine CM.out.mono ?_; rintro e w6 ⟨q6, c6, vs, rfl, l6, s6, r6, b6⟩; have S6 := hid s6; have R6 := hid r6; have L6 := hid l6; have B6 := hid b6; clear s6 r6 b6 l6)
    clear hW CM d0 d1
    obtain ⟨sz, hsz⟩ : ∃ sz, sz = w.heap.size := ⟨_, rfl⟩
    have GC : Hid (∀ W', Below w6.heap.size w6 W' → W'.cell? ⟨sz, 0, none⟩ = some (.int .i64 N) ∧ W'.cell? ⟨sz, 1, none⟩ = some (.slice p el c)) := fun W' hb => by rw [hsz]; exact C0.out W' (bl3 B6.out hb)
    have WV : Hid (Below w.heap.size w w6) := bl3 BW.out B6.out
    rw [← hsz]
    clear hsz C0 BW B6
    obtain ⟨d0, d1⟩ := GC.out w6 (Below.refl _ _)
    go_upto_region 5 with (refine make_g KB KB_ok false rfl rfl w6 rfl (.tmp 19) (.tmp 19) 49 rfl Try.underlying49 N rfl rfl (by omega) (by decide) ?_; intro w7 ho7 hb7; have O7 := hid ho7; have B7 := hid hb7; clear ho7 hb7)
    obtain ⟨bs, hbs⟩ : ∃ bs, bs = w6.heap.size := ⟨_, rfl⟩
    have Q0 : Hid (GR w6 N bs (pO Q 0) w7) := by
      refine ⟨B7.out, fun _ => false, ?_, fun x _ => ?_⟩
      · rw [List.map_const', List.length_range, hbs]; exact O7.out
      · unfold pO; simp
    rw [← hbs]
    clear d0 d1 O7 B7 hbs
    go_wp2_with fail
    go_loopw [7] (fun v7 wr => ∃ (i : Nat) (wk : World), v7 = .int .i64 i ∧ wk = wr ∧ i ≤ ql ∧ Hid (GR w6 N bs (pO Q i) wk)) (fun v7 _ => ql - (intOf v7).toNat)
    case atStart => exact ⟨0, _, rfl, rfl, Nat.zero_le _, Q0⟩
    case round =>
      obtain ⟨i, wr, rfl, rfl, hi, HC⟩ := hrel
      clear Q0
      by_cases hlt : i < ql
      · have i1 : i < Q.length := by have := MQ.out; omega
        have i2 : i < vs.length := by rw [L6.out]; exact hlt
        have hii : (i : Int) < (ql : Nat) := by omega
        have RW := hid (R6.out i (by have := MQ.out; omega))
        have eg : vs.getD i sl0 = vs[i] := by simp [List.getD, i2]
        obtain ⟨pr, cr, er⟩ := RW.out.form
        rw [eg] at er RW
        rw [nI_len] at er
        have S7 : Hid (∃ X o, q6 = some ⟨X, o, none⟩ ∧ ∀ W', Below w6.heap.size w6 W' → W'.cell? ⟨X, o + i, none⟩ = some (.slice pr (Q.getD i []).length cr)) := by
          obtain ⟨X, o, e1, _⟩ := S6.out.atS i2
          refine ⟨X, o, e1, fun W' hb => ?_⟩
          obtain ⟨X2, o2, e2, h2⟩ := (S6.out.below hb).atS i2
          rw [e1] at e2
          injection e2 with e2
          injection e2 with e2 e3 _
          subst e2 e3
          rw [h2, er]
        obtain ⟨X, o, eq6, cx⟩ := S7.out
        have CX := hid cx
        clear cx S7
        rw [er] at RW
        have RA := hid (fun W' (hb : Below w6.heap.size w6 W') k (hk : k < (nI (Q.getD i [])).length) => GS.atI (RW.out.below hb) hk)
        have LT := hid (fun x (hx : x ∈ Q.getD i []) => CL.out i i1 x hx)
        have PI := hid (fun k x (hk : k < (Q.getD i []).length) h1 => pI_put (x := x) (Q := Q) (i := i) hk h1)
        have PZ := hid (fun k x h hk => pI_end (Q := Q) (i := i) (k := k) (x := x) h hk)
        have I0 : Hid (GR w6 N bs (pI Q i 0) wr) := HC.out.imp fun x _ => pI_zero
        have P4 := PL.out i
        have IDX := hid (fun k (hk : k < (Q.getD i []).length) => nI_at hk)
        clear er eg RW HC i1 i2
        subst eq6
        obtain ⟨m, hm⟩ : ∃ m, m = (Q.getD i []).length := ⟨_, rfl⟩
        have MM : Hid ((Q.getD i []).length = m) := hm.symm
        rw [← hm] at CX P4
        clear hm
        go_wp2_with fail
        go_loopw [8] (fun v8 wq => ∃ (k : Nat) (wk : World), v8 = .int .i64 k ∧ wk = wq ∧ k ≤ m ∧ Hid (GR w6 N bs (pI Q i k) wk)) (fun v8 _ => m - (intOf v8).toNat)
        case atStart => exact ⟨0, _, rfl, rfl, Nat.zero_le _, I0⟩
        case round =>
          obtain ⟨k, wq, rfl, rfl, hk, HI⟩ := hrel
          clear I0
          have x0 := CX.out wq HI.out.bl
          have m0 : (0 : Int) ≤ (m : Nat) := by omega
          by_cases hkm : k < m
          · have hki : (k : Int) < (m : Nat) := by omega
            by_cases h1 : 1 < m
            · have h1i : (1 : Int) < (m : Nat) := by omega
              have k1 : k < (Q.getD i []).length := by rw [MM.out]; exact hkm
              obtain ⟨Y, o2, e2, c2⟩ := RA.out wq HI.out.bl k (by rw [nI_len]; exact k1)
              rw [IDX.out k k1] at c2
              have hy : (Q.getD i [])[k] < N := LT.out _ (List.getElem_mem k1)
              obtain ⟨u1, ⟨u, u2⟩, u3⟩ := HI.out.put hy
              have K1 : Hid (GR w6 N bs (pI Q i (k + 1)) (wq.setCell ⟨bs, (Q.getD i [])[k], none⟩ (.bool true))) := u1.imp fun x _ => PI.out k x k1 (by rw [MM.out]; exact h1)
              clear u1
              subst e2
              generalize (Q.getD i [])[k] = y at *
              have hyi : (y : Int) < (N : Nat) := by omega
              go_wp2
              go_roundw
              case rel => exact ⟨k + 1, _, by go_num, rfl, by omega, K1⟩
              case measure => simp [intOf]; omega
            · have h1i : ¬ (1 : Int) < (m : Nat) := by omega
              have K1 : Hid (GR w6 N bs (pO Q (i + 1)) wq) := HI.out.imp fun x _ => PZ.out k x (fun e => h1 (by rw [← MM.out]; exact e.2)) (by rw [MM.out]; exact hk)
              go_wp2
              go_roundw
              case rel => exact ⟨i + 1, _, by go_num, rfl, by omega, K1⟩
              case measure => simp [intOf]; omega
          · have hki : ¬ (k : Int) < (m : Nat) := by omega
            have K1 : Hid (GR w6 N bs (pO Q (i + 1)) wq) := HI.out.imp fun x _ => PZ.out k x (fun e => hkm (by rw [← MM.out]; exact e.1)) (by rw [MM.out]; exact hk)
            go_wp2
            go_roundw
            case rel => exact ⟨i + 1, _, by go_num, rfl, by omega, K1⟩
            case measure => simp [intOf]; omega
      · have I0 : Hid (GR w6 N bs (pE Q E 0) wr) := by
          have e : i = Q.length := by rw [MQ.out]; omega
          refine HC.out.imp fun x _ => ?_
          rw [e]; exact pE_zero
        have hii : ¬ (i : Int) < (ql : Nat) := by omega
        clear HC
        obtain ⟨d0, d1⟩ := GC.out wr I0.out.bl
        go_wp2_with fail
        clear d0 d1
        go_loopw [9] (fun v9 wq => ∃ (j : Nat) (wk : World), v9 = .int .i64 j ∧ wk = wq ∧ j ≤ el ∧ Hid (GR w6 N bs (pE Q E j) wk)) (fun v9 _ => el - (intOf v9).toNat)
        case atStart => exact ⟨0, _, rfl, rfl, Nat.zero_le _, I0⟩
        case round =>
          obtain ⟨j, wq, rfl, rfl, hj, HI⟩ := hrel
          clear I0
          obtain ⟨d0, d1⟩ := GC.out wq HI.out.bl
          by_cases hlt2 : j < el
          · have j1 : j < E.length := by rw [ME.out]; exact hlt2
            obtain ⟨X, o, e1, c1, c2⟩ := GB.out wq (bl3 WV.out HI.out.bl) j j1
            subst e1
            have hji : (j : Int) < (el : Nat) := by omega
            have hy := (EL.out _ (List.getElem_mem j1)).1
            have PP := hid (fun x h => pE_put (Q := Q) (x := x) j1 h)
            have PS := hid (fun x h => pE_skip (Q := Q) (x := x) j1 h)
            generalize E[j].1 = a at *
            generalize E[j].2 = b at *
            clear j1
            have HD := hid (fun nq => HI.out.below (drew_below wq nq))
            by_cases hab : a = b
            · subst hab
              obtain ⟨u1, ⟨u, u2⟩, u3⟩ := HI.out.put hy
              have K1 : Hid (∀ nq, GR w6 N bs (pE Q E (j + 1)) ((wq.drewN nq).setCell ⟨bs, a, none⟩ (.bool true))) := fun nq => ((HD.out nq).put hy).1.imp fun x _ => PP.out x rfl
              have f0 : wq.cell? ⟨bs, a, none⟩ = some (.bool u) := u2
              have f1 : wq.frozen? ⟨bs, a, none⟩ = false := u3
              clear u1 u2 u3
              go_wp2
              go_quiet (fail)
              go_wp2
              all_goals
                go_roundw
                case rel => exact ⟨j + 1, _, by go_num, rfl, by omega, K1.out _⟩
                case measure => simp [intOf]; omega
            · have habi : ¬ (a : Int) = (b : Nat) := by omega
              have habb : ((a : Int) == (b : Nat)) = false := by simp [habi]
              have K1 : Hid (∀ nq, GR w6 N bs (pE Q E (j + 1)) (wq.drewN nq)) := fun nq => (HD.out nq).imp fun x _ => PS.out x hab
              go_wp2
              go_quiet (fail)
              go_wp2
              all_goals
                go_roundw
                case rel => exact ⟨j + 1, _, by go_num, rfl, by omega, K1.out _⟩
                case measure => simp [intOf]; omega
          · have hje : j = E.length := by rw [ME.out]; omega
            have hji : ¬ (j : Int) < (el : Nat) := by omega
            rw [hje] at HI
            obtain ⟨L, t1, t2, t3⟩ := TO.out _ _ _ HI.out
            have TD := hid ((told_any wq _ _ t1 (by rw [t2]; exact a5)).mono (R' := fun e w' => ∃ p c, e = .returned (.slice p (nI (rnL N E)).length c) ∧ OwnG KI w' wq.heap.size (.slice p (nI (rnL N E)).length c) (nI (rnL N E)) ∧ Below wq.heap.size wq w') fun e w' ⟨p, c, h1, h2, h3⟩ => by
              rw [t3] at h1 h2
              exact ⟨p, c, h1, h2, h3⟩)
            have BL := hid HI.out.bl
            clear HI t1 t2 t3 hje
            go_wp2_with (go_at_call 65; refine TD.out.mono ?_; rintro e w8 ⟨p8, c8, rfl, o8, b8⟩; have O8 := hid o8; have B8 := hid b8; clear o8 b8)
            go_ret2
            exact ⟨p8, c8, rfl, O8.out.gs KI_ok.len, bl3 WV.out (bl3 BL.out B8.out)⟩
  · rw [rnA_no h0]
    rw [cmA_no h0] at CM
    unfold AnsP at CM
    generalize chkG n l = r at *
    have b1 : (r != 0) = true := by simp [h0]
    go_enter Try.func40, Try.ntmps40
    go_wp2_with (go_at_call 64; refine CM.out.mono ?_; rintro e w6 ⟨q6, c6, vs, rfl, l6, s6, r6, b6⟩; have B6 := hid b6; clear s6 r6 b6 l6)
    go_ret2
    exact AnsI.none (bl3 BW.out B6.out)
end Go.Proofs.Ytghkhceplpjegaa
