/- Graph: the document's ways, walked. -/
import Derived.Test.YtghkhceplpjegaaYc7
namespace Go.Proofs.Ytghkhceplpjegaa
open Go.RowKit

/-- The document's search in memory: who was seen, the lists, what is to be done. -/
structure WJ (w0 : World) (N bs lb : Nat) (vs : List Sl) (R : Nat → List Int) (q : Option Addr) (c : Nat) (T : List Int) (S : Nat → Bool) (W : World) : Prop where
  bl : Below w0.heap.size w0 W
  sn : OwnG KB W w0.heap.size (.slice (some ⟨bs, 0, none⟩) N N) ((List.range N).map S)
  lz : LZ W w0.heap.size lb N vs R
  td : OwnG KI W w0.heap.size (.slice q T.length c) T
  ap : ∀ i, i < N → ∀ g, (slV (vs.getD i sl0)).ownBlock = some g → (Value.slice q T.length c).ownBlock ≠ some g
theorem WJ.below {w0 : World} {N bs lb : Nat} {vs : List Sl} {R : Nat → List Int} {q : Option Addr} {c : Nat} {T : List Int} {S : Nat → Bool} {W W' : World} (h : WJ w0 N bs lb vs R q c T S W) (k : Below W.heap.size W W') : WJ w0 N bs lb vs R q c T S W' := ⟨bl3 h.bl k, h.sn.below k, h.lz.below k, h.td.below k, h.ap⟩
theorem WJ.se {w0 : World} {N bs lb : Nat} {vs : List Sl} {R : Nat → List Int} {q : Option Addr} {c : Nat} {T : List Int} {S : Nat → Bool} {W : World} (h : WJ w0 N bs lb vs R q c T S W) {i : Nat} (hi : i < N) : W.cell? ⟨bs, i, none⟩ = some (.bool (S i)) ∧ W.frozen? ⟨bs, i, none⟩ = false := by
  refine ⟨?_, own_frozen h.sn i⟩
  obtain ⟨X, o, e, hc⟩ := (h.sn.gs KB_ok.len).atB (k := i) (by simpa using hi)
  injection e with e
  injection e with e1 e2 _
  subst e1 e2
  rw [Nat.zero_add] at hc
  rw [hc]
  simp
/-- One is seen. -/
theorem WJ.st {w0 : World} {N bs lb : Nat} {vs : List Sl} {R : Nat → List Int} {q : Option Addr} {c : Nat} {T : List Int} {S : Nat → Bool} {W : World} (h : WJ w0 N bs lb vs R q c T S W) (i : Nat) : WJ w0 N bs lb vs R q c T (adP S i) (W.setCell ⟨bs, i, none⟩ (.bool true)) := by
  obtain ⟨cur, hs⟩ := h.sn.ty (g := bs) rfl
  have hlt := h.sn.lt (g := bs) rfl
  have hne : lb ≠ bs := fun e => by
    obtain ⟨c2, h4⟩ := h.lz.out.ty (g := lb) rfl
    rw [e, hs] at h4
    injection h4 with h4
    injection h4 with _ h4 _
    revert h4; decide
  refine ⟨h.bl.setCell (p := ⟨bs, i, none⟩) hlt.1 _, ?_, h.lz.off hs (by decide) hne fun x _ hx => set_far hx, h.td.far fun g hg => set_far (fun e => h.td.notat hs (by decide) (by rw [← e]; exact hg)), h.ap⟩
  have := h.sn.set1 rfl KB_ok.len (k := i) true (.bool true) rfl
  rw [rmap_set] at this
  exact this
/-- One more to do. -/
theorem WJ.push {w0 : World} {N bs lb : Nat} {vs : List Sl} {R : Nat → List Int} {q : Option Addr} {c : Nat} {T : List Int} {S : Nat → Bool} {W w8 : World} (h : WJ w0 N bs lb vs R q c T S W) {x : Int} {g8 c8 : Nat} (ho : OwnG KI w8 w0.heap.size (.slice (some ⟨g8, 0, none⟩) (T.length + 1) c8) (T ++ [x])) (hb8 : Below w0.heap.size W w8) (hk : ∀ k, k < W.heap.size → some k ≠ (Value.slice q T.length c).ownBlock → w8.heap[k]? = W.heap[k]?) (hg : (Value.slice q T.length c).ownBlock = some g8 ∨ W.heap.size ≤ g8) : WJ w0 N bs lb vs R (some ⟨g8, 0, none⟩) c8 (T ++ [x]) S w8 := by
  have old : ∀ k, k < W.heap.size → (Value.slice q T.length c).ownBlock ≠ some k → w8.heap[k]? = W.heap[k]? := fun k hkl hn => hk k hkl (fun e => hn e.symm)
  refine ⟨h.bl.trans hb8, h.sn.far fun g hg2 => old g (h.sn.lt hg2).2 (fun e => h.td.apart h.sn (by decide) hg2 e), ⟨h.lz.len, h.lz.out.far fun g hg2 => old g (h.lz.out.lt hg2).2 (fun e => h.td.apart h.lz.out (by decide) hg2 e), fun i hi => (h.lz.row i hi).far fun g hg2 => old g ((h.lz.row i hi).lt hg2).2 (h.ap i hi g hg2), h.lz.ap⟩, by rw [List.length_append]; exact ho, fun i hi g hg2 e => ?_⟩
  rw [List.length_append] at e
  injection e with e
  have e : g8 = g := e
  subst e
  rcases hg with e | e
  · exact h.ap i hi g8 hg2 e
  · have := ((h.lz.row i hi).lt hg2).2
    omega
/-- The last one is taken. -/
theorem WJ.pop {w0 : World} {N bs lb : Nat} {vs : List Sl} {R : Nat → List Int} {g c : Nat} {T : List Int} {x : Int} {S : Nat → Bool} {W : World} (h : WJ w0 N bs lb vs R (some ⟨g, 0, none⟩) c (T ++ [x]) S W) : WJ w0 N bs lb vs R (some ⟨g, 0, none⟩) c T S W := by
  refine ⟨h.bl, h.sn, h.lz, ?_, h.ap⟩
  have h2 := h.td.cut KI_ok.len T.length (by simp)
  rw [List.take_left] at h2
  exact h2
theorem WJ.form {w0 : World} {N bs lb : Nat} {vs : List Sl} {R : Nat → List Int} {q : Option Addr} {c : Nat} {T : List Int} {S : Nat → Bool} {W : World} (h : WJ w0 N bs lb vs R q c T S W) (hT : T ≠ []) : ∃ g, q = some ⟨g, 0, none⟩ := by
  have hn : (Value.slice q T.length c).ownBlock ≠ none := by
    intro e
    rcases h.td.2 with ⟨_, e3⟩ | ⟨g, cap, cur, e3, _⟩
    · exact hT (List.length_eq_zero_iff.1 e3)
    · rw [e3] at e; cases e
  obtain ⟨g, cap, e, _⟩ := h.td.place hn
  injection e with e _ _
  exact ⟨g, e⟩
/-- One more in a list. -/
theorem WJ.lane {w0 : World} {N bs lb : Nat} {vs : List Sl} {E : List (Nat × Nat)} {j : Nat} (hj : j < E.length) {q : Option Addr} {c : Nat} {T : List Int} {S : Nat → Bool} {W w1 w8 : World} (h : WJ w0 N bs lb vs (fun i => nI (tg (E.take j) i)) q c T S W) (hf : E[j].1 < N) {p : Option Addr} {cc g8 c8 : Nat} (hs : slV (vs.getD E[j].1 sl0) = .slice p (nI (tg (E.take j) E[j].1)).length cc) (h1 : Below W.heap.size W w1) (ho : OwnG KI w8 w0.heap.size (.slice (some ⟨g8, 0, none⟩) ((nI (tg (E.take j) E[j].1)).length + 1) c8) (nI (tg (E.take j) E[j].1) ++ [(E[j].2 : Int)])) (h8 : Below w0.heap.size w1 w8) (hk : ∀ k, k < w1.heap.size → some k ≠ (Value.slice p (nI (tg (E.take j) E[j].1)).length cc).ownBlock → w8.heap[k]? = w1.heap[k]?) (hg : (Value.slice p (nI (tg (E.take j) E[j].1)).length cc).ownBlock = some g8 ∨ w1.heap.size ≤ g8) :
    WJ w0 N bs lb (vs.set E[j].1 (some ⟨g8, 0, none⟩, (nI (tg (E.take j) E[j].1)).length + 1, c8)) (fun i => nI (tg (E.take (j + 1)) i)) q c T S (w8.setCell ⟨lb, E[j].1, none⟩ (.slice (some ⟨g8, 0, none⟩) ((nI (tg (E.take j) E[j].1)).length + 1) c8)) ∧ w8.frozen? ⟨lb, E[j].1, none⟩ = false ∧ ∃ u, w8.cell? ⟨lb, E[j].1, none⟩ = some u := by
  have hbb := h.lz.bb
  obtain ⟨m1, m2, m3, m4⟩ := lanes_put (W := w0) hj h.lz h.bl hf hs h1 h.bl.size ho h8 hk hg
  obtain ⟨cl, hcl⟩ := h.lz.out.ty (g := lb) rfl
  have rowof : (slV (vs.getD E[j].1 sl0)).ownBlock = (Value.slice p (nI (tg (E.take j) E[j].1)).length cc).ownBlock := by rw [hs]
  have old : ∀ k, k < W.heap.size → (slV (vs.getD E[j].1 sl0)).ownBlock ≠ some k → w8.heap[k]? = W.heap[k]? := fun k hkl hn => (hk k (Nat.lt_of_lt_of_le hkl h1.size) (fun e => hn (by rw [rowof]; exact e.symm))).trans (h1.block k hkl)
  have all : ∀ k, k < W.heap.size → k ≠ lb → (slV (vs.getD E[j].1 sl0)).ownBlock ≠ some k → (w8.setCell ⟨lb, E[j].1, none⟩ (.slice (some ⟨g8, 0, none⟩) ((nI (tg (E.take j) E[j].1)).length + 1) c8)).heap[k]? = W.heap[k]? := fun k hkl hkb hn => by rw [set_far hkb]; exact old k hkl hn
  refine ⟨⟨m2, ?_, m1, ?_, ?_⟩, m3, m4⟩
  · exact h.sn.far fun g hg2 => all g (h.sn.lt hg2).2 (fun e => h.sn.apart h.lz.out (by decide) (g := g) (by rw [e]; rfl) hg2) (fun e => (h.lz.row _ hf).apart h.sn (by decide) hg2 e)
  · exact h.td.far fun g hg2 => all g (h.td.lt hg2).2 (fun e => h.td.apart h.lz.out (by decide) (g := g) (by rw [e]; rfl) hg2) (fun e => h.ap _ hf g e hg2)
  · intro i hi g hg2
    rw [getD_set _ _ _ _ _ (by rw [h.lz.len]; exact hf)] at hg2
    by_cases e : i = E[j].1
    · rw [if_pos e] at hg2
      injection hg2 with hg2
      have hg2 : g8 = g := hg2
      subst hg2
      rcases hg with e2 | e2
      · exact h.ap _ hf g8 (by rw [rowof]; exact e2)
      · intro e3
        have := (h.td.lt e3).2
        have := h1.size
        omega
    · rw [if_neg e] at hg2
      exact h.ap i hi g hg2
end Go.Proofs.Ytghkhceplpjegaa
namespace Go.Proofs.Ytghkhceplpjegaa
open Go.RowKit

def seenW (w : World) (bs i : Nat) : Bool := match w.cell? ⟨bs, i, none⟩ with | some (.bool b) => b | _ => true
def unW (w : World) (bs N : Nat) : Nat := un N (seenW w bs)
theorem un_congr {N : Nat} {S T : Nat → Bool} (h : ∀ i, i < N → S i = T i) : un N S = un N T := by
  unfold un
  rw [List.filter_congr fun x hx => by rw [h x (by simpa using hx)]]
theorem WJ.un {w0 : World} {N bs lb : Nat} {vs : List Sl} {R : Nat → List Int} {q : Option Addr} {c : Nat} {T : List Int} {S : Nat → Bool} {W : World} (h : WJ w0 N bs lb vs R q c T S W) : unW W bs N = un N S := un_congr fun i hi => by unfold seenW; rw [(h.se hi).1]
def lenV : Value → Nat
  | .slice _ n _ => n
  | _ => 0
/-- The beginning of it: who was seen, and what is to be done. -/
structure WA (w0 : World) (N bs : Nat) (q : Option Addr) (c : Nat) (T : List Int) (W : World) : Prop where
  bl : Below w0.heap.size w0 W
  sn : OwnG KB W w0.heap.size (.slice (some ⟨bs, 0, none⟩) N N) (List.replicate N false)
  td : OwnG KI W w0.heap.size (.slice q T.length c) T
theorem WA.push {w0 : World} {N bs : Nat} {q : Option Addr} {c : Nat} {T : List Int} {W w8 : World} (h : WA w0 N bs q c T W) {x : Int} {g8 c8 : Nat} (ho : OwnG KI w8 w0.heap.size (.slice (some ⟨g8, 0, none⟩) (T.length + 1) c8) (T ++ [x])) (hb8 : Below w0.heap.size W w8) (hk : ∀ k, k < W.heap.size → some k ≠ (Value.slice q T.length c).ownBlock → w8.heap[k]? = W.heap[k]?) : WA w0 N bs (some ⟨g8, 0, none⟩) c8 (T ++ [x]) w8 :=
  ⟨h.bl.trans hb8, h.sn.far fun g hg2 => hk g (h.sn.lt hg2).2 (fun e => h.td.apart h.sn (by decide) hg2 e.symm), by rw [List.length_append]; exact ho⟩
theorem WA.wj {w0 : World} {N bs : Nat} {q : Option Addr} {c : Nat} {T : List Int} {W W' : World} (h : WA w0 N bs q c T W) (hb : Below W.heap.size W W') (ho : OwnG KS W' W.heap.size (.slice (some ⟨W.heap.size, 0, none⟩) N N) (List.replicate N sl0)) : WJ w0 N bs W.heap.size (List.replicate N sl0) (fun _ => []) q c T (fun _ => false) W' := by
  refine ⟨bl3 h.bl hb, ?_, (LZ.fresh ho).low h.bl.size, h.td.below hb, fun i hi g hg => ?_⟩
  · rw [List.map_const', List.length_range]; exact h.sn.below hb
  · have e : (List.replicate N sl0).getD i sl0 = sl0 := by simp [List.getD, hi]
    rw [e] at hg
    cases hg
theorem WJ.imp {w0 : World} {N bs lb : Nat} {vs : List Sl} {R Q : Nat → List Int} {q : Option Addr} {c : Nat} {T : List Int} {S : Nat → Bool} {W : World} (h : WJ w0 N bs lb vs R q c T S W) (k : ∀ i, i < N → R i = Q i) : WJ w0 N bs lb vs Q q c T S W := ⟨h.bl, h.sn, h.lz.imp k, h.td, h.ap⟩
set_option maxRecDepth 100000 in
set_option maxHeartbeats 32000000 in
theorem ways_any (w : World) (N : Nat) (v : Value) (E : List (Nat × Nat)) (hg : GOK N E) (hv : GS KE w v (eI E)) (u : Value) (F : List Nat) (hu : GS KI w u (nI F)) (hF : ∀ f ∈ F, f < N) (hFl : F.length ≤ 4096) (d : Int) : Calls Try.prog 42 #[.agg #[.int .i64 N, v], u, .int .i64 d] w fun e w' => ∃ bs, e = .returned (.slice (some ⟨bs, 0, none⟩) N N) ∧ OwnG KB w' w.heap.size (.slice (some ⟨bs, 0, none⟩) N N) ((List.range N).map (wyB E d F)) ∧ Below w.heap.size w w' := by
  obtain ⟨p, c, rfl⟩ := hv.form
  obtain ⟨pf, cf, rfl⟩ := hu.form
  rw [eI_len, nI_len]
  obtain ⟨el, hel⟩ : ∃ el, el = E.length := ⟨_, rfl⟩
  obtain ⟨fl, hfl⟩ : ∃ fl, fl = F.length := ⟨_, rfl⟩
  rw [← hel, ← hfl]
  have ME : Hid (E.length = el) := hel.symm
  have MF : Hid (F.length = fl) := hfl.symm
  have a4 : el ≤ 16384 := by have := hg.e; omega
  have a5 : N ≤ 4096 := hg.n
  have a6 : fl ≤ 4096 := by omega
  have GA := hid (fun w' (hb : Below w.heap.size w w') j (hj : j < (nI F).length) => GS.atI (hu.below hb) hj)
  have GB := hid (fun w' (hb : Below w.heap.size w w') j (hj : j < E.length) => GS.atN (hv.below hb) hj)
  have HG := hid hg
  have HF := hid hF
  clear hv hu hel hfl hg hF hFl
  go_enter Try.func42, Try.ntmps42
  go_upto_region 1 with fail
  generalize hW : w.alloc (.cells #[.int .i64 N, .slice p el c] 24) = W
  have BW : Hid (Below w.heap.size w W) := by rw [← hW]; exact bal _ _
  have C0 : Hid (∀ W', Below W.heap.size W W' → W'.cell? ⟨w.heap.size, 0, none⟩ = some (.int .i64 N) ∧ W'.cell? ⟨w.heap.size, 1, none⟩ = some (.slice p el c)) := fun W' hb => by
    have e : W'.heap[w.heap.size]? = some (.cells #[.int .i64 N, .slice p el c] 24) := (hb.block _ (by rw [← hW, asz]; omega)).trans (by rw [← hW]; exact heap_alloc_new _ _)
    exact ⟨cell_of_row _ _ _ _ _ _ e, cell_of_row _ _ _ _ _ _ e⟩
  have SW : Hid (w.heap.size < W.heap.size) := by show _ < _; rw [← hW, asz]; omega
  obtain ⟨sz, hsz⟩ : ∃ sz, sz = w.heap.size := ⟨_, rfl⟩
  rw [← hsz] at C0 SW ⊢
  have HZ := hid hsz
  clear hW hsz
  obtain ⟨d0, d1⟩ := C0.out W (Below.refl _ _)
  go_upto_region 2 with (refine make_g KB KB_ok false rfl rfl W rfl (.tmp 16) (.tmp 16) 49 rfl Try.underlying49 N rfl rfl (by omega) (by decide) ?_; intro w1 ho1 hb1; have O1 := hid ho1; have B1 := hid hb1; clear ho1 hb1)
  have A0 : Hid (WA W N W.heap.size (some ⟨w1.heap.size, 0, none⟩) 0 (nI (F.take 0)) (w1.alloc (.cells #[] 3))) := ⟨bl3 B1.out (bal _ _), O1.out.below (bal _ _), (OwnG.empty KI w1).low B1.out.size⟩
  obtain ⟨bs, hbs⟩ : ∃ bs, bs = W.heap.size := ⟨_, rfl⟩
  rw [← hbs] at A0 ⊢
  clear hbs d0 d1
  go_wp2_with fail
  clear O1 B1
  go_loopw [8, 9] (fun v8 v9 wr => ∃ (j : Nat) (T : List Int) (q : Option Addr) (d : Nat) (wk : World), v9 = .int .i64 j ∧ v8 = .slice q T.length d ∧ wk = wr ∧ j ≤ fl ∧ Hid (T = nI (F.take j)) ∧ Hid (WA W N bs q d T wk)) (fun _ v9 _ => fl - (intOf v9).toNat)
  case atStart => exact ⟨0, nI (F.take 0), _, _, _, rfl, rfl, rfl, Nat.zero_le _, rfl, A0⟩
  case round =>
    obtain ⟨j, T, q, cq, wr, rfl, rfl, rfl, hj, HT, HA⟩ := hrel
    clear A0
    have TL : T.length ≤ 4096 := by rw [HT.out, nI_len, List.length_take]; omega
    by_cases hlt : j < fl
    · have j1 : j < F.length := by have := MF.out; omega
      obtain ⟨X, o, e1, c1⟩ := GA.out wr (bl3 BW.out HA.out.bl) j (by rw [nI_len]; exact j1)
      rw [nI_at j1] at c1
      subst e1
      have T2 : Hid (T ++ [(F[j] : Int)] = nI (F.take (j + 1))) := by show _ = _; rw [List.take_succ_eq_append_getElem j1, nI_app, HT.out]; rfl
      have LS : Hid ((T.length + 1) * KI.B ≤ 140737488355328) := by show (_ + 1) * 8 ≤ _; omega
      have hji : (j : Int) < (fl : Nat) := by omega
      generalize F[j] = x at *
      go_wp2_with (at_builtin; refine append_g KI KI_ok rfl (.tmp 25) (.tmp 30) 25 rfl W.heap.size Try.underlying25 wr _ _ (.slice q T.length cq) T (x : Int) _ rfl HA.out.td wr.heap.size rfl rfl rfl LS.out HA.out.bl.size ?_; intro g5 cp5 w5 ho5 hb5 hk5 _; have A5 := hid (HA.out.push ho5 hb5 hk5); clear ho5 hb5 hk5)
      go_roundw
      case rel => exact ⟨j + 1, T ++ [(x : Int)], some ⟨g5, 0, none⟩, cp5, _, by go_num, by rw [List.length_append]; rfl, rfl, by omega, T2, A5⟩
      case measure => simp [intOf]; omega
    · obtain rfl : j = fl := by omega
      have HT2 : Hid (T = nI F) := by
        have := HT.out
        rw [List.take_of_length_le (by rw [MF.out]; exact Nat.le_refl _)] at this
        exact this
      obtain ⟨d0, d1⟩ := C0.out wr HA.out.bl
      clear HT
      go_upto_region 8 with (refine make_g KS KS_ok sl0 rfl rfl wr rfl (.tmp 33) (.tmp 33) 42 rfl Try.underlying42 N rfl rfl (by omega) (by decide) ?_; intro w2 ho2 hb2; have J0 := hid ((HA.out.wj hb2 ho2).imp (Q := fun i => nI (tg (E.take 0) i)) fun i _ => rfl); clear ho2 hb2)
      obtain ⟨lb, hlb⟩ : ∃ lb, lb = wr.heap.size := ⟨_, rfl⟩
      rw [← hlb] at J0 ⊢
      clear hlb d0 d1 HA
      go_wp2_with fail
      go_loopw [11] (fun v11 wl => ∃ (j : Nat) (vs : List Sl) (wk : World), v11 = .int .i64 j ∧ wk = wl ∧ j ≤ el ∧ Hid (WJ W N bs lb vs (fun i => nI (tg (E.take j) i)) q cq T (fun _ => false) wk)) (fun v11 _ => el - (intOf v11).toNat)
      case atStart => exact ⟨0, _, _, rfl, rfl, Nat.zero_le _, J0⟩
      case round =>
        obtain ⟨k, vs, wl, rfl, rfl, hk, HJ⟩ := hrel
        clear J0
        obtain ⟨d0, d1⟩ := C0.out wl HJ.out.bl
        by_cases hlt2 : k < el
        · have k1 : k < E.length := by have := ME.out; omega
          obtain ⟨X, o, e1, c1, c2⟩ := GB.out wl (bl3 BW.out HJ.out.bl) k k1
          subst e1
          have hf : E[k].1 < N := (HG.out.lt _ (List.getElem_mem k1)).1
          have hki : (k : Int) < (el : Nat) := by omega
          have hk0 : (0 : Int) ≤ (k : Nat) := by omega
          obtain ⟨pp, cc, q1, q2, q3⟩ := HJ.out.lz.at hf
          have hrl : (nI (tg (E.take k) E[k].1)).length ≤ 16384 := by rw [nI_len]; have := tg_len (E.take k) E[k].1; rw [List.length_take] at this; omega
          have LP := hid (fun w1 w8 g8 c8 (h1 : Below wl.heap.size wl w1) => HJ.out.lane (w1 := w1) (w8 := w8) (g8 := g8) (c8 := c8) k1 hf q2 h1)
          have OW := hid q3
          have BJ := hid HJ.out.bl
          have GC : Hid (∀ W', Below W.heap.size W W' → W'.cell? ⟨sz, 1, none⟩ = some (.slice (some ⟨X, o, none⟩) el c) ∧ W'.cell? ⟨X, o + k * 2, none⟩ = some (.int .i64 (E[k].1 : Nat)) ∧ W'.cell? ⟨X, o + k * 2 + 1, none⟩ = some (.int .i64 (E[k].2 : Nat))) := fun W' hb => by
            obtain ⟨X2, o2, e2, y1, y2⟩ := GB.out W' (bl3 BW.out hb) k k1
            injection e2 with e2
            injection e2 with e2 e3 _
            subst e2 e3
            exact ⟨(C0.out W' hb).2, y1, y2⟩
          have hbb := HJ.out.lz.bb
          have NB : Hid (lb ≠ sz) := by have := hbb.1; have := SW.out; show _ ≠ _; omega
          generalize nI (tg (E.take k) E[k].1) = row at *
          generalize E[k].1 = f at *
          generalize E[k].2 = t at *
          have hfi : (f : Int) < (N : Nat) := by omega
          have hf0 : (0 : Int) ≤ (f : Nat) := by omega
          have LS : Hid ((row.length + 1) * KI.B ≤ 140737488355328) := by show (_ + 1) * 8 ≤ _; omega
          have z2 : ∀ ob, (wl.alloc ob).cell? ⟨lb, f, none⟩ = some (.slice pp row.length cc) := fun ob => ((bal wl ob).cell (p := ⟨lb, f, none⟩) hbb.2).trans q1
          have BD : Hid (Below wl.heap.size wl wl.drew) := drew_below wl 1
          have BZ : Hid (W.heap.size ≤ wl.heap.size) := HJ.out.bl.size
          have GS2 : Hid (∀ w8 g c8, Below W.heap.size W w8 → W.heap.size ≤ lb → Below W.heap.size W (w8.setCell ⟨lb, f, none⟩ (.slice (some ⟨g, 0, none⟩) (row.length + 1) c8))) := fun w8 g c8 hb hl => hb.setCell (p := ⟨lb, f, none⟩) hl _
          clear q2 q3
          go_wp2_with fail
          refine wp_region_held_drew (S := (fun w' => w'.cell? ⟨sz, 1, none⟩ = some (.slice (some ⟨X, o, none⟩) el c) ∧ w'.cell? ⟨X, o + k * 2, none⟩ = some (.int .i64 f) ∧ w'.cell? ⟨X, o + k * 2 + 1, none⟩ = some (.int .i64 t))) (by kernel_rfl) ?_ (fun hHeld => ?_)
          · exact GC.out _ (bl3 BJ.out BD.out)
          refine wpAnyH_take (i := 0) (oi := { dst := some 42, op := Op.move (Operand.tmp 10), type := 42, pos := "ref.go:71", after := #[], guard := none }) (v := ?_) rfl (by kernel_rfl) (by kernel_rfl) (by kernel_rfl) (fun _ _ _ h => h) (Or.inl ⟨by rfl, ?_⟩) (by assumption) ?_
          rotate_left
          · intro w hSw
            try dsimp only at hSw
            go_simp
            try with_reducible rfl
          try simp only [Act.put, List.setIfInBounds_toArray, List.set_cons_zero, List.set_cons_succ]
          refine wpAnyH_take (i := 1) (oi := { dst := some 43, op := Op.fieldAddr 24 (Operand.tmp 3) 1, type := 0, pos := "ref.go:71", after := #[], guard := none }) (v := ?_) rfl (by kernel_rfl) (by kernel_rfl) (by kernel_rfl) (fun _ _ _ h => h) (Or.inl ⟨by rfl, ?_⟩) (by assumption) ?_
          rotate_left
          · intro w hSw
            try dsimp only at hSw
            go_simp
            try with_reducible rfl
          try simp only [Act.put, List.setIfInBounds_toArray, List.set_cons_zero, List.set_cons_succ]
          refine wpAnyH_take (i := 2) (oi := { dst := some 44, op := Op.load 22 (Operand.tmp 43), type := 22, pos := "ref.go:71", after := #[{ on := 1, ground := Ground.data }], guard := none }) (v := ?_) rfl (by kernel_rfl) (by kernel_rfl) (by kernel_rfl) (fun _ _ _ h => h) (Or.inl ⟨by rfl, ?_⟩) (by assumption) ?_
          rotate_left
          · intro w hSw
            try dsimp only at hSw
            go_simp
            try with_reducible rfl
          try simp only [Act.put, List.setIfInBounds_toArray, List.set_cons_zero, List.set_cons_succ]
          refine wpAnyH_take (i := 3) (oi := { dst := some 45, op := Op.move (Operand.tmp 11), type := 3, pos := "ref.go:71", after := #[], guard := none }) (v := ?_) rfl (by kernel_rfl) (by kernel_rfl) (by kernel_rfl) (fun _ _ _ h => h) (Or.inl ⟨by rfl, ?_⟩) (by assumption) ?_
          rotate_left
          · intro w hSw
            try dsimp only at hSw
            go_simp
            try with_reducible rfl
          try simp only [Act.put, List.setIfInBounds_toArray, List.set_cons_zero, List.set_cons_succ]
          refine wpAnyH_take (i := 4) (oi := { dst := some 46, op := Op.indexAddr 22 (Operand.tmp 44) (Operand.tmp 45), type := 0, pos := "ref.go:71", after := #[{ on := 2, ground := Ground.data }, { on := 3, ground := Ground.data }], guard := none }) (v := ?_) rfl (by kernel_rfl) (by kernel_rfl) (by kernel_rfl) (fun _ _ _ h => h) (Or.inl ⟨by rfl, ?_⟩) (by assumption) ?_
          rotate_left
          · intro w hSw
            try dsimp only at hSw
            go_simp
            try with_reducible rfl
          try simp only [Act.put, List.setIfInBounds_toArray, List.set_cons_zero, List.set_cons_succ]
          refine wpAnyH_take (i := 5) (oi := { dst := some 47, op := Op.fieldAddr 47 (Operand.tmp 46) 0, type := 0, pos := "ref.go:71", after := #[{ on := 4, ground := Ground.data }], guard := none }) (v := ?_) rfl (by kernel_rfl) (by kernel_rfl) (by kernel_rfl) (fun _ _ _ h => h) (Or.inl ⟨by rfl, ?_⟩) (by assumption) ?_
          rotate_left
          · intro w hSw
            try dsimp only at hSw
            go_simp
            try with_reducible rfl
          try simp only [Act.put, List.setIfInBounds_toArray, List.set_cons_zero, List.set_cons_succ]
          refine wpAnyH_take (i := 6) (oi := { dst := some 48, op := Op.load 3 (Operand.tmp 47), type := 3, pos := "ref.go:71", after := #[{ on := 5, ground := Ground.data }], guard := none }) (v := ?_) rfl (by kernel_rfl) (by kernel_rfl) (by kernel_rfl) (fun _ _ _ h => h) (Or.inl ⟨by rfl, ?_⟩) (by assumption) ?_
          rotate_left
          · intro w hSw
            try dsimp only at hSw
            go_simp
            try with_reducible rfl
          try simp only [Act.put, List.setIfInBounds_toArray, List.set_cons_zero, List.set_cons_succ]
          refine wpAnyH_take (i := 7) (oi := { dst := some 49, op := Op.move (Operand.tmp 10), type := 42, pos := "ref.go:71", after := #[], guard := none }) (v := ?_) rfl (by kernel_rfl) (by kernel_rfl) (by kernel_rfl) (fun _ _ _ h => h) (Or.inl ⟨by rfl, ?_⟩) (by assumption) ?_
          rotate_left
          · intro w hSw
            try dsimp only at hSw
            go_simp
            try with_reducible rfl
          try simp only [Act.put, List.setIfInBounds_toArray, List.set_cons_zero, List.set_cons_succ]
          refine wpAnyH_take (i := 8) (oi := { dst := some 50, op := Op.fieldAddr 24 (Operand.tmp 3) 1, type := 0, pos := "ref.go:71", after := #[], guard := none }) (v := ?_) rfl (by kernel_rfl) (by kernel_rfl) (by kernel_rfl) (fun _ _ _ h => h) (Or.inl ⟨by rfl, ?_⟩) (by assumption) ?_
          rotate_left
          · intro w hSw
            try dsimp only at hSw
            go_simp
            try with_reducible rfl
          try simp only [Act.put, List.setIfInBounds_toArray, List.set_cons_zero, List.set_cons_succ]
          refine wpAnyH_take (i := 9) (oi := { dst := some 51, op := Op.load 22 (Operand.tmp 50), type := 22, pos := "ref.go:71", after := #[{ on := 8, ground := Ground.data }], guard := none }) (v := ?_) rfl (by kernel_rfl) (by kernel_rfl) (by kernel_rfl) (fun _ _ _ h => h) (Or.inl ⟨by rfl, ?_⟩) (by assumption) ?_
          rotate_left
          · intro w hSw
            try dsimp only at hSw
            go_simp
            try with_reducible rfl
          try simp only [Act.put, List.setIfInBounds_toArray, List.set_cons_zero, List.set_cons_succ]
          refine wpAnyH_take (i := 10) (oi := { dst := some 52, op := Op.move (Operand.tmp 11), type := 3, pos := "ref.go:71", after := #[], guard := none }) (v := ?_) rfl (by kernel_rfl) (by kernel_rfl) (by kernel_rfl) (fun _ _ _ h => h) (Or.inl ⟨by rfl, ?_⟩) (by assumption) ?_
          rotate_left
          · intro w hSw
            try dsimp only at hSw
            go_simp
            try with_reducible rfl
          try simp only [Act.put, List.setIfInBounds_toArray, List.set_cons_zero, List.set_cons_succ]
          refine wpAnyH_take (i := 11) (oi := { dst := some 53, op := Op.indexAddr 22 (Operand.tmp 51) (Operand.tmp 52), type := 0, pos := "ref.go:71", after := #[{ on := 9, ground := Ground.data }, { on := 10, ground := Ground.data }], guard := none }) (v := ?_) rfl (by kernel_rfl) (by kernel_rfl) (by kernel_rfl) (fun _ _ _ h => h) (Or.inl ⟨by rfl, ?_⟩) (by assumption) ?_
          rotate_left
          · intro w hSw
            try dsimp only at hSw
            go_simp
            try with_reducible rfl
          try simp only [Act.put, List.setIfInBounds_toArray, List.set_cons_zero, List.set_cons_succ]
          refine wpAnyH_take (i := 12) (oi := { dst := some 54, op := Op.fieldAddr 47 (Operand.tmp 53) 0, type := 0, pos := "ref.go:71", after := #[{ on := 11, ground := Ground.data }], guard := none }) (v := ?_) rfl (by kernel_rfl) (by kernel_rfl) (by kernel_rfl) (fun _ _ _ h => h) (Or.inl ⟨by rfl, ?_⟩) (by assumption) ?_
          rotate_left
          · intro w hSw
            try dsimp only at hSw
            go_simp
            try with_reducible rfl
          try simp only [Act.put, List.setIfInBounds_toArray, List.set_cons_zero, List.set_cons_succ]
          refine wpAnyH_take (i := 13) (oi := { dst := some 55, op := Op.load 3 (Operand.tmp 54), type := 3, pos := "ref.go:71", after := #[{ on := 12, ground := Ground.data }], guard := none }) (v := ?_) rfl (by kernel_rfl) (by kernel_rfl) (by kernel_rfl) (fun _ _ _ h => h) (Or.inl ⟨by rfl, ?_⟩) (by assumption) ?_
          rotate_left
          · intro w hSw
            try dsimp only at hSw
            go_simp
            try with_reducible rfl
          try simp only [Act.put, List.setIfInBounds_toArray, List.set_cons_zero, List.set_cons_succ]
          refine wpAnyH_take (i := 14) (oi := { dst := some 56, op := Op.indexAddr 42 (Operand.tmp 49) (Operand.tmp 55), type := 0, pos := "ref.go:71", after := #[{ on := 7, ground := Ground.data }, { on := 13, ground := Ground.data }], guard := none }) (v := ?_) rfl (by kernel_rfl) (by kernel_rfl) (by kernel_rfl) (fun _ _ _ h => h) (Or.inl ⟨by rfl, ?_⟩) (by assumption) ?_
          rotate_left
          · intro w hSw
            try dsimp only at hSw
            go_simp
            try with_reducible rfl
          try simp only [Act.put, List.setIfInBounds_toArray, List.set_cons_zero, List.set_cons_succ]
          refine wpAnyH_take (i := 16) (oi := { dst := some 58, op := Op.fieldAddr 24 (Operand.tmp 3) 1, type := 0, pos := "ref.go:71", after := #[], guard := none }) (v := ?_) rfl (by kernel_rfl) (by kernel_rfl) (by kernel_rfl) (fun _ _ _ h => h) (Or.inl ⟨by rfl, ?_⟩) (by assumption) ?_
          rotate_left
          · intro w hSw
            try dsimp only at hSw
            go_simp
            try with_reducible rfl
          try simp only [Act.put, List.setIfInBounds_toArray, List.set_cons_zero, List.set_cons_succ]
          refine wpAnyH_take (i := 17) (oi := { dst := some 59, op := Op.load 22 (Operand.tmp 58), type := 22, pos := "ref.go:71", after := #[{ on := 16, ground := Ground.data }], guard := none }) (v := ?_) rfl (by kernel_rfl) (by kernel_rfl) (by kernel_rfl) (fun _ _ _ h => h) (Or.inl ⟨by rfl, ?_⟩) (by assumption) ?_
          rotate_left
          · intro w hSw
            try dsimp only at hSw
            go_simp
            try with_reducible rfl
          try simp only [Act.put, List.setIfInBounds_toArray, List.set_cons_zero, List.set_cons_succ]
          refine wpAnyH_take (i := 18) (oi := { dst := some 60, op := Op.move (Operand.tmp 11), type := 3, pos := "ref.go:71", after := #[], guard := none }) (v := ?_) rfl (by kernel_rfl) (by kernel_rfl) (by kernel_rfl) (fun _ _ _ h => h) (Or.inl ⟨by rfl, ?_⟩) (by assumption) ?_
          rotate_left
          · intro w hSw
            try dsimp only at hSw
            go_simp
            try with_reducible rfl
          try simp only [Act.put, List.setIfInBounds_toArray, List.set_cons_zero, List.set_cons_succ]
          refine wpAnyH_take (i := 19) (oi := { dst := some 61, op := Op.indexAddr 22 (Operand.tmp 59) (Operand.tmp 60), type := 0, pos := "ref.go:71", after := #[{ on := 17, ground := Ground.data }, { on := 18, ground := Ground.data }], guard := none }) (v := ?_) rfl (by kernel_rfl) (by kernel_rfl) (by kernel_rfl) (fun _ _ _ h => h) (Or.inl ⟨by rfl, ?_⟩) (by assumption) ?_
          rotate_left
          · intro w hSw
            try dsimp only at hSw
            go_simp
            try with_reducible rfl
          try simp only [Act.put, List.setIfInBounds_toArray, List.set_cons_zero, List.set_cons_succ]
          refine wpAnyH_take (i := 20) (oi := { dst := some 62, op := Op.fieldAddr 47 (Operand.tmp 61) 1, type := 0, pos := "ref.go:71", after := #[{ on := 19, ground := Ground.data }], guard := none }) (v := ?_) rfl (by kernel_rfl) (by kernel_rfl) (by kernel_rfl) (fun _ _ _ h => h) (Or.inl ⟨by rfl, ?_⟩) (by assumption) ?_
          rotate_left
          · intro w hSw
            try dsimp only at hSw
            go_simp
            try with_reducible rfl
          try simp only [Act.put, List.setIfInBounds_toArray, List.set_cons_zero, List.set_cons_succ]
          refine wpAnyH_take (i := 21) (oi := { dst := some 63, op := Op.load 3 (Operand.tmp 62), type := 3, pos := "ref.go:71", after := #[{ on := 20, ground := Ground.data }], guard := none }) (v := ?_) rfl (by kernel_rfl) (by kernel_rfl) (by kernel_rfl) (fun _ _ _ h => h) (Or.inl ⟨by rfl, ?_⟩) (by assumption) ?_
          rotate_left
          · intro w hSw
            try dsimp only at hSw
            go_simp
            try with_reducible rfl
          try simp only [Act.put, List.setIfInBounds_toArray, List.set_cons_zero, List.set_cons_succ]
          refine wpAnyH_ready (rs := [15, 22]) (by kernel_rfl) (by simp) ?_
          refine (AllReadyH.cons (o := { dst := some 57, op := Op.load 25 (Operand.tmp 56), type := 25, pos := "ref.go:71", after := #[{ on := 14, ground := Ground.data }], guard := none }) rfl (fun K hK => ?_) (AllReadyH.cons (o := { dst := some 64, op := Op.buildSlice 25 1 #[(0, Operand.tmp 63)], type := 25, pos := "ref.go:71", after := #[{ on := 21, ground := Ground.data }], guard := none }) rfl (fun K hK => ?_) AllReadyH.nil))
          · go_simp
            refine hK.out _ _ ?_ (fun hHeld => ?_)
            · exact GC.out _ (by first | exact bl3 BJ.out BD.out | exact bl3 (bl3 BJ.out BD.out) (bal _ _) | exact bl3 BJ.out (bal _ _))
            clear hK K
            try simp only [Act.put, List.setIfInBounds_toArray, List.set_cons_zero, List.set_cons_succ]
            refine wpAnyH_ready (rs := [22]) (by kernel_rfl) (by simp) ?_
            refine AllReadyH.cons (o := { dst := some 64, op := Op.buildSlice 25 1 #[(0, Operand.tmp 63)], type := 25, pos := "ref.go:71", after := #[{ on := 21, ground := Ground.data }], guard := none }) rfl (fun K hK => ?_) AllReadyH.nil
            go_simp
            refine hK.out _ _ ?_ (fun hHeld => ?_)
            · exact GC.out _ (by first | exact bl3 BJ.out BD.out | exact bl3 (bl3 BJ.out BD.out) (bal _ _) | exact bl3 BJ.out (bal _ _))
            clear hK K
            try simp only [Act.put, List.setIfInBounds_toArray, List.set_cons_zero, List.set_cons_succ]
            refine wpAnyH_ready (rs := [23]) (by kernel_rfl) (by simp) ?_
            refine AllReadyH.cons (o := { dst := some 65, op := Op.call { callee := Callee.builtin Builtin.append, args := #[Operand.tmp 57, Operand.tmp 64], argTypes := #[25, 25] }, type := 25, pos := "ref.go:71", after := #[{ on := 15, ground := Ground.data }, { on := 22, ground := Ground.data }], guard := none }) rfl (fun K hK => ?_) AllReadyH.nil
            refine step_append_g KI KI_ok (by rfl) (.tmp 57) (.tmp 64) 25 (by rfl) W.heap.size Try.underlying25 _ _ _ _ (by first | exact heap_alloc_new _ _) (.slice pp row.length cc) row (t : Int) _ (by rfl) (OwnG.below OW.out (by first | exact (Below.refl _ _).alloc (Nat.le_refl _) _ | exact ((Below.refl _ _).drew).alloc (Nat.le_refl _) _)) (by rfl) (by rfl) LS.out (by first | (simp; exact BZ.out) | (have := BZ.out; simp; omega)) ?_
            intro g8 c8 w8 o8 b8 k8 q8
            obtain ⟨m1, m3, u8, m4⟩ := LP.out _ w8 g8 c8 (by first | exact (Below.refl _ _).alloc (Nat.le_refl _) _ | exact ((Below.refl _ _).drew).alloc (Nat.le_refl _) _) o8 b8 k8 q8
            have B8 : Hid (Below W.heap.size W w8) := (by first | exact (bl3 BJ.out (bal _ _)).trans b8 | exact (bl3 BJ.out (((Below.refl _ _).drew).alloc (Nat.le_refl _) _)).trans b8)
            obtain ⟨y0, y1, y2⟩ := GC.out w8 B8.out
            have N1 := hid m1
            clear m1 o8 b8 q8 k8
            refine hK.out _ _ ?_ (fun hHeld => ?_)
            · exact GC.out _ B8.out
            clear hK K
            try simp only [Act.put, List.setIfInBounds_toArray, List.set_cons_zero, List.set_cons_succ]
            refine wpAnyH_take (i := 24) (oi := { dst := some 66, op := Op.indexAddr 42 (Operand.tmp 42) (Operand.tmp 48), type := 0, pos := "ref.go:71", after := #[{ on := 0, ground := Ground.data }, { on := 6, ground := Ground.data }, { on := 0, ground := Ground.phase }, { on := 1, ground := Ground.phase }, { on := 2, ground := Ground.phase }, { on := 3, ground := Ground.phase }, { on := 4, ground := Ground.phase }, { on := 5, ground := Ground.phase }, { on := 6, ground := Ground.phase }, { on := 7, ground := Ground.phase }, { on := 8, ground := Ground.phase }, { on := 9, ground := Ground.phase }, { on := 10, ground := Ground.phase }, { on := 11, ground := Ground.phase }, { on := 12, ground := Ground.phase }, { on := 13, ground := Ground.phase }, { on := 14, ground := Ground.phase }, { on := 15, ground := Ground.phase }, { on := 16, ground := Ground.phase }, { on := 17, ground := Ground.phase }, { on := 18, ground := Ground.phase }, { on := 19, ground := Ground.phase }, { on := 20, ground := Ground.phase }, { on := 21, ground := Ground.phase }, { on := 22, ground := Ground.phase }, { on := 23, ground := Ground.phase }], guard := none }) (v := ?_) rfl (by kernel_rfl) (by kernel_rfl) (by kernel_rfl) (fun _ _ _ h => h) (Or.inl ⟨by rfl, ?_⟩) (by assumption) ?_
            rotate_left
            · intro w hSw
              try dsimp only at hSw
              go_simp
              try with_reducible rfl
            try simp only [Act.put, List.setIfInBounds_toArray, List.set_cons_zero, List.set_cons_succ]
            refine wpAnyH_ready (rs := [25]) (by kernel_rfl) (by simp) ?_
            refine AllReadyH.cons (o := { dst := none, op := Op.store 25 (Operand.tmp 66) (Operand.tmp 65), type := 0, pos := "ref.go:71", after := #[{ on := 24, ground := Ground.data }, { on := 23, ground := Ground.data }, { on := 23, ground := Ground.chain }, { on := 0, ground := Ground.phase }, { on := 1, ground := Ground.phase }, { on := 2, ground := Ground.phase }, { on := 3, ground := Ground.phase }, { on := 4, ground := Ground.phase }, { on := 5, ground := Ground.phase }, { on := 6, ground := Ground.phase }, { on := 7, ground := Ground.phase }, { on := 8, ground := Ground.phase }, { on := 9, ground := Ground.phase }, { on := 10, ground := Ground.phase }, { on := 11, ground := Ground.phase }, { on := 12, ground := Ground.phase }, { on := 13, ground := Ground.phase }, { on := 14, ground := Ground.phase }, { on := 15, ground := Ground.phase }, { on := 16, ground := Ground.phase }, { on := 17, ground := Ground.phase }, { on := 18, ground := Ground.phase }, { on := 19, ground := Ground.phase }, { on := 20, ground := Ground.phase }, { on := 21, ground := Ground.phase }, { on := 22, ground := Ground.phase }, { on := 23, ground := Ground.phase }], guard := none }) rfl (fun K hK => ?_) AllReadyH.nil
            go_simp
            refine hK.out _ _ ?_ (fun hHeld => ?_)
            · exact GC.out _ (GS2.out _ _ _ B8.out hbb.1)
            clear hK K
            try simp only [Act.put, List.setIfInBounds_toArray, List.set_cons_zero, List.set_cons_succ]
            refine wpAnyH_done (by kernel_rfl) ?_ _
            go_wp2
            go_roundw
            case rel => exact ⟨k + 1, _, _, by go_num, rfl, by omega, N1⟩
            case measure => simp [intOf]; omega
          · go_simp
            refine hK.out _ _ ?_ (fun hHeld => ?_)
            · exact GC.out _ (by first | exact bl3 BJ.out BD.out | exact bl3 (bl3 BJ.out BD.out) (bal _ _) | exact bl3 BJ.out (bal _ _))
            clear hK K
            try simp only [Act.put, List.setIfInBounds_toArray, List.set_cons_zero, List.set_cons_succ]
            refine wpAnyH_ready (rs := [15]) (by kernel_rfl) (by simp) ?_
            refine AllReadyH.cons (o := { dst := some 57, op := Op.load 25 (Operand.tmp 56), type := 25, pos := "ref.go:71", after := #[{ on := 14, ground := Ground.data }], guard := none }) rfl (fun K hK => ?_) AllReadyH.nil
            go_simp
            refine hK.out _ _ ?_ (fun hHeld => ?_)
            · exact GC.out _ (by first | exact bl3 BJ.out BD.out | exact bl3 (bl3 BJ.out BD.out) (bal _ _) | exact bl3 BJ.out (bal _ _))
            clear hK K
            try simp only [Act.put, List.setIfInBounds_toArray, List.set_cons_zero, List.set_cons_succ]
            refine wpAnyH_ready (rs := [23]) (by kernel_rfl) (by simp) ?_
            refine AllReadyH.cons (o := { dst := some 65, op := Op.call { callee := Callee.builtin Builtin.append, args := #[Operand.tmp 57, Operand.tmp 64], argTypes := #[25, 25] }, type := 25, pos := "ref.go:71", after := #[{ on := 15, ground := Ground.data }, { on := 22, ground := Ground.data }], guard := none }) rfl (fun K hK => ?_) AllReadyH.nil
            refine step_append_g KI KI_ok (by rfl) (.tmp 57) (.tmp 64) 25 (by rfl) W.heap.size Try.underlying25 _ _ _ _ (by first | exact heap_alloc_new _ _) (.slice pp row.length cc) row (t : Int) _ (by rfl) (OwnG.below OW.out (by first | exact (Below.refl _ _).alloc (Nat.le_refl _) _ | exact ((Below.refl _ _).drew).alloc (Nat.le_refl _) _)) (by rfl) (by rfl) LS.out (by first | (simp; exact BZ.out) | (have := BZ.out; simp; omega)) ?_
            intro g8 c8 w8 o8 b8 k8 q8
            obtain ⟨m1, m3, u8, m4⟩ := LP.out _ w8 g8 c8 (by first | exact (Below.refl _ _).alloc (Nat.le_refl _) _ | exact ((Below.refl _ _).drew).alloc (Nat.le_refl _) _) o8 b8 k8 q8
            have B8 : Hid (Below W.heap.size W w8) := (by first | exact (bl3 BJ.out (bal _ _)).trans b8 | exact (bl3 BJ.out (((Below.refl _ _).drew).alloc (Nat.le_refl _) _)).trans b8)
            obtain ⟨y0, y1, y2⟩ := GC.out w8 B8.out
            have N1 := hid m1
            clear m1 o8 b8 q8 k8
            refine hK.out _ _ ?_ (fun hHeld => ?_)
            · exact GC.out _ B8.out
            clear hK K
            try simp only [Act.put, List.setIfInBounds_toArray, List.set_cons_zero, List.set_cons_succ]
            refine wpAnyH_take (i := 24) (oi := { dst := some 66, op := Op.indexAddr 42 (Operand.tmp 42) (Operand.tmp 48), type := 0, pos := "ref.go:71", after := #[{ on := 0, ground := Ground.data }, { on := 6, ground := Ground.data }, { on := 0, ground := Ground.phase }, { on := 1, ground := Ground.phase }, { on := 2, ground := Ground.phase }, { on := 3, ground := Ground.phase }, { on := 4, ground := Ground.phase }, { on := 5, ground := Ground.phase }, { on := 6, ground := Ground.phase }, { on := 7, ground := Ground.phase }, { on := 8, ground := Ground.phase }, { on := 9, ground := Ground.phase }, { on := 10, ground := Ground.phase }, { on := 11, ground := Ground.phase }, { on := 12, ground := Ground.phase }, { on := 13, ground := Ground.phase }, { on := 14, ground := Ground.phase }, { on := 15, ground := Ground.phase }, { on := 16, ground := Ground.phase }, { on := 17, ground := Ground.phase }, { on := 18, ground := Ground.phase }, { on := 19, ground := Ground.phase }, { on := 20, ground := Ground.phase }, { on := 21, ground := Ground.phase }, { on := 22, ground := Ground.phase }, { on := 23, ground := Ground.phase }], guard := none }) (v := ?_) rfl (by kernel_rfl) (by kernel_rfl) (by kernel_rfl) (fun _ _ _ h => h) (Or.inl ⟨by rfl, ?_⟩) (by assumption) ?_
            rotate_left
            · intro w hSw
              try dsimp only at hSw
              go_simp
              try with_reducible rfl
            try simp only [Act.put, List.setIfInBounds_toArray, List.set_cons_zero, List.set_cons_succ]
            refine wpAnyH_ready (rs := [25]) (by kernel_rfl) (by simp) ?_
            refine AllReadyH.cons (o := { dst := none, op := Op.store 25 (Operand.tmp 66) (Operand.tmp 65), type := 0, pos := "ref.go:71", after := #[{ on := 24, ground := Ground.data }, { on := 23, ground := Ground.data }, { on := 23, ground := Ground.chain }, { on := 0, ground := Ground.phase }, { on := 1, ground := Ground.phase }, { on := 2, ground := Ground.phase }, { on := 3, ground := Ground.phase }, { on := 4, ground := Ground.phase }, { on := 5, ground := Ground.phase }, { on := 6, ground := Ground.phase }, { on := 7, ground := Ground.phase }, { on := 8, ground := Ground.phase }, { on := 9, ground := Ground.phase }, { on := 10, ground := Ground.phase }, { on := 11, ground := Ground.phase }, { on := 12, ground := Ground.phase }, { on := 13, ground := Ground.phase }, { on := 14, ground := Ground.phase }, { on := 15, ground := Ground.phase }, { on := 16, ground := Ground.phase }, { on := 17, ground := Ground.phase }, { on := 18, ground := Ground.phase }, { on := 19, ground := Ground.phase }, { on := 20, ground := Ground.phase }, { on := 21, ground := Ground.phase }, { on := 22, ground := Ground.phase }, { on := 23, ground := Ground.phase }], guard := none }) rfl (fun K hK => ?_) AllReadyH.nil
            go_simp
            refine hK.out _ _ ?_ (fun hHeld => ?_)
            · exact GC.out _ (GS2.out _ _ _ B8.out hbb.1)
            clear hK K
            try simp only [Act.put, List.setIfInBounds_toArray, List.set_cons_zero, List.set_cons_succ]
            refine wpAnyH_done (by kernel_rfl) ?_ _
            go_wp2
            go_roundw
            case rel => exact ⟨k + 1, _, _, by go_num, rfl, by omega, N1⟩
            case measure => simp [intOf]; omega
        · obtain rfl : k = el := by omega
          have HJ2 : Hid (WJ W N bs lb vs (fun i => nI (tg E i)) q cq (nI F) (fun _ => false) wl) := by
            have := HJ.out
            rw [HT2.out] at this
            exact this.imp fun i _ => by rw [List.take_of_length_le (by rw [ME.out]; exact Nat.le_refl _)]
          have LT : Hid (T.length = F.length) := by show _ = _; rw [HT2.out, nI_len]
          have WS0 := hid (WyS.start E d F)
          have UN0 : Hid (F.length + un N (fun _ => false) ≤ 8192) := by have := un_top N (fun _ => false); have := MF.out; show _ ≤ _; omega
          have TG := hid (fun i => tg_len E i)
          clear HJ
          go_wp2
          rw [LT.out]
          clear LT HT2 d0 d1
          go_loopw [8] (fun v8 wp => ∃ (T : List Nat) (S : Nat → Bool) (q : Option Addr) (cq : Nat) (wk : World), v8 = .slice q T.length cq ∧ wk = wp ∧ Hid (WJ W N bs lb vs (fun i => nI (tg E i)) q cq (nI T) S wk) ∧ Hid (WyS E d F S T) ∧ Hid (T.length + un N S ≤ 8192) ∧ Hid (∀ x ∈ T, x < N)) (fun v8 wp => lenV v8 + unW wp bs N)
          case atStart => exact ⟨F, _, q, cq, _, rfl, rfl, HJ2, WS0, UN0, HF⟩
          case round =>
            obtain ⟨T, S, q, cq, wp, rfl, rfl, HJ, HS, HU, HT⟩ := hrel
            clear HJ2 WS0 UN0
            rcases List.eq_nil_or_concat T with rfl | ⟨T0, x, hTx⟩
            · have O1 := hid HJ.out.sn
              rw [HS.out.is] at O1
              have B1 := hid HJ.out.bl
              go_wp2
              go_ret
              exact ⟨bs, rfl, O1.out.low BW.out.size, bl3 BW.out B1.out⟩
            · rw [List.concat_eq_append] at hTx
              subst hTx
              have hxN : x < N := HT.out x (by simp)
              obtain ⟨g, hg⟩ := HJ.out.form (by rw [nI_app]; simp [nI])
              subst hg
              obtain ⟨Y, o, e1, c1⟩ := (HJ.out.td.gs KI_ok.len).atI (k := T0.length) (by rw [nI_len]; simp)
              injection e1 with e1
              injection e1 with e1 e2 _
              subst e1 e2
              rw [nI_at (by simp), Nat.zero_add] at c1
              rw [List.getElem_append_right (Nat.le_refl _)] at c1
              simp only [Nat.sub_self, List.getElem_cons_zero] at c1
              have J1 : Hid (WJ W N bs lb vs (fun i => nI (tg E i)) (some ⟨g, 0, none⟩) cq (nI T0) S wp) := by
                have h2 := HJ.out
                rw [nI_app] at h2
                exact h2.pop
              have hcap : T0.length ≤ cq := by have := (own_len HJ.out.td).2.2.2; rw [nI_len] at this; simp at this; omega
              have hlen : (T0 ++ [x]).length = T0.length + 1 := by simp
              rw [hlen]
              have UN1 : Hid (T0.length + 1 + un N S ≤ 8192) := by have := HU.out; rw [hlen] at this; exact this
              have HT0 : Hid (∀ y ∈ T0, y < N) := fun y hy => HT.out y (by simp [hy])
              have MU : Hid (unW wp bs N = un N S) := HJ.out.un
              have tl : T0.length ≤ 8192 := by have := UN1.out; omega
              clear HJ HT HU hlen
              by_cases hd : (x : Int) = d
              · have S1 := hid (HS.out.skip hd)
                have b1 : ((x : Int) == d) = true := by simp [hd]
                have UN2 : Hid (T0.length + un N S ≤ 8192) := by have := UN1.out; show _ ≤ _; omega
                clear HS
                subst hd
                go_wp2
                go_roundw
                case rel => exact ⟨T0, S, _, _, _, rfl, rfl, J1, S1, UN2, HT0⟩
                case measure => simp [lenV]
              · have I0 := hid (HS.out.inner hd)
                have b1 : ((x : Int) == d) = false := by simp [hd]
                have UN2 : Hid (T0.length + un N S ≤ 8192) := by have := UN1.out; show _ ≤ _; omega
                have ME1 : Hid (T0.length + un N S < T0.length + 1 + unW wp bs N) := by have := MU.out; show _ < _; omega
                clear HS MU UN1
                go_wp2
                go_loopw [8, 13] (fun v8 v13 wo => ∃ (i : Nat) (T : List Nat) (S1 : Nat → Bool) (q : Option Addr) (cq : Nat) (wk : World), v8 = .slice q T.length cq ∧ v13 = .int .i64 i ∧ wk = wo ∧ i ≤ (tg E x).length ∧ Hid (WJ W N bs lb vs (fun i => nI (tg E i)) q cq (nI T) S1 wk) ∧ Hid (WyI E d F S1 T x i) ∧ Hid (T.length + un N S1 ≤ T0.length + un N S) ∧ Hid (∀ y ∈ T, y < N)) (fun _ v13 _ => (tg E x).length - (intOf v13).toNat)
                case atStart => exact ⟨0, T0, S, _, _, _, rfl, rfl, rfl, Nat.zero_le _, J1, I0, Nat.le_refl _, HT0⟩
                case round =>
                  obtain ⟨i, T, S1, q, cq, wo, rfl, rfl, rfl, hi, HJ, HI, HU, HT⟩ := hrel
                  clear J1 I0 HT0 c1
                  obtain ⟨pp, cc, q1, q2, q3⟩ := HJ.out.lz.at hxN
                  rw [nI_len] at q1 q2 q3
                  have hxi : (x : Int) < (N : Nat) := by omega
                  have tgl := TG.out x
                  have tgb : (tg E x).length ≤ 16384 := by have := ME.out; omega
                  by_cases hlt3 : i < (tg E x).length
                  · obtain ⟨Y, o, e1, c2⟩ := (q3.gs KI_ok.len).atI (k := i) (by rw [nI_len]; exact hlt3)
                    rw [nI_at hlt3] at c2
                    subst e1
                    have hyN : (tg E x)[i] < N := (HG.out.lt _ (tg_mem.1 (List.getElem_mem hlt3))).2
                    have hii : (i : Int) < ((tg E x).length : Nat) := by omega
                    have SK := hid (HI.out.skip hlt3)
                    have PU := hid (HI.out.push hlt3)
                    obtain ⟨s0, s1⟩ := HJ.out.se hyN
                    have UA := hid (fun h => un_ad (n := N) (S := S1) hyN h)
                    have ST := hid (HJ.out.st (tg E x)[i])
                    have TL : T.length ≤ 8192 := by have := HU.out; have := UN2.out; omega
                    have LS : Hid (((nI T).length + 1) * KI.B ≤ 140737488355328) := by show (_ + 1) * 8 ≤ _; rw [nI_len]; omega
                    have HI2 : Hid (i + 1 ≤ (tg E x).length) := hlt3
                    generalize (tg E x)[i] = y at *
                    generalize (tg E x).length = tn at *
                    have hyi : (y : Int) < (N : Nat) := by omega
                    clear HI q2 q3 tgl
                    by_cases hyd : (y : Int) = d
                    · have b2 : ((y : Int) == d) = true := by simp [hyd]
                      have b3 : ((y : Int) != d) = false := by simp [hyd]
                      have N1 := hid (SK.out (Or.inl hyd))
                      clear SK PU UA ST
                      subst hyd
                      go_wp2
                      go_roundw
                      case rel => exact ⟨i + 1, T, S1, _, _, _, rfl, by go_num, rfl, HI2.out, HJ, N1, HU, HT⟩
                      case measure => have := HI2.out; simp [intOf]; omega
                    · have b2 : ((y : Int) == d) = false := by simp [hyd]
                      have b3 : ((y : Int) != d) = true := by simp [hyd]
                      cases hs : S1 y with
                      | true =>
                        rw [hs] at s0
                        have N1 := hid (SK.out (Or.inr hs))
                        clear SK PU UA ST hs
                        go_wp2
                        go_roundw
                        case rel => exact ⟨i + 1, T, S1, _, _, _, rfl, by go_num, rfl, HI2.out, HJ, N1, HU, HT⟩
                        case measure => have := HI2.out; simp [intOf]; omega
                      | false =>
                        rw [hs] at s0
                        have N1 := hid (PU.out hyd)
                        have U2 : Hid (T.length + 1 + un N (adP S1 y) ≤ T0.length + un N S) := by have := UA.out hs; have := HU.out; show _ ≤ _; omega
                        have T2 : Hid (∀ z ∈ T ++ [y], z < N) := fun z hz => by
                          rcases List.mem_append.1 hz with h | h
                          · exact HT.out z h
                          · rw [List.mem_singleton] at h; rw [h]; exact hyN
                        clear SK PU UA hs HU
                        obtain ⟨R, hR⟩ : ∃ R, R = nI T := ⟨_, rfl⟩
                        have RL : R.length = T.length := by rw [hR, nI_len]
                        have RE : Hid (R = nI T) := hR
                        rw [← hR] at ST LS
                        rw [← RL]
                        have TD := hid ST.out.td
                        have BT := hid ST.out.bl
                        have PS := hid (fun w8 g8 c8 => ST.out.push (w8 := w8) (x := (y : Int)) (g8 := g8) (c8 := c8))
                        have RL2 : Hid (R.length = T.length) := RL
                        clear hR RL
                        generalize hV : wo.setCell ⟨bs, y, none⟩ (.bool true) = V at *
                        go_wp2_with (at_builtin; refine append_g KI KI_ok rfl (.tmp 113) (.tmp 115) 25 rfl W.heap.size Try.underlying25 V _ _ (.slice q R.length cq) R (y : Int) _ rfl TD.out V.heap.size rfl rfl rfl LS.out BT.out.size ?_; intro g5 cp5 w5 ho5 hb5 hk5 hg5; have A5 := hid (PS.out w5 g5 cp5 ho5 hb5 hk5 hg5); clear ho5 hb5 hk5 hg5)
                        go_roundw
                        case rel => exact ⟨i + 1, T ++ [y], adP S1 y, some ⟨g5, 0, none⟩, cp5, _, by rw [List.length_append, RL2.out]; rfl, by go_num, rfl, HI2.out, by rw [nI_app, ← RE.out]; exact A5.out, N1, by rw [List.length_append]; exact U2.out, T2⟩
                        case measure => have := HI2.out; simp [intOf]; omega
                  · have hie : i = (tg E x).length := by omega
                    have HI3 : Hid (WyI E d F S1 T x (tg E x).length) := by rw [← hie]; exact HI.out
                    have N2 := hid HI3.out.fin
                    have UF : Hid (T.length + un N S1 ≤ 8192) := by have := HU.out; have := UN2.out; show _ ≤ _; omega
                    have MF2 : Hid (T.length + unW wo bs N < T0.length + 1 + unW wp bs N) := by
                      have h1 := HJ.out.un
                      have h2 := HU.out
                      have h3 := ME1.out
                      show _ < _
                      omega
                    have hni : ¬ (i : Int) < ((tg E x).length : Nat) := by omega
                    clear HI HI3 hie q2 q3
                    generalize (tg E x).length = tn at *
                    go_wp2
                    go_roundw
                    case rel => exact ⟨T, S1, _, _, _, rfl, rfl, HJ, N2, UF, HT⟩
                    case measure => exact MF2.out
end Go.Proofs.Ytghkhceplpjegaa
