/- Graph: the walk of Gates: who is reached, in the order that the walk was done with them. -/
import Derived.Test.YtghkhceplpjegaaYc7
import Derived.Test.YtghkhceplpjegaaYe2
import Derived.Test.YtghkhceplpjegaaYq2
import Derived.Test.YtghkhceplpjegaaYf2
namespace Go.Proofs.Ytghkhceplpjegaa
open Go.RowKit

/-- A walk that gathers nothing. -/
structure MJ (w0 : World) (N bs : Nat) (W : World) (S : Nat → Bool) (L : List Nat) : Prop where
  bl : Below w0.heap.size w0 W
  sn : OwnG KB W w0.heap.size (.slice (some ⟨bs, 0, none⟩) N N) ((List.range N).map S)
  ls : ∀ y ∈ L, S y = true
theorem MJ.se {w0 : World} {N bs : Nat} {W : World} {S : Nat → Bool} {L : List Nat} (h : MJ w0 N bs W S L) {i : Nat} (hi : i < N) : W.cell? ⟨bs, i, none⟩ = some (.bool (S i)) ∧ W.frozen? ⟨bs, i, none⟩ = false := by
  refine ⟨?_, own_frozen h.sn i⟩
  obtain ⟨X, o, e, hc⟩ := (h.sn.gs KB_ok.len).atB (k := i) (by simpa using hi)
  injection e with e
  injection e with e1 e2 _
  subst e1 e2
  rw [Nat.zero_add] at hc
  rw [hc]
  simp
theorem MJ.st {w0 : World} {N bs : Nat} {W : World} {S : Nat → Bool} {L : List Nat} (h : MJ w0 N bs W S L) (i : Nat) : MJ w0 N bs (W.setCell ⟨bs, i, none⟩ (.bool true)) (adP S i) L := by
  refine ⟨h.bl.setCell (p := ⟨bs, i, none⟩) (h.sn.lt rfl).1 _, ?_, fun y hy => adP_iff.2 (Or.inl (h.ls y hy))⟩
  have := OwnG.set1 rfl KB_ok.len h.sn (k := i) true (.bool true) rfl
  rw [rmap_set] at this
  exact this
set_option maxHeartbeats 1000000 in
theorem none_any (w : World) (x : Nat) : Calls Try.prog 78 #[.int .i64 x] w fun e w' => e = .returned (.tuple #[]) ∧ w' = w := by
  go_enter Try.func78, Try.ntmps78
  go_wp2
  go_end0
  exact ⟨rfl, rfl⟩
theorem MJ.wk {w0 : World} {N bs zb lb : Nat} {vs : List Sl} {E : List (Nat × Nat)} (hg : GOK N E) (hz : LZ w0 zb lb N vs (fun i => nI (nx N E i))) : WK (nx N E) N lb bs N 78 #[] (fun i => (vs.getD i sl0).1) (fun i => (vs.getD i sl0).2.2) (MJ w0 N bs) :=
  ⟨fun h _ hi => (hz.below h.bl).cell hi, fun h _ hi => h.se hi, fun h i _ => h.st i, fun h => h.ls, fun {W S L} h i _ h1 _ => (none_any W i).mono fun e w' k => ⟨k.1, by rw [k.2]; exact ⟨h.bl, h.sn, fun y hy => by
    rcases List.mem_append.1 hy with q | q
    · exact h.ls y q
    · rw [List.mem_singleton] at q; rw [q]; exact h1⟩⟩, fun _ _ _ hy => (hg.lt _ ((nx_mem hg).1 hy)).2, fun i => Nat.le_trans (nx_len N E i) hg.n, enters_of Try.func78 (by kernel_rfl) rfl⟩
set_option maxHeartbeats 2000000 in
theorem mark_any {w0 : World} {N bs zb lb : Nat} {vs : List Sl} {E : List (Nat × Nat)} (hg : GOK N E) (hz : LZ w0 zb lb N vs (fun i => nI (nx N E i))) {W : World} {S : Nat → Bool} {L : List Nat} (h : MJ w0 N bs W S L) {x : Nat} (hx : x < N) : Calls Try.prog 63 #[.slice (some ⟨lb, 0, none⟩) N N, .int .i64 x, .slice (some ⟨bs, 0, none⟩) N N] W fun e w' => WO (nx N E) (MJ w0 N bs) S [x] L e w' := by
  have CW := hid (walk_all (MJ.wk hg hz) h hx)
  clear h hz hg
  go_enter Try.func63, Try.ntmps63
  go_wp2_with (go_at_call 44; refine CW.out.mono ?_; rintro e w5 ⟨rfl, h5⟩; have H5 := hid h5; clear h5)
  go_end0
  exact ⟨rfl, H5.out⟩
/-- Which a node has a way of two edges or more to. -/
theorem ar_is {N : Nat} {E : List (Nat × Nat)} (hg : GOK N E) {x : Nat} {S : Nat → Bool} {L : List Nat} (h : DL (nx N E) (fun _ => false) ((nx N E x).flatMap (nx N E)) S L) : S = wyB E (-1) (nx N E x) := by
  rw [h.rc hg]
  funext z
  apply Bool.eq_iff_iff.2
  rw [rcB_iff, wyB_iff]
  constructor
  · rintro ⟨r, hr, hz⟩
    obtain ⟨b, hb, hrb⟩ := List.mem_flatMap.1 hr
    refine ⟨b, hb, (Rs.step ((nx_mem hg).1 hrb : ed E b r) hz).imp fun a c k => (edW_none (by decide)).2 k⟩
  · rintro ⟨b, hb, hz⟩
    obtain ⟨r, h1, h2⟩ := (hz.imp fun a c k => (edW_none (by decide)).1 k : Wy (ed E) b z).first
    exact ⟨r, List.mem_flatMap.2 ⟨b, hb, (nx_mem hg).2 h1⟩, h2⟩
set_option maxRecDepth 100000 in
set_option maxHeartbeats 16000000 in
theorem around_any (w : World) (N : Nat) (E : List (Nat × Nat)) (hg : GOK N E) (zb lb : Nat) (vs : List Sl) (hz : LZ w zb lb N vs (fun i => nI (nx N E i))) (x : Nat) (hx : x < N) : Calls Try.prog 39 #[.slice (some ⟨lb, 0, none⟩) N N, .int .i64 x] w fun e w' => ∃ bs, e = .returned (.slice (some ⟨bs, 0, none⟩) N N) ∧ OwnG KB w' w.heap.size (.slice (some ⟨bs, 0, none⟩) N N) ((List.range N).map (wyB E (-1) (nx N E x))) ∧ Below w.heap.size w w' := by
  have NB : N ≤ 4096 := hg.n
  have MK := hid (fun (bs : Nat) (W : World) (S : Nat → Bool) (L : List Nat) (h : MJ w N bs W S L) y (hy : y < N) => mark_any (w0 := w) (bs := bs) hg hz h hy)
  have AR := hid (fun S L h => ar_is (N := N) (E := E) hg (x := x) (S := S) (L := L) h)
  have ZC := hid (fun wr (hb : Below w.heap.size w wr) i (hi : i < N) => LZ.cell (A := nx N E) (hz.below hb) hi)
  have HL := hid (fun i j (hj : j < (nx N E i).length) => (hg.lt _ ((nx_mem hg).1 (List.getElem_mem hj))).2)
  have LK := hid (fun i => nx_len N E i)
  have hxi : (x : Int) < (N : Nat) := by omega
  clear hg hz
  generalize nx N E = A at *
  go_enter Try.func39, Try.ntmps39
  go_upto_region 2 with (refine make_g KB KB_ok false rfl rfl w rfl (.tmp 11) (.tmp 11) 49 rfl Try.underlying49 N rfl rfl (by omega) (by decide) ?_; intro w3 ho3 hb3; have J0 : Hid (MJ w N w.heap.size w3 (fun _ => false) []) := ⟨hb3, by rw [show (List.range N).map (fun _ => false) = List.replicate N false from by simp [List.map_const']]; exact ho3, by simp⟩; clear ho3 hb3)
  obtain ⟨bs, hbs⟩ : ∃ bs, bs = w.heap.size := ⟨_, rfl⟩
  rw [← hbs] at J0 ⊢
  clear hbs
  obtain ⟨r1, r2⟩ := ZC.out w3 J0.out.bl x hx
  have lk := LK.out x
  obtain ⟨m, hm⟩ : ∃ m, m = (A x).length := ⟨_, rfl⟩
  have MM : Hid ((A x).length = m) := hm.symm
  have GX := hid (fun wq (hb : Below w.heap.size w wq) j (hj : j < (nI (A x)).length) => GS.atI (ZC.out wq hb x hx).2 hj)
  have HX := hid (HL.out x)
  have D0 : Hid (∃ S L, DL A (fun _ => false) (((A x).take 0).flatMap A) S L ∧ MJ w N bs w3 S L) := ⟨_, _, .nil, J0.out⟩
  rw [← hm] at r1 lk
  have TM : Hid ((A x).take m = A x) := List.take_of_length_le (by rw [hm]; exact Nat.le_refl _)
  generalize (vs.getD x sl0).1 = px at *
  generalize (vs.getD x sl0).2.2 = cx at *
  clear r2 hm J0
  go_wp2_with fail
  clear r1
  go_loopw [18] (fun v18 wr => ∃ (j : Nat) (wk : World), v18 = .int .i64 j ∧ wk = wr ∧ j ≤ m ∧ Hid (∃ S L, DL A (fun _ => false) (((A x).take j).flatMap A) S L ∧ MJ w N bs wk S L)) (fun v18 _ => m - (intOf v18).toNat)
  case atStart => exact ⟨0, _, rfl, rfl, Nat.zero_le _, D0⟩
  case round =>
    obtain ⟨j, wr, rfl, rfl, hj, HD⟩ := hrel
    clear D0
    have Br : Hid (Below w.heap.size w wr) := by obtain ⟨_, _, _, h⟩ := HD.out; exact h.bl
    by_cases hlt : j < m
    · have j1 : j < (A x).length := by have := MM.out; omega
      obtain ⟨Z, o, e1, c1⟩ := GX.out wr Br.out j (by rw [nI_len]; exact j1)
      rw [nI_at j1] at c1
      subst e1
      have hy := HX.out j j1
      have TK : Hid ((A x).take (j + 1) = (A x).take j ++ [(A x)[j]]) := List.take_succ_eq_append_getElem j1
      generalize (A x)[j] = b at *
      have hbi : (b : Int) < (N : Nat) := by omega
      have hji : (j : Int) < (m : Nat) := by omega
      obtain ⟨r1, r2⟩ := ZC.out wr Br.out b hy
      have lb2 := LK.out b
      obtain ⟨k, hk⟩ : ∃ k, k = (A b).length := ⟨_, rfl⟩
      have KK : Hid ((A b).length = k) := hk.symm
      have GB := hid (fun wq (hb : Below w.heap.size w wq) j (hj : j < (nI (A b)).length) => GS.atI (ZC.out wq hb b hy).2 hj)
      have HB := hid (HL.out b)
      have E0 : Hid (∃ S L, DL A (fun _ => false) (((A x).take j).flatMap A ++ (A b).take 0) S L ∧ MJ w N bs wr S L) := by
        show ∃ S L, _
        rw [List.take_zero, List.append_nil]
        exact HD.out
      have TB : Hid ((A b).take k = A b) := List.take_of_length_le (by rw [hk]; exact Nat.le_refl _)
      rw [← hk] at r1 lb2
      generalize (vs.getD b sl0).1 = pb at *
      generalize (vs.getD b sl0).2.2 = cb at *
      clear r2 hk HD
      go_wp2_with fail
      clear r1 c1
      go_loopw [27] (fun v27 wq => ∃ (i : Nat) (wk : World), v27 = .int .i64 i ∧ wk = wq ∧ i ≤ k ∧ Hid (∃ S L, DL A (fun _ => false) (((A x).take j).flatMap A ++ (A b).take i) S L ∧ MJ w N bs wk S L)) (fun v27 _ => k - (intOf v27).toNat)
      case atStart => exact ⟨0, _, rfl, rfl, Nat.zero_le _, E0⟩
      case round =>
        obtain ⟨i, wq, rfl, rfl, hi, HE⟩ := hrel
        clear E0 Br
        obtain ⟨S, L, dl, mj⟩ := HE.out
        have DH := hid dl
        have MH := hid mj
        clear dl mj HE
        by_cases hlt2 : i < k
        · have i1 : i < (A b).length := by have := KK.out; omega
          obtain ⟨Z2, o2, e2, c2⟩ := GB.out wq MH.out.bl i (by rw [nI_len]; exact i1)
          rw [nI_at i1] at c2
          subst e2
          have hz := HB.out i i1
          have TI : Hid ((A b).take (i + 1) = (A b).take i ++ [(A b)[i]]) := List.take_succ_eq_append_getElem i1
          generalize (A b)[i] = z at *
          have hzi : (z : Int) < (N : Nat) := by omega
          have hii : (i : Int) < (k : Nat) := by omega
          have CM := hid (MK.out bs wq S L MH.out z hz)
          go_wp2_with (go_at_call 63; refine CM.out.mono ?_; rintro e w5 ⟨rfl, S2, L2, d2, j2⟩; have N2 : Hid (∃ S L, DL A (fun _ => false) (((A x).take j).flatMap A ++ (A b).take (i + 1)) S L ∧ MJ w N bs w5 S L) := ⟨S2, L ++ L2, by rw [TI.out, ← List.append_assoc]; exact DH.out.app d2, j2⟩; clear d2 j2)
          go_roundw
          case rel => exact ⟨i + 1, _, by go_num, rfl, by omega, N2⟩
          case measure => simp [intOf]; omega
        · obtain rfl : i = k := by omega
          have N2 : Hid (∃ S L, DL A (fun _ => false) (((A x).take (j + 1)).flatMap A) S L ∧ MJ w N bs wq S L) := ⟨S, L, by
            rw [TK.out, List.flatMap_append, List.flatMap_singleton]
            have := DH.out
            rw [TB.out] at this
            exact this, MH.out⟩
          clear DH MH
          go_wp2_with fail
          go_roundw
          case rel => exact ⟨j + 1, _, by go_num, rfl, by omega, N2⟩
          case measure => simp [intOf]; omega
    · obtain rfl : j = m := by omega
      have FIN : Hid (OwnG KB wr w.heap.size (.slice (some ⟨bs, 0, none⟩) N N) ((List.range N).map (wyB E (-1) (A x)))) := by
        obtain ⟨S, L, dl, mj⟩ := HD.out
        rw [TM.out] at dl
        have := AR.out S L dl
        show OwnG _ _ _ _ _
        rw [← this]
        exact mj.sn
      clear HD
      go_wp2_with fail
      go_ret
      exact ⟨bs, rfl, FIN.out, Br.out⟩
end Go.Proofs.Ytghkhceplpjegaa
namespace Go.Proofs.Ytghkhceplpjegaa
open Go.RowKit

open Classical in
/-- It is d, or the root comes to it without going through d. -/
noncomputable def wiB (E : List (Nat × Nat)) (r d y : Nat) : Bool := decide (y = d ∨ Av E r d y)
theorem wiB_yes {E : List (Nat × Nat)} {r d y : Nat} : wiB E r d y = true ↔ y = d ∨ Av E r d y := by simp [wiB]
theorem wiB_no {E : List (Nat × Nat)} {r d y : Nat} : wiB E r d y = false ↔ Gt E r d y := by
  rw [← Bool.not_eq_true, wiB_yes]
  exact not_or
theorem wi_is {N : Nat} {E : List (Nat × Nat)} (hg : GOK N E) {r d : Nat} {S : Nat → Bool} {L : List Nat} (h : DL (nx N E) (adP (fun _ => false) d) [r] S L) : S = wiB E r d := by
  have no : ∀ y, adP (fun _ => false) d y = false ↔ y ≠ d := fun y => by
    unfold adP
    simp
  funext z
  apply Bool.eq_iff_iff.2
  rw [h.reachS, wiB_yes, adP_iff]
  constructor
  · rintro ((h1 | h1) | ⟨r', hr, h1, h2⟩)
    · cases h1
    · exact Or.inl h1
    · have e : r' = r := by simpa using hr
      subst e
      refine Or.inr ⟨(no _).1 h1, h2.imp fun a b ⟨q1, q2, q3⟩ => ⟨(nx_mem hg).1 q1, ?_, ?_⟩⟩
      · have := (no a).1 q2; omega
      · have := (no b).1 q3; omega
  · rintro (h1 | ⟨h1, h2⟩)
    · exact Or.inl (Or.inr h1)
    · refine Or.inr ⟨r, by simp, (no r).2 h1, h2.imp fun a b ⟨q1, q2, q3⟩ => ⟨(nx_mem hg).2 q1, (no a).2 ?_, (no b).2 ?_⟩⟩
      · omega
      · omega
set_option maxRecDepth 100000 in
set_option maxHeartbeats 8000000 in
theorem without_any (w : World) (N : Nat) (E : List (Nat × Nat)) (hg : GOK N E) (zb lb : Nat) (vs : List Sl) (hz : LZ w zb lb N vs (fun i => nI (nx N E i))) (d r : Nat) (hd : d < N) (hr : r < N) : Calls Try.prog 48 #[.slice (some ⟨lb, 0, none⟩) N N, .int .i64 d, .int .i64 r] w fun e w' => ∃ bs, e = .returned (.slice (some ⟨bs, 0, none⟩) N N) ∧ OwnG KB w' w.heap.size (.slice (some ⟨bs, 0, none⟩) N N) ((List.range N).map (wiB E r d)) ∧ Below w.heap.size w w' := by
  have NB : N ≤ 4096 := hg.n
  have MK := hid (fun (bs : Nat) (W : World) (S : Nat → Bool) (L : List Nat) (h : MJ w N bs W S L) => mark_any (w0 := w) (bs := bs) hg hz h hr)
  have IS := hid (fun S L h => wi_is (N := N) (E := E) hg (r := r) (d := d) (S := S) (L := L) h)
  have hdi : (d : Int) < (N : Nat) := by omega
  clear hg hz
  go_enter Try.func48, Try.ntmps48
  go_upto_region 2 with (refine make_g KB KB_ok false rfl rfl w rfl (.tmp 9) (.tmp 9) 49 rfl Try.underlying49 N rfl rfl (by omega) (by decide) ?_; intro w3 ho3 hb3; have J0 : Hid (MJ w N w.heap.size w3 (fun _ => false) []) := ⟨hb3, by rw [show (List.range N).map (fun _ => false) = List.replicate N false from by simp [List.map_const']]; exact ho3, by simp⟩; clear ho3 hb3)
  obtain ⟨bs, hbs⟩ : ∃ bs, bs = w.heap.size := ⟨_, rfl⟩
  rw [← hbs] at J0 ⊢
  clear hbs
  obtain ⟨s1, s2⟩ := J0.out.se hd
  have J1 : Hid (MJ w N bs (w3.setCell ⟨bs, d, none⟩ (.bool true)) (adP (fun _ => false) d) []) := J0.out.st d
  have CM := hid (MK.out bs _ _ _ J1.out)
  clear J0 MK
  go_wp2_with (go_at_call 63; refine CM.out.mono ?_; rintro e w5 ⟨rfl, S2, L2, d2, j2⟩; have O5 : Hid (OwnG KB w5 w.heap.size (.slice (some ⟨bs, 0, none⟩) N N) ((List.range N).map (wiB E r d))) := (by show OwnG _ _ _ _ _; rw [← IS.out S2 L2 d2]; exact j2.sn); have B5 := hid j2.bl; clear d2 j2)
  go_ret
  exact ⟨bs, rfl, O5.out, B5.out⟩
end Go.Proofs.Ytghkhceplpjegaa
namespace Go.Proofs.Ytghkhceplpjegaa
open Go.RowKit

set_option maxHeartbeats 4000000 in
theorem visH_any {Wr w0 : World} {N lb bs B : Nat} {vs : List Sl} {A : Nat → List Nat} (hN : N ≤ 4096) {W : World} {S : Nat → Bool} {L : List Nat} (hf : RJF Wr w0 N lb bs B vs A W S L) (x : Nat) (hx : x < N) (hxS : S x = true) (hxL : x ∉ L) : Calls Try.prog 45 #[.int .i64 x, .pointer (some ⟨B, 0, none⟩)] W fun e w' => e = .returned (.tuple #[]) ∧ RJF Wr w0 N lb bs B vs A w' S (L ++ [x]) := by
  have h := hf.rj
  obtain ⟨q, c, h1, h2, h3⟩ := h.bx
  have ll := nd_len h.ll
  have LS : Hid (((nI L).length + 1) * KI.B ≤ 140737488355328) := by show (_ + 1) * 8 ≤ _; rw [nI_len]; omega
  have VS := hid (fun w8 g8 c8 h4 h5 h6 h7 => (show RJF Wr w0 N lb bs B vs A _ S (L ++ [x]) ∧ _ ∧ _ from by
    obtain ⟨k1, k2, k3⟩ := h.vis (w1 := W) (w8 := w8) (g8 := g8) (c8 := c8) hx hxS hxL h1 h2 h3 (Below.refl _ _) h4 h5 h6 h7
    have hs8 : W.heap.size ≤ w8.heap.size := h5.size
    refine ⟨⟨k1, by have := hf.ge; simp [World.setCell]; omega, fun k hk e1 e2 => ?_, fun q' c' e g hg => ?_⟩, k2, k3⟩
    · rw [set_far e2, h6 k (Nat.lt_of_lt_of_le hk hf.ge) (fun e => by
        have := hf.nw q c h1 k e.symm
        omega)]
      exact hf.fr k hk e1 e2
    · have c9 : (w8.setCell ⟨B, 0, none⟩ (.slice (some ⟨g8, 0, none⟩) (L.length + 1) c8)).cell? ⟨B, 0, none⟩ = some (.slice q' (L ++ [x]).length c') := cell_of_row _ B 0 _ _ _ e
      rw [World.cell?_setCell_same _ _ _ k2] at c9
      injection c9 with c9
      rw [← c9] at hg
      injection hg with hg
      have hg : g8 = g := hg
      subst hg
      rcases h7 with z | z
      · exact hf.nw q c h1 g8 z
      · exact Nat.le_trans hf.ge z))
  have x0 : W.cell? ⟨B, 0, none⟩ = some (.slice q L.length c) := cell_of_row _ _ _ _ _ _ h1
  have O1 := hid h2
  have BS : Hid (w0.heap.size ≤ W.heap.size) := h.bl.size
  have e0 := nI_len L
  rw [e0] at LS
  clear h h1 h2 h3 hxS hxL ll hf
  obtain ⟨R, hR⟩ : ∃ R, R = nI L := ⟨_, rfl⟩
  rw [← hR] at O1 VS e0
  rw [← e0] at LS VS O1 x0
  clear e0 hR
  go_enter Try.func45, Try.ntmps45
  go_wp2_with (at_builtin; refine append_g KI KI_ok rfl (.tmp 3) (.tmp 5) 25 rfl w0.heap.size Try.underlying25 W _ _ (.slice q R.length c) R (x : Int) _ rfl O1.out W.heap.size rfl rfl rfl LS.out BS.out ?_; intro g5 cp5 w5 ho5 hb5 hk5 hg5; obtain ⟨k1, k2, k3⟩ := VS.out w5 g5 cp5 ho5 hb5 hk5 hg5; have K1 := hid k1; clear k1 ho5 hb5 hk5 hg5)
  go_end0
  exact ⟨rfl, K1.out⟩
theorem RJF.wk2 {Wr w0 : World} {N lb bs B : Nat} {vs : List Sl} {E : List (Nat × Nat)} (hg : GOK N E) : WK (nx N E) N lb bs N 45 #[.pointer (some ⟨B, 0, none⟩)] (fun i => (vs.getD i sl0).1) (fun i => (vs.getD i sl0).2.2) (RJF Wr w0 N lb bs B vs (nx N E)) :=
  ⟨fun h _ hi => h.rj.lz.cell hi, fun h _ hi => h.rj.se hi, fun h i _ => h.st i, fun h => h.rj.ls, fun h i hi h1 h2 => visH_any hg.n h i hi h1 h2, fun _ _ _ hy => (hg.lt _ ((nx_mem hg).1 hy)).2, fun i => Nat.le_trans (nx_len N E i) hg.n, Try.call45⟩
end Go.Proofs.Ytghkhceplpjegaa
