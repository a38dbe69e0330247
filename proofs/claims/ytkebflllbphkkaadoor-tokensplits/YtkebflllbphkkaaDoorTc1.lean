/- Tokens: Clone, walked. -/
import Derived.Test.YtkebflllbphkkaaDoorTa9
import Derived.Deep.RegionHeld3
namespace Go.Proofs.YtkebflllbphkkaaDoor
open Go.RowKit

/-- What Clone answers. -/
def CloR (w : World) (base : Nat) (T : Tr) (w' : World) (e : Ending) : Prop := ∃ b F, e = .returned (.pointer (some ⟨b, 0, none⟩)) ∧ TV w' base b F T ∧ (∀ x, F x → w.heap.size ≤ x) ∧ Below w.heap.size w w'
set_option maxHeartbeats 16000000 in
set_option maxRecDepth 100000 in
theorem tclone_any (w : World) (base b : Nat) (F : Nat → Prop) (T : Tr) (h : TV w base b F T) :
    Calls Tryd.prog 20 #[.pointer (some ⟨b, 0, none⟩)] w fun e w' => CloR w base T w' e := by
  have h0 := h
  obtain ⟨cb, mb, nv, ov, L, t, e⟩ := h.ex
  obtain ⟨c0, c1, c2, c3⟩ := t.cells
  have hnl := t.nl
  have hol := t.ol
  have CN := hid (cloneN_any w nv L t.nr (by have := t.ll; omega))
  have TXs : Hid (∀ W, Below w.heap.size w W → TX W b cb mb nv ov L T) := fun W hb => t.below hb
  have CN2 : Hid (Calls Tryd.prog 36 #[nv] w fun e w' => ∃ pn cn, e = .returned (.slice pn T.ns.length cn) ∧ CLs w w' T (.slice pn T.ns.length cn) ∧ ∀ k, k < T.ns.length → ∃ g, pn = some ⟨g, 0, none⟩) := by
    refine CN.out.mono ?_
    rintro e' w' ⟨v, rfl, ho, hb⟩
    obtain ⟨pn, cn, ev, _⟩ := ho.form
    subst ev
    have e2 := t.ll
    rw [e2] at ho ⊢
    refine ⟨pn, cn, rfl, ⟨L, ho, e2, fun p hp => (t.lr p hp).keep (But.of_below (F := fun _ => False) hb) (fun _ q => q.elim), hb⟩, fun k hk => ?_⟩
    rcases ho.2 with ⟨_, e0⟩ | ⟨g, c, cur, e0, _⟩
    · omega
    · injection e0 with e0 _ _
      exact ⟨g, e0⟩
  have HW : Hid (∀ p, p < T.ns.length → (T.n p).why.length ≤ 1024) := h.inv.wl
  have H0 := hid h0
  clear CN t h h0 e
  obtain ⟨N, hN⟩ : ∃ N, N = T.ns.length := ⟨_, rfl⟩
  rw [← hN] at hnl CN2
  have HN := hid hN
  clear hN
  go_enter Tryd.func20, Tryd.ntmps20
  go_wp2_with (go_at_call 36; refine CN2.out.mono ?_; rintro e w1 ⟨pn, cn, rfl, q1, q2⟩; have Q1 := hid q1; have Q2 := hid q2; clear q1 q2)
  go_loopw [12] (fun v12 wr => ∃ (k : Nat) (wk : World), v12 = .int .i64 k ∧ wk = wr ∧ k ≤ N ∧ Hid (CLs w wk T (.slice pn N cn))) (fun v12 _ => N - (intOf v12).toNat)
  case atStart => exact ⟨0, _, rfl, rfl, Nat.zero_le _, Q1⟩
  case round =>
    obtain ⟨k, wr, rfl, rfl, hk, HS⟩ := hrel
    clear Q1 c0 c1 c2 c3
    by_cases hlt : k < N
    · have hkT : k < T.ns.length := by rw [← HN.out]; exact hlt
      obtain ⟨g, hg⟩ := Q2.out k hlt
      subst hg
      obtain ⟨wp, wc, d8, ow, fz⟩ := HS.out.at hkT
      have CC : Hid (Calls Tryd.prog 27 #[.slice wp (T.n k).why.length wc] wr fun e w' => ∃ yp yc, e = .returned (.slice yp (T.n k).why.length yc) ∧ w'.frozen? ⟨g, k * 9 + 8, none⟩ = false ∧ (∃ u, w'.cell? ⟨g, k * 9 + 8, none⟩ = some u) ∧ CLs w (w'.setCell ⟨g, k * 9 + 8, none⟩ (.slice yp (T.n k).why.length yc)) T (.slice (some ⟨g, 0, none⟩) N cn)) := by
        refine (cloneC_any wr _ _ ow.g (by have := HW.out k hkT; omega)).mono ?_
        rintro e w' ⟨v, rfl, ho, hb⟩
        obtain ⟨yp, yc, ev, _⟩ := ho.form
        subst ev
        have h1 := HS.out.below hb
        obtain ⟨_, _, d9, _, fz9⟩ := h1.at hkT
        exact ⟨yp, yc, rfl, fz9, ⟨_, d9⟩, h1.put hkT (ownC_g (ho.low (Nat.zero_le _)))⟩
      clear HS ow
      generalize (T.n k).why.length = wl at *
      go_wp2_with (go_at_call 27; refine CC.out.mono ?_; rintro e w3 ⟨yp, yc, rfl, f3, ⟨u3, d3⟩, hq⟩; have HQ := hid hq; clear hq)
      go_roundw
      case rel => exact ⟨k + 1, _, by go_num, rfl, by omega, HQ⟩
      case measure => simp [intOf]; omega
    · have bl : Below w.heap.size w wr := by obtain ⟨_, _, _, _, q⟩ := HS.out; exact q
      obtain ⟨po, co, hov, hco⟩ := (TXs.out wr bl).or.form
      subst hov
      have D : Hid (∀ W, Below wr.heap.size wr W → W.cell? ⟨b, 0, none⟩ = some (.pointer (some ⟨cb, 0, none⟩)) ∧ W.cell? ⟨b, 2, none⟩ = some (.map (some mb)) ∧ W.cell? ⟨b, 3, none⟩ = some (.slice po T.od.length co)) := fun W hb => by
        have := (TXs.out W (bl.trans (hb.mono bl.size))).cells
        exact ⟨this.1, this.2.2.1, this.2.2.2⟩
      have C1 : Hid (∀ W, Below wr.heap.size wr W → Calls Tryd.prog 37 #[.pointer (some ⟨cb, 0, none⟩)] W fun e w' => ∃ B, e = .returned (.pointer (some ⟨B, 0, none⟩)) ∧ w.heap.size ≤ B ∧ w'.heap[B]? = some (.cells #[.int .i64 T.now, .int .i64 0, .slice none 0 0] 99) ∧ Below W.heap.size W w' ∧ Below wr.heap.size wr w') := fun W hb => by
        refine (cclone_any W cb T.now (TXs.out W (bl.trans (hb.mono bl.size))).ck).mono ?_
        rintro e w' ⟨B, rfl, q1, q2, q3⟩
        have := bl.size
        have := hb.size
        exact ⟨B, rfl, by omega, q2, q3, hb.trans (q3.mono hb.size)⟩
      have C2 : Hid (∀ W, Below wr.heap.size wr W → Calls Tryd.prog 38 #[.map (some mb)] W fun e w' => ∃ B, e = .returned (.map (some B)) ∧ w.heap.size ≤ B ∧ MV w' B T.ns.length (plF T.nms) ∧ Below W.heap.size W w' ∧ Below wr.heap.size wr w') := fun W hb => by
        refine (mclone_any W mb _ _ (TXs.out W (bl.trans (hb.mono bl.size))).mp).mono ?_
        rintro e w' ⟨rfl, q1, q2⟩
        have := bl.size
        have := hb.size
        exact ⟨_, rfl, by omega, q1, q2, hb.trans (q2.mono hb.size)⟩
      have C3 : Hid (∀ W, Below wr.heap.size wr W → Calls Tryd.prog 39 #[.slice po T.od.length co] W fun e w' => ∃ pv cv, e = .returned (.slice pv T.od.length cv) ∧ OwnG KP w' w.heap.size (.slice pv T.od.length cv) T.od ∧ Below W.heap.size W w' ∧ Below wr.heap.size wr w') := fun W hb => by
        refine (cloneP_any W _ _ (TXs.out W (bl.trans (hb.mono bl.size))).or (by omega)).mono ?_
        rintro e w' ⟨v, rfl, q1, q2⟩
        obtain ⟨pv, cv, ev, _⟩ := q1.form
        subst ev
        have := bl.size
        have := hb.size
        exact ⟨pv, cv, rfl, q1.low (by omega), q2, hb.trans (q2.mono hb.size)⟩
      have FIN : Hid (∀ V B B2 v, Below wr.heap.size wr V → w.heap.size ≤ B → V.heap[B]? = some (.cells #[.int .i64 T.now, .int .i64 0, .slice none 0 0] 99) → w.heap.size ≤ B2 → MV V B2 T.ns.length (plF T.nms) → OwnG KP V w.heap.size v T.od → CloR w base T (V.alloc (.cells #[.pointer (some ⟨B, 0, none⟩), .slice pn N cn, .map (some B2), v] 62)) (.returned (.pointer (some ⟨V.heap.size, 0, none⟩)))) := fun V B B2 v hb q1 q2 q3 q4 q5 => by
        obtain ⟨L', r1, r2, r3, r4⟩ := HS.out.below hb
        obtain ⟨F', s1, s2, s3⟩ := clone_tx H0.out.sz H0.out.fb H0.out.inv r4 r1 r2 r3 q1 q2 q3 q4 q5
        exact ⟨_, F', rfl, s1, s2, s3⟩
      obtain ⟨d0, d2, d3⟩ := D.out wr (Below.refl _ _)
      clear HS TXs CN2
      go_upto_region 7 with fail
      go_region_held3 (fun w' => w'.cell? ⟨b, 0, none⟩ = some (.pointer (some ⟨cb, 0, none⟩)) ∧ w'.cell? ⟨b, 2, none⟩ = some (.map (some mb)) ∧ w'.cell? ⟨b, 3, none⟩ = some (.slice po T.od.length co)) (go_keep) (first
        | (go_at_call 37; refine (C1.out _ (by first | exact (Below.refl _ _).drew | assumption)).mono ?_; rintro e wA ⟨B, rfl, A1, A2, A3, A4⟩; obtain ⟨a0, a2, a3⟩ := D.out wA A4)
        | (go_at_call 38; refine (C2.out _ (by first | assumption | exact (Below.refl _ _).drew)).mono ?_; rintro e wB ⟨B2, rfl, M1, M2, M3, M4⟩; obtain ⟨b0, b2, b3⟩ := D.out wB M4)
        | (go_at_call 39; refine (C3.out _ (by first | assumption | exact (Below.refl _ _).drew)).mono ?_; rintro e wC ⟨pv, cv, rfl, P1, P2, P3⟩; obtain ⟨p0, p2, p3⟩ := D.out wC P3; have FF := hid (FIN.out wC B B2 _ P3 A1 ((P2.block B (by have := lt_of_heap A2; have := M3.size; omega)).trans ((M3.block B (lt_of_heap A2)).trans A2)) M1 (M2.below P2) P1); clear P1 P2 P3))
      all_goals
        go_wp2_with fail
        go_ret
        exact FF.out
end Go.Proofs.YtkebflllbphkkaaDoor
