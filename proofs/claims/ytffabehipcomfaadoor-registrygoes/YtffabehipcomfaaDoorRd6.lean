/- Registry, the statements: told, its first half. -/
import Derived.Test.YtffabehipcomfaaDoorRd5
namespace Go.Proofs.YtffabehipcomfaaDoor
open Go.RowKit Go.Maps

/-- The registry and the document's, the same. -/
structure TW (w : World) (base r m : Nat) (vs : Value) (L : List Pvx) (fz : Bool) (vy : Value) (Ly : List Pvx) : Prop where
  gx : GX w base r m vs L fz
  pr : PR w vy Ly
  eq : pL Ly = pL L
theorem TW.below {w w' : World} {base r m : Nat} {vs : Value} {L : List Pvx} {fz : Bool} {vy : Value} {Ly : List Pvx} (h : TW w base r m vs L fz vy Ly) (b : Below w.heap.size w w') : TW w' base r m vs L fz vy Ly := ⟨h.gx.below b, h.pr.below b, h.eq⟩
theorem TW.len {w : World} {base r m : Nat} {vs : Value} {L : List Pvx} {fz : Bool} {vy : Value} {Ly : List Pvx} (h : TW w base r m vs L fz vy Ly) : Ly.length = L.length := by rw [← pL_len Ly, h.eq, pL_len]
theorem TW.ops {w : World} {base r m : Nat} {vs : Value} {L : List Pvx} {fz : Bool} {vy : Value} {Ly : List Pvx} (h : TW w base r m vs L fz vy Ly) : ∀ x ∈ Ly, x.p.ops.length ≤ 256 := fun x hx => by
  have : x.p ∈ pL L := by rw [← h.eq]; exact List.mem_map.2 ⟨x, hx, rfl⟩
  obtain ⟨y, hy, e⟩ := List.mem_map.1 this
  rw [← e]; exact chk_len (h.gx.ok y hy)
theorem misL_len (L : List Prv) (h : ∀ p ∈ L, p.ops.length ≤ 256) (hl : L.length ≤ 256) : (misL L).length ≤ 100000 := by
  unfold misL
  split
  · have h1 := onceL_len (misU L L.length)
    have h2 := misU_len (L := L) (fun j hj => h _ (List.getElem_mem hj)) L.length (Nat.le_refl _)
    omega
  · simp
theorem But.weakS {w w' : World} {g n c : Nat} (h : But (fun x => x = g) w w') : But (fun x => (Value.slice (some ⟨g, 0, none⟩) n c).ownBlock = some x) w w' := ⟨h.os, h.tape, h.output, h.size, fun x hx hn => h.block x hx (fun e => hn (by rw [e]; rfl))⟩
theorem spoil_but (v : Value) (M : List Opn) (w : World) (base : Nat) (h : OwnG KO w base v M) : Calls Tryd.prog 20 #[v] w fun e w' => e = .returned (.tuple #[]) ∧ But (fun x => v.ownBlock = some x) w w' := by
  rcases h.2 with ⟨rfl, e0⟩ | ⟨g, cap, cur, rfl, hg, _⟩
  · have Z : Hid (But (fun x => (Value.slice none 0 0).ownBlock = some x) w w) := But.refl _ _
    clear h
    go_enter Tryd.func20, Tryd.ntmps20
    go_wp2_with fail
    go_loopw [2] (fun v2 wr => v2 = .int .i64 0 ∧ wr = w) (fun _ _ => 0)
    case atStart => exact ⟨rfl, rfl⟩
    case round =>
      obtain ⟨rfl, rfl⟩ := hrel
      go_wp2_with fail
      go_end0
      exact ⟨rfl, Z.out⟩
  · refine (spoil_own g _ cap M w base h).mono ?_
    rintro e w' ⟨rfl, b⟩
    exact ⟨rfl, b.weakS⟩
theorem spoil_low {w0 w w' : World} {base : Nat} {v : Value} (b : Below w0.heap.size w0 w) (hv : ∀ g, v.ownBlock = some g → base ≤ g) (hb : w0.heap.size ≤ base) (k : But (fun x => v.ownBlock = some x) w w') : Below w0.heap.size w0 w' :=
  b.trans ⟨k.os, k.tape, k.output, k.size, fun x hx => k.block x (by have := b.size; omega) (fun e => by have := hv x e; omega)⟩
theorem xs_at {W : World} {Y o : Nat} {k : Nat} {p : Prv} {q : Option Addr} {c : Nat} (h : ∃ X o', (some ⟨Y, o, none⟩ : Option Addr) = some ⟨X, o', none⟩ ∧ W.cell? ⟨X, o' + k * 9, none⟩ = some (.string p.name) ∧ W.cell? ⟨X, o' + k * 9 + 1, none⟩ = some (.slice q p.ops.length c) ∧ W.cell? ⟨X, o' + k * 9 + 2, none⟩ = some (.bool p.again) ∧ W.cell? ⟨X, o' + k * 9 + 3, none⟩ = some (.int .i64 p.pol.t) ∧ W.cell? ⟨X, o' + k * 9 + 4, none⟩ = some (.int .i64 p.pol.b) ∧ W.cell? ⟨X, o' + k * 9 + 5, none⟩ = some (.int .i64 p.pol.f) ∧ W.cell? ⟨X, o' + k * 9 + 6, none⟩ = some (.int .i64 p.pol.c) ∧ W.cell? ⟨X, o' + k * 9 + 7, none⟩ = some (.int .i64 p.ck) ∧ W.cell? ⟨X, o' + k * 9 + 8, none⟩ = some (.string p.ct)) : W.cell? ⟨Y, o + k * 9, none⟩ = some (.string p.name) ∧ W.cell? ⟨Y, o + k * 9 + 1, none⟩ = some (.slice q p.ops.length c) ∧ W.cell? ⟨Y, o + k * 9 + 2, none⟩ = some (.bool p.again) ∧ W.cell? ⟨Y, o + k * 9 + 3, none⟩ = some (.int .i64 p.pol.t) ∧ W.cell? ⟨Y, o + k * 9 + 4, none⟩ = some (.int .i64 p.pol.b) ∧ W.cell? ⟨Y, o + k * 9 + 5, none⟩ = some (.int .i64 p.pol.f) ∧ W.cell? ⟨Y, o + k * 9 + 6, none⟩ = some (.int .i64 p.pol.c) ∧ W.cell? ⟨Y, o + k * 9 + 7, none⟩ = some (.int .i64 p.ck) ∧ W.cell? ⟨Y, o + k * 9 + 8, none⟩ = some (.string p.ct) := by
  obtain ⟨X, o', e1, h⟩ := h
  injection e1 with e1
  injection e1 with e1 e2 _
  subst e1 e2
  exact h
theorem set1step {w0 w : World} {B bs : Nat} {arr : Array Value} {ty : TypeId} {v : Value} {l : List Opn} (h : w.heap[B]? = some (.cells arr ty)) (b : Below w0.heap.size w0 w) (hB : w0.heap.size ≤ B) (o : OwnG KO w bs v l) (hbs : B < bs) (i : Nat) (u : Value) :
    (w.setCell ⟨B, i, none⟩ u).heap[B]? = some (.cells (arr.setIfInBounds i u) ty) ∧ Below w0.heap.size w0 (w.setCell ⟨B, i, none⟩ u) ∧ OwnG KO (w.setCell ⟨B, i, none⟩ u) bs v l :=
  ⟨heap_setCell_same w B i _ _ u h, Below.setCell b hB _, o.far fun g hg => set_far (by have := (o.lt hg).1; omega)⟩
theorem arr9 (a0 a1 a2 a3 a4 a5 a6 a7 a8 u0 u1 u2 u3 u4 u5 u6 u7 u8 : Value) : (((((((((#[a0, a1, a2, a3, a4, a5, a6, a7, a8] : Array Value).setIfInBounds 0 u0).setIfInBounds 1 u1).setIfInBounds 2 u2).setIfInBounds 3 u3).setIfInBounds 4 u4).setIfInBounds 5 u5).setIfInBounds 6 u6).setIfInBounds 7 u7).setIfInBounds 8 u8 = #[u0, u1, u2, u3, u4, u5, u6, u7, u8] := by simp
theorem pbx_sets {w0 w : World} {B : Nat} {p0 : Prv} {v0 : Value} (h : PBx w B p0 v0) (b : Below w0.heap.size w0 w) (hB : w0.heap.size ≤ B) (p : Prv) (q : Option Addr) (c : Nat) {bs : Nat} (o : OwnG KO w bs (.slice q p.ops.length c) p.ops) (hbs : B < bs) :
    PBx (((((((((w.setCell ⟨B, 0, none⟩ (.string p.name)).setCell ⟨B, 1, none⟩ (.slice q p.ops.length c)).setCell ⟨B, 2, none⟩ (.bool p.again)).setCell ⟨B, 3, none⟩ (.int .i64 p.pol.t)).setCell ⟨B, 4, none⟩ (.int .i64 p.pol.b)).setCell ⟨B, 5, none⟩ (.int .i64 p.pol.f)).setCell ⟨B, 6, none⟩ (.int .i64 p.pol.c)).setCell ⟨B, 7, none⟩ (.int .i64 p.ck)).setCell ⟨B, 8, none⟩ (.string p.ct)) B p (.slice q p.ops.length c) ∧ Below w0.heap.size w0 (((((((((w.setCell ⟨B, 0, none⟩ (.string p.name)).setCell ⟨B, 1, none⟩ (.slice q p.ops.length c)).setCell ⟨B, 2, none⟩ (.bool p.again)).setCell ⟨B, 3, none⟩ (.int .i64 p.pol.t)).setCell ⟨B, 4, none⟩ (.int .i64 p.pol.b)).setCell ⟨B, 5, none⟩ (.int .i64 p.pol.f)).setCell ⟨B, 6, none⟩ (.int .i64 p.pol.c)).setCell ⟨B, 7, none⟩ (.int .i64 p.ck)).setCell ⟨B, 8, none⟩ (.string p.ct)) ∧ OwnG KO (((((((((w.setCell ⟨B, 0, none⟩ (.string p.name)).setCell ⟨B, 1, none⟩ (.slice q p.ops.length c)).setCell ⟨B, 2, none⟩ (.bool p.again)).setCell ⟨B, 3, none⟩ (.int .i64 p.pol.t)).setCell ⟨B, 4, none⟩ (.int .i64 p.pol.b)).setCell ⟨B, 5, none⟩ (.int .i64 p.pol.f)).setCell ⟨B, 6, none⟩ (.int .i64 p.pol.c)).setCell ⟨B, 7, none⟩ (.int .i64 p.ck)).setCell ⟨B, 8, none⟩ (.string p.ct)) bs (.slice q p.ops.length c) p.ops := by
  have h' : w.heap[B]? = some (.cells #[.string p0.name, v0, .bool p0.again, .int .i64 p0.pol.t, .int .i64 p0.pol.b, .int .i64 p0.pol.f, .int .i64 p0.pol.c, .int .i64 p0.ck, .string p0.ct] 37) := h
  have s0 := set1step h' b hB o hbs 0 (.string p.name)
  have s1 := set1step s0.1 s0.2.1 hB s0.2.2 hbs 1 (.slice q p.ops.length c)
  have s2 := set1step s1.1 s1.2.1 hB s1.2.2 hbs 2 (.bool p.again)
  have s3 := set1step s2.1 s2.2.1 hB s2.2.2 hbs 3 (.int .i64 p.pol.t)
  have s4 := set1step s3.1 s3.2.1 hB s3.2.2 hbs 4 (.int .i64 p.pol.b)
  have s5 := set1step s4.1 s4.2.1 hB s4.2.2 hbs 5 (.int .i64 p.pol.f)
  have s6 := set1step s5.1 s5.2.1 hB s5.2.2 hbs 6 (.int .i64 p.pol.c)
  have s7 := set1step s6.1 s6.2.1 hB s6.2.2 hbs 7 (.int .i64 p.ck)
  have s8 := set1step s7.1 s7.2.1 hB s7.2.2 hbs 8 (.string p.ct)
  rw [arr9] at s8
  exact s8
set_option maxHeartbeats 16000000 in
set_option maxRecDepth 100000 in
theorem told_any (s : ByteArray) (n : Int) (w : World) {base r m : Nat} {vs : Value} {L : List Pvx} {fz : Bool} {vy : Value} {Ly : List Pvx} (h : TW w base r m vs L fz vy Ly) (hv : NV w) (hs : s.size ≤ maxLen) :
    Calls Tryd.prog 23 #[.pointer (some ⟨r, 0, none⟩), .agg #[vy, .bool fz], .string s, .int .i64 n] w fun e w' => e = .returned (.bool true) ∧ Below w.heap.size w w' := by
  have hln := h.gx.ln
  have hly := h.len
  have hform := h.pr.gs.form
  rw [hly] at hform
  obtain ⟨py, cy, rfl⟩ := hform
  obtain ⟨w0, hw0⟩ : ∃ w0, w0 = w.alloc (.cells #[.slice py L.length cy, .bool fz] 26) := ⟨_, rfl⟩
  have B0 : Hid (Below w.heap.size w w0) := by rw [hw0]; exact balr _ _
  have Y0 : YB w0 w.heap.size (.slice py L.length cy) fz := by rw [hw0]; exact heap_alloc_new _ _
  replace h := h.below B0.out
  replace hv := hv.below B0.out
  have FI := hidr (fun W (b : Below w0.heap.size w0 W) => find_any s W (h.gx.below b) hs)
  have RF := hidr (fun W (b : Below w0.heap.size w0 W) => rfind_any _ Ly fz s W (h.pr.below b) (by omega))
  have LE : Hid (∀ W, Below w0.heap.size w0 W → _) := fun W b => len_any W (h.gx.below b)
  have FR : Hid (∀ W, Below w0.heap.size w0 W → _) := fun W b => frozen_any W (h.gx.below b)
  have NM : Hid (∀ W, Below w0.heap.size w0 W → Calls Tryd.prog 14 #[.pointer (some ⟨r, 0, none⟩)] W fun e w' => ∃ p c, e = .returned (.slice p (nameL (pL L)).length c) ∧ GS KS w' (.slice p (nameL (pL L)).length c) (nameL (pL L)) ∧ Below W.heap.size W w') := fun W b => (names_any W (h.gx.below b)).mono (fun e w' ⟨p, c, e1, o, b'⟩ => ⟨p, c, e1, o.gs KS_ok.len, b'⟩)
  have RN := hidr (fun W (b : Below w0.heap.size w0 W) => rnames_any _ Ly fz W (h.pr.below b) (by omega))
  have MI : Hid (∀ W, Below w0.heap.size w0 W → Calls Tryd.prog 30 #[.pointer (some ⟨r, 0, none⟩)] W fun e w' => ∃ p c, e = .returned (.slice p (misL (pL L)).length c) ∧ GS KS w' (.slice p (misL (pL L)).length c) (misL (pL L)) ∧ Below W.heap.size W w') := fun W b => (rmiss_any W (h.gx.below b) (hv.below b)).mono (fun e w' ⟨p, c, e1, o, b'⟩ => ⟨p, c, e1, o.gs KS_ok.len, b'⟩)
  have RM := hidr (fun W (b : Below w0.heap.size w0 W) => rmissing2_any _ Ly fz W (h.pr.below b))
  have US : Hid (∀ W, Below w0.heap.size w0 W → Calls Tryd.prog 29 #[.pointer (some ⟨r, 0, none⟩), .string s] W fun e w' => ∃ p c, e = .returned (.slice p (usersL (pL L) s).length c) ∧ GS KS w' (.slice p (usersL (pL L) s).length c) (usersL (pL L) s) ∧ Below W.heap.size W w') := fun W b => (users_any s W (h.gx.below b) (hv.below b)).mono (fun e w' ⟨p, c, e1, o, b'⟩ => ⟨p, c, e1, o.gs KS_ok.len, b'⟩)
  have RU := hidr (fun W (b : Below w0.heap.size w0 W) => rusers_any _ Ly fz s W (h.pr.below b) (by omega) h.ops)
  rw [h.eq] at RF RN RM RU
  have ST : ∀ w1 u1 u2 m, m.length ≤ 100000 → GS KS w1 u1 m → GS KS w1 u2 m → Calls Tryd.prog 28 #[u1, u2] w1 fun e w' => e = .returned (.bool true) ∧ Below w1.heap.size w1 w' := fun w1 u1 u2 m h3 h1 h2 => by
    refine (sameTextsG w1 u1 u2 m h1 h2 (by omega)).mono ?_
    rintro e w' ⟨rfl, n, rfl⟩
    exact ⟨rfl, ⟨rfl, rfl, rfl, Nat.le_refl _, fun _ _ => rfl⟩⟩
  have STN := hidr (fun w1 u1 u2 => ST w1 u1 u2 (nameL (pL L)) (by rw [nameL_len]; omega))
  have STM := hidr (fun w1 u1 u2 => ST w1 u1 u2 (misL (pL L)) (misL_len _ (fun p hp => by obtain ⟨y, hy, rfl⟩ := List.mem_map.1 hp; exact chk_len (h.gx.ok y hy)) (by rw [pL_len]; omega)))
  have STU := hidr (fun w1 u1 u2 => ST w1 u1 u2 (usersL (pL L) s) (by have := usersL_len (pL L) s; rw [pL_len] at this; omega))
  have GN := hidr (fun W (b : Below w0.heap.size w0 W) hn => get_no n W (h.gx.below b) hn)
  have GO := hidr (fun W (b : Below w0.heap.size w0 W) (k : Nat) hk => get_ok k W (h.gx.below b) hk)
  have PRH := hidr h.pr
  have EQ := hidr h.eq
  have OKL := hidr h.gx.ok
  have YC : Hid (∀ W, Below w0.heap.size w0 W → W.cell? ⟨w.heap.size, 0, none⟩ = some (.slice py L.length cy) ∧ W.cell? ⟨w.heap.size, 1, none⟩ = some (.bool fz)) := fun W b => by
    have := YB.cells (Y0.below b)
    exact ⟨this.1, this.2.1⟩
  generalize fndN (nameL (pL L)) s = fn at *
  generalize fndE (nameL (pL L)) s = fe at *
  generalize misL (pL L) = Ms at *
  generalize usersL (pL L) s = Us at *
  generalize nameL (pL L) = Ns at *
  obtain ⟨q, hq⟩ : ∃ q, q = L.length := ⟨_, rfl⟩
  have HQ := hidr hq
  rw [← hq] at RF RN RM RU YC LE GN hln hw0 PRH ⊢
  have WW := hidr hw0
  clear h hv hq hly ST Y0
  go_enter Tryd.func23, Tryd.ntmps23
  go_wp2_with fail
  rw [← hw0]
  clear hw0
  refine (FI.out _ (Below.refl _ _)).mono ?_
  rintro e w1 ⟨rfl, b1⟩
  have BB := hidr b1
  clear b1
  obtain ⟨y0, y1⟩ := YC.out _ BB.out
  go_wp2_with fail
  refine (RF.out _ BB.out).mono ?_
  rintro e w2 ⟨rfl, b2⟩
  have B2 := hidr (BB.out.trans (b2.mono BB.out.size))
  clear b2 BB y0 y1 FI RF
  obtain ⟨y0, y1⟩ := YC.out _ B2.out
  have BB := hidr B2.out.drew
  have BB1 := hidr B2.out
  clear B2
  go_wp2_with fail
  go_region_held3 (fun w' => w'.cell? ⟨w.heap.size, 0, none⟩ = some (.slice py q cy) ∧ w'.cell? ⟨w.heap.size, 1, none⟩ = some (.bool fz)) (go_keep)
    (first
            | (go_at_call 15; refine (LE.out _ BB.out).mono ?_; rintro e wA ⟨rfl, rfl⟩)
            | (go_at_call 35; refine (FR.out _ BB.out).mono ?_; rintro e wA ⟨rfl, rfl⟩)
            | (go_at_call 14; refine (NM.out _ BB.out).mono ?_; rintro e wA ⟨p1, c1, rfl, hg, hb⟩; (try replace G1 := hidr (G1.out.below hb)); (try replace G2 := hidr (G2.out.below hb)); (try replace G3 := hidr (G3.out.below hb)); (try replace G4 := hidr (G4.out.below hb)); (try replace G5 := hidr (G5.out.below hb)); (try replace G6 := hidr (G6.out.below hb)); have G1 := hidr hg; replace BB := hidr (BB.out.trans (hb.mono BB.out.size)); clear y0 y1; obtain ⟨y0, y1⟩ := YC.out _ BB.out; clear hg hb)
            | (go_at_call 36; refine (RN.out _ BB.out).mono ?_; rintro e wA ⟨p2, c2, rfl, hg, hb⟩; (try replace G1 := hidr (G1.out.below hb)); (try replace G2 := hidr (G2.out.below hb)); (try replace G3 := hidr (G3.out.below hb)); (try replace G4 := hidr (G4.out.below hb)); (try replace G5 := hidr (G5.out.below hb)); (try replace G6 := hidr (G6.out.below hb)); have G2 := hidr hg; replace BB := hidr (BB.out.trans (hb.mono BB.out.size)); clear y0 y1; obtain ⟨y0, y1⟩ := YC.out _ BB.out; clear hg hb)
            | (go_at_call 30; refine (MI.out _ BB.out).mono ?_; rintro e wA ⟨p3, c3, rfl, hg, hb⟩; (try replace G1 := hidr (G1.out.below hb)); (try replace G2 := hidr (G2.out.below hb)); (try replace G3 := hidr (G3.out.below hb)); (try replace G4 := hidr (G4.out.below hb)); (try replace G5 := hidr (G5.out.below hb)); (try replace G6 := hidr (G6.out.below hb)); have G3 := hidr hg; replace BB := hidr (BB.out.trans (hb.mono BB.out.size)); clear y0 y1; obtain ⟨y0, y1⟩ := YC.out _ BB.out; clear hg hb)
            | (go_at_call 37; refine (RM.out _ BB.out).mono ?_; rintro e wA ⟨p4, c4, rfl, hg, hb⟩; (try replace G1 := hidr (G1.out.below hb)); (try replace G2 := hidr (G2.out.below hb)); (try replace G3 := hidr (G3.out.below hb)); (try replace G4 := hidr (G4.out.below hb)); (try replace G5 := hidr (G5.out.below hb)); (try replace G6 := hidr (G6.out.below hb)); have G4 := hidr hg; replace BB := hidr (BB.out.trans (hb.mono BB.out.size)); clear y0 y1; obtain ⟨y0, y1⟩ := YC.out _ BB.out; clear hg hb)
            | (go_at_call 29; refine (US.out _ BB.out).mono ?_; rintro e wA ⟨p5, c5, rfl, hg, hb⟩; (try replace G1 := hidr (G1.out.below hb)); (try replace G2 := hidr (G2.out.below hb)); (try replace G3 := hidr (G3.out.below hb)); (try replace G4 := hidr (G4.out.below hb)); (try replace G5 := hidr (G5.out.below hb)); (try replace G6 := hidr (G6.out.below hb)); have G5 := hidr hg; replace BB := hidr (BB.out.trans (hb.mono BB.out.size)); clear y0 y1; obtain ⟨y0, y1⟩ := YC.out _ BB.out; clear hg hb)
            | (go_at_call 38; refine (RU.out _ BB.out).mono ?_; rintro e wA ⟨p6, c6, rfl, hg, hb⟩; (try replace G1 := hidr (G1.out.below hb)); (try replace G2 := hidr (G2.out.below hb)); (try replace G3 := hidr (G3.out.below hb)); (try replace G4 := hidr (G4.out.below hb)); (try replace G5 := hidr (G5.out.below hb)); (try replace G6 := hidr (G6.out.below hb)); have G6 := hidr hg; replace BB := hidr (BB.out.trans (hb.mono BB.out.size)); clear y0 y1; obtain ⟨y0, y1⟩ := YC.out _ BB.out; clear hg hb)
            | (go_at_call 28; refine (STU.out _ _ _ G5.out G6.out).mono ?_; rintro e wA ⟨rfl, hb⟩; (try replace G1 := hidr (G1.out.below hb)); (try replace G2 := hidr (G2.out.below hb)); (try replace G3 := hidr (G3.out.below hb)); (try replace G4 := hidr (G4.out.below hb)); (try replace G5 := hidr (G5.out.below hb)); (try replace G6 := hidr (G6.out.below hb)); replace BB := hidr (BB.out.trans (hb.mono BB.out.size)); clear y0 y1; obtain ⟨y0, y1⟩ := YC.out _ BB.out; clear hb)
            | (go_at_call 28; refine (STM.out _ _ _ G3.out G4.out).mono ?_; rintro e wA ⟨rfl, hb⟩; (try replace G1 := hidr (G1.out.below hb)); (try replace G2 := hidr (G2.out.below hb)); (try replace G3 := hidr (G3.out.below hb)); (try replace G4 := hidr (G4.out.below hb)); (try replace G5 := hidr (G5.out.below hb)); (try replace G6 := hidr (G6.out.below hb)); replace BB := hidr (BB.out.trans (hb.mono BB.out.size)); clear y0 y1; obtain ⟨y0, y1⟩ := YC.out _ BB.out; clear hb)
            | (go_at_call 28; refine (STN.out _ _ _ G1.out G2.out).mono ?_; rintro e wA ⟨rfl, hb⟩; (try replace G1 := hidr (G1.out.below hb)); (try replace G2 := hidr (G2.out.below hb)); (try replace G3 := hidr (G3.out.below hb)); (try replace G4 := hidr (G4.out.below hb)); (try replace G5 := hidr (G5.out.below hb)); (try replace G6 := hidr (G6.out.below hb)); replace BB := hidr (BB.out.trans (hb.mono BB.out.size)); clear y0 y1; obtain ⟨y0, y1⟩ := YC.out _ BB.out; clear hb))
  all_goals
    clear LE FR NM RN MI RM US RU STN STM STU G1 G2 G3 G4 G5 G6
    generalize wA = w5 at *
    by_cases hn : 0 ≤ n ∧ n < (q : Int)
    · obtain ⟨k, rfl⟩ : ∃ k : Nat, n = k := ⟨n.toNat, by omega⟩
      have hkq : k < q := by omega
      have hkl : k < L.length := by rw [← HQ.out]; exact hkq
      have LY : Hid (Ly.length = L.length) := by show _ = _; rw [← pL_len Ly, EQ.out, pL_len]
      have hky : k < Ly.length := by rw [LY.out]; exact hkl
      have EP : Ly[k].p = L[k].p := by
        have e := EQ.out
        rw [← pL_at hky, ← pL_at hkl]
        simp only [e]
      have G1 := hidr (fun W b => GO.out W b k hkl)
      have XC := hidr (fun W (b : Below w0.heap.size w0 W) => (PRH.out.below b).gs.atP hky)
      have SM := hidr (fun W (b : Below w0.heap.size w0 W) u (hu : GS KO W u L[k].p.ops) => sameProv_same L[k].p u Ly[k].v W hu (by have := ((PRH.out.below b).ps _ (List.getElem_mem hky)).os; rw [EP] at this; exact this) (by have := chk_len (OKL.out _ (List.getElem_mem hkl)); omega))
      obtain ⟨yq, yc, hyv⟩ : ∃ a b, Ly[k].v = .slice a Ly[k].p.ops.length b := ⟨_, _, rfl⟩
      generalize Ly[k] = yy at *
      generalize L[k] = xx at *
      obtain ⟨yp, ya, yb⟩ := yy
      obtain ⟨xp, xa, xb⟩ := xx
      simp only [Pvx.v] at *
      subst EP
      obtain ⟨nm, ops, ag, ⟨pt, pb, pf, pc⟩, ck, ct⟩ := yp
      simp only [prvV] at *
      have n1 : ¬ (k : Int) < 0 := by omega
      have n2 : ¬ (q : Int) ≤ (k : Int) := by omega
      clear hyv GO GN PRH EQ OKL
      go_wp2_with fail
      refine (G1.out _ BB.out).mono ?_
      rintro e w6 ⟨q6, c6, rfl, o6, b6⟩
      have HO6 := hidr (fun ob => o6.below (balr w6 ob))
      have HB6 := hidr (fun ob => BB.out.trans ((blr b6 (balr w6 ob)).mono BB.out.size))
      have HX6 := hidr (heap_alloc_new w6)
      have ZZ := hidr (And.intro BB.out.size b6.size)
      have OLT := hidr (fun g hg => (o6.lt (g := g) hg))
      clear o6 b6 y0 y1
      have y01 := fun ob => YC.out _ (HB6.out ob)
      go_upto_region 8 with fail
      generalize hW : w6.alloc _ = w7
      have B7 : Hid (Below w0.heap.size w0 w7) := by rw [← hW]; exact HB6.out _
      have O7 : Hid (OwnG KO w7 w5.heap.size (.slice q6 ops.length c6) ops) := by rw [← hW]; exact HO6.out _
      obtain ⟨Bp, hBp⟩ : ∃ Bp, Bp = w6.heap.size := ⟨_, rfl⟩
      have X7 : Hid (PBx w7 Bp ⟨nm, ops, ag, ⟨pt, pb, pf, pc⟩, ck, ct⟩ (.slice q6 ops.length c6)) := by rw [← hW, hBp]; exact HX6.out _
      rw [← hBp] at OLT ZZ ⊢
      clear hW HB6 HO6 HX6 y01 hBp
      obtain ⟨y0, y1⟩ := YC.out w7 B7.out
      obtain ⟨X, o, e1, x0, x1, x2, x3, x4, x5, x6, x7, x8⟩ := XC.out w7 B7.out
      obtain rfl : py = some ⟨X, o, none⟩ := e1
      have XD := hidr (fun W (b : Below w0.heap.size w0 W) => xs_at (p := ⟨nm, ops, ag, ⟨pt, pb, pf, pc⟩, ck, ct⟩) (q := ya) (c := yb) (XC.out W b))
      clear XC
      have XC := XD
      clear XD
      obtain ⟨z0, z1, z2, z3, z4, z5, z6, z7, z8⟩ := PBx.cells X7.out
      go_region_held3 (fun w' => w'.cell? ⟨w.heap.size, 0, none⟩ = some (.slice (some ⟨X, o, none⟩) q cy) ∧ w'.cell? ⟨w.heap.size, 1, none⟩ = some (.bool fz) ∧ w'.cell? ⟨Bp, 0, none⟩ = some (.string nm) ∧ w'.cell? ⟨Bp, 1, none⟩ = some (.slice q6 ops.length c6) ∧ w'.cell? ⟨Bp, 2, none⟩ = some (.bool ag) ∧ w'.cell? ⟨Bp, 3, none⟩ = some (.int .i64 pt) ∧ w'.cell? ⟨Bp, 4, none⟩ = some (.int .i64 pb) ∧ w'.cell? ⟨Bp, 5, none⟩ = some (.int .i64 pf) ∧ w'.cell? ⟨Bp, 6, none⟩ = some (.int .i64 pc) ∧ w'.cell? ⟨Bp, 7, none⟩ = some (.int .i64 ck) ∧ w'.cell? ⟨Bp, 8, none⟩ = some (.string ct) ∧ w'.cell? ⟨X, o + k * 9, none⟩ = some (.string nm) ∧ w'.cell? ⟨X, o + k * 9 + 1, none⟩ = some (.slice ya ops.length yb) ∧ w'.cell? ⟨X, o + k * 9 + 2, none⟩ = some (.bool ag) ∧ w'.cell? ⟨X, o + k * 9 + 3, none⟩ = some (.int .i64 pt) ∧ w'.cell? ⟨X, o + k * 9 + 4, none⟩ = some (.int .i64 pb) ∧ w'.cell? ⟨X, o + k * 9 + 5, none⟩ = some (.int .i64 pf) ∧ w'.cell? ⟨X, o + k * 9 + 6, none⟩ = some (.int .i64 pc) ∧ w'.cell? ⟨X, o + k * 9 + 7, none⟩ = some (.int .i64 ck) ∧ w'.cell? ⟨X, o + k * 9 + 8, none⟩ = some (.string ct)) (go_keep)
        ((go_at_call 10; refine (SM.out _ (by first | exact B7.out | exact B7.out.drew) _ (by first | exact (O7.out.gs KO_ok.len) | exact GS.below (O7.out.gs KO_ok.len) (Below.refl _ _).drew)).mono ?_; rintro e w8 ⟨rfl, hb⟩; have B8 : Hid (Below w7.heap.size w7 w8) := ((Below.refl _ _).drew).trans hb; clear hb; clear y0 y1 x0 x1 x2 x3 x4 x5 x6 x7 x8 z0 z1 z2 z3 z4 z5 z6 z7 z8; obtain ⟨y0, y1⟩ := YC.out _ (blr (B7.out) B8.out); obtain ⟨x0, x1, x2, x3, x4, x5, x6, x7, x8⟩ := XC.out _ (blr (B7.out) B8.out); obtain ⟨z0, z1, z2, z3, z4, z5, z6, z7, z8⟩ := PBx.cells (PBx.below X7.out B8.out)))
      all_goals
        have B8w := hidr (blr B7.out B8.out)
        have X8 := hidr (PBx.below X7.out B8.out)
        have O8 := hidr (O7.out.below B8.out)
        have SP8 := hidr (spoil_but _ ops w8 _ O8.out)
        clear O7 X7 B7 B8
        go_wp2_with fail
        refine SP8.out.mono ?_
        rintro e w9 ⟨rfl, k9⟩
        have B9 := hidr (spoil_low (base := w5.heap.size) B8w.out (fun g hg => (OLT.out g hg).1) ZZ.out.1 k9)
        have X9 : Hid (PBx w9 Bp ⟨nm, ops, ag, ⟨pt, pb, pf, pc⟩, ck, ct⟩ (.slice q6 ops.length c6)) := (k9.block Bp (lt_heap X8.out) (fun e => by have := (OLT.out Bp e).2; omega)).trans X8.out
        clear k9 X8 O8 SP8 B8w y0 y1 x0 x1 x2 x3 x4 x5 x6 x7 x8 z0 z1 z2 z3 z4 z5 z6 z7 z8
        go_wp2_with fail
        refine (G1.out _ B9.out).mono ?_
        rintro e w10 ⟨q10, c10, rfl, o10, b10⟩
        have X10 := hidr (PBx.below X9.out b10)
        have B10 := hidr (blr B9.out b10)
        have O10 := hidr o10
        have L9 := hidr (lt_heap X9.out)
        obtain ⟨z0, z1, z2, z3, z4, z5, z6, z7, z8⟩ := PBx.cells X10.out
        have fz10 : ∀ o, w10.frozen? ⟨Bp, o, none⟩ = false := fun o => box_frozen X10.out
        have ge : Hid (w0.heap.size ≤ Bp) := by have := ZZ.out; show _ ≤ _; omega
        obtain ⟨n1', n2', n3'⟩ := pbx_sets X10.out B10.out ge.out ⟨nm, ops, ag, ⟨pt, pb, pf, pc⟩, ck, ct⟩ q10 c10 (by exact O10.out) (by have := L9.out; omega)
        have N1 := hidr n1'
        have N2 := hidr n2'
        have N3 := hidr n3'
        clear o10 b10 n1' n2' n3' X9 B9 O10 X10 B10 G1
        go_upto_region 12 with fail
        generalize hW : World.setCell _ _ _ = w11 at N1 N2 N3 ⊢
        clear hW
        clear z0 z1 z2 z3 z4 z5 z6 z7 z8 fz10
        obtain ⟨y0, y1⟩ := YC.out w11 N2.out
        obtain ⟨x0, x1, x2, x3, x4, x5, x6, x7, x8⟩ := XC.out w11 N2.out
        obtain ⟨z0, z1, z2, z3, z4, z5, z6, z7, z8⟩ := PBx.cells N1.out
        go_region_held3 (fun w' => w'.cell? ⟨w.heap.size, 0, none⟩ = some (.slice (some ⟨X, o, none⟩) q cy) ∧ w'.cell? ⟨w.heap.size, 1, none⟩ = some (.bool fz) ∧ w'.cell? ⟨Bp, 0, none⟩ = some (.string nm) ∧ w'.cell? ⟨Bp, 1, none⟩ = some (.slice q10 ops.length c10) ∧ w'.cell? ⟨Bp, 2, none⟩ = some (.bool ag) ∧ w'.cell? ⟨Bp, 3, none⟩ = some (.int .i64 pt) ∧ w'.cell? ⟨Bp, 4, none⟩ = some (.int .i64 pb) ∧ w'.cell? ⟨Bp, 5, none⟩ = some (.int .i64 pf) ∧ w'.cell? ⟨Bp, 6, none⟩ = some (.int .i64 pc) ∧ w'.cell? ⟨Bp, 7, none⟩ = some (.int .i64 ck) ∧ w'.cell? ⟨Bp, 8, none⟩ = some (.string ct) ∧ w'.cell? ⟨X, o + k * 9, none⟩ = some (.string nm) ∧ w'.cell? ⟨X, o + k * 9 + 1, none⟩ = some (.slice ya ops.length yb) ∧ w'.cell? ⟨X, o + k * 9 + 2, none⟩ = some (.bool ag) ∧ w'.cell? ⟨X, o + k * 9 + 3, none⟩ = some (.int .i64 pt) ∧ w'.cell? ⟨X, o + k * 9 + 4, none⟩ = some (.int .i64 pb) ∧ w'.cell? ⟨X, o + k * 9 + 5, none⟩ = some (.int .i64 pf) ∧ w'.cell? ⟨X, o + k * 9 + 6, none⟩ = some (.int .i64 pc) ∧ w'.cell? ⟨X, o + k * 9 + 7, none⟩ = some (.int .i64 ck) ∧ w'.cell? ⟨X, o + k * 9 + 8, none⟩ = some (.string ct)) (go_keep)
          ((go_at_call 10; refine (SM.out _ (by first | exact N2.out | exact N2.out.drew) _ (by first | exact (N3.out.gs KO_ok.len) | exact GS.below (N3.out.gs KO_ok.len) (Below.refl _ _).drew)).mono ?_; rintro e w12 ⟨rfl, hb⟩; have B12 : Hid (Below w11.heap.size w11 w12) := ((Below.refl _ _).drew).trans hb; clear hb; clear y0 y1 x0 x1 x2 x3 x4 x5 x6 x7 x8 z0 z1 z2 z3 z4 z5 z6 z7 z8; obtain ⟨y0, y1⟩ := YC.out _ (blr (N2.out) B12.out); obtain ⟨x0, x1, x2, x3, x4, x5, x6, x7, x8⟩ := XC.out _ (blr (N2.out) B12.out); obtain ⟨z0, z1, z2, z3, z4, z5, z6, z7, z8⟩ := PBx.cells (PBx.below N1.out B12.out)))
        all_goals
          have B12w := hidr (blr N2.out B12.out)
          clear N1 N2 N3 B12 y0 y1 x0 x1 x2 x3 x4 x5 x6 x7 x8 z0 z1 z2 z3 z4 z5 z6 z7 z8
          go_wp2_with fail
          go_ret
          exact ⟨rfl, blr B0.out B12w.out⟩
    · have SZ := hidr (fun W (b : Below w0.heap.size w0 W) => sameProv_same ⟨⟨#[]⟩, [], false, ⟨0, 0, 0, 0⟩, 0, ⟨#[]⟩⟩ (.slice none 0 0) (.slice none 0 0) W (Or.inl ⟨Or.inl rfl, rfl⟩) (Or.inl ⟨Or.inl rfl, rfl⟩) (by simp))
      have hno : n < 0 ∨ (q : Int) ≤ n := by omega
      simp only [prvV] at SZ
      clear hn GO PRH EQ OKL
      by_cases h0 : n < 0
      · go_wp2_with fail
        refine (GN.out _ BB.out hno).mono ?_
        rintro e w6 ⟨rfl, b6⟩
        have B6 := hidr (fun ob => BB.out.trans ((blr b6 (balr w6 ob)).mono BB.out.size))
        have y01 := fun ob => YC.out _ (B6.out ob)
        clear b6 hno y0 y1
        simp only [zPrv]
        go_wp2_with (go_at_call 10; refine (SZ.out _ (by first | exact B6.out _)).mono ?_; rintro e w7 ⟨rfl, b7⟩; have B7 := hidr (blr (B6.out _) b7); clear b7)
        go_ret
        exact ⟨rfl, blr B0.out B7.out⟩
      · have hge : (q : Int) ≤ n := by omega
        go_wp2_with fail
        refine (GN.out _ BB.out hno).mono ?_
        rintro e w6 ⟨rfl, b6⟩
        have B6 := hidr (fun ob => BB.out.trans ((blr b6 (balr w6 ob)).mono BB.out.size))
        have y01 := fun ob => YC.out _ (B6.out ob)
        clear b6 hno y0 y1
        simp only [zPrv]
        go_wp2_with (go_at_call 10; refine (SZ.out _ (by first | exact B6.out _)).mono ?_; rintro e w7 ⟨rfl, b7⟩; have B7 := hidr (blr (B6.out _) b7); clear b7)
        go_ret
        exact ⟨rfl, blr B0.out B7.out⟩
end Go.Proofs.YtffabehipcomfaaDoor
