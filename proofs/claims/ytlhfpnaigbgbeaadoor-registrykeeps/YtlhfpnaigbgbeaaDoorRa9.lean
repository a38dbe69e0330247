/- Registry: works. -/
import Derived.Test.YtlhfpnaigbgbeaaDoorRa7
import Derived.Test.YtlhfpnaigbgbeaaDoorQa9
namespace Go.Proofs.YtlhfpnaigbgbeaaDoor
open Go.RowKit Go.Maps

/-- A registry and a row of providers of the law's own, apart. -/
structure HX (base r m : Nat) (fz : Bool) (P : List Prv) (vh : Value) (M : List Pvx) (w : World) : Prop where
  ex : ∃ vs L, GX w base r m vs L fz ∧ pL L = P ∧ ∀ g, vh.ownBlock = some g → vs.ownBlock ≠ some g
  ho : OwnG KP w base vh M
  he : ∀ x ∈ M, OwnG KO w base x.v x.p.ops
theorem HX.below {base r m : Nat} {fz : Bool} {P : List Prv} {vh : Value} {M : List Pvx} {w w' : World} (h : HX base r m fz P vh M w) (b : Below w.heap.size w w') : HX base r m fz P vh M w' := by
  obtain ⟨⟨vs, L, h1, h2, h3⟩, ho, he⟩ := h
  exact ⟨⟨vs, L, h1.below b, h2, h3⟩, ho.below b, fun x hx => (he x hx).below b⟩
theorem But.low {w w' : World} {base r m : Nat} {vs : Value} {L : List Pvx} {fz : Bool} (h : GX w base r m vs L fz) (b : But (FX r m vs) w w') : Below base w w' :=
  ⟨b.os, b.tape, b.output, b.size, fun x hx => b.block x (by have := lt_heap h.hp; have := h.gr; omega) (fun q => by
    rcases q with q | q | q
    · have := h.gr; omega
    · have := h.gm; omega
    · have := (h.own.lt q).1; omega)⟩
theorem HX.turn {base r m : Nat} {fz fz' : Bool} {P' : List Prv} {vs vs' : Value} {L L' : List Pvx} {vh : Value} {M : List Pvx} {w w' : World} (h1 : GX w base r m vs L fz) (h3 : ∀ g, vh.ownBlock = some g → vs.ownBlock ≠ some g) (ho : OwnG KP w base vh M) (he : ∀ x ∈ M, OwnG KO w base x.v x.p.ops)
    (hx : GX w' base r m vs' L' fz') (hp : pL L' = P') (hn : ∀ g, vs'.ownBlock = some g → vs.ownBlock = some g ∨ w.heap.size ≤ g) (b : But (FX r m vs) w w') : HX base r m fz' P' vh M w' := by
  have keepK : ∀ x ∈ M, OwnG KO w' base x.v x.p.ops := fun x hx => (he x hx).far fun g hg => by
    have := h1.ne (he x hx) (by decide) hg
    refine b.block g ((he x hx).lt hg).2 (fun q => ?_)
    rcases q with q | q | q
    · exact this.1 q
    · exact this.2 q
    · exact own_apart (by decide) (he x hx) h1.own hg q.symm
  refine ⟨⟨vs', L', hx, hp, fun g hg => ?_⟩, ho.far fun g hg => ?_, keepK⟩
  · intro q
    rcases hn g q with e | e
    · exact h3 g hg e
    · have := (ho.lt hg).2; omega
  · have := h1.ne ho (by decide) hg
    refine b.block g (ho.lt hg).2 (fun q => ?_)
    rcases q with q | q | q
    · exact this.1 q
    · exact this.2 q
    · exact h3 g hg q
theorem HX.add {base r m : Nat} {fz : Bool} {P : List Prv} {vh : Value} {M : List Pvx} {w : World} (h : HX base r m fz P vh M w) (p : Prv) (ve : Value) (hp : PS w p ve) (hv : NV w) :
    Calls Tryd.prog 9 #[.pointer (some ⟨r, 0, none⟩), prvV p ve] w fun e w' => e = .returned (.tuple #[.int .i64 (addN P fz p : Nat), .int .i64 (addE P fz p)]) ∧ HX base r m fz (addL P fz p) vh M w' ∧ Below base w w' := by
  obtain ⟨⟨vs, L, h1, rfl, h3⟩, ho, he⟩ := h
  refine (add_any_r p ve w h1 hp hv).mono ?_
  rintro e w' ⟨rfl, ⟨vs', L', g1, g2, g3⟩, hb⟩
  exact ⟨rfl, .turn h1 h3 ho he g1 g2 g3 hb, hb.low h1⟩
theorem HX.names {base r m : Nat} {fz : Bool} {P : List Prv} {vh : Value} {M : List Pvx} {w : World} (h : HX base r m fz P vh M w) :
    Calls Tryd.prog 14 #[.pointer (some ⟨r, 0, none⟩)] w fun e w' => ∃ p c, e = .returned (.slice p (nameL P).length c) ∧ GS KS w' (.slice p (nameL P).length c) (nameL P) ∧ Below w.heap.size w w' := by
  obtain ⟨⟨vs, L, h1, rfl, h3⟩, ho, he⟩ := h
  refine (names_any w h1).mono ?_
  rintro e w' ⟨p, c, rfl, o, b⟩
  exact ⟨p, c, rfl, o.gs KS_ok.len, b⟩
theorem HX.users {base r m : Nat} {fz : Bool} {P : List Prv} {vh : Value} {M : List Pvx} {w : World} (h : HX base r m fz P vh M w) (hv : NV w) (s : ByteArray) :
    Calls Tryd.prog 29 #[.pointer (some ⟨r, 0, none⟩), .string s] w fun e w' => ∃ p c, e = .returned (.slice p (usersL P s).length c) ∧ GS KS w' (.slice p (usersL P s).length c) (usersL P s) ∧ Below w.heap.size w w' := by
  obtain ⟨⟨vs, L, h1, rfl, h3⟩, ho, he⟩ := h
  refine (users_any s w h1 hv).mono ?_
  rintro e w' ⟨p, c, rfl, o, b⟩
  exact ⟨p, c, rfl, o.gs KS_ok.len, b⟩
theorem HX.miss {base r m : Nat} {fz : Bool} {P : List Prv} {vh : Value} {M : List Pvx} {w : World} (h : HX base r m fz P vh M w) (hv : NV w) :
    Calls Tryd.prog 30 #[.pointer (some ⟨r, 0, none⟩)] w fun e w' => ∃ p c, e = .returned (.slice p (misL P).length c) ∧ GS KS w' (.slice p (misL P).length c) (misL P) ∧ Below w.heap.size w w' := by
  obtain ⟨⟨vs, L, h1, rfl, h3⟩, ho, he⟩ := h
  refine (rmiss_any w h1 hv).mono ?_
  rintro e w' ⟨p, c, rfl, o, b⟩
  exact ⟨p, c, rfl, o.gs KS_ok.len, b⟩
theorem HX.len {base r m : Nat} {fz : Bool} {P : List Prv} {vh : Value} {M : List Pvx} {w : World} (h : HX base r m fz P vh M w) : Calls Tryd.prog 15 #[.pointer (some ⟨r, 0, none⟩)] w fun e w' => e = .returned (.int .i64 P.length) ∧ w' = w := by
  obtain ⟨⟨vs, L, h1, rfl, h3⟩, ho, he⟩ := h
  rw [pL_len]
  exact len_any w h1
theorem HX.find {base r m : Nat} {fz : Bool} {P : List Prv} {vh : Value} {M : List Pvx} {w : World} (h : HX base r m fz P vh M w) (s : ByteArray) (hs : s.size ≤ maxLen) : Calls Tryd.prog 16 #[.pointer (some ⟨r, 0, none⟩), .string s] w fun e w' => e = .returned (.tuple #[.int .i64 (fndN (nameL P) s : Nat), .int .i64 (fndE (nameL P) s)]) ∧ Below w.heap.size w w' := by
  obtain ⟨⟨vs, L, h1, rfl, h3⟩, ho, he⟩ := h
  exact find_any s w h1 hs
theorem HX.get {base r m : Nat} {fz : Bool} {P : List Prv} {vh : Value} {M : List Pvx} {w : World} (h : HX base r m fz P vh M w) (k : Nat) (hk : k < P.length) :
    Calls Tryd.prog 17 #[.pointer (some ⟨r, 0, none⟩), .int .i64 k] w fun e w' => ∃ q c, e = .returned (.tuple #[prvV P[k] (.slice q P[k].ops.length c), .int .i64 0]) ∧ OwnG KO w' w.heap.size (.slice q P[k].ops.length c) P[k].ops ∧ Below w.heap.size w w' := by
  obtain ⟨⟨vs, L, h1, rfl, h3⟩, ho, he⟩ := h
  have hk2 : k < L.length := by rw [pL_len] at hk; exact hk
  rw [pL_at hk2]
  exact get_ok k w h1 hk2
theorem new_hx (w : World) : Calls Tryd.prog 12 #[] w fun e w' => e = .returned (.pointer (some ⟨w.heap.size + 1, 0, none⟩)) ∧ HX w.heap.size (w.heap.size + 1) w.heap.size false [] (.slice none 0 0) [] w' ∧ Below w.heap.size w w' := by
  refine (new_any w).mono ?_
  rintro e w' ⟨rfl, h, b⟩
  exact ⟨rfl, ⟨⟨_, [], h, rfl, fun g hg => by cases hg⟩, OwnG.nil _ _ _, fun x hx => by cases hx⟩, b⟩
/-- One more of the law's own. -/
theorem HX.push {base r m : Nat} {fz : Bool} {P : List Prv} {vh : Value} {M : List Pvx} {w w3 : World} {g cap n : Nat} {x : Pvx} (h : HX base r m fz P vh M w) (hx : OwnG KO w base x.v x.p.ops)
    (o3 : OwnG KP w3 base (.slice (some ⟨g, 0, none⟩) n cap) (M ++ [x])) (k3 : ∀ k, k < w.heap.size → some k ≠ vh.ownBlock → w3.heap[k]? = w.heap[k]?) (hg : vh.ownBlock = some g ∨ w.heap.size ≤ g) : HX base r m fz P (.slice (some ⟨g, 0, none⟩) n cap) (M ++ [x]) w3 := by
  obtain ⟨⟨vs, L, h1, h2, h3⟩, ho, he⟩ := h
  have keep : ∀ (v : Value) (l : List Opn), OwnG KO w base v l → OwnG KO w3 base v l := fun v l o => o.far fun q hq => k3 q (o.lt hq).2 (own_apart (by decide) o ho hq)
  refine ⟨⟨vs, L, h1.keep (fun y hy => ?_) (fun y hy q hq => ?_), h2, fun q hq => ?_⟩, o3, fun y hy => ?_⟩
  · rcases hy with rfl | rfl | hy
    · exact k3 _ (lt_heap h1.hp) (fun e => (h1.ne ho (by decide) e.symm).1 rfl)
    · exact k3 _ h1.mv.lt (fun e => (h1.ne ho (by decide) e.symm).2 rfl)
    · exact k3 _ (h1.own.lt hy).2 (fun e => h3 y e.symm hy)
  · exact k3 q ((h1.each y hy).lt hq).2 (own_apart (by decide) (h1.each y hy) ho hq)
  · have e : g = q := by simpa [Value.ownBlock] using hq
    subst e
    intro e2
    rcases hg with e3 | e3
    · exact h3 g e3 e2
    · have := (h1.own.lt e2).2; omega
  · rcases List.mem_append.1 hy with hy | hy
    · exact keep _ _ (he y hy)
    · obtain rfl := List.mem_singleton.1 hy; exact keep _ _ hx
def oB : Opn := ⟨3, 0, 0, ⟨#[98]⟩⟩
def o1 : Opn := ⟨1, 0, 1, ⟨#[]⟩⟩
def o2 : Opn := ⟨1, 0, 2, ⟨#[]⟩⟩
def pA : Prv := ⟨⟨#[97]⟩, [oB], false, ⟨0, 0, 0, 0⟩, 0, ⟨#[]⟩⟩
def pB : Prv := ⟨⟨#[98]⟩, [o1], false, ⟨0, 0, 0, 0⟩, 0, ⟨#[]⟩⟩
def pC : Prv := ⟨⟨#[97]⟩, [o2], false, ⟨0, 0, 0, 0⟩, 0, ⟨#[]⟩⟩
theorem w1E : addE [] false pA = 0 := by decide +kernel
theorem w2E : addE [pA] false pB = 0 := by decide +kernel
theorem w3E : addE [pA, pB] false pC = 6 := by decide +kernel
theorem wUs : usersL [pA, pB] ⟨#[98]⟩ = [⟨#[97]⟩] := by decide +kernel
theorem wMi : misL [pA, pB] = [] := by decide +kernel
end Go.Proofs.YtlhfpnaigbgbeaaDoor
namespace Go.Proofs.YtlhfpnaigbgbeaaDoor
open Go.RowKit Go.Maps

theorem ps_one (w : World) (p : Prv) (o : Opn) (hp : p.ops = [o]) (ht : o.text.size ≤ maxLen) (hn : p.name.size ≤ maxLen) : PS (w.alloc (.cells #[.int .i64 o.kind, .int .i64 o.n, .int .i64 o.int, .string o.text] 71)) p (.slice (some ⟨w.heap.size, 0, none⟩) 1 1) := by
  refine ⟨?_, fun c hc => ?_, hn, by rw [hp]; simp⟩
  · rw [hp]
    refine Or.inr ⟨w.heap.size, 0, 1, rfl, by simp, by simp, fun k hk j u hu => ?_⟩
    have hb := heap_alloc_new w (.cells #[.int .i64 o.kind, .int .i64 o.n, .int .i64 o.int, .string o.text] 71)
    obtain rfl : k = 0 := by simpa using hk
    have hu' : [Value.int .i64 o.kind, .int .i64 o.n, .int .i64 o.int, .string o.text][j]? = some u := hu
    match j, hu' with
    | 0, hu => injection hu with hu; subst hu; exact cell_of_row _ _ _ _ _ _ hb
    | 1, hu => injection hu with hu; subst hu; exact cell_of_row _ _ _ _ _ _ hb
    | 2, hu => injection hu with hu; subst hu; exact cell_of_row _ _ _ _ _ _ hb
    | 3, hu => injection hu with hu; subst hu; exact cell_of_row _ _ _ _ _ _ hb
  · rw [hp] at hc
    obtain rfl := List.mem_singleton.1 hc
    exact ht
theorem ks_one (w : World) : GS KS (w.alloc (.cells #[.string ⟨#[97]⟩] 9)) (.slice (some ⟨w.heap.size, 0, none⟩) 1 1) [⟨#[97]⟩] := by
  refine Or.inr ⟨w.heap.size, 0, 1, rfl, by simp, by decide, fun k hk j u hu => ?_⟩
  have hb := heap_alloc_new w (.cells #[.string ⟨#[97]⟩] 9)
  match k, hk, j, hu with
  | 0, _, 0, hu => injection hu with hu; subst hu; exact cell_of_row _ _ _ _ _ _ hb
set_option maxHeartbeats 8000000 in
set_option maxRecDepth 100000 in
theorem works_any (w : World) (hv : NV w) : Calls Tryd.prog 11 #[] w fun e w' => e = .returned (.bool true) ∧ Below w.heap.size w w' := by
  have NW := hidr (new_hx w)
  obtain ⟨r, hr⟩ : ∃ r, r = w.heap.size + 1 := ⟨_, rfl⟩
  rw [← hr] at NW
  have AD : Hid (∀ wk P p o, Below w.heap.size w wk → HX w.heap.size r w.heap.size false P (.slice none 0 0) [] wk → p.ops = [o] → o.text.size ≤ maxLen → p.name.size ≤ maxLen → Calls Tryd.prog 9 #[.pointer (some ⟨r, 0, none⟩), prvV p (.slice (some ⟨wk.heap.size, 0, none⟩) 1 1)] (wk.alloc (.cells #[.int .i64 o.kind, .int .i64 o.n, .int .i64 o.int, .string o.text] 71)) fun e w' => e = .returned (.tuple #[.int .i64 (addN P false p : Nat), .int .i64 (addE P false p)]) ∧ HX w.heap.size r w.heap.size false (addL P false p) (.slice none 0 0) [] w' ∧ Below w.heap.size w w') := fun wk P p o b h h1 h2 h3 => by
    refine ((h.below (balr wk _)).add p _ (ps_one wk p o h1 h2 h3) (hv.below (blr b (balr wk _)))).mono ?_
    rintro e w' ⟨rfl, h4, h5⟩
    exact ⟨rfl, h4, (blr b (balr wk _)).trans h5⟩
  have A1 := hidr (fun wk b h => AD.out wk [] pA oB b h rfl (by decide) (by decide))
  have A2 := hidr (fun wk b h => AD.out wk [pA] pB o1 b h rfl (by decide) (by decide))
  have A3 := hidr (fun wk b h => AD.out wk [pA, pB] pC o2 b h rfl (by decide) (by decide))
  have US : Hid (∀ wk, Below w.heap.size w wk → HX w.heap.size r w.heap.size false [pA, pB] (.slice none 0 0) [] wk → Calls Tryd.prog 29 #[.pointer (some ⟨r, 0, none⟩), .string ⟨#[98]⟩] wk fun e w' => ∃ p c, e = .returned (.slice p 1 c) ∧ GS KS w' (.slice p 1 c) [⟨#[97]⟩] ∧ Below wk.heap.size wk w') := fun wk b h => by
    have := h.users (hv.below b) ⟨#[98]⟩
    rw [wUs] at this; exact this
  have MI : Hid (∀ wk, Below w.heap.size w wk → HX w.heap.size r w.heap.size false [pA, pB] (.slice none 0 0) [] wk → Calls Tryd.prog 30 #[.pointer (some ⟨r, 0, none⟩)] wk fun e w' => ∃ p c, e = .returned (.slice p 0 c) ∧ Below wk.heap.size wk w') := fun wk b h => by
    have := h.miss (hv.below b)
    rw [wMi] at this
    exact this.mono (fun e w' ⟨p, c, e1, _, b⟩ => ⟨p, c, e1, b⟩)
  have n1 : addN [] false pA = 0 := by unfold addN; rw [w1E]; rfl
  have n2 : addN [pA] false pB = 1 := by unfold addN; rw [w2E]; rfl
  have n3 : addN [pA, pB] false pC = 0 := by unfold addN; rw [w3E]; rfl
  have l1 : addL [] false pA = [pA] := by unfold addL; rw [w1E]; rfl
  have l2 : addL [pA] false pB = [pA, pB] := by unfold addL; rw [w2E]; rfl
  have l3 : addL [pA, pB] false pC = [pA, pB] := by unfold addL; rw [w3E]; rfl
  rw [n1, w1E, l1] at A1
  rw [n2, w2E, l2] at A2
  rw [n3, w3E, l3] at A3
  have ST : Hid (∀ w1 u1 u2 m, GS KS w1 u1 m → GS KS w1 u2 m → m.length ≤ 100000000000000000 → Calls Tryd.prog 28 #[u1, u2] w1 fun e w' => e = .returned (.bool true) ∧ Below w1.heap.size w1 w') := fun w1 u1 u2 m h1 h2 h3 => by
    refine (sameTextsG w1 u1 u2 m h1 h2 h3).mono ?_
    rintro e w' ⟨rfl, n, rfl⟩
    exact ⟨rfl, ⟨rfl, rfl, rfl, Nat.le_refl _, fun _ _ => rfl⟩⟩
  simp only [prvV, pA, pB, pC, oB, o1, o2] at A1 A2 A3
  clear AD n1 n2 n3 l1 l2 l3 hr hv
  go_enter Tryd.func11, Tryd.ntmps11
  go_wp2_with fail
  refine NW.out.mono ?_
  rintro e w1 ⟨rfl, hx1, hb1⟩
  have X1 := hidr hx1
  have B1 := hidr hb1
  clear hx1 hb1 NW
  go_wp2_with fail
  refine (A1.out _ B1.out X1.out).mono ?_
  rintro e w2 ⟨rfl, hx2, hb2⟩
  have X2 := hidr hx2
  have B2 := hidr hb2
  clear hx2 hb2 X1 B1 A1
  go_wp2_with fail
  refine (A2.out _ B2.out X2.out).mono ?_
  rintro e w3 ⟨rfl, hx3, hb3⟩
  have X3 := hidr hx3
  have B3 := hidr hb3
  clear hx3 hb3 X2 B2 A2
  go_wp2_with fail
  refine (A3.out _ B3.out X3.out).mono ?_
  rintro e w4 ⟨rfl, hx4, hb4⟩
  have X4 := hidr hx4
  have B4 := hidr hb4
  clear hx4 hb4 X3 B3 A3
  go_wp2_with fail
  refine (US.out _ B4.out X4.out).mono ?_
  rintro e w5 ⟨p5, c5, rfl, hg5, hb5⟩
  have S5 := hidr (ST.out _ _ _ [⟨#[97]⟩] (hg5.below (balr w5 (.cells #[.string ⟨#[97]⟩] 9))) (ks_one w5) (by decide))
  have X5 := hidr ((X4.out.below hb5).below (balr w5 (.cells #[.string ⟨#[97]⟩] 9)))
  have B5 := hidr (B4.out.trans ((blr hb5 (balr w5 (.cells #[.string ⟨#[97]⟩] 9))).mono B4.out.size))
  clear hg5 hb5 X4 B4 US ST
  go_wp2_with fail
  refine S5.out.mono ?_
  rintro e w6 ⟨rfl, hb6⟩
  have X6 := hidr (X5.out.below hb6)
  have B6 := hidr (B5.out.trans (hb6.mono B5.out.size))
  clear hb6 X5 B5 S5
  go_wp2_with fail
  refine (MI.out _ B6.out X6.out).mono ?_
  rintro e w7 ⟨p7, c7, rfl, hb7⟩
  go_wp2_with fail
  go_ret
  exact ⟨rfl, B6.out.trans (hb7.mono B6.out.size)⟩
end Go.Proofs.YtlhfpnaigbgbeaaDoor
