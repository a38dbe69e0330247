/- Registry: what a law keeps; works. -/
import Derived.Test.YtffabehipcomfaaDoorRa7
import Derived.Test.YtffabehipcomfaaDoorQa9
namespace Go.Proofs.YtffabehipcomfaaDoor
open Go.RowKit Go.Maps

/-- A registry and a row of providers of the law's own, apart. -/
structure HX (base r m : Nat) (fz : Bool) (P : List Prv) (vh : Value) (M : List Pvx) (w : World) : Prop where
  ex : ∃ vs L, GX w base r m vs L fz ∧ pL L = P ∧ ∀ g, vh.ownBlock = some g → vs.ownBlock ≠ some g
  ho : OwnG KP w base vh M
  he : ∀ x ∈ M, OwnG KO w base x.v x.p.ops
theorem HX.below {base r m : Nat} {fz : Bool} {P : List Prv} {vh : Value} {M : List Pvx} {w w' : World} (h : HX base r m fz P vh M w) (b : Below w.heap.size w w') : HX base r m fz P vh M w' := by
  obtain ⟨⟨vs, L, h1, h2, h3⟩, ho, he⟩ := h
  exact ⟨⟨vs, L, h1.below b, h2, h3⟩, ho.below b, fun x hx => (he x hx).below b⟩
theorem But.low {w w' : World} {base r m : Nat} {vs : Value} {L : List Pvx} {fz : Bool} (h : GX w base r m vs L fz) (b : But (FX r m vs) w w') : Below base w w' :=
  ⟨b.os, b.tape, b.output, b.size, fun x hx => b.block x (by have := lt_heap h.hp; have := h.gr; omega) (fun q => by
    rcases q with q | q | q
    · have := h.gr; omega
    · have := h.gm; omega
    · have := (h.own.lt q).1; omega)⟩
theorem HX.turn {base r m : Nat} {fz fz' : Bool} {P' : List Prv} {vs vs' : Value} {L L' : List Pvx} {vh : Value} {M : List Pvx} {w w' : World} (h1 : GX w base r m vs L fz) (h3 : ∀ g, vh.ownBlock = some g → vs.ownBlock ≠ some g) (ho : OwnG KP w base vh M) (he : ∀ x ∈ M, OwnG KO w base x.v x.p.ops)
    (hx : GX w' base r m vs' L' fz') (hp : pL L' = P') (hn : ∀ g, vs'.ownBlock = some g → vs.ownBlock = some g ∨ w.heap.size ≤ g) (b : But (FX r m vs) w w') : HX base r m fz' P' vh M w' := by
  have keepK : ∀ x ∈ M, OwnG KO w' base x.v x.p.ops := fun x hx => (he x hx).far fun g hg => by
    have := h1.ne (he x hx) (by decide) hg
    refine b.block g ((he x hx).lt hg).2 (fun q => ?_)
    rcases q with q | q | q
    · exact this.1 q
    · exact this.2 q
    · exact own_apart (by decide) (he x hx) h1.own hg q.symm
  refine ⟨⟨vs', L', hx, hp, fun g hg => ?_⟩, ho.far fun g hg => ?_, keepK⟩
  · intro q
    rcases hn g q with e | e
    · exact h3 g hg e
    · have := (ho.lt hg).2; omega
  · have := h1.ne ho (by decide) hg
    refine b.block g (ho.lt hg).2 (fun q => ?_)
    rcases q with q | q | q
    · exact this.1 q
    · exact this.2 q
    · exact h3 g hg q
theorem HX.add {base r m : Nat} {fz : Bool} {P : List Prv} {vh : Value} {M : List Pvx} {w : World} (h : HX base r m fz P vh M w) (p : Prv) (ve : Value) (hp : PS w p ve) (hv : NV w) :
    Calls Tryd.prog 9 #[.pointer (some ⟨r, 0, none⟩), prvV p ve] w fun e w' => e = .returned (.tuple #[.int .i64 (addN P fz p : Nat), .int .i64 (addE P fz p)]) ∧ HX base r m fz (addL P fz p) vh M w' ∧ Below base w w' := by
  obtain ⟨⟨vs, L, h1, rfl, h3⟩, ho, he⟩ := h
  refine (add_any_r p ve w h1 hp hv).mono ?_
  rintro e w' ⟨rfl, ⟨vs', L', g1, g2, g3, _⟩, hb⟩
  exact ⟨rfl, .turn h1 h3 ho he g1 g2 g3 hb, hb.low h1⟩
theorem HX.names {base r m : Nat} {fz : Bool} {P : List Prv} {vh : Value} {M : List Pvx} {w : World} (h : HX base r m fz P vh M w) :
    Calls Tryd.prog 14 #[.pointer (some ⟨r, 0, none⟩)] w fun e w' => ∃ p c, e = .returned (.slice p (nameL P).length c) ∧ GS KS w' (.slice p (nameL P).length c) (nameL P) ∧ Below w.heap.size w w' := by
  obtain ⟨⟨vs, L, h1, rfl, h3⟩, ho, he⟩ := h
  refine (names_any w h1).mono ?_
  rintro e w' ⟨p, c, rfl, o, b⟩
  exact ⟨p, c, rfl, o.gs KS_ok.len, b⟩
theorem HX.users {base r m : Nat} {fz : Bool} {P : List Prv} {vh : Value} {M : List Pvx} {w : World} (h : HX base r m fz P vh M w) (hv : NV w) (s : ByteArray) :
    Calls Tryd.prog 29 #[.pointer (some ⟨r, 0, none⟩), .string s] w fun e w' => ∃ p c, e = .returned (.slice p (usersL P s).length c) ∧ GS KS w' (.slice p (usersL P s).length c) (usersL P s) ∧ Below w.heap.size w w' := by
  obtain ⟨⟨vs, L, h1, rfl, h3⟩, ho, he⟩ := h
  refine (users_any s w h1 hv).mono ?_
  rintro e w' ⟨p, c, rfl, o, b⟩
  exact ⟨p, c, rfl, o.gs KS_ok.len, b⟩
theorem HX.miss {base r m : Nat} {fz : Bool} {P : List Prv} {vh : Value} {M : List Pvx} {w : World} (h : HX base r m fz P vh M w) (hv : NV w) :
    Calls Tryd.prog 30 #[.pointer (some ⟨r, 0, none⟩)] w fun e w' => ∃ p c, e = .returned (.slice p (misL P).length c) ∧ GS KS w' (.slice p (misL P).length c) (misL P) ∧ Below w.heap.size w w' := by
  obtain ⟨⟨vs, L, h1, rfl, h3⟩, ho, he⟩ := h
  refine (rmiss_any w h1 hv).mono ?_
  rintro e w' ⟨p, c, rfl, o, b⟩
  exact ⟨p, c, rfl, o.gs KS_ok.len, b⟩
theorem HX.len {base r m : Nat} {fz : Bool} {P : List Prv} {vh : Value} {M : List Pvx} {w : World} (h : HX base r m fz P vh M w) : Calls Tryd.prog 15 #[.pointer (some ⟨r, 0, none⟩)] w fun e w' => e = .returned (.int .i64 P.length) ∧ w' = w := by
  obtain ⟨⟨vs, L, h1, rfl, h3⟩, ho, he⟩ := h
  rw [pL_len]
  exact len_any w h1
theorem HX.find {base r m : Nat} {fz : Bool} {P : List Prv} {vh : Value} {M : List Pvx} {w : World} (h : HX base r m fz P vh M w) (s : ByteArray) (hs : s.size ≤ maxLen) : Calls Tryd.prog 16 #[.pointer (some ⟨r, 0, none⟩), .string s] w fun e w' => e = .returned (.tuple #[.int .i64 (fndN (nameL P) s : Nat), .int .i64 (fndE (nameL P) s)]) ∧ Below w.heap.size w w' := by
  obtain ⟨⟨vs, L, h1, rfl, h3⟩, ho, he⟩ := h
  exact find_any s w h1 hs
theorem HX.get {base r m : Nat} {fz : Bool} {P : List Prv} {vh : Value} {M : List Pvx} {w : World} (h : HX base r m fz P vh M w) (k : Nat) (hk : k < P.length) :
    Calls Tryd.prog 17 #[.pointer (some ⟨r, 0, none⟩), .int .i64 k] w fun e w' => ∃ q c, e = .returned (.tuple #[prvV P[k] (.slice q P[k].ops.length c), .int .i64 0]) ∧ OwnG KO w' w.heap.size (.slice q P[k].ops.length c) P[k].ops ∧ Below w.heap.size w w' := by
  obtain ⟨⟨vs, L, h1, rfl, h3⟩, ho, he⟩ := h
  have hk2 : k < L.length := by rw [pL_len] at hk; exact hk
  rw [pL_at hk2]
  exact get_ok k w h1 hk2
theorem new_hx (w : World) : Calls Tryd.prog 12 #[] w fun e w' => e = .returned (.pointer (some ⟨w.heap.size + 1, 0, none⟩)) ∧ HX w.heap.size (w.heap.size + 1) w.heap.size false [] (.slice none 0 0) [] w' ∧ Below w.heap.size w w' := by
  refine (new_any w).mono ?_
  rintro e w' ⟨rfl, h, b⟩
  exact ⟨rfl, ⟨⟨_, [], h, rfl, fun g hg => by cases hg⟩, OwnG.nil _ _ _, fun x hx => by cases hx⟩, b⟩
/-- One more of the law's own. -/
theorem HX.push {base r m : Nat} {fz : Bool} {P : List Prv} {vh : Value} {M : List Pvx} {w w3 : World} {g cap n : Nat} {x : Pvx} (h : HX base r m fz P vh M w) (hx : OwnG KO w base x.v x.p.ops)
    (o3 : OwnG KP w3 base (.slice (some ⟨g, 0, none⟩) n cap) (M ++ [x])) (k3 : ∀ k, k < w.heap.size → some k ≠ vh.ownBlock → w3.heap[k]? = w.heap[k]?) (hg : vh.ownBlock = some g ∨ w.heap.size ≤ g) : HX base r m fz P (.slice (some ⟨g, 0, none⟩) n cap) (M ++ [x]) w3 := by
  obtain ⟨⟨vs, L, h1, h2, h3⟩, ho, he⟩ := h
  have keep : ∀ (v : Value) (l : List Opn), OwnG KO w base v l → OwnG KO w3 base v l := fun v l o => o.far fun q hq => k3 q (o.lt hq).2 (own_apart (by decide) o ho hq)
  refine ⟨⟨vs, L, h1.keep (fun y hy => ?_) (fun y hy q hq => ?_), h2, fun q hq => ?_⟩, o3, fun y hy => ?_⟩
  · rcases hy with rfl | rfl | hy
    · exact k3 _ (lt_heap h1.hp) (fun e => (h1.ne ho (by decide) e.symm).1 rfl)
    · exact k3 _ h1.mv.lt (fun e => (h1.ne ho (by decide) e.symm).2 rfl)
    · exact k3 _ (h1.own.lt hy).2 (fun e => h3 y e.symm hy)
  · exact k3 q ((h1.each y hy).lt hq).2 (own_apart (by decide) (h1.each y hy) ho hq)
  · have e : g = q := by simpa [Value.ownBlock] using hq
    subst e
    intro e2
    rcases hg with e3 | e3
    · exact h3 g e3 e2
    · have := (h1.own.lt e2).2; omega
  · rcases List.mem_append.1 hy with hy | hy
    · exact keep _ _ (he y hy)
    · obtain rfl := List.mem_singleton.1 hy; exact keep _ _ hx
def oB : Opn := ⟨3, 0, 0, ⟨#[98]⟩⟩
def o1 : Opn := ⟨1, 0, 1, ⟨#[]⟩⟩
def o2 : Opn := ⟨1, 0, 2, ⟨#[]⟩⟩
def pA : Prv := ⟨⟨#[97]⟩, [oB], false, ⟨0, 0, 0, 0⟩, 0, ⟨#[]⟩⟩
def pB : Prv := ⟨⟨#[98]⟩, [o1], false, ⟨0, 0, 0, 0⟩, 0, ⟨#[]⟩⟩
def pC : Prv := ⟨⟨#[97]⟩, [o2], false, ⟨0, 0, 0, 0⟩, 0, ⟨#[]⟩⟩
theorem w1E : addE [] false pA = 0 := by decide +kernel
theorem w2E : addE [pA] false pB = 0 := by decide +kernel
theorem w3E : addE [pA, pB] false pC = 6 := by decide +kernel
theorem wUs : usersL [pA, pB] ⟨#[98]⟩ = [⟨#[97]⟩] := by decide +kernel
theorem wMi : misL [pA, pB] = [] := by decide +kernel
end Go.Proofs.YtffabehipcomfaaDoor
