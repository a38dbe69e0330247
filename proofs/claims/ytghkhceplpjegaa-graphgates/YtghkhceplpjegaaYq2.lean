/- Graph, plain: the last gate: what the program's walk backwards and the document's deepest gate come to. -/
import Derived.Test.YtghkhceplpjegaaYa3
namespace Go.Proofs.Ytghkhceplpjegaa
open Go.RowKit

theorem pair_sub {α : Type} {a b : α} {L M : List α} (h : [a, b].Sublist (L ++ M)) : [a, b].Sublist L ∨ (a ∈ L ∧ b ∈ M) ∨ [a, b].Sublist M := by
  obtain ⟨l1, l2, e, h1, h2⟩ := List.sublist_append_iff.1 h
  match l1, e with
  | [], e => right; right; rw [List.nil_append] at e; rw [e]; exact h2
  | [x], e =>
    injection e with e1 e2
    right; left
    subst e1
    refine ⟨List.singleton_sublist.1 h1, ?_⟩
    have e3 : l2 = [b] := by simpa using e2.symm
    rw [e3] at h2
    exact List.singleton_sublist.1 h2
  | [x, y], e =>
    injection e with e1 e2
    injection e2 with e2 e3
    subst e1 e2
    left; exact h1
  | x :: y :: z :: t, e => simp at e
/-- Whoever a walk is done with behind d is come to over others than d. -/
theorem DL.post {A : Nat → List Nat} {S S' : Nat → Bool} {t L : List Nat} (h : DL A S t S' L) : ∀ d k, [d, k].Sublist L → ∃ r ∈ t, r ≠ d ∧ Rs (fun a b => b ∈ A a ∧ a ≠ d ∧ b ≠ d) r k := by
  induction h with
  | nil => intro d k h; exact absurd h.length_le (by simp)
  | seen _ _ ih =>
    intro d k h
    obtain ⟨r, hr, q⟩ := ih d k h
    exact ⟨r, .tail _ hr, q⟩
  | @new S S1 S' x t L1 L2 h h1 h2 ih1 ih2 =>
    intro d k hs
    have hx : x ∉ L1 := fun q => (adP_no (h1.dis x q)).2 rfl
    rcases pair_sub hs with hs | ⟨ha, hb⟩ | hs
    · rcases pair_sub hs with hs | ⟨ha, hb⟩ | hs
      · obtain ⟨r, hr, hne, q⟩ := ih1 d k hs
        have hd : d ∈ L1 := hs.subset (by simp)
        have hxd : x ≠ d := fun e => hx (by rw [e]; exact hd)
        exact ⟨x, .head _, hxd, Or.inr (Rs.step ⟨hr, hxd, hne⟩ q)⟩
      · have hxd : x ≠ d := fun e => hx (by rw [e]; exact ha)
        have e : k = x := by simpa using hb
        exact ⟨x, .head _, hxd, Or.inl e.symm⟩
      · exact absurd hs.length_le (by simp)
    · obtain ⟨r, hr, q⟩ := h2.le k hb
      have hd : S1 d = true := by
        rw [List.mem_append, List.mem_singleton] at ha
        rcases ha with ha | ha
        · exact (h1.mem d).2 (Or.inr ha)
        · rw [ha]; exact h1.up (adP_iff.2 (Or.inr rfl))
      have no : ∀ y, S1 y = false → y ≠ d := fun y hy e => by rw [e, hd] at hy; cases hy
      refine ⟨r, .tail _ hr, ?_, q.imp fun a b ⟨q1, q2, q3⟩ => ⟨q1, no _ q2, no _ q3⟩⟩
      rcases q with rfl | q
      · exact no _ (h2.dis _ hb)
      · obtain ⟨y, ⟨_, q2, _⟩, _⟩ := q.first
        exact no _ q2
    · obtain ⟨r, hr, q⟩ := ih2 d k hs
      exact ⟨r, .tail _ hr, q⟩

/-- The root comes to y without going through d. -/
def Av (E : List (Nat × Nat)) (r d y : Nat) : Prop := r ≠ d ∧ Rs (edW E d) r y
/-- d is another one, and all ways from the root go through it. -/
def Gt (E : List (Nat × Nat)) (r d y : Nat) : Prop := y ≠ d ∧ ¬ Av E r d y
theorem Av.ne {E : List (Nat × Nat)} {r d y : Nat} (h : Av E r d y) : y ≠ d := by
  obtain ⟨h1, h2⟩ := h
  rcases h2 with rfl | h2
  · exact h1
  · obtain ⟨z, _, _, _, h3⟩ := h2.last
    exact fun e => h3 (by rw [e])
theorem Av.step {E : List (Nat × Nat)} {r d a b : Nat} (h : Av E r d a) (he : ed E a b) (hb : b ≠ d) : Av E r d b :=
  ⟨h.1, Or.inr (h.2.snoc ⟨he, fun e => h.ne (by omega), by omega⟩)⟩
theorem Av.rs {E : List (Nat × Nat)} {r d y : Nat} (h : Av E r d y) : Rs (ed E) r y := h.2.imp fun _ _ k => k.1
theorem Gt.root {E : List (Nat × Nat)} {r y : Nat} (h : y ≠ r) : Gt E r r y := ⟨h, fun k => k.1 rfl⟩
theorem Gt.no_root {E : List (Nat × Nat)} {r d : Nat} : ¬ Gt E r d r := fun ⟨h1, h2⟩ => h2 ⟨h1, Or.inl rfl⟩
/-- Of two gates one is the other's. -/
theorem Gt.chain {E : List (Nat × Nat)} {r d1 d2 k : Nat} (hk : Rs (ed E) r k) (h1 : Gt E r d1 k) (h2 : Gt E r d2 k) (hne : d1 ≠ d2) : Gt E r d1 d2 ∨ Gt E r d2 d1 := by
  by_cases a1 : Av E r d1 d2
  · by_cases a2 : Av E r d2 d1
    · exfalso
      have : Av E r d1 k ∨ Av E r d2 k := by
        refine Rs.ind (P := fun y => Av E r d1 y ∨ Av E r d2 y) (fun a b ha hab => ?_) hk (Or.inl ⟨a1.1, Or.inl rfl⟩)
        rcases ha with ha | ha
        · by_cases e : b = d1
          · rw [e]; exact Or.inr a2
          · exact Or.inl (ha.step hab e)
        · by_cases e : b = d2
          · rw [e]; exact Or.inl a1
          · exact Or.inr (ha.step hab e)
      rcases this with q | q
      · exact h1.2 q
      · exact h2.2 q
    · exact Or.inr ⟨hne, a2⟩
  · exact Or.inl ⟨fun e => hne e.symm, a1⟩
theorem Gt.anti {E : List (Nat × Nat)} {r a b : Nat} (hr : Rs (ed E) r a) (h1 : Gt E r a b) (h2 : Gt E r b a) : False := by
  have ra : r ≠ a := fun e => by subst e; exact Gt.no_root h2
  have rb : r ≠ b := fun e => by subst e; exact Gt.no_root h1
  have : Av E r a a ∧ Av E r b a := by
    refine Rs.ind (P := fun y => Av E r a y ∧ Av E r b y) (fun x y ⟨q1, q2⟩ hxy => ?_) hr ⟨⟨ra, Or.inl rfl⟩, ⟨rb, Or.inl rfl⟩⟩
    have ya : y ≠ a := fun e => by subst e; exact h2.2 (q2.step hxy h2.1)
    have yb : y ≠ b := fun e => by subst e; exact h1.2 (q1.step hxy h1.1)
    exact ⟨q1.step hxy ya, q2.step hxy yb⟩
  exact this.1.ne rfl
theorem Gt.trans {E : List (Nat × Nat)} {r d1 d2 k : Nat} (hk : Rs (ed E) r k) (h1 : Gt E r d1 d2) (h2 : Gt E r d2 k) : Gt E r d1 k := by
  refine ⟨fun e => ?_, fun h => h2.2 ?_⟩
  · subst e; exact Gt.anti hk h1 h2
  · have r2 : r ≠ d2 := fun e => by subst e; exact Gt.no_root h1
    have r1 := h.1
    have : Av E r d1 k ∧ Av E r d2 k := by
      refine Rs.ind (P := fun y => Av E r d1 y ∧ Av E r d2 y) (fun x y ⟨q1, q2⟩ hxy => ?_) h.2 ⟨⟨r1, Or.inl rfl⟩, ⟨r2, Or.inl rfl⟩⟩
      have y1 : Av E r d1 y := q1.step hxy.1 (fun e => hxy.2.2 (by omega))
      exact ⟨y1, q2.step hxy.1 fun e => h1.2 (by rw [← e]; exact y1)⟩
    exact this.2
/-- Who is reached is done with ahead of its gates. -/
theorem gt_post {E : List (Nat × Nat)} {A : Nat → List Nat} (hA : ∀ a b, b ∈ A a → ed E a b) {r : Nat} {S' : Nat → Bool} {L : List Nat} (h : DL A (fun _ => false) [r] S' L) {d k : Nat} (hg : Gt E r d k) : ¬ [d, k].Sublist L := fun hs => by
  obtain ⟨r', hr, hne, q⟩ := h.post d k hs
  have e : r' = r := by simpa using hr
  subst e
  exact hg.2 ⟨hne, q.imp fun a b ⟨q1, q2, q3⟩ => ⟨hA a b q1, by omega, by omega⟩⟩
end Go.Proofs.Ytghkhceplpjegaa
namespace Go.Proofs.Ytghkhceplpjegaa
open Go.RowKit

/-- d is y's last gate: each other gate of y is one of d. -/
structure Lg1 (E : List (Nat × Nat)) (r y d : Nat) : Prop where
  gt : Gt E r d y
  rd : Rs (ed E) r d
  of : ∀ z, Rs (ed E) r z → Gt E r z y → z = d ∨ Gt E r z d
theorem Lg1.uniq {E : List (Nat × Nat)} {r y d1 d2 : Nat} (h1 : Lg1 E r y d1) (h2 : Lg1 E r y d2) : d1 = d2 := by
  rcases h2.of d1 h1.rd h1.gt with e | q1
  · exact e
  · rcases h1.of d2 h2.rd h2.gt with e | q2
    · exact e.symm
    · exact (Gt.anti h1.rd q1 q2).elim
/-- What Gates answers of a node. -/
def GA (E : List (Nat × Nat)) (r y : Nat) (v : Int) : Prop := (Rs (ed E) r y ∧ y ≠ r → ∃ d : Nat, v = d ∧ Lg1 E r y d) ∧ (¬ (Rs (ed E) r y ∧ y ≠ r) → v = -1)
theorem GA.uniq {E : List (Nat × Nat)} {r y : Nat} {v1 v2 : Int} (h1 : GA E r y v1) (h2 : GA E r y v2) : v1 = v2 := by
  by_cases h : Rs (ed E) r y ∧ y ≠ r
  · obtain ⟨d1, rfl, q1⟩ := h1.1 h
    obtain ⟨d2, rfl, q2⟩ := h2.1 h
    rw [q1.uniq q2]
  · rw [h1.2 h, h2.2 h]
/-- The program's: from the last that the walk was done with to the first, each gate is written over those that it closes. -/
def gpF (O : Nat → Nat → Bool) (L : List Nat) (R : List Nat) : Nat → Int := R.foldr (fun d F k => if k ∈ L ∧ O d k = false then (d : Int) else F k) (fun _ => -1)
theorem gpF_none {O : Nat → Nat → Bool} {L : List Nat} {k : Nat} : ∀ {R : List Nat}, (k ∉ L ∨ ∀ d ∈ R, O d k = true) → gpF O L R k = -1
  | [], _ => rfl
  | d :: R, h => by
    show (if k ∈ L ∧ O d k = false then (d : Int) else gpF O L R k) = -1
    rw [if_neg, gpF_none (h.imp id fun q z hz => q z (.tail _ hz))]
    rintro ⟨h1, h2⟩
    rcases h with h | h
    · exact h h1
    · rw [h d (.head _)] at h2; cases h2
theorem gpF_first {O : Nat → Nat → Bool} {L : List Nat} {k : Nat} (hk : k ∈ L) : ∀ {R : List Nat}, (∃ d ∈ R, O d k = false) → ∃ R0 d R1, R = R0 ++ d :: R1 ∧ O d k = false ∧ (∀ z ∈ R0, O z k = true) ∧ gpF O L R k = d
  | [], h => by obtain ⟨d, hd, _⟩ := h; cases hd
  | e :: R, h => by
    by_cases he : O e k = false
    · refine ⟨[], e, R, rfl, he, by simp, ?_⟩
      show (if k ∈ L ∧ O e k = false then (e : Int) else gpF O L R k) = e
      rw [if_pos ⟨hk, he⟩]
    · obtain ⟨d, hd, hd2⟩ := h
      have h2 : ∃ d ∈ R, O d k = false := by
        rcases List.mem_cons.1 hd with q | q
        · subst q; exact absurd hd2 he
        · exact ⟨d, q, hd2⟩
      obtain ⟨R0, d0, R1, e1, e2, e3, e4⟩ := gpF_first hk h2
      refine ⟨e :: R0, d0, R1, by rw [e1]; rfl, e2, fun z hz => ?_, ?_⟩
      · rcases List.mem_cons.1 hz with q | q
        · subst q; simpa using he
        · exact e3 z q
      · show (if k ∈ L ∧ O e k = false then (e : Int) else gpF O L R k) = d0
        rw [if_neg (fun q => he q.2), e4]
/-- The program's answer of a node is its last gate. -/
theorem gp_ga {E : List (Nat × Nat)} {A : Nat → List Nat} (hA : ∀ a b, b ∈ A a ↔ ed E a b) {r : Nat} {S' : Nat → Bool} {L : List Nat} (h : DL A (fun _ => false) [r] S' L) {O : Nat → Nat → Bool} (hO : ∀ d y, d ∈ L → (O d y = false ↔ Gt E r d y)) (k : Nat) : GA E r k (gpF O L L k) := by
  have mem : ∀ x, x ∈ L ↔ Rs (ed E) r x := fun x => by
    have h1 := h.mem x
    have h2 := h.reach x
    rw [h2] at h1
    constructor
    · intro hx
      obtain ⟨r', hr, q⟩ := h1.2 (Or.inr hx)
      have e : r' = r := by simpa using hr
      subst e
      exact q.imp fun a b => (hA a b).1
    · intro hx
      rcases h1.1 ⟨r, by simp, hx.imp fun a b => (hA a b).2⟩ with q | q
      · cases q
      · exact q
  constructor
  · rintro ⟨h1, h2⟩
    have hk := (mem k).2 h1
    have hr := (mem r).2 (Or.inl rfl)
    obtain ⟨R0, d, R1, e1, e2, e3, e4⟩ := gpF_first (O := O) hk (R := L) ⟨r, hr, (hO r k hr).2 (Gt.root h2)⟩
    have hd : d ∈ L := by rw [e1]; simp
    refine ⟨d, e4, (hO d k hd).1 e2, (mem d).1 hd, fun z hz hg => ?_⟩
    by_cases e : z = d
    · exact Or.inl e
    · right
      have hzL := (mem z).2 hz
      rcases Gt.chain h1 hg ((hO d k hd).1 e2) e with q | q
      · exact q
      · exfalso
        have hz1 : z ∈ R1 := by
          have h5 := hzL
          rw [e1, List.mem_append, List.mem_cons] at h5
          rcases h5 with h5 | h5 | h5
          · have := e3 z h5
            rw [(hO z k hzL).2 hg] at this; cases this
          · exact absurd h5 e
          · exact h5
        refine gt_post (fun a b => (hA a b).1) h q ?_
        rw [e1]
        exact List.Sublist.trans (List.Sublist.cons_cons _ (List.singleton_sublist.2 hz1)) (List.sublist_append_right _ _)
  · intro hn
    refine gpF_none ?_
    by_cases hk : k ∈ L
    · right
      intro d hd
      have hkr : k = r := Classical.byContradiction fun q => hn ⟨(mem k).1 hk, q⟩
      cases ho : O d k with
      | true => rfl
      | false =>
        have := (hO d k hd).1 ho
        rw [hkr] at this
        exact (Gt.no_root this).elim
    · exact Or.inl hk
theorem ris_lt {n : Nat} {p q : Nat → Bool} (h : ∀ x, p x = true → q x = true) {y : Nat} (hy : y < n) (h1 : p y = false) (h2 : q y = true) : (ris n p).length < (ris n q).length := by
  have := un_lt (n := n) (S := fun x => !q x) (T := fun x => !p x) (fun x hx => by
    cases e : p x with
    | false => rfl
    | true => rw [h x e] at hx; cases hx) hy (by simp [h2]) (by simp [h1])
  simpa [un, ris] using this
/-- The document's: the deepest of those that close it, the first of such; the root if there is none. -/
def bsF (r : Nat) (P : Nat → Bool) (dp : Nat → Nat) : Nat → Nat
  | 0 => r
  | n + 1 => if P n = true ∧ (bsF r P dp n = r ∨ dp (bsF r P dp n) < dp n) then n else bsF r P dp n
theorem bsF_is {r : Nat} {P : Nat → Bool} {dp : Nat → Nat} (hr : P r = false) : ∀ n, (bsF r P dp n = r ∧ ∀ m, m < n → P m = false) ∨ (P (bsF r P dp n) = true ∧ bsF r P dp n < n ∧ ∀ m, m < n → P m = true → dp m ≤ dp (bsF r P dp n))
  | 0 => Or.inl ⟨rfl, fun m hm => absurd hm (Nat.not_lt_zero m)⟩
  | n + 1 => by
    have ih := bsF_is (dp := dp) hr n
    unfold bsF
    generalize bsF r P dp n = b at *
    by_cases hc : P n = true ∧ (b = r ∨ dp b < dp n)
    · rw [if_pos hc]
      obtain ⟨c1, c2⟩ := hc
      refine Or.inr ⟨c1, Nat.lt_succ_self n, fun m hm hp => ?_⟩
      by_cases e : m = n
      · rw [e]; exact Nat.le_refl _
      · rcases ih with ⟨q1, q2⟩ | ⟨q1, q2, q3⟩
        · rw [q2 m (by omega)] at hp; cases hp
        · rcases c2 with c2 | c2
          · rw [c2, hr] at q1; cases q1
          · have := q3 m (by omega) hp
            omega
    · rw [if_neg hc]
      rcases ih with ⟨q1, q2⟩ | ⟨q1, q2, q3⟩
      · left
        refine ⟨q1, fun m hm => ?_⟩
        by_cases e : m = n
        · subst e
          cases hp : P m with
          | false => rfl
          | true => exact absurd ⟨hp, Or.inl q1⟩ hc
        · exact q2 m (by omega)
      · right
        refine ⟨q1, by omega, fun m hm hp => ?_⟩
        by_cases e : m = n
        · subst e
          exact Nat.le_of_not_lt fun q => hc ⟨hp, Or.inr q⟩
        · exact q3 m (by omega) hp
/-- The document's answer of a node that is reached, and not the root, is its last gate. -/
theorem gd_lg {N : Nat} {E : List (Nat × Nat)} (hlt : ∀ e ∈ E, e.1 < N ∧ e.2 < N) {r k : Nat} (hk : Rs (ed E) r k) (hkr : k ≠ r) {G : Nat → Nat → Bool} (hG : ∀ n y, G n y = true ↔ n ≠ r ∧ Rs (ed E) r n ∧ Gt E r n y ∧ Rs (ed E) r y ∧ y ≠ r) : Lg1 E r k (bsF r (fun n => G n k) (fun y => (ris N fun n => G n y).length) N) := by
  have lt : ∀ n, n ≠ r → Rs (ed E) r n → n < N := fun n h1 h2 => by
    rcases h2 with rfl | h2
    · exact absurd rfl h1
    · obtain ⟨a, _, h3⟩ := h2.last
      exact (hlt _ h3).2
  have hr : G r k = false := by
    cases e : G r k with
    | false => rfl
    | true => exact absurd rfl ((hG r k).1 e).1
  rcases bsF_is (P := fun n => G n k) (dp := fun y => (ris N fun n => G n y).length) hr N with ⟨q1, q2⟩ | ⟨q1, q2, q3⟩
  · rw [q1]
    refine ⟨Gt.root hkr, Or.inl rfl, fun z hz hg => ?_⟩
    by_cases e : z = r
    · exact Or.inl e
    · have := q2 z (lt z e hz)
      rw [(hG z k).2 ⟨e, hz, hg, hk, hkr⟩] at this
      cases this
  · generalize bsF r (fun n => G n k) (fun y => (ris N fun n => G n y).length) N = b at *
    obtain ⟨b1, b2, b3, _, _⟩ := (hG b k).1 q1
    refine ⟨b3, b2, fun z hz hg => ?_⟩
    by_cases e : z = b
    · exact Or.inl e
    · right
      by_cases er : z = r
      · rw [er]; exact Gt.root b1
      · rcases Gt.chain hk hg b3 e with q | q
        · exact q
        · exfalso
          have h1 := q3 z (lt z er hz) ((hG z k).2 ⟨er, hz, hg, hk, hkr⟩)
          have h2 : (ris N fun n => G n b).length < (ris N fun n => G n z).length := by
            refine ris_lt (fun m hm => ?_) (lt b b1 b2) ?_ ((hG b z).2 ⟨b1, b2, q, hz, er⟩)
            · obtain ⟨m1, m2, m3, _, _⟩ := (hG m b).1 hm
              exact (hG m z).2 ⟨m1, m2, Gt.trans hz m3 q, hz, er⟩
            · cases e2 : G b b with
              | false => rfl
              | true => exact absurd rfl ((hG b b).1 e2).2.2.1.1
          have h1 : (ris N fun n => G n z).length ≤ (ris N fun n => G n b).length := h1
          omega
end Go.Proofs.Ytghkhceplpjegaa
