/- Graph, plain: the least order (Kahn); it is whole just if nobody goes round. -/
import Derived.Test.YtghkhceplpjegaaYa3
namespace Go.Proofs.Ytghkhceplpjegaa
open Go.RowKit

/-- They go round together, or are one. -/
def sc (E : List (Nat × Nat)) (x y : Nat) : Prop := Rs (ed E) x y ∧ Rs (ed E) y x
theorem sc.refl (E : List (Nat × Nat)) (x : Nat) : sc E x x := ⟨Rs.refl _ _, Rs.refl _ _⟩
theorem sc.symm {E : List (Nat × Nat)} {x y : Nat} (h : sc E x y) : sc E y x := ⟨h.2, h.1⟩
theorem sc.trans {E : List (Nat × Nat)} {x y z : Nat} (h : sc E x y) (k : sc E y z) : sc E x z := ⟨h.1.trans k.1, k.2.trans h.2⟩
open Classical in
noncomputable def scB (E : List (Nat × Nat)) (x y : Nat) : Bool := decide (sc E x y)
theorem scB_iff {E : List (Nat × Nat)} {x y : Nat} : scB E x y = true ↔ sc E x y := by simp [scB]
open Classical in
/-- It is the least of those that it goes round with. -/
noncomputable def lst (E : List (Nat × Nat)) (n : Nat) : Bool := decide (∀ m, m < n → ¬ sc E n m)
theorem lst_iff {E : List (Nat × Nat)} {n : Nat} : lst E n = true ↔ ∀ m, m < n → ¬ sc E n m := by simp [lst]
noncomputable def prt (N : Nat) (E : List (Nat × Nat)) (r : Nat) : List Nat := ris N (scB E r)
/-- The components. -/
noncomputable def cmL (N : Nat) (E : List (Nat × Nat)) : List (List Nat) := (ris N (lst E)).map (prt N E)
theorem prt_mem {N : Nat} {E : List (Nat × Nat)} {r x : Nat} : x ∈ prt N E r ↔ x < N ∧ sc E r x := by unfold prt; rw [ris_mem, scB_iff]
theorem prt_same {N : Nat} {E : List (Nat × Nat)} {r s : Nat} (h : sc E r s) : prt N E r = prt N E s := by
  refine ris_congr fun x _ => ?_
  rw [Bool.eq_iff_iff, scB_iff, scB_iff]
  exact ⟨fun k => h.symm.trans k, fun k => h.trans k⟩
theorem prt_head {N : Nat} {E : List (Nat × Nat)} {r : Nat} (hr : r < N) : ∃ n t, prt N E r = n :: t ∧ sc E r n ∧ lst E n = true ∧ n < N := by
  have hm : r ∈ prt N E r := prt_mem.2 ⟨hr, sc.refl _ _⟩
  have hu := ris_up N (scB E r)
  change (prt N E r).Pairwise (· < ·) at hu
  cases e : prt N E r with
  | nil => rw [e] at hm; cases hm
  | cons n t =>
    obtain ⟨h1, h2⟩ := prt_mem.1 (by rw [e]; exact .head _ : n ∈ prt N E r)
    refine ⟨n, t, rfl, h2, lst_iff.2 fun m hmn hs => ?_, h1⟩
    have hq : m ∈ prt N E r := prt_mem.2 ⟨by omega, h2.trans hs⟩
    rw [e] at hq hu
    rcases List.mem_cons.1 hq with e2 | e2
    · omega
    · have := (List.pairwise_cons.1 hu).1 m e2; omega
theorem sc_mid {E : List (Nat × Nat)} {r x y : Nat} (h : sc E r x) (h1 : Rs (ed E) r y) (h2 : Rs (ed E) y x) : sc E r y := ⟨h1, h2.trans h.2⟩
/-- A way of the turned graph from one to another that goes round with it leads over such alone. -/
theorem back_in {E : List (Nat × Nat)} {r x : Nat} (h : sc E r x) : Rs (fun a b => (b, a) ∈ E ∧ sc E r a ∧ sc E r b) r x := by
  have key : ∀ a b, Rs (ed E) a b → ∀ (_ : sc E r b) (_ : sc E r a), Rs (fun u v => (v, u) ∈ E ∧ sc E r u ∧ sc E r v) b a := by
    intro a b k hb ha
    rcases k with rfl | k
    · exact Rs.refl _ _
    · induction k with
      | one k => exact Or.inr (.one ⟨k, hb, ha⟩)
      | @more a c b k k2 ih =>
        have hc : sc E r c := ⟨ha.1.trans (Or.inr (.one k)), (Rs.trans (Or.inr k2) hb.2)⟩
        exact Rs.trans (ih hb hc) (Or.inr (.one ⟨k, hc, ha⟩))
  exact key x r h.2 (sc.refl _ _) h
theorem kos_step {N : Nat} {E : List (Nat × Nat)} (hg : GOK N E) {S S2 S3 : Nat → Bool} {L La Lb P : List Nat} {r : Nat} (h : DL (nx N E) (fun _ => false) (List.range N) S L) (e : L = La ++ r :: Lb) (h1 : ∀ x ∈ Lb, S2 x = true) (h2 : ∀ x y, sc E x y → S2 x = true → S2 y = true) (h3 : S2 r = false) (k : DL (nx N (tu E)) S2 [r] S3 P) : (∀ x, x ∈ P ↔ sc E r x) ∧ (∀ x y, sc E x y → S3 x = true → S3 y = true) := by
  have hL : ∀ x, x < N → x ∈ L := fun x hx => by
    rcases (h.mem x).1 (h.todo x (List.mem_range.2 hx)) with q | q
    · cases q
    · exact q
  have hnd := h.nodup
  have hb : ∀ a b, b ∈ nx N (tu E) a ↔ (b, a) ∈ E := fun a b => (nx_mem (tu_ok hg)).trans tu_mem
  have main : ∀ x, x ∈ P ↔ sc E r x := by
    intro x
    constructor
    · intro hx
      obtain ⟨s, hs, q⟩ := k.le x hx
      rw [List.mem_singleton] at hs
      subst hs
      have fwd : Rs (ed E) x s := by
        have := (q.imp fun a b ⟨q1, _, _⟩ => (hb a b).1 q1).flip
        exact this
      obtain ⟨L0, L1, L2, e2, q1, q2⟩ := h.parts s (by rw [e]; simp)
      have h2e : L0 ++ L1 = La ∧ L2 = Lb := by
        have e3 : La ++ s :: Lb = L0 ++ L1 ++ s :: L2 := by rw [← e, ← e2]
        have n1 : s ∉ La := fun hm => by
          rw [e, List.nodup_append] at hnd
          exact hnd.2.2 s hm s (.head _) rfl
        have n2 : s ∉ L0 ++ L1 := fun hm => by
          rw [e2, List.nodup_append] at hnd
          exact hnd.2.2 s hm s (.head _) rfl
        have gen : ∀ (A B C D : List Nat), s ∉ A → s ∉ C → A ++ s :: B = C ++ s :: D → C = A ∧ D = B := by
          intro A
          induction A with
          | nil =>
            intro B C D _ hC he
            cases C with
            | nil => simp at he; exact ⟨rfl, he.symm⟩
            | cons c C => simp at he; exact absurd he.1 (fun e => hC (by rw [e]; exact .head _))
          | cons a A ih =>
            intro B C D hA hC he
            cases C with
            | nil => simp at he; exact absurd he.1.symm (fun e => hA (by rw [e]; exact .head _))
            | cons c C =>
              simp only [List.cons_append, List.cons.injEq] at he
              obtain ⟨i1, i2⟩ := ih B C D (fun m => hA (.tail _ m)) (fun m => hC (.tail _ m)) he.2
              exact ⟨by rw [he.1, i1], i2⟩
        exact gen _ _ _ _ n1 n2 e3
      have inn : x ∈ L1 ∨ x = s := by
        refine Rs.ind (P := fun x => x ∈ L1 ∨ x = s) (fun a b ha hab => ?_) q (Or.inr rfl)
        obtain ⟨p1, p2, p3⟩ := hab
        have ed1 := (hb a b).1 p1
        have bl : b ∈ L := hL b (hg.lt _ ed1).1
        rw [e2, List.mem_append, List.mem_append, List.mem_cons] at bl
        rcases bl with (bl | bl) | bl | bl
        · exfalso
          obtain ⟨z1, z2⟩ := q2 b bl a ((nx_mem hg).2 ed1)
          rcases ha with ha | ha
          · exact z1 ha
          · exact z2 ha
        · exact Or.inl bl
        · exact Or.inr bl
        · rw [h2e.2] at bl
          rw [h1 b bl] at p3; cases p3
      refine ⟨?_, fwd⟩
      rcases inn with i | i
      · exact Or.inr ((q1 x i).imp fun a b q => (nx_mem hg).1 q)
      · rw [i]; exact Rs.refl _ _
    · intro hs
      have un : ∀ y, sc E r y → S2 y = false := fun y hy => by
        cases ey : S2 y with
        | false => rfl
        | true => rw [h2 y r hy.symm ey] at h3; cases h3
      have := (k.reachS x).2 (Or.inr ⟨r, .head _, h3, (back_in hs).imp fun a b ⟨q1, q2, q3⟩ => ⟨(hb a b).2 q1, un a q2, un b q3⟩⟩)
      rcases (k.mem x).1 this with q | q
      · rw [un x hs] at q; cases q
      · exact q
  refine ⟨main, fun x y hxy hx => ?_⟩
  rcases (k.mem x).1 hx with q | q
  · exact k.up (h2 x y hxy q)
  · exact (k.mem y).2 (Or.inr ((main y).2 (((main x).1 q).trans hxy)))
/-- The second walk has come over these, from the end. -/
structure KP (N : Nat) (E : List (Nat × Nat)) (Lb : List Nat) (S : Nat → Bool) (rs : List Nat) : Prop where
  seen : ∀ x ∈ Lb, S x = true
  cl : ∀ x y, sc E x y → S x = true → S y = true
  of : ∀ x, S x = true → ∃ r ∈ rs, sc E r x
  to : ∀ r ∈ rs, r < N ∧ S r = true
  ap : rs.Pairwise fun a b => ¬ sc E a b
theorem KP.start (N : Nat) (E : List (Nat × Nat)) : KP N E [] (fun _ => false) [] := ⟨by simp, by simp, by simp, by simp, List.Pairwise.nil⟩
theorem KP.skip {N : Nat} {E : List (Nat × Nat)} {Lb rs : List Nat} {S : Nat → Bool} {r : Nat} (h : KP N E Lb S rs) (hr : S r = true) : KP N E (r :: Lb) S rs :=
  ⟨fun x hx => by
    rcases List.mem_cons.1 hx with e | e
    · rw [e]; exact hr
    · exact h.seen x e, h.cl, h.of, h.to, h.ap⟩
theorem KP.one {N : Nat} {E : List (Nat × Nat)} (hg : GOK N E) {S S2 S3 : Nat → Bool} {L La Lb P rs : List Nat} {r : Nat} (h : DL (nx N E) (fun _ => false) (List.range N) S L) (e : L = La ++ r :: Lb) (q : KP N E Lb S2 rs) (h3 : S2 r = false) (hr : r < N) (k : DL (nx N (tu E)) S2 [r] S3 P) : KP N E (r :: Lb) S3 (rs ++ [r]) ∧ (∀ x, x ∈ P ↔ sc E r x) := by
  obtain ⟨m1, m2⟩ := kos_step hg h e q.seen q.cl h3 k
  have hr3 : S3 r = true := (k.mem r).2 (Or.inr ((m1 r).2 (sc.refl _ _)))
  refine ⟨⟨fun x hx => ?_, m2, fun x hx => ?_, fun x hx => ?_, ?_⟩, m1⟩
  · rcases List.mem_cons.1 hx with e | e
    · rw [e]; exact hr3
    · exact k.up (q.seen x e)
  · rcases (k.mem x).1 hx with z | z
    · obtain ⟨s, hs, i⟩ := q.of x z
      exact ⟨s, List.mem_append.2 (Or.inl hs), i⟩
    · exact ⟨r, by simp, (m1 x).1 z⟩
  · rcases List.mem_append.1 hx with z | z
    · exact ⟨(q.to x z).1, k.up (q.to x z).2⟩
    · rw [List.mem_singleton] at z; rw [z]; exact ⟨hr, hr3⟩
  · rw [List.pairwise_append]
    refine ⟨q.ap, List.pairwise_singleton _ _, fun a ha b hb s => ?_⟩
    rw [List.mem_singleton] at hb
    subst hb
    rw [q.cl a b s (q.to a ha).2] at h3; cases h3
theorem prt_of {N : Nat} {E : List (Nat × Nat)} (hg : GOK N E) {P : List Nat} {r : Nat} (hr : r < N) (hn : P.Nodup) (h : ∀ x, x ∈ P ↔ sc E r x) : (nI P).mergeSort (fun x y => decide (x ≤ y)) = nI (prt N E r) := by
  refine int_ris (srt_up (nI_nodup hn)) fun x => ?_
  rw [srt_mem, nI_mem]
  constructor
  · rintro ⟨k, hk, e⟩
    have hs := (h k).1 hk
    exact ⟨k, e, rc_lt hg hr hs.1, scB_iff.2 hs⟩
  · rintro ⟨k, e, _, hk⟩
    exact ⟨k, (h k).2 (scB_iff.1 hk), e⟩
def hdN (q : List Nat) : Nat := q.headD 0
theorem prt_hd {N : Nat} {E : List (Nat × Nat)} {r : Nat} (hr : r < N) : sc E r (hdN (prt N E r)) ∧ lst E (hdN (prt N E r)) = true ∧ hdN (prt N E r) < N ∧ prt N E r = prt N E (hdN (prt N E r)) := by
  obtain ⟨n, t, e, h1, h2, h3⟩ := prt_head (E := E) hr
  have : hdN (prt N E r) = n := by rw [e]; rfl
  rw [this]
  exact ⟨h1, h2, h3, prt_same h1⟩
/-- Sorted by their first nodes they are the components. -/
theorem cm_sorted {N : Nat} {E : List (Nat × Nat)} {L rs : List Nat} {S : Nat → Bool} (q : KP N E L S rs) (hL : ∀ x, x < N → x ∈ L) {Q : List (List Nat)} (hp : Q.Perm (rs.map (prt N E))) (hs : Q.Pairwise fun a b => hdN a ≤ hdN b) : Q = cmL N E := by
  have hq : ∀ a ∈ Q, ∃ r ∈ rs, a = prt N E r := fun a ha => by
    obtain ⟨r, hr, e⟩ := List.mem_map.1 (hp.mem_iff.1 ha)
    exact ⟨r, hr, e.symm⟩
  have hnd : (Q.map hdN).Nodup := by
    have h1 : (Q.map hdN).Perm ((rs.map (prt N E)).map hdN) := hp.map _
    rw [h1.nodup_iff, List.map_map]
    unfold List.Nodup
    rw [List.pairwise_map]
    have : ∀ l : List Nat, (∀ r ∈ l, r < N) → l.Pairwise (fun a b => ¬ sc E a b) → l.Pairwise fun a b => (hdN ∘ prt N E) a ≠ (hdN ∘ prt N E) b := by
      intro l
      induction l with
      | nil => intro _ _; exact List.Pairwise.nil
      | cons a l ih =>
        intro h1 h2
        rw [List.pairwise_cons] at h2 ⊢
        refine ⟨fun b hb e => h2.1 b hb ?_, ih (fun r hr => h1 r (.tail _ hr)) h2.2⟩
        have s1 := (prt_hd (E := E) (h1 a (.head _))).1
        have s2 := (prt_hd (E := E) (h1 b (.tail _ hb))).1
        have e : hdN (prt N E a) = hdN (prt N E b) := e
        rw [e] at s1
        exact s1.trans s2.symm
    exact this rs (fun r hr => (q.to r hr).1) q.ap
  have hup : (Q.map hdN).Pairwise (· < ·) := by
    have h1 : (Q.map hdN).Pairwise (· ≤ ·) := by rw [List.pairwise_map]; exact hs
    exact (h1.and hnd).imp fun {a b} ⟨h1, h2⟩ => Nat.lt_of_le_of_ne h1 h2
  have hh : Q.map hdN = ris N (lst E) := by
    refine ris_uniq hup fun x => ?_
    rw [List.mem_map]
    constructor
    · rintro ⟨a, ha, rfl⟩
      obtain ⟨r, hr, rfl⟩ := hq a ha
      obtain ⟨_, h2, h3, _⟩ := prt_hd (E := E) (q.to r hr).1
      exact ⟨h3, h2⟩
    · rintro ⟨hx, hl⟩
      obtain ⟨r, hr, s⟩ := q.of x (q.seen x (hL x hx))
      refine ⟨prt N E r, hp.mem_iff.2 (List.mem_map.2 ⟨r, hr, rfl⟩), ?_⟩
      obtain ⟨s2, h2, h3, _⟩ := prt_hd (E := E) (q.to r hr).1
      have s3 := s.symm.trans s2
      rw [lst_iff] at hl h2
      rcases Nat.lt_trichotomy (hdN (prt N E r)) x with z | z | z
      · exact absurd s3 (hl _ z)
      · exact z
      · exact absurd s3.symm (h2 _ z)
  unfold cmL
  rw [← hh, List.map_map]
  have : Q.map (prt N E ∘ hdN) = Q.map id := by
    refine List.map_congr_left fun a ha => ?_
    obtain ⟨r, hr, rfl⟩ := hq a ha
    exact (prt_hd (E := E) (q.to r hr).1).2.2.2.symm
  rw [this, List.map_id]
/-- Who goes round. -/
noncomputable def rnL (N : Nat) (E : List (Nat × Nat)) : List Nat := ris N fun x => wyB E (-1) [x] x
theorem wyB_self {E : List (Nat × Nat)} {x y : Nat} : wyB E (-1) [x] y = true ↔ Wy (ed E) x y := by
  rw [wyB_iff]
  constructor
  · rintro ⟨r, hr, h⟩
    rw [List.mem_singleton] at hr
    subst hr
    exact h.imp fun a b e => (edW_none (by omega)).1 e
  · intro h
    exact ⟨x, .head _, h.imp fun a b e => (edW_none (by omega)).2 e⟩
theorem Wy.src {R : Nat → Nat → Prop} {x y : Nat} (h : Wy R x y) : ∃ z, R x z ∧ Rs R z y := h.first
/-- It goes round just if it leads to itself, or there is another in its component. -/
theorem rn_iff {N : Nat} {E : List (Nat × Nat)} (hg : GOK N E) {x : Nat} (hx : x < N) : wyB E (-1) [x] x = true ↔ (x, x) ∈ E ∨ 1 < (prt N E x).length := by
  rw [wyB_self]
  constructor
  · intro h
    obtain ⟨z, h1, h2⟩ := h.first
    by_cases e : z = x
    · subst e; exact Or.inl h1
    · refine Or.inr ?_
      have s : sc E x z := ⟨Or.inr (.one h1), h2⟩
      have m1 : x ∈ prt N E x := prt_mem.2 ⟨hx, sc.refl _ _⟩
      have m2 : z ∈ prt N E x := prt_mem.2 ⟨rc_lt hg hx s.1, s⟩
      match hp : prt N E x with
      | [] => rw [hp] at m1; cases m1
      | [a] => rw [hp, List.mem_singleton] at m1 m2; exact absurd (m2.trans m1.symm) e
      | a :: b :: t => simp
  · rintro (h | h)
    · exact .one h
    · have hu := ris_up N (scB E x)
      change (prt N E x).Pairwise (· < ·) at hu
      match hp : prt N E x with
      | [] => rw [hp] at h; simp at h
      | [a] => rw [hp] at h; simp at h
      | a :: b :: t =>
        rw [hp, List.pairwise_cons] at hu
        have ab := hu.1 b (.head _)
        have ha := (prt_mem.1 (by rw [hp]; exact .head _ : a ∈ prt N E x)).2
        have hb := (prt_mem.1 (by rw [hp]; exact .tail _ (.head _) : b ∈ prt N E x)).2
        have go : ∀ y, sc E x y → y ≠ x → Wy (ed E) x x := fun y hy hn => by
          rcases hy.1 with e | e
          · exact absurd e.symm hn
          · rcases hy.2 with e2 | e2
            · exact absurd e2 hn
            · exact e.trans e2
        by_cases e : a = x
        · exact go b hb (by omega)
        · exact go a ha e
end Go.Proofs.Ytghkhceplpjegaa
namespace Go.Proofs.Ytghkhceplpjegaa
open Go.RowKit

/-- It may stand next: it does not stand, and all that lead to it do. -/
def cnd (E : List (Nat × Nat)) (D : List Nat) (x : Nat) : Prop := x ∉ D ∧ ∀ m, (m, x) ∈ E → m ∈ D
/-- The beginnings of the least order. -/
inductive KO (N : Nat) (E : List (Nat × Nat)) : List Nat → Prop
  | nil : KO N E []
  | snoc {D : List Nat} {x : Nat} : KO N E D → x < N → cnd E D x → (∀ m, m < x → ¬ cnd E D m) → KO N E (D ++ [x])
theorem KO.cut {N : Nat} {E : List (Nat × Nat)} {D : List Nat} (h : KO N E D) : D = [] ∨ ∃ D' x, D = D' ++ [x] ∧ KO N E D' ∧ x < N ∧ cnd E D' x ∧ ∀ m, m < x → ¬ cnd E D' m := by
  cases h with
  | nil => exact Or.inl rfl
  | snoc h1 h2 h3 h4 => exact Or.inr ⟨_, _, rfl, h1, h2, h3, h4⟩
theorem KO.one {N : Nat} {E : List (Nat × Nat)} {D : List Nat} (h : KO N E D) : ∀ {D' : List Nat}, KO N E D' → D.length = D'.length → D = D' := by
  induction h with
  | nil => intro D' _ hl; exact (List.length_eq_zero_iff.1 hl.symm).symm
  | @snoc D x h1 h2 h3 h4 ih =>
    intro D' h' hl
    rcases h'.cut with e | ⟨D2, y, rfl, k1, k2, k3, k4⟩
    · subst e; simp at hl
    · have e := ih k1 (by simpa using hl)
      subst e
      rcases Nat.lt_trichotomy x y with z | z | z
      · exact absurd h3 (k4 x z)
      · rw [z]
      · exact absurd k3 (h4 y z)
theorem KO.lt {N : Nat} {E : List (Nat × Nat)} {D : List Nat} (h : KO N E D) : ∀ x ∈ D, x < N := by
  induction h with
  | nil => simp
  | snoc h1 h2 h3 h4 ih =>
    intro y hy
    rcases List.mem_append.1 hy with q | q
    · exact ih y q
    · rw [List.mem_singleton] at q; rw [q]; exact h2
theorem KO.nodup {N : Nat} {E : List (Nat × Nat)} {D : List Nat} (h : KO N E D) : D.Nodup := by
  induction h with
  | nil => exact List.nodup_nil
  | snoc h1 h2 h3 h4 ih =>
    rw [List.nodup_append]
    exact ⟨ih, by simp, fun a ha b hb e => h3.1 (by rw [List.mem_singleton] at hb; rw [← hb, ← e]; exact ha)⟩
/-- Whoever leads to one that stands stands ahead of it. -/
theorem KO.pre {N : Nat} {E : List (Nat × Nat)} {D : List Nat} (h : KO N E D) : ∀ {L R : List Nat} {x m : Nat}, D = L ++ x :: R → (m, x) ∈ E → m ∈ L := by
  induction h with
  | nil => intro L R x m e; simp at e
  | @snoc D y h1 h2 h3 h4 ih =>
    intro L R x m e hm
    rcases List.eq_nil_or_concat R with r | ⟨R', z, r⟩
    · subst r
      obtain ⟨e1, e2⟩ := List.append_inj' e rfl
      subst e1
      rw [List.cons.injEq] at e2
      rw [← e2.1] at hm
      exact h3.2 m hm
    · have r : R = R' ++ [z] := by rw [r]; simp
      subst r
      have e3 : D ++ [y] = (L ++ x :: R') ++ [z] := by rw [e]; simp
      obtain ⟨e1, _⟩ := List.append_inj' e3 rfl
      exact ih e1 hm
theorem KO.cl {N : Nat} {E : List (Nat × Nat)} {D : List Nat} (h : KO N E D) {x m : Nat} (hx : x ∈ D) (hm : (m, x) ∈ E) : m ∈ D := by
  obtain ⟨L, R, e⟩ := List.append_of_mem hx
  rw [e]
  exact List.mem_append.2 (Or.inl (h.pre e hm))
/-- Where it stands. -/
def pos (D : List Nat) (x : Nat) : Nat := D.idxOf x
theorem pos_lt {D : List Nat} {x : Nat} (hx : x ∈ D) : pos D x < D.length := List.idxOf_lt_length_iff.2 hx
theorem pos_pre {D L R : List Nat} {x m : Nat} (hn : D.Nodup) (e : D = L ++ x :: R) (hm : m ∈ L) : pos D m < pos D x := by
  subst e
  have hx : x ∉ L := fun q => by
    rw [List.nodup_append] at hn
    exact hn.2.2 x q x (.head _) rfl
  unfold pos
  rw [List.idxOf_append, List.idxOf_append, if_pos hm, if_neg hx, List.idxOf_cons_self]
  have := List.idxOf_lt_length_iff.2 hm
  omega
theorem KO.edge {N : Nat} {E : List (Nat × Nat)} {D : List Nat} (h : KO N E D) {x m : Nat} (hx : x ∈ D) (hm : (m, x) ∈ E) : pos D m < pos D x := by
  obtain ⟨L, R, e⟩ := List.append_of_mem hx
  exact pos_pre h.nodup e (h.pre e hm)
theorem KO.way {N : Nat} {E : List (Nat × Nat)} {D : List Nat} (h : KO N E D) {x y : Nat} (k : Wy (ed E) x y) : y ∈ D → x ∈ D ∧ pos D x < pos D y := by
  induction k with
  | one e => intro hy; exact ⟨h.cl hy e, h.edge hy e⟩
  | more e k ih =>
    intro hy
    obtain ⟨h1, h2⟩ := ih hy
    exact ⟨h.cl h1 e, Nat.lt_trans (h.edge h1 e) h2⟩
/-- Whoever stands does not go round. -/
theorem KO.still {N : Nat} {E : List (Nat × Nat)} {D : List Nat} (h : KO N E D) {x : Nat} (hx : x ∈ D) : ¬ Wy (ed E) x x := fun k => by
  have := (h.way k hx).2
  omega
theorem full_mem {N : Nat} {D : List Nat} (hn : D.Nodup) (hl : ∀ x ∈ D, x < N) (e : D.length = N) : ∀ x, x < N → x ∈ D := by
  intro x hx
  refine Classical.byContradiction fun hc => ?_
  have hn2 : (x :: D).Nodup := List.nodup_cons.2 ⟨hc, hn⟩
  have := List.Nodup.length_le_of_subset hn2 (l₂ := List.range N) (fun y hy => by
    rcases List.mem_cons.1 hy with q | q
    · rw [q]; exact List.mem_range.2 hx
    · exact List.mem_range.2 (hl y q))
  simp at this
  omega
theorem nodup_leN {N : Nat} {D : List Nat} (hn : D.Nodup) (hl : ∀ x ∈ D, x < N) : D.length ≤ N := by
  have := List.Nodup.length_le_of_subset hn (l₂ := List.range N) (fun y hy => List.mem_range.2 (hl y hy))
  simpa using this
theorem missing {N : Nat} {D : List Nat} (h : D.length < N) : ∃ x, x < N ∧ x ∉ D := by
  refine Classical.byContradiction fun hc => ?_
  have := List.Nodup.length_le_of_subset (List.nodup_range (n := N)) (l₂ := D) (fun y hy => Classical.byContradiction fun q => hc ⟨y, List.mem_range.1 hy, q⟩)
  simp at this
  omega
/-- A set of nodes of which each is led to by one of them: one goes round. -/
theorem rounds {N : Nat} {E : List (Nat × Nat)} {U : Nat → Prop} (hU : ∀ y, U y → y < N) (hp : ∀ y, U y → ∃ m, (m, y) ∈ E ∧ U m) {x : Nat} (hx : U x) : ∃ z, U z ∧ Wy (ed E) z z := by
  have key : ∀ n : Nat, ∃ l : List Nat, l.length = n + 1 ∧ (∀ y ∈ l, U y) ∧ l.Pairwise (fun a b => Wy (ed E) a b) := by
    intro n
    induction n with
    | zero => exact ⟨[x], rfl, by simpa using hx, List.pairwise_singleton _ _⟩
    | succ n ih =>
      obtain ⟨l, h1, h2, h3⟩ := ih
      match l, h1, h2, h3 with
      | a :: t, h1, h2, h3 =>
        obtain ⟨m, hm, hu⟩ := hp a (h2 a (.head _))
        refine ⟨m :: a :: t, by simpa using h1, fun y hy => ?_, List.pairwise_cons.2 ⟨fun y hy => ?_, h3⟩⟩
        · rcases List.mem_cons.1 hy with q | q
          · rw [q]; exact hu
          · exact h2 y q
        · rcases List.mem_cons.1 hy with q | q
          · rw [q]; exact .one hm
          · exact .more hm ((List.pairwise_cons.1 h3).1 y q)
  obtain ⟨l, h1, h2, h3⟩ := key N
  have hnn : ¬ l.Nodup := fun hd => by
    have := nodup_leN hd (fun y hy => hU y (h2 y hy))
    omega
  refine Classical.byContradiction fun hc => hnn ?_
  unfold List.Nodup
  have h4 : l.Pairwise fun a b => U a ∧ Wy (ed E) a b := by
    rw [List.pairwise_iff_getElem] at h3 ⊢
    exact fun i j hi hj hij => ⟨h2 _ (List.getElem_mem hi), h3 i j hi hj hij⟩
  exact h4.imp fun {a b} ⟨h5, h6⟩ e => hc ⟨a, h5, by rw [← e] at h6; exact h6⟩
/-- Where none may stand next, all stand just if nobody goes round. -/
theorem KO.whole {N : Nat} {E : List (Nat × Nat)} (hg : GOK N E) {D : List Nat} (h : KO N E D) (hm : ∀ x, x < N → ¬ cnd E D x) : D.length = N ↔ ∀ x, x < N → ¬ Wy (ed E) x x := by
  constructor
  · intro e x hx k
    exact h.still (full_mem h.nodup h.lt e x hx) k
  · intro hr
    have hle := nodup_leN h.nodup h.lt
    refine Classical.byContradiction fun hc => ?_
    obtain ⟨x, hx, hxD⟩ := missing (show D.length < N by omega)
    obtain ⟨z, hz, hw⟩ := rounds (N := N) (E := E) (U := fun y => y < N ∧ y ∉ D) (fun y h => h.1) (fun y hy => by
      refine Classical.byContradiction fun q => hm y hy.1 ⟨hy.2, fun m hm2 => Classical.byContradiction fun q2 => q ⟨m, hm2, (hg.lt _ hm2).1, q2⟩⟩) ⟨hx, hxD⟩
    exact hr z hz.1 hw
/-- Where nobody goes round and not all stand, one may. -/
theorem KO.more {N : Nat} {E : List (Nat × Nat)} (hg : GOK N E) {D : List Nat} (h : KO N E D) (hl : D.length < N) (hr : ∀ x, x < N → ¬ Wy (ed E) x x) : ∃ x, x < N ∧ cnd E D x := by
  refine Classical.byContradiction fun hc => ?_
  have := (h.whole hg (fun x hx q => hc ⟨x, hx, q⟩)).2 hr
  omega
theorem KO.len {N : Nat} {E : List (Nat × Nat)} {D : List Nat} (h : KO N E D) : D.length ≤ N := nodup_leN h.nodup h.lt
theorem rn_nil {N : Nat} {E : List (Nat × Nat)} : rnL N E = [] ↔ ∀ x, x < N → ¬ Wy (ed E) x x := by
  constructor
  · intro h x hx k
    have : x ∈ rnL N E := ris_mem.2 ⟨hx, wyB_self.2 k⟩
    rw [h] at this; cases this
  · intro h
    refine List.eq_nil_iff_forall_not_mem.2 fun x hx => ?_
    obtain ⟨h1, h2⟩ := ris_mem.1 hx
    exact h x h1 (wyB_self.1 h2)
open Classical in
/-- The least order, if there is one. -/
noncomputable def orL (N : Nat) (E : List (Nat × Nat)) : List Nat := if h : ∃ D, KO N E D ∧ D.length = N then h.choose else []
theorem orL_is {N : Nat} {E : List (Nat × Nat)} {D : List Nat} (h : KO N E D) (e : D.length = N) : orL N E = D := by
  have hx : ∃ D, KO N E D ∧ D.length = N := ⟨D, h, e⟩
  unfold orL
  rw [dif_pos hx]
  exact hx.choose_spec.1.one h (by rw [hx.choose_spec.2, e])
theorem orL_ko {N : Nat} {E : List (Nat × Nat)} (hg : GOK N E) (hr : rnL N E = []) : KO N E (orL N E) ∧ (orL N E).length = N := by
  have key : ∀ k, k ≤ N → ∃ D, KO N E D ∧ D.length = k := by
    intro k
    induction k with
    | zero => intro _; exact ⟨[], .nil, rfl⟩
    | succ k ih =>
      intro hk
      obtain ⟨D, h1, h2⟩ := ih (by omega)
      obtain ⟨x, hx, hc⟩ := h1.more hg (by omega) (rn_nil.1 hr)
      have : ∃ y, cnd E D y ∧ ∀ m, m < y → ¬ cnd E D m := by
        induction x using Nat.strongRecOn with
        | _ x ih2 =>
          by_cases q : ∃ m, m < x ∧ cnd E D m
          · obtain ⟨m, q1, q2⟩ := q
            exact ih2 m q1 (by omega) q2
          · exact ⟨x, hc, fun m hm hm2 => q ⟨m, hm, hm2⟩⟩
      obtain ⟨y, hy, hl⟩ := this
      have hyx : y < N := Classical.byContradiction fun q => by
        rcases Nat.lt_or_ge x y with z | z
        · exact hl x z hc
        · omega
      exact ⟨D ++ [y], .snoc h1 hyx hy hl, by simp [h2]⟩
  obtain ⟨D, h1, h2⟩ := key N (Nat.le_refl _)
  rw [orL_is h1 h2]
  exact ⟨h1, h2⟩
/-- Where the search for it ends. -/
theorem KO.told {N : Nat} {E : List (Nat × Nat)} (hg : GOK N E) {D : List Nat} (h : KO N E D) (hm : ∀ x, x < N → ¬ cnd E D x) : (D.length < N ∧ rnL N E ≠ []) ∨ (D.length = N ∧ rnL N E = [] ∧ D = orL N E) := by
  have hw := h.whole hg hm
  have := h.len
  by_cases e : D.length = N
  · exact Or.inr ⟨e, rn_nil.2 (hw.1 e), (orL_is h e).symm⟩
  · exact Or.inl ⟨by omega, fun q => e (hw.2 (rn_nil.1 q))⟩
end Go.Proofs.Ytghkhceplpjegaa
