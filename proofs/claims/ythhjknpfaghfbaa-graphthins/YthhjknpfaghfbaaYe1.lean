/- Graph, plain: who goes round together; Kosaraju. -/
import Derived.Test.YthhjknpfaghfbaaYa3
namespace Go.Proofs.Ythhjknpfaghfbaa
open Go.RowKit

/-- They go round together, or are one. -/
def sc (E : List (Nat × Nat)) (x y : Nat) : Prop := Rs (ed E) x y ∧ Rs (ed E) y x
theorem sc.refl (E : List (Nat × Nat)) (x : Nat) : sc E x x := ⟨Rs.refl _ _, Rs.refl _ _⟩
theorem sc.symm {E : List (Nat × Nat)} {x y : Nat} (h : sc E x y) : sc E y x := ⟨h.2, h.1⟩
theorem sc.trans {E : List (Nat × Nat)} {x y z : Nat} (h : sc E x y) (k : sc E y z) : sc E x z := ⟨h.1.trans k.1, k.2.trans h.2⟩
open Classical in
noncomputable def scB (E : List (Nat × Nat)) (x y : Nat) : Bool := decide (sc E x y)
theorem scB_iff {E : List (Nat × Nat)} {x y : Nat} : scB E x y = true ↔ sc E x y := by simp [scB]
open Classical in
/-- It is the least of those that it goes round with. -/
noncomputable def lst (E : List (Nat × Nat)) (n : Nat) : Bool := decide (∀ m, m < n → ¬ sc E n m)
theorem lst_iff {E : List (Nat × Nat)} {n : Nat} : lst E n = true ↔ ∀ m, m < n → ¬ sc E n m := by simp [lst]
noncomputable def prt (N : Nat) (E : List (Nat × Nat)) (r : Nat) : List Nat := ris N (scB E r)
/-- The components. -/
noncomputable def cmL (N : Nat) (E : List (Nat × Nat)) : List (List Nat) := (ris N (lst E)).map (prt N E)
theorem prt_mem {N : Nat} {E : List (Nat × Nat)} {r x : Nat} : x ∈ prt N E r ↔ x < N ∧ sc E r x := by unfold prt; rw [ris_mem, scB_iff]
theorem prt_same {N : Nat} {E : List (Nat × Nat)} {r s : Nat} (h : sc E r s) : prt N E r = prt N E s := by
  refine ris_congr fun x _ => ?_
  rw [Bool.eq_iff_iff, scB_iff, scB_iff]
  exact ⟨fun k => h.symm.trans k, fun k => h.trans k⟩
theorem prt_head {N : Nat} {E : List (Nat × Nat)} {r : Nat} (hr : r < N) : ∃ n t, prt N E r = n :: t ∧ sc E r n ∧ lst E n = true ∧ n < N := by
  have hm : r ∈ prt N E r := prt_mem.2 ⟨hr, sc.refl _ _⟩
  have hu := ris_up N (scB E r)
  change (prt N E r).Pairwise (· < ·) at hu
  cases e : prt N E r with
  | nil => rw [e] at hm; cases hm
  | cons n t =>
    obtain ⟨h1, h2⟩ := prt_mem.1 (by rw [e]; exact .head _ : n ∈ prt N E r)
    refine ⟨n, t, rfl, h2, lst_iff.2 fun m hmn hs => ?_, h1⟩
    have hq : m ∈ prt N E r := prt_mem.2 ⟨by omega, h2.trans hs⟩
    rw [e] at hq hu
    rcases List.mem_cons.1 hq with e2 | e2
    · omega
    · have := (List.pairwise_cons.1 hu).1 m e2; omega
theorem sc_mid {E : List (Nat × Nat)} {r x y : Nat} (h : sc E r x) (h1 : Rs (ed E) r y) (h2 : Rs (ed E) y x) : sc E r y := ⟨h1, h2.trans h.2⟩
/-- A way of the turned graph from one to another that goes round with it leads over such alone. -/
theorem back_in {E : List (Nat × Nat)} {r x : Nat} (h : sc E r x) : Rs (fun a b => (b, a) ∈ E ∧ sc E r a ∧ sc E r b) r x := by
  have key : ∀ a b, Rs (ed E) a b → ∀ (_ : sc E r b) (_ : sc E r a), Rs (fun u v => (v, u) ∈ E ∧ sc E r u ∧ sc E r v) b a := by
    intro a b k hb ha
    rcases k with rfl | k
    · exact Rs.refl _ _
    · induction k with
      | one k => exact Or.inr (.one ⟨k, hb, ha⟩)
      | @more a c b k k2 ih =>
        have hc : sc E r c := ⟨ha.1.trans (Or.inr (.one k)), (Rs.trans (Or.inr k2) hb.2)⟩
        exact Rs.trans (ih hb hc) (Or.inr (.one ⟨k, hc, ha⟩))
  exact key x r h.2 (sc.refl _ _) h
theorem kos_step {N : Nat} {E : List (Nat × Nat)} (hg : GOK N E) {S S2 S3 : Nat → Bool} {L La Lb P : List Nat} {r : Nat} (h : DL (nx N E) (fun _ => false) (List.range N) S L) (e : L = La ++ r :: Lb) (h1 : ∀ x ∈ Lb, S2 x = true) (h2 : ∀ x y, sc E x y → S2 x = true → S2 y = true) (h3 : S2 r = false) (k : DL (nx N (tu E)) S2 [r] S3 P) : (∀ x, x ∈ P ↔ sc E r x) ∧ (∀ x y, sc E x y → S3 x = true → S3 y = true) := by
  have hL : ∀ x, x < N → x ∈ L := fun x hx => by
    rcases (h.mem x).1 (h.todo x (List.mem_range.2 hx)) with q | q
    · cases q
    · exact q
  have hnd := h.nodup
  have hb : ∀ a b, b ∈ nx N (tu E) a ↔ (b, a) ∈ E := fun a b => (nx_mem (tu_ok hg)).trans tu_mem
  have main : ∀ x, x ∈ P ↔ sc E r x := by
    intro x
    constructor
    · intro hx
      obtain ⟨s, hs, q⟩ := k.le x hx
      rw [List.mem_singleton] at hs
      subst hs
      have fwd : Rs (ed E) x s := by
        have := (q.imp fun a b ⟨q1, _, _⟩ => (hb a b).1 q1).flip
        exact this
      obtain ⟨L0, L1, L2, e2, q1, q2⟩ := h.parts s (by rw [e]; simp)
      have h2e : L0 ++ L1 = La ∧ L2 = Lb := by
        have e3 : La ++ s :: Lb = L0 ++ L1 ++ s :: L2 := by rw [← e, ← e2]
        have n1 : s ∉ La := fun hm => by
          rw [e, List.nodup_append] at hnd
          exact hnd.2.2 s hm s (.head _) rfl
        have n2 : s ∉ L0 ++ L1 := fun hm => by
          rw [e2, List.nodup_append] at hnd
          exact hnd.2.2 s hm s (.head _) rfl
        have gen : ∀ (A B C D : List Nat), s ∉ A → s ∉ C → A ++ s :: B = C ++ s :: D → C = A ∧ D = B := by
          intro A
          induction A with
          | nil =>
            intro B C D _ hC he
            cases C with
            | nil => simp at he; exact ⟨rfl, he.symm⟩
            | cons c C => simp at he; exact absurd he.1 (fun e => hC (by rw [e]; exact .head _))
          | cons a A ih =>
            intro B C D hA hC he
            cases C with
            | nil => simp at he; exact absurd he.1.symm (fun e => hA (by rw [e]; exact .head _))
            | cons c C =>
              simp only [List.cons_append, List.cons.injEq] at he
              obtain ⟨i1, i2⟩ := ih B C D (fun m => hA (.tail _ m)) (fun m => hC (.tail _ m)) he.2
              exact ⟨by rw [he.1, i1], i2⟩
        exact gen _ _ _ _ n1 n2 e3
      have inn : x ∈ L1 ∨ x = s := by
        refine Rs.ind (P := fun x => x ∈ L1 ∨ x = s) (fun a b ha hab => ?_) q (Or.inr rfl)
        obtain ⟨p1, p2, p3⟩ := hab
        have ed1 := (hb a b).1 p1
        have bl : b ∈ L := hL b (hg.lt _ ed1).1
        rw [e2, List.mem_append, List.mem_append, List.mem_cons] at bl
        rcases bl with (bl | bl) | bl | bl
        · exfalso
          obtain ⟨z1, z2⟩ := q2 b bl a ((nx_mem hg).2 ed1)
          rcases ha with ha | ha
          · exact z1 ha
          · exact z2 ha
        · exact Or.inl bl
        · exact Or.inr bl
        · rw [h2e.2] at bl
          rw [h1 b bl] at p3; cases p3
      refine ⟨?_, fwd⟩
      rcases inn with i | i
      · exact Or.inr ((q1 x i).imp fun a b q => (nx_mem hg).1 q)
      · rw [i]; exact Rs.refl _ _
    · intro hs
      have un : ∀ y, sc E r y → S2 y = false := fun y hy => by
        cases ey : S2 y with
        | false => rfl
        | true => rw [h2 y r hy.symm ey] at h3; cases h3
      have := (k.reachS x).2 (Or.inr ⟨r, .head _, h3, (back_in hs).imp fun a b ⟨q1, q2, q3⟩ => ⟨(hb a b).2 q1, un a q2, un b q3⟩⟩)
      rcases (k.mem x).1 this with q | q
      · rw [un x hs] at q; cases q
      · exact q
  refine ⟨main, fun x y hxy hx => ?_⟩
  rcases (k.mem x).1 hx with q | q
  · exact k.up (h2 x y hxy q)
  · exact (k.mem y).2 (Or.inr ((main y).2 (((main x).1 q).trans hxy)))
/-- The second walk has come over these, from the end. -/
structure KP (N : Nat) (E : List (Nat × Nat)) (Lb : List Nat) (S : Nat → Bool) (rs : List Nat) : Prop where
  seen : ∀ x ∈ Lb, S x = true
  cl : ∀ x y, sc E x y → S x = true → S y = true
  of : ∀ x, S x = true → ∃ r ∈ rs, sc E r x
  to : ∀ r ∈ rs, r < N ∧ S r = true
  ap : rs.Pairwise fun a b => ¬ sc E a b
theorem KP.start (N : Nat) (E : List (Nat × Nat)) : KP N E [] (fun _ => false) [] := ⟨by simp, by simp, by simp, by simp, List.Pairwise.nil⟩
theorem KP.skip {N : Nat} {E : List (Nat × Nat)} {Lb rs : List Nat} {S : Nat → Bool} {r : Nat} (h : KP N E Lb S rs) (hr : S r = true) : KP N E (r :: Lb) S rs :=
  ⟨fun x hx => by
    rcases List.mem_cons.1 hx with e | e
    · rw [e]; exact hr
    · exact h.seen x e, h.cl, h.of, h.to, h.ap⟩
theorem KP.one {N : Nat} {E : List (Nat × Nat)} (hg : GOK N E) {S S2 S3 : Nat → Bool} {L La Lb P rs : List Nat} {r : Nat} (h : DL (nx N E) (fun _ => false) (List.range N) S L) (e : L = La ++ r :: Lb) (q : KP N E Lb S2 rs) (h3 : S2 r = false) (hr : r < N) (k : DL (nx N (tu E)) S2 [r] S3 P) : KP N E (r :: Lb) S3 (rs ++ [r]) ∧ (∀ x, x ∈ P ↔ sc E r x) := by
  obtain ⟨m1, m2⟩ := kos_step hg h e q.seen q.cl h3 k
  have hr3 : S3 r = true := (k.mem r).2 (Or.inr ((m1 r).2 (sc.refl _ _)))
  refine ⟨⟨fun x hx => ?_, m2, fun x hx => ?_, fun x hx => ?_, ?_⟩, m1⟩
  · rcases List.mem_cons.1 hx with e | e
    · rw [e]; exact hr3
    · exact k.up (q.seen x e)
  · rcases (k.mem x).1 hx with z | z
    · obtain ⟨s, hs, i⟩ := q.of x z
      exact ⟨s, List.mem_append.2 (Or.inl hs), i⟩
    · exact ⟨r, by simp, (m1 x).1 z⟩
  · rcases List.mem_append.1 hx with z | z
    · exact ⟨(q.to x z).1, k.up (q.to x z).2⟩
    · rw [List.mem_singleton] at z; rw [z]; exact ⟨hr, hr3⟩
  · rw [List.pairwise_append]
    refine ⟨q.ap, List.pairwise_singleton _ _, fun a ha b hb s => ?_⟩
    rw [List.mem_singleton] at hb
    subst hb
    rw [q.cl a b s (q.to a ha).2] at h3; cases h3
theorem prt_of {N : Nat} {E : List (Nat × Nat)} (hg : GOK N E) {P : List Nat} {r : Nat} (hr : r < N) (hn : P.Nodup) (h : ∀ x, x ∈ P ↔ sc E r x) : (nI P).mergeSort (fun x y => decide (x ≤ y)) = nI (prt N E r) := by
  refine int_ris (srt_up (nI_nodup hn)) fun x => ?_
  rw [srt_mem, nI_mem]
  constructor
  · rintro ⟨k, hk, e⟩
    have hs := (h k).1 hk
    exact ⟨k, e, rc_lt hg hr hs.1, scB_iff.2 hs⟩
  · rintro ⟨k, e, _, hk⟩
    exact ⟨k, (h k).2 (scB_iff.1 hk), e⟩
def hdN (q : List Nat) : Nat := q.headD 0
theorem prt_hd {N : Nat} {E : List (Nat × Nat)} {r : Nat} (hr : r < N) : sc E r (hdN (prt N E r)) ∧ lst E (hdN (prt N E r)) = true ∧ hdN (prt N E r) < N ∧ prt N E r = prt N E (hdN (prt N E r)) := by
  obtain ⟨n, t, e, h1, h2, h3⟩ := prt_head (E := E) hr
  have : hdN (prt N E r) = n := by rw [e]; rfl
  rw [this]
  exact ⟨h1, h2, h3, prt_same h1⟩
/-- Sorted by their first nodes they are the components. -/
theorem cm_sorted {N : Nat} {E : List (Nat × Nat)} {L rs : List Nat} {S : Nat → Bool} (q : KP N E L S rs) (hL : ∀ x, x < N → x ∈ L) {Q : List (List Nat)} (hp : Q.Perm (rs.map (prt N E))) (hs : Q.Pairwise fun a b => hdN a ≤ hdN b) : Q = cmL N E := by
  have hq : ∀ a ∈ Q, ∃ r ∈ rs, a = prt N E r := fun a ha => by
    obtain ⟨r, hr, e⟩ := List.mem_map.1 (hp.mem_iff.1 ha)
    exact ⟨r, hr, e.symm⟩
  have hnd : (Q.map hdN).Nodup := by
    have h1 : (Q.map hdN).Perm ((rs.map (prt N E)).map hdN) := hp.map _
    rw [h1.nodup_iff, List.map_map]
    unfold List.Nodup
    rw [List.pairwise_map]
    have : ∀ l : List Nat, (∀ r ∈ l, r < N) → l.Pairwise (fun a b => ¬ sc E a b) → l.Pairwise fun a b => (hdN ∘ prt N E) a ≠ (hdN ∘ prt N E) b := by
      intro l
      induction l with
      | nil => intro _ _; exact List.Pairwise.nil
      | cons a l ih =>
        intro h1 h2
        rw [List.pairwise_cons] at h2 ⊢
        refine ⟨fun b hb e => h2.1 b hb ?_, ih (fun r hr => h1 r (.tail _ hr)) h2.2⟩
        have s1 := (prt_hd (E := E) (h1 a (.head _))).1
        have s2 := (prt_hd (E := E) (h1 b (.tail _ hb))).1
        have e : hdN (prt N E a) = hdN (prt N E b) := e
        rw [e] at s1
        exact s1.trans s2.symm
    exact this rs (fun r hr => (q.to r hr).1) q.ap
  have hup : (Q.map hdN).Pairwise (· < ·) := by
    have h1 : (Q.map hdN).Pairwise (· ≤ ·) := by rw [List.pairwise_map]; exact hs
    exact (h1.and hnd).imp fun {a b} ⟨h1, h2⟩ => Nat.lt_of_le_of_ne h1 h2
  have hh : Q.map hdN = ris N (lst E) := by
    refine ris_uniq hup fun x => ?_
    rw [List.mem_map]
    constructor
    · rintro ⟨a, ha, rfl⟩
      obtain ⟨r, hr, rfl⟩ := hq a ha
      obtain ⟨_, h2, h3, _⟩ := prt_hd (E := E) (q.to r hr).1
      exact ⟨h3, h2⟩
    · rintro ⟨hx, hl⟩
      obtain ⟨r, hr, s⟩ := q.of x (q.seen x (hL x hx))
      refine ⟨prt N E r, hp.mem_iff.2 (List.mem_map.2 ⟨r, hr, rfl⟩), ?_⟩
      obtain ⟨s2, h2, h3, _⟩ := prt_hd (E := E) (q.to r hr).1
      have s3 := s.symm.trans s2
      rw [lst_iff] at hl h2
      rcases Nat.lt_trichotomy (hdN (prt N E r)) x with z | z | z
      · exact absurd s3 (hl _ z)
      · exact z
      · exact absurd s3.symm (h2 _ z)
  unfold cmL
  rw [← hh, List.map_map]
  have : Q.map (prt N E ∘ hdN) = Q.map id := by
    refine List.map_congr_left fun a ha => ?_
    obtain ⟨r, hr, rfl⟩ := hq a ha
    exact (prt_hd (E := E) (q.to r hr).1).2.2.2.symm
  rw [this, List.map_id]
/-- Who goes round. -/
noncomputable def rnL (N : Nat) (E : List (Nat × Nat)) : List Nat := ris N fun x => wyB E (-1) [x] x
theorem wyB_self {E : List (Nat × Nat)} {x y : Nat} : wyB E (-1) [x] y = true ↔ Wy (ed E) x y := by
  rw [wyB_iff]
  constructor
  · rintro ⟨r, hr, h⟩
    rw [List.mem_singleton] at hr
    subst hr
    exact h.imp fun a b e => (edW_none (by omega)).1 e
  · intro h
    exact ⟨x, .head _, h.imp fun a b e => (edW_none (by omega)).2 e⟩
theorem Wy.src {R : Nat → Nat → Prop} {x y : Nat} (h : Wy R x y) : ∃ z, R x z ∧ Rs R z y := h.first
/-- It goes round just if it leads to itself, or there is another in its component. -/
theorem rn_iff {N : Nat} {E : List (Nat × Nat)} (hg : GOK N E) {x : Nat} (hx : x < N) : wyB E (-1) [x] x = true ↔ (x, x) ∈ E ∨ 1 < (prt N E x).length := by
  rw [wyB_self]
  constructor
  · intro h
    obtain ⟨z, h1, h2⟩ := h.first
    by_cases e : z = x
    · subst e; exact Or.inl h1
    · refine Or.inr ?_
      have s : sc E x z := ⟨Or.inr (.one h1), h2⟩
      have m1 : x ∈ prt N E x := prt_mem.2 ⟨hx, sc.refl _ _⟩
      have m2 : z ∈ prt N E x := prt_mem.2 ⟨rc_lt hg hx s.1, s⟩
      match hp : prt N E x with
      | [] => rw [hp] at m1; cases m1
      | [a] => rw [hp, List.mem_singleton] at m1 m2; exact absurd (m2.trans m1.symm) e
      | a :: b :: t => simp
  · rintro (h | h)
    · exact .one h
    · have hu := ris_up N (scB E x)
      change (prt N E x).Pairwise (· < ·) at hu
      match hp : prt N E x with
      | [] => rw [hp] at h; simp at h
      | [a] => rw [hp] at h; simp at h
      | a :: b :: t =>
        rw [hp, List.pairwise_cons] at hu
        have ab := hu.1 b (.head _)
        have ha := (prt_mem.1 (by rw [hp]; exact .head _ : a ∈ prt N E x)).2
        have hb := (prt_mem.1 (by rw [hp]; exact .tail _ (.head _) : b ∈ prt N E x)).2
        have go : ∀ y, sc E x y → y ≠ x → Wy (ed E) x x := fun y hy hn => by
          rcases hy.1 with e | e
          · exact absurd e.symm hn
          · rcases hy.2 with e2 | e2
            · exact absurd e2 hn
            · exact e.trans e2
        by_cases e : a = x
        · exact go b hb (by omega)
        · exact go a ha e
end Go.Proofs.Ythhjknpfaghfbaa
