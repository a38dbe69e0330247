/- Depend: steps, rounds, ways (plain). -/
namespace Go.Proofs.Ytkhcinpcoabphaa
/-- So many steps. -/
def itn (f : Nat → Option Nat) : Nat → Nat → Option Nat
  | 0, i => some i
  | k + 1, i => (f i).bind (itn f k)
theorem it_add (f : Nat → Option Nat) (a b i : Nat) : itn f (a + b) i = (itn f a i).bind (itn f b) := by
  induction a generalizing i with
  | zero => simp [itn]
  | succ a ih =>
    rw [Nat.succ_add]; simp only [itn]
    cases f i with
    | none => rfl
    | some y => simp [ih]
theorem it_one (f : Nat → Option Nat) (i : Nat) : itn f 1 i = f i := by simp only [itn]; cases f i <;> rfl
theorem it_last (f : Nat → Option Nat) (k i : Nat) : itn f (k + 1) i = (itn f k i).bind f := by
  rw [it_add f k 1]; congr; funext x; exact it_one f x
theorem it_none (f : Nat → Option Nat) {k m i : Nat} (h : itn f k i = none) (hm : k ≤ m) : itn f m i = none := by
  obtain ⟨r, rfl⟩ := Nat.le.dest hm
  rw [it_add, h]; rfl
theorem it_some (f : Nat → Option Nat) {k m i j : Nat} (h : itn f m i = some j) (hm : k ≤ m) : ∃ x, itn f k i = some x := by
  cases e : itn f k i with
  | some x => exact ⟨x, rfl⟩
  | none => rw [it_none f e hm] at h; cases h
/-- It comes back. -/
def Cyc (f : Nat → Option Nat) (i : Nat) : Prop := ∃ p, 0 < p ∧ itn f p i = some i
theorem cyc_mul {f : Nat → Option Nat} {i p : Nat} (h : itn f p i = some i) (m : Nat) : itn f (p * m) i = some i := by
  induction m with
  | zero => rfl
  | succ m ih => rw [Nat.mul_succ, it_add, ih]; exact h
theorem cyc_never {f : Nat → Option Nat} {i : Nat} (h : Cyc f i) (k : Nat) : itn f k i ≠ none := by
  obtain ⟨p, hp, e⟩ := h
  intro hk
  have h1 := cyc_mul e k
  rw [it_none f hk (Nat.le_mul_of_pos_left k hp)] at h1
  cases h1
theorem cyc_step {f : Nat → Option Nat} {i k j : Nat} (h : Cyc f i) (hk : itn f k i = some j) : Cyc f j := by
  obtain ⟨p, hp, e⟩ := h
  refine ⟨p, hp, ?_⟩
  have h1 : itn f (k + p) i = itn f p j := by rw [it_add, hk]; rfl
  rw [← h1, Nat.add_comm, it_add, e]; exact hk
/-- Within n. -/
def BD (f : Nat → Option Nat) (n : Nat) : Prop := ∀ i j, i < n → f i = some j → j < n
theorem BD.steps {f : Nat → Option Nat} {n : Nat} (h : BD f n) : ∀ (k i j : Nat), i < n → itn f k i = some j → j < n
  | 0, i, j, hi, e => by simp only [itn, Option.some.injEq] at e; omega
  | k + 1, i, j, hi, e => by
    simp only [itn] at e
    cases ef : f i with
    | none => rw [ef] at e; cases e
    | some y => rw [ef] at e; exact h.steps k y j (h i y hi ef) e
theorem nodup_lt {l : List Nat} {n : Nat} (h : l.Nodup) (hl : ∀ x ∈ l, x < n) : l.length ≤ n := by
  have := List.Nodup.length_le_of_subset h (l₂ := List.range n) (fun x hx => List.mem_range.2 (hl x hx))
  simpa using this
theorem pig {f : Nat → Option Nat} {n : Nat} (h : BD f n) {N i j : Nat} (hi : i < n) (hN : n ≤ N) (e : itn f N i = some j) : Cyc f j := by
  have hn : ¬ ((List.range (n + 1)).map fun k => (itn f k i).getD 0).Nodup := fun hd => by
    have := nodup_lt hd (n := n) (fun x hx => by
      obtain ⟨k, hk, rfl⟩ := List.mem_map.1 hx
      have hk := List.mem_range.1 hk
      obtain ⟨y, hy⟩ := it_some f e (k := k) (by omega)
      rw [hy]; exact h.steps k i y hi hy)
    simp at this
    omega
  unfold List.Nodup at hn
  rw [List.pairwise_iff_getElem] at hn
  have : ∃ a b, a < b ∧ b ≤ n ∧ (itn f a i).getD 0 = (itn f b i).getD 0 := by
    refine Classical.byContradiction fun hc => hn fun a b ha hb hab hne => hc ⟨a, b, hab, by simp at hb; omega, ?_⟩
    simpa using hne
  obtain ⟨a, b, hab, hb, hg⟩ := this
  obtain ⟨x, hx⟩ := it_some f e (k := a) (by omega)
  obtain ⟨y, hy⟩ := it_some f e (k := b) (by omega)
  rw [hx, hy] at hg
  simp only [Option.getD_some] at hg
  subst hg
  have hc : Cyc f x := ⟨b - a, by omega, by
    have h1 : itn f (a + (b - a)) i = itn f (b - a) x := by rw [it_add, hx]; rfl
    rw [← h1, show a + (b - a) = b by omega]; exact hy⟩
  refine cyc_step hc (k := N - a) ?_
  have h1 : itn f (a + (N - a)) i = itn f (N - a) x := by rw [it_add, hx]; rfl
  rw [← h1, show a + (N - a) = N by omega]; exact e
theorem cyc_back {f : Nat → Option Nat} {j : Nat} (h : Cyc f j) (N : Nat) : ∃ i k, itn f k j = some i ∧ itn f N i = some j := by
  obtain ⟨p, hp, e⟩ := h
  have h1 := cyc_mul e N
  have hle : N ≤ p * N := Nat.le_mul_of_pos_left N hp
  obtain ⟨i, hi⟩ := it_some f h1 (k := p * N - N) (by omega)
  refine ⟨i, _, hi, ?_⟩
  have h2 : itn f ((p * N - N) + N) j = itn f N i := by rw [it_add, hi]; rfl
  rw [← h2, show (p * N - N) + N = p * N by omega]; exact h1
/-- A way up to its end. -/
def Way (g : Nat → Option Nat) : Nat → List Nat → Prop
  | _, [] => False
  | x, y :: l => y = x ∧ ((g x = none ∧ l = []) ∨ ∃ z, g x = some z ∧ Way g z l)
theorem Way.last {g : Nat → Option Nat} (x : Nat) (h : g x = none) : Way g x [x] := ⟨rfl, Or.inl ⟨h, rfl⟩⟩
theorem Way.next {g : Nat → Option Nat} (x y : Nat) (l : List Nat) (h : g x = some y) (t : Way g y l) : Way g x (x :: l) := ⟨rfl, Or.inr ⟨y, h, t⟩⟩
theorem Way.ind {g : Nat → Option Nat} {motive : (x : Nat) → (l : List Nat) → Way g x l → Prop} (last : ∀ (x : Nat) (h : g x = none), motive x [x] (Way.last x h)) (next : ∀ (x y : Nat) (l : List Nat) (h : g x = some y) (t : Way g y l), motive y l t → motive x (x :: l) (Way.next x y l h t)) : ∀ {x : Nat} {l : List Nat} (t : Way g x l), motive x l t
  | _, [], t => t.elim
  | x, y :: l, t => by
    obtain ⟨e, h⟩ := t
    subst e
    rcases h with ⟨h1, h2⟩ | ⟨z, h1, h2⟩
    · subst h2; exact last y h1
    · exact next y z l h1 h2 (Way.ind last next h2)
theorem Way.parts {g : Nat → Option Nat} {x : Nat} {l : List Nat} (h : Way g x l) : (g x = none ∧ l = [x]) ∨ ∃ y m, g x = some y ∧ l = x :: m ∧ Way g y m := by
  cases l with
  | nil => exact h.elim
  | cons y l =>
    obtain ⟨e, h⟩ := h
    subst e
    rcases h with ⟨h1, h2⟩ | ⟨z, h1, h2⟩
    · subst h2; exact Or.inl ⟨h1, rfl⟩
    · exact Or.inr ⟨z, l, h1, rfl, h2⟩
theorem Way.uniq {g : Nat → Option Nat} {x : Nat} {l m : List Nat} (h : Way g x l) (h' : Way g x m) : l = m := by
  induction h using Way.ind generalizing m with
  | last x e =>
    rcases h'.parts with ⟨_, h2⟩ | ⟨y, m, h1, _⟩
    · exact h2.symm
    · rw [e] at h1; cases h1
  | next x y l e t ih =>
    rcases h'.parts with ⟨h1, _⟩ | ⟨y', m', h1, h2, h3⟩
    · rw [e] at h1; cases h1
    · rw [e] at h1; injection h1 with h1; subst h1; rw [h2, ih h3]
def Ends (g : Nat → Option Nat) (x : Nat) : Prop := ∃ k, itn g k x = none
theorem Ends.way {g : Nat → Option Nat} {x : Nat} (h : Ends g x) : ∃ l, Way g x l := by
  obtain ⟨k, hk⟩ := h
  induction k generalizing x with
  | zero => cases hk
  | succ k ih =>
    cases e : g x with
    | none => exact ⟨_, .last x e⟩
    | some y =>
      simp only [itn, e, Option.bind_some] at hk
      obtain ⟨l, hl⟩ := ih hk
      exact ⟨_, .next x y l e hl⟩
theorem Way.ends {g : Nat → Option Nat} {x : Nat} {l : List Nat} (h : Way g x l) : Ends g x := by
  induction h using Way.ind with
  | last x e => exact ⟨1, by simp [itn, e]⟩
  | next x y l e t ih => obtain ⟨k, hk⟩ := ih; exact ⟨k + 1, by simp [itn, e, hk]⟩
theorem Way.mem_ends {g : Nat → Option Nat} {x : Nat} {l : List Nat} (h : Way g x l) : ∀ z ∈ l, Ends g z := by
  induction h using Way.ind with
  | last x e => intro z hz; simp at hz; subst hz; exact ⟨1, by simp [itn, e]⟩
  | next x y l e t ih =>
    intro z hz
    rcases List.mem_cons.1 hz with rfl | hz
    · exact (Way.next z y l e t).ends
    · exact ih z hz
theorem Way.ne {g : Nat → Option Nat} {x : Nat} {l : List Nat} (h : Way g x l) : l ≠ [] := by intro e; subst e; exact h
theorem Way.head {g : Nat → Option Nat} {x : Nat} {l : List Nat} (h : Way g x l) : ∃ m, l = x :: m := by
  rcases h.parts with ⟨_, h2⟩ | ⟨y, m, _, h2, _⟩
  · exact ⟨_, h2⟩
  · exact ⟨_, h2⟩
theorem Way.reach {g : Nat → Option Nat} {x : Nat} {l : List Nat} (h : Way g x l) : ∀ k (hk : k < l.length), itn g k x = some l[k] := by
  induction h using Way.ind with
  | last x e => intro k hk; simp at hk; subst hk; rfl
  | next x y l e t ih =>
    intro k hk
    cases k with
    | zero => rfl
    | succ k => simp only [itn, e, Option.bind_some]; simpa using ih k (by simpa using hk)
theorem Way.over {g : Nat → Option Nat} {x : Nat} {l : List Nat} (h : Way g x l) : itn g l.length x = none := by
  induction h using Way.ind with
  | last x e => simp [itn, e]
  | next x y l e t ih => simp [itn, e, ih]
theorem Way.nodup {g : Nat → Option Nat} {x : Nat} {l : List Nat} (h : Way g x l) : l.Nodup := by
  unfold List.Nodup
  rw [List.pairwise_iff_getElem]
  intro a b ha hb hab heq
  have h1 := h.reach a ha
  have h2 := h.reach b hb
  rw [heq] at h1
  have hc : Cyc g l[b] := ⟨b - a, by omega, by
    have h3 : itn g (a + (b - a)) x = itn g (b - a) l[b] := by rw [it_add, h1]; rfl
    rw [← h3, show a + (b - a) = b by omega]; exact h2⟩
  obtain ⟨k, hk⟩ := h.mem_ends l[b] (List.getElem_mem hb)
  exact cyc_never hc k hk
theorem Way.lt {g : Nat → Option Nat} {n : Nat} (hg : BD g n) {x : Nat} {l : List Nat} (h : Way g x l) (hx : x < n) : ∀ z ∈ l, z < n := by
  intro z hz
  obtain ⟨k, hk, rfl⟩ := List.getElem_of_mem hz
  exact hg.steps k x _ hx (h.reach k hk)
theorem Way.len {g : Nat → Option Nat} {n : Nat} (hg : BD g n) {x : Nat} {l : List Nat} (h : Way g x l) (hx : x < n) : l.length ≤ n := nodup_lt h.nodup (h.lt hg hx)
theorem Way.last_none {g : Nat → Option Nat} {x : Nat} {l : List Nat} (h : Way g x l) (hl : l ≠ []) : g (l.getLast hl) = none := by
  induction h using Way.ind with
  | last x e => simpa using e
  | next x y l e t ih => rw [List.getLast_cons t.ne]; exact ih t.ne
theorem Way.at_last {g : Nat → Option Nat} {x : Nat} {l : List Nat} (h : Way g x l) {z : Nat} (hz : z ∈ l) (he : g z = none) (hl : l ≠ []) : l.getLast hl = z := by
  induction h using Way.ind with
  | last x e => simp at hz; simp [hz]
  | next x y l e t ih =>
    rcases List.mem_cons.1 hz with rfl | hz
    · rw [e] at he; cases he
    · rw [List.getLast_cons t.ne]; exact ih hz t.ne
/-- What leads further, where the other led nowhere, to what ends. -/
theorem Ends.more {f g : Nat → Option Nat} (h1 : ∀ x y, f x = some y → g x = some y) (h2 : ∀ x y, f x = none → g x = some y → Ends g y) {x : Nat} (h : Ends f x) : Ends g x := by
  obtain ⟨k, hk⟩ := h
  induction k generalizing x with
  | zero => cases hk
  | succ k ih =>
    cases e : f x with
    | none =>
      cases e2 : g x with
      | none => exact ⟨1, by simp [itn, e2]⟩
      | some y => obtain ⟨m, hm⟩ := h2 x y e e2; exact ⟨m + 1, by simp [itn, e2, hm]⟩
    | some y =>
      simp only [itn, e, Option.bind_some] at hk
      obtain ⟨m, hm⟩ := ih hk
      exact ⟨m + 1, by simp [itn, h1 x y e, hm]⟩
/-- What leads less far. -/
theorem Ends.less {f g : Nat → Option Nat} (h1 : ∀ x y, g x = some y → f x = some y) {x : Nat} (h : Ends f x) : Ends g x := by
  obtain ⟨k, hk⟩ := h
  refine ⟨k, ?_⟩
  induction k generalizing x with
  | zero => cases hk
  | succ k ih =>
    cases e : g x with
    | none => simp [itn, e]
    | some y =>
      simp only [itn, h1 x y e, Option.bind_some] at hk
      simp only [itn, e, Option.bind_some]
      exact ih hk
/-- The way of a list that agrees on it. -/
theorem Way.agree {f g : Nat → Option Nat} {x : Nat} {l : List Nat} (h : Way f x l) (he : ∀ z ∈ l, g z = f z) : Way g x l := by
  induction h using Way.ind with
  | last x e => exact .last x (by rw [he x (by simp)]; exact e)
  | next x y l e t ih => exact .next x y l (by rw [he x (by simp)]; exact e) (ih fun z hz => he z (List.mem_cons_of_mem _ hz))
theorem Way.cut {f : Nat → Option Nat} {x : Nat} {l : List Nat} (h : Way f x l) (k : Nat) (hk : k < l.length) : Way f l[k] (l.drop k) := by
  induction h using Way.ind generalizing k with
  | last x e => simp at hk; subst hk; exact .last x e
  | next x y l e t ih =>
    cases k with
    | zero => exact .next x y l e t
    | succ k => simpa using ih k (by simpa using hk)
theorem Way.link {f : Nat → Option Nat} {x : Nat} {l : List Nat} (h : Way f x l) (k : Nat) (hk : k + 1 < l.length) : f l[k] = some l[k + 1] := by
  have h1 := h.reach (k + 1) hk
  rw [it_last, h.reach k (by omega)] at h1
  simpa using h1
/-- The way by at most so many steps. -/
def wayF (g : Nat → Option Nat) : Nat → Nat → List Nat
  | 0, x => [x]
  | k + 1, x => match g x with
    | none => [x]
    | some y => x :: wayF g k y
theorem Way.wayF {g : Nat → Option Nat} {x : Nat} {l : List Nat} (h : Way g x l) : ∀ k, l.length ≤ k + 1 → Go.Proofs.Ytkhcinpcoabphaa.wayF g k x = l := by
  induction h using Way.ind with
  | last x e =>
    intro k _
    cases k with
    | zero => rfl
    | succ k => unfold Go.Proofs.Ytkhcinpcoabphaa.wayF; rw [e]
  | next x y l e t ih =>
    intro k hk
    cases k with
    | zero => simp at hk; exact absurd hk t.ne
    | succ k => unfold Go.Proofs.Ytkhcinpcoabphaa.wayF; rw [e]; show x :: _ = _; rw [ih k (by simpa using hk)]
end Go.Proofs.Ytkhcinpcoabphaa
