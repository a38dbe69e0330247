/- Depend: ties, in the order in which they were made; webs, what leads where, what every web keeps to (plain). -/
import Derived.Test.YtkhcinpcoabphaaDa1
namespace Go.Proofs.Ytkhcinpcoabphaa

structure Ti where
  to : Nat
  made : Nat
  is : Bool
def t0 : Ti := ⟨0, 0, false⟩
def tiA (ts : List Ti) (i : Nat) : Ti := ts.getD i t0
theorem tiA_get {ts : List Ti} {i : Nat} (h : i < ts.length) : tiA ts i = ts[i] := by simp [tiA, List.getD, h]
theorem tiA_out {ts : List Ti} {i : Nat} (h : ts.length ≤ i) : tiA ts i = t0 := by simp [tiA, List.getD, h]
theorem tiA_is {ts : List Ti} {i : Nat} (h : (tiA ts i).is = true) : i < ts.length := by
  by_cases q : i < ts.length
  · exact q
  · rw [tiA_out (by omega)] at h; cases h
theorem tiA_set {ts : List Ti} {c : Nat} (hc : c < ts.length) (x : Ti) (i : Nat) : tiA (ts.set c x) i = if i = c then x else tiA ts i := by
  unfold tiA
  by_cases e : i = c
  · subst e; simp [List.getD, hc]
  · simp [List.getD, e, List.getElem?_set_ne (Ne.symm e)]
def hit (ts : List Ti) (to i : Nat) : Bool := (tiA ts i).is && decide ((tiA ts i).to = to)
theorem hit_iff {ts : List Ti} {to i : Nat} : hit ts to i = true ↔ (tiA ts i).is = true ∧ (tiA ts i).to = to := by simp [hit]
/-- The numbers tied to one, before they are put in order. -/
def hitL (ts : List Ti) (to n : Nat) : List Nat := (List.range n).filter (hit ts to)
theorem hitL_succ (ts : List Ti) (to n : Nat) : hitL ts to (n + 1) = if hit ts to n then hitL ts to n ++ [n] else hitL ts to n := by
  unfold hitL
  rw [List.range_succ, List.filter_append]
  by_cases h : hit ts to n = true
  · rw [if_pos h, List.filter_cons, if_pos h]; rfl
  · rw [if_neg h, List.filter_cons, if_neg h]; simp
theorem hitL_mem {ts : List Ti} {to i : Nat} : i ∈ hitL ts to ts.length ↔ hit ts to i = true := by
  unfold hitL
  rw [List.mem_filter, List.mem_range]
  exact ⟨fun h => h.2, fun h => ⟨tiA_is (hit_iff.1 h).1, h⟩⟩
theorem hitL_nodup (ts : List Ti) (to n : Nat) : (hitL ts to n).Nodup := List.Pairwise.filter _ List.nodup_range
theorem hitL_lt {ts : List Ti} {to n i : Nat} (h : i ∈ hitL ts to n) : i < n := by
  unfold hitL at h
  rw [List.mem_filter, List.mem_range] at h
  exact h.1
theorem hitL_len (ts : List Ti) (to n : Nat) : (hitL ts to n).length ≤ n := nodup_lt (hitL_nodup ts to n) (fun _ h => hitL_lt h)
/-- No two were made at one time. -/
def INJ (ts : List Ti) : Prop := ∀ i j, (tiA ts i).is = true → (tiA ts j).is = true → (tiA ts i).made = (tiA ts j).made → i = j
/-- The numbers tied to one, in the order in which they were. -/
structure TL (ts : List Ti) (to : Nat) (L : List Nat) : Prop where
  mem : ∀ i, i ∈ L ↔ hit ts to i = true
  up : L.Pairwise fun a b => (tiA ts a).made < (tiA ts b).made
theorem TL.nodup {ts : List Ti} {to : Nat} {L : List Nat} (h : TL ts to L) : L.Nodup := h.up.imp fun {a b} hlt e => by subst e; omega
theorem TL.uniq {ts : List Ti} {to : Nat} {L M : List Nat} (h : TL ts to L) (k : TL ts to M) : L = M := by
  have hp : L.Perm M := (List.perm_ext_iff_of_nodup h.nodup k.nodup).2 fun s => by rw [h.mem, k.mem]
  exact List.Perm.eq_of_pairwise (le := fun a b => (tiA ts a).made < (tiA ts b).made) (fun a b _ _ h1 h2 => by omega) h.up k.up hp
theorem TL.of_perm {ts : List Ti} (hi : INJ ts) {to : Nat} {L : List Nat} (hp : L.Perm (hitL ts to ts.length)) (hs : L.Pairwise fun a b => (tiA ts a).made ≤ (tiA ts b).made) : TL ts to L := by
  have hm : ∀ i, i ∈ L ↔ hit ts to i = true := fun i => by rw [hp.mem_iff, hitL_mem]
  refine ⟨hm, ?_⟩
  have hn : L.Nodup := hp.nodup_iff.2 (hitL_nodup _ _ _)
  have h3 := (hs.and hn)
  rw [List.pairwise_iff_getElem] at h3 ⊢
  intro i j hi' hj hij
  obtain ⟨h1, h2⟩ := h3 i j hi' hj hij
  have a := (hit_iff.1 ((hm _).1 (List.getElem_mem hi'))).1
  have b := (hit_iff.1 ((hm _).1 (List.getElem_mem hj))).1
  rcases Nat.lt_or_eq_of_le h1 with e | e
  · exact e
  · exact absurd (hi _ _ a b e) h2
def tl (ts : List Ti) (to : Nat) : List Nat := (hitL ts to ts.length).mergeSort (fun a b => decide ((tiA ts a).made ≤ (tiA ts b).made))
theorem tl_perm (ts : List Ti) (to : Nat) : (tl ts to).Perm (hitL ts to ts.length) := List.mergeSort_perm _ _
theorem tl_len (ts : List Ti) (to : Nat) : (tl ts to).length ≤ ts.length := by rw [(tl_perm ts to).length_eq]; exact hitL_len _ _ _
theorem tl_mem {ts : List Ti} {to i : Nat} : i ∈ tl ts to ↔ (tiA ts i).is = true ∧ (tiA ts i).to = to := by rw [(tl_perm ts to).mem_iff, hitL_mem, hit_iff]
theorem tl_nodup (ts : List Ti) (to : Nat) : (tl ts to).Nodup := (tl_perm ts to).nodup_iff.2 (hitL_nodup _ _ _)
theorem tl_TL {ts : List Ti} (hi : INJ ts) (to : Nat) : TL ts to (tl ts to) := by
  refine TL.of_perm hi (tl_perm ts to) ?_
  have tr : ∀ a b c : Nat, decide ((tiA ts a).made ≤ (tiA ts b).made) = true → decide ((tiA ts b).made ≤ (tiA ts c).made) = true → decide ((tiA ts a).made ≤ (tiA ts c).made) = true := fun a b c h1 h2 => by simp only [decide_eq_true_eq] at *; omega
  have tot : ∀ a b : Nat, (decide ((tiA ts a).made ≤ (tiA ts b).made) || decide ((tiA ts b).made ≤ (tiA ts a).made)) = true := fun a b => by simp only [Bool.or_eq_true, decide_eq_true_eq]; omega
  exact (List.pairwise_mergeSort tr tot _).imp fun h => by simpa using h
theorem tl_eq {ts : List Ti} (hi : INJ ts) {to : Nat} {L : List Nat} (h : TL ts to L) : tl ts to = L := (tl_TL hi to).uniq h
theorem INJ.new {ts : List Ti} (hi : INJ ts) {m c t : Nat} (hc : c < ts.length) (hm : ∀ i, (tiA ts i).is = true → (tiA ts i).made ≤ m) : INJ (ts.set c ⟨t, m + 1, true⟩) := by
  intro i j h1 h2 h3
  rw [tiA_set hc] at h1 h2 h3
  rw [tiA_set hc] at h3
  by_cases e1 : i = c <;> by_cases e2 : j = c
  · omega
  · rw [if_pos e1, if_neg e2] at h3; rw [if_neg e2] at h2
    have := hm j h2; simp only at h3; omega
  · rw [if_neg e1, if_pos e2] at h3; rw [if_neg e1] at h1
    have := hm i h1; simp only at h3; omega
  · rw [if_neg e1, if_neg e2] at h3; rw [if_neg e1] at h1; rw [if_neg e2] at h2
    exact hi i j h1 h2 h3
theorem INJ.clear {ts : List Ti} (hi : INJ ts) {c : Nat} (hc : c < ts.length) : INJ (ts.set c t0) := by
  intro i j h1 h2 h3
  rw [tiA_set hc] at h1 h2 h3
  rw [tiA_set hc] at h3
  by_cases e1 : i = c
  · rw [if_pos e1] at h1; cases h1
  · by_cases e2 : j = c
    · rw [if_pos e2] at h2; cases h2
    · rw [if_neg e1, if_neg e2] at h3; rw [if_neg e1] at h1; rw [if_neg e2] at h2
      exact hi i j h1 h2 h3
theorem tl_new {ts : List Ti} (hi : INJ ts) {m c t : Nat} (hc : c < ts.length) (hm : ∀ i, (tiA ts i).is = true → (tiA ts i).made ≤ m) (hf : (tiA ts c).is = false) (t' : Nat) : tl (ts.set c ⟨t, m + 1, true⟩) t' = if t' = t then tl ts t ++ [c] else tl ts t' := by
  have old : ∀ a b s, a ∈ tl ts s → tiA (ts.set c b) a = tiA ts a := fun a b s ha => by
    rw [tiA_set hc, if_neg]
    intro e; subst e
    rw [(tl_mem.1 ha).1] at hf; cases hf
  refine tl_eq (hi.new hc hm) ?_
  by_cases e : t' = t
  · subst e
    rw [if_pos rfl]
    refine ⟨fun i => ?_, ?_⟩
    · rw [List.mem_append, List.mem_singleton, hit_iff, tiA_set hc, tl_mem]
      by_cases q : i = c
      · subst q; simp
      · rw [if_neg q]; simp [q]
    · rw [List.pairwise_append]
      refine ⟨((tl_TL hi t').up.imp_of_mem fun {a b} ha hb h => by rw [old a _ t' ha, old b _ t' hb]; exact h), by simp, fun a ha b hb => ?_⟩
      rw [List.mem_singleton] at hb
      subst hb
      rw [old a _ t' ha, tiA_set hc, if_pos rfl]
      have := hm a (tl_mem.1 ha).1
      show _ < m + 1
      omega
  · rw [if_neg e]
    refine ⟨fun i => ?_, ?_⟩
    · rw [hit_iff, tiA_set hc, tl_mem]
      by_cases q : i = c
      · subst q; rw [if_pos rfl, hf]; simp; omega
      · rw [if_neg q]
    · exact (tl_TL hi t').up.imp_of_mem fun {a b} ha hb h => by rw [old a _ t' ha, old b _ t' hb]; exact h
theorem tl_clear {ts : List Ti} (hi : INJ ts) {c : Nat} (hc : c < ts.length) (t' : Nat) : tl (ts.set c t0) t' = (tl ts t').filter (fun i => !decide (i = c)) := by
  have old : ∀ a ∈ (tl ts t').filter (fun i => !decide (i = c)), tiA (ts.set c t0) a = tiA ts a := fun a ha => by
    rw [List.mem_filter] at ha
    rw [tiA_set hc, if_neg]
    simpa using ha.2
  refine tl_eq (hi.clear hc) ⟨fun i => ?_, ?_⟩
  · rw [List.mem_filter, hit_iff, tiA_set hc, tl_mem]
    by_cases q : i = c
    · rw [if_pos q]; simp [q, t0]
    · rw [if_neg q]; simp [q]
  · exact ((tl_TL hi t').up.filter _).imp_of_mem fun {a b} ha hb h => by rw [old a ha, old b hb]; exact h
/-- One right above the other. -/
def CO (l : List Nat) (x y : Nat) : Prop := ∃ k, l[k]? = some x ∧ l[k + 1]? = some y
structure Wb where
  runs : List Ti
  waits : List Ti
  made : Nat
def Wb.r (X : Wb) (c : Nat) : Ti := tiA X.runs c
def Wb.w (X : Wb) (t : Nat) : Ti := tiA X.waits t
def stk (X : Wb) (t : Nat) : List Nat := tl X.runs t
def wai (X : Wb) (c : Nat) : List Nat := tl X.waits c
/-- What leads where. -/
def nxt (X : Wb) (c : Nat) : Option Nat :=
  if (X.r c).is then
    (match (stk X (X.r c).to)[(stk X (X.r c).to).idxOf c + 1]? with
     | some d => some d
     | none => if (X.w (X.r c).to).is then some (X.w (X.r c).to).to else none)
  else none
theorem stk_mem {X : Wb} {t c : Nat} : c ∈ stk X t ↔ (X.r c).is = true ∧ (X.r c).to = t := tl_mem
theorem wai_mem {X : Wb} {t c : Nat} : t ∈ wai X c ↔ (X.w t).is = true ∧ (X.w t).to = c := tl_mem
theorem idx_at {l : List Nat} (h : l.Nodup) {k c : Nat} (hk : l[k]? = some c) : l.idxOf c = k := by
  obtain ⟨h1, h2⟩ := List.getElem?_eq_some_iff.1 hk
  subst h2
  exact h.idxOf_getElem k h1
theorem nxt_iff {X : Wb} {c d : Nat} : nxt X c = some d ↔ ∃ t, c ∈ stk X t ∧ (CO (stk X t) c d ∨ ((stk X t).getLast? = some c ∧ (X.w t).is = true ∧ (X.w t).to = d)) := by
  unfold nxt
  by_cases hr : (X.r c).is = true
  · rw [if_pos hr]
    have hm : c ∈ stk X (X.r c).to := stk_mem.2 ⟨hr, rfl⟩
    have hnd : (stk X (X.r c).to).Nodup := tl_nodup _ _
    have hix := List.idxOf_lt_length_iff.2 hm
    have hat : (stk X (X.r c).to)[(stk X (X.r c).to).idxOf c]? = some c := by rw [List.getElem?_eq_getElem hix, List.getElem_idxOf]
    constructor
    · intro h
      refine ⟨_, hm, ?_⟩
      split at h
      · rename_i e he
        injection h with h
        subst h
        exact Or.inl ⟨_, hat, he⟩
      · rename_i he
        rw [List.getElem?_eq_none_iff] at he
        right
        refine ⟨?_, ?_⟩
        · rw [List.getLast?_eq_getElem?, show (stk X (X.r c).to).length - 1 = (stk X (X.r c).to).idxOf c by omega]; exact hat
        · by_cases hw : (X.w (X.r c).to).is = true
          · rw [if_pos hw] at h; injection h with h; exact ⟨hw, h⟩
          · rw [if_neg hw] at h; cases h
    · rintro ⟨t, ht, h⟩
      have e := (stk_mem.1 ht).2
      subst e
      rcases h with ⟨k, h1, h2⟩ | ⟨h1, h2, h3⟩
      · rw [idx_at hnd h1, h2]
      · have hk : (stk X (X.r c).to)[(stk X (X.r c).to).length - 1]? = some c := by rw [← List.getLast?_eq_getElem?]; exact h1
        rw [idx_at hnd hk]
        have : (stk X (X.r c).to)[(stk X (X.r c).to).length - 1 + 1]? = none := by rw [List.getElem?_eq_none_iff]; omega
        rw [this, if_pos h2, h3]
  · rw [if_neg hr]
    constructor
    · intro h; cases h
    · rintro ⟨t, ht, _⟩; exact absurd (stk_mem.1 ht).1 hr
/-- What every web keeps to. -/
structure WI (X : Wb) : Prop where
  lr : X.runs.length = 256
  lw : X.waits.length = 128
  ri : INJ X.runs
  wi : INJ X.waits
  rm : ∀ c, (X.r c).is = true → (X.r c).made ≤ X.made ∧ (X.r c).to < 128
  wm : ∀ t, (X.w t).is = true → (X.w t).made ≤ X.made ∧ (X.w t).to < 256 ∧ (X.r (X.w t).to).is = true
  rz : ∀ c, (X.r c).is = false → X.r c = t0
  wz : ∀ t, (X.w t).is = false → X.w t = t0
  en : ∀ c, Ends (nxt X) c
theorem stk_lt {X : Wb} (h : WI X) {t c : Nat} (hc : c ∈ stk X t) : c < 256 := by have := tiA_is (stk_mem.1 hc).1; rw [h.lr] at this; exact this
theorem wai_lt {X : Wb} (h : WI X) {t c : Nat} (ht : t ∈ wai X c) : t < 128 := by have := tiA_is (wai_mem.1 ht).1; rw [h.lw] at this; exact this
theorem stk_len {X : Wb} (h : WI X) (t : Nat) : (stk X t).length ≤ 256 := by have := tl_len X.runs t; rw [h.lr] at this; exact this
theorem wai_len {X : Wb} (h : WI X) (t : Nat) : (wai X t).length ≤ 128 := by have := tl_len X.waits t; rw [h.lw] at this; exact this
theorem CO.mem {l : List Nat} {x y : Nat} (h : CO l x y) : x ∈ l ∧ y ∈ l := by
  obtain ⟨k, h1, h2⟩ := h
  exact ⟨List.mem_of_getElem? h1, List.mem_of_getElem? h2⟩
theorem nxt_run {X : Wb} (h : WI X) {c d : Nat} (hn : nxt X c = some d) : (X.r d).is = true := by
  obtain ⟨t, ht, e | ⟨_, e1, e2⟩⟩ := nxt_iff.1 hn
  · exact (stk_mem.1 e.mem.2).1
  · rw [← e2]; exact (h.wm t e1).2.2
theorem run_lt {X : Wb} (h : WI X) {c : Nat} (hc : (X.r c).is = true) : c < 256 := by have := tiA_is hc; rw [h.lr] at this; exact this
theorem wait_lt {X : Wb} (h : WI X) {t : Nat} (hc : (X.w t).is = true) : t < 128 := by have := tiA_is hc; rw [h.lw] at this; exact this
theorem nxt_bd {X : Wb} (h : WI X) : BD (nxt X) 256 := fun _ _ _ e => run_lt h (nxt_run h e)
/-- The top of a stack. -/
theorem top_none {X : Wb} {t c : Nat} (ht : (stk X t).getLast? = some c) (hw : (X.w t).is = false) : nxt X c = none := by
  cases e : nxt X c with
  | none => rfl
  | some d =>
    obtain ⟨t', h1, h2⟩ := nxt_iff.1 e
    have hm : c ∈ stk X t := List.mem_of_getLast? ht
    have et : t' = t := by rw [← (stk_mem.1 h1).2, (stk_mem.1 hm).2]
    subst et
    rcases h2 with ⟨k, h3, h4⟩ | ⟨_, h3, _⟩
    · rw [List.getLast?_eq_getElem?] at ht
      have e1 := idx_at (tl_nodup _ _ : (stk X t').Nodup) ht
      have e2 := idx_at (tl_nodup _ _ : (stk X t').Nodup) h3
      have := (List.getElem?_eq_some_iff.1 h4).1
      omega
    · rw [hw] at h3; cases h3
end Go.Proofs.Ytkhcinpcoabphaa
