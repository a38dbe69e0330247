/- Depend: webs behind the calls (plain). -/
import Derived.Test.YtkhcinpcoabphaaDa2
namespace Go.Proofs.Ytkhcinpcoabphaa

def webO : Wb := ⟨List.replicate 256 t0, List.replicate 128 t0, 0⟩
theorem tiA_rep (n i : Nat) : tiA (List.replicate n t0) i = t0 := by
  by_cases h : i < n
  · rw [tiA_get (by simpa using h)]; simp
  · exact tiA_out (by simpa using h)
theorem webO_ok : WI webO := by
  have hr : ∀ c, webO.r c = t0 := fun c => tiA_rep 256 c
  have hw : ∀ c, webO.w c = t0 := fun c => tiA_rep 128 c
  refine ⟨List.length_replicate, List.length_replicate, fun i j h => ?_, fun i j h => ?_, fun c h => ?_, fun t h => ?_, fun c _ => hr c, fun t _ => hw t, fun c => ⟨1, ?_⟩⟩
  · have := hr i; unfold Wb.r at this; rw [this] at h; cases h
  · have := hw i; unfold Wb.w at this; rw [this] at h; cases h
  · rw [hr] at h; cases h
  · rw [hw] at h; cases h
  · have : nxt webO c = none := by unfold nxt; rw [hr]; rfl
    simp [itn, this]
/-- A cell begun. -/
def begW (X : Wb) (t c : Nat) : Wb := ⟨X.runs.set c ⟨t, X.made + 1, true⟩, X.waits, X.made + 1⟩
/-- A wait. -/
def waiW (X : Wb) (t c : Nat) : Wb := ⟨X.runs, X.waits.set t ⟨c, X.made + 1, true⟩, X.made + 1⟩
/-- A waking. -/
def wakW (X : Wb) (t : Nat) : Wb := ⟨X.runs, X.waits.set t t0, X.made⟩
def wakL (X : Wb) (l : List Nat) : Wb := l.foldl wakW X
/-- The top taken away. -/
def endW (X : Wb) (c : Nat) : Wb := ⟨X.runs.set c t0, X.waits, X.made⟩
theorem begW_stk {X : Wb} (h : WI X) {t c : Nat} (hc : c < 256) (hf : (X.r c).is = false) (t' : Nat) : stk (begW X t c) t' = if t' = t then stk X t ++ [c] else stk X t' :=
  tl_new h.ri (by rw [h.lr]; exact hc) (fun i hi => (h.rm i hi).1) hf t'
theorem begW_r {X : Wb} (h : WI X) {t c : Nat} (hc : c < 256) (i : Nat) : (begW X t c).r i = if i = c then ⟨t, X.made + 1, true⟩ else X.r i := tiA_set (by rw [h.lr]; exact hc) _ i
theorem CO.snoc {l : List Nat} {x y c : Nat} (h : CO l x y) : CO (l ++ [c]) x y := by
  obtain ⟨k, h1, h2⟩ := h
  refine ⟨k, ?_, ?_⟩
  · rw [List.getElem?_append_left (List.getElem?_eq_some_iff.1 h1).1]; exact h1
  · rw [List.getElem?_append_left (List.getElem?_eq_some_iff.1 h2).1]; exact h2
theorem CO.of_snoc {l : List Nat} {x y c : Nat} (h : CO (l ++ [c]) x y) : CO l x y ∨ (l.getLast? = some x ∧ y = c) := by
  obtain ⟨k, h1, h2⟩ := h
  have hk := (List.getElem?_eq_some_iff.1 h2).1
  simp at hk
  rcases Nat.lt_or_eq_of_le hk with e | e
  · left
    refine ⟨k, ?_, ?_⟩
    · rw [List.getElem?_append_left (by omega)] at h1; exact h1
    · rw [List.getElem?_append_left (by omega)] at h2; exact h2
  · right
    rw [List.getElem?_append_left (by omega)] at h1
    rw [List.getElem?_append_right (by omega), show k + 1 - l.length = 0 by omega] at h2
    refine ⟨?_, by simpa using h2.symm⟩
    rw [List.getLast?_eq_getElem?, show l.length - 1 = k by omega]; exact h1
theorem begW_ok {X : Wb} (h : WI X) {t c : Nat} (ht : t < 128) (hc : c < 256) (hw : (X.w t).is = false) (hf : (X.r c).is = false) : WI (begW X t c) := by
  have hr := begW_r h (t := t) hc
  have hs := begW_stk h (t := t) hc hf
  have hww : ∀ i, (begW X t c).w i = X.w i := fun i => rfl
  refine ⟨by simp [begW, h.lr], h.lw, h.ri.new (by rw [h.lr]; exact hc) (fun i hi => (h.rm i hi).1), h.wi, fun i hi => ?_, fun i hi => ?_, fun i hi => ?_, fun i hi => h.wz i hi, fun x => ?_⟩
  · rw [hr] at hi ⊢
    by_cases e : i = c
    · rw [if_pos e]; exact ⟨Nat.le_refl _, ht⟩
    · rw [if_neg e] at hi ⊢; have := h.rm i hi; exact ⟨Nat.le_succ_of_le this.1, this.2⟩
  · rw [hww] at hi ⊢
    have := h.wm i hi
    refine ⟨Nat.le_succ_of_le this.1, this.2.1, ?_⟩
    rw [hr]
    split
    · rfl
    · exact this.2.2
  · rw [hr] at hi ⊢
    by_cases e : i = c
    · rw [if_pos e] at hi; cases hi
    · rw [if_neg e] at hi ⊢; exact h.rz i hi
  · have ctop : nxt (begW X t c) c = none := top_none (t := t) (by rw [hs, if_pos rfl]; simp) (by rw [hww]; exact hw)
    refine Ends.more (f := nxt X) (fun x y hxy => ?_) (fun x y hn hxy => ?_) (h.en x)
    · obtain ⟨t', h1, h2⟩ := nxt_iff.1 hxy
      refine nxt_iff.2 ⟨t', ?_, ?_⟩
      · rw [hs]; split
        · rename_i e; subst e; exact List.mem_append_left _ h1
        · exact h1
      · rcases h2 with h2 | ⟨h2, h3, h4⟩
        · left; rw [hs]; split
          · rename_i e; subst e; exact h2.snoc
          · exact h2
        · right
          have : t' ≠ t := fun e => by subst e; rw [hw] at h3; cases h3
          rw [hs, if_neg this]
          exact ⟨h2, h3, h4⟩
    · obtain ⟨t', h1, h2⟩ := nxt_iff.1 hxy
      have hy : y = c := by
        refine Classical.byContradiction fun hyc => ?_
        have : nxt X x = some y := by
          by_cases e : t' = t
          · subst e
            rw [hs, if_pos rfl] at h1 h2
            rcases h2 with h2 | ⟨h2, h3, h4⟩
            · rcases h2.of_snoc with h2 | ⟨_, h2⟩
              · exact nxt_iff.2 ⟨t', h2.mem.1, Or.inl h2⟩
              · exact absurd h2 hyc
            · rw [hww, hw] at h3; cases h3
          · rw [hs, if_neg e] at h1 h2
            exact nxt_iff.2 ⟨t', h1, h2⟩
        rw [hn] at this; cases this
      subst hy
      exact ⟨1, by simp [itn, ctop]⟩
/-- The circle of a task and a cell. -/
structure Cir (X : Wb) (t c : Nat) (l : List Nat) : Prop where
  way : Way (nxt X) c l
  top : (stk X t).getLast? = l.getLast?
theorem waiW_w {X : Wb} (h : WI X) {t c : Nat} (ht : t < 128) (i : Nat) : (waiW X t c).w i = if i = t then ⟨c, X.made + 1, true⟩ else X.w i := tiA_set (by rw [h.lw]; exact ht) _ i
theorem waiW_wai {X : Wb} (h : WI X) {t c : Nat} (ht : t < 128) (hw : (X.w t).is = false) (c' : Nat) : wai (waiW X t c) c' = if c' = c then wai X c ++ [t] else wai X c' :=
  tl_new h.wi (by rw [h.lw]; exact ht) (fun i hi => (h.wm i hi).1) hw c'
theorem waiW_nxt {X : Wb} (h : WI X) {t c x : Nat} (ht : t < 128) (hx : (stk X t).getLast? ≠ some x) : nxt (waiW X t c) x = nxt X x := by
  have hs : ∀ t', stk (waiW X t c) t' = stk X t' := fun _ => rfl
  have key : ∀ y, nxt (waiW X t c) x = some y ↔ nxt X x = some y := fun y => by
    rw [nxt_iff, nxt_iff]
    refine exists_congr fun t' => ?_
    rw [hs, waiW_w h ht]
    by_cases e : t' = t
    · subst e; simp [hx]
    · rw [if_neg e]
  cases e : nxt X x with
  | some y => exact (key y).2 e
  | none =>
    cases e2 : nxt (waiW X t c) x with
    | none => rfl
    | some y => rw [(key y).1 e2] at e; cases e
theorem waiW_ok {X : Wb} (h : WI X) {t c : Nat} (ht : t < 128) (hw : (X.w t).is = false) (hf : (X.r c).is = true) (hn : ¬ ∃ l, Cir X t c l) : WI (waiW X t c) := by
  have hc := run_lt h hf
  have hr := waiW_w h (c := c) ht
  have hs : ∀ t', stk (waiW X t c) t' = stk X t' := fun _ => rfl
  refine ⟨h.lr, by simp [waiW, h.lw], h.ri, h.wi.new (by rw [h.lw]; exact ht) (fun i hi => (h.wm i hi).1), fun i hi => ?_, fun i hi => ?_, fun i hi => h.rz i hi, fun i hi => ?_, fun x => ?_⟩
  · have := h.rm i hi; exact ⟨Nat.le_succ_of_le this.1, this.2⟩
  · rw [hr] at hi ⊢
    by_cases e : i = t
    · rw [if_pos e]; exact ⟨Nat.le_refl _, hc, hf⟩
    · rw [if_neg e] at hi ⊢; have := h.wm i hi; exact ⟨Nat.le_succ_of_le this.1, this.2.1, this.2.2⟩
  · rw [hr] at hi ⊢
    by_cases e : i = t
    · rw [if_pos e] at hi; cases hi
    · rw [if_neg e] at hi ⊢; exact h.wz i hi
  · refine Ends.more (f := nxt X) (fun x y hxy => ?_) (fun x y hn2 hxy => ?_) (h.en x)
    · rw [waiW_nxt h ht]
      · exact hxy
      · intro e
        rw [top_none e hw] at hxy; cases hxy
    · by_cases e : (stk X t).getLast? = some x
      · obtain ⟨l, hl⟩ := (h.en c).way
        have ey : y = c := by
          obtain ⟨t', h1, h2⟩ := nxt_iff.1 hxy
          rw [hs] at h1 h2
          have et : t' = t := by rw [← (stk_mem.1 h1).2, (stk_mem.1 (List.mem_of_getLast? e)).2]
          subst et
          rcases h2 with h2 | ⟨_, _, h4⟩
          · rw [nxt_iff.2 ⟨t', h1, Or.inl h2⟩] at hn2; cases hn2
          · rw [hr, if_pos rfl] at h4; exact h4.symm
        subst ey
        refine (hl.agree (g := nxt (waiW X t y)) fun z hz => waiW_nxt h ht fun ez => ?_).ends
        have hlast := hl.at_last hz (top_none ez hw) hl.ne
        exact hn ⟨l, hl, by rw [ez, List.getLast?_eq_some_getLast hl.ne, hlast]⟩
      · rw [waiW_nxt h ht e, hn2] at hxy; cases hxy
theorem wakW_w {X : Wb} (h : WI X) {t : Nat} (ht : t < 128) (i : Nat) : (wakW X t).w i = if i = t then t0 else X.w i := tiA_set (by rw [h.lw]; exact ht) _ i
theorem wakW_wai {X : Wb} (h : WI X) {t : Nat} (ht : t < 128) (c : Nat) : wai (wakW X t) c = (wai X c).filter (fun i => !decide (i = t)) := tl_clear h.wi (by rw [h.lw]; exact ht) c
theorem wakW_ok {X : Wb} (h : WI X) {t : Nat} (ht : t < 128) : WI (wakW X t) := by
  have hr := wakW_w h ht
  have hs : ∀ t', stk (wakW X t) t' = stk X t' := fun _ => rfl
  refine ⟨h.lr, by simp [wakW, h.lw], h.ri, h.wi.clear (by rw [h.lw]; exact ht), fun i hi => h.rm i hi, fun i hi => ?_, fun i hi => h.rz i hi, fun i hi => ?_, fun x => ?_⟩
  · rw [hr] at hi ⊢
    by_cases e : i = t
    · rw [if_pos e] at hi; cases hi
    · rw [if_neg e] at hi ⊢; exact h.wm i hi
  · rw [hr] at hi ⊢
    by_cases e : i = t
    · rw [if_pos e]
    · rw [if_neg e] at hi ⊢; exact h.wz i hi
  · refine Ends.less (f := nxt X) (fun x y hxy => ?_) (h.en x)
    obtain ⟨t', h1, h2⟩ := nxt_iff.1 hxy
    rw [hs] at h1 h2
    refine nxt_iff.2 ⟨t', h1, ?_⟩
    rcases h2 with h2 | ⟨h2, h3, h4⟩
    · exact Or.inl h2
    · rw [hr] at h3 h4
      by_cases e : t' = t
      · rw [if_pos e] at h3; cases h3
      · rw [if_neg e] at h3 h4; exact Or.inr ⟨h2, h3, h4⟩
theorem wakL_ok {X : Wb} (h : WI X) : ∀ {l : List Nat}, (∀ i ∈ l, i < 128) → WI (wakL X l) ∧ (∀ i, (wakL X l).w i = if i ∈ l then t0 else X.w i) ∧ (wakL X l).runs = X.runs ∧ (wakL X l).made = X.made := by
  intro l
  induction l generalizing X with
  | nil => intro _; exact ⟨h, fun i => by simp [wakL], rfl, rfl⟩
  | cons a l ih =>
    intro hl
    obtain ⟨h1, h2, h3, h4⟩ := ih (wakW_ok h (hl a (by simp))) (fun i hi => hl i (List.mem_cons_of_mem _ hi))
    refine ⟨h1, fun i => ?_, h3, h4⟩
    show (wakL (wakW X a) l).w i = _
    rw [h2, wakW_w h (hl a (by simp))]
    by_cases e1 : i ∈ l
    · rw [if_pos e1, if_pos (List.mem_cons_of_mem _ e1)]
    · by_cases e2 : i = a
      · rw [if_neg e1, if_pos e2, if_pos (by simp [e2])]
      · rw [if_neg e1, if_neg e2, if_neg (by simp [e1, e2])]
theorem endW_r {X : Wb} (h : WI X) {c : Nat} (hc : c < 256) (i : Nat) : (endW X c).r i = if i = c then t0 else X.r i := tiA_set (by rw [h.lr]; exact hc) _ i
theorem endW_stk {X : Wb} (h : WI X) {c : Nat} (hc : c < 256) (t : Nat) : stk (endW X c) t = (stk X t).filter (fun i => !decide (i = c)) := tl_clear h.ri (by rw [h.lr]; exact hc) t
theorem filter_ne {l : List Nat} {c : Nat} (h : c ∉ l) : l.filter (fun i => !decide (i = c)) = l := List.filter_eq_self.2 fun a ha => by
  have : a ≠ c := fun e => h (e ▸ ha)
  simp [this]
theorem filter_last {l : List Nat} (hd : l.Nodup) {c : Nat} (h : l.getLast? = some c) : l.filter (fun i => !decide (i = c)) = l.dropLast := by
  have hne : l ≠ [] := fun e => by subst e; cases h
  have e := List.dropLast_concat_getLast hne
  have hc : l.getLast hne = c := by rw [List.getLast?_eq_some_getLast hne] at h; injection h
  rw [hc] at e
  have hn : c ∉ l.dropLast := fun hm => by
    rw [← e] at hd
    rw [List.nodup_append] at hd
    exact hd.2.2 c hm c (by simp) rfl
  conv => lhs; rw [← e]
  rw [List.filter_append, filter_ne hn]
  simp
theorem endW_stk2 {X : Wb} (h : WI X) {t c : Nat} (ht : (stk X t).getLast? = some c) (t' : Nat) : stk (endW X c) t' = if t' = t then (stk X t).dropLast else stk X t' := by
  have hm := List.mem_of_getLast? ht
  rw [endW_stk h (stk_lt h hm)]
  by_cases e : t' = t
  · subst e; rw [if_pos rfl]; exact filter_last (tl_nodup _ _) ht
  · rw [if_neg e]
    exact filter_ne fun hm2 => e (by rw [← (stk_mem.1 hm2).2, (stk_mem.1 hm).2])
theorem CO.of_drop {l : List Nat} {x y : Nat} (h : CO l.dropLast x y) : CO l x y := by
  obtain ⟨k, h1, h2⟩ := h
  have a := (List.getElem?_eq_some_iff.1 h1)
  have b := (List.getElem?_eq_some_iff.1 h2)
  obtain ⟨a1, a2⟩ := a
  obtain ⟨b1, b2⟩ := b
  rw [List.getElem_dropLast] at a2 b2
  simp at a1 b1
  exact ⟨k, List.getElem?_eq_some_iff.2 ⟨by omega, a2⟩, List.getElem?_eq_some_iff.2 ⟨by omega, b2⟩⟩
theorem endW_ok {X : Wb} (h : WI X) {t c : Nat} (hw : (X.w t).is = false) (ht : (stk X t).getLast? = some c) (hn : ∀ i, (X.w i).is = true → (X.w i).to ≠ c) : WI (endW X c) := by
  have hm := List.mem_of_getLast? ht
  have hc := stk_lt h hm
  have hr := endW_r h hc
  have hs := endW_stk2 h ht
  have hww : ∀ i, (endW X c).w i = X.w i := fun i => rfl
  refine ⟨by simp [endW, h.lr], h.lw, h.ri.clear (by rw [h.lr]; exact hc), h.wi, fun i hi => ?_, fun i hi => ?_, fun i hi => ?_, fun i hi => h.wz i hi, fun x => ?_⟩
  · rw [hr] at hi ⊢
    by_cases e : i = c
    · rw [if_pos e] at hi; cases hi
    · rw [if_neg e] at hi ⊢; exact h.rm i hi
  · rw [hww] at hi ⊢
    have := h.wm i hi
    refine ⟨this.1, this.2.1, ?_⟩
    rw [hr, if_neg (hn i hi)]; exact this.2.2
  · rw [hr] at hi ⊢
    by_cases e : i = c
    · rw [if_pos e]
    · rw [if_neg e] at hi ⊢; exact h.rz i hi
  · refine Ends.less (f := nxt X) (fun x y hxy => ?_) (h.en x)
    obtain ⟨t', h1, h2⟩ := nxt_iff.1 hxy
    rw [hs] at h1 h2
    by_cases e : t' = t
    · subst e
      rw [if_pos rfl] at h1 h2
      rcases h2 with h2 | ⟨h2, h3, h4⟩
      · exact nxt_iff.2 ⟨t', List.dropLast_subset _ h1, Or.inl h2.of_drop⟩
      · rw [hww, hw] at h3; cases h3
    · rw [if_neg e] at h1 h2
      exact nxt_iff.2 ⟨t', h1, h2⟩
/-- End, whole. -/
theorem end_ok {X : Wb} (h : WI X) {t c : Nat} (hw : (X.w t).is = false) (ht : (stk X t).getLast? = some c) : WI (endW (wakL X (wai X c)) c) := by
  obtain ⟨h1, h2, h3, _⟩ := wakL_ok h (l := wai X c) (fun i hi => wai_lt h hi)
  have hs : ∀ t', stk (wakL X (wai X c)) t' = stk X t' := fun t' => by unfold stk; rw [h3]
  refine endW_ok h1 (t := t) ?_ (by rw [hs]; exact ht) (fun i hi => ?_)
  · rw [h2]; split
    · rfl
    · exact hw
  · rw [h2] at hi ⊢
    by_cases e : i ∈ wai X c
    · rw [if_pos e] at hi; cases hi
    · rw [if_neg e] at hi ⊢
      exact fun q => e (wai_mem.2 ⟨hi, q⟩)
end Go.Proofs.Ytkhcinpcoabphaa
