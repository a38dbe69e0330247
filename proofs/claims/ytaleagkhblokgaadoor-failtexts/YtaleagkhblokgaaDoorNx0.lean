/- Failures: a text of one crack, of a crack with parts; plain. -/
import Derived.Test.YtaleagkhblokgaaDoorLx1
import Derived.Test.YtaleagkhblokgaaDoorKx5
namespace Go.Proofs.YtaleagkhblokgaaDoor
open Go.RowKit

/-- The table's rows with parts. -/
theorem row_parts {k : Int} (h : isK k = true) (hm : (frow k).most ≠ 0) : ((frow k).op.data.toList = [58, 32] ∧ (frow k).bt.data.toList = [] ∧ (frow k).en.data.toList = [] ∧ (frow k).most = 1 ∧ (frow k).text ≠ 0) ∨ ((frow k).op.data.toList = [40] ∧ (frow k).bt.data.toList = [59, 32] ∧ (frow k).en.data.toList = [41] ∧ (frow k).most = 1024 ∧ (frow k).least = 1) := by
  rcases isK_cases h with rfl | rfl | rfl | rfl | rfl | rfl | rfl | rfl | rfl | rfl | rfl
  all_goals first
    | exact absurd (by decide) hm
    | exact Or.inl (by decide)
    | exact Or.inr (by decide)

/-- From the second part on, with what ends the list behind them. -/
theorem rdL_there (f : Nat) (en X : List UInt8) (hen : en = [41]) : ∀ (ps : List Ft) (n b : Nat), ps.length ≤ n → (∀ t ∈ ps, ∀ (b : Nat) (Y : List UInt8), okX Y → b + (flat t).length ≤ 1024 → rdT f (prF t ++ Y) b = some (t, Y, b + (flat t).length)) → b + (flatL ps).length ≤ 1024 →
    rdL (rdT f) [59, 32] n (prL ⟨#[59, 32]⟩ false ps ++ (en ++ X)) b = some (ps, en ++ X, b + (flatL ps).length)
  | [], n, b, _, _, _ => by
    subst hen
    rw [prL, List.nil_append, flatL, List.length_nil, Nat.add_zero]
    cases n with
    | zero => rw [rdL]
    | succ n =>
      rw [rdL]
      have : strip [59, 32] ([41] ++ X) = none := by
        unfold strip Lib.hasPrefix
        rw [if_neg (by simp [List.isPrefixOf])]
      rw [this]
  | t :: r, 0, b, hn, _, _ => by simp at hn
  | t :: r, n + 1, b, hn, hT, hb => by
    rw [flatL, List.length_append] at hb
    have ih := rdL_there f en X hen r n (b + (flat t).length) (by simpa using hn) (fun u hu => hT u (by simp [hu])) (by omega)
    have e : prL ⟨#[59, 32]⟩ false (t :: r) ++ (en ++ X) = [59, 32] ++ (prF t ++ (prL ⟨#[59, 32]⟩ false r ++ (en ++ X))) := by rw [prL]; simp
    rw [rdL, e, strip_app]
    have hY : okX (prL ⟨#[59, 32]⟩ false r ++ (en ++ X)) := by
      subst hen
      cases r with
      | nil => right; right; rw [prL]; rfl
      | cons u v => right; left; rw [prL]; rfl
    simp only [hT t (by simp) b _ hY (by omega), Option.bind_some, ih, Option.map_some, flatL, List.length_append]
    rw [Nat.add_assoc]
mutual
/-- What is told is read as it was. -/
theorem rdT_there : ∀ (t : Ft) (f b : Nat) (X : List UInt8), gd t → okX X → (flat t).length ≤ f → b + (flat t).length ≤ 1024 → rdT f (prF t ++ X) b = some (t, X, b + (flat t).length)
  | .nd k tx ps, 0, b, X, _, _, hf, _ => by have := flat_pos (.nd k tx ps); omega
  | .nd k tx ps, f + 1, b, X, hg, hX, hf, hb => by
    rw [gd] at hg
    obtain ⟨hc, hgs⟩ := hg
    unfold crB at hc
    simp only [Bool.and_eq_true, decide_eq_true_eq] at hc
    obtain ⟨⟨hk, hn1, hn2⟩, ht⟩ := hc
    obtain ⟨r1, r2, r3, r4, r5, r6, r7⟩ := row_facts hk
    rw [flat, List.length_append, List.length_singleton] at hf hb ⊢
    obtain ⟨Z, hZ⟩ : ∃ Z, Z = (if ps.length = 0 then [] else (frow k).op.data.toList ++ (prL (frow k).bt true ps ++ (frow k).en.data.toList)) ++ X := ⟨_, rfl⟩
    have e : prF (.nd k tx ps) ++ X = (frow k).word.data.toList ++ (txtF (frow k).text tx ++ Z) := by rw [prF, hZ]; simp
    have hpt : ptLen Z = 0 := by
      rw [hZ]
      by_cases h0 : ps.length = 0
      · rw [if_pos h0]; exact okX_pt hX
      · rw [if_neg h0]
        rcases row_parts hk (by omega) with ⟨h, _⟩ | ⟨h, _⟩
        · rw [h, List.append_assoc, List.cons_append, ptLen_cons_neg (by decide)]
        · rw [h, List.append_assoc, List.cons_append, ptLen_cons_neg (by decide)]
    have hp1 : ptLen (txtF (frow k).text tx ++ Z) = 0 := by
      unfold txtF
      split
      · exact hpt
      · split
        · rw [List.cons_append, ptLen_cons_neg (by decide)]
        · rw [List.cons_append, ptLen_cons_neg (by decide)]
    have hw := ptLen_all _ _ r2 hp1
    rw [e, rdT, hw, List.take_left, List.drop_left, r1]
    rw [isK_iff] at hk
    rw [if_neg (by omega)]
    rw [← isK_iff] at hk
    rw [rdX_there hk ht Z (Or.inr (Or.inr hpt))]
    simp only [Option.bind_some]
    suffices hP : rdP (rdT f) k Z (b + 1) = some (ps, X, b + 1 + (flatL ps).length) by
      rw [hP]; simp only [Option.map_some]; congr 3; omega
    have IH : ∀ t ∈ ps, ∀ (b : Nat) (Y : List UInt8), okX Y → b + (flat t).length ≤ 1024 → rdT f (prF t ++ Y) b = some (t, Y, b + (flat t).length) := rdL_all ps f hgs (by omega)
    unfold rdP
    cases ps with
    | nil =>
      have hZX : Z = X := by rw [hZ]; simp
      rw [hZX]
      simp only [List.length_nil] at hn1
      rw [if_pos]
      · simp [flatL]
      · by_cases h0 : (frow k).most = 0
        · exact Or.inl h0
        · right
          refine ⟨by omega, ?_⟩
          rcases row_parts hk h0 with ⟨h, _⟩ | ⟨_, _, _, _, h⟩
          · rw [h]
            unfold Lib.hasPrefix
            cases X with
            | nil => rfl
            | cons c r =>
              rcases hX with hX | hX | hX
              · cases hX
              · injection hX with hX; subst hX; simp [List.isPrefixOf]
              · injection hX with hX; subst hX; simp [List.isPrefixOf]
          · omega
    | cons u us =>
      have hm0 : (frow k).most ≠ 0 := by simp at hn2; omega
      have hZ2 : Z = (frow k).op.data.toList ++ (prF u ++ (prL (frow k).bt false us ++ ((frow k).en.data.toList ++ X))) := by
        rw [hZ, if_neg (by simp), prL]; simp
      have hpf : Lib.hasPrefix Z (frow k).op.data.toList = true := by rw [hZ2]; unfold Lib.hasPrefix; simp
      rw [if_neg (by simp [hm0, hpf]), hZ2, strip_app]
      simp only [Option.bind_some]
      rw [flatL, List.length_append] at hb hf ⊢
      rcases row_parts hk hm0 with ⟨_, h2, h3, h4, _⟩ | ⟨_, h2, h3, h4, _⟩
      · have hus : us = [] := by
          rw [h4] at hn2
          simp at hn2
          exact List.length_eq_zero_iff.1 (by omega)
        subst hus
        rw [h2, h3, h4]
        simp only [prL, List.nil_append]
        rw [IH u (by simp) (b + 1) X hX (by omega)]
        simp only [Option.bind_some]
        rw [show (1 : Int).toNat - 1 = 0 from rfl, rdL]
        simp only [Option.bind_some]
        have := strip_app [] X
        rw [List.nil_append] at this
        rw [this]
        simp [flatL]
      · have hbt : (frow k).bt = ⟨#[59, 32]⟩ := bytes_ext (by rw [h2])
        have hY : okX (prL (frow k).bt false us ++ ((frow k).en.data.toList ++ X)) := by
          rw [h3, hbt]
          cases us with
          | nil => right; right; rw [prL]; rfl
          | cons u v => right; left; rw [prL]; rfl
        rw [IH u (by simp) (b + 1) _ hY (by omega)]
        simp only [Option.bind_some]
        rw [h2, h4, hbt]
        rw [h4] at hn2
        have := rdL_there f (frow k).en.data.toList X h3 us ((1024 : Int).toNat - 1) (b + 1 + (flat u).length) (by simp at hn2; show us.length ≤ 1023; omega) (fun t ht => IH t (by simp [ht])) (by omega)
        rw [this]
        simp only [Option.bind_some]
        rw [strip_app]
        simp only [Option.map_some]
        congr 3
        omega
theorem rdL_all : ∀ (ps : List Ft) (f : Nat), gdL ps → (flatL ps).length ≤ f → ∀ t ∈ ps, ∀ (b : Nat) (Y : List UInt8), okX Y → b + (flat t).length ≤ 1024 → rdT f (prF t ++ Y) b = some (t, Y, b + (flat t).length)
  | [], f, _, _, t, ht, _, _, _, _ => by cases ht
  | u :: us, f, hg, hf, t, ht, b, Y, hY, hb => by
    rw [gdL] at hg
    rw [flatL, List.length_append] at hf
    rcases List.mem_cons.1 ht with e | ht
    · rw [e] at hb ⊢; exact rdT_there u f b Y hg.1 hY (by omega) hb
    · exact rdL_all us f hg.2 (by omega) t ht b Y hY hb
end
/-- What is read stood there, and may be told. -/
theorem rdL_back (T : RdT) (bt : ByteArray) (hT : ∀ s b t r b', T s b = some (t, r, b') → s = prF t ++ r ∧ gd t) : ∀ (n : Nat) (s : List UInt8) (b : Nat) (ts : List Ft) (r : List UInt8) (b' : Nat), rdL T bt.data.toList n s b = some (ts, r, b') → s = prL bt false ts ++ r ∧ gdL ts ∧ ts.length ≤ n
  | 0, s, b, ts, r, b', h => by
    rw [rdL] at h
    injection h with h; injection h with h1 h; injection h with h2 _; subst h1 h2
    exact ⟨by simp [prL], by rw [gdL]; trivial, by simp⟩
  | n + 1, s, b, ts, r, b', h => by
    rw [rdL] at h
    split at h
    · injection h with h; injection h with h1 h; injection h with h2 _; subst h1 h2
      exact ⟨by simp [prL], by rw [gdL]; trivial, by simp⟩
    · rename_i z hz
      obtain ⟨x, hx, h⟩ := Option.bind_eq_some_iff.1 h
      obtain ⟨y, hy, h⟩ := Option.map_eq_some_iff.1 h
      obtain ⟨t, r1, b1⟩ := x
      obtain ⟨us, r2, b2⟩ := y
      have h1 := strip_eq hz
      obtain ⟨h2, h3⟩ := hT _ _ _ _ _ hx
      obtain ⟨h4, h5, h6⟩ := rdL_back T bt hT n _ _ _ _ _ hy
      dsimp only at *
      injection h with e1 h; injection h with e2 _
      subst e1 e2
      refine ⟨?_, by rw [gdL]; exact ⟨h3, h5⟩, by simpa using h6⟩
      rw [prL, h1, h2, h4]; simp
theorem rdP_back (T : RdT) {k : Int} (hk : isK k = true) (hT : ∀ s b t r b', T s b = some (t, r, b') → s = prF t ++ r ∧ gd t) {s : List UInt8} {b : Nat} {ts : List Ft} {r : List UInt8} {b' : Nat} (h : rdP T k s b = some (ts, r, b')) :
    s = (if ts.length = 0 then [] else (frow k).op.data.toList ++ (prL (frow k).bt true ts ++ (frow k).en.data.toList)) ++ r ∧ gdL ts ∧ (frow k).least ≤ ts.length ∧ (ts.length : Int) ≤ (frow k).most := by
  obtain ⟨_, _, r3, r4, r5, r6, r7⟩ := row_facts hk
  unfold rdP at h
  split at h
  · rename_i hc
    injection h with h; injection h with h1 h; injection h with h2 _; subst h1 h2
    refine ⟨by simp, by rw [gdL]; trivial, ?_, by simpa using r5⟩
    rcases hc with hc | hc
    · have := r7 hc; simp; omega
    · simp; omega
  · rename_i hc
    obtain ⟨q, hq, h⟩ := Option.bind_eq_some_iff.1 h
    obtain ⟨x, hx, h⟩ := Option.bind_eq_some_iff.1 h
    obtain ⟨y, hy, h⟩ := Option.bind_eq_some_iff.1 h
    obtain ⟨z, hz, h⟩ := Option.map_eq_some_iff.1 h
    obtain ⟨t, r1, b1⟩ := x
    obtain ⟨us, r2, b2⟩ := y
    have h1 := strip_eq hq
    obtain ⟨h2, h3⟩ := hT _ _ _ _ _ hx
    obtain ⟨h4, h5, h6⟩ := rdL_back T _ hT _ _ _ _ _ _ hy
    have h7 := strip_eq hz
    dsimp only at *
    injection h with e1 h; injection h with e2 _
    subst e1 e2
    refine ⟨?_, by rw [gdL]; exact ⟨h3, h5⟩, ?_, ?_⟩
    · rw [if_neg (by simp), prL, h1, h2, h4, h7]; simp
    · simp; omega
    · simp; omega
theorem rdT_back : ∀ (f : Nat) (s : List UInt8) (b : Nat) (t : Ft) (r : List UInt8) (b' : Nat), rdT f s b = some (t, r, b') → s = prF t ++ r ∧ gd t
  | 0, s, b, t, r, b', h => by rw [rdT] at h; cases h
  | f + 1, s, b, t, r, b', h => by
    rw [rdT] at h
    split at h
    · cases h
    · rename_i hc
      obtain ⟨q, hq, h⟩ := Option.bind_eq_some_iff.1 h
      obtain ⟨y, hy, h⟩ := Option.map_eq_some_iff.1 h
      obtain ⟨us, r2, b2⟩ := y
      obtain ⟨tx, s2⟩ := q
      rcases kOf_cases (s.take (ptLen s)) with h0 | ⟨hk, hw⟩
      · exact absurd (Or.inl h0) hc
      · obtain ⟨k, hkk⟩ : ∃ k, k = kOf (s.take (ptLen s)) := ⟨_, rfl⟩
        rw [← hkk] at hq hy h hk hw
        obtain ⟨h1, h2⟩ := rdX_back hk hq
        obtain ⟨h3, h4, h5, h6⟩ := rdP_back (rdT f) hk (rdT_back f) hy
        dsimp only at *
        injection h with e1 h; injection h with e2 _
        subst e1 e2
        refine ⟨?_, ?_⟩
        · have := List.take_append_drop (ptLen s) s
          rw [← hw, h1, h3] at this
          rw [prF, ← this]; simp
        · rw [gd]
          refine ⟨?_, h4⟩
          unfold crB
          simp only [Bool.and_eq_true, decide_eq_true_eq]
          exact ⟨⟨hk, h5, h6⟩, h2⟩
/-- A failure is read of its text. -/
theorem print_parse {l : List Cr} (h : chk l = 0) (hl : (prV l).length ≤ 65536) : psL (prV l) = l ∧ psE (prV l) = 0 := by
  have e : prV l = prF (treeOf l) := by unfold prV; rw [if_pos h]
  have hg : gd (treeOf l) := gd_of _ (by rw [flat_tree h]; exact chk_crB h)
  have hn : (flat (treeOf l)).length ≤ 1024 := by rw [flat_tree h]; exact (chk_ok h).1
  have := rdT_there (treeOf l) 1025 0 [] hg (Or.inl rfl) (by omega) (by omega)
  rw [List.append_nil, ← e] at this
  have hv : psV (prV l) = some (treeOf l) := by unfold psV; rw [this]
  obtain ⟨e1, e2⟩ : psL (prV l) = flat (treeOf l) ∧ psE (prV l) = 0 := by
    unfold psL psE; rw [if_neg (by omega), if_neg (by omega), hv]; exact ⟨rfl, rfl⟩
  exact ⟨by rw [e1, flat_tree h], e2⟩
/-- What is read has that text. -/
theorem parse_print {s : List UInt8} (h : psE s = 0) : chk (psL s) = 0 ∧ prV (psL s) = s := by
  have hs : ¬ 65536 < s.length := fun h0 => by unfold psE at h; rw [if_pos h0] at h; omega
  unfold psE at h
  rw [if_neg hs] at h
  cases hv : psV s with
  | none => rw [hv] at h; simp at h
  | some t =>
    have e1 : psL s = flat t := by unfold psL; rw [if_neg hs, hv]
    unfold psV at hv
    split at hv
    · rename_i t' b' hr
      injection hv with hv
      subst hv
      obtain ⟨h1, h2⟩ := rdT_back _ _ _ _ _ _ hr
      have h3 := rdT_len _ _ _ _ _ _ hr
      have hc := gd_chk h2 (by omega)
      rw [e1]
      refine ⟨hc, ?_⟩
      unfold prV
      rw [if_pos hc, tree_flat, h1]; simp
    · cases hv
theorem parse_none {s : List UInt8} (h : psE s ≠ 0) : psL s = [] := by
  unfold psE at h
  unfold psL
  split
  · rfl
  · rename_i hs
    rw [if_neg hs] at h
    cases hv : psV s with
    | none => rfl
    | some t => rw [hv] at h; simp at h
end Go.Proofs.YtaleagkhblokgaaDoor
namespace Go.Proofs.YtaleagkhblokgaaDoor
theorem pr_leaf (k : Int) (tx : ByteArray) : prF (.nd k tx []) = (frow k).word.data.toList ++ txtF (frow k).text tx := by rw [prF]; simp
theorem pr_node (k : Int) (tx : ByteArray) (ps : List Ft) (h : ps ≠ []) : prF (.nd k tx ps) = (frow k).word.data.toList ++ (txtF (frow k).text tx ++ ((frow k).op.data.toList ++ (prL (frow k).bt true ps ++ (frow k).en.data.toList))) := by
  rw [prF, if_neg (by cases ps with | nil => exact absurd rfl h | cons a b => simp)]
end Go.Proofs.YtaleagkhblokgaaDoor
