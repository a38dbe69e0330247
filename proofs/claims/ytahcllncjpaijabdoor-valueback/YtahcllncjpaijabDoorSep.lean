/- Plain mathematics: a token is told by its own bytes and the one behind them; blank may stand between any two. No condition. -/
import Derived.Test.YtahcllncjpaijabDoorTake
namespace Go.Proofs.YtahcllncjpaijabDoor.L1

theorem ptLen_app : ∀ (l Y : List UInt8), ptLen l < l.length → ptLen (l ++ Y) = ptLen l
  | [], Y, h => by simp [ptLen] at h
  | c :: r, Y, h => by
    rw [List.cons_append]
    simp only [ptLen] at h ⊢
    split
    · rename_i hc
      rw [if_pos hc] at h
      have := ptLen_app r Y (by simpa using h)
      omega
    · rfl
theorem wLen_app (l Y : List UInt8) (h : wLen l < l.length) : wLen (l ++ Y) = wLen l := by
  match l, h with
  | c :: r, h =>
    rw [List.cons_append]
    simp only [wLen] at h ⊢
    split
    · rename_i hc
      rw [if_pos hc] at h
      have := ptLen_app r Y (by simpa using h)
      omega
    · rfl
theorem dLen_app : ∀ (l Y : List UInt8), dLen l < l.length → dLen (l ++ Y) = dLen l
  | [], Y, h => by simp [dLen] at h
  | c :: r, Y, h => by
    rw [List.cons_append]
    simp only [dLen] at h ⊢
    split
    · rename_i hc
      rw [if_pos hc] at h
      have := dLen_app r Y (by simpa using h)
      omega
    · rfl
theorem ptLen_sep : ∀ (l : List UInt8) (s : UInt8), isPt s = false → ptLen (l ++ [s]) = ptLen l
  | [], s, h => by simp [ptLen, h]
  | c :: r, s, h => by
    rw [List.cons_append]
    simp only [ptLen]
    rw [ptLen_sep r s h]
theorem wLen_sep (l : List UInt8) (s : UInt8) (h : isPt s = false) : wLen (l ++ [s]) = wLen l := by
  match l with
  | [] =>
    have : isSm s = false := by
      cases e : isSm s with
      | false => rfl
      | true => rw [isSm_pt e] at h; cases h
    simp [wLen, this]
  | c :: r =>
    rw [List.cons_append]
    simp only [wLen]
    rw [ptLen_sep r s h]
theorem dLen_sep : ∀ (l : List UInt8) (s : UInt8), isDg s = false → dLen (l ++ [s]) = dLen l
  | [], s, h => by simp [dLen, h]
  | c :: r, s, h => by
    rw [List.cons_append]
    simp only [dLen]
    rw [dLen_sep r s h]
theorem ub_app {l : List UInt8} {b : UInt8} {n : Nat} (Y : List UInt8) (h : ub l = some (b, n)) : ub (l ++ Y) = some (b, n) := by
  match l, h with
  | c :: r, h =>
    rw [List.cons_append]
    simp only [ub] at h ⊢
    by_cases hp : plU c = true
    · rw [if_pos hp] at h ⊢; exact h
    · rw [if_neg hp] at h ⊢
      by_cases h92 : c ≠ 92
      · rw [if_pos h92] at h; cases h
      · rw [if_neg h92] at h ⊢
        match r, h with
        | d :: r2, h =>
          rw [List.cons_append]
          simp only at h ⊢
          by_cases hd : d = 34 ∨ d = 92
          · rw [if_pos hd] at h ⊢; exact h
          · rw [if_neg hd] at h ⊢
            by_cases hn' : d = 110
            · rw [if_pos hn'] at h ⊢; exact h
            · rw [if_neg hn'] at h ⊢
              by_cases hx : d = 120
              · rw [if_pos hx] at h ⊢
                match r2, h with
                | e :: f :: r3, h => exact h
                | [], h => simp at h
                | [_], h => simp at h
              · rw [if_neg hx] at h; cases h
        | [], h => simp at h
  | [], h => simp [ub] at h
theorem uq_app : ∀ (l : List UInt8) (Y : List UInt8) (t : List UInt8) (m : Nat), uq l = some (t, m) → uq (l ++ Y) = some (t, m)
  | [], Y, t, m, h => by rw [uq_nil] at h; cases h
  | c :: r, Y, t, m, h => by
    by_cases hc : c = 34
    · subst hc; rw [uq_quote] at h; rw [List.cons_append, uq_quote]; exact h
    · cases hu : ub (c :: r) with
      | none => rw [uq_none hc hu] at h; cases h
      | some x =>
        obtain ⟨b, n⟩ := x
        have hn := ub_len _ _ _ hu
        rw [uq_some hc hu, Option.map_eq_some_iff] at h
        obtain ⟨⟨t2, m2⟩, h2, h3⟩ := h
        simp only [Prod.mk.injEq] at h3
        have hu2 := ub_app Y hu
        have ih := uq_app ((c :: r).drop n) Y t2 m2 h2
        rw [List.cons_append] at hu2 ⊢
        rw [uq_some hc hu2, Option.map_eq_some_iff]
        refine ⟨(t2, m2), ?_, by simp only [Prod.mk.injEq]; exact h3⟩
        rw [← List.cons_append, List.drop_append_of_le_length hn.2]; exact ih
termination_by l => l.length
decreasing_by
  rw [List.length_drop]; have := (ub_len _ _ _ hu).1; simp only [List.length_cons]; omega
theorem hasPre_app {l Y x : List UInt8} (h : x.length ≤ l.length) : Lib.hasPrefix (l ++ Y) x = Lib.hasPrefix l x := by
  unfold Lib.hasPrefix
  rw [Bool.eq_iff_iff, List.isPrefixOf_iff_prefix, List.isPrefixOf_iff_prefix]
  constructor
  · intro h1
    have h2 : l <+: l ++ Y := List.prefix_append l Y
    exact List.prefix_of_prefix_length_le h1 h2 h
  · intro h1; exact h1.trans (List.prefix_append l Y)
theorem hasPre_sep {l x : List UInt8} {s : UInt8} (h : s ∉ x) : Lib.hasPrefix (l ++ [s]) x = Lib.hasPrefix l x := by
  unfold Lib.hasPrefix
  rw [Bool.eq_iff_iff, List.isPrefixOf_iff_prefix, List.isPrefixOf_iff_prefix]
  constructor
  · intro h1
    rcases List.prefix_concat_iff.1 h1 with h2 | h2
    · exfalso; apply h; rw [h2]; simp
    · exact h2
  · intro h1; exact h1.trans (List.prefix_append l [s])
theorem find_same {α : Type} {p q : α → Bool} : ∀ (l : List α), (∀ x ∈ l, p x = q x) → l.find? p = l.find? q
  | [], _ => rfl
  | x :: r, h => by
    rw [List.find?_cons, List.find?_cons, h x (by simp), find_same r (fun y hy => h y (by simp [hy]))]
/-- A byte of blank, or the one that a comment begins with. -/
def sepB (c : UInt8) : Prop := (c.toNat : Int) = 10 ∨ (c.toNat : Int) = 9 ∨ (c.toNat : Int) = 13 ∨ (c.toNat : Int) = 32 ∨ (c.toNat : Int) = 35
theorem sepB_pt {c : UInt8} (h : sepB c) : isPt c = false := by
  apply isPt_f; unfold sepB at h; omega
theorem sepB_dg {c : UInt8} (h : sepB c) : isDg c = false := by
  simp only [isDg, decide_eq_false_iff_not]; unfold sepB at h; omega
theorem sepB_mk {c : UInt8} (h : sepB c) : ∀ x ∈ mk, c ∉ x.data.toList := by
  have h0 : ∀ x ∈ mk, ∀ d ∈ x.data.toList, 36 ≤ d.toNat := by decide
  intro x hx hc
  have := h0 x hx c hc
  unfold sepB at h; omega
/-- Of what lies behind a token only one byte matters. -/
theorem rt_peek {l : List UInt8} (Y : List UInt8) (h : (rt l).code = 0) (hl : (rt l).len < l.length) : rt (l ++ Y) = rt l := by
  match l, h, hl with
  | c :: r, h, hl =>
    have e0 : (c :: r) ++ Y = c :: (r ++ Y) := rfl
    simp only [rt] at h hl ⊢
    rw [e0]; simp only
    by_cases h36 : (c.toNat : Int) = 36
    · rw [if_pos h36] at h hl ⊢
      rw [if_pos h36]
      unfold rw' at h hl ⊢
      split at h
      · simp [RT.bad] at h
      · split at h
        · simp [RT.bad] at h
        · rename_i a b
          rw [if_neg a, if_neg b] at hl ⊢
          simp at hl
          rw [wLen_app r Y hl, if_neg a, if_neg b, List.take_append_of_le_length (by omega)]
    · rw [if_neg h36] at h hl ⊢
      rw [if_neg h36]
      by_cases hs : isSm c = true
      · rw [if_pos hs] at h hl ⊢
        rw [if_pos hs]
        unfold rw' at h hl ⊢
        split at h
        · simp [RT.bad] at h
        · split at h
          · simp [RT.bad] at h
          · rename_i a b
            rw [if_neg a, if_neg b] at hl ⊢
            have hl' : wLen (c :: r) < (c :: r).length := by simpa using hl
            rw [← e0, wLen_app (c :: r) Y hl', if_neg a, if_neg b, List.take_append_of_le_length (by omega)]
      · rw [if_neg hs] at h hl ⊢
        rw [if_neg hs]
        by_cases hd : isDg c = true
        · rw [if_pos hd] at h hl ⊢
          rw [if_pos hd]
          unfold rn at h hl ⊢
          split at h
          · rename_i hb
            rw [if_pos hb] at hl ⊢
            have hl' : dLen (c :: r) < (c :: r).length := by simpa using hl
            rw [← e0, dLen_app (c :: r) Y hl', List.take_append_of_le_length (by omega), if_pos hb]
          · simp [RT.bad] at h
        · rw [if_neg hd] at h hl ⊢
          rw [if_neg hd]
          by_cases hq : (c.toNat : Int) = 34
          · rw [if_pos hq] at h hl ⊢
            rw [if_pos hq]
            unfold rq at h hl ⊢
            rw [List.drop_one, List.tail_cons] at h hl ⊢
            rw [List.drop_one, List.tail_cons]
            cases hu : uq r with
            | none => rw [hu] at h; simp [RT.bad] at h
            | some x =>
              obtain ⟨t, m⟩ := x
              rw [uq_app r Y t m hu]
          · rw [if_neg hq] at h hl ⊢
            rw [if_neg hq]
            unfold rm rmOf at h hl ⊢
            have hm1 : ∀ x ∈ mk, 1 ≤ x.size ∧ x.data.toList.length ≤ 2 := by decide
            cases hf : mk.find? fun m => Lib.hasPrefix (c :: r) m.data.toList with
            | none => rw [hf] at h; simp [RT.bad] at h
            | some m =>
              rw [hf] at hl
              simp only at hl
              have h1 := (hm1 m (List.mem_of_find?_eq_some hf)).1
              have e : (mk.find? fun m => Lib.hasPrefix (c :: (r ++ Y)) m.data.toList) = some m := by
                rw [← hf]
                apply find_same
                intro x hx
                have := (hm1 x hx).2
                rw [← e0]
                exact hasPre_app (by omega)
              rw [e]
  | [], h, hl => simp at hl
/-- Blank behind a token changes nothing. -/
theorem rt_blank {l : List UInt8} {s : UInt8} (hs' : sepB s) (h : (rt l).code = 0) (hn : l ≠ []) : rt (l ++ [s]) = rt l := by
  match l, h, hn with
  | c :: r, h, _ =>
    have e0 : (c :: r) ++ [s] = c :: (r ++ [s]) := rfl
    simp only [rt] at h ⊢
    rw [e0]; simp only
    by_cases h36 : (c.toNat : Int) = 36
    · rw [if_pos h36] at h ⊢
      rw [if_pos h36]
      unfold rw' at h ⊢
      have := wLen_le r
      rw [wLen_sep r s (sepB_pt hs'), List.take_append_of_le_length (by omega)]
    · rw [if_neg h36] at h ⊢
      rw [if_neg h36]
      by_cases hs : isSm c = true
      · rw [if_pos hs] at h ⊢
        rw [if_pos hs]
        unfold rw' at h ⊢
        have := wLen_le (c :: r)
        rw [← e0, wLen_sep (c :: r) s (sepB_pt hs'), List.take_append_of_le_length (by omega)]
      · rw [if_neg hs] at h ⊢
        rw [if_neg hs]
        by_cases hd : isDg c = true
        · rw [if_pos hd] at h ⊢
          rw [if_pos hd]
          unfold rn at h ⊢
          have := dLen_le (c :: r)
          rw [← e0, dLen_sep (c :: r) s (sepB_dg hs'), List.take_append_of_le_length (by omega)]
        · rw [if_neg hd] at h ⊢
          rw [if_neg hd]
          by_cases hq : (c.toNat : Int) = 34
          · rw [if_pos hq] at h ⊢
            rw [if_pos hq]
            unfold rq at h ⊢
            rw [List.drop_one, List.tail_cons] at h ⊢
            rw [List.drop_one, List.tail_cons]
            cases hu : uq r with
            | none => rw [hu] at h; simp [RT.bad] at h
            | some x =>
              obtain ⟨t, m⟩ := x
              rw [uq_app r [s] t m hu]
          · rw [if_neg hq] at h ⊢
            rw [if_neg hq]
            unfold rm rmOf at h ⊢
            have e : (mk.find? fun m => Lib.hasPrefix (c :: (r ++ [s])) m.data.toList) = mk.find? fun m => Lib.hasPrefix (c :: r) m.data.toList := by
              apply find_same
              intro x hx
              rw [← e0]
              exact hasPre_sep (sepB_mk hs' x hx)
            rw [e]
theorem rt_blank_app {t : List UInt8} {s : UInt8} (Y : List UInt8) (hs : sepB s) (h : (rt t).code = 0) (hn : t ≠ []) (hl : (rt t).len = t.length) : rt (t ++ s :: Y) = rt t := by
  have h1 := rt_blank hs h hn
  have h2 : rt ((t ++ [s]) ++ Y) = rt (t ++ [s]) := rt_peek Y (by rw [h1]; exact h) (by rw [h1, hl]; simp)
  rw [List.append_assoc] at h2
  rw [show t ++ s :: Y = t ++ ([s] ++ Y) from rfl, h2, h1]
/-- The token of a text is told by its own bytes and the one behind them. -/
theorem rt_same {l Y : List UInt8} {x : UInt8} (hn : l ≠ []) (h : (rt l).code = 0) (hx : (l.drop (rt l).len).head? = some x) : rt (l.take (rt l).len ++ x :: Y) = rt l := by
  have hlt : (rt l).len < l.length := by
    by_cases hh : (rt l).len < l.length
    · exact hh
    · rw [List.drop_eq_nil_iff.2 (by omega)] at hx; cases hx
  have e1 : l.take ((rt l).len + 1) = l.take (rt l).len ++ [x] := by
    rw [List.take_succ_eq_append_getElem hlt]
    rw [List.drop_eq_getElem_cons hlt, List.head?_cons] at hx
    cases hx; rfl
  have h1 : rt (l.take (rt l).len ++ [x]) = rt l := by rw [← e1]; exact rt_take hn h (by omega)
  have h2 := rt_peek (l := l.take (rt l).len ++ [x]) Y (by rw [h1]; exact h) (by rw [h1]; simp; omega)
  rw [List.append_assoc] at h2
  rw [show l.take (rt l).len ++ x :: Y = l.take (rt l).len ++ ([x] ++ Y) from rfl, h2, h1]
/-- A token without its place. -/
def np (t : Tok) : Int × Int × List UInt8 := (t.kind, t.num, t.text)
/-- These tokens, but for their places, are told of a text that begins where the first one does. -/
inductive Tz : List UInt8 → List (Int × Int × List UInt8) → Prop
  | nil : Tz [] []
  | cons (l : List UInt8) (R : List (Int × Int × List UInt8)) (hn : l ≠ []) (h : (rt l).code = 0) (hr : Tz (l.drop ((rt l).len + pbGo false (l.drop (rt l).len))) R) : Tz l (((rt l).kind, (rt l).num, (rt l).text) :: R)
theorem Tz.go {l : List UInt8} {R : List (Int × Int × List UInt8)} (h : Tz l R) : ∀ (full : List UInt8) (p f c : Nat), full.drop p = l → full.length + 1 ≤ p + f → R.length + c ≤ 8192 → ∃ T, tkGo full f p c = (T, 0, 0) ∧ T.map np = R := by
  induction h with
  | nil =>
    intro full p f c hd hf hc
    have hp : full.length ≤ p := List.drop_eq_nil_iff.1 hd
    cases f with
    | zero => exact ⟨[], rfl, rfl⟩
    | succ f => exact ⟨[], by simp only [tkGo]; rw [if_neg (by omega)], rfl⟩
  | cons l R hn h hr ih =>
    intro full p f c hd hf hc
    have hp : p < full.length := by
      by_cases hh : p < full.length
      · exact hh
      · rw [List.drop_eq_nil_iff.2 (by omega)] at hd; exact absurd hd.symm hn
    cases f with
    | zero => omega
    | succ f =>
      have h1 : 1 ≤ (rt l).len := by
        obtain ⟨c0, r0, rfl⟩ : ∃ c0 r0, l = c0 :: r0 := by
          cases l with
          | nil => exact absurd rfl hn
          | cons c0 r0 => exact ⟨c0, r0, rfl⟩
        exact (rt_len h).1
      have e2 : full.drop (p + (rt l).len) = l.drop (rt l).len := by rw [← hd, List.drop_drop]
      obtain ⟨T, hT, hm⟩ := ih full (p + (rt l).len + pbGo false (full.drop (p + (rt l).len))) f (c + 1) (by rw [e2]; subst hd; simp only [List.drop_drop, Nat.add_assoc]) (by omega) (by simp at hc; omega)
      refine ⟨⟨(rt l).kind, p, (rt l).num, (rt l).text⟩ :: T, ?_, by simp [np, hm]⟩
      simp at hc
      simp only [tkGo]
      rw [if_pos hp, if_neg (by omega), hd, if_neg (by simp [h]), hT]
theorem Tz.res {full : List UInt8} {R : List (Int × Int × List UInt8)} (h : Tz (full.drop (pbGo false full)) R) (hl : full.length ≤ 65536) (hc : R.length ≤ 8192) : ∃ T, tkRes full = (T, 0, 0) ∧ T.map np = R := by
  obtain ⟨T, hT, hm⟩ := h.go full (pbGo false full) (full.length + 1) 0 rfl (by omega) (by omega)
  refine ⟨T, ?_, hm⟩
  unfold tkRes
  rw [if_neg (by omega), hT]
  simp
/-- Blank behind blank. -/
theorem pb_ins : ∀ (l : List UInt8) (cm : Bool) (X : List UInt8), pbGo cm l < l.length → pbGo cm (l.take (pbGo cm l) ++ X) = pbGo cm l + pbGo false X
  | [], cm, X, h => by simp at h
  | c :: r, cm, X, h => by
    by_cases h10 : (c.toNat : Int) = 10
    · rw [pb_nl h10] at h ⊢
      rw [List.take_succ_cons, List.cons_append, pb_nl h10, pb_ins r false X (by simpa using h)]; omega
    · by_cases hg : cm = true ∨ (c.toNat : Int) = 9 ∨ (c.toNat : Int) = 13 ∨ (c.toNat : Int) = 32
      · rw [pb_go h10 hg] at h ⊢
        rw [List.take_succ_cons, List.cons_append, pb_go h10 hg, pb_ins r cm X (by simpa using h)]; omega
      · have hcm : cm = false := by cases cm with
          | false => rfl
          | true => simp at hg
        subst hcm
        by_cases h35 : (c.toNat : Int) = 35
        · rw [pb_cm h35] at h ⊢
          rw [List.take_succ_cons, List.cons_append, pb_cm h35, pb_ins r true X (by simpa using h)]; omega
        · have e : pbGo false (c :: r) = 0 := pb_no (by simp at hg; omega)
          rw [e]; simp
theorem pb_all : ∀ (B X : List UInt8), (∀ b ∈ B, (b.toNat : Int) = 10 ∨ (b.toNat : Int) = 9 ∨ (b.toNat : Int) = 13 ∨ (b.toNat : Int) = 32) → pbGo false (B ++ X) = B.length + pbGo false X
  | [], X, _ => by simp
  | b :: B, X, h => by
    have hb := h b (by simp)
    have ih := pb_all B X (fun x hx => h x (by simp [hx]))
    rw [List.cons_append]
    by_cases h10 : (b.toNat : Int) = 10
    · rw [pb_nl h10, ih]; simp; omega
    · rw [pb_go h10 (by simp; omega), ih]; simp; omega
end Go.Proofs.YtahcllncjpaijabDoor.L1
