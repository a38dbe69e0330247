/- Plain mathematics: the tokens of a beginning of a text that ends where a token begins. No condition. -/
import Derived.Test.YtahcllncjpaijabDoorTok4
namespace Go.Proofs.YtahcllncjpaijabDoor.L1

theorem ptLen_take : ∀ (l : List UInt8) (k : Nat), ptLen (l.take k) = min (ptLen l) k
  | [], k => by simp [ptLen]
  | c :: r, 0 => by simp [ptLen]
  | c :: r, k + 1 => by
    rw [List.take_succ_cons]
    simp only [ptLen]
    have := ptLen_take r k
    split <;> omega
theorem wLen_take (l : List UInt8) (k : Nat) : wLen (l.take k) = min (wLen l) k := by
  match l, k with
  | [], k => simp [wLen]
  | c :: r, 0 => simp [wLen]
  | c :: r, k + 1 =>
    rw [List.take_succ_cons]
    simp only [wLen]
    have := ptLen_take r k
    split <;> omega
theorem dLen_take : ∀ (l : List UInt8) (k : Nat), dLen (l.take k) = min (dLen l) k
  | [], k => by simp [dLen]
  | c :: r, 0 => by simp [dLen]
  | c :: r, k + 1 => by
    rw [List.take_succ_cons]
    simp only [dLen]
    have := dLen_take r k
    split <;> omega
theorem pbGo_take : ∀ (l : List UInt8) (cm : Bool) (k : Nat), pbGo cm (l.take k) = min (pbGo cm l) k
  | [], cm, k => by simp [pbGo]
  | c :: r, cm, 0 => by simp [pbGo]
  | c :: r, cm, k + 1 => by
    rw [List.take_succ_cons]
    simp only [pbGo]
    have h1 := pbGo_take r false k
    have h2 := pbGo_take r cm k
    have h3 := pbGo_take r true k
    split
    · omega
    · split
      · omega
      · split <;> omega
theorem ub_take {l : List UInt8} {b : UInt8} {n k : Nat} (h : ub l = some (b, n)) (hk : n ≤ k) : ub (l.take k) = some (b, n) := by
  match l, h with
  | c :: r, h =>
    have hn := (ub_len _ _ _ h).1
    obtain ⟨k1, rfl⟩ : ∃ k1, k = k1 + 1 := ⟨k - 1, by omega⟩
    rw [List.take_succ_cons]
    simp only [ub] at h ⊢
    by_cases hp : plU c = true
    · rw [if_pos hp] at h ⊢; exact h
    · rw [if_neg hp] at h ⊢
      by_cases h92 : c ≠ 92
      · rw [if_pos h92] at h; cases h
      · rw [if_neg h92] at h ⊢
        match r, h with
        | d :: r2, h =>
          simp only at h
          by_cases hd : d = 34 ∨ d = 92
          · rw [if_pos hd] at h
            cases h
            obtain ⟨k2, rfl⟩ : ∃ k2, k1 = k2 + 1 := ⟨k1 - 1, by omega⟩
            rw [List.take_succ_cons]; simp only; rw [if_pos hd]
          · rw [if_neg hd] at h
            by_cases hn' : d = 110
            · rw [if_pos hn'] at h
              cases h
              obtain ⟨k2, rfl⟩ : ∃ k2, k1 = k2 + 1 := ⟨k1 - 1, by omega⟩
              rw [List.take_succ_cons]; simp only; rw [if_neg hd, if_pos hn']
            · rw [if_neg hn'] at h
              by_cases hx : d = 120
              · rw [if_pos hx] at h
                match r2, h with
                | e :: f :: r3, h =>
                  simp only at h
                  have h4 : n = 4 := by
                    rw [Option.map_eq_some_iff] at h
                    obtain ⟨x, _, hx2⟩ := h
                    cases hx2; rfl
                  subst h4
                  obtain ⟨k2, rfl⟩ : ∃ k2, k1 = k2 + 3 := ⟨k1 - 3, by omega⟩
                  rw [List.take_succ_cons, List.take_succ_cons, List.take_succ_cons]
                  simp only; rw [if_neg hd, if_neg hn', if_pos hx]; exact h
                | [], h => simp at h
                | [_], h => simp at h
              · rw [if_neg hx] at h; cases h
        | [], h => simp at h
  | [], h => simp [ub] at h
theorem uq_take : ∀ (l : List UInt8) (t : List UInt8) (m k : Nat), uq l = some (t, m) → m ≤ k → uq (l.take k) = some (t, m)
  | [], t, m, k, h, _ => by rw [uq_nil] at h; cases h
  | c :: r, t, m, k, h, hk => by
    have hm := (uq_len _ _ _ h).1
    obtain ⟨k1, rfl⟩ : ∃ k1, k = k1 + 1 := ⟨k - 1, by omega⟩
    by_cases hc : c = 34
    · subst hc; rw [uq_quote] at h; rw [List.take_succ_cons, uq_quote]; exact h
    · cases hu : ub (c :: r) with
      | none => rw [uq_none hc hu] at h; cases h
      | some x =>
        obtain ⟨b, n⟩ := x
        have hn := ub_len _ _ _ hu
        rw [uq_some hc hu, Option.map_eq_some_iff] at h
        obtain ⟨⟨t2, m2⟩, h2, h3⟩ := h
        simp only [Prod.mk.injEq] at h3
        have hu2 := ub_take (k := k1 + 1) hu (by omega)
        rw [List.take_succ_cons] at hu2 ⊢
        have ih := uq_take ((c :: r).drop n) t2 m2 (k1 + 1 - n) h2 (by omega)
        rw [uq_some hc hu2, Option.map_eq_some_iff]
        refine ⟨(t2, m2), ?_, by simp only [Prod.mk.injEq]; exact h3⟩
        have e : (c :: r.take k1).drop n = ((c :: r).drop n).take (k1 + 1 - n) := by
          rw [← List.take_succ_cons, List.drop_take]
        rw [e]; exact ih
termination_by l => l.length
decreasing_by
  rw [List.length_drop]; have := (ub_len _ _ _ hu).1; simp only [List.length_cons]; omega
theorem find_take (l : List UInt8) (k : Nat) : ∀ (ms : List ByteArray) (m : ByteArray), (ms.find? fun x => Lib.hasPrefix l x.data.toList) = some m → m.size ≤ k → (ms.find? fun x => Lib.hasPrefix (l.take k) x.data.toList) = some m
  | [], m, h, _ => by cases h
  | x :: r, m, h, hk => by
    rw [List.find?_cons] at h ⊢
    cases hp : Lib.hasPrefix l x.data.toList with
    | true =>
      rw [hp] at h
      cases h
      have h1 := List.isPrefixOf_iff_prefix.1 hp
      have h2 : Lib.hasPrefix (l.take k) x.data.toList = true := by
        apply List.isPrefixOf_iff_prefix.2
        exact List.prefix_take_iff.2 ⟨h1, by simpa using hk⟩
      rw [h2]
    | false =>
      rw [hp] at h
      have h2 : Lib.hasPrefix (l.take k) x.data.toList = false := by
        cases hq : Lib.hasPrefix (l.take k) x.data.toList with
        | false => rfl
        | true =>
          have h1 := List.isPrefixOf_iff_prefix.1 hq
          have h3 := List.isPrefixOf_iff_prefix.2 (h1.trans (List.take_prefix k l))
          unfold Lib.hasPrefix at hp
          rw [h3] at hp; cases hp
      rw [h2]
      exact find_take l k r m h hk
theorem take_take_le {l : List UInt8} {a b : Nat} (h : a ≤ b) : (l.take b).take a = l.take a := by rw [List.take_take]; congr 1; omega
theorem rw_take {d : Bool} {r : List UInt8} {k : Nat} (hk : wLen r ≤ k) : rw' d (r.take k) = rw' d r := by
  have e : wLen (r.take k) = wLen r := by rw [wLen_take]; omega
  unfold rw'
  rw [e, take_take_le hk]
theorem rt_take {l : List UInt8} {k : Nat} (hl : l ≠ []) (h : (rt l).code = 0) (hk : (rt l).len ≤ k) : rt (l.take k) = rt l := by
  match l, hl with
  | c :: r, _ =>
    have hlen := rt_len h
    obtain ⟨k1, rfl⟩ : ∃ k1, k = k1 + 1 := ⟨k - 1, by omega⟩
    have et : (c :: r).take (k1 + 1) = c :: r.take k1 := List.take_succ_cons
    simp only [rt] at h hk ⊢
    rw [et]
    simp only
    by_cases h36 : (c.toNat : Int) = 36
    · rw [if_pos h36] at h hk ⊢
      rw [if_pos h36]
      refine rw_take ?_
      unfold rw' at h hk
      split at h
      · simp [RT.bad] at h
      · split at h
        · simp [RT.bad] at h
        · rename_i a b; rw [if_neg a, if_neg b] at hk; simp at hk; omega
    · rw [if_neg h36] at h hk ⊢
      rw [if_neg h36]
      by_cases hs : isSm c = true
      · rw [if_pos hs] at h hk ⊢
        rw [if_pos hs, ← et]
        refine rw_take ?_
        unfold rw' at h hk
        split at h
        · simp [RT.bad] at h
        · split at h
          · simp [RT.bad] at h
          · rename_i a b; rw [if_neg a, if_neg b] at hk; simp at hk; omega
      · rw [if_neg hs] at h hk ⊢
        rw [if_neg hs]
        by_cases hd : isDg c = true
        · rw [if_pos hd] at h hk ⊢
          rw [if_pos hd, ← et]
          unfold rn at h hk ⊢
          split at h
          · rename_i hb
            rw [if_pos hb] at hk
            simp only at hk
            have e : dLen ((c :: r).take (k1 + 1)) = dLen (c :: r) := by rw [dLen_take]; omega
            rw [e, take_take_le hk]
          · simp [RT.bad] at h
        · rw [if_neg hd] at h hk ⊢
          rw [if_neg hd]
          by_cases hq : (c.toNat : Int) = 34
          · rw [if_pos hq] at h hk ⊢
            rw [if_pos hq]
            unfold rq at h hk ⊢
            rw [List.drop_one, List.tail_cons] at h hk ⊢
            rw [List.drop_one, List.tail_cons]
            cases hu : uq r with
            | none => rw [hu] at h; simp [RT.bad] at h
            | some x =>
              obtain ⟨t, m⟩ := x
              rw [hu] at h hk
              simp only at h hk
              split at h
              · simp [RT.bad] at h
              · rename_i h4
                rw [if_neg h4] at hk
                simp only at hk
                rw [uq_take r t m k1 hu (by omega)]
          · rw [if_neg hq] at h hk ⊢
            rw [if_neg hq, ← et]
            unfold rm rmOf at h hk ⊢
            cases hf : mk.find? fun m => Lib.hasPrefix (c :: r) m.data.toList with
            | none => rw [hf] at h; simp [RT.bad] at h
            | some m =>
              rw [hf] at hk
              simp only at hk
              rw [find_take (c :: r) (k1 + 1) mk m hf hk]
theorem tkGo_pos (l : List UInt8) : ∀ (f p c : Nat), ∀ t ∈ (tkGo l f p c).1, (p : Int) ≤ t.pos ∧ t.pos < (l.length : Int) := by
  intro f
  induction f with
  | zero => intro p c t ht; simp [tkGo] at ht
  | succ f ih =>
    intro p c t ht
    simp only [tkGo] at ht
    split at ht
    · rename_i hp
      split at ht
      · simp at ht
      · split at ht
        · simp at ht
        · simp only [List.mem_cons] at ht
          rcases ht with rfl | ht
          · exact ⟨Int.le_refl _, by simp; omega⟩
          · have := ih _ _ t ht
            omega
    · simp at ht
theorem tkGo_fuel (l : List UInt8) : ∀ (f f' p c : Nat), l.length + 1 ≤ p + f → l.length + 1 ≤ p + f' → tkGo l f p c = tkGo l f' p c := by
  intro f
  induction f with
  | zero =>
    intro f' p c h h'
    cases f' with
    | zero => rfl
    | succ f' => simp only [tkGo]; rw [if_neg (by omega)]
  | succ f ih =>
    intro f' p c h h'
    cases f' with
    | zero => simp only [tkGo]; rw [if_neg (by omega)]
    | succ f' =>
      simp only [tkGo]
      split
      · rename_i hp
        split
        · rfl
        · split
          · rfl
          · rename_i h2 h3
            have hc : (rt (l.drop p)).code = 0 := by simpa using h3
            have hl : 1 ≤ (rt (l.drop p)).len := by
              rw [List.drop_eq_getElem_cons hp] at hc ⊢
              exact (rt_len hc).1
            rw [ih f' _ _ (by omega) (by omega)]
      · rfl
theorem tkGo_take (l : List UInt8) (q : Nat) (hq : q ≤ l.length) : ∀ (f p c n : Nat) (T : List Tok), tkGo l f p c = (T, 0, 0) → ∀ h : n < T.length, T[n].pos = (q : Int) → tkGo (l.take q) f p c = (T.take n, 0, 0) := by
  intro f
  induction f with
  | zero => intro p c n T hT h; simp only [tkGo] at hT; cases hT; simp at h
  | succ f ih =>
    intro p c n T hT h hpos
    have hlq : (l.take q).length = q := by simp; omega
    simp only [tkGo] at hT
    split at hT
    · rename_i hp
      split at hT
      · simp at hT
      · rename_i hc
        split at hT
        · rename_i hcode; simp at hT; exact absurd hT.2.2 hcode
        · rename_i hcode
          have hcode0 : (rt (l.drop p)).code = 0 := by simpa using hcode
          obtain ⟨P, hP⟩ : ∃ P, P = p + (rt (l.drop p)).len + pbGo false (l.drop (p + (rt (l.drop p)).len)) := ⟨_, rfl⟩
          rw [← hP] at hT
          obtain ⟨T', fa, fc, hg⟩ : ∃ T' fa fc, tkGo l f P (c + 1) = (T', fa, fc) := ⟨_, _, _, rfl⟩
          rw [hg] at hT
          simp only [Prod.mk.injEq] at hT
          obtain ⟨rfl, rfl, rfl⟩ := hT
          cases n with
          | zero =>
            simp at hpos
            simp only [tkGo]
            rw [if_neg (by rw [hlq]; omega)]; simp
          | succ n =>
            simp only [List.getElem_cons_succ] at hpos
            have hn : n < T'.length := by simpa using h
            have hmem : T'[n] ∈ (tkGo l f P (c + 1)).1 := by rw [hg]; exact List.getElem_mem hn
            have hb := tkGo_pos l f P (c + 1) _ hmem
            rw [hpos] at hb
            have hPq : P ≤ q := by omega
            have e1 : (l.take q).drop p = (l.drop p).take (q - p) := List.drop_take
            have hrt : rt ((l.take q).drop p) = rt (l.drop p) := by
              rw [e1]
              refine rt_take (by rw [List.drop_eq_getElem_cons hp]; exact List.cons_ne_nil _ _) hcode0 (by omega)
            have e2 : (l.take q).drop (p + (rt (l.drop p)).len) = (l.drop (p + (rt (l.drop p)).len)).take (q - (p + (rt (l.drop p)).len)) := List.drop_take
            have hpb : pbGo false ((l.take q).drop (p + (rt (l.drop p)).len)) = pbGo false (l.drop (p + (rt (l.drop p)).len)) := by
              rw [e2, pbGo_take]; omega
            have IH := ih P (c + 1) n T' hg hn hpos
            simp only [tkGo]
            have hl1 : 1 ≤ (rt (l.drop p)).len := by
              rw [List.drop_eq_getElem_cons hp] at hcode0 ⊢
              exact (rt_len hcode0).1
            rw [if_pos (by rw [hlq]; omega), if_neg hc, hrt, if_neg hcode, hpb, ← hP, IH]
            simp
    · cases hT; simp at h
theorem tkGo_fa (l : List UInt8) : ∀ (f p c : Nat), (tkGo l f p c).2.2 = 0 → (tkGo l f p c).2.1 = 0 := by
  intro f
  induction f with
  | zero => intro p c _; rfl
  | succ f ih =>
    intro p c h
    simp only [tkGo] at h ⊢
    split at h
    · rename_i hp
      rw [if_pos hp]
      split at h
      · simp at h
      · rename_i hc
        rw [if_neg hc]
        split at h
        · rename_i hcode; exact absurd h hcode
        · rename_i hcode
          rw [if_neg hcode]
          exact ih _ _ h
    · rename_i hp; rw [if_neg hp]
theorem tkRes_take {l : List UInt8} {T : List Tok} {q n : Nat} (hT : tkRes l = (T, 0, 0)) (h : n < T.length) (hpos : T[n].pos = (q : Int)) (hq : q ≤ l.length) : tkRes (l.take q) = (T.take n, 0, 0) := by
  unfold tkRes at hT
  split at hT
  · simp at hT
  · rename_i hlen
    have hlq : (l.take q).length = q := by simp; omega
    split at hT
    · rename_i hc; simp at hT; exact absurd (by rw [hT.2]) hc
    · rename_i hc
      have hc0 : (tkGo l (l.length + 1) (pbGo false l) 0).2.2 = 0 := by simpa using hc
      obtain ⟨T', fa, fc, hg⟩ : ∃ T' fa fc, tkGo l (l.length + 1) (pbGo false l) 0 = (T', fa, fc) := ⟨_, _, _, rfl⟩
      rw [hg] at hT hc0
      simp only [Prod.mk.injEq] at hT
      simp only at hc0
      obtain ⟨rfl, _⟩ := hT
      have hfa : fa = 0 := by
        have := tkGo_fa l (l.length + 1) (pbGo false l) 0
        rw [hg] at this
        exact this hc0
      subst hc0 hfa
      have hmem : T'[n] ∈ (tkGo l (l.length + 1) (pbGo false l) 0).1 := by rw [hg]; exact List.getElem_mem h
      have hb := tkGo_pos l _ _ _ _ hmem
      rw [hpos] at hb
      have hpb : pbGo false (l.take q) = pbGo false l := by rw [pbGo_take]; omega
      have H := tkGo_take l q hq (l.length + 1) (pbGo false l) 0 n T' hg h hpos
      unfold tkRes
      rw [if_neg (by omega), hlq, hpb, tkGo_fuel (l.take q) (q + 1) (l.length + 1) (pbGo false l) 0 (by omega) (by omega), H]
      simp
end Go.Proofs.YtahcllncjpaijabDoor.L1
