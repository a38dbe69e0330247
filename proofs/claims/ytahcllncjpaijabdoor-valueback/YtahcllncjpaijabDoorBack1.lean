/- Plain mathematics: what is written of a token is told to be that token; quotes there and back. No condition. -/
import Derived.Test.YtahcllncjpaijabDoorTok4
import Derived.Test.YtahcllncjpaijabDoorSep
import Derived.Lib.ItoaNum
namespace Go.Proofs.YtahcllncjpaijabDoor.L1

/-- A token as it is written. -/
def layT (t : Tok) : List UInt8 := if t.kind = 4 then Lib.itoa t.num else if t.kind = 5 then quo t.text else if t.kind = 3 then 36 :: t.text else t.text
/-- Tokens, a blank ahead of each. -/
def layTail (l : List Tok) : List UInt8 := l.flatMap fun t => 32 :: layT t
/-- Tokens, a blank between any two. -/
def layL (l : List Tok) : List UInt8 := (layTail l).drop 1

theorem toNat48 {d : Nat} (h : d < 10) : (UInt8.ofNat (48 + d)).toNat = 48 + d := by simp; omega
theorem numGo_app : ∀ (l r : List UInt8) (n m : Int), numGo l n = some m → numGo (l ++ r) n = numGo r m
  | [], r, n, m, h => by simp [numGo] at h; simp [h]
  | c :: l, r, n, m, h => by
    rw [List.cons_append]
    simp only [numGo] at h ⊢
    split
    · rename_i hc
      rw [if_pos hc] at h
      split
      · rename_i hb; rw [if_pos hb] at h; cases h
      · rename_i hb; rw [if_neg hb] at h; exact numGo_app l r _ m h
    · rename_i hc; rw [if_neg hc] at h; cases h
theorem numGo_one {d : Nat} (hd : d < 10) (n : Int) (h : 10 * n + d ≤ 9007199254740992) : numGo [UInt8.ofNat (48 + d)] n = some (10 * n + d) := by
  have e := toNat48 hd
  simp only [numGo, e]
  rw [if_pos (by omega), if_neg (by omega)]
  congr 1; omega
theorem dec_num : ∀ (u : Nat), u ≤ 9007199254740992 → numGo (Lib.decDigits u) 0 = some (u : Int) := by
  intro u
  induction u using Nat.strongRecOn with
  | _ u ih =>
    intro hu
    rw [Lib.decDigits]
    split
    · rename_i h; rw [numGo_one h 0 (by omega)]; congr 1; omega
    · rename_i h
      rw [numGo_app _ _ 0 _ (ih (u / 10) (by omega) (by omega)), numGo_one (by omega) _ (by omega)]
      congr 1; omega
theorem dec_dg : ∀ (u : Nat), ∀ c ∈ Lib.decDigits u, isDg c = true := by
  intro u
  induction u using Nat.strongRecOn with
  | _ u ih =>
    intro c hc
    rw [Lib.decDigits] at hc
    have key : ∀ d, d < 10 → isDg (UInt8.ofNat (48 + d)) = true := by
      intro d hd
      have e := toNat48 hd
      simp only [isDg, e, decide_eq_true_eq]; omega
    split at hc
    · rename_i h
      simp only [List.mem_singleton] at hc
      rw [hc]; exact key u h
    · rename_i h
      rw [List.mem_append] at hc
      rcases hc with hc | hc
      · exact ih (u / 10) (by omega) c hc
      · simp only [List.mem_singleton] at hc
        rw [hc]; exact key _ (by omega)
theorem dLen_all : ∀ (l : List UInt8), (∀ c ∈ l, isDg c = true) → dLen l = l.length
  | [], _ => rfl
  | c :: r, h => by
    simp only [dLen]
    rw [if_pos (h c (by simp)), dLen_all r (fun x hx => h x (by simp [hx]))]; rfl
theorem dec_head : ∀ (u : Nat), 1 ≤ u → ∃ c r, Lib.decDigits u = c :: r ∧ c ≠ 48 := by
  intro u
  induction u using Nat.strongRecOn with
  | _ u ih =>
    intro hu
    rw [Lib.decDigits]
    split
    · rename_i h
      refine ⟨_, [], rfl, ?_⟩
      intro e
      have e2 := toNat48 h
      rw [e] at e2
      simp at e2; omega
    · rename_i h
      obtain ⟨c, r, e, hc⟩ := ih (u / 10) (by omega) (by omega)
      exact ⟨c, r ++ [UInt8.ofNat (48 + u % 10)], by rw [e]; rfl, hc⟩
theorem dec_bad (u : Nat) : numBad (Lib.decDigits u) = false := by
  by_cases h : u < 10
  · rw [Lib.decDigits, dif_pos h]; rfl
  · obtain ⟨c, r, e, hc⟩ := dec_head u (by omega)
    rw [e]
    cases r with
    | nil => rfl
    | cons d r => simp [numBad, hc]
theorem dec_ne (u : Nat) : Lib.decDigits u ≠ [] := by
  rw [Lib.decDigits]
  split
  · simp
  · simp
theorem rn_dec (u : Nat) (hu : u ≤ 9007199254740992) : rn (Lib.decDigits u) = ⟨0, 4, (u : Int), [], (Lib.decDigits u).length⟩ := by
  unfold rn
  rw [dLen_all _ (dec_dg u), List.take_length]
  have h1 : numB (Lib.decDigits u) = true := by unfold numB; rw [dec_bad, dec_num u hu]; rfl
  have h2 : numN (Lib.decDigits u) = (u : Int) := by unfold numN; rw [dec_bad, dec_num u hu]; rfl
  rw [h1, h2]; rfl

theorem hex_there : ∀ n : Fin 256, (n.val < 32 ∨ 126 < n.val) → n.val ≠ 10 → hexB (hexD (n.val / 16)) (hexD (n.val % 16)) = some (UInt8.ofNat n.val) := by decide +kernel
theorem ub_qB (c : UInt8) (r : List UInt8) : ub (qB c ++ r) = some (c, (qB c).length) := by
  have p92 : plU 92 = false := by decide
  have hlt := UInt8.toNat_lt c
  unfold qB
  split
  · rename_i h
    simp only [List.cons_append, List.nil_append, ub]
    rw [if_neg (by rw [p92]; simp), if_neg (by simp)]
    rw [if_pos h]; rfl
  · rename_i h
    split
    · rename_i h10
      subst h10
      simp only [List.cons_append, List.nil_append, ub]
      rw [if_neg (by rw [p92]; simp), if_neg (by simp)]
      rw [if_neg (by decide), if_pos (by trivial)]; rfl
    · rename_i h10
      split
      · rename_i hp
        simp only [List.cons_append, List.nil_append, ub]
        have : plU c = true := by
          simp only [plU, plB, decide_eq_true_eq]
          refine ⟨by omega, by omega, ?_, ?_⟩
          · intro e; apply h; left; apply UInt8.toNat_inj.1; simp; omega
          · intro e; apply h; right; apply UInt8.toNat_inj.1; simp; omega
        rw [if_pos this]; rfl
      · rename_i hp
        have h10' : c.toNat ≠ 10 := by intro e; apply h10; apply UInt8.toNat_inj.1; simp; omega
        have hx := hex_there ⟨c.toNat, hlt⟩ (by simp; omega) h10'
        simp only [List.cons_append, List.nil_append, ub]
        rw [if_neg (by rw [p92]; simp), if_neg (by simp)]
        rw [if_neg (by decide), if_neg (by decide), if_pos (by trivial), hx]
        simp
theorem qB_head (c : UInt8) : ∃ x r, qB c = x :: r ∧ x ≠ 34 := by
  unfold qB
  split
  · exact ⟨92, _, rfl, by decide⟩
  · rename_i h
    split
    · exact ⟨92, _, rfl, by decide⟩
    · split
      · exact ⟨c, _, rfl, fun e => h (Or.inl e)⟩
      · exact ⟨92, _, rfl, by decide⟩
theorem uq_quo : ∀ (t X : List UInt8), uq (t.flatMap qB ++ 34 :: X) = some (t, (t.flatMap qB).length + 1)
  | [], X => by rw [List.flatMap_nil, List.nil_append, uq_quote]; rfl
  | c :: t, X => by
    obtain ⟨x, r, e, hx⟩ := qB_head c
    have hu := ub_qB c (t.flatMap qB ++ 34 :: X)
    have ih := uq_quo t X
    rw [List.flatMap_cons, List.append_assoc]
    rw [e, List.cons_append] at hu ⊢
    rw [uq_some hx hu]
    have e2 : (x :: (r ++ (t.flatMap qB ++ 34 :: X))).drop (x :: r).length = t.flatMap qB ++ 34 :: X := by
      rw [← List.cons_append, List.drop_append_of_le_length (by omega), List.drop_length, List.nil_append]
    rw [e2, ih]
    simp; omega
theorem hexV_back : ∀ n : Fin 256, 0 ≤ hexV (UInt8.ofNat n.val) → hexD (hexV (UInt8.ofNat n.val)).toNat = UInt8.ofNat n.val ∧ hexV (UInt8.ofNat n.val) < 16 := by decide +kernel
theorem hexV_back' (e : UInt8) (h : 0 ≤ hexV e) : hexD (hexV e).toNat = e ∧ hexV e < 16 := by
  have := hexV_back ⟨e.toNat, UInt8.toNat_lt e⟩
  simp only [UInt8.ofNat_toNat] at this
  exact this h
theorem qB_of_hexB {e f b : UInt8} (h : hexB e f = some b) : qB b = [92, 120, e, f] := by
  rw [hexB_def] at h
  split at h
  · rename_i hv
    obtain ⟨a1, a2⟩ := hexV_back' e hv.1
    obtain ⟨b1, b2⟩ := hexV_back' f hv.2
    split at h
    · cases h
    · rename_i hn
      simp only [Option.some.injEq] at h
      obtain ⟨x, hx⟩ : ∃ x : Nat, hexV e = (x : Int) := ⟨(hexV e).toNat, by omega⟩
      obtain ⟨y, hy⟩ : ∃ y : Nat, hexV f = (y : Int) := ⟨(hexV f).toNat, by omega⟩
      rw [hx, hy] at h hn
      rw [hx] at a1 a2
      rw [hy] at b1 b2
      have hb : b.toNat = 16 * x + y := by
        rw [← h]
        have : (16 * (x : Int) + (y : Int)).toNat = 16 * x + y := by omega
        rw [this]; simp; omega
      simp only [Int.toNat_natCast] at a1 b1
      rw [qB_hex (by omega) (by omega), hb, show (16 * x + y) / 16 = x by omega, show (16 * x + y) % 16 = y by omega, a1, b1]
  · cases h
theorem qB_of_ub {l : List UInt8} {b : UInt8} {n : Nat} (h : ub l = some (b, n)) : l.take n = qB b := by
  match l, h with
  | c :: r, h =>
    simp only [ub] at h
    by_cases hp : plU c = true
    · rw [if_pos hp] at h
      cases h
      simp only [plU, plB, decide_eq_true_eq] at hp
      rw [qB_plain hp.2.2.1 hp.2.2.2 hp.1 hp.2.1]; rfl
    · rw [if_neg hp] at h
      by_cases h92 : c ≠ 92
      · rw [if_pos h92] at h; cases h
      · rw [if_neg h92] at h
        have hc : c = 92 := by simpa using h92
        subst hc
        match r, h with
        | d :: r2, h =>
          simp only at h
          by_cases hd : d = 34 ∨ d = 92
          · rw [if_pos hd] at h
            cases h
            unfold qB; rw [if_pos hd]; rfl
          · rw [if_neg hd] at h
            by_cases hn' : d = 110
            · rw [if_pos hn'] at h
              cases h
              subst hn'; rfl
            · rw [if_neg hn'] at h
              by_cases hx : d = 120
              · rw [if_pos hx] at h
                match r2, h with
                | e :: f :: r3, h =>
                  simp only at h
                  rw [Option.map_eq_some_iff] at h
                  obtain ⟨x, hxb, hx2⟩ := h
                  cases hx2
                  subst hx
                  rw [qB_of_hexB hxb]; rfl
                | [], h => simp at h
                | [_], h => simp at h
              · rw [if_neg hx] at h; cases h
        | [], h => simp at h
  | [], h => simp [ub] at h
theorem quo_of_uq : ∀ (l t : List UInt8) (m : Nat), uq l = some (t, m) → l.take m = t.flatMap qB ++ [34]
  | [], t, m, h => by rw [uq_nil] at h; cases h
  | c :: r, t, m, h => by
    by_cases hc : c = 34
    · subst hc; rw [uq_quote] at h; cases h; rfl
    · cases hu : ub (c :: r) with
      | none => rw [uq_none hc hu] at h; cases h
      | some x =>
        obtain ⟨b, n⟩ := x
        have hn := ub_len _ _ _ hu
        rw [uq_some hc hu, Option.map_eq_some_iff] at h
        obtain ⟨⟨t2, m2⟩, h2, h3⟩ := h
        simp only [Prod.mk.injEq] at h3
        obtain ⟨rfl, rfl⟩ := h3
        have ih := quo_of_uq ((c :: r).drop n) t2 m2 h2
        rw [Nat.add_comm m2 n, List.take_add, qB_of_ub hu, ih, List.flatMap_cons, List.append_assoc]
termination_by l => l.length
decreasing_by
  rw [List.length_drop]; have := (ub_len _ _ _ hu).1; simp only [List.length_cons]; omega
end Go.Proofs.YtahcllncjpaijabDoor.L1
