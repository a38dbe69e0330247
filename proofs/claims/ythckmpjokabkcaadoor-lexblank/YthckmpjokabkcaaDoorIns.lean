/- Plain mathematics: the tokens of a text, with more blank ahead of each, are the same but for their places. No condition. -/
import Derived.Test.YthckmpjokabkcaaDoorSep
import Derived.Test.YthckmpjokabkcaaDoorLexTok
namespace Go.Proofs.YthckmpjokabkcaaDoor

/-- A text from a place on, with blank ahead of each of the tokens. -/
def ins (B s : List UInt8) : Nat → List Tok → List UInt8
  | p, [] => s.drop p
  | p, t :: r => (s.drop p).take (t.pos.toNat - p) ++ B ++ ins B s t.pos.toNat r
/-- Places rise, within the text. -/
def Asc (n : Nat) : Nat → List Tok → Prop
  | _, [] => True
  | p, t :: r => ∃ q : Nat, t.pos = (q : Int) ∧ p ≤ q ∧ q < n ∧ Asc n q r
theorem tkGo_asc (l : List UInt8) : ∀ (f p c p0 : Nat), p0 ≤ p → Asc l.length p0 (tkGo l f p c).1 := by
  intro f
  induction f with
  | zero => intro p c p0 _; simp [tkGo, Asc]
  | succ f ih =>
    intro p c p0 h0
    simp only [tkGo]
    split
    · rename_i hp
      split
      · simp [Asc]
      · split
        · simp [Asc]
        · exact ⟨p, rfl, h0, hp, ih _ _ _ (by omega)⟩
    · simp [Asc]
theorem tkRes_asc (l : List UInt8) : Asc l.length 0 (tkRes l).1 := by
  unfold tkRes
  split
  · simp [Asc]
  · split
    · simp [Asc]
    · exact tkGo_asc l _ _ _ _ (by omega)
theorem pb_head {x : UInt8} {r r' : List UInt8} (h : pbGo false (x :: r) = 0) : pbGo false (x :: r') = 0 := by
  by_cases h10 : (x.toNat : Int) = 10
  · rw [pb_nl h10] at h; omega
  · by_cases hg : false = true ∨ (x.toNat : Int) = 9 ∨ (x.toNat : Int) = 13 ∨ (x.toNat : Int) = 32
    · rw [pb_go h10 hg] at h; omega
    · by_cases h35 : (x.toNat : Int) = 35
      · rw [pb_cm h35] at h; omega
      · exact pb_no (by simp at hg; omega)
theorem pb_rest {G : List UInt8} (h : pbGo false G < G.length) : pbGo false (G.drop (pbGo false G)) = 0 := by
  have := pb_ins G false (G.drop (pbGo false G)) h
  rw [List.take_append_drop] at this
  omega
theorem pb_same {R G : List UInt8} (h : pbGo false G < G.length) (hh : R.head? = (G.drop (pbGo false G)).head?) : pbGo false R = 0 := by
  have h0 := pb_rest h
  cases e : G.drop (pbGo false G) with
  | nil => have := List.drop_eq_nil_iff.1 e; omega
  | cons x r =>
    rw [e] at h0 hh
    cases R with
    | nil => cases hh
    | cons y R' =>
      simp at hh
      subst hh
      exact pb_head h0
theorem ne_cons {α : Type} {l : List α} (h : l ≠ []) : ∃ x r, l = x :: r := by
  cases l with
  | nil => exact absurd rfl h
  | cons x r => exact ⟨x, r, rfl⟩

theorem ins_core (B s : List UInt8) (hB : ∀ b ∈ B, (b.toNat : Int) = 10 ∨ (b.toNat : Int) = 9 ∨ (b.toNat : Int) = 13 ∨ (b.toNat : Int) = 32) : ∀ (f p c : Nat) (t : Tok) (T : List Tok), s.length + 1 ≤ p + f → tkGo s f p c = (t :: T, 0, 0) → t.pos = (p : Int) ∧ p < s.length ∧ Tz (ins B s p T) (np t :: T.map np) ∧ (ins B s p T).head? = (s.drop p).head? := by
  intro f
  induction f with
  | zero => intro p c t T _ h; simp [tkGo] at h
  | succ f ih =>
    intro p c t T hf h
    simp only [tkGo] at h
    split at h
    · rename_i hp
      split at h
      · simp at h
      · rename_i hc
        split at h
        · simp at h
        · rename_i hcode
          have hcode0 : (rt (s.drop p)).code = 0 := by simpa using hcode
          have hln : s.drop p ≠ [] := by rw [List.drop_eq_getElem_cons hp]; exact List.cons_ne_nil _ _
          have hlen : 1 ≤ (rt (s.drop p)).len ∧ (rt (s.drop p)).len ≤ (s.drop p).length := by
            obtain ⟨x, r, e⟩ := ne_cons hln
            rw [e] at hcode0 ⊢
            exact rt_len hcode0
          obtain ⟨L, hL⟩ : ∃ L, L = s.drop p := ⟨_, rfl⟩
          have eG : s.drop (p + (rt L).len) = L.drop (rt L).len := by rw [hL, List.drop_drop]
          rw [← hL] at h hcode0 hln hlen
          obtain ⟨n, hn⟩ : ∃ n, n = (rt L).len := ⟨_, rfl⟩
          rw [← hn] at h hlen eG
          obtain ⟨G, hG⟩ : ∃ G, G = L.drop n := ⟨_, rfl⟩
          rw [eG, ← hG] at h
          obtain ⟨pb, hpb⟩ : ∃ pb, pb = pbGo false G := ⟨_, rfl⟩
          rw [← hpb] at h
          have hgl : G.length = s.length - p - n := by rw [hG, hL]; simp; omega
          simp only [Prod.mk.injEq, List.cons.injEq] at h
          obtain ⟨⟨rfl, h1⟩, h2⟩ := h
          have hg : tkGo s f (p + n + pb) (c + 1) = (T, 0, 0) := by
            rw [← h1]
            exact Prod.ext rfl h2
          refine ⟨rfl, hp, ?_⟩
          cases T with
          | nil =>
            have hP : s.length ≤ p + n + pb := by
              by_cases hh : p + n + pb < s.length
              · exfalso
                cases f with
                | zero => omega
                | succ f =>
                  simp only [tkGo] at hg
                  rw [if_pos hh] at hg
                  split at hg
                  · simp at hg
                  · split at hg
                    · rename_i hx; simp at hg; exact hx hg.2
                    · simp at hg
              · omega
            refine ⟨?_, rfl⟩
            show Tz (s.drop p) _
            rw [← hL]
            refine Tz.cons L [] hln hcode0 ?_
            rw [← hn, ← hG, ← hpb, List.drop_eq_nil_iff.2 (by rw [hL]; simp; omega)]
            exact Tz.nil
          | cons t2 T2 =>
            obtain ⟨hp2, hpl, hz, hh⟩ := ih (p + n + pb) (c + 1) t2 T2 (by omega) hg
            obtain ⟨R2, hR⟩ : ∃ R2, R2 = ins B s (p + n + pb) T2 := ⟨_, rfl⟩
            rw [← hR] at hz hh
            have e1 : ins B s p (t2 :: T2) = L.take n ++ (G.take pb ++ B ++ R2) := by
              simp only [ins]
              rw [hp2, Int.toNat_natCast, ← hR, ← hL, show p + n + pb - p = n + pb by omega, List.take_add, ← hG]
              simp only [List.append_assoc]
            have hpbl : pb < G.length := by omega
            have eD : s.drop (p + n + pb) = G.drop pb := by rw [hG, hL, List.drop_drop, List.drop_drop, Nat.add_assoc]
            rw [eD] at hh
            have hR0 : pbGo false R2 = 0 := pb_same (G := G) (by omega) (by rw [← hpb]; exact hh)
            have htl : (L.take n).length = n := by simp; omega
            have hrt0 : rt (L.take n) = rt L := rt_take hln hcode0 (by omega)
            have hrt : rt (L.take n ++ (G.take pb ++ B ++ R2)) = rt L := by
              by_cases hpb0 : pb = 0
              · rw [hpb0, List.take_zero, List.nil_append]
                cases B with
                | nil =>
                  rw [hpb0, List.drop_zero] at hh
                  obtain ⟨x, r, e⟩ := ne_cons (l := R2) (by
                    intro e; rw [e] at hh
                    cases G with
                    | nil => simp at hpbl
                    | cons a b => cases hh)
                  rw [List.nil_append, e, hn]
                  refine rt_same hln hcode0 ?_
                  rw [← hn, ← hG, ← hh, e]; rfl
                | cons b B =>
                  rw [List.cons_append, ← hrt0]
                  refine rt_blank_app _ ?_ (by rw [hrt0]; exact hcode0) (by intro e; rw [e] at htl; simp at htl; omega) (by rw [hrt0, htl, hn])
                  have := hB b (by simp)
                  unfold sepB; omega
              · obtain ⟨x, r, e⟩ := ne_cons (l := G) (by intro e; rw [e] at hpbl; simp at hpbl)
                obtain ⟨k, rfl⟩ : ∃ k, pb = k + 1 := ⟨pb - 1, by omega⟩
                rw [e, List.take_succ_cons, List.cons_append, List.cons_append, hn]
                refine rt_same hln hcode0 ?_
                rw [← hn, ← hG, e]; rfl
            refine ⟨?_, ?_⟩
            · rw [e1]
              have := Tz.cons (L.take n ++ (G.take pb ++ B ++ R2)) (np t2 :: T2.map np) (by intro e; have := congrArg List.length e; rw [List.length_append, htl] at this; simp at this; omega) (by rw [hrt]; exact hcode0) (by
                have e2 : (L.take n ++ (G.take pb ++ B ++ R2)).drop n = G.take pb ++ B ++ R2 := by
                  rw [List.drop_append_of_le_length (by omega), List.drop_eq_nil_iff.2 (by omega : (L.take n).length ≤ n), List.nil_append]
                rw [hrt, ← hn, ← List.drop_drop, e2]
                have e3 : pbGo false (G.take pb ++ B ++ R2) = pb + B.length := by
                  rw [List.append_assoc, hpb, pb_ins G false (B ++ R2) (by omega), pb_all B R2 hB, hR0]; omega
                rw [e3]
                have e4 : (G.take pb ++ B ++ R2).drop (pb + B.length) = R2 := by
                  rw [List.drop_append_of_le_length (by simp; omega), List.drop_eq_nil_iff.2 (by simp; omega), List.nil_append]
                rw [e4]; exact hz)
              rw [hrt] at this
              exact this
            · rw [e1, ← hL]
              obtain ⟨x, r, e⟩ := ne_cons hln
              obtain ⟨k, rfl⟩ : ∃ k, n = k + 1 := ⟨n - 1, by omega⟩
              rw [e, List.take_succ_cons]; rfl
    · simp at h
theorem ins_res {s B : List UInt8} {T : List Tok} (hB : ∀ b ∈ B, (b.toNat : Int) = 10 ∨ (b.toNat : Int) = 9 ∨ (b.toNat : Int) = 13 ∨ (b.toNat : Int) = 32) (hT : tkRes s = (T, 0, 0)) (hl : (ins B s 0 T).length ≤ 65536) : ∃ M, tkRes (ins B s 0 T) = (M, 0, 0) ∧ M.map np = T.map np := by
  have hcnt : T.length ≤ 8192 := by have := tkRes_len s; rw [hT] at this; exact this
  cases T with
  | nil => exact ⟨[], by rw [show ins B s 0 [] = s from rfl]; exact hT, rfl⟩
  | cons t T =>
    have hgo : tkGo s (s.length + 1) (pbGo false s) 0 = (t :: T, 0, 0) := by
      unfold tkRes at hT
      split at hT
      · simp at hT
      · split at hT
        · simp at hT
        · rename_i hc
          have hc0 : (tkGo s (s.length + 1) (pbGo false s) 0).2.2 = 0 := by simpa using hc
          have hfa := tkGo_fa s _ _ _ hc0
          simp only [Prod.mk.injEq] at hT
          exact Prod.ext hT.1 (Prod.ext hfa hc0)
    obtain ⟨hp, hpl, hz, hh⟩ := ins_core B s hB (s.length + 1) (pbGo false s) 0 t T (by omega) hgo
    obtain ⟨R, hR⟩ : ∃ R, R = ins B s (pbGo false s) T := ⟨_, rfl⟩
    have e1 : ins B s 0 (t :: T) = s.take (pbGo false s) ++ (B ++ R) := by
      simp only [ins]
      rw [hp, Int.toNat_natCast, ← hR, List.drop_zero, Nat.sub_zero, List.append_assoc]
    rw [← hR] at hz hh
    have hR0 : pbGo false R = 0 := pb_same hpl hh
    have e2 : pbGo false (s.take (pbGo false s) ++ (B ++ R)) = pbGo false s + B.length := by
      rw [pb_ins s false (B ++ R) hpl, pb_all B R hB, hR0]; omega
    rw [e1] at hl ⊢
    refine Tz.res ?_ hl (by simpa using hcnt)
    rw [e2]
    have e3 : (s.take (pbGo false s) ++ (B ++ R)).drop (pbGo false s + B.length) = R := by
      rw [← List.append_assoc, List.drop_append_of_le_length (by simp; omega), List.drop_eq_nil_iff.2 (by simp; omega), List.nil_append]
    rw [e3]; exact hz
end Go.Proofs.YthckmpjokabkcaaDoor
