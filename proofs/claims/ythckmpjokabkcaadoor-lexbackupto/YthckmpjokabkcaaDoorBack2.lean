/- Plain mathematics: the tokens of laid tokens are these, but for their places. No condition. -/
import Derived.Test.YthckmpjokabkcaaDoorBack1
namespace Go.Proofs.YthckmpjokabkcaaDoor

theorem wLen_head {l : List UInt8} (h : wordB l = true) : ∃ c r, l = c :: r ∧ isSm c = true ∧ wLen l = l.length := by
  simp only [wordB, decide_eq_true_eq] at h
  match l, h with
  | c :: r, h =>
    refine ⟨c, r, rfl, ?_, h.2⟩
    cases e : isSm c with
    | true => rfl
    | false => rw [wLen_cons_neg e] at h; simp at h
  | [], h => exact absurd rfl h.1
theorem isSm_num {c : UInt8} (h : isSm c = true) : 97 ≤ (c.toNat : Int) ∧ (c.toNat : Int) ≤ 122 := by simpa only [isSm, decide_eq_true_eq] using h
theorem isDg_num {c : UInt8} (h : isDg c = true) : 48 ≤ (c.toNat : Int) ∧ (c.toNat : Int) ≤ 57 := by simpa only [isDg, decide_eq_true_eq] using h
/-- What begins no blank. -/
def firstB (c : UInt8) : Prop := ¬ ((c.toNat : Int) = 10 ∨ (c.toNat : Int) = 9 ∨ (c.toNat : Int) = 13 ∨ (c.toNat : Int) = 32 ∨ (c.toNat : Int) = 35)
theorem rw_word {d : Bool} {l : List UInt8} (h : localB l = true) : rw' d l = ⟨0, if d then 3 else if keyL l then 2 else 1, 0, l, l.length + (if d then 1 else 0)⟩ := by
  simp only [localB, Bool.and_eq_true, decide_eq_true_eq] at h
  obtain ⟨c, r, e, hs, hw⟩ := wLen_head h.2
  have h1 : l.length ≠ 0 := by rw [e]; simp
  unfold rw'
  rw [hw, if_neg h1, if_neg (by omega), List.take_length]
theorem rt_word {l : List UInt8} (h : localB l = true) : rt l = ⟨0, if keyL l then 2 else 1, 0, l, l.length⟩ ∧ ∃ c r, l = c :: r ∧ firstB c := by
  have h' := h
  simp only [localB, Bool.and_eq_true, decide_eq_true_eq] at h'
  obtain ⟨c, r, e, hs, hw⟩ := wLen_head h'.2
  have hn := isSm_num hs
  refine ⟨?_, c, r, e, by unfold firstB; omega⟩
  have hr := rw_word (d := false) h
  subst e
  simp only [rt]
  rw [if_neg (by omega), if_pos hs, hr]; simp
theorem rt_local {l : List UInt8} (h : localB l = true) : rt (36 :: l) = ⟨0, 3, 0, l, l.length + 1⟩ := by
  have hr := rw_word (d := true) h
  simp only [rt]
  rw [if_pos (by decide), hr]; simp
theorem rt_dec {u : Nat} (hu : u ≤ 9007199254740992) : rt (Lib.decDigits u) = ⟨0, 4, (u : Int), [], (Lib.decDigits u).length⟩ ∧ ∃ c r, Lib.decDigits u = c :: r ∧ firstB c := by
  have hr := rn_dec u hu
  have hd := dec_dg u
  cases e : Lib.decDigits u with
  | nil => exact absurd e (dec_ne u)
  | cons c r =>
    rw [e] at hr hd
    have hc := hd c (by simp)
    have hn := isDg_num hc
    refine ⟨?_, c, r, rfl, by unfold firstB; omega⟩
    simp only [rt]
    have hs : isSm c = false := isSm_f (by omega)
    rw [if_neg (by omega), if_neg (by rw [hs]; simp), if_pos hc, hr]
theorem rt_quo {l : List UInt8} (h : l.length ≤ 4096) : rt (quo l) = ⟨0, 5, 0, l, (quo l).length⟩ := by
  have hu := uq_quo l []
  have e : quo l = 34 :: (l.flatMap qB ++ [34]) := rfl
  have es : isSm 34 = false := by decide
  have ed : isDg 34 = false := by decide
  rw [e]
  simp only [rt]
  rw [if_neg (by decide), if_neg (by rw [es]; simp), if_neg (by rw [ed]; simp), if_pos (by decide)]
  unfold rq
  rw [List.drop_one, List.tail_cons, hu]
  simp only
  rw [if_neg (by omega)]
  simp
theorem rt_mark : ∀ x ∈ mk, (rt x.data.toList).code = 0 ∧ (rt x.data.toList).kind = 6 ∧ (rt x.data.toList).num = 0 ∧ (rt x.data.toList).text = x.data.toList ∧ (rt x.data.toList).len = x.data.toList.length ∧ ∃ c r, x.data.toList = c :: r ∧ firstB c := by
  intro x hx
  have h1 : ∀ x ∈ mk, (rt x.data.toList).code = 0 ∧ (rt x.data.toList).kind = 6 ∧ (rt x.data.toList).num = 0 ∧ (rt x.data.toList).text = x.data.toList ∧ (rt x.data.toList).len = x.data.toList.length := by decide +kernel
  have h2 : ∀ x ∈ mk, x.data.toList ≠ [] ∧ ∀ c ∈ x.data.toList, 36 < c.toNat := by decide +kernel
  obtain ⟨a, b, c, d, e⟩ := h1 x hx
  obtain ⟨f, g⟩ := h2 x hx
  refine ⟨a, b, c, d, e, ?_⟩
  cases e2 : x.data.toList with
  | nil => exact absurd e2 f
  | cons y r => exact ⟨y, r, rfl, by have := g y (by rw [e2]; simp); unfold firstB; omega⟩
theorem inB_mem {l : List ByteArray} {s : ByteArray} (h : inB l s = true) : ∃ x ∈ l, x.data.toList = s.data.toList := by
  unfold inB at h
  rw [List.any_eq_true] at h
  obtain ⟨x, hx, e⟩ := h
  refine ⟨x, hx, ?_⟩
  rw [ByteArray.toList_eq, ByteArray.toList_eq] at e
  simpa using e
theorem kw_word : ∀ x ∈ kw, localB x.data.toList = true := by decide +kernel
/-- What is written of a token that can be told is told to be that token. -/
theorem rt_lay {t : Tok} (h : told t = true) : rt (layT t) = ⟨0, t.kind, t.num, t.text, (layT t).length⟩ ∧ ∃ c r, layT t = c :: r ∧ firstB c := by
  obtain ⟨k, p, n, x⟩ := t
  simp only [told, toldB] at h
  simp only [layT]
  by_cases h4 : k = 4
  · rw [if_pos h4] at h ⊢
    subst h4
    simp only [decide_eq_true_eq] at h
    have hx : x = [] := by
      have : (ByteArray.mk x.toArray).size = x.length := by simp [ByteArray.size]
      exact List.length_eq_zero_iff.1 (by omega)
    subst hx
    obtain ⟨u, hu⟩ : ∃ u : Nat, n = (u : Int) := ⟨n.toNat, by omega⟩
    subst hu
    have e : Lib.itoa (u : Int) = Lib.decDigits u := by unfold Lib.itoa; rw [if_neg (by omega)]; simp
    rw [e]
    exact rt_dec (by omega)
  · rw [if_neg h4] at h ⊢
    rw [Bool.and_eq_true, decide_eq_true_eq] at h
    obtain ⟨hn, h⟩ := h
    subst hn
    unfold textOfB at h
    have ex : (ByteArray.mk x.toArray).data.toList = x := by simp
    by_cases h1 : k = 1
    · subst h1
      rw [if_pos rfl] at h
      simp only [nameB, Bool.and_eq_true] at h
      have hk : keyL x = false := by
        have := h.2
        rw [keyL_in, ex] at this
        simpa using this
      obtain ⟨a, b⟩ := rt_word h.1
      rw [hk] at a
      exact ⟨a, b⟩
    · rw [if_neg h1] at h
      by_cases h2 : k = 2
      · subst h2
        rw [if_pos rfl] at h
        have hk : keyL x = true := by rw [keyL_in, ex] at h; exact h
        obtain ⟨y, hy, e⟩ := inB_mem h
        rw [ex] at e
        have hw := kw_word y hy
        rw [e] at hw
        obtain ⟨a, b⟩ := rt_word hw
        rw [hk] at a
        exact ⟨a, b⟩
      · rw [if_neg h2] at h
        by_cases h3 : k = 3
        · subst h3
          rw [if_pos rfl, ex] at h
          refine ⟨?_, 36, x, rfl, by unfold firstB; decide⟩
          exact rt_local h
        · rw [if_neg h3] at h
          by_cases h5 : k = 5
          · subst h5
            rw [if_pos rfl, decide_eq_true_eq] at h
            have : (ByteArray.mk x.toArray).size = x.length := by simp [ByteArray.size]
            refine ⟨?_, 34, _, rfl, by unfold firstB; decide⟩
            exact rt_quo (by omega)
          · rw [if_neg h5] at h
            by_cases h6 : k = 6
            · subst h6
              rw [if_pos rfl] at h
              obtain ⟨y, hy, e⟩ := inB_mem h
              rw [ex] at e
              obtain ⟨a1, a2, a3, a4, a5, a6⟩ := rt_mark y hy
              rw [e] at a1 a2 a3 a4 a5 a6
              refine ⟨?_, a6⟩
              show rt x = _
              cases hr : rt x with
              | mk b1 b2 b3 b4 b5 =>
                rw [hr] at a1 a2 a3 a4 a5
                simp only at a1 a2 a3 a4 a5
                rw [a1, a2, a3, a4, a5]; rfl
            · rw [if_neg h6] at h; cases h
theorem pb_first {c : UInt8} {r : List UInt8} (h : firstB c) : pbGo false (c :: r) = 0 := pb_no h
theorem Tz_lay : ∀ (r : List Tok) (t : Tok), told t = true → (∀ x ∈ r, told x = true) → Tz (layT t ++ layTail r) (np t :: r.map np)
  | [], t, ht, _ => by
    obtain ⟨h1, c, s, e, hc⟩ := rt_lay ht
    have e0 : layT t ++ layTail [] = layT t := by simp [layTail]
    rw [e0]
    have hn : layT t ≠ [] := by rw [e]; simp
    have := Tz.cons (layT t) [] hn (by rw [h1]) (by
      rw [h1]; simp only
      rw [List.drop_eq_nil_iff.2 (by omega)]; exact Tz.nil)
    rw [h1] at this
    exact this
  | t2 :: r, t, ht, hr => by
    obtain ⟨h1, c, s, e, hc⟩ := rt_lay ht
    have ht2 := hr t2 (by simp)
    obtain ⟨h12, c2, s2, e2, hc2⟩ := rt_lay ht2
    have ih := Tz_lay r t2 ht2 (fun x hx => hr x (by simp [hx]))
    have e0 : layT t ++ layTail (t2 :: r) = layT t ++ 32 :: (layT t2 ++ layTail r) := by simp [layTail]
    have hn : layT t ≠ [] := by rw [e]; simp
    have hrt : rt (layT t ++ 32 :: (layT t2 ++ layTail r)) = rt (layT t) := rt_blank_app _ (by unfold sepB; decide) (by rw [h1]) hn (by rw [h1])
    rw [e0]
    have ed : (layT t ++ 32 :: (layT t2 ++ layTail r)).drop (layT t).length = 32 :: (layT t2 ++ layTail r) := by
      rw [List.drop_append_of_le_length (by omega), List.drop_length, List.nil_append]
    have ep : pbGo false (32 :: (layT t2 ++ layTail r)) = 1 := by
      rw [pb_go (by decide) (by decide), e2, List.cons_append, pb_first hc2]
    have := Tz.cons (layT t ++ 32 :: (layT t2 ++ layTail r)) (np t2 :: r.map np) (by simp) (by rw [hrt, h1]) (by
      rw [hrt, h1]; simp only
      rw [ed, ep, ← List.drop_drop, ed]
      exact ih)
    rw [hrt, h1] at this
    exact this
/-- THERE AND BACK. -/
theorem lay_back {l : List Tok} (h : ∀ t ∈ l, told t = true) (hc : l.length ≤ 8192) (hl : (layL l).length ≤ 65536) : ∃ T, tkRes (layL l) = (T, 0, 0) ∧ T.map np = l.map np := by
  cases l with
  | nil => exact ⟨[], by rfl, rfl⟩
  | cons t r =>
    have e0 : layL (t :: r) = layT t ++ layTail r := by simp [layL, layTail]
    have ht := h t (by simp)
    obtain ⟨h1, c, s, e, hc1⟩ := rt_lay ht
    have hz := Tz_lay r t ht (fun x hx => h x (by simp [hx]))
    rw [e0] at hl ⊢
    refine Tz.res ?_ hl (by simpa using hc)
    rw [show pbGo false (layT t ++ layTail r) = 0 by rw [e, List.cons_append, pb_first hc1], List.drop_zero]
    exact hz
end Go.Proofs.YthckmpjokabkcaaDoor
