/- The walk of the reference's Unquote. Asked: the text has room in memory. -/
import Derived.Test.YtahcllncjpaijaaDoorVs1
import Derived.Test.YtahcllncjpaijaaDoorUnq5
namespace Go.Proofs.YtahcllncjpaijaaDoor
open Go.RowKit

/-- What is taken is a tree's text. -/
def Sound (f : List UInt8 → Option (List Atm × Nat)) : Prop := ∀ l m x, f l = some (m, x) → ∃ t, m = flV t ∧ l.take x = prV t
theorem rpL_sound {f : List UInt8 → Option (List Atm × Nat)} (hf : Sound f) (hl : LenOk f) : ∀ (k : Nat) (out : List Atm) (n : Nat) (l : List UInt8) (u : Nat) (m : List Atm) (x : Nat), rpL f k out n l u = some (m, x) → ∃ t r, m = out ++ flVL (t :: r) ++ [⟨3, ((n + (r.length + 1) : Nat) : Int), 0, ByteArray.empty⟩] ∧ u ≤ x ∧ l.take (x - u) = prV t ++ prVS r ++ [93]
  | 0, _, _, _, _, _, _, h => by simp [rpL] at h
  | k + 1, out, n, l, u, m, x, h => by
    rw [rpL] at h
    split at h
    · cases e : f l with
      | none => rw [e] at h; cases h
      | some q =>
        obtain ⟨m0, x0⟩ := q
        rw [e] at h
        simp only at h
        obtain ⟨t, ht1, ht2⟩ := hf l m0 x0 e
        obtain ⟨_, hx0, _⟩ := hl l m0 x0 e
        split at h
        · rename_i hh
          injection h with h
          injection h with ha hb
          subst ha hb
          refine ⟨t, [], ?_, by omega, ?_⟩
          · rw [flVL, flVL, ht1]; simp
          · rw [prVS, List.append_nil, ← ht2, show u + x0 + 1 - u = x0 + 1 by omega, List.take_add_one]
            congr 1
            cases hd : l.drop x0 with
            | nil => rw [hd] at hh; cases hh
            | cons c r =>
              rw [hd] at hh
              simp at hh
              have : l[x0]? = some c := by
                have := List.getElem?_drop (xs := l) (i := x0) (j := 0)
                rw [hd] at this
                simpa using this.symm
              rw [this, hh]; rfl
        · split at h
          · rename_i h2'
            obtain ⟨t1, r1, i1, i2, i3⟩ := rpL_sound hf hl k _ _ _ _ m x h
            refine ⟨t, t1 :: r1, ?_, by omega, ?_⟩
            · have e0 : flVL (t :: t1 :: r1) = flV t ++ flVL (t1 :: r1) := by rw [flVL]
              have e1 : n + 1 + (r1.length + 1) = n + ((t1 :: r1).length + 1) := by rw [List.length_cons]; omega
              rw [i1, ht1, e0, e1, List.append_assoc out]
            · rw [prVS]
              have e1 : x - u = x0 + (2 + (x - (u + x0 + 2))) := by omega
              rw [e1, List.take_add, ht2, List.take_add, h2', List.drop_drop, i3]
              simp
          · cases h
    · cases h
theorem rpN_sound : Sound rpN := fun l m x h => by
  unfold rpN at h
  split at h
  · rename_i hh
    split at h
    · rename_i hc
      injection h with h
      injection h with ha hb
      subst ha hb
      obtain ⟨d0, d1⟩ := numB_dec hc.1
      obtain ⟨c, r, rfl⟩ : ∃ c r, l = c :: r := by
        cases l with
        | nil => cases hh
        | cons c r => exact ⟨c, r, rfl⟩
      simp at hh
      subst hh
      rw [List.drop_one, List.tail_cons] at *
      obtain ⟨v, hv⟩ : ∃ v, v = L1.numN (r.take (L1.dLen r)) := ⟨_, rfl⟩
      rw [← hv] at d0 d1 hc ⊢
      refine ⟨.nd 1 (-v) ByteArray.empty [], by rw [flV, flVL]; rfl, ?_⟩
      rw [prV, if_pos rfl]
      unfold Lib.itoa
      have : (-v).natAbs = v.toNat := by omega
      rw [if_pos (by omega), this, d1, Nat.add_comm, List.take_succ_cons]
    · cases h
  · split at h
    · rename_i hc
      injection h with h
      injection h with ha hb
      subst ha hb
      obtain ⟨d0, d1⟩ := numB_dec hc
      obtain ⟨v, hv⟩ : ∃ v, v = L1.numN (l.take (L1.dLen l)) := ⟨_, rfl⟩
      rw [← hv] at d0 d1 ⊢
      refine ⟨.nd 1 v ByteArray.empty [], by rw [flV, flVL]; rfl, ?_⟩
      rw [prV, if_pos rfl]
      unfold Lib.itoa
      rw [if_neg (by omega), d1]
    · cases h
theorem rpQ_sound : Sound rpQ := fun l m x h => by
  unfold rpQ at h
  split at h
  · rename_i hc
    injection h with h
    injection h with ha hb
    subst ha hb
    refine ⟨.nd 2 0 ⟨(L1.unqT (l.take (sq (l.drop 1) + 2))).toArray⟩ [], by rw [flV, flVL]; rfl, ?_⟩
    rw [prV, if_neg (by decide), if_pos rfl]
    exact (quo_unq hc.2).symm
  · cases h
theorem rpV_sound : ∀ d, Sound (rpV d)
  | 0 => fun l m x h => by simp [rpV] at h
  | d + 1 => fun l m x h => by
    rw [rpV] at h
    split at h
    · cases h
    · split at h
      · exact rpQ_sound l m x h
      · split at h
        · rename_i h91
          obtain ⟨c, r, rfl⟩ : ∃ c r, l = c :: r := by
            cases l with
            | nil => cases h91
            | cons c r => exact ⟨c, r, rfl⟩
          simp at h91
          subst h91
          rw [List.drop_one, List.tail_cons] at h
          split at h
          · rename_i hh
            injection h with h
            injection h with ha hb
            subst ha hb
            refine ⟨.nd 3 0 ByteArray.empty [], by rw [flV, flVL]; rfl, ?_⟩
            rw [prV, if_neg (by decide), if_neg (by decide), prVL]
            cases r with
            | nil => cases hh
            | cons e r => simp at hh; subst hh; rfl
          · obtain ⟨t, ps, i1, i2, i3⟩ := rpL_sound (rpV_sound d) (rpV_len d) _ _ _ _ _ m x h
            refine ⟨.nd 3 0 ByteArray.empty (t :: ps), ?_, ?_⟩
            · rw [i1, flV]; simp
            · rw [prV, if_neg (by decide), if_neg (by decide), prVL, ← i3]
              obtain ⟨y, rfl⟩ : ∃ y, x = y + 1 := ⟨x - 1, by omega⟩
              rw [List.take_succ_cons]; rfl
        · exact rpN_sound l m x h
/-- Each tree's text is taken. -/
def Taken (f : List UInt8 → Option (List Atm × Nat)) (t : Vt) : Prop := ∀ X, okX X → f (prV t ++ X) = some (flV t, (prV t).length)
theorem rpL_taken {f : List UInt8 → Option (List Atm × Nat)} : ∀ (r : List Vt) (t : Vt) (k : Nat) (out : List Atm) (n : Nat) (u : Nat) (Y : List UInt8), (∀ x ∈ t :: r, Taken f x) → r.length < k → out.length + szVL (t :: r) ≤ 1023 →
    rpL f k out n (prV t ++ (prVS r ++ 93 :: Y)) u = some (out ++ flVL (t :: r) ++ [⟨3, ((n + (r.length + 1) : Nat) : Int), 0, ByteArray.empty⟩], u + (prV t ++ prVS r).length + 1)
  | r, t, 0, _, _, _, _, _, hk, _ => by omega
  | [], t, k + 1, out, n, u, Y, hf, hk, hs => by
    rw [rpL, if_pos (by omega), hf t (by simp) _ (okX_more [] Y)]
    simp only
    rw [List.drop_left, prVS, List.nil_append, if_pos (by rfl), flVL, flVL]
    simp
  | s :: r, t, k + 1, out, n, u, Y, hf, hk, hs => by
    have ih := rpL_taken r s k (out ++ flV t) (n + 1) (u + (prV t).length + 2) Y (fun x hx => hf x (List.mem_cons_of_mem _ hx)) (by simpa using hk) (by
      have e : szVL (t :: s :: r) = szV t + szVL (s :: r) := szVL_cons ..
      rw [List.length_append]
      have : (flV t).length = szV t := rfl
      omega)
    rw [rpL, if_pos (by omega), hf t (by simp) _ (okX_more (s :: r) Y)]
    simp only
    have e1 : prVS (s :: r) ++ 93 :: Y = 44 :: 32 :: (prV s ++ (prVS r ++ 93 :: Y)) := by rw [prVS]; simp
    rw [List.drop_left, e1, if_neg (by simp), if_pos (by rfl)]
    have e2 : (prV t ++ 44 :: 32 :: (prV s ++ (prVS r ++ 93 :: Y))).drop ((prV t).length + 2) = prV s ++ (prVS r ++ 93 :: Y) := by rw [← List.drop_drop, List.drop_left]; rfl
    rw [e2, ih]
    have e3 : flVL (t :: s :: r) = flV t ++ flVL (s :: r) := by rw [flVL]
    have e4 : prVS (s :: r) = 44 :: 32 :: (prV s ++ prVS r) := by rw [prVS]
    rw [e3, e4]
    refine congrArg some (Prod.ext ?_ ?_)
    · simp; omega
    · simp; omega
theorem prV_head (t : Vt) : ∃ c r, prV t = c :: r ∧ c ≠ 93 := by
  obtain ⟨k, i, tx, ps⟩ := t
  rw [prV]
  have hd : ∀ u, ∃ c r, Lib.decDigits u = c :: r ∧ c ≠ 93 := fun u => by
    obtain ⟨c, r, e, h1, h2⟩ := dec_cons u
    refine ⟨c, r, e, fun e9 => ?_⟩
    rw [e9] at h2
    exact absurd h2 (by decide)
  split
  · unfold Lib.itoa
    split
    · exact ⟨_, _, rfl, by decide⟩
    · exact hd _
  · split
    · exact ⟨34, _, rfl, by decide⟩
    · exact ⟨91, _, rfl, by decide⟩
theorem dpVL_in : ∀ {l : List Vt} {t : Vt}, t ∈ l → dpV t ≤ dpVL l
  | _ :: _, _, h => by
    rw [dpVL]
    rcases List.mem_cons.1 h with rfl | h
    · omega
    · have := dpVL_in h; omega
theorem wfVL_mem : ∀ {l : List Vt} {t : Vt}, t ∈ l → wfVL l → wfV t
  | _ :: _, _, h, hw => by
    rw [wfVL] at hw
    rcases List.mem_cons.1 h with rfl | h
    · exact hw.1
    · exact wfVL_mem h hw.2
theorem szVL_mem : ∀ {l : List Vt} {t : Vt}, t ∈ l → szV t ≤ szVL l
  | _ :: _, _, h => by
    rw [szVL_cons]
    rcases List.mem_cons.1 h with rfl | h
    · omega
    · have := szVL_mem h; omega
theorem rpV_taken : ∀ (d : Nat) (t : Vt), wfV t → dpV t ≤ d → szV t ≤ 1024 → Taken (rpV d) t
  | 0, .nd k i tx ps, _, hd, _ => by rw [dpV] at hd; omega
  | d + 1, .nd k i tx ps, h, hd, hs => fun X hX => by
    have hw := h
    rw [wfV] at h
    have hb := atB_is h.1
    have hne : prV (.nd k i tx ps) ++ X ≠ [] := by
      obtain ⟨c, r, e, _⟩ := prV_head (.nd k i tx ps)
      rw [e]; simp
    rw [rpV, if_neg hne]
    have e0 : prV (.nd k i tx ps) = if k = 1 then Lib.itoa i else if k = 2 then quo tx.data.toList else 91 :: (prVL ps ++ [93]) := by rw [prV]
    by_cases h1 : k = 1
    · have hi : -9007199254740992 ≤ i ∧ i ≤ 9007199254740992 := by rcases hb with ⟨_, e, e'⟩ | ⟨e, _⟩ | e <;> omega
      rw [if_pos h1] at e0
      have ha := h.1
      rw [atB_def, if_pos h1] at ha
      simp only [Bool.and_eq_true, decide_eq_true_eq] at ha
      have hp : ps = [] := List.length_eq_zero_iff.1 (by omega)
      subst hp h1
      have ht := empty_of ha.2
      subst ht
      rw [e0, flV, flVL]
      by_cases hneg : i < 0
      · obtain ⟨u, rfl⟩ : ∃ u : Nat, i = -(u : Int) := ⟨i.natAbs, by omega⟩
        obtain ⟨n1, n2⟩ := numB_of u (by omega)
        have hdg := okX_dg hX (Lib.decDigits u) (L1.dec_dg u)
        rw [Lib.itoa_neg u (by omega), List.cons_append, if_neg (by simp), if_neg (by simp)]
        unfold rpN
        rw [if_pos (by rfl), List.drop_one, List.tail_cons, hdg, List.take_left, n1, n2, if_pos ⟨rfl, by omega⟩]
        simp; omega
      · obtain ⟨u, rfl⟩ : ∃ u : Nat, i = (u : Int) := ⟨i.toNat, by omega⟩
        obtain ⟨n1, n2⟩ := numB_of u (by omega)
        have hdg := okX_dg hX (Lib.decDigits u) (L1.dec_dg u)
        obtain ⟨c, r, ec, c1, c2⟩ := dec_cons u
        have hh : ∀ b : UInt8, ((b.toNat : Int) < 48) ∨ 57 < (b.toNat : Int) → ¬ (Lib.decDigits u ++ X).head? = some b := fun b hb e => by
          rw [ec] at e
          simp at e
          subst e
          omega
        rw [Lib.itoa_nonneg, if_neg (hh 34 (by decide)), if_neg (hh 91 (by decide))]
        unfold rpN
        rw [if_neg (hh 45 (by decide)), hdg, List.take_left, n1, n2, if_pos rfl]
        simp
    · rw [if_neg h1] at e0
      by_cases h2 : k = 2
      · rw [if_pos h2] at e0
        have ha := h.1
        rw [atB_def, if_neg h1, if_pos h2] at ha
        simp only [Bool.and_eq_true, decide_eq_true_eq] at ha
        have hp : ps = [] := List.length_eq_zero_iff.1 (by omega)
        have hi : i = 0 := ha.1.2
        subst hp h2 hi
        rw [e0, flV, flVL]
        have hq : quo tx.data.toList ++ X = 34 :: (tx.data.toList.flatMap qB ++ 34 :: X) := by simp [quo]
        have hlen : (quo tx.data.toList).length = (tx.data.toList.flatMap qB).length + 2 := by simp [quo]
        rw [if_pos (by rw [hq]; rfl)]
        unfold rpQ
        have hsq : sq ((quo tx.data.toList ++ X).drop 1) = (tx.data.toList.flatMap qB).length := by rw [hq]; exact sq_quo _ _
        rw [hsq, ← hlen, List.take_left, (unq_quo _).1, if_pos ⟨by rw [hq]; simp, (unq_quo _).2⟩]
        rfl
      · rw [if_neg h2] at e0
        have h3 : k = 3 := by
          have ha := h.1
          rw [atB_def, if_neg h1, if_neg h2] at ha
          split at ha
          · assumption
          · cases ha
        subst h3
        obtain ⟨e1, e2⟩ := wf_end hw
        subst e1 e2
        rw [e0, List.cons_append, if_neg (by simp), if_pos (by rfl), List.drop_one, List.tail_cons, flV]
        cases ps with
        | nil => rw [prVL, flVL]; rfl
        | cons t r =>
          obtain ⟨c, y, ec, hc⟩ := prV_head t
          rw [dpV] at hd
          have hsz : szVL (t :: r) ≤ 1023 := by
            have : szV (.nd 3 0 ByteArray.empty (t :: r)) = szVL (t :: r) + 1 := szV_nd ..
            omega
          have hk : r.length < (91 :: (prVL (t :: r) ++ [93] ++ X)).length + 1 := by
            have hlr : ∀ r : List Vt, r.length ≤ (prVS r).length := fun r => by
              induction r with
              | nil => simp
              | cons a r ih => rw [prVS]; simp; omega
            have := hlr r
            rw [prVL]; simp; omega
          have := rpL_taken r t ((91 :: (prVL (t :: r) ++ [93] ++ X)).length + 1) [] 0 1 X (fun x hx => rpV_taken d x (wfVL_mem hx h.2) (by have := dpVL_in hx; omega) (by have := szVL_mem hx; omega)) hk (by simpa using hsz)
          have e9 : prVL (t :: r) ++ [93] ++ X = prV t ++ (prVS r ++ 93 :: X) := by rw [prVL]; simp
          rw [if_neg (by rw [prVL, ec]; simp [hc]), e9]
          rw [e9] at this
          rw [this, prVL]
          refine congrArg some (Prod.ext ?_ ?_)
          · simp
          · simp; omega
/-- All in all. -/
theorem atB_wf : ∀ (t : Vt), (∀ a ∈ flV t, atB a = true) → wfV t
  | .nd k i tx ps, h => by
    rw [wfV]
    rw [flV] at h
    exact ⟨h _ (by simp), atB_wfL ps (fun a ha => h a (by simp [ha]))⟩
where atB_wfL : ∀ (l : List Vt), (∀ a ∈ flVL l, atB a = true) → wfVL l
  | [], _ => by rw [wfVL]; trivial
  | t :: r, h => by
    rw [wfVL]
    rw [flVL] at h
    exact ⟨atB_wf t (fun a ha => h a (by simp [ha])), atB_wfL r (fun a ha => h a (by simp [ha]))⟩
theorem rparse_iff (s : List UInt8) : (∃ t, RT t ∧ prV t = s) ↔ ∃ m, rpV 32 s = some (m, s.length) ∧ chkV m = 0 := by
  constructor
  · rintro ⟨t, hr, rfl⟩
    have := rpV_taken 32 t hr.wf hr.dp hr.sz [] (Or.inl rfl)
    rw [List.append_nil] at this
    exact ⟨flV t, this, hr.chk⟩
  · rintro ⟨m, h1, h2⟩
    obtain ⟨t, e1, e2⟩ := rpV_sound 32 s m _ h1
    obtain ⟨t', e3, hr⟩ := RT.of h2
    have hw : wfV t := atB_wf t (by rw [← e1, e3]; exact flV_atB t' hr.wf)
    have : t = t' := flV_inj hw hr.wf (by rw [← e1, e3])
    subst this
    exact ⟨t, hr, by rw [← e2, List.take_length]⟩
theorem rparse_is {s : List UInt8} {t : Vt} {m : List Atm} {x : Nat} (hr : RT t) (h : prV t = s) (hm : rpV 32 s = some (m, x)) : m = flV t ∧ x = s.length := by
  subst h
  have := rpV_taken 32 t hr.wf hr.dp hr.sz [] (Or.inl rfl)
  rw [List.append_nil, hm] at this
  injection this with this
  injection this with a b
  exact ⟨a, b⟩
end Go.Proofs.YtahcllncjpaijaaDoor
namespace Go.Proofs.YtahcllncjpaijaaDoor.L1
open Go.RowKit

set_option maxHeartbeats 1000000 in
theorem quoted_none (s : ByteArray) (n : Nat) (w : World) (h : s.size ≤ n ∨ ∃ h : n < s.size, ¬ (s[n].toNat : Int) = 34) :
    Calls Tryd.prog 90 #[.string s, .int .i64 n] w fun e w' => e = .returned (.tuple #[.int .i64 0, .string ⟨([] : List UInt8).toArray⟩, .bool false]) ∧ Below w.heap.size w w' := by
  rcases h with h | ⟨hlt, h⟩
  · go_enter Tryd.func90, Tryd.ntmps90
    go_wp2
    go_ret3
    exact ⟨rfl, Below.refl _ _⟩
  · have hq1 : ((s[n].toNat : Int) != 34) = true := by simpa using h
    have hq2 : ((s[n].toNat : Int) == 34) = false := by simpa using h
    have hnn : ¬ s.size ≤ n := by omega
    go_enter Tryd.func90, Tryd.ntmps90
    go_wp2
    go_ret3
    exact ⟨rfl, Below.refl _ _⟩

set_option maxHeartbeats 1000000 in
theorem refUnquote_any (s : ByteArray) (w : World) (hs : s.size ≤ 140737488351232) :
    Calls Tryd.prog 65 #[.string s] w fun e w' => e = .returned (.tuple #[.string ⟨(unqT s.data.toList).toArray⟩, .bool (unqB s.data.toList)]) ∧ Below w.heap.size w w' := by
  by_cases hq : ∃ h0 : 0 < s.size, (s[0].toNat : Int) = 34
  · obtain ⟨h0, hq⟩ := hq
    have QA := quoted_any s 0 w hs h0 hq
    have hh : s.data.toList.head? = some 34 := by rw [head_of h0, u8_eq (n := 34) (by omega) hq]; rfl
    by_cases hok : (qa s.data.toList 0).2.2 = true
    · by_cases hend : (qa s.data.toList 0).2.1 = s.size
      · have HU : Hid _ := unq_t (l := s.data.toList) ⟨hh, hok, by rw [hend]; simp⟩
        rw [hok, hend] at QA
        clear hh hok hend
        go_enter Tryd.func65, Tryd.ntmps65
        go_wp2_with (go_at_call 90; refine QA.mono ?_; rintro e w' ⟨rfl, hb⟩)
        go_ret2
        exact ⟨ret_unq HU.out.1.symm HU.out.2.symm, hb⟩
      · have HU : Hid _ := unq_f (l := s.data.toList) (fun h => hend (by rw [h.2.2]; simp))
        rw [hok] at QA
        have hend' : (((qa s.data.toList 0).2.1 : Int) == (s.size : Int)) = false := by simp; omega
        have hend2 : (((qa s.data.toList 0).2.1 : Int) != (s.size : Int)) = true := by simp; omega
        generalize (qa s.data.toList 0).2.1 = E at *
        generalize (qa s.data.toList 0).1 = T at *
        clear hh hok
        go_enter Tryd.func65, Tryd.ntmps65
        go_wp2_with (go_at_call 90; refine QA.mono ?_; rintro e w' ⟨rfl, hb⟩)
        go_ret2
        exact ⟨ret_unq HU.out.1.symm HU.out.2.symm, hb⟩
    · have HU : Hid _ := unq_f (l := s.data.toList) (fun h => hok h.2.1)
      have hok' : (qa s.data.toList 0).2.2 = false := by simpa using hok
      rw [hok'] at QA
      generalize (qa s.data.toList 0).2.1 = E at *
      generalize (qa s.data.toList 0).1 = T at *
      clear hh hok hok'
      go_enter Tryd.func65, Tryd.ntmps65
      go_wp2_with (go_at_call 90; refine QA.mono ?_; rintro e w' ⟨rfl, hb⟩)
      go_ret2
      exact ⟨ret_unq HU.out.1.symm HU.out.2.symm, hb⟩
  · have QA := quoted_none s 0 w (by
      by_cases h0 : 0 < s.size
      · exact Or.inr ⟨h0, fun h => hq ⟨h0, h⟩⟩
      · exact Or.inl (by omega))
    have HU : Hid _ := unq_f (l := s.data.toList) (fun h => by
      by_cases h0 : 0 < s.size
      · have := h.1; rw [head_of h0] at this
        exact toNat_ne (n := 34) (c := s[0]) (by omega) (fun e => hq ⟨h0, e⟩) (by simpa using this)
      · obtain rfl := empty_of (s := s) (by omega)
        have := h.1; simp at this)
    clear hq
    go_enter Tryd.func65, Tryd.ntmps65
    go_wp2_with (go_at_call 90; refine QA.mono ?_; rintro e w' ⟨rfl, hb⟩)
    go_ret2
    exact ⟨ret_unq HU.out.1.symm HU.out.2.symm, hb⟩
end Go.Proofs.YtahcllncjpaijaaDoor.L1
