/- Rows of tokens that a call owns, and the plain reading of a whole text. -/
import Derived.Test.YtahcllncjpaijabDoorTok2
namespace Go.Proofs.YtahcllncjpaijabDoor.L1
open Go.RowKit

/-- The token at the beginning of a text that is not empty, or its fault. -/
def rt (l : List UInt8) : RT := match l with
  | [] => RT.bad 10
  | c :: r => if (c.toNat : Int) = 36 then rw' true r else if isSm c then rw' false l else if isDg c then rn l else if (c.toNat : Int) = 34 then rq l else rm l

theorem rtV_form (R : RT) (n : Nat) : ∃ (a b c : Int) (t : ByteArray) (e k : Int), rtV R n = .tuple #[.agg #[.int .i64 a, .int .i64 b, .int .i64 c, .string t], .int .i64 e, .int .i64 k] := by
  unfold rtV
  split
  · exact ⟨_, _, _, _, _, _, rfl⟩
  · exact ⟨_, _, _, _, _, _, rfl⟩

set_option maxHeartbeats 2000000 in
theorem readToken_any (s : ByteArray) (n : Nat) (w : World) (hs : s.size ≤ 65536) (hn : n < s.size) (hk : KeysAt w) (hm : MarksAt w) :
    Calls Tryd.prog 33 #[.string s, .int .i64 n] w fun e w' => e = .returned (rtV (rt (s.data.toList.drop n)) n) ∧ Below w.heap.size w w' := by
  have HD : Hid (s.data.toList.drop n = s[n] :: s.data.toList.drop (n + 1)) := drop_cons s n hn
  have hc : (s[n].toNat : Int) ≤ 255 := by have := UInt8.toNat_lt s[n]; omega
  obtain ⟨R, hR⟩ : ∃ R, R = rt (s.data.toList.drop n) := ⟨_, rfl⟩
  rw [← hR]
  have HR : Hid (R = if (s[n].toNat : Int) = 36 then rw' true (s.data.toList.drop (n + 1)) else if isSm s[n] then rw' false (s.data.toList.drop n) else if isDg s[n] then rn (s.data.toList.drop n) else if (s[n].toNat : Int) = 34 then rq (s.data.toList.drop n) else rm (s.data.toList.drop n)) := by
    show _ = _
    rw [hR, HD.out]; simp only [rt]
  clear hR
  by_cases h36 : (s[n].toNat : Int) = 36
  · have HR2 : Hid (R = rw' true (s.data.toList.drop (n + 1))) := by show _ = _; rw [HR.out, if_pos h36]
    have C := readWord_any s n 1 (w.alloc (.cells #[.int .i64 0, .int .i64 0, .int .i64 0, .string ⟨#[]⟩] 77)) hs (by omega) (by omega) (hk.alloc _)
    simp only [decide_true] at C
    rw [← HR2.out] at C
    clear HR HR2 hk hm HD
    obtain ⟨va, vb, vc, vt, ve, vk, hv⟩ := rtV_form R n
    rw [hv] at C ⊢
    clear hv
    go_enter Tryd.func33, Tryd.ntmps33
    go_wp2_with (first | (go_at_call 55; refine C.mono ?_; rintro e w2 ⟨rfl, hb2⟩; obtain ⟨hc2, hf⟩ := oldCells hb2; have hz2 := hb2.size) | go_in)
    refine bodyPost_ret (v := .tuple #[.agg #[.int .i64 va, .int .i64 vb, .int .i64 vc, .string vt], .int .i64 ve, .int .i64 vk]) (by simp [results, Tryd.results33, go_sem, hc2]) rfl ⟨rfl, ?_⟩
    exact ((((((Below.refl _ _).alloc (Nat.le_refl _) _).trans (hb2.mono (by simp))).setCell (Nat.le_refl _) _).setCell (Nat.le_refl _) _).setCell (Nat.le_refl _) _).setCell (Nat.le_refl _) _
  have h36' : ((s[n].toNat : Int) == 36) = false := by simpa using h36
  by_cases hsm : 97 ≤ (s[n].toNat : Int) ∧ (s[n].toNat : Int) ≤ 122
  · have HR2 : Hid (R = rw' false (s.data.toList.drop n)) := by show _ = _; rw [HR.out, if_neg h36, if_pos (isSm_t hsm.1 hsm.2)]
    have C := readWord_any s n 0 (w.alloc (.cells #[.int .i64 0, .int .i64 0, .int .i64 0, .string ⟨#[]⟩] 77)) hs (by omega) (by omega) (hk.alloc _)
    simp only [Nat.add_zero, Nat.zero_ne_one, decide_false] at C
    rw [← HR2.out] at C
    clear HR HR2 hk hm HD
    obtain ⟨va, vb, vc, vt, ve, vk, hv⟩ := rtV_form R n
    rw [hv] at C ⊢
    clear hv
    obtain ⟨hs1, hs2⟩ := hsm
    go_enter Tryd.func33, Tryd.ntmps33
    go_wp2_with (first | (go_at_call 55; refine C.mono ?_; rintro e w2 ⟨rfl, hb2⟩; obtain ⟨hc2, hf⟩ := oldCells hb2; have hz2 := hb2.size) | go_in)
    refine bodyPost_ret (v := .tuple #[.agg #[.int .i64 va, .int .i64 vb, .int .i64 vc, .string vt], .int .i64 ve, .int .i64 vk]) (by simp [results, Tryd.results33, go_sem, hc2]) rfl ⟨rfl, ?_⟩
    exact ((((((Below.refl _ _).alloc (Nat.le_refl _) _).trans (hb2.mono (by simp))).setCell (Nat.le_refl _) _).setCell (Nat.le_refl _) _).setCell (Nat.le_refl _) _).setCell (Nat.le_refl _) _
  by_cases hdg : 48 ≤ (s[n].toNat : Int) ∧ (s[n].toNat : Int) ≤ 57
  · have HR2 : Hid (R = rn (s.data.toList.drop n)) := by show _ = _; rw [HR.out, if_neg h36, if_neg (by rw [isSm_f hsm]; simp), if_pos (by simp only [isDg, decide_eq_true_eq]; exact hdg)]
    have C := readNumber_any s n (w.alloc (.cells #[.int .i64 0, .int .i64 0, .int .i64 0, .string ⟨#[]⟩] 77)) hs (by omega)
    rw [← HR2.out] at C
    clear HR HR2 hk hm HD
    obtain ⟨va, vb, vc, vt, ve, vk, hv⟩ := rtV_form R n
    rw [hv] at C ⊢
    clear hv
    obtain ⟨hs1, hs2⟩ := hdg
    go_enter Tryd.func33, Tryd.ntmps33
    go_wp2_with (first | (go_at_call 57; refine C.mono ?_; rintro e w2 ⟨rfl, hb2⟩; obtain ⟨hc2, hf⟩ := oldCells hb2; have hz2 := hb2.size) | go_in)
    refine bodyPost_ret (v := .tuple #[.agg #[.int .i64 va, .int .i64 vb, .int .i64 vc, .string vt], .int .i64 ve, .int .i64 vk]) (by simp [results, Tryd.results33, go_sem, hc2]) rfl ⟨rfl, ?_⟩
    exact ((((((Below.refl _ _).alloc (Nat.le_refl _) _).trans (hb2.mono (by simp))).setCell (Nat.le_refl _) _).setCell (Nat.le_refl _) _).setCell (Nat.le_refl _) _).setCell (Nat.le_refl _) _
  have hdf : isDg s[n] = false := by simp only [isDg, decide_eq_false_iff_not]; exact hdg
  by_cases h34 : (s[n].toNat : Int) = 34
  · have HR2 : Hid (R = rq (s.data.toList.drop n)) := by show _ = _; rw [HR.out, if_neg h36, if_neg (by rw [isSm_f hsm]; simp), if_neg (by rw [hdf]; simp), if_pos h34]
    have C := readText_any s n (w.alloc (.cells #[.int .i64 0, .int .i64 0, .int .i64 0, .string ⟨#[]⟩] 77)) hs hn
    rw [← HR2.out] at C
    clear HR HR2 hk hm HD
    obtain ⟨va, vb, vc, vt, ve, vk, hv⟩ := rtV_form R n
    rw [hv] at C ⊢
    clear hv
    clear hdf hsm hdg
    go_enter Tryd.func33, Tryd.ntmps33
    go_wp2_with (first | (go_at_call 58; refine C.mono ?_; rintro e w2 ⟨rfl, hb2⟩; obtain ⟨hc2, hf⟩ := oldCells hb2; have hz2 := hb2.size) | go_in)
    refine bodyPost_ret (v := .tuple #[.agg #[.int .i64 va, .int .i64 vb, .int .i64 vc, .string vt], .int .i64 ve, .int .i64 vk]) (by simp [results, Tryd.results33, go_sem, hc2]) rfl ⟨rfl, ?_⟩
    exact ((((((Below.refl _ _).alloc (Nat.le_refl _) _).trans (hb2.mono (by simp))).setCell (Nat.le_refl _) _).setCell (Nat.le_refl _) _).setCell (Nat.le_refl _) _).setCell (Nat.le_refl _) _
  have h34' : ((s[n].toNat : Int) == 34) = false := by simpa using h34
  have HR2 : Hid (R = rm (s.data.toList.drop n)) := by show _ = _; rw [HR.out, if_neg h36, if_neg (by rw [isSm_f hsm]; simp), if_neg (by rw [hdf]; simp), if_neg h34]
  have C := readMark_any s n (w.alloc (.cells #[.int .i64 0, .int .i64 0, .int .i64 0, .string ⟨#[]⟩] 77)) hs hn (hm.alloc _)
  rw [← HR2.out] at C
  clear HR HR2 hk hm HD
  obtain ⟨va, vb, vc, vt, ve, vk, hv⟩ := rtV_form R n
  rw [hv] at C ⊢
  clear hv hdf
  rcases (by omega : (s[n].toNat : Int) < 97 ∨ 122 < (s[n].toNat : Int)) with a1 | a1
  all_goals
    rcases (by omega : (s[n].toNat : Int) < 48 ∨ 57 < (s[n].toNat : Int)) with a2 | a2
    all_goals
      first
      | omega
      | (have b1 : ¬ ((s[n].toNat : Int) ≤ 122 ∧ 97 ≤ (s[n].toNat : Int)) := by omega
         clear hsm hdg b1
         go_enter Tryd.func33, Tryd.ntmps33
         go_wp2_with (first | (go_at_call 59; refine C.mono ?_; rintro e w2 ⟨rfl, hb2⟩; obtain ⟨hc2, hf⟩ := oldCells hb2; have hz2 := hb2.size) | go_in)
         refine bodyPost_ret (v := .tuple #[.agg #[.int .i64 va, .int .i64 vb, .int .i64 vc, .string vt], .int .i64 ve, .int .i64 vk]) (by simp [results, Tryd.results33, go_sem, hc2]) rfl ⟨rfl, ?_⟩
         exact ((((((Below.refl _ _).alloc (Nat.le_refl _) _).trans (hb2.mono (by simp))).setCell (Nat.le_refl _) _).setCell (Nat.le_refl _) _).setCell (Nat.le_refl _) _).setCell (Nat.le_refl _) _)
end Go.Proofs.YtahcllncjpaijabDoor.L1
namespace Go.Proofs.YtahcllncjpaijabDoor.L1
open Go.RowKit

structure Tok where
  kind : Int
  pos : Int
  num : Int
  text : List UInt8
def tokC (t : Tok) : List Value := [.int .i64 t.kind, .int .i64 t.pos, .int .i64 t.num, .string ⟨t.text.toArray⟩]
theorem tokC_len (l : List Tok) : (l.flatMap tokC).length = l.length * 4 := by
  induction l with
  | nil => rfl
  | cons t r ih => rw [List.flatMap_cons, List.length_append, ih]; simp [tokC]; omega
/-- The slice v owns these tokens, in a row of the call's own. -/
def OwnT (w : World) (base : Nat) (v : Value) (l : List Tok) : Prop := w.ownsRow base 77 4 v l.length (l.flatMap tokC)
theorem info_tok : (Tryd.prog.info? 77).map (fun i => (i.zero, i.size, i.bytes)) = some (some (.agg #[.int .i64 0, .int .i64 0, .int .i64 0, .string ⟨#[]⟩]), 4, 40) := by kernel_rfl
theorem ownT_nil (w : World) (base : Nat) : OwnT w base (.slice none 0 0) [] := World.ownsRow_nil _ _ _ _
theorem ownsRow_below {w w' : World} {base : Nat} {e : TypeId} {size n : Nat} {v : Value} {xs : List Value} (h : w.ownsRow base e size v n xs) (hb : Below w.heap.size w w') : w'.ownsRow base e size v n xs := by
  obtain ⟨h1, h2⟩ := h
  refine ⟨h1, ?_⟩
  rcases h2 with h2 | ⟨g, cap, cur, e1, e2, e3, e4⟩
  · exact Or.inl h2
  · refine Or.inr ⟨g, cap, cur, e1, e2, ?_, e4⟩
    have hg : g < w.heap.size := by
      by_cases hlt : g < w.heap.size
      · exact hlt
      · rw [Array.getElem?_eq_none (by omega)] at e3; cases e3
    rw [hb.block g hg]; exact e3
theorem OwnT.below {w w' : World} {base : Nat} {v : Value} {l : List Tok} (h : OwnT w base v l) (hb : Below w.heap.size w w') : OwnT w' base v l := ownsRow_below h hb
theorem tokC_one (l : List Tok) : ∀ u ∈ l.flatMap tokC, u.oneCell' = true := by
  intro u hu
  obtain ⟨t, _, ht⟩ := List.mem_flatMap.1 hu
  simp [tokC] at ht
  rcases ht with rfl | rfl | rfl | rfl <;> rfl

theorem append_own_tok {P : Program} {ops : Array Oper} {rest : List Oper} {o : Oper} {a : Act} {Q : Exit → Act → World → Prop} (hgd : o.guard = none) (s x : Operand) (t : TypeId)
    (ho : o.op = .call { callee := .builtin .append, args := #[s, x], argTypes := #[t, t] })
    (base : Nat) (ht : P.underlying t = some (.slice 77)) (hi : (P.info? 77).map (fun i => (i.zero, i.size, i.bytes)) = some (some (.agg #[.int .i64 0, .int .i64 0, .int .i64 0, .string ⟨#[]⟩]), 4, 40))
    (w0 : World) (cells : Array Value) (tc : TypeId) (v : Value) (l : List Tok) (nt : Tok) (c : Nat) (hs : a.eval s = v) (hown : OwnT w0 base v l) (b : Nat) (hb : w0.heap.size = b)
    (hx : a.eval x = .slice (some ⟨b, 0, none⟩) 1 c) (hc : cells.toList = tokC nt)
    (hlen : l.length ≤ 100000) (hbase : base ≤ w0.heap.size)
    (h : ∀ v' w', OwnT w' base v' (l ++ [nt]) → Below base w0 w' → w0.heap.size ≤ w'.heap.size → wpList P ops Q rest (a.put o.dst v') w') : wpList P ops Q (o :: rest) a (w0.alloc (.cells cells tc)) := by
  subst hb
  obtain ⟨i0, hi0, hz0, hz1, hz2⟩ := info_parts hi
  have hown2 : (w0.alloc (.cells cells tc)).ownsRow base 77 4 v l.length (l.flatMap tokC) := World.ownsRow.alloc hown _
  refine wpList_append_own _ hgd s x t ho base 77 i0 (.agg #[.int .i64 0, .int .i64 0, .int .i64 0, .string ⟨#[]⟩]) 4 40 ht hi0 hz0 hz1 hz2 rfl (by decide) v l.length (l.flatMap tokC) hs hown2 ⟨w0.heap.size, 0, none⟩ 1 c (tokC nt) hx (by simp [tokC]) (news_at w0 cells tc _ hc) (fun u hu => tokC_one [nt] u (by simpa using hu))
    (by unfold maxLen; omega) (by omega) (by simp; omega) ?_
  intro v' w' ho' hg _
  have hgb : Below base w0 w' := ((Below.refl base w0).alloc hbase _).grown hg (by simp; omega) (fun q hq => (hown2.lt q hq).1)
  refine h v' w' ?_ hgb hgb.size
  unfold OwnT
  rw [List.length_append, List.flatMap_append]
  simpa using ho'

/-- The tokens from a place on, and the first fault (its code 0: none). -/
def tkGo (l : List UInt8) : Nat → Nat → Nat → List Tok × Int × Int
  | 0, _, _ => ([], 0, 0)
  | f + 1, p, cnt => if p < l.length then (if cnt = 8192 then ([], (p : Int), 3) else
      if (rt (l.drop p)).code ≠ 0 then ([], (p : Int), (rt (l.drop p)).code) else
      (⟨(rt (l.drop p)).kind, p, (rt (l.drop p)).num, (rt (l.drop p)).text⟩ :: (tkGo l f (p + (rt (l.drop p)).len + pbGo false (l.drop (p + (rt (l.drop p)).len))) (cnt + 1)).1,
        (tkGo l f (p + (rt (l.drop p)).len + pbGo false (l.drop (p + (rt (l.drop p)).len))) (cnt + 1)).2)) else ([], 0, 0)
def tkRes (l : List UInt8) : List Tok × Int × Int := if 65536 < l.length then ([], 0, 3) else
  if (tkGo l (l.length + 1) (pbGo false l) 0).2.2 ≠ 0 then ([], (tkGo l (l.length + 1) (pbGo false l) 0).2) else ((tkGo l (l.length + 1) (pbGo false l) 0).1, 0, 0)

theorem uq_len : ∀ (l : List UInt8) (t : List UInt8) (m : Nat), uq l = some (t, m) → 1 ≤ m ∧ m ≤ l.length
  | [], t, m, h => by rw [uq_nil] at h; cases h
  | c :: r, t, m, h => by
    by_cases hc : c = 34
    · subst hc; rw [uq_quote] at h; cases h; simp
    · cases hu : ub (c :: r) with
      | none => rw [uq_none hc hu] at h; cases h
      | some x =>
        obtain ⟨b, k⟩ := x
        have hk := ub_len _ _ _ hu
        rw [uq_some hc hu, Option.map_eq_some_iff] at h
        obtain ⟨⟨t2, m2⟩, h2, h3⟩ := h
        have := uq_len ((c :: r).drop k) t2 m2 h2
        simp only [Prod.mk.injEq] at h3
        rw [List.length_drop] at this
        omega
termination_by l => l.length
decreasing_by
  rw [List.length_drop]; have := (ub_len _ _ _ hu).1; simp only [List.length_cons]; omega
theorem rw_len {d : Bool} {r : List UInt8} (h : (rw' d r).code = 0) : 1 ≤ (rw' d r).len ∧ (rw' d r).len ≤ r.length + (if d then 1 else 0) := by
  unfold rw' at h ⊢
  have := wLen_le r
  split at h
  · simp [RT.bad] at h
  · split at h
    · simp [RT.bad] at h
    · rename_i h0 h1; rw [if_neg h0, if_neg h1]; simp only; split <;> omega
theorem rt_len {c : UInt8} {r : List UInt8} (h : (rt (c :: r)).code = 0) : 1 ≤ (rt (c :: r)).len ∧ (rt (c :: r)).len ≤ (c :: r).length := by
  simp only [rt] at h ⊢
  split at h
  · have := rw_len h; simp at this ⊢; rename_i hc; rw [if_pos hc]; omega
  · rename_i h36; rw [if_neg h36]
    split at h
    · rename_i hs; rw [if_pos hs]; have := rw_len h; simpa using this
    · rename_i hs; rw [if_neg hs]
      split at h
      · rename_i hd; rw [if_pos hd]
        unfold rn at h ⊢
        split at h
        · rename_i hb; rw [if_pos hb]
          have := dLen_le (c :: r)
          refine ⟨?_, this⟩
          simp [dLen, hd]
        · simp [RT.bad] at h
      · rename_i hd; rw [if_neg hd]
        split at h
        · rename_i hq; rw [if_pos hq]
          unfold rq at h ⊢
          cases hu : uq ((c :: r).drop 1) with
          | none => rw [hu] at h; simp [RT.bad] at h
          | some x =>
            obtain ⟨t, m⟩ := x
            have := uq_len _ _ _ hu
            rw [hu] at h
            simp only at h ⊢
            split at h
            · simp [RT.bad] at h
            · rename_i h4; rw [if_neg h4]; simp at this ⊢; omega
        · rename_i hq; rw [if_neg hq]
          unfold rm rmOf at h ⊢
          cases hf : mk.find? fun m => Lib.hasPrefix (c :: r) m.data.toList with
          | none => rw [hf] at h; simp [RT.bad] at h
          | some m =>
            have hp := List.find?_some hf
            have hm := List.mem_of_find?_eq_some hf
            have h1 : ∀ m ∈ mk, 1 ≤ m.size := by decide
            refine ⟨h1 m hm, ?_⟩
            have := (List.isPrefixOf_iff_prefix.1 hp).length_le
            simpa using this
end Go.Proofs.YtahcllncjpaijabDoor.L1
