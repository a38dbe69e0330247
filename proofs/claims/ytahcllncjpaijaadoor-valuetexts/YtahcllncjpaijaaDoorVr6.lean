/- Values: value.Parse, walked. -/
import Derived.Test.YtahcllncjpaijaaDoorVr5
import Derived.Test.YtahcllncjpaijaaDoorVh2
namespace Go.Proofs.YtahcllncjpaijaaDoor
open Go.RowKit

theorem numN_bd (l : List UInt8) : 0 ≤ L1.numN l ∧ L1.numN l ≤ 9007199254740992 := by
  unfold L1.numN
  split
  · omega
  · cases e : L1.numGo l 0 with
    | none => simp
    | some m =>
      have h1 := L1.numGo_ge l 0 m (by omega) e
      have h2 := L1.numGo_le l 0 m (by omega) e
      simp at h1 ⊢
      omega
theorem mk_bd : ∀ m ∈ L1.mk, m.data.toList.length ≤ 4096 := by decide
theorem rt_bd (l : List UInt8) : 0 ≤ (L1.rt l).num ∧ (L1.rt l).num ≤ 9007199254740992 ∧ (L1.rt l).text.length ≤ 4096 := by
  have hb : ∀ c, 0 ≤ (L1.RT.bad c).num ∧ (L1.RT.bad c).num ≤ 9007199254740992 ∧ (L1.RT.bad c).text.length ≤ 4096 := fun c => by simp [L1.RT.bad]
  have hw : ∀ d r, 0 ≤ (L1.rw' d r).num ∧ (L1.rw' d r).num ≤ 9007199254740992 ∧ (L1.rw' d r).text.length ≤ 4096 := fun d r => by
    unfold L1.rw'
    split
    · exact hb _
    · split
      · exact hb _
      · simp; omega
  cases l with
  | nil => exact hb 10
  | cons c r =>
    rw [rt_cons]
    split
    · exact hw _ _
    · split
      · exact hw _ _
      · split
        · unfold L1.rn
          split
          · have := numN_bd ((c :: r).take (L1.dLen (c :: r)))
            simp; omega
          · exact hb _
        · split
          · unfold L1.rq
            split
            · exact hb _
            · split
              · exact hb _
              · simp; omega
          · unfold L1.rm L1.rmOf
            split
            · rename_i m hm
              have := mk_bd m (List.mem_of_find?_eq_some hm)
              simp at this ⊢; omega
            · exact hb _
def TB (t : L1.Tok) : Prop := 0 ≤ t.num ∧ t.num ≤ 9007199254740992 ∧ t.text.length ≤ 4096
theorem tkGo_bd (l : List UInt8) : ∀ (f p c : Nat), ∀ t ∈ (L1.tkGo l f p c).1, TB t := by
  intro f
  induction f with
  | zero => intro p c t h; simp [L1.tkGo] at h
  | succ f ih =>
    intro p c t h
    simp only [L1.tkGo] at h
    split at h
    · split at h
      · simp at h
      · split at h
        · simp at h
        · rcases List.mem_cons.1 h with rfl | h
          · exact rt_bd _
          · exact ih _ _ t h
    · simp at h
theorem tkGo_cnt : ∀ (l : List UInt8) (f p c : Nat), c ≤ 8192 → (L1.tkGo l f p c).1.length + c ≤ 8192 := by
  intro l f
  induction f with
  | zero => intro p c h; simp [L1.tkGo]; exact h
  | succ f ih =>
    intro p c h
    simp only [L1.tkGo]
    split
    · split
      · simp; exact h
      · split
        · simp; exact h
        · rename_i h1 h2
          have := ih (p + (L1.rt (l.drop p)).len + L1.pbGo false (l.drop (p + (L1.rt (l.drop p)).len))) (c + 1) (by omega)
          simp only [List.length_cons]; omega
    · simp; exact h
theorem tkRes_bd (l : List UInt8) : (∀ t ∈ (L1.tkRes l).1, TB t) ∧ (L1.tkRes l).1.length ≤ 8192 := by
  unfold L1.tkRes
  split
  · simp
  · split
    · simp
    · exact ⟨tkGo_bd l _ _ _, by have := tkGo_cnt l (l.length + 1) (L1.pbGo false l) 0 (by omega); omega⟩
theorem at_snoc {l : List Atm} (h : AT l) {a : Atm} (ha : a.text.size ≤ maxLen) : AT (l ++ [a]) := by
  intro c hc
  rw [List.mem_append, List.mem_singleton] at hc
  rcases hc with hc | rfl
  · exact h c hc
  · exact ha
theorem rdS_at {st : RdS} (h : AT st.l) (k n : Int) (tx : List UInt8) (ht : tx.length ≤ 4096) : AT (rdS st k n tx).l := by
  have he : ByteArray.empty.size ≤ maxLen := by simp
  unfold rdS
  split
  · exact at_snoc h he
  · split
    · exact at_snoc h (by show (⟨tx.toArray⟩ : ByteArray).size ≤ maxLen; unfold maxLen; simp [ByteArray.size]; omega)
    · split
      · split
        · exact h
        · split
          · exact h
          · split
            · exact at_snoc h he
            · exact h
      · exact h
theorem rdK_at (T : List L1.Tok) (hT : ∀ t ∈ T, TB t) : ∀ k, k ≤ T.length → AT (rdK T k).l
  | 0, _ => fun c hc => by simp [rdK, toksL, rdG] at hc
  | k + 1, h => by
    rw [rdK_next (by omega)]
    exact rdS_at (rdK_at T hT k (by omega)) _ _ _ (hT T[k] (List.getElem_mem _)).2.2
theorem rdA_at (s : List UInt8) : AT (rdA s) ∧ (rdA s).length ≤ 8192 := by
  obtain ⟨h1, h2⟩ := tkRes_bd s
  unfold rdA
  rw [← rdK_all]
  exact ⟨rdK_at _ h1 _ (Nat.le_refl _), Nat.le_trans (rdK_bd _ _ (Nat.le_refl _)).l h2⟩
/-- What Parse answers. -/
def psE (s : List UInt8) : Int := if 65536 < s.length then 3 else if (L1.tkRes s).2.2 = 0 ∧ chkV (rdA s) = 0 ∧ prV (treeA (rdA s)) = s then 0 else 2
def psA (s : List UInt8) : List Atm := if psE s = 0 then rdA s else []
theorem psE_bad {s : List UInt8} (hl : ¬ 65536 < s.length) (h : ¬ ((L1.tkRes s).2.2 = 0 ∧ chkV (rdA s) = 0 ∧ prV (treeA (rdA s)) = s)) : psE s = 2 ∧ psA s = [] := by
  have e : psE s = 2 := by unfold psE; rw [if_neg hl, if_neg h]
  exact ⟨e, by unfold psA; rw [e, if_neg (by decide)]⟩
theorem psE_good {s : List UInt8} (hl : ¬ 65536 < s.length) (h : (L1.tkRes s).2.2 = 0 ∧ chkV (rdA s) = 0 ∧ prV (treeA (rdA s)) = s) : psE s = 0 ∧ psA s = rdA s := by
  have e : psE s = 0 := by unfold psE; rw [if_neg hl, if_pos h]
  exact ⟨e, by unfold psA; rw [e, if_pos rfl]⟩
theorem as_nil (w : World) : AS w (.slice none 0 0) [] := Or.inl ⟨Or.inl rfl, rfl⟩
set_option maxHeartbeats 8000000 in
set_option maxRecDepth 100000 in
theorem vparse_any (s : ByteArray) (w : World) (hmax : s.size ≤ maxLen) (hk : L1.KeysAt w) (hm : L1.MarksAt w) (hp : PowBelow w.heap.size w) :
    Calls Tryd.prog 18 #[.string s] w fun e w' => ∃ v, e = .returned (.tuple #[v, .int .i64 (psE s.data.toList)]) ∧ AS w' v (psA s.data.toList) ∧ Below w.heap.size w w' := by
  have hsz : s.data.toList.length = s.size := by simp
  by_cases hl : 65536 < s.data.toList.length
  · have e1 : psE s.data.toList = 3 := by unfold psE; rw [if_pos hl]
    have e2 : psA s.data.toList = [] := by unfold psA; rw [e1, if_neg (by decide)]
    rw [e1, e2]
    have hl' : 65536 < s.size := by omega
    unfold maxLen at hmax
    clear hk hm hp e1 e2 hl hsz
    go_enter Tryd.func18, Tryd.ntmps18
    go_wp2_with fail
    exact bodyPost_ret (v := .tuple #[.slice none 0 0, .int .i64 3]) (by simp [results, Tryd.results18, go_sem]) rfl ⟨_, rfl, as_nil _, Below.refl _ _⟩
  · have TA : Hid (Calls Tryd.prog 33 #[.string s] w fun e w' => ∃ v, e = .returned (.tuple #[v, .agg #[.int .i64 (L1.tkRes s.data.toList).2.1, .int .i64 (L1.tkRes s.data.toList).2.2]]) ∧ L1.OwnT w' (w.heap.size + 1) v (L1.tkRes s.data.toList).1 ∧ Below w.heap.size w w') := L1.tokens_any s w hmax hk hm
    have hl' : ¬ 65536 < s.size := by omega
    by_cases hf : (L1.tkRes s.data.toList).2.2 = 0
    · obtain ⟨hTB, hTc⟩ := tkRes_bd s.data.toList
      obtain ⟨hA1, hA2⟩ := rdA_at s.data.toList
      have RA : Hid (∀ v w1, L1.OwnT w1 (w.heap.size + 1) v (L1.tkRes s.data.toList).1 → ∀ o, Calls Tryd.prog 34 #[v] (w1.alloc o) fun e w' => ∃ u, e = .returned u ∧ OwnG KA w' (w1.alloc o).heap.size u (rdA s.data.toList) ∧ Below (w1.alloc o).heap.size (w1.alloc o) w') := fun v w1 ho o => read_any v _ _ ((ownT_gs ho).below ((Below.refl _ _).alloc (Nat.le_refl _) o)) (by omega) (fun t ht => ⟨(hTB t ht).1, (hTB t ht).2.1⟩)
      have CA : Hid (∀ u w2, AS w2 u (rdA s.data.toList) → Calls Tryd.prog 21 #[u] w2 fun e w' => e = .returned (.int .i64 (chkV (rdA s.data.toList))) ∧ Below w2.heap.size w2 w') := fun u w2 ho => vcheck_any u _ w2 ho hA1 (by omega)
      have TX : Hid (chkV (rdA s.data.toList) = 0 → ∀ u w2, AS w2 u (rdA s.data.toList) → Below w.heap.size w w2 → Calls Tryd.prog 30 #[u] w2 fun e w' => e = .returned (.string ⟨(prV (treeA (rdA s.data.toList))).toArray⟩) ∧ Below w2.heap.size w2 w') := fun e u w2 ho b => by
        obtain ⟨t, et, hr⟩ := RT.of e
        obtain ⟨q, c, rfl⟩ := ho.form
        rw [et] at ho ⊢
        rw [treeA_flat hr.wf, ← txP_is hr.wf]
        exact textOf_any q c t w2 ho hr (fun w3 b3 => hp w3 (b.trans (b3.mono b.size)))
      have HE : Hid (psE s.data.toList = if chkV (rdA s.data.toList) = 0 ∧ prV (treeA (rdA s.data.toList)) = s.data.toList then 0 else 2) := by
        show _ = _
        unfold psE; rw [if_neg hl]
        by_cases hc : chkV (rdA s.data.toList) = 0 ∧ prV (treeA (rdA s.data.toList)) = s.data.toList
        · rw [if_pos ⟨hf, hc⟩, if_pos hc]
        · rw [if_neg (fun h => hc h.2), if_neg hc]
      have HA : Hid (psA s.data.toList = if psE s.data.toList = 0 then rdA s.data.toList else []) := rfl
      have LA : Hid ((rdA s.data.toList).length ≤ 8192) := hA2
      have HS : Hid (∀ l : List UInt8, (⟨l.toArray⟩ : ByteArray) = s → l = s.data.toList) := fun l e => by rw [← e]
      generalize psA s.data.toList = pA at *
      generalize psE s.data.toList = pE at *
      generalize rdA s.data.toList = A at *
      generalize prV (treeA A) = P at *
      generalize chkV A = c at *
      rw [hf] at TA
      generalize (L1.tkRes s.data.toList).2.1 = fa at *
      generalize (L1.tkRes s.data.toList).1 = T at *
      clear hk hm hp hl hsz hmax hf hTB hTc hA1 hA2
      by_cases hc : c = 0
      · by_cases hP : P = s.data.toList
        · rw [if_pos ⟨hc, hP⟩] at HE
          rw [HE.out, if_pos rfl] at HA
          rw [HE.out, HA.out]
          subst hc
          have hPs : (⟨P.toArray⟩ : ByteArray) = s := by rw [hP]
          rw [hPs] at TX
          have TX' : Hid _ := TX.out rfl
          clear HE HA HS hP hPs TX
          go_enter Tryd.func18, Tryd.ntmps18
          go_wp2_with (first
            | (go_at_call 33; refine TA.out.mono ?_; rintro e w1 ⟨v, rfl, ho, hb⟩; have B1 : Hid _ := hb; have R1 : Hid _ := RA.out v w1 ho; clear ho hb)
            | (go_at_call 34; refine (R1.out _).mono ?_; rintro e w2 ⟨u, rfl, ho, hb⟩; have B2 : Hid (Below w.heap.size w w2) := (B1.out.alloc B1.out.size _).trans (hb.mono (by have := B1.out.size; simp; omega)); have A2 : Hid (AS w2 u A) := ho.gs KA_ok.len; clear ho hb R1 B1)
            | (go_at_call 21; refine (CA.out _ _ A2.out).mono ?_; rintro e w3 ⟨rfl, hb⟩; have B3 : Hid (Below w.heap.size w w3) := B2.out.trans (hb.mono B2.out.size); have A3 : Hid (AS w3 u A) := A2.out.below hb; clear hb A2 B2)
            | (go_at_call 30; refine (TX'.out _ _ A3.out B3.out).mono ?_; rintro e w4 ⟨rfl, hb⟩; have B4 : Hid (Below w.heap.size w w4) := B3.out.trans (hb.mono B3.out.size); have A4 : Hid (AS w4 u A) := A3.out.below hb; clear hb A3 B3))
          exact bodyPost_ret (v := .tuple #[u, .int .i64 0]) (by simp [results, Tryd.results18, go_sem]) rfl ⟨_, rfl, A4.out, B4.out⟩
        · rw [if_neg (fun h => hP h.2)] at HE
          rw [HE.out, if_neg (by decide)] at HA
          rw [HE.out, HA.out]
          subst hc
          have TX' : Hid _ := TX.out rfl
          have hPs : ¬ (⟨P.toArray⟩ : ByteArray) = s := fun e => hP (HS.out P e)
          generalize (⟨P.toArray⟩ : ByteArray) = tx at *
          have hPl : (tx.toList == s.toList) = false := by
            cases e : tx.toList == s.toList with
            | false => rfl
            | true =>
              have e1 := eq_of_beq e
              rw [ByteArray.toList_eq, ByteArray.toList_eq] at e1
              exact absurd (by rw [str_of e1]) hPs
          clear HE HA HS hP TX
          go_enter Tryd.func18, Tryd.ntmps18
          go_wp2_with (first
            | (go_at_call 33; refine TA.out.mono ?_; rintro e w1 ⟨v, rfl, ho, hb⟩; have B1 : Hid _ := hb; have R1 : Hid _ := RA.out v w1 ho; clear ho hb)
            | (go_at_call 34; refine (R1.out _).mono ?_; rintro e w2 ⟨u, rfl, ho, hb⟩; have B2 : Hid (Below w.heap.size w w2) := (B1.out.alloc B1.out.size _).trans (hb.mono (by have := B1.out.size; simp; omega)); have A2 : Hid (AS w2 u A) := ho.gs KA_ok.len; clear ho hb R1 B1)
            | (go_at_call 21; refine (CA.out _ _ A2.out).mono ?_; rintro e w3 ⟨rfl, hb⟩; have B3 : Hid (Below w.heap.size w w3) := B2.out.trans (hb.mono B2.out.size); have A3 : Hid (AS w3 u A) := A2.out.below hb; clear hb A2 B2)
            | (go_at_call 30; refine (TX'.out _ _ A3.out B3.out).mono ?_; rintro e w4 ⟨rfl, hb⟩; have B4 : Hid (Below w.heap.size w w4) := B3.out.trans (hb.mono B3.out.size); have A4 : Hid (AS w4 u A) := A3.out.below hb; clear hb A3 B3))
          exact bodyPost_ret (v := .tuple #[.slice none 0 0, .int .i64 2]) (by simp [results, Tryd.results18, go_sem]) rfl ⟨_, rfl, as_nil _, B4.out⟩
      · have hcb : (c != 0) = true := by simpa using hc
        rw [if_neg (fun h => hc h.1)] at HE
        rw [HE.out, if_neg (by decide)] at HA
        rw [HE.out, HA.out]
        clear HE HA HS TX
        go_enter Tryd.func18, Tryd.ntmps18
        go_wp2_with (first
          | (go_at_call 33; refine TA.out.mono ?_; rintro e w1 ⟨v, rfl, ho, hb⟩; have B1 : Hid _ := hb; have R1 : Hid _ := RA.out v w1 ho; clear ho hb)
          | (go_at_call 34; refine (R1.out _).mono ?_; rintro e w2 ⟨u, rfl, ho, hb⟩; have B2 : Hid (Below w.heap.size w w2) := (B1.out.alloc B1.out.size _).trans (hb.mono (by have := B1.out.size; simp; omega)); have A2 : Hid (AS w2 u A) := ho.gs KA_ok.len; clear ho hb R1 B1)
          | (go_at_call 21; refine (CA.out _ _ A2.out).mono ?_; rintro e w3 ⟨rfl, hb⟩; have B3 : Hid (Below w.heap.size w w3) := B2.out.trans (hb.mono B2.out.size); have A3 : Hid (AS w3 u A) := A2.out.below hb; clear hb A2 B2))
        exact bodyPost_ret (v := .tuple #[.slice none 0 0, .int .i64 2]) (by simp [results, Tryd.results18, go_sem]) rfl ⟨_, rfl, as_nil _, B3.out⟩
    · obtain ⟨e1, e2⟩ := psE_bad hl (fun h => hf h.1)
      rw [e1, e2]
      obtain ⟨T, hT⟩ : ∃ T, T = L1.tkRes s.data.toList := ⟨_, rfl⟩
      rw [← hT] at TA hf
      obtain ⟨T, fa, fc⟩ := T
      have hfb : (fc != 0) = true := by simpa using hf
      clear hk hm hp e1 e2 hl hsz hT hmax
      go_enter Tryd.func18, Tryd.ntmps18
      go_wp2_with (go_at_call 33; refine TA.out.mono ?_; rintro e w1 ⟨v, rfl, ho, hb⟩; have B1 : Hid _ := hb; clear ho hb)
      exact bodyPost_ret (v := .tuple #[.slice none 0 0, .int .i64 2]) (by simp [results, Tryd.results18, go_sem]) rfl ⟨_, rfl, as_nil _, B1.out.alloc B1.out.size _⟩
end Go.Proofs.YtahcllncjpaijaaDoor
