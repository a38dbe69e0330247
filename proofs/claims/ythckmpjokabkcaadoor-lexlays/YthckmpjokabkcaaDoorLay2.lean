/- The walks of lex.appendToken and lex.Lay: the text of tokens, or the fault. -/
import Derived.Test.YthckmpjokabkcaaDoorBack1
import Derived.Test.YthckmpjokabkcaaDoorStrApp
import Derived.Test.YthckmpjokabkcaaDoorLexTok
import Derived.Test.YthckmpjokabkcaaDoorShelf2
import Derived.Lib.ItoaLen
namespace Go.Proofs.YthckmpjokabkcaaDoor
open Go.RowKit

theorem append_str_any {P : Program} {ops : Array Oper} {rest : List Oper} {o : Oper} {a : Act} {w : World} {Q : Exit → Act → World → Prop} (hgd : o.guard = none) (sl x : Operand) (t u : TypeId)
    (ho : o.op = .call { callee := .builtin .append, args := #[sl, x], argTypes := #[t, u] })
    (base : Nat) (ht : P.underlying t = some (.slice 5)) (hu : P.underlying u = some .string) (hi : (P.info? 5).map (fun i => (i.zero, i.size, i.bytes)) = some (some (.int .u8 0), 1, 1))
    (v : Value) (bs : List UInt8) (hs : a.eval sl = v) (hown : Own w base v bs) (s : ByteArray) (hx : a.eval x = .string s)
    (hlim : bs.length + s.size ≤ 140737488355328) (hbase : base ≤ w.heap.size)
    (h : ∀ v' w', Own w' base v' (bs ++ s.data.toList) → Below base w w' → w.heap.size ≤ w'.heap.size → wpList P ops Q rest (a.put o.dst v') w') : wpList P ops Q (o :: rest) a w := by
  obtain ⟨i0, hi0, hz0, hz1, hz2⟩ := info_parts hi
  have hsz : s.data.toList.length = s.size := by simp
  refine Lib.wpList_append_own_string w hgd sl x t u ho base 5 i0 ht hu hi0 hz0 hz1 hz2 v bs.length (bs.map byteV) hs hown s hx (by unfold maxLen; omega) hlim hbase ?_
  intro v' w' ho' hg _
  have hb : Below base w w' := (Below.refl base w).grown hg hbase (fun q hq => (hown.lt q hq).1)
  refine h v' w' ?_ hb hb.size
  unfold Own
  rw [List.map_append, List.length_append, hsz]
  exact ho'

/-- The powers of ten lie in their variable, and stay there. -/
def PowBelow (B : Nat) (w : World) : Prop := Lib.TabBelow Tryd.prog B w "internal/strconv.uint64pow10" .u64 Lib.pow10Tab
theorem told_size {k n : Int} {s : ByteArray} (h : toldB k n s = true) : s.size ≤ 4096 ∧ (k = 4 → 0 ≤ n ∧ n ≤ 9007199254740992) := by
  have hsz : s.data.toList.length = s.size := by simp
  have hloc : localB s.data.toList = true → s.size ≤ 4096 := by
    intro h; simp only [localB, Bool.and_eq_true, decide_eq_true_eq] at h; omega
  have hin : ∀ L : List ByteArray, (∀ x ∈ L, x.data.toList.length ≤ 4096) → inB L s = true → s.size ≤ 4096 := by
    intro L hL h
    unfold inB at h
    rw [List.any_eq_true] at h
    obtain ⟨x, hx, e⟩ := h
    rw [ByteArray.toList_eq, ByteArray.toList_eq] at e
    have e2 : x.data.toList = s.data.toList := by simpa using e
    have := hL x hx
    rw [e2] at this; omega
  unfold toldB at h
  split at h
  · rw [decide_eq_true_eq] at h; exact ⟨by omega, fun _ => h.2⟩
  · rename_i h4
    refine ⟨?_, fun e => absurd e h4⟩
    rw [Bool.and_eq_true] at h
    have h2 := h.2
    unfold textOfB at h2
    split at h2
    · simp only [nameB, Bool.and_eq_true] at h2; exact hloc h2.1
    · split at h2
      · exact hin kw (by decide +kernel) h2
      · split at h2
        · exact hloc h2
        · split at h2
          · rw [decide_eq_true_eq] at h2; omega
          · split at h2
            · exact hin mk (by decide +kernel) h2
            · cases h2

set_option maxHeartbeats 2000000 in
theorem appendToken_any (k p n : Int) (s : ByteArray) (v : Value) (bs : List UInt8) (base : Nat) (w : World) (hown : Own w base v bs) (hbase : base ≤ w.heap.size) (hl : bs.length ≤ 1000000000000) (ht : toldB k n s = true) (hp : PowBelow base w) :
    Calls Tryd.prog 33 #[v, .agg #[.int .i64 k, .int .i64 p, .int .i64 n, .string s]] w fun e w' => ∃ v', e = .returned v' ∧ Own w' base v' (bs ++ layT ⟨k, p, n, s.data.toList⟩) ∧ Below base w w' := by
  obtain ⟨hs, h4⟩ := told_size ht
  have hb0 : Below base w (w.alloc (.cells #[.int .i64 k, .int .i64 p, .int .i64 n, .string s] 30)) := (Below.refl _ _).alloc hbase _
  have HL : Hid (layT ⟨k, p, n, s.data.toList⟩ = if k = 4 then Lib.itoa n else if k = 5 then quo s.data.toList else if k = 3 then 36 :: s.data.toList else s.data.toList) := rfl
  have ho0 : Own (w.alloc (.cells #[.int .i64 k, .int .i64 p, .int .i64 n, .string s] 30)) base v bs := hown.alloc _
  have hz0 : base ≤ (w.alloc (.cells #[.int .i64 k, .int .i64 p, .int .i64 n, .string s] 30)).heap.size := by simp; omega
  generalize layT ⟨k, p, n, s.data.toList⟩ = X at *
  clear ht
  by_cases e4 : k = 4
  · subst e4
    have HX : Hid (X = Lib.itoa n) := by show _ = _; rw [HL.out, if_pos rfl]
    clear HL
    have AI := Tryd.strconv_AppendInt_10 base bs.length n (by have := h4 rfl; omega) (by have := h4 rfl; omega) v (bs.map byteV) _ ho0 hz0 (by omega) (Lib.TabBelow.on hp hb0)
    have HB0 : Hid _ := hb0
    clear hp hown ho0 hz0 hb0
    go_enter Tryd.func33, Tryd.ntmps33
    go_wp2_with (go_at_call 50; refine AI.mono ?_; rintro e w1 ⟨v1, rfl, ho1, hb1, _⟩)
    go_ret
    refine ⟨_, rfl, ?_, HB0.out.trans hb1⟩
    rw [HX.out]
    unfold Own
    rw [List.length_append, List.map_append]
    exact ho1
  have n4 : (k == 4) = false := by simpa using e4
  by_cases e5 : k = 5
  · subst e5
    have HX : Hid (X = quo s.data.toList) := by show _ = _; rw [HL.out, if_neg (by omega), if_pos rfl]
    clear HL
    have AQ := appendQuoted_any s v bs base _ ho0 hz0 (by omega)
    have HB0 : Hid _ := hb0
    clear hp hown ho0 hz0 hb0 h4
    go_enter Tryd.func33, Tryd.ntmps33
    go_wp2_with (go_at_call 38; refine AQ.mono ?_; rintro e w1 ⟨g1, cap1, rfl, ho1, hb1⟩)
    go_ret
    refine ⟨_, rfl, ?_, HB0.out.trans hb1⟩
    rw [HX.out]
    rw [List.length_append] at ho1
    exact ho1
  have n5 : (k == 5) = false := by simpa using e5
  have hsz : s.data.toList.length = s.size := by simp
  by_cases e3 : k = 3
  · subst e3
    have HX : Hid (X = 36 :: s.data.toList) := by show _ = _; rw [HL.out, if_neg (by omega), if_neg (by omega), if_pos rfl]
    clear HL
    have HB0 : Hid _ := hb0
    have HVB : Hid (some w.heap.size ≠ v.ownBlock) := hown.block_lt (Nat.le_refl _)
    clear hp hown hb0 h4
    go_enter Tryd.func33, Tryd.ntmps33
    go_wp2_with (first
      | (at_builtin; refine append_bytes_keep rfl (.tmp 21) (.tmp 22) 43 rfl base Tryd.underlying43 info_u8 _ _ _ v bs [36] _ rfl ho0 (w.heap.size + 1) (by simp) rfl rfl (by simp; omega) hz0 ?_; intro v1 w1 ho1 hb1 hz1 hk1; have c1 : w1.cell? ⟨w.heap.size, 3, none⟩ = some (.string s) := by (rw [World.cell?_of_block (hk1 w.heap.size (by simp) (HVB.out)), cell_of_row _ _ _ _ _ _ (heap_alloc_new w _)]; rfl))
      | (at_builtin; refine append_str_any rfl (.tmp 24) (.tmp 26) 43 9 rfl base Tryd.underlying43 Tryd.underlying9 info_u8 v1 (bs ++ [36]) rfl ho1 s rfl (by simp; omega) (by omega) ?_; intro v2 w2 ho2 hb2 hz2))
    go_ret
    refine ⟨_, rfl, ?_, HB0.out.trans (hb1.trans hb2)⟩
    rw [HX.out]
    rw [List.append_assoc] at ho2
    exact ho2
  have n3 : (k == 3) = false := by simpa using e3
  have HX : Hid (X = s.data.toList) := by show _ = _; rw [HL.out, if_neg e4, if_neg e5, if_neg e3]
  clear HL
  have HB0 : Hid _ := hb0
  clear hp hown hb0 h4
  go_enter Tryd.func33, Tryd.ntmps33
  go_wp2_with (at_builtin; refine append_str_any rfl (.tmp 24) (.tmp 26) 43 9 rfl base Tryd.underlying43 Tryd.underlying9 info_u8 v bs rfl ho0 s rfl (by omega) hz0 ?_; intro v2 w2 ho2 hb2 hz2)
  go_ret
  refine ⟨_, rfl, ?_, HB0.out.trans hb2⟩
  rw [HX.out]
  exact ho2

theorem layTail_snoc (l : List Tok) (t : Tok) : layTail (l ++ [t]) = layTail l ++ 32 :: layT t := by simp [layTail]
theorem layL_one (t : Tok) : layL [t] = layT t := by simp [layL, layTail]
theorem layTail_ne {l : List Tok} (h : l ≠ []) : 1 ≤ (layTail l).length := by
  cases l with
  | nil => exact absurd rfl h
  | cons t r => simp [layTail]
theorem layL_snoc {l : List Tok} (h : l ≠ []) (t : Tok) : layL (l ++ [t]) = layL l ++ [32] ++ layT t := by
  unfold layL
  rw [layTail_snoc, List.drop_append_of_le_length (layTail_ne h)]; simp
theorem quo_len (l : List UInt8) : (quo l).length ≤ 4 * l.length + 2 := by
  have := qBs_len l
  simp [quo] at this ⊢; omega
theorem layT_len {t : Tok} (h : told t = true) : (layT t).length ≤ 20000 := by
  obtain ⟨hs, hn⟩ := told_size h
  have e : (ByteArray.mk t.text.toArray).size = t.text.length := by simp [ByteArray.size]
  have := quo_len t.text
  unfold layT
  split
  · rename_i h4
    have h5 := hn h4
    have := Lib.itoa_length_le t.num (by omega) (by omega)
    omega
  · split
    · omega
    · split
      · simp; omega
      · omega
theorem layTail_len : ∀ (l : List Tok), (∀ t ∈ l, told t = true) → (layTail l).length ≤ l.length * 20001
  | [], _ => by simp [layTail]
  | t :: r, h => by
    have h1 := layT_len (h t (by simp))
    have h2 := layTail_len r (fun x hx => h x (by simp [hx]))
    have e : layTail (t :: r) = 32 :: layT t ++ layTail r := by simp [layTail]
    rw [e, List.length_append, List.length_cons, List.length_cons]; omega
theorem layL_len {l : List Tok} (h : ∀ t ∈ l, told t = true) : (layL l).length ≤ l.length * 20001 := by
  have := layTail_len l h
  unfold layL; rw [List.length_drop]; omega
/-- The text of tokens, and the fault's code. -/
def layRes (l : List Tok) : List UInt8 × Int := if 8192 < l.length then ([], 3) else if l.all told then (layL l, 0) else ([], 5)
theorem layRes_many {l : List Tok} (h : 8192 < l.length) : layRes l = ([], 3) := if_pos h
theorem layRes_bad {l : List Tok} {k : Nat} (h : ¬ 8192 < l.length) (hk : k < l.length) (ht : told l[k] = false) : layRes l = ([], 5) := by
  unfold layRes
  rw [if_neg h, if_neg]
  intro ha
  rw [List.all_eq_true] at ha
  have := ha l[k] (List.getElem_mem hk)
  rw [ht] at this; cases this
theorem layRes_ok {l : List Tok} (h : ¬ 8192 < l.length) (ht : ∀ t ∈ l, told t = true) : layRes l = (layL l, 0) := by
  unfold layRes
  rw [if_neg h, if_pos (List.all_eq_true.2 ht)]
theorem tok_take {l : List Tok} {k : Nat} (h : k < l.length) : l.take (k + 1) = l.take k ++ [l[k]] := List.take_succ_eq_append_getElem h
theorem told_take {l : List Tok} {k : Nat} (h : k < l.length) (h1 : ∀ t ∈ l.take k, told t = true) (h2 : told l[k] = true) : ∀ t ∈ l.take (k + 1), told t = true := by
  rw [tok_take h]
  intro t ht
  rw [List.mem_append] at ht
  rcases ht with ht | ht
  · exact h1 t ht
  · simp only [List.mem_singleton] at ht; rw [ht]; exact h2
/-- The slice reads as these tokens. -/
def SeesT (w : World) (ao : Option Addr) (l : List Tok) : Prop := l = [] ∨ ∃ g o, ao = some ⟨g, o, none⟩ ∧ g < w.heap.size ∧ TokAt w g o l
theorem told_get {t : Tok} : told t = toldB t.kind t.num ⟨t.text.toArray⟩ := rfl

set_option maxRecDepth 100000 in
set_option maxHeartbeats 4000000 in
theorem lay_any (l : List Tok) (ao : Option Addr) (c : Nat) (w : World) (hs : ∀ t ∈ l, t.text.length ≤ maxLen) (hmax : l.length ≤ maxLen) (hv : SeesT w ao l) (hk : KeysAt w) (hm : MarksAt w) (hp : PowBelow w.heap.size w) :
    Calls Tryd.prog 17 #[.slice ao l.length c] w fun e w' => e = .returned (.tuple #[.string ⟨(layRes l).1.toArray⟩, .int .i64 (layRes l).2]) ∧ Below w.heap.size w w' := by
  have HV : Hid _ := hv
  have HK : Hid _ := hk
  have HM : Hid _ := hm
  have HP : Hid _ := hp
  have HS : Hid _ := hs
  have HR1 : Hid _ := @layRes_many l
  have HR2 : Hid _ := @layRes_bad l
  have HR3 : Hid _ := @layRes_ok l
  obtain ⟨R, hR⟩ : ∃ R, R = layRes l := ⟨_, rfl⟩
  rw [← hR] at HR1 HR2 HR3 ⊢
  clear hR hv hk hm hp hs
  unfold maxLen at hmax
  by_cases hbig : 8192 < l.length
  · have hbig' : (8192 : Int) < (l.length : Int) := by omega
    have HR : Hid _ := HR1.out hbig
    clear HR1 HR2 HR3 HV HK HM HP HS
    go_enter Tryd.func17, Tryd.ntmps17
    go_wp2
    refine bodyPost_ret (v := .tuple #[.string ⟨R.1.toArray⟩, .int .i64 R.2]) (by rw [HR.out]; simp [results, Tryd.results17, go_sem]) rfl ⟨rfl, Below.refl _ _⟩
  · have hbig' : (l.length : Int) ≤ 8192 := by omega
    clear HR1
    go_enter Tryd.func17, Tryd.ntmps17
    go_wp2
    go_loopw [14] (fun i wr => ∃ k : Nat, k ≤ l.length ∧ i = .int .i64 k ∧ Hid (∀ t ∈ l.take k, told t = true) ∧ Hid (Below w.heap.size w wr)) (fun i _ => l.length - (intOf i).toNat)
    case atStart => exact ⟨0, Nat.zero_le _, rfl, by intro t ht; simp at ht, Below.refl _ _⟩
    case round =>
      obtain ⟨k, hkl, rfl, HT, HB⟩ := hrel
      rename_i wr
      by_cases hlt : k < l.length
      · have hlt' : (k : Int) < (l.length : Int) := by omega
        rcases HV.out with h0 | ⟨g, o, rfl, hg, hT⟩
        · exfalso; rw [h0] at hlt; simp at hlt
        have hzr := HB.out.size
        obtain ⟨a0, a1, a2, a3⟩ := hT.below HB.out hg k hlt
        have ht0 := @told_take l k hlt HT.out
        have hbad := HR2.out hbig hlt
        rw [told_get] at ht0 hbad
        have hts : (ByteArray.mk l[k].text.toArray).size ≤ maxLen := by have := HS.out l[k] (List.getElem_mem hlt); simpa [ByteArray.size] using this
        generalize l[k] = t at a0 a1 a2 a3 ht0 hbad hts
        obtain ⟨tk, tp, tn, tx⟩ := t
        simp only at a0 a1 a2 a3 ht0 hbad hts
        have hb1 : Below w.heap.size w (wr.alloc (.cells #[.int .i64 tk, .int .i64 tp, .int .i64 tn, .string ⟨tx.toArray⟩] 30)) := HB.out.alloc hzr _
        have IT := isTold_any tk tp tn ⟨tx.toArray⟩ (wr.alloc (.cells #[.int .i64 tk, .int .i64 tp, .int .i64 tn, .string ⟨tx.toArray⟩] 30)) hts (KeysAt.below HK.out hb1) (MarksAt.below HM.out hb1)
        have HB1 : Hid _ := hb1
        have HBAD : Hid _ := hbad
        have HT0 : Hid _ := ht0
        clear hb1 hbad ht0 hT HT
        generalize toldB tk tn ⟨tx.toArray⟩ = b at *
        cases b
        · have HRB : Hid (R = ([], 5)) := HBAD.out rfl
          clear HBAD HT0 HR2 HR3
          go_wp2_with (go_at_call 32; refine IT.mono ?_; rintro e w2 ⟨rfl, hb2⟩)
          refine bodyPost_ret (v := .tuple #[.string ⟨R.1.toArray⟩, .int .i64 R.2]) (by rw [HRB.out]; simp [results, Tryd.results17, go_sem]) rfl ⟨rfl, HB1.out.trans (hb2.mono (by simp; omega))⟩
        · have HTT : Hid (∀ t ∈ l.take (k + 1), told t = true) := HT0.out rfl
          clear HBAD HT0 HR2 HR3
          go_wp2_with (go_at_call 32; refine IT.mono ?_; rintro e w2 ⟨rfl, hb2⟩)
          go_roundw
          case rel => exact ⟨k + 1, by omega, by go_num, HTT, HB1.out.trans (hb2.mono (by simp; omega))⟩
          case measure => simp [intOf]; omega
      · have HALL : Hid (∀ t ∈ l, told t = true) := by
          have := HT.out
          rw [List.take_of_length_le (by omega)] at this; exact this
        have HR : Hid _ := HR3.out hbig HALL.out
        clear HR2 HR3 HT
        have HO0 : Hid (Own wr w.heap.size (.slice none 0 0) (layL (l.take 0))) := own_nil wr w.heap.size
        go_wp2
        go_loopw [6, 24] (fun v i wr => ∃ (k : Nat) (v2 : Value) (w2 : World), v2 = v ∧ w2 = wr ∧ k ≤ l.length ∧ i = .int .i64 k ∧ Hid (Own w2 w.heap.size v2 (layL (l.take k))) ∧ Hid (Below w.heap.size w w2)) (fun _ i _ => l.length - (intOf i).toNat)
        case atStart => exact ⟨0, _, _, rfl, rfl, Nat.zero_le _, rfl, HO0, HB⟩
        case round =>
          clear HO0 HB hlt hkl
          obtain ⟨k, v, wr2, rfl, rfl, hkl, rfl, HO, HB⟩ := hrel
          by_cases hlt : k < l.length
          · have hlt' : (k : Int) < (l.length : Int) := by omega
            rcases HV.out with h0 | ⟨g, o, rfl, hg, hT⟩
            · exfalso; rw [h0] at hlt; simp at hlt
            have hzr := HB.out.size
            obtain ⟨a0, a1, a2, a3⟩ := hT.below HB.out hg k hlt
            have htold : toldB l[k].kind l[k].num ⟨l[k].text.toArray⟩ = true := HALL.out l[k] (List.getElem_mem hlt)
            have hll : (layL (l.take k)).length ≤ 163848192 := by
              have := layL_len (l := l.take k) (fun t ht => HALL.out t (List.mem_of_mem_take ht))
              rw [List.length_take] at this
              omega
            have hone : k = 0 → layL (l.take (k + 1)) = layL (l.take k) ++ layT l[k] := by
              intro e; subst e
              rw [tok_take hlt]; simp [layL_one]; rfl
            have hmore : ¬ k = 0 → layL (l.take (k + 1)) = layL (l.take k) ++ [32] ++ layT l[k] := by
              intro e
              rw [tok_take hlt]
              refine layL_snoc ?_ _
              intro e2
              have := congrArg List.length e2
              rw [List.length_take, List.length_nil] at this; omega
            have HSN : Hid _ := hone
            have HSM : Hid _ := hmore
            generalize l[k] = t at a0 a1 a2 a3 htold HSN HSM
            obtain ⟨tk, tp, tn, tx⟩ := t
            simp only at a0 a1 a2 a3 htold
            have hb1 : Below w.heap.size w (wr2.alloc (.cells #[.int .i64 tk, .int .i64 tp, .int .i64 tn, .string ⟨tx.toArray⟩] 30)) := HB.out.alloc hzr _
            have ho1 : Own (wr2.alloc (.cells #[.int .i64 tk, .int .i64 tp, .int .i64 tn, .string ⟨tx.toArray⟩] 30)) w.heap.size v (layL (l.take k)) := HO.out.alloc _
            have HVB : Hid (some wr2.heap.size ≠ v.ownBlock) := Own.block_lt HO.out (Nat.le_refl _)
            clear hone hmore hT HO
            by_cases hk0 : k = 0
            · have HS1 : Hid (layL (l.take (k + 1)) = layL (l.take k) ++ layT ⟨tk, tp, tn, tx⟩) := HSN.out hk0
              clear HSN HSM
              subst hk0
              simp only [Nat.zero_mul, Nat.add_zero] at a0 a1 a2 a3
              have AT := appendToken_any tk tp tn ⟨tx.toArray⟩ v (layL (l.take 0)) w.heap.size _ ho1 (by simp; omega) (by omega) htold (Lib.TabBelow.on HP.out hb1)
              have HB1 : Hid _ := hb1
              clear hb1 ho1 htold
              go_wp2_with (go_at_call 33; refine AT.mono ?_; rintro e w3 ⟨v3, rfl, ho3, hb3⟩)
              go_roundw
              case rel => exact ⟨0 + 1, _, _, rfl, rfl, by omega, by go_num, by rw [HS1.out]; exact ho3, HB1.out.trans hb3⟩
              case measure => simp [intOf]; omega
            · have HS1 : Hid (layL (l.take (k + 1)) = layL (l.take k) ++ [32] ++ layT ⟨tk, tp, tn, tx⟩) := HSM.out hk0
              clear HSN HSM
              have hk0' : (0 : Int) < (k : Int) := by omega
              have AT := fun v1 w1 ho hb hz => appendToken_any tk tp tn ⟨tx.toArray⟩ v1 (layL (l.take k) ++ [32]) w.heap.size w1 ho hz (by simp; omega) htold (Lib.TabBelow.on HP.out hb)
              have HAT : Hid _ := AT
              have HB1 : Hid _ := hb1
              clear AT hb1 htold
              go_wp2_with (at_builtin; refine append_bytes_keep rfl (.tmp 31) (.tmp 32) 43 rfl w.heap.size Tryd.underlying43 info_u8 _ _ _ v (layL (l.take k)) [32] _ rfl ho1 (wr2.heap.size + 1) (by simp) rfl rfl (by simp; omega) (by simp; omega) ?_; intro v3 w3 ho3 hb3 hz3 hk3; have hkp : w3.heap[wr2.heap.size]? = _ := hk3 wr2.heap.size (by simp) HVB.out; have c0 : w3.cell? ⟨wr2.heap.size, 0, none⟩ = some (.int .i64 tk) := (World.cell?_of_block hkp).trans ((cell_of_row _ _ _ _ _ _ (heap_alloc_new wr2 _)).trans rfl); have c1 : w3.cell? ⟨wr2.heap.size, 1, none⟩ = some (.int .i64 tp) := (World.cell?_of_block hkp).trans ((cell_of_row _ _ _ _ _ _ (heap_alloc_new wr2 _)).trans rfl); have c2 : w3.cell? ⟨wr2.heap.size, 2, none⟩ = some (.int .i64 tn) := (World.cell?_of_block hkp).trans ((cell_of_row _ _ _ _ _ _ (heap_alloc_new wr2 _)).trans rfl); have c3 : w3.cell? ⟨wr2.heap.size, 3, none⟩ = some (.string ⟨tx.toArray⟩) := (World.cell?_of_block hkp).trans ((cell_of_row _ _ _ _ _ _ (heap_alloc_new wr2 _)).trans rfl); clear hkp hk3)
              refine (HAT.out v3 w3 ho3 (HB1.out.trans hb3) (HB1.out.trans hb3).size).mono ?_
              rintro e w4 ⟨v4, rfl, ho4, hb4⟩
              go_wp2
              go_roundw
              case rel => exact ⟨k + 1, _, _, rfl, rfl, by omega, by go_num, by rw [HS1.out]; exact ho4, (HB1.out.trans hb3).trans hb4⟩
              case measure => simp [intOf]; omega
          · have hkk : k = l.length := by omega
            subst hkk
            have HO2 : Hid (Own wr2 w.heap.size v (layL l)) := by have := HO.out; rw [List.take_length] at this; exact this
            go_wp2_with (refine wpList_own_string rfl (.tmp 38) 43 9 rfl w.heap.size _ _ rfl HO2.out Tryd.underlying43 Tryd.underlying5 Tryd.underlying9 ?_)
            refine bodyPost_ret (v := .tuple #[.string ⟨R.1.toArray⟩, .int .i64 R.2]) (by rw [HR.out]; simp [results, Tryd.results17, go_sem]) rfl ⟨rfl, HB.out⟩
end Go.Proofs.YthckmpjokabkcaaDoor
