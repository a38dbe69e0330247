/- Failures: rows of texts; SameTexts; Path, both sides. -/
import Derived.Test.YtaleagkhblokgaaDoorHx4
namespace Go.Proofs.YtaleagkhblokgaaDoor
open Go.RowKit

def sV (l : List ByteArray) : List Value := l.map Value.string
theorem sV_len (l : List ByteArray) : (sV l).length = l.length := by simp [sV]
/-- The slice owns these texts. -/
def OwnB (w : World) (base : Nat) (v : Value) (l : List ByteArray) : Prop := w.ownsRow base 9 1 v l.length (sV l)
theorem ownB_empty (w : World) : OwnB (w.alloc (.cells #[] 9)) w.heap.size (.slice (some ⟨w.heap.size, 0, none⟩) 0 0) [] :=
  ⟨rfl, Or.inr ⟨w.heap.size, 0, #[], rfl, Nat.le_refl _, heap_alloc_new w _, Nat.le_refl _, Nat.zero_le _, rfl, rfl⟩⟩
theorem OwnB.low {w : World} {base base' : Nat} {v : Value} {l : List ByteArray} (h : OwnB w base v l) (hb : base' ≤ base) : OwnB w base' v l := by
  obtain ⟨h1, h2⟩ := h
  refine ⟨h1, ?_⟩
  rcases h2 with h2 | ⟨g, cap, cur, e1, e2, e3⟩
  · exact Or.inl h2
  · exact Or.inr ⟨g, cap, cur, e1, Nat.le_trans hb e2, e3⟩
theorem info_str : (Tryd.prog.info? 9).map (fun i => (i.zero, i.size, i.bytes)) = some (some (.string ByteArray.empty), 1, 16) := by kernel_rfl
/-- The slice reads as these texts. -/
def TS (w : World) (v : Value) (l : List ByteArray) : Prop := (v = .slice none 0 0 ∧ l = []) ∨ ∃ X cap, v = .slice (some ⟨X, 0, none⟩) l.length cap ∧ X < w.heap.size ∧ ∀ k, k < l.length → w.cell? ⟨X, k, none⟩ = some (.string (l.getD k ByteArray.empty))
theorem TS.form {w : World} {v : Value} {l : List ByteArray} (h : TS w v l) : ∃ p cap, v = .slice p l.length cap := by
  rcases h with ⟨rfl, rfl⟩ | ⟨X, cap, rfl, _⟩
  · exact ⟨none, 0, rfl⟩
  · exact ⟨_, cap, rfl⟩
theorem TS.below {w w' : World} {v : Value} {l : List ByteArray} (h : TS w v l) (k : Below w.heap.size w w') : TS w' v l := by
  rcases h with h | ⟨X, cap, rfl, hX, hc⟩
  · exact Or.inl h
  · exact Or.inr ⟨X, cap, rfl, Nat.lt_of_lt_of_le hX k.size, fun i hi => (k.cell (p := ⟨X, i, none⟩) hX).trans (hc i hi)⟩
theorem TS.at {w : World} {p : Option Addr} {n cap k : Nat} {l : List ByteArray} (h : TS w (.slice p n cap) l) (hk : k < l.length) : ∃ X, p = some ⟨X, 0, none⟩ ∧ w.cell? ⟨X, k, none⟩ = some (.string (l.getD k ByteArray.empty)) := by
  rcases h with ⟨_, rfl⟩ | ⟨X, cap, e, hX, hc⟩
  · simp at hk
  · injection e with e1 e2 e3
    exact ⟨X, e1, hc k hk⟩
theorem OwnB.ts {w : World} {base : Nat} {v : Value} {l : List ByteArray} (h : OwnB w base v l) : TS w v l := by
  have h0 := h
  rcases h.2 with ⟨rfl, e⟩ | ⟨g, cap, cur, rfl, _⟩
  · exact Or.inl ⟨rfl, List.length_eq_zero_iff.1 e⟩
  · refine Or.inr ⟨g, cap, rfl, (World.ownsRow.lt h0 g rfl).2, fun k hk => ?_⟩
    rw [World.ownsRow.cellAt h0 k (by omega)]
    simp [sV, hk]
theorem append_tx {P : Program} {ops : Array Oper} {rest : List Oper} {o : Oper} {a : Act} {Q : Exit → Act → World → Prop} (hgd : o.guard = none) (s x : Operand) (t : TypeId)
    (ho : o.op = .call { callee := .builtin .append, args := #[s, x], argTypes := #[t, t] })
    (base : Nat) (ht : P.underlying t = some (.slice 9)) (hi : (P.info? 9).map (fun i => (i.zero, i.size, i.bytes)) = some (some (.string ByteArray.empty), 1, 16))
    (w0 : World) (cells : Array Value) (tc : TypeId) (v : Value) (l : List ByteArray) (f : ByteArray) (c : Nat) (hs : a.eval s = v) (hown : OwnB w0 base v l) (b : Nat) (hb : w0.heap.size = b)
    (hx : a.eval x = .slice (some ⟨b, 0, none⟩) 1 c) (hc : cells.toList = [.string f])
    (hlen : l.length ≤ 100000) (hbase : base ≤ w0.heap.size)
    (h : ∀ v' w', OwnB w' base v' (l ++ [f]) → Below base w0 w' → wpList P ops Q rest (a.put o.dst v') w') : wpList P ops Q (o :: rest) a (w0.alloc (.cells cells tc)) := by
  subst hb
  obtain ⟨i0, hi0, hz0, hz1, hz2⟩ := info_parts hi
  have hown2 : (w0.alloc (.cells cells tc)).ownsRow base 9 1 v l.length (sV l) := World.ownsRow.alloc hown _
  have one : ∀ u ∈ [Value.string f], u.oneCell' = true := fun u hu => by simp at hu; subst hu; rfl
  refine wpList_append_own _ hgd s x t ho base 9 i0 (.string ByteArray.empty) 1 16 ht hi0 hz0 hz1 hz2 rfl (by decide) v l.length (sV l) hs hown2 ⟨w0.heap.size, 0, none⟩ 1 c [.string f] hx rfl (news_at w0 cells tc _ hc) one
    (by unfold maxLen; omega) (by omega) (by simp; omega) ?_
  intro v' w' ho' hg _
  have hgb : Below base w0 w' := ((Below.refl base w0).alloc hbase _).grown hg (by simp; omega) (fun q hq => (hown2.lt q hq).1)
  refine h v' w' ?_ hgb
  unfold OwnB
  rw [List.length_append]
  simpa [sV] using ho'
set_option maxHeartbeats 4000000 in
theorem sameTexts_same (w : World) (v1 v2 : Value) (P : List ByteArray) (h1 : TS w v1 P) (h2 : TS w v2 P) (hl : P.length ≤ 100000000000000000) :
    Calls Tryd.prog 19 #[v1, v2] w fun e w' => e = .returned (.bool true) ∧ ∃ n, w' = w.drewN n := by
  obtain ⟨p1, c1, rfl⟩ := h1.form
  obtain ⟨p2, c2, rfl⟩ := h2.form
  have A1 : Hid (TS w (.slice p1 P.length c1) P) := h1
  have A2 : Hid (TS w (.slice p2 P.length c2) P) := h2
  clear h1 h2
  go_enter Tryd.func19, Tryd.ntmps19
  go_wp2
  go_loopw [5] (fun i wr => ∃ k n : Nat, k ≤ P.length ∧ i = .int .i64 k ∧ wr = w.drewN n) (fun i _ => P.length - (intOf i).toNat)
  case atStart => exact ⟨0, 0, Nat.zero_le _, rfl, rfl⟩
  case round =>
    obtain ⟨k, n, hk, rfl, rfl⟩ := hrel
    by_cases hlt : k < P.length
    · obtain ⟨X1, rfl, a1⟩ := A1.out.at hlt
      obtain ⟨X2, rfl, a2⟩ := A2.out.at hlt
      generalize P.getD k ByteArray.empty = y at *
      go_wp2
      go_quiet (fail)
      go_wp2
      all_goals
        go_roundw
        case rel => exact ⟨k + 1, _, by omega, by go_num, rfl⟩
        case measure => simp [intOf]; omega
    · go_wp2
      go_ret
      exact ⟨rfl, n, rfl⟩
def cr0 : Cr := ⟨0, 0, ByteArray.empty⟩
/-- The names of the cells from the place n - 1 down, as far as there is one way alone. -/
def pthL (l : List Cr) : Nat → List ByteArray
  | 0 => []
  | n + 1 => (if (l.getD n cr0).kind = 9 then [(l.getD n cr0).text] else []) ++ (if (l.getD n cr0).n = 1 then pthL l n else [])
theorem pthL_len (l : List Cr) : ∀ n, (pthL l n).length ≤ n
  | 0 => by simp [pthL]
  | n + 1 => by
    have := pthL_len l n
    rw [pthL, List.length_append]
    split <;> split <;> simp <;> omega
theorem first_leaf {l : List Cr} (h : chk l = 0) : 0 < l.length ∧ (l.getD 0 cr0).n = 0 := by
  obtain ⟨_, hw⟩ := chk_ok h
  cases l with
  | nil => simp [walkC] at hw
  | cons c r =>
    obtain ⟨⟨hcb, hcn⟩, _⟩ := walk_step hw
    have := crB_n hcb
    refine ⟨by simp, ?_⟩
    show c.n = 0
    omega
def pathL (l : List Cr) : List ByteArray := if chk l = 0 then pthL l l.length else []
def AnsT (w w' : World) (e : Ending) (P : List ByteArray) (x : Int) : Prop := ∃ p cap, e = .returned (.tuple #[.slice p P.length cap, .int .i64 x]) ∧ TS w' (.slice p P.length cap) P ∧ Below w.heap.size w w'
theorem ansT_nil {w w' : World} {P : List ByteArray} {x : Int} (hl : P = []) (b : Below w.heap.size w w') : AnsT w w' (.returned (.tuple #[.slice none 0 0, .int .i64 x])) P x := by
  subst hl; exact ⟨none, 0, rfl, Or.inl ⟨rfl, rfl⟩, b⟩
set_option maxHeartbeats 4000000 in
set_option maxRecDepth 100000 in
theorem path_any (v : Value) (l : List Cr) (w : World) (h : CS w v l) (ht : ∀ c ∈ l, c.text.size ≤ maxLen) (hlm : l.length ≤ 1000000000000000) (hv : FV w) :
    Calls Tryd.prog 17 #[v] w fun e w' => AnsT w w' e (pathL l) (chk l) := by
  have CK := check_any v l w h ht hv hlm
  obtain ⟨p, cap, rfl⟩ := h.form
  by_cases hc : chk l = 0
  · rw [hc] at CK ⊢
    have e2 : pathL l = pthL l l.length := by unfold pathL; rw [if_pos hc]
    rw [e2]
    have hl := (chk_ok hc).1
    have hl0 := (first_leaf hc).1
    have HS : Hid (CS w (.slice p l.length cap) l) := h
    have HPL : Hid ((pthL l l.length).length ≤ 1024) := by show (pthL l l.length).length ≤ 1024; have := pthL_len l l.length; omega
    obtain ⟨PL, hPL⟩ : ∃ PL, PL = pthL l l.length := ⟨_, rfl⟩
    rw [← hPL] at HPL ⊢
    have HP0 : Hid (PL = [] ++ pthL l l.length) := by show PL = _; rw [hPL]; rfl
    clear h ht hv e2 hc hPL
    go_enter Tryd.func17, Tryd.ntmps17
    go_wp2_with (go_at_call 31; refine CK.mono ?_; rintro e w1 ⟨rfl, hb1⟩; have B1 : Hid (Below w.heap.size w w1) := hb1; clear hb1)
    have S0 : Hid (OwnB w1 w.heap.size (.slice none 0 0) []) := World.ownsRow_nil _ _ _ _
    go_loopw [5, 6] (fun a b wl => ∃ (r : Nat) (i : Int) (va : Value) (T : List ByteArray) (wk : World), r ≤ l.length ∧ b = .int .i64 i ∧ i = r - 1 ∧ va = a ∧ wk = wl ∧ Hid (OwnB wk w.heap.size va T) ∧ Hid (PL = T ++ pthL l r) ∧ Hid (Below w.heap.size w wk)) (fun _ b _ => (intOf b + 1).toNat)
    case atStart => exact ⟨l.length, _, _, [], _, Nat.le_refl _, rfl, rfl, rfl, rfl, S0, HP0, B1⟩
    case round =>
      obtain ⟨r, i, va, T, wr, hr, rfl, hi, rfl, rfl, HO, HP, HB⟩ := hrel
      clear S0
      cases r with
      | zero =>
        obtain rfl : i = -1 := by omega
        have HPT : PL = T := by have := HP.out; rw [pthL, List.append_nil] at this; exact this
        subst HPT
        obtain ⟨pv, cv, rfl⟩ := HO.out.ts.form
        have TSX : Hid (TS wr (.slice pv PL.length cv) PL) := HO.out.ts
        have BX : Hid (Below w.heap.size w wr) := HB.out
        clear hi HP HO HB HP0
        go_wp2
        go_ret2
        exact ⟨_, _, rfl, TSX.out, BX.out⟩
      | succ r' =>
        obtain rfl : i = (r' : Int) := by omega
        clear hi
        have hrl : r' < l.length := by omega
        obtain ⟨X, o, rfl, x1, x2, x3⟩ := HS.out.at hrl
        have hX : X < w.heap.size := block_lt_of_cell x1
        obtain ⟨c, hcc⟩ : ∃ c, c = l.getD r' cr0 := ⟨_, rfl⟩
        have hce : l[r'] = c := by rw [hcc, List.getD_eq_getElem?_getD, List.getElem?_eq_getElem hrl]; rfl
        rw [hce] at x1 x2 x3
        have HPS := HP.out
        rw [pthL, ← hcc] at HPS
        have hn1y := hcc
        clear hcc hce HP HP0
        obtain ⟨kd, nn, tx⟩ := c
        have hn1x : (l.getD r' cr0).n = nn := by rw [← hn1y]
        clear hn1y
        have CE : Hid (∀ w', Below w.heap.size w w' → w'.cell? ⟨X, o + r' * 3, none⟩ = some (.int .i64 kd) ∧ w'.cell? ⟨X, o + r' * 3 + 1, none⟩ = some (.int .i64 nn) ∧ w'.cell? ⟨X, o + r' * 3 + 2, none⟩ = some (.string tx)) := fun w' b => ⟨(b.cell (p := ⟨X, _, none⟩) hX).trans x1, (b.cell (p := ⟨X, _, none⟩) hX).trans x2, (b.cell (p := ⟨X, _, none⟩) hX).trans x3⟩
        clear x1 x2 x3
        obtain ⟨x1, x2, x3⟩ := CE.out _ HB.out
        have hTl : T.length ≤ 1024 := by have h1 := HPL.out; rw [HPS, List.length_append] at h1; omega
        have LN : Hid (T.length ≤ 100000) := by show T.length ≤ 100000; omega
        simp only at HPS
        by_cases hk9 : kd = 9
        · subst hk9
          rw [if_pos rfl] at HPS
          by_cases hn1 : nn = 1
          · subst hn1
            rw [if_pos rfl, ← List.append_assoc] at HPS
            have HN : Hid (PL = (T ++ [tx]) ++ pthL l r') := HPS
            clear HPS hn1x
            go_wp2_with (at_builtin; refine append_tx rfl (.tmp 25) (.tmp 31) 35 rfl w.heap.size Tryd.underlying35 info_str _ _ _ va T tx _ rfl HO.out _ rfl rfl rfl LN.out HB.out.size ?_; intro v6 w6 ho6 hb6; have B6 : Hid (Below w.heap.size w w6) := HB.out.trans hb6; have O6 : Hid (OwnB w6 w.heap.size v6 (T ++ [tx])) := ho6; obtain ⟨y1, y2, y3⟩ := CE.out _ B6.out; clear ho6 hb6)
            go_roundw
            case rel => exact ⟨r', _, _, _, _, by omega, rfl, by go_num, rfl, rfl, O6, HN, B6⟩
            case measure => simp [intOf]
          · rw [if_neg hn1, List.append_nil] at HPS
            subst HPS
            have hn1b : (nn == 1) = false := by simpa using hn1
            have hn1c : (nn != 1) = true := by simpa using hn1
            clear hn1x
            go_wp2_with (at_builtin; refine append_tx rfl (.tmp 25) (.tmp 31) 35 rfl w.heap.size Tryd.underlying35 info_str _ _ _ va T tx _ rfl HO.out _ rfl rfl rfl LN.out HB.out.size ?_; intro v6 w6 ho6 hb6; have B6 : Hid (Below w.heap.size w w6) := HB.out.trans hb6; have O6 : Hid (OwnB w6 w.heap.size v6 (T ++ [tx])) := ho6; obtain ⟨y1, y2, y3⟩ := CE.out _ B6.out; clear ho6 hb6)
            obtain ⟨pv, cv, rfl⟩ := O6.out.ts.form
            go_ret2
            exact ⟨_, _, rfl, O6.out.ts, B6.out⟩
        · rw [if_neg hk9, List.nil_append] at HPS
          have hk9b : (kd == 9) = false := by simpa using hk9
          have hk9c : (kd != 9) = true := by simpa using hk9
          by_cases hn1 : nn = 1
          · subst hn1
            rw [if_pos rfl] at HPS
            have HN : Hid (PL = T ++ pthL l r') := HPS
            clear HPS hn1x
            go_wp2
            go_roundw
            case rel => exact ⟨r', _, _, _, _, by omega, rfl, by go_num, rfl, rfl, HO, HN, HB⟩
            case measure => simp [intOf]
          · rw [if_neg hn1, List.append_nil] at HPS
            subst HPS
            have hn1b : (nn == 1) = false := by simpa using hn1
            have hn1c : (nn != 1) = true := by simpa using hn1
            obtain ⟨pv, cv, rfl⟩ := HO.out.ts.form
            have TSX : Hid (TS wr (.slice pv PL.length cv) PL) := HO.out.ts
            have BX : Hid (Below w.heap.size w wr) := HB.out
            clear hn1x HO HB
            go_wp2
            go_ret2
            exact ⟨_, _, rfl, TSX.out, BX.out⟩
  · have e2 : pathL l = [] := by unfold pathL; rw [if_neg hc]
    have AN : Hid (∀ w', Below w.heap.size w w' → AnsT w w' (.returned (.tuple #[.slice none 0 0, .int .i64 (chk l)])) (pathL l) (chk l)) := fun w' b => ansT_nil e2 b
    clear h ht
    generalize chk l = c at *
    have h1 : (c == 0) = false := by simpa using hc
    have h2 : (c != 0) = true := by simpa using hc
    go_enter Tryd.func17, Tryd.ntmps17
    go_wp2_with (go_at_call 31; refine CK.mono ?_; rintro e w1 ⟨rfl, hb1⟩; have B1 : Hid (Below w.heap.size w w1) := hb1; clear hb1)
    go_ret2
    exact AN.out _ B1.out
set_option maxHeartbeats 4000000 in
set_option maxRecDepth 100000 in
theorem rpath_any (v : Value) (l : List Cr) (w : World) (h : CS w v l) (ht : ∀ c ∈ l, c.text.size ≤ maxLen) (hlm : l.length ≤ 1000000000000000) :
    Calls Tryd.prog 18 #[v] w fun e w' => AnsT w w' e (pathL l) (chk l) := by
  have CK := rcheck_any v l w h ht hlm
  obtain ⟨p, cap, rfl⟩ := h.form
  by_cases hc : chk l = 0
  · rw [hc] at CK ⊢
    have e2 : pathL l = pthL l l.length := by unfold pathL; rw [if_pos hc]
    rw [e2]
    have hl := (chk_ok hc).1
    obtain ⟨hl0, hf0⟩ := first_leaf hc
    have HF : Hid ((l.getD 0 cr0).n = 0) := hf0
    have HS : Hid (CS w (.slice p l.length cap) l) := h
    have HPL : Hid ((pthL l l.length).length ≤ 1024) := by show (pthL l l.length).length ≤ 1024; have := pthL_len l l.length; omega
    obtain ⟨PL, hPL⟩ : ∃ PL, PL = pthL l l.length := ⟨_, rfl⟩
    rw [← hPL] at HPL ⊢
    have HP0 : Hid (PL = [] ++ pthL l l.length) := by show PL = _; rw [hPL]; rfl
    clear h ht e2 hc hPL hf0
    go_enter Tryd.func18, Tryd.ntmps18
    go_wp2_with (go_at_call 37; refine CK.mono ?_; rintro e w1 ⟨rfl, hb1⟩; have B1 : Hid (Below w.heap.size w w1) := hb1; clear hb1)
    have B2 : Hid (Below w.heap.size w (w1.alloc (.cells #[] 9))) := B1.out.alloc B1.out.size _
    have S0 : Hid (OwnB (w1.alloc (.cells #[] 9)) w.heap.size (.slice (some ⟨w1.heap.size, 0, none⟩) 0 0) []) := (ownB_empty w1).low B1.out.size
    go_loopw [5, 6] (fun a b wl => ∃ (r : Nat) (i : Int) (va : Value) (T : List ByteArray) (wk : World), r ≤ l.length ∧ b = .int .i64 i ∧ i = r - 1 ∧ va = a ∧ wk = wl ∧ Hid (OwnB wk w.heap.size va T) ∧ Hid (PL = T ++ pthL l r) ∧ Hid (Below w.heap.size w wk) ∧ 0 < r) (fun _ b _ => (intOf b + 1).toNat)
    case atStart => exact ⟨l.length, _, _, [], _, Nat.le_refl _, rfl, rfl, rfl, rfl, S0, HP0, B2, hl0⟩
    case round =>
      obtain ⟨r, i, va, T, wr, hr, rfl, hi, rfl, rfl, HO, HP, HB, hr0⟩ := hrel
      clear S0
      cases r with
      | zero =>
        omega
      | succ r' =>
        obtain rfl : i = (r' : Int) := by omega
        clear hi
        have hrl : r' < l.length := by omega
        obtain ⟨X, o, rfl, x1, x2, x3⟩ := HS.out.at hrl
        have hX : X < w.heap.size := block_lt_of_cell x1
        obtain ⟨c, hcc⟩ : ∃ c, c = l.getD r' cr0 := ⟨_, rfl⟩
        have hce : l[r'] = c := by rw [hcc, List.getD_eq_getElem?_getD, List.getElem?_eq_getElem hrl]; rfl
        rw [hce] at x1 x2 x3
        have HPS := HP.out
        rw [pthL, ← hcc] at HPS
        have hn1y := hcc
        clear hcc hce HP HP0
        obtain ⟨kd, nn, tx⟩ := c
        have hn1x : (l.getD r' cr0).n = nn := by rw [← hn1y]
        clear hn1y
        have CE : Hid (∀ w', Below w.heap.size w w' → w'.cell? ⟨X, o + r' * 3, none⟩ = some (.int .i64 kd) ∧ w'.cell? ⟨X, o + r' * 3 + 1, none⟩ = some (.int .i64 nn) ∧ w'.cell? ⟨X, o + r' * 3 + 2, none⟩ = some (.string tx)) := fun w' b => ⟨(b.cell (p := ⟨X, _, none⟩) hX).trans x1, (b.cell (p := ⟨X, _, none⟩) hX).trans x2, (b.cell (p := ⟨X, _, none⟩) hX).trans x3⟩
        clear x1 x2 x3
        obtain ⟨x1, x2, x3⟩ := CE.out _ HB.out
        have hTl : T.length ≤ 1024 := by have h1 := HPL.out; rw [HPS, List.length_append] at h1; omega
        have LN : Hid (T.length ≤ 100000) := by show T.length ≤ 100000; omega
        simp only at HPS
        by_cases hk9 : kd = 9
        · subst hk9
          rw [if_pos rfl] at HPS
          by_cases hn1 : nn = 1
          · subst hn1
            rw [if_pos rfl, ← List.append_assoc] at HPS
            have HN : Hid (PL = (T ++ [tx]) ++ pthL l r') := HPS
            have hr1 : 0 < r' := by
              by_cases e : r' = 0
              · exfalso
                have := HF.out; rw [e] at hn1x; omega
              · omega
            clear HPS hn1x
            go_wp2_with (at_builtin; refine append_tx rfl (.tmp 24) (.tmp 30) 35 rfl w.heap.size Tryd.underlying35 info_str _ _ _ va T tx _ rfl HO.out _ rfl rfl rfl LN.out HB.out.size ?_; intro v6 w6 ho6 hb6; have B6 : Hid (Below w.heap.size w w6) := HB.out.trans hb6; have O6 : Hid (OwnB w6 w.heap.size v6 (T ++ [tx])) := ho6; obtain ⟨y1, y2, y3⟩ := CE.out _ B6.out; clear ho6 hb6)
            go_roundw
            case rel => exact ⟨r', _, _, _, _, by omega, rfl, by go_num, rfl, rfl, O6, HN, B6, hr1⟩
            case measure => simp [intOf]
          · rw [if_neg hn1, List.append_nil] at HPS
            subst HPS
            have hn1b : (nn == 1) = false := by simpa using hn1
            have hn1c : (nn != 1) = true := by simpa using hn1
            clear hn1x
            go_wp2_with (at_builtin; refine append_tx rfl (.tmp 24) (.tmp 30) 35 rfl w.heap.size Tryd.underlying35 info_str _ _ _ va T tx _ rfl HO.out _ rfl rfl rfl LN.out HB.out.size ?_; intro v6 w6 ho6 hb6; have B6 : Hid (Below w.heap.size w w6) := HB.out.trans hb6; have O6 : Hid (OwnB w6 w.heap.size v6 (T ++ [tx])) := ho6; obtain ⟨y1, y2, y3⟩ := CE.out _ B6.out; clear ho6 hb6)
            obtain ⟨pv, cv, rfl⟩ := O6.out.ts.form
            go_ret2
            exact ⟨_, _, rfl, O6.out.ts, B6.out⟩
        · rw [if_neg hk9, List.nil_append] at HPS
          have hk9b : (kd == 9) = false := by simpa using hk9
          have hk9c : (kd != 9) = true := by simpa using hk9
          by_cases hn1 : nn = 1
          · subst hn1
            rw [if_pos rfl] at HPS
            have HN : Hid (PL = T ++ pthL l r') := HPS
            have hr1 : 0 < r' := by
              by_cases e : r' = 0
              · exfalso
                have := HF.out; rw [e] at hn1x; omega
              · omega
            clear HPS hn1x
            go_wp2
            go_roundw
            case rel => exact ⟨r', _, _, _, _, by omega, rfl, by go_num, rfl, rfl, HO, HN, HB, hr1⟩
            case measure => simp [intOf]
          · rw [if_neg hn1, List.append_nil] at HPS
            subst HPS
            have hn1b : (nn == 1) = false := by simpa using hn1
            have hn1c : (nn != 1) = true := by simpa using hn1
            obtain ⟨pv, cv, rfl⟩ := HO.out.ts.form
            have TSX : Hid (TS wr (.slice pv PL.length cv) PL) := HO.out.ts
            have BX : Hid (Below w.heap.size w wr) := HB.out
            clear hn1x HO HB
            go_wp2
            go_ret2
            exact ⟨_, _, rfl, TSX.out, BX.out⟩
  · have e2 : pathL l = [] := by unfold pathL; rw [if_neg hc]
    have AN : Hid (∀ w', Below w.heap.size w w' → AnsT w w' (.returned (.tuple #[.slice none 0 0, .int .i64 (chk l)])) (pathL l) (chk l)) := fun w' b => ansT_nil e2 b
    clear h ht
    generalize chk l = c at *
    have h1 : (c == 0) = false := by simpa using hc
    have h2 : (c != 0) = true := by simpa using hc
    go_enter Tryd.func18, Tryd.ntmps18
    go_wp2_with (go_at_call 37; refine CK.mono ?_; rintro e w1 ⟨rfl, hb1⟩; have B1 : Hid (Below w.heap.size w w1) := hb1; clear hb1)
    go_ret2
    exact AN.out _ B1.out
end Go.Proofs.YtaleagkhblokgaaDoor
