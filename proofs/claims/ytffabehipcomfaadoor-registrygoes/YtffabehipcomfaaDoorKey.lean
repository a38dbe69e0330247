/- The walks of lex.IsKey and of its reference: both tell whether a text is one of the nineteen keywords. -/
import Derived.Test.YtffabehipcomfaaDoorProg
import Derived.Test.YtffabehipcomfaaDoorNum
import Derived.WalkKit
import Derived.WalkSpells
import Derived.WalkLawsBesides
namespace Go.Proofs.YtffabehipcomfaaDoor
open Go.RowKit

theorem ret_int {k : IntKind} {a b : Int} (h : a = b) : Ending.returned (.int k a) = .returned (.int k b) := by rw [h]
theorem ret_bool {a b : Bool} (h : a = b) : Ending.returned (.bool a) = .returned (.bool b) := by rw [h]

set_option maxHeartbeats 1000000 in
theorem wordEnd_any (s : ByteArray) (n : Nat) (w : World) (hs : s.size ≤ maxLen) (hn : n ≤ s.size) :
    Calls Tryd.prog 83 #[.string s, .int .i64 n] w fun e w' => e = .returned (.int .i64 (n + wLen (s.data.toList.drop n) : Nat)) ∧ w' = w := by
  unfold maxLen at hs
  go_enter Tryd.func83, Tryd.ntmps83
  go_wp2; go_step3; go_wp2; go_step3; go_wp2
  go_loop [5] (fun i => ∃ k : Nat, n ≤ k ∧ k ≤ s.size ∧ i = .int .i64 k ∧ Hid (n + wLen (s.data.toList.drop n) = if k = n then n + wLen (s.data.toList.drop n) else k + ptLen (s.data.toList.drop k))) (fun i => s.size - (intOf i).toNat)
  case atStart => exact ⟨n, Nat.le_refl _, hn, rfl, by show _ = _; rw [if_pos rfl]⟩
  case round =>
    obtain ⟨k, hk, hks, rfl, HR⟩ := hrel
    by_cases hlt : k < s.size
    · have HD : Hid (s.data.toList.drop k = s[k] :: s.data.toList.drop (k + 1)) := drop_cons s k hlt
      have hc : (s[k].toNat : Int) ≤ 255 := by have := UInt8.toNat_lt s[k]; omega
      by_cases hsm : 97 ≤ (s[k].toNat : Int) ∧ (s[k].toNat : Int) ≤ 122
      · obtain ⟨h1, h2⟩ := hsm
        go_wp2
        go_round
        case rel =>
          refine ⟨k + 1, by omega, by omega, by go_num, ?_⟩
          show _ = _
          rw [if_neg (by omega)]
          by_cases hkn : k = n
          · subst hkn; rw [HD.out, wLen_cons_pos (isSm_t h1 h2)]; omega
          · rw [HR.out, if_neg hkn, HD.out, ptLen_cons_pos (isPt_t (Or.inl ⟨h1, h2⟩))]; omega
        case measure => simp [intOf]; omega
      · by_cases hkn : k = n
        · subst hkn
          go_wp2
          all_goals
            go_ret
            refine ⟨ret_int ?_, rfl⟩
            rw [HD.out, wLen_cons_neg (isSm_f hsm)]; rfl
        · by_cases h9 : (s[k].toNat : Int) = 95
          · go_wp2
            all_goals
              go_round
              case rel =>
                refine ⟨k + 1, by omega, by omega, by go_num, ?_⟩
                show _ = _
                rw [if_neg (by omega), HR.out, if_neg hkn, HD.out, ptLen_cons_pos (isPt_t (Or.inr (Or.inr h9)))]; omega
              case measure => simp [intOf]; omega
          · by_cases hd : 48 ≤ (s[k].toNat : Int) ∧ (s[k].toNat : Int) ≤ 57
            · obtain ⟨hd1, hd2⟩ := hd
              go_wp2
              all_goals
                go_round
                case rel =>
                  refine ⟨k + 1, by omega, by omega, by go_num, ?_⟩
                  show _ = _
                  rw [if_neg (by omega), HR.out, if_neg hkn, HD.out, ptLen_cons_pos (isPt_t (Or.inr (Or.inl ⟨hd1, hd2⟩)))]; omega
                case measure => simp [intOf]; omega
            · have hp : isPt s[k] = false := isPt_f (by omega)
              have HP : Hid (isPt s[k] = false) := hp
              have h9b : ((s[k].toNat : Int) == 95) = false := by simpa using h9
              clear hp h9
              go_wp2
              all_goals
                go_ret
                refine ⟨ret_int ?_, rfl⟩
                rw [HR.out, if_neg hkn, HD.out, ptLen_cons_neg HP.out]; rfl
    · go_wp2
      go_ret
      refine ⟨ret_int ?_, rfl⟩
      rw [HR.out]
      by_cases hkn : k = n
      · rw [if_pos hkn, hkn, drop_end s n (by omega)]; simp [wLen]
      · rw [if_neg hkn, drop_end s k (by omega)]; simp [ptLen]

theorem wordB_nil : wordB [] = false := by simp [wordB]
theorem wordB_cons_neg {c : UInt8} {r : List UInt8} (h : isSm c = false) : wordB (c :: r) = false := by simp [wordB, wLen_cons_neg h]
theorem wordB_cons_pos {c : UInt8} {r : List UInt8} (h : isSm c = true) : wordB (c :: r) = decide (ptLen r = r.length) := by simp [wordB, wLen_cons_pos h]

set_option maxHeartbeats 1000000 in
theorem word_any (s : ByteArray) (w : World) (hs : s.size ≤ maxLen) :
    Calls Tryd.prog 61 #[.string s] w fun e w' => e = .returned (.bool (wordB s.data.toList)) ∧ w' = w := by
  unfold maxLen at hs
  by_cases hz : s.size = 0
  · obtain rfl := bytes_nil hz
    go_enter Tryd.func61, Tryd.ntmps61
    go_wp2
    go_ret
    exact ⟨ret_bool wordB_nil.symm, rfl⟩
  have h0 : 0 < s.size := by omega
  obtain ⟨hn1, hn2⟩ := bytes_ne h0
  have HC : Hid (s.data.toList = s[0] :: s.data.toList.drop 1) := bytes_cons h0
  by_cases hsm : 97 ≤ (s[0].toNat : Int) ∧ (s[0].toNat : Int) ≤ 122
  · obtain ⟨hs1, hs2⟩ := hsm
    have HW : Hid (wordB s.data.toList = decide (ptLen (s.data.toList.drop 1) = s.size - 1)) := by
      show _ = _
      rw [HC.out, wordB_cons_pos (isSm_t hs1 hs2)]; simp
    go_enter Tryd.func61, Tryd.ntmps61
    go_wp2
    go_loop [3] (fun i => ∃ k : Nat, 1 ≤ k ∧ k ≤ s.size ∧ i = .int .i64 k ∧ Hid (1 + ptLen (s.data.toList.drop 1) = k + ptLen (s.data.toList.drop k))) (fun i => s.size - (intOf i).toNat)
    case atStart => exact ⟨1, Nat.le_refl _, by omega, rfl, rfl⟩
    case round =>
      obtain ⟨k, hk, hks, rfl, HR⟩ := hrel
      by_cases hlt : k < s.size
      · have HD : Hid (s.data.toList.drop k = s[k] :: s.data.toList.drop (k + 1)) := drop_cons s k hlt
        have hc : (s[k].toNat : Int) ≤ 255 := by have := UInt8.toNat_lt s[k]; omega
        by_cases hp : (97 ≤ (s[k].toNat : Int) ∧ (s[k].toNat : Int) ≤ 122) ∨ (48 ≤ (s[k].toNat : Int) ∧ (s[k].toNat : Int) ≤ 57) ∨ (s[k].toNat : Int) = 95
        · have HP : Hid (isPt s[k] = true) := isPt_t hp
          have fin : ∃ k1 : Nat, 1 ≤ k1 ∧ k1 ≤ s.size ∧ Value.int IntKind.i64 ((k : Int) + 1) = .int .i64 k1 ∧ Hid (1 + ptLen (s.data.toList.drop 1) = k1 + ptLen (s.data.toList.drop k1)) := by
            refine ⟨k + 1, by omega, by omega, by go_num, ?_⟩
            show _ = _
            rw [HR.out, HD.out, ptLen_cons_pos HP.out]; omega
          have FIN : Hid _ := fin
          clear fin
          rcases hp with ⟨h1, h2⟩ | ⟨h1, h2⟩ | h1
          all_goals
            go_wp2
            go_round
            case rel => exact FIN.out
            case measure => simp [intOf]; omega
        · have HP : Hid (isPt s[k] = false) := isPt_f hp
          have a3b : ((s[k].toNat : Int) == 95) = false := by simp; omega
          rcases (by omega : 122 < (s[k].toNat : Int) ∨ (57 < (s[k].toNat : Int) ∧ (s[k].toNat : Int) < 97) ∨ (s[k].toNat : Int) < 48) with h1 | ⟨h1, h2⟩ | h1
          · have c1 : ¬ (s[k].toNat : Int) ≤ 122 := by omega
            have c2 : ¬ (s[k].toNat : Int) ≤ 57 := by omega
            clear hp
            go_wp2
            go_ret
            refine ⟨ret_bool ?_, rfl⟩
            rw [HW.out]
            have := HR.out
            rw [HD.out, ptLen_cons_neg HP.out] at this
            symm; rw [decide_eq_false_iff_not]; omega
          · have c1 : ¬ 97 ≤ (s[k].toNat : Int) := by omega
            have c2 : ¬ (s[k].toNat : Int) ≤ 57 := by omega
            clear hp
            go_wp2
            go_ret
            refine ⟨ret_bool ?_, rfl⟩
            rw [HW.out]
            have := HR.out
            rw [HD.out, ptLen_cons_neg HP.out] at this
            symm; rw [decide_eq_false_iff_not]; omega
          · have c1 : ¬ 97 ≤ (s[k].toNat : Int) := by omega
            have c2 : ¬ 48 ≤ (s[k].toNat : Int) := by omega
            clear hp
            go_wp2
            go_ret
            refine ⟨ret_bool ?_, rfl⟩
            rw [HW.out]
            have := HR.out
            rw [HD.out, ptLen_cons_neg HP.out] at this
            symm; rw [decide_eq_false_iff_not]; omega
      · go_wp2
        go_ret
        refine ⟨ret_bool ?_, rfl⟩
        rw [HW.out]
        have := HR.out
        rw [drop_end s k (by omega)] at this
        symm; rw [decide_eq_true_eq]; simp only [ptLen] at this; omega
  · have HW : Hid (wordB s.data.toList = false) := by
      show _ = _
      rw [HC.out, wordB_cons_neg (isSm_f hsm)]
    by_cases hs1 : 97 ≤ (s[0].toNat : Int)
    · have hs2 : ¬ (s[0].toNat : Int) ≤ 122 := fun h => hsm ⟨hs1, h⟩
      clear hsm
      go_enter Tryd.func61, Tryd.ntmps61
      go_wp2
      go_ret
      exact ⟨ret_bool HW.out.symm, rfl⟩
    · clear hsm
      go_enter Tryd.func61, Tryd.ntmps61
      go_wp2
      go_ret
      exact ⟨ret_bool HW.out.symm, rfl⟩

/-- A word that a local may have: not empty, at most MaxName bytes, all of it one word. -/
def localB (l : List UInt8) : Bool := decide (l.length ≤ 24) && wordB l

set_option maxHeartbeats 400000 in
theorem isWord_any (s : ByteArray) (w : World) (hs : s.size ≤ maxLen) :
    Calls Tryd.prog 69 #[.string s] w fun e w' => e = .returned (.bool (localB s.data.toList)) ∧ w' = w := by
  have hs' := hs
  unfold maxLen at hs
  by_cases hz : s.size = 0
  · obtain rfl := bytes_nil hz
    go_enter Tryd.func69, Tryd.ntmps69
    go_wp2
    go_ret
    exact ⟨ret_bool (by simp [localB, wordB_nil]), rfl⟩
  have h0 : 0 < s.size := by omega
  obtain ⟨hn1, hn2⟩ := bytes_ne h0
  by_cases hl : s.size ≤ 24
  · have HL : Hid (localB s.data.toList = decide (((0 + wLen (s.data.toList.drop 0) : Nat) : Int) = (s.size : Int))) := by
      show _ = _
      have : s.data.toList ≠ [] := by rw [bytes_cons h0]; simp
      have e : s.data.toList.length = s.size := by simp
      simp only [localB, wordB, e, hl, decide_true, Bool.true_and, List.drop_zero]
      rw [decide_eq_decide]
      constructor
      · intro h; omega
      · intro h; exact ⟨this, by omega⟩
    go_enter Tryd.func69, Tryd.ntmps69
    go_wp2_with (go_at_call 83; refine (wordEnd_any s 0 _ hs' (Nat.zero_le _)).mono ?_; rintro e w' ⟨rfl, rfl⟩)
    go_ret
    exact ⟨ret_bool (by rw [HL.out, Nat.zero_add, List.drop_zero]; rfl), rfl⟩
  · go_enter Tryd.func69, Tryd.ntmps69
    go_wp2
    go_ret
    exact ⟨ret_bool (by simp [localB, hl]), rfl⟩
end Go.Proofs.YtffabehipcomfaaDoor
namespace Go.Proofs.YtffabehipcomfaaDoor
open Go

theorem run_loadVar_cells {P : Program} (w : World) (g : Nat) (ty : TypeId) (cs : Array Value) (d : TypeDesc) (hc : ∀ j v, cs.toList[j]? = some v → w.cell? ⟨g, j, none⟩ = some v)
    (hu : P.underlying ty = some d) (hd : (match d with | .struct _ | .array _ _ => true | _ => false) = true) (hi : (P.info? ty).map (·.size) = some cs.size) :
    (loadVar ty ⟨g, 0, none⟩).run P w = .ok (.agg cs) w := by
  have hl : (loadCells ⟨g, 0, none⟩ cs.toList.length).run P w = .ok cs.toList.toArray w :=
    run_loadCells_list (P := P) w ⟨g, 0, none⟩ cs.toList (fun j v hv => by
      have hadd : (⟨g, 0, none⟩ : Addr).add j = ⟨g, j, none⟩ := by unfold Addr.add; split <;> simp_all
      rw [hadd]; exact hc j v hv)
  cases hq : P.info? ty with
  | none => simp [hq] at hi
  | some i =>
    have hs : i.size = cs.size := by simpa [hq] using hi
    have hagg : (isAgg ty).run P w = .ok true w := by
      unfold isAgg
      rw [Sem.run_bind, run_underlying hu w]
      cases d <;> simp_all
    simp only [Array.length_toList, Array.toArray_toList] at hl
    simp [loadVar, Sem.run_bind, hagg, sizeOf, typeInfo, hq, hs, hl]

theorem wp_load_cells {P : Program} {o : Oper} {a : Act} {w : World} {K : Act → World → Prop} {Q : Exit → Act → World → Prop} (ty : TypeId) (x : Operand) (ho : o.op = .load ty x)
    (g : Nat) (hx : a.eval x = .pointer (some ⟨g, 0, none⟩)) (cs : Array Value) (d : TypeDesc) (hc : ∀ j v, cs.toList[j]? = some v → w.cell? ⟨g, j, none⟩ = some v)
    (hu : P.underlying ty = some d) (hd : (match d with | .struct _ | .array _ _ => true | _ => false) = true) (hi : (P.info? ty).map (·.size) = some cs.size)
    (h : K (a.put o.dst (.agg cs)) w) : o.wp P a w K Q := by
  unfold Oper.wp execOp
  simp only [ho, hx, Instr.loadAt, Instr.sureAddr, Sem.run_bind, Sem.run_pure, Result.andThen_ok, run_loadVar_cells w g ty cs d hc hu hd hi]
  exact h

theorem wpList_load_cells {P : Program} {ops : Array Oper} {rest : List Oper} {o : Oper} {a : Act} {w : World} {Q : Exit → Act → World → Prop} (hgd : o.guard = none) (ty : TypeId) (x : Operand) (ho : o.op = .load ty x)
    (g : Nat) (hx : a.eval x = .pointer (some ⟨g, 0, none⟩)) (cs : Array Value) (d : TypeDesc) (hc : ∀ j v, cs.toList[j]? = some v → w.cell? ⟨g, j, none⟩ = some v)
    (hu : P.underlying ty = some d) (hd : (match d with | .struct _ | .array _ _ => true | _ => false) = true) (hi : (P.info? ty).map (·.size) = some cs.size)
    (h : wpList P ops Q rest (a.put o.dst (.agg cs)) w) : wpList P ops Q (o :: rest) a w :=
  wpList_plain hgd fun _ hK => wp_load_cells ty x ho g hx cs d hc hu hd hi (hK _ _ h)

/-- An array of strings, by value, indexed. -/
theorem run_index_strs {P : Program} (t e : TypeId) (n : Nat) (cs : Array Value) (k : Nat) (s : ByteArray) (w : World) (hu : P.underlying t = some (.array n e)) (he : P.underlying e = some .string)
    (hi : (P.info? e).map (·.size) = some 1) (hk : k < n) (hc : cs[k]? = some (.string s)) : (Instr.index t (.agg cs) (.int .i64 k)).run P w = .ok (.string s) w := by
  cases hq : P.info? e with
  | none => simp [hq] at hi
  | some i =>
    have hs : i.size = 1 := by simpa [hq] using hi
    have hagg : (isAgg e).run P w = .ok false w := by
      unfold isAgg
      rw [Sem.run_bind, run_underlying he w]
      simp
    have h1 : (0 : Int) ≤ (k : Int) ∧ (k : Int) < (n : Int) := by omega
    simp only [Instr.index, asIntOf, Sem.run_bind, Sem.run_pure, Result.andThen_ok, run_underlying hu w]
    simp [h1, sizeOf, typeInfo, Sem.run_bind, hq, hs, part, hagg, hc]
end Go.Proofs.YtffabehipcomfaaDoor
namespace Go.Proofs.YtffabehipcomfaaDoor
open Go.RowKit

/-- Is a text among others? -/
def inB (l : List ByteArray) (s : ByteArray) : Bool := l.any fun x => x.toList == s.toList
theorem inB_hit {l : List ByteArray} {s : ByteArray} {k : Nat} (hk : k < l.length) (h : (l[k].toList == s.toList) = true) : inB l s = true := by
  unfold inB; rw [List.any_eq_true]; exact ⟨l[k], List.getElem_mem hk, h⟩
theorem inB_miss {l : List ByteArray} {s : ByteArray} {k : Nat} (hk : k < l.length) (h : (l[k].toList == s.toList) = false) : inB (l.drop k) s = inB (l.drop (k + 1)) s := by
  unfold inB; rw [List.drop_eq_getElem_cons hk, List.any_cons, h, Bool.false_or]
theorem inB_end {l : List ByteArray} {s : ByteArray} {k : Nat} (hk : l.length ≤ k) : inB (l.drop k) s = false := by
  unfold inB; rw [List.drop_eq_nil_iff.2 hk]; rfl

set_option maxHeartbeats 1000000 in
theorem in_any (l : List ByteArray) (s : ByteArray) (b o c : Nat) (w : World) (hl : l.length ≤ 1000000) (hk : ∀ i, i < l.length → w.cell? ⟨b, o + i, none⟩ = some (.string (l.getD i ByteArray.empty))) :
    Calls Tryd.prog 50 #[.slice (some ⟨b, o, none⟩) l.length c, .string s] w fun e w' => e = .returned (.bool (inB l s)) ∧ w' = w := by
  go_enter Tryd.func50, Tryd.ntmps50
  go_wp2
  go_loop [5] (fun i => ∃ k : Nat, k ≤ l.length ∧ i = .int .i64 k ∧ Hid (inB l s = inB (l.drop k) s)) (fun i => l.length - (intOf i).toNat)
  case atStart => exact ⟨0, Nat.zero_le _, rfl, rfl⟩
  case round =>
    obtain ⟨k, hkl, rfl, HR⟩ := hrel
    by_cases hlt : k < l.length
    · have hc := hk k hlt
      cases ht : (l[k].toList == s.toList)
      · go_wp2
        go_round
        case rel => exact ⟨k + 1, by omega, by go_num, by show _ = _; rw [HR.out, inB_miss hlt ht]⟩
        case measure => simp [intOf]; omega
      · go_wp2
        go_ret
        exact ⟨ret_bool (inB_hit hlt ht).symm, rfl⟩
    · go_wp2
      go_ret
      exact ⟨ret_bool (by rw [HR.out, inB_end (by omega)]), rfl⟩

/-- The nineteen keywords. -/
def kw : List ByteArray := [⟨#[99, 101, 108, 108]⟩, ⟨#[97, 103, 97, 105, 110]⟩, ⟨#[116, 114, 105, 101, 115]⟩, ⟨#[98, 97, 115, 101]⟩, ⟨#[102, 97, 99, 116, 111, 114]⟩, ⟨#[99, 97, 112]⟩, ⟨#[99, 108, 111, 115, 101]⟩, ⟨#[102, 105, 110, 101]⟩, ⟨#[102, 97, 105, 108]⟩, ⟨#[112, 97, 110, 105, 99]⟩, ⟨#[105, 102]⟩, ⟨#[116, 104, 101, 110]⟩, ⟨#[101, 108, 115, 101]⟩, ⟨#[116, 114, 121]⟩, ⟨#[119, 97, 105, 116]⟩, ⟨#[108, 101, 116]⟩, ⟨#[105, 110]⟩, ⟨#[105, 116, 101, 109]⟩, ⟨#[115, 105, 122, 101]⟩]
def kwV : Array Value := (kw.map Value.string).toArray
theorem kw_len : kw.length = 19 := by decide
theorem kwV_at (k : Nat) (h : k < kw.length) : kwV[k]? = some (.string kw[k]) := by simp [kwV, h]

/-- The keywords lie in the memory of the package's variable. -/
def KeysAt (w : World) : Prop := ∀ i, i < kw.length → w.cell? ⟨0, i, none⟩ = some (.string (kw.getD i ByteArray.empty))

theorem KeysAt.below {w w' : World} (h : KeysAt w) (hb : Below w.heap.size w w') : KeysAt w' := by
  intro i hi
  have := h i hi
  rw [hb.cell (p := ⟨0, i, none⟩) (block_lt_of_cell this)]; exact this
theorem KeysAt.alloc {w : World} (h : KeysAt w) (o : Obj) : KeysAt (w.alloc o) := h.below ((Below.refl _ _).alloc (Nat.le_refl _) _)

set_option maxHeartbeats 1000000 in
set_option maxRecDepth 100000 in
theorem isKey_any (s : ByteArray) (w : World) (hk : KeysAt w) :
    Calls Tryd.prog 70 #[.string s] w fun e w' => e = .returned (.bool (inB kw s)) ∧ w' = w := by
  have hcs : ∀ j v, kwV.toList[j]? = some v → w.cell? ⟨0, j, none⟩ = some v := by
    intro j v hv
    have hj : j < kw.length := by
      by_cases h : j < kw.length
      · exact h
      · exfalso; rw [List.getElem?_eq_none (by simp [kwV]; omega)] at hv; cases hv
    rw [hk j hj]
    have := kwV_at j hj
    rw [← Array.getElem?_toList, hv] at this
    rw [this]; simp [hj]
  have hix : ∀ k (h : k < kw.length) (w' : World), (Instr.index 116 (.agg kwV) (.int .i64 k)).run Tryd.prog w' = .ok (.string kw[k]) w' := fun k h w' =>
    run_index_strs 116 9 19 kwV k kw[k] w' Tryd.underlying116 Tryd.underlying9 (by kernel_rfl) (by rw [kw_len] at h; exact h) (kwV_at k h)
  have hsz : (Tryd.prog.info? 116).map (·.size) = some kwV.size := by kernel_rfl
  have HCS : Hid (∀ j v, kwV.toList[j]? = some v → w.cell? ⟨0, j, none⟩ = some v) := hcs
  have HSZ : Hid ((Tryd.prog.info? 116).map (·.size) = some kwV.size) := hsz
  have hkl := kw_len
  generalize kwV = V at *
  generalize kw = L at *
  clear hcs hsz hk
  go_enter Tryd.func70, Tryd.ntmps70
  go_wp2_with (refine wpList_load_cells rfl 116 (.global 0) rfl 0 rfl V (.array 19 9) HCS.out Tryd.underlying116 rfl HSZ.out ?_)
  go_loop [6] (fun i => ∃ k : Nat, k ≤ L.length ∧ i = .int .i64 k ∧ Hid (inB L s = inB (L.drop k) s)) (fun i => L.length - (intOf i).toNat)
  case atStart => exact ⟨0, Nat.zero_le _, rfl, rfl⟩
  case round =>
    obtain ⟨k, hkl', rfl, HR⟩ := hrel
    by_cases hlt : k < L.length
    · have hi := hix k hlt
      cases ht : (s.toList == L[k].toList)
      · go_wp2
        go_round
        case rel => exact ⟨k + 1, by omega, by go_num, by show _ = _; rw [HR.out, inB_miss hlt (by rw [Bool.beq_comm]; exact ht)]⟩
        case measure => simp [intOf]; omega
      · go_wp2
        go_ret
        exact ⟨ret_bool (inB_hit hlt (by rw [Bool.beq_comm]; exact ht)).symm, rfl⟩
    · go_wp2
      go_ret
      exact ⟨ret_bool (by rw [HR.out, inB_end (by omega)]), rfl⟩

set_option maxHeartbeats 1000000 in
theorem keys_any (w : World) :
    Calls Tryd.prog 62 #[] w fun e w' => e = .returned (.slice (some ⟨w.heap.size, 0, none⟩) kw.length 19) ∧ w' = w.alloc (.cells kwV 9) := by
  go_enter Tryd.func62, Tryd.ntmps62
  go_wp2
  go_ret
  exact ⟨rfl, rfl⟩
theorem kw_cells (w : World) : ∀ i, i < kw.length → (w.alloc (.cells kwV 9)).cell? ⟨w.heap.size, 0 + i, none⟩ = some (.string (kw.getD i ByteArray.empty)) := by
  intro i hi
  rw [cell_of_row _ _ _ _ _ _ (heap_alloc_new w _), Nat.zero_add, kwV_at i hi]; simp [hi]

/-- A name: a word of at most MaxName bytes that is no keyword. -/
def nameB (s : ByteArray) : Bool := localB s.data.toList && !inB kw s

set_option maxHeartbeats 1000000 in
theorem isName_any (s : ByteArray) (w : World) (hs : s.size ≤ maxLen) (hk : KeysAt w) :
    Calls Tryd.prog 51 #[.string s] w fun e w' => e = .returned (.bool (nameB s)) ∧ w' = w := by
  have HN : Hid (nameB s = (localB s.data.toList && !inB kw s)) := rfl
  have IK := isKey_any s w hk
  have IW := isWord_any s w hs
  generalize nameB s = nb at *
  generalize inB kw s = kb at *
  generalize localB s.data.toList = lb at *
  clear hk
  cases lb
  · go_enter Tryd.func51, Tryd.ntmps51
    go_wp2_with (first
      | (go_at_call 69; refine IW.mono ?_; rintro e w' ⟨rfl, rfl⟩))
    go_ret
    exact ⟨ret_bool (by rw [HN.out]; rfl), rfl⟩
  · go_enter Tryd.func51, Tryd.ntmps51
    go_wp2_with (first
      | (go_at_call 69; refine IW.mono ?_; rintro e w' ⟨rfl, rfl⟩)
      | (go_at_call 70; refine IK.mono ?_; rintro e w' ⟨rfl, rfl⟩))
    go_ret
    exact ⟨ret_bool (by rw [HN.out]; rfl), rfl⟩

set_option maxHeartbeats 1000000 in
theorem baseName_any (s : ByteArray) (w : World) (hs : s.size ≤ maxLen) :
    Calls Tryd.prog 43 #[.string s] w fun e w' => e = .returned (.bool (nameB s)) ∧ Below w.heap.size w w' := by
  have HN : Hid (nameB s = ((decide (s.size ≤ 24) && wordB s.data.toList) && !inB kw s)) := by
    show _ = _
    simp [nameB, localB]
  have hl : kw.length ≤ 1000000 := by rw [kw_len]; omega
  have KA := keys_any w
  have KC := kw_cells w
  have IN := in_any kw s w.heap.size 0 19 _ hl KC
  have IW := word_any s w hs
  clear KC
  generalize nameB s = nb at *
  generalize inB kw s = kb at *
  generalize wordB s.data.toList = lb at *
  generalize kw = L at *
  generalize kwV = V at *
  unfold maxLen at hs
  by_cases h24 : s.size ≤ 24
  · cases lb
    · go_enter Tryd.func43, Tryd.ntmps43
      go_wp2_with (first
        | (go_at_call 61; refine IW.mono ?_; rintro e w' ⟨rfl, rfl⟩))
      go_ret
      exact ⟨ret_bool (by rw [HN.out]; simp), Below.refl _ _⟩
    · go_enter Tryd.func43, Tryd.ntmps43
      go_wp2_with (first
        | (go_at_call 61; refine IW.mono ?_; rintro e w' ⟨rfl, rfl⟩)
        | (go_at_call 62; refine KA.mono ?_; rintro e w' ⟨rfl, rfl⟩)
        | (go_at_call 50; refine IN.mono ?_; rintro e w' ⟨rfl, rfl⟩))
      go_ret
      exact ⟨ret_bool (by rw [HN.out]; simp [h24]), (Below.refl _ _).alloc (Nat.le_refl _) _⟩
  · go_enter Tryd.func43, Tryd.ntmps43
    go_wp2
    go_ret
    exact ⟨ret_bool (by rw [HN.out]; simp [h24]), Below.refl _ _⟩

end Go.Proofs.YtffabehipcomfaaDoor
