/- The walks of lex.IsKey and of its reference: both tell whether a text is one of the nineteen keywords. -/
import Derived.Test.YtahcllncjpaijabDoorProg
import Derived.Test.YtahcllncjpaijabDoorNum
import Derived.WalkKit
import Derived.WalkSpells
import Derived.WalkLawsBesides
namespace Go.Proofs.YtahcllncjpaijabDoor.L1
open Go.RowKit

theorem ret_int {k : IntKind} {a b : Int} (h : a = b) : Ending.returned (.int k a) = .returned (.int k b) := by rw [h]
theorem ret_bool {a b : Bool} (h : a = b) : Ending.returned (.bool a) = .returned (.bool b) := by rw [h]

set_option maxHeartbeats 1000000 in
theorem wordEnd_any (s : ByteArray) (n : Nat) (w : World) (hs : s.size ≤ maxLen) (hn : n ≤ s.size) :
    Calls Tryd.prog 73 #[.string s, .int .i64 n] w fun e w' => e = .returned (.int .i64 (n + wLen (s.data.toList.drop n) : Nat)) ∧ w' = w := by
  unfold maxLen at hs
  go_enter Tryd.func73, Tryd.ntmps73
  go_wp2; go_step3; go_wp2; go_step3; go_wp2
  go_loop [5] (fun i => ∃ k : Nat, n ≤ k ∧ k ≤ s.size ∧ i = .int .i64 k ∧ Hid (n + wLen (s.data.toList.drop n) = if k = n then n + wLen (s.data.toList.drop n) else k + ptLen (s.data.toList.drop k))) (fun i => s.size - (intOf i).toNat)
  case atStart => exact ⟨n, Nat.le_refl _, hn, rfl, by show _ = _; rw [if_pos rfl]⟩
  case round =>
    obtain ⟨k, hk, hks, rfl, HR⟩ := hrel
    by_cases hlt : k < s.size
    · have HD : Hid (s.data.toList.drop k = s[k] :: s.data.toList.drop (k + 1)) := drop_cons s k hlt
      have hc : (s[k].toNat : Int) ≤ 255 := by have := UInt8.toNat_lt s[k]; omega
      by_cases hsm : 97 ≤ (s[k].toNat : Int) ∧ (s[k].toNat : Int) ≤ 122
      · obtain ⟨h1, h2⟩ := hsm
        go_wp2
        go_round
        case rel =>
          refine ⟨k + 1, by omega, by omega, by go_num, ?_⟩
          show _ = _
          rw [if_neg (by omega)]
          by_cases hkn : k = n
          · subst hkn; rw [HD.out, wLen_cons_pos (isSm_t h1 h2)]; omega
          · rw [HR.out, if_neg hkn, HD.out, ptLen_cons_pos (isPt_t (Or.inl ⟨h1, h2⟩))]; omega
        case measure => simp [intOf]; omega
      · by_cases hkn : k = n
        · subst hkn
          go_wp2
          all_goals
            go_ret
            refine ⟨ret_int ?_, rfl⟩
            rw [HD.out, wLen_cons_neg (isSm_f hsm)]; rfl
        · by_cases h9 : (s[k].toNat : Int) = 95
          · go_wp2
            all_goals
              go_round
              case rel =>
                refine ⟨k + 1, by omega, by omega, by go_num, ?_⟩
                show _ = _
                rw [if_neg (by omega), HR.out, if_neg hkn, HD.out, ptLen_cons_pos (isPt_t (Or.inr (Or.inr h9)))]; omega
              case measure => simp [intOf]; omega
          · by_cases hd : 48 ≤ (s[k].toNat : Int) ∧ (s[k].toNat : Int) ≤ 57
            · obtain ⟨hd1, hd2⟩ := hd
              go_wp2
              all_goals
                go_round
                case rel =>
                  refine ⟨k + 1, by omega, by omega, by go_num, ?_⟩
                  show _ = _
                  rw [if_neg (by omega), HR.out, if_neg hkn, HD.out, ptLen_cons_pos (isPt_t (Or.inr (Or.inl ⟨hd1, hd2⟩)))]; omega
                case measure => simp [intOf]; omega
            · have hp : isPt s[k] = false := isPt_f (by omega)
              have HP : Hid (isPt s[k] = false) := hp
              have h9b : ((s[k].toNat : Int) == 95) = false := by simpa using h9
              clear hp h9
              go_wp2
              all_goals
                go_ret
                refine ⟨ret_int ?_, rfl⟩
                rw [HR.out, if_neg hkn, HD.out, ptLen_cons_neg HP.out]; rfl
    · go_wp2
      go_ret
      refine ⟨ret_int ?_, rfl⟩
      rw [HR.out]
      by_cases hkn : k = n
      · rw [if_pos hkn, hkn, drop_end s n (by omega)]; simp [wLen]
      · rw [if_neg hkn, drop_end s k (by omega)]; simp [ptLen]

theorem wordB_nil : wordB [] = false := by simp [wordB]
theorem wordB_cons_neg {c : UInt8} {r : List UInt8} (h : isSm c = false) : wordB (c :: r) = false := by simp [wordB, wLen_cons_neg h]
theorem wordB_cons_pos {c : UInt8} {r : List UInt8} (h : isSm c = true) : wordB (c :: r) = decide (ptLen r = r.length) := by simp [wordB, wLen_cons_pos h]

/-- A word that a local may have: not empty, at most MaxName bytes, all of it one word. -/
def localB (l : List UInt8) : Bool := decide (l.length ≤ 24) && wordB l

end Go.Proofs.YtahcllncjpaijabDoor.L1
namespace Go.Proofs.YtahcllncjpaijabDoor.L1
open Go.RowKit

/-- How many bytes of blank begin here; inside a comment, or not. -/
def pbGo : Bool → List UInt8 → Nat
  | _, [] => 0
  | cm, c :: r => if (c.toNat : Int) = 10 then pbGo false r + 1 else if cm = true ∨ (c.toNat : Int) = 9 ∨ (c.toNat : Int) = 13 ∨ (c.toNat : Int) = 32 then pbGo cm r + 1 else if (c.toNat : Int) = 35 then pbGo true r + 1 else 0
theorem pbGo_le : ∀ (cm : Bool) (l : List UInt8), pbGo cm l ≤ l.length
  | _, [] => Nat.le_refl _
  | cm, c :: r => by
    simp only [pbGo]
    have h1 := pbGo_le false r
    have h2 := pbGo_le cm r
    have h3 := pbGo_le true r
    split
    · simp; omega
    · split
      · simp; omega
      · split <;> simp <;> omega
theorem pb_nl {cm : Bool} {c : UInt8} {r : List UInt8} (h : (c.toNat : Int) = 10) : pbGo cm (c :: r) = pbGo false r + 1 := by simp only [pbGo]; rw [if_pos h]
theorem pb_go {cm : Bool} {c : UInt8} {r : List UInt8} (h0 : ¬ (c.toNat : Int) = 10) (h : cm = true ∨ (c.toNat : Int) = 9 ∨ (c.toNat : Int) = 13 ∨ (c.toNat : Int) = 32) : pbGo cm (c :: r) = pbGo cm r + 1 := by simp only [pbGo]; rw [if_neg h0, if_pos h]
theorem pb_cm {c : UInt8} {r : List UInt8} (h : (c.toNat : Int) = 35) : pbGo false (c :: r) = pbGo true r + 1 := by simp only [pbGo]; rw [if_neg (by omega), if_neg (by simp; omega), if_pos h]
theorem pb_no {c : UInt8} {r : List UInt8} (h : ¬ ((c.toNat : Int) = 10 ∨ (c.toNat : Int) = 9 ∨ (c.toNat : Int) = 13 ∨ (c.toNat : Int) = 32 ∨ (c.toNat : Int) = 35)) : pbGo false (c :: r) = 0 := by simp only [pbGo]; rw [if_neg (by omega), if_neg (by simp; omega), if_neg (by omega)]

set_option maxHeartbeats 2000000 in
theorem pastBlank_any (s : ByteArray) (n : Nat) (w : World) (hs : s.size ≤ maxLen) (hn : n ≤ s.size) :
    Calls Tryd.prog 32 #[.string s, .int .i64 n] w fun e w' => e = .returned (.int .i64 (n + pbGo false (s.data.toList.drop n) : Nat)) ∧ w' = w := by
  unfold maxLen at hs
  obtain ⟨E, hE⟩ : ∃ E, E = n + pbGo false (s.data.toList.drop n) := ⟨_, rfl⟩
  rw [← hE]
  have HE : Hid (E = n + pbGo false (s.data.toList.drop n)) := hE
  clear hE
  go_enter Tryd.func32, Tryd.ntmps32
  go_wp2; go_step3; go_wp2; go_step3; go_wp2
  go_loop [1, 5] (fun i m => ∃ (k : Nat) (cm : Bool), k ≤ s.size ∧ i = .int .i64 k ∧ m = .bool cm ∧ Hid (E = k + pbGo cm (s.data.toList.drop k))) (fun i _ => s.size - (intOf i).toNat)
  case atStart => exact ⟨n, false, hn, rfl, rfl, HE⟩
  case round =>
    obtain ⟨k, cm, hk, rfl, rfl, HR⟩ := hrel
    clear HE
    by_cases hlt : k < s.size
    · have HD : Hid (s.data.toList.drop k = s[k] :: s.data.toList.drop (k + 1)) := drop_cons s k hlt
      have hc : (s[k].toNat : Int) ≤ 255 := by have := UInt8.toNat_lt s[k]; omega
      by_cases h10 : (s[k].toNat : Int) = 10
      · go_wp2
        go_round
        case rel => exact ⟨k + 1, false, by omega, by go_num, rfl, by show _ = _; rw [HR.out, HD.out, pb_nl h10]; omega⟩
        case measure => simp [intOf]; omega
      have h10' : ((s[k].toNat : Int) == 10) = false := by simpa using h10
      cases cm
      · by_cases h9 : (s[k].toNat : Int) = 9
        · go_wp2
          go_round
          case rel => exact ⟨k + 1, false, by omega, by go_num, rfl, by show _ = _; rw [HR.out, HD.out, pb_go h10 (by omega)]; omega⟩
          case measure => simp [intOf]; omega
        have h9' : ((s[k].toNat : Int) == 9) = false := by simpa using h9
        by_cases h13 : (s[k].toNat : Int) = 13
        · go_wp2
          go_round
          case rel => exact ⟨k + 1, false, by omega, by go_num, rfl, by show _ = _; rw [HR.out, HD.out, pb_go h10 (by omega)]; omega⟩
          case measure => simp [intOf]; omega
        have h13' : ((s[k].toNat : Int) == 13) = false := by simpa using h13
        by_cases h32 : (s[k].toNat : Int) = 32
        · go_wp2
          go_round
          case rel => exact ⟨k + 1, false, by omega, by go_num, rfl, by show _ = _; rw [HR.out, HD.out, pb_go h10 (by omega)]; omega⟩
          case measure => simp [intOf]; omega
        have h32' : ((s[k].toNat : Int) == 32) = false := by simpa using h32
        by_cases h35 : (s[k].toNat : Int) = 35
        · go_wp2
          go_round
          case rel => exact ⟨k + 1, true, by omega, by go_num, rfl, by show _ = _; rw [HR.out, HD.out, pb_cm h35]; omega⟩
          case measure => simp [intOf]; omega
        have h35' : ((s[k].toNat : Int) == 35) = false := by simpa using h35
        have hE : E = k := by rw [HR.out, HD.out, pb_no (by omega)]; rfl
        clear h9 h13 h32 h35
        subst hE
        go_wp2
        go_ret
        exact ⟨rfl, rfl⟩
      · go_wp2
        go_round
        case rel => exact ⟨k + 1, true, by omega, by go_num, rfl, by show _ = _; rw [HR.out, HD.out, pb_go h10 (Or.inl rfl)]; omega⟩
        case measure => simp [intOf]; omega
    · have hE : E = k := by rw [HR.out, drop_end s k (by omega)]; cases cm <;> rfl
      subst hE
      go_wp2
      go_ret
      exact ⟨rfl, rfl⟩
end Go.Proofs.YtahcllncjpaijabDoor.L1
namespace Go.Proofs.YtahcllncjpaijabDoor.L1
open Go

theorem run_loadVar_cells {P : Program} (w : World) (g : Nat) (ty : TypeId) (cs : Array Value) (d : TypeDesc) (hc : ∀ j v, cs.toList[j]? = some v → w.cell? ⟨g, j, none⟩ = some v)
    (hu : P.underlying ty = some d) (hd : (match d with | .struct _ | .array _ _ => true | _ => false) = true) (hi : (P.info? ty).map (·.size) = some cs.size) :
    (loadVar ty ⟨g, 0, none⟩).run P w = .ok (.agg cs) w := by
  have hl : (loadCells ⟨g, 0, none⟩ cs.toList.length).run P w = .ok cs.toList.toArray w :=
    run_loadCells_list (P := P) w ⟨g, 0, none⟩ cs.toList (fun j v hv => by
      have hadd : (⟨g, 0, none⟩ : Addr).add j = ⟨g, j, none⟩ := by unfold Addr.add; split <;> simp_all
      rw [hadd]; exact hc j v hv)
  cases hq : P.info? ty with
  | none => simp [hq] at hi
  | some i =>
    have hs : i.size = cs.size := by simpa [hq] using hi
    have hagg : (isAgg ty).run P w = .ok true w := by
      unfold isAgg
      rw [Sem.run_bind, run_underlying hu w]
      cases d <;> simp_all
    simp only [Array.length_toList, Array.toArray_toList] at hl
    simp [loadVar, Sem.run_bind, hagg, sizeOf, typeInfo, hq, hs, hl]

theorem wp_load_cells {P : Program} {o : Oper} {a : Act} {w : World} {K : Act → World → Prop} {Q : Exit → Act → World → Prop} (ty : TypeId) (x : Operand) (ho : o.op = .load ty x)
    (g : Nat) (hx : a.eval x = .pointer (some ⟨g, 0, none⟩)) (cs : Array Value) (d : TypeDesc) (hc : ∀ j v, cs.toList[j]? = some v → w.cell? ⟨g, j, none⟩ = some v)
    (hu : P.underlying ty = some d) (hd : (match d with | .struct _ | .array _ _ => true | _ => false) = true) (hi : (P.info? ty).map (·.size) = some cs.size)
    (h : K (a.put o.dst (.agg cs)) w) : o.wp P a w K Q := by
  unfold Oper.wp execOp
  simp only [ho, hx, Instr.loadAt, Instr.sureAddr, Sem.run_bind, Sem.run_pure, Result.andThen_ok, run_loadVar_cells w g ty cs d hc hu hd hi]
  exact h

theorem wpList_load_cells {P : Program} {ops : Array Oper} {rest : List Oper} {o : Oper} {a : Act} {w : World} {Q : Exit → Act → World → Prop} (hgd : o.guard = none) (ty : TypeId) (x : Operand) (ho : o.op = .load ty x)
    (g : Nat) (hx : a.eval x = .pointer (some ⟨g, 0, none⟩)) (cs : Array Value) (d : TypeDesc) (hc : ∀ j v, cs.toList[j]? = some v → w.cell? ⟨g, j, none⟩ = some v)
    (hu : P.underlying ty = some d) (hd : (match d with | .struct _ | .array _ _ => true | _ => false) = true) (hi : (P.info? ty).map (·.size) = some cs.size)
    (h : wpList P ops Q rest (a.put o.dst (.agg cs)) w) : wpList P ops Q (o :: rest) a w :=
  wpList_plain hgd fun _ hK => wp_load_cells ty x ho g hx cs d hc hu hd hi (hK _ _ h)

/-- An array of strings, by value, indexed. -/
theorem run_index_strs {P : Program} (t e : TypeId) (n : Nat) (cs : Array Value) (k : Nat) (s : ByteArray) (w : World) (hu : P.underlying t = some (.array n e)) (he : P.underlying e = some .string)
    (hi : (P.info? e).map (·.size) = some 1) (hk : k < n) (hc : cs[k]? = some (.string s)) : (Instr.index t (.agg cs) (.int .i64 k)).run P w = .ok (.string s) w := by
  cases hq : P.info? e with
  | none => simp [hq] at hi
  | some i =>
    have hs : i.size = 1 := by simpa [hq] using hi
    have hagg : (isAgg e).run P w = .ok false w := by
      unfold isAgg
      rw [Sem.run_bind, run_underlying he w]
      simp
    have h1 : (0 : Int) ≤ (k : Int) ∧ (k : Int) < (n : Int) := by omega
    simp only [Instr.index, asIntOf, Sem.run_bind, Sem.run_pure, Result.andThen_ok, run_underlying hu w]
    simp [h1, sizeOf, typeInfo, Sem.run_bind, hq, hs, part, hagg, hc]
end Go.Proofs.YtahcllncjpaijabDoor.L1
namespace Go.Proofs.YtahcllncjpaijabDoor.L1
open Go.RowKit

/-- Is a text among others? -/
def inB (l : List ByteArray) (s : ByteArray) : Bool := l.any fun x => x.toList == s.toList
theorem inB_hit {l : List ByteArray} {s : ByteArray} {k : Nat} (hk : k < l.length) (h : (l[k].toList == s.toList) = true) : inB l s = true := by
  unfold inB; rw [List.any_eq_true]; exact ⟨l[k], List.getElem_mem hk, h⟩
theorem inB_miss {l : List ByteArray} {s : ByteArray} {k : Nat} (hk : k < l.length) (h : (l[k].toList == s.toList) = false) : inB (l.drop k) s = inB (l.drop (k + 1)) s := by
  unfold inB; rw [List.drop_eq_getElem_cons hk, List.any_cons, h, Bool.false_or]
theorem inB_end {l : List ByteArray} {s : ByteArray} {k : Nat} (hk : l.length ≤ k) : inB (l.drop k) s = false := by
  unfold inB; rw [List.drop_eq_nil_iff.2 hk]; rfl

/-- The nineteen keywords. -/
def kw : List ByteArray := [⟨#[99, 101, 108, 108]⟩, ⟨#[97, 103, 97, 105, 110]⟩, ⟨#[116, 114, 105, 101, 115]⟩, ⟨#[98, 97, 115, 101]⟩, ⟨#[102, 97, 99, 116, 111, 114]⟩, ⟨#[99, 97, 112]⟩, ⟨#[99, 108, 111, 115, 101]⟩, ⟨#[102, 105, 110, 101]⟩, ⟨#[102, 97, 105, 108]⟩, ⟨#[112, 97, 110, 105, 99]⟩, ⟨#[105, 102]⟩, ⟨#[116, 104, 101, 110]⟩, ⟨#[101, 108, 115, 101]⟩, ⟨#[116, 114, 121]⟩, ⟨#[119, 97, 105, 116]⟩, ⟨#[108, 101, 116]⟩, ⟨#[105, 110]⟩, ⟨#[105, 116, 101, 109]⟩, ⟨#[115, 105, 122, 101]⟩]
def kwV : Array Value := (kw.map Value.string).toArray
theorem kw_len : kw.length = 19 := by decide
theorem kwV_at (k : Nat) (h : k < kw.length) : kwV[k]? = some (.string kw[k]) := by simp [kwV, h]

/-- The keywords lie in the memory of the package's variable. -/
def KeysAt (w : World) : Prop := ∀ i, i < kw.length → w.cell? ⟨1, i, none⟩ = some (.string (kw.getD i ByteArray.empty))

theorem KeysAt.below {w w' : World} (h : KeysAt w) (hb : Below w.heap.size w w') : KeysAt w' := by
  intro i hi
  have := h i hi
  rw [hb.cell (p := ⟨1, i, none⟩) (block_lt_of_cell this)]; exact this
theorem KeysAt.alloc {w : World} (h : KeysAt w) (o : Obj) : KeysAt (w.alloc o) := h.below ((Below.refl _ _).alloc (Nat.le_refl _) _)

set_option maxHeartbeats 1000000 in
set_option maxRecDepth 100000 in
theorem isKey_any (s : ByteArray) (w : World) (hk : KeysAt w) :
    Calls Tryd.prog 74 #[.string s] w fun e w' => e = .returned (.bool (inB kw s)) ∧ w' = w := by
  have hcs : ∀ j v, kwV.toList[j]? = some v → w.cell? ⟨1, j, none⟩ = some v := by
    intro j v hv
    have hj : j < kw.length := by
      by_cases h : j < kw.length
      · exact h
      · exfalso; rw [List.getElem?_eq_none (by simp [kwV]; omega)] at hv; cases hv
    rw [hk j hj]
    have := kwV_at j hj
    rw [← Array.getElem?_toList, hv] at this
    rw [this]; simp [hj]
  have hix : ∀ k (h : k < kw.length) (w' : World), (Instr.index 121 (.agg kwV) (.int .i64 k)).run Tryd.prog w' = .ok (.string kw[k]) w' := fun k h w' =>
    run_index_strs 121 9 19 kwV k kw[k] w' Tryd.underlying121 Tryd.underlying9 (by kernel_rfl) (by rw [kw_len] at h; exact h) (kwV_at k h)
  have hsz : (Tryd.prog.info? 121).map (·.size) = some kwV.size := by kernel_rfl
  have HCS : Hid (∀ j v, kwV.toList[j]? = some v → w.cell? ⟨1, j, none⟩ = some v) := hcs
  have HSZ : Hid ((Tryd.prog.info? 121).map (·.size) = some kwV.size) := hsz
  have hkl := kw_len
  generalize kwV = V at *
  generalize kw = L at *
  clear hcs hsz hk
  go_enter Tryd.func74, Tryd.ntmps74
  go_wp2_with (refine wpList_load_cells rfl 121 (.global 1) rfl 1 rfl V (.array 19 9) HCS.out Tryd.underlying121 rfl HSZ.out ?_)
  go_loop [6] (fun i => ∃ k : Nat, k ≤ L.length ∧ i = .int .i64 k ∧ Hid (inB L s = inB (L.drop k) s)) (fun i => L.length - (intOf i).toNat)
  case atStart => exact ⟨0, Nat.zero_le _, rfl, rfl⟩
  case round =>
    obtain ⟨k, hkl', rfl, HR⟩ := hrel
    by_cases hlt : k < L.length
    · have hi := hix k hlt
      cases ht : (s.toList == L[k].toList)
      · go_wp2
        go_round
        case rel => exact ⟨k + 1, by omega, by go_num, by show _ = _; rw [HR.out, inB_miss hlt (by rw [Bool.beq_comm]; exact ht)]⟩
        case measure => simp [intOf]; omega
      · go_wp2
        go_ret
        exact ⟨ret_bool (inB_hit hlt (by rw [Bool.beq_comm]; exact ht)).symm, rfl⟩
    · go_wp2
      go_ret
      exact ⟨ret_bool (by rw [HR.out, inB_end (by omega)]), rfl⟩

/-- A name: a word of at most MaxName bytes that is no keyword. -/
def nameB (s : ByteArray) : Bool := localB s.data.toList && !inB kw s

end Go.Proofs.YtahcllncjpaijabDoor.L1
