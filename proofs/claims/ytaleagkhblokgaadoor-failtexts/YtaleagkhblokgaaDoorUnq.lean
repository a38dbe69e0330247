/- The walks of lex.Unquote and of its reference: both give what the quoted text stands for. -/
import Derived.Test.YtaleagkhblokgaaDoorJx3
import Derived.Test.YtaleagkhblokgaaDoorQuote
import Derived.Deep.QuietTactic
import Derived.BigQuiet
namespace Go.Proofs.YtaleagkhblokgaaDoor
open Go.RowKit

theorem tell_all (ws : World) (vf : Value) (g : Nat) (l : List Cr) (A : List (Int × List Int)) (h : PS ws vf g l A) : ∀ n, TellsAt ws vf g l A n
  | 0 => fun t j wk tv bs hsz => by obtain ⟨k, tx, ps⟩ := t; rw [szF] at hsz; omega
  | n + 1 => tell_step ws vf g l A h n (tell_all ws vf g l A h n)
theorem frow_short (k : Int) : (frow k).word.size ≤ 6 ∧ (frow k).op.size ≤ 2 ∧ (frow k).bt.size ≤ 2 ∧ (frow k).en.size ≤ 1 := by
  have hz : ∀ r ∈ frows, r.word.size ≤ 6 ∧ r.op.size ≤ 2 ∧ r.bt.size ≤ 2 ∧ r.en.size ≤ 1 := by decide
  unfold frow
  rw [List.getD_eq_getElem?_getD]
  by_cases h : k.toNat < frows.length
  · rw [List.getElem?_eq_getElem h]; exact hz _ (List.getElem_mem h)
  · rw [List.getElem?_eq_none (by omega)]; decide
theorem txtF_len (x : Int) (t : ByteArray) : (txtF x t).length ≤ 4 * t.size + 3 := by
  have h1 := qBs_len t.data.toList
  have e : t.data.toList.length = t.size := by simp
  unfold txtF
  split
  · simp
  · split
    · unfold quo; simp at h1 ⊢; omega
    · simp; omega
mutual
theorem prF_len : ∀ (t : Ft), (∀ c ∈ flat t, c.text.size ≤ 4096) → (prF t).length + 2 ≤ 17000 * (flat t).length
  | .nd k tx ps, h => by
    rw [flat] at h
    have h1 := txtF_len (frow k).text tx
    have h2 := h ⟨k, ps.length, tx⟩ (by simp)
    have h3 := prL_len ps (frow k).bt true (fun c hc => h c (by simp [hc])) (frow_short k).2.2.1
    have h4 := frow_short k
    simp only at h2
    rw [prF, flat]
    simp only [List.length_append, List.length_singleton]
    split
    · simp; omega
    · simp; omega
theorem prL_len : ∀ (ps : List Ft) (b : ByteArray) (f : Bool), (∀ c ∈ flatL ps, c.text.size ≤ 4096) → b.size ≤ 2 → (prL b f ps).length ≤ 17000 * (flatL ps).length
  | [], b, f, _, _ => by simp [prL]
  | t :: r, b, f, h, hb => by
    rw [flatL] at h
    have h1 := prF_len t (fun c hc => h c (by simp [hc]))
    have h2 := prL_len r b false (fun c hc => h c (by simp [hc])) hb
    rw [prL, flatL]
    simp only [List.length_append]
    split
    · simp; omega
    · simp; omega
end
theorem walk_ok : ∀ (l : List Cr) (s t : Int), walkC s l = some t → ∀ c ∈ l, crB c = true
  | [], s, t, _, c, hc => by cases hc
  | d :: r, s, t, h, c, hc => by
    obtain ⟨⟨hcb, _⟩, hwn⟩ := walk_step h
    rcases List.mem_cons.1 hc with rfl | hc
    · exact hcb
    · exact walk_ok r _ t hwn c hc
theorem chk_crB {l : List Cr} (h : chk l = 0) : ∀ c ∈ l, crB c = true := walk_ok l 0 1 (chk_ok h).2
/-- The text of a list of cracks. -/
def prV (l : List Cr) : List UInt8 := if chk l = 0 then prF (treeOf l) else []
theorem prV_len (l : List Cr) : (prV l).length ≤ 17500000 := by
  unfold prV
  split
  · rename_i h
    have := prF_len (treeOf l) (by rw [flat_tree h]; exact fun c hc => crB_text (chk_crB h c hc))
    rw [flat_tree h] at this
    have := (chk_ok h).1
    omega
  · simp
set_option maxHeartbeats 4000000 in
set_option maxRecDepth 100000 in
theorem print_any (v : Value) (l : List Cr) (w : World) (h : CS w v l) (ht : ∀ c ∈ l, c.text.size ≤ maxLen) (hlm : l.length ≤ 1000000000000000) (hv : FV w) :
    Calls Tryd.prog 26 #[v] w fun e w' => e = .returned (.tuple #[.string ⟨(prV l).toArray⟩, .int .i64 (chk l)]) ∧ Below w.heap.size w w' := by
  have CK := check_any v l w h ht hv hlm
  by_cases hc : chk l = 0
  · rw [hc] at CK ⊢
    have hl := (chk_ok hc).1
    have WH : Hid (∀ w', Below w.heap.size w w' → _) := fun w' b => wholes_any v l w' (h.below b) hc
    have TA : Hid (∀ wk w', Below w.heap.size w wk → Below wk.heap.size wk w' → ∀ g, (∀ j, j < l.length → WC w' g j (.slice none 0 0) ((whS 0 [] [] l).getD j (0, []))) → PS w' v g l (whA l)) := fun wk w' b1 b2 g hw => ⟨(hv.below b1).below b2, (h.below b1).below b2, chk_crB hc, whA_len l, hl, fun j hj => by
      obtain ⟨vp, c0, c1, hi, _⟩ := hw j hj
      exact ⟨vp, c1, hi⟩⟩
    have HAT : Hid (AtT l (whA l) (treeOf l) (l.length - 1)) := tree_at hc
    have HP : Hid (prV l = prF (treeOf l)) := by show _ = _; unfold prV; rw [if_pos hc]
    have HPL : Hid ((prV l).length ≤ 17500000) := prV_len l
    have hl0 := (whA_all hc).1
    obtain ⟨N, hN⟩ : ∃ N, N = l.length - 1 := ⟨_, rfl⟩
    have hNi : (l.length : Int) - 1 = (N : Int) := by omega
    rw [← hN] at HAT
    obtain ⟨p, cap, rfl⟩ := h.form
    generalize prV l = F at *
    clear h ht hv hc hN
    go_enter Tryd.func26, Tryd.ntmps26
    go_wp2_with fail
    refine CK.mono ?_
    rintro e w1 ⟨rfl, hb1⟩
    have B1 : Hid (Below w.heap.size w w1) := hb1
    clear hb1 CK
    go_wp2_with fail
    refine (WH.out _ B1.out).mono ?_
    rintro e ws ⟨rfl, hb3, hwb, hwc⟩
    have PSS : Hid (PS ws (.slice p l.length cap) w1.heap.size l (whA l)) := TA.out _ _ B1.out hb3 _ hwc
    have B3 : Hid (Below w.heap.size w ws) := B1.out.trans (hb3.mono B1.out.size)
    obtain ⟨g, hg⟩ : ∃ g, g = w1.heap.size := ⟨_, rfl⟩
    rw [← hg] at PSS ⊢
    clear hb3 hwb hwc WH TA hg B1
    have P0 : Hid (PR ws.heap.size (ws.alloc (.cells #[.slice p l.length cap, .slice (some ⟨g, 0, none⟩) l.length l.length, .slice none 0 0] 73)) (.slice p l.length cap) (.slice (some ⟨g, 0, none⟩) l.length l.length) (.slice none 0 0) []) := ⟨heap_alloc_new _ _, own_nil _ _⟩
    have BA : Hid (Below ws.heap.size ws (ws.alloc (.cells #[.slice p l.length cap, .slice (some ⟨g, 0, none⟩) l.length l.length, .slice none 0 0] 73))) := (Below.refl _ _).alloc (Nat.le_refl _) _
    have TL : Hid (Calls Tryd.prog 46 #[.pointer (some ⟨ws.heap.size, 0, none⟩), .int .i64 N] (ws.alloc (.cells #[.slice p l.length cap, .slice (some ⟨g, 0, none⟩) l.length l.length, .slice none 0 0] 73)) fun e w' => e = .returned (.tuple #[]) ∧ Told ws.heap.size (ws.alloc (.cells #[.slice p l.length cap, .slice (some ⟨g, 0, none⟩) l.length l.length, .slice none 0 0] 73)) w' (.slice p l.length cap) (.slice (some ⟨g, 0, none⟩) l.length l.length) F) := by
      have := tell_all ws _ g l (whA l) PSS.out (szF (treeOf l)) (treeOf l) N _ _ [] (Nat.le_refl _) HAT.out P0.out BA.out (by have h1 := HPL.out; rw [HP.out] at h1; simp; omega)
      rw [List.nil_append, ← HP.out] at this
      exact this
    go_wp2_with fail
    refine Calls.mono TL.out ?_
    rintro e w5 ⟨rfl, tv, hp5, hk5⟩
    have P5 : Hid (PR ws.heap.size w5 (.slice p l.length cap) (.slice (some ⟨g, 0, none⟩) l.length l.length) tv F) := hp5
    have B5 : Hid (Below w.heap.size w w5) := B3.out.trans ((BA.out.trans (hk5.below P0.out.lt)).mono B3.out.size)
    have c2 := hp5.c2
    clear hp5 hk5
    go_wp2_with (refine wpList_own_string rfl (.tmp 20) 71 9 rfl (ws.heap.size + 1) _ F rfl P5.out.ow Tryd.underlying71 Tryd.underlying5 Tryd.underlying9 ?_)
    go_ret2
    exact ⟨rfl, B5.out⟩
  · have e2 : prV l = [] := by unfold prV; rw [if_neg hc]
    rw [e2]
    clear h ht hv e2
    generalize chk l = c at *
    have h1 : (c == 0) = false := by simpa using hc
    have h2 : (c != 0) = true := by simpa using hc
    go_enter Tryd.func26, Tryd.ntmps26
    go_wp2_with fail
    refine CK.mono ?_
    rintro e w1 ⟨rfl, hb1⟩
    have B1 : Hid (Below w.heap.size w w1) := hb1
    clear hb1 CK
    go_wp2_with fail
    go_ret2
    exact ⟨rfl, B1.out⟩
end Go.Proofs.YtaleagkhblokgaaDoor
namespace Go.Proofs.YtaleagkhblokgaaDoor

/-- The value of a digit to the base 16; -1: it is none. -/
def hexV (c : UInt8) : Int := if 48 ≤ (c.toNat : Int) ∧ (c.toNat : Int) ≤ 57 then (c.toNat : Int) - 48 else if 97 ≤ (c.toNat : Int) ∧ (c.toNat : Int) ≤ 102 then (c.toNat : Int) - 87 else -1
def plU (c : UInt8) : Bool := plB (c.toNat : Int)
/-- The byte of two digits to the base 16, if that is its one form. -/
def hexB (e f : UInt8) : Option UInt8 :=
  if 0 ≤ hexV e ∧ 0 ≤ hexV f then (if (32 ≤ 16 * hexV e + hexV f ∧ 16 * hexV e + hexV f ≤ 126) ∨ 16 * hexV e + hexV f = 10 then none else some (UInt8.ofNat (16 * hexV e + hexV f).toNat)) else none
theorem hexB_def (e f : UInt8) : hexB e f = if 0 ≤ hexV e ∧ 0 ≤ hexV f then (if (32 ≤ 16 * hexV e + hexV f ∧ 16 * hexV e + hexV f ≤ 126) ∨ 16 * hexV e + hexV f = 10 then none else some (UInt8.ofNat (16 * hexV e + hexV f).toNat)) else none := rfl
/-- The byte that the beginning stands for within quotes, and how many bytes say so. -/
def ub : List UInt8 → Option (UInt8 × Nat)
  | [] => none
  | c :: r => if plU c then some (c, 1) else if c ≠ 92 then none else match r with
    | [] => none
    | d :: r2 => if d = 34 ∨ d = 92 then some (d, 2) else if d = 110 then some (10, 2) else if d = 120 then (match r2 with
        | e :: f :: _ => (hexB e f).map fun b => (b, 4)
        | _ => none) else none
theorem ub_len : ∀ (l : List UInt8) (b : UInt8) (n : Nat), ub l = some (b, n) → 1 ≤ n ∧ n ≤ l.length := by
  intro l b n h
  unfold ub at h
  split at h
  · cases h
  · rename_i c r
    split at h
    · cases h; simp
    · split at h
      · cases h
      · split at h
        · cases h
        · split at h
          · cases h; simp
          · split at h
            · cases h; simp
            · split at h
              · split at h
                · rw [Option.map_eq_some_iff] at h
                  obtain ⟨_, _, h⟩ := h
                  cases h; simp
                · cases h
              · cases h
/-- What the text behind a first quote stands for, and how many bytes it has with its last quote. -/
def uq : List UInt8 → Option (List UInt8 × Nat)
  | [] => none
  | c :: r => if c = 34 then some ([], 1) else match ub (c :: r) with
    | none => none
    | some (b, n) => (uq (r.drop (n - 1))).map fun x => (b :: x.1, x.2 + n)
termination_by l => l.length
decreasing_by simp; omega
theorem uq_nil : uq [] = none := by rw [uq]
theorem uq_quote (r : List UInt8) : uq (34 :: r) = some ([], 1) := by rw [uq]; simp
theorem uq_none {c : UInt8} {r : List UInt8} (hc : c ≠ 34) (h : ub (c :: r) = none) : uq (c :: r) = none := by rw [uq, if_neg hc, h]
theorem uq_some {c : UInt8} {r : List UInt8} {b : UInt8} {n : Nat} (hc : c ≠ 34) (h : ub (c :: r) = some (b, n)) : uq (c :: r) = (uq ((c :: r).drop n)).map fun x => (b :: x.1, x.2 + n) := by
  rw [uq, if_neg hc, h]
  have := (ub_len _ _ _ h).1
  obtain ⟨m, rfl⟩ : ∃ m, n = m + 1 := ⟨n - 1, by omega⟩
  rfl
theorem ub_quote (r : List UInt8) : ub (34 :: r) = none := by
  have : plU 34 = false := by decide
  simp [ub, this]
end Go.Proofs.YtaleagkhblokgaaDoor
namespace Go.Proofs.YtaleagkhblokgaaDoor
open Go.RowKit

theorem ret_int' {k : IntKind} {a b : Int} (h : a = b) : Ending.returned (.int k a) = .returned (.int k b) := by rw [h]
theorem firstHex (c : UInt8) : firstIdx ⟨#[48, 49, 50, 51, 52, 53, 54, 55, 56, 57, 97, 98, 99, 100, 101, 102]⟩ c = hexV c := by
  have h : ∀ n : Fin 256, firstIdx ⟨#[48, 49, 50, 51, 52, 53, 54, 55, 56, 57, 97, 98, 99, 100, 101, 102]⟩ (UInt8.ofNat n.val) = hexV (UInt8.ofNat n.val) := by decide +kernel
  have := h ⟨c.toNat, UInt8.toNat_lt c⟩
  simpa using this

set_option maxHeartbeats 400000 in
theorem indexHex_any (c : UInt8) (w : World) :
    Calls Tryd.prog 103 #[.string ⟨#[48, 49, 50, 51, 52, 53, 54, 55, 56, 57, 97, 98, 99, 100, 101, 102]⟩, .int .u8 (c.toNat : Int)] w fun e w' => e = .returned (.int .i64 (hexV c)) ∧ w' = w := by
  have hix : ∀ w : World, (callFunc 105 #[.string ⟨#[48, 49, 50, 51, 52, 53, 54, 55, 56, 57, 97, 98, 99, 100, 101, 102]⟩, .int .u8 (c.toNat : Int)]).run Tryd.prog w = .ok (.value (.int .i64 (hexV c))) w := by
    intro w
    rw [run_callFunc_extern Tryd.func105 (by kernel_rfl) (by kernel_rfl) (by kernel_rfl) (e := Extern.BytealgIndexByte.indexByte) (by kernel_rfl), run_indexByte_string]
    have e : (c.toNat : Int).toNat.toUInt8 = c := by simp
    rw [e, firstHex]; rfl
  go_enter Tryd.func103, Tryd.ntmps103
  go_wp2
  go_ret
  exact ⟨rfl, rfl⟩

set_option maxHeartbeats 400000 in
theorem hex_any (c : UInt8) (w : World) :
    Calls Tryd.prog 100 #[.int .u8 (c.toNat : Int)] w fun e w' => e = .returned (.int .i64 (hexV c)) ∧ w' = w := by
  have hc : (c.toNat : Int) ≤ 255 := by have := UInt8.toNat_lt c; omega
  have HV : Hid (hexV c = if 48 ≤ (c.toNat : Int) ∧ (c.toNat : Int) ≤ 57 then (c.toNat : Int) - 48 else if 97 ≤ (c.toNat : Int) ∧ (c.toNat : Int) ≤ 102 then (c.toNat : Int) - 87 else -1) := rfl
  go_enter Tryd.func100, Tryd.ntmps100
  go_wp2
  all_goals
    go_ret
    refine ⟨ret_int' ?_, rfl⟩
    rw [HV.out]
    first
    | (rw [if_pos (by omega)])
    | (rw [if_neg (by omega), if_pos (by omega)]; omega)
    | (rw [if_neg (by omega), if_neg (by omega)])

/-- What two digits behind a backslash and an x stand for, and how many bytes say so. -/
def hr : List UInt8 → UInt8 × Nat
  | _ :: _ :: e :: f :: _ => match hexB e f with
    | some b => (b, 4)
    | none => (0, 0)
  | _ => (0, 0)
theorem hr_short (t : ByteArray) (h : t.size < 4) : hr t.data.toList = (0, 0) := by
  have hl : t.data.toList.length = t.size := by simp
  match e : t.data.toList, hl with
  | [], _ => rfl
  | [_], _ => rfl
  | [_, _], _ => rfl
  | [_, _, _], _ => rfl
  | _ :: _ :: _ :: _ :: _, hl => simp at hl; omega
theorem hr_long (t : ByteArray) (h : 4 ≤ t.size) : hr t.data.toList = match hexB (t[2]'(by omega)) (t[3]'(by omega)) with
    | some b => (b, 4)
    | none => (0, 0) := by
  have e : t.data.toList = t[0] :: t[1] :: t[2] :: t[3] :: t.data.toList.drop 4 := by
    have d0 := List.drop_eq_getElem_cons (l := t.data.toList) (i := 0) (by simp; omega)
    have d1 := List.drop_eq_getElem_cons (l := t.data.toList) (i := 1) (by simp; omega)
    have d2 := List.drop_eq_getElem_cons (l := t.data.toList) (i := 2) (by simp; omega)
    have d3 := List.drop_eq_getElem_cons (l := t.data.toList) (i := 3) (by simp; omega)
    rw [List.drop_zero] at d0
    rw [d1, d2, d3] at d0
    exact d0
  rw [e]; rfl

theorem hexV_bd (c : UInt8) : -1 ≤ hexV c ∧ hexV c ≤ 15 := by unfold hexV; split; omega; split <;> omega
theorem or16 (h l : Int) (h0 : 0 ≤ h) (h1 : h ≤ 15) (l0 : 0 ≤ l) (l1 : l ≤ 15) : bits BinOp.or IntKind.i64 (h * 16) l = h * 16 + l := by
  have H : ∀ a b : Fin 16, bits BinOp.or IntKind.i64 ((a.val : Int) * 16) (b.val : Int) = (a.val : Int) * 16 + (b.val : Int) := by decide +kernel
  obtain ⟨a, rfl⟩ : ∃ a : Nat, h = a := ⟨h.toNat, by omega⟩
  obtain ⟨b, rfl⟩ : ∃ b : Nat, l = b := ⟨l.toNat, by omega⟩
  exact H ⟨a, by omega⟩ ⟨b, by omega⟩
theorem ret_u8n {a b : Int} {m n : Int} (h : a = b) (h2 : m = n) : Ending.returned (.tuple #[.int .u8 a, .int .i64 m]) = .returned (.tuple #[.int .u8 b, .int .i64 n]) := by rw [h, h2]

set_option maxRecDepth 100000 in
set_option maxHeartbeats 1000000 in
theorem hexByte_any (t : ByteArray) (w : World) (ht : t.size ≤ maxLen) :
    Calls Tryd.prog 102 #[.string t] w fun e w' => e = .returned (.tuple #[.int .u8 ((hr t.data.toList).1.toNat : Int), .int .i64 ((hr t.data.toList).2 : Int)]) ∧ Below w.heap.size w w' := by
  unfold maxLen at ht
  by_cases h4 : 4 ≤ t.size
  · have HR : Hid (hr t.data.toList = match hexB (t[2]'(by omega)) (t[3]'(by omega)) with
      | some b => (b, 4)
      | none => (0, 0)) := hr_long t h4
    have i2 : (2 : Int) < (t.size : Int) := by omega
    have i3 : (3 : Int) < (t.size : Int) := by omega
    have I2 := indexHex_any (t[2]'(by omega))
    have I3 := indexHex_any (t[3]'(by omega))
    obtain ⟨b2, b2'⟩ := hexV_bd (t[2]'(by omega))
    obtain ⟨b3, b3'⟩ := hexV_bd (t[3]'(by omega))
    have HX0 := hexB_def (t[2]'(by omega)) (t[3]'(by omega))
    generalize hr t.data.toList = R at *
    generalize hexB (t[2]'(by omega)) (t[3]'(by omega)) = B at *
    generalize hexV (t[2]'(by omega)) = H at *
    generalize hexV (t[3]'(by omega)) = L at *
    have HX : Hid _ := HX0
    clear HX0
    by_cases hH : H < 0
    · have e : R = (0, 0) := by rw [HR.out, HX.out, if_neg (by omega)]
      have HE : Hid (R = (0, 0)) := e
      clear e HR HX
      go_enter Tryd.func102, Tryd.ntmps102
      go_wp2
      go_quiet ((go_at_call 103; first | exact Calls.quiet_of_same (I2 _) | exact Calls.quiet_of_same (I3 _)))
      go_wp2
      go_ret2
      exact ⟨ret_u8n (by rw [HE.out]; rfl) (by rw [HE.out]; rfl), below_drewN (Below.refl _ _) _⟩
    · by_cases hL : L < 0
      · have e : R = (0, 0) := by rw [HR.out, HX.out, if_neg (by omega)]
        have HE : Hid (R = (0, 0)) := e
        clear e HR HX
        go_enter Tryd.func102, Tryd.ntmps102
        go_wp2
        go_quiet ((go_at_call 103; first | exact Calls.quiet_of_same (I2 _) | exact Calls.quiet_of_same (I3 _)))
        go_wp2
        go_ret2
        exact ⟨ret_u8n (by rw [HE.out]; rfl) (by rw [HE.out]; rfl), below_drewN (Below.refl _ _) _⟩
      · have h0 : 0 ≤ H := by omega
        have l0 : 0 ≤ L := by omega
        have ho := or16 H L h0 (by omega) l0 (by omega)
        by_cases hbad : (32 ≤ 16 * H + L ∧ 16 * H + L ≤ 126) ∨ 16 * H + L = 10
        · have e : R = (0, 0) := by rw [HR.out, HX.out, if_pos (by omega), if_pos hbad]
          have HE : Hid (R = (0, 0)) := e
          have HB : Hid ((32 ≤ 16 * H + L ∧ 16 * H + L ≤ 126) ∨ 16 * H + L = 10) := hbad
          clear e HR HX hbad
          go_enter Tryd.func102, Tryd.ntmps102
          go_wp2
          go_quiet ((go_at_call 103; first | exact Calls.quiet_of_same (I2 _) | exact Calls.quiet_of_same (I3 _)))
          go_wp2_with (go_at_call 88; refine (isPlain_any _ _).mono ?_; rintro e w' ⟨rfl, rfl⟩)
          all_goals first
            | (go_ret2; exact ⟨ret_u8n (by rw [HE.out]; rfl) (by rw [HE.out]; rfl), below_drewN (Below.refl _ _) _⟩)
            | (exfalso; have hb := HB.out; simp only [plB, decide_eq_true_eq, beq_eq_false_iff_ne, ne_eq] at *; omega)
        · have e : R = (UInt8.ofNat (16 * H + L).toNat, 4) := by rw [HR.out, HX.out, if_pos (by omega), if_neg hbad]
          have HE : Hid (R = (UInt8.ofNat (16 * H + L).toNat, 4)) := e
          clear e HR HX
          go_enter Tryd.func102, Tryd.ntmps102
          go_wp2
          go_quiet ((go_at_call 103; first | exact Calls.quiet_of_same (I2 _) | exact Calls.quiet_of_same (I3 _)))
          go_wp2_with (go_at_call 88; refine (isPlain_any _ _).mono ?_; rintro e w' ⟨rfl, rfl⟩)
          all_goals first
            | (go_ret2; exact ⟨ret_u8n (by rw [HE.out]; simp; omega) (by rw [HE.out]; rfl), below_drewN (Below.refl _ _) _⟩)
            | (exfalso; simp only [plB, decide_eq_true_eq, beq_iff_eq, ne_eq] at *; omega)
  · have HR := hr_short t (by omega)
    go_enter Tryd.func102, Tryd.ntmps102
    go_wp2
    go_ret2
    rw [HR]
    exact ⟨rfl, Below.refl _ _⟩
end Go.Proofs.YtaleagkhblokgaaDoor
