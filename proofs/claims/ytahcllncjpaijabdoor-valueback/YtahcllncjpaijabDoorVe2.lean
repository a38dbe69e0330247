/- Values: laid out. -/
import Derived.Test.YtahcllncjpaijabDoorVo2
import Derived.Laws.Cover1
import Derived.Sort.Walk0
namespace Go.Proofs.YtahcllncjpaijabDoor
open Go.RowKit

theorem ret_i {a b : Int} (h : a = b) : Ending.returned (.int .i64 a) = .returned (.int .i64 b) := by rw [h]
set_option maxHeartbeats 2000000 in
theorem cmpInt_any (a b : Int) (w : World) : Calls Tryd.prog 39 #[.int .i64 a, .int .i64 b] w fun e w' => e = .returned (.int .i64 (sgn (a - b))) ∧ w' = w := by
  have IN : Hid (∀ (x : Int) w, Calls Tryd.prog 62 #[.int .i64 x] w fun e w' => e = .returned (.bool false) ∧ w' = w) := fun x w => by
    go_enter Tryd.func62, Tryd.ntmps62
    go_wp2_with fail
    go_ret
    exact ⟨by simp, rfl⟩
  by_cases h1 : a < b
  · have h0 : sgn (a - b) = -1 := sgn_neg (by omega)
    rw [h0]
    clear h0
    go_enter Tryd.func39, Tryd.ntmps39
    go_wp2_with (go_at_call 62; refine Calls.mono (IN.out _ _) ?_; rintro e w1 ⟨rfl, rfl⟩)
    go_ret
    exact ⟨rfl, rfl⟩
  · by_cases h2 : a > b
    · have h0 : sgn (a - b) = 1 := sgn_pos (by omega)
      rw [h0]
      clear h0
      go_enter Tryd.func39, Tryd.ntmps39
      go_wp2_with (go_at_call 62; refine Calls.mono (IN.out _ _) ?_; rintro e w1 ⟨rfl, rfl⟩)
      go_ret
      exact ⟨rfl, rfl⟩
    · obtain rfl : a = b := by omega
      rw [Int.sub_self, sgn_zero]
      go_enter Tryd.func39, Tryd.ntmps39
      go_wp2_with (go_at_call 62; refine Calls.mono (IN.out _ _) ?_; rintro e w1 ⟨rfl, rfl⟩)
      go_ret
      exact ⟨rfl, rfl⟩
theorem less_of {a b : ByteArray} : Op.bytesLess a.toList b.toList = decide (a.data.toList < b.data.toList) := by
  rw [bytesLess_eq, ByteArray.toList_eq, ByteArray.toList_eq]
theorem eq_of {a b : ByteArray} : (a.toList == b.toList) = decide (a = b) := by
  rw [ByteArray.toList_eq, ByteArray.toList_eq]
  by_cases h : a = b
  · subst h; simp
  · have : ¬ a.data.toList = b.data.toList := fun e => h (ba_ext e)
    simp only [h, decide_false, beq_eq_false_iff_ne, ne_eq]; exact this
set_option maxHeartbeats 2000000 in
theorem cmpStr_any (a b : ByteArray) (w : World) : Calls Tryd.prog 64 #[.string a, .string b] w fun e w' => e = .returned (.int .i64 (cmpT a b)) ∧ w' = w := by
  have IN : Hid (∀ (x : ByteArray) w, Calls Tryd.prog 80 #[.string x] w fun e w' => e = .returned (.bool false) ∧ w' = w) := fun x w => by
    go_enter Tryd.func80, Tryd.ntmps80
    go_wp2_with fail
    go_ret
    exact ⟨by simp, rfl⟩
  have hl : Op.bytesLess a.toList b.toList = decide (a.data.toList < b.data.toList) := less_of
  have he : (a.toList == b.toList) = decide (a = b) := eq_of
  have HC : Hid (cmpT a b = if a.data.toList < b.data.toList then -1 else if b.data.toList < a.data.toList then 1 else 0) := rfl
  by_cases h1 : a.data.toList < b.data.toList
  · rw [if_pos h1] at HC
    rw [HC.out]
    simp only [h1, decide_true] at hl
    clear HC he h1
    go_enter Tryd.func64, Tryd.ntmps64
    go_wp2_with (go_at_call 80; refine Calls.mono (IN.out _ _) ?_; rintro e w1 ⟨rfl, rfl⟩)
    go_ret
    exact ⟨rfl, rfl⟩
  · rw [if_neg h1] at HC
    simp only [h1, decide_false] at hl
    by_cases h2 : b.data.toList < a.data.toList
    · have hne : a ≠ b := fun e => by subst e; exact List.lt_irrefl _ h2
      rw [if_pos h2] at HC
      rw [HC.out]
      simp only [hne, decide_false] at he
      clear HC h1 h2 hne
      have hnot : ¬ (Op.bytesLess a.toList b.toList = true ∨ a.toList = b.toList) := by
        rintro (e | e)
        · rw [hl] at e; cases e
        · rw [e] at he; simp at he
      go_enter Tryd.func64, Tryd.ntmps64
      go_wp2_with (go_at_call 80; refine Calls.mono (IN.out _ _) ?_; rintro e w1 ⟨rfl, rfl⟩)
      go_ret
      exact ⟨rfl, rfl⟩
    · have heq : a = b := by
        rcases List.le_iff_lt_or_eq.1 (List.not_lt.1 h1) with e | e
        · exact absurd e h2
        · exact (ba_ext e).symm
      subst heq
      rw [if_neg h2] at HC
      rw [HC.out]
      clear HC h1 h2 he
      go_enter Tryd.func64, Tryd.ntmps64
      go_wp2_with (go_at_call 80; refine Calls.mono (IN.out _ _) ?_; rintro e w1 ⟨rfl, rfl⟩)
      go_ret
      exact ⟨rfl, rfl⟩
/-- The first that is not 0. -/
def orL : List Int → Int
  | [] => 0
  | a :: r => if a = 0 then orL r else a
set_option maxHeartbeats 2000000 in
theorem cmpOr_any (v : Value) (l : List Int) (w : World) (h : IS w v l) (hl : l.length ≤ 1000) : Calls Tryd.prog 38 #[v] w fun e w' => e = .returned (.int .i64 (orL l)) ∧ w' = w := by
  obtain ⟨p, cap, rfl⟩ := h.form
  have HS : Hid (IS w (.slice p l.length cap) l) := h
  have NX : Hid (∀ k (hk : k < l.length), orL (l.drop k) = if l[k] = 0 then orL (l.drop (k + 1)) else l[k]) := fun k hk => by rw [List.drop_eq_getElem_cons hk, orL]
  have D0 : Hid (orL l = orL (l.drop 0)) := rfl
  have FN : Hid (∀ k, ¬ k < l.length → orL (l.drop k) = 0) := fun k hk => by rw [List.drop_eq_nil_of_le (by omega), orL]
  generalize orL l = r at *
  clear h
  go_enter Tryd.func38, Tryd.ntmps38
  go_wp2_with fail
  go_loop [8] (fun v8 => ∃ k : Nat, v8 = .int .i64 k ∧ k ≤ l.length ∧ Hid (r = orL (l.drop k))) (fun v8 => l.length - (intOf v8).toNat)
  case atStart => exact ⟨0, rfl, Nat.zero_le _, D0⟩
  case round =>
    obtain ⟨k, rfl, hk, HD⟩ := hrel
    clear D0
    by_cases hlt : k < l.length
    · obtain ⟨X, o, e1, x0⟩ := HS.out.atI hlt
      obtain rfl : p = some ⟨X, o, none⟩ := e1
      have HN : Hid _ := NX.out k hlt
      rw [HN.out] at HD
      obtain ⟨x, hx⟩ : ∃ x, x = l[k] := ⟨_, rfl⟩
      rw [← hx] at x0 HD
      clear hx HN NX FN HS
      by_cases hz : x = 0
      · rw [if_pos hz] at HD
        subst hz
        go_wp2_with fail
        go_round
        case rel => exact ⟨k + 1, by go_num, by omega, HD⟩
        case measure => simp [intOf]; omega
      · rw [if_neg hz] at HD
        have hz2 : (x != 0) = true := by simp [hz]
        go_wp2_with fail
        go_ret
        exact ⟨by rw [HD.out]; rfl, rfl⟩
    · have HF := FN.out k hlt
      rw [HF] at HD
      clear NX FN HS HF
      go_wp2_with fail
      go_ret
      exact ⟨by rw [HD.out]; rfl, rfl⟩
theorem rank_any (k : Int) (w : World) : Calls Tryd.prog 63 #[.int .i64 k] w fun e w' => e = .returned (.int .i64 (rnk k)) ∧ w' = w := by
  have HR : Hid (rnk k = if k = 3 then 0 else k) := rfl
  by_cases h : k = 3
  · rw [if_pos h] at HR
    rw [HR.out]
    subst h
    clear HR
    go_enter Tryd.func63, Tryd.ntmps63
    go_wp2_with fail
    go_ret
    exact ⟨rfl, rfl⟩
  · rw [if_neg h] at HR
    rw [HR.out]
    have h2 : (k == 3) = false := by simp [h]
    clear HR
    go_enter Tryd.func63, Tryd.ntmps63
    go_wp2_with fail
    go_ret
    exact ⟨rfl, rfl⟩
/-- Two atoms held against each other. -/
def cmpA (a b : Atm) : Int := orI (sgn (rnk a.kind - rnk b.kind)) (orI (sgn (a.int - b.int)) (cmpT a.text b.text))
theorem orL_three (a b c : Int) : orL [a, b, c] = orI a (orI b c) := by
  unfold orI
  rw [orL, orL, orL, orL]
  by_cases h1 : a = 0
  · simp only [h1, if_true]
    by_cases h2 : b = 0
    · simp only [h2, if_true]
      split
      · rename_i h; exact h.symm
      · rfl
    · simp [h2]
  · simp [h1]
theorem orL_two (a b : Int) : orL [a, b] = orI a b := by
  unfold orI
  rw [orL, orL, orL]
  by_cases h1 : a = 0
  · simp only [h1, if_true]
    split
    · rename_i h; exact h.symm
    · rfl
  · simp [h1]
set_option maxHeartbeats 8000000 in
theorem compareAtoms_any (a b : Atm) (w : World) : Calls Tryd.prog 40 #[.agg #[.int .i64 a.kind, .int .i64 a.n, .int .i64 a.int, .string a.text], .agg #[.int .i64 b.kind, .int .i64 b.n, .int .i64 b.int, .string b.text]] w fun e w' => e = .returned (.int .i64 (cmpA a b)) ∧ Below w.heap.size w w' := by
  obtain ⟨k1, n1, i1, t1⟩ := a
  obtain ⟨k2, n2, i2, t2⟩ := b
  have HA : Hid (cmpA ⟨k1, n1, i1, t1⟩ ⟨k2, n2, i2, t2⟩ = orL [sgn (rnk k1 - rnk k2), sgn (i1 - i2), cmpT t1 t2]) := by show _ = _; rw [orL_three]; rfl
  generalize cmpA ⟨k1, n1, i1, t1⟩ ⟨k2, n2, i2, t2⟩ = r at *
  simp only
  have IA : Hid (∀ (w0 : World) (x1 x2 x3 : Int), IS (w0.alloc (.cells #[.int .i64 x1, .int .i64 x2, .int .i64 x3] 3)) (.slice (some ⟨w0.heap.size, 0, none⟩) 3 3) [x1, x2, x3]) := fun w0 x1 x2 x3 => (OwnG.lit KI w0 [x1, x2, x3] _ rfl rfl (by show 3 ≤ maxLen; unfold maxLen; omega)).gs KI_ok.len
  have ID : Hid (∀ (w0 : World) (x1 x2 x3 : Int), IS (w0.alloc (.cells #[.int .i64 x1, .int .i64 x2, .int .i64 x3] 3)).drew (.slice (some ⟨w0.heap.size, 0, none⟩) 3 3) [x1, x2, x3]) := fun w0 x1 x2 x3 => (IA.out w0 x1 x2 x3).below ((Below.refl _ _).drew)
  have DN : Hid (∀ (W : World) ob, Below w.heap.size w W → Below w.heap.size w (W.alloc ob) ∧ Below w.heap.size w (W.alloc ob).drew) := fun W ob b => ⟨b.alloc b.size _, (b.alloc b.size _).drew⟩
  go_enter Tryd.func40, Tryd.ntmps40
  go_upto_region 1 with fail
  generalize hW : World.alloc _ _ = W
  have BW : Hid (Below w.heap.size w W) := by rw [← hW]; exact ((Below.refl _ _).alloc (Nat.le_refl _) _).alloc (by simp) _
  have a0 : W.cell? ⟨w.heap.size, 0, none⟩ = some (.int .i64 k1) := by rw [← hW]; simp
  have a2 : W.cell? ⟨w.heap.size, 2, none⟩ = some (.int .i64 i1) := by rw [← hW]; simp
  have a3 : W.cell? ⟨w.heap.size, 3, none⟩ = some (.string t1) := by rw [← hW]; simp
  have b0 : W.cell? ⟨w.heap.size + 1, 0, none⟩ = some (.int .i64 k2) := by rw [← hW]; simp
  have b2 : W.cell? ⟨w.heap.size + 1, 2, none⟩ = some (.int .i64 i2) := by rw [← hW]; simp
  have b3 : W.cell? ⟨w.heap.size + 1, 3, none⟩ = some (.string t2) := by rw [← hW]; simp
  clear hW
  go_region_held3 (fun w' => w'.cell? ⟨w.heap.size, 0, none⟩ = some (.int .i64 k1) ∧ w'.cell? ⟨w.heap.size, 2, none⟩ = some (.int .i64 i1) ∧ w'.cell? ⟨w.heap.size, 3, none⟩ = some (.string t1) ∧ w'.cell? ⟨w.heap.size + 1, 0, none⟩ = some (.int .i64 k2) ∧ w'.cell? ⟨w.heap.size + 1, 2, none⟩ = some (.int .i64 i2) ∧ w'.cell? ⟨w.heap.size + 1, 3, none⟩ = some (.string t2)) (go_keep) (first | (go_at_call 63; refine Calls.mono (rank_any _ _) ?_; rintro e w1 ⟨rfl, rfl⟩) | (go_at_call 39; refine Calls.mono (cmpInt_any _ _ _) ?_; rintro e w1 ⟨rfl, rfl⟩) | (go_at_call 64; refine Calls.mono (cmpStr_any _ _ _) ?_; rintro e w1 ⟨rfl, rfl⟩) | (go_at_call 38; refine Calls.mono (cmpOr_any _ [sgn (rnk k1 - rnk k2), sgn (i1 - i2), cmpT t1 t2] _ (by first | exact ID.out _ _ _ _ | exact IA.out _ _ _ _) (by show 3 ≤ 1000; omega)) ?_; rintro e w1 ⟨rfl, rfl⟩))
  all_goals
    go_wp2_with fail
    go_ret
    exact ⟨by rw [HA.out]; rfl, by first | exact (DN.out _ _ BW.out).2 | exact (DN.out _ _ BW.out).1⟩
end Go.Proofs.YtahcllncjpaijabDoor
namespace Go.Proofs.YtahcllncjpaijabDoor
open Go.RowKit

theorem opVL_st (S : List Vt) (a : Atm) : opVL (stV S a) = opVL (S.take (cutV S a)) ++ (if a.kind = 3 then bump (opVL (S.drop (cutV S a)) ++ [0]) else opVL (S.drop (cutV S a)) ++ [0]) := by
  unfold stV
  rw [opVL_app, opVL, opVL, opV, List.append_nil]
theorem opVL_split (S : List Vt) (m : Nat) : opVL S = opVL (S.take m) ++ opVL (S.drop m) := by rw [← opVL_app, List.take_append_drop]
theorem bump_set (A : List Int) (j : Nat) (h : 0 < A.length) : (A ++ List.replicate j 0).set 0 ((A ++ List.replicate j (0 : Int)).getD 0 0 + 1) = bump A ++ List.replicate j 0 := by
  match A, h with
  | a :: r, _ => simp [bump]
/-- One atom more is laid out. -/
theorem lay_step (S : List Vt) (a : Atm) (j : Nat) :
    (a.kind = 3 → (opVL S ++ List.replicate (j + 1) 0).set (szVL (S.take (cutV S a))) ((opVL S ++ List.replicate (j + 1) (0 : Int)).getD (szVL (S.take (cutV S a))) 0 + 1) = opVL (stV S a) ++ List.replicate j 0)
    ∧ (a.kind ≠ 3 → opVL S ++ List.replicate (j + 1) 0 = opVL (stV S a) ++ List.replicate j 0) := by
  rw [opVL_st, opVL_split S (cutV S a)]
  have hl : (opVL (S.take (cutV S a))).length = szVL (S.take (cutV S a)) := opVL_len _
  generalize opVL (S.take (cutV S a)) = A at *
  generalize opVL (S.drop (cutV S a)) = B at *
  have er : List.replicate (j + 1) (0 : Int) = [0] ++ List.replicate j 0 := by rw [List.replicate_succ]; rfl
  refine ⟨fun hk => ?_, fun hk => ?_⟩
  · rw [if_pos hk, er, ← hl, List.append_assoc, List.set_append_right _ _ (Nat.le_refl _), Nat.sub_self]
    have e2 : (A ++ (B ++ ([0] ++ List.replicate j (0 : Int)))).getD A.length 0 = ((B ++ [0]) ++ List.replicate j 0).getD 0 0 := by
      rw [List.getD, List.getElem?_append_right (Nat.le_refl _), Nat.sub_self]
      simp [List.getD]
    rw [e2, ← List.append_assoc B, bump_set _ _ (by simp), List.append_assoc]
  · rw [if_neg hk, er]
    simp
theorem frV_at {l : List Atm} {k : Nat} {S : List Vt} {F : List Int} (h : FI l k S F) (hk : k < l.length) : (frV [] l).getD k 0 = ((szVL (S.take (cutV S l[k])) : Nat) : Int) := by
  rw [h.fr, drop_at hk, frV]
  have := h.fl
  simp [List.getD, this]
theorem bump_mem {A : List Int} {B : Int} (h : ∀ x ∈ A, 0 ≤ x ∧ x ≤ B) : ∀ x ∈ bump A, 0 ≤ x ∧ x ≤ B + 1 := by
  match A, h with
  | [], _ => intro x hx; cases hx
  | a :: r, h =>
    intro x hx
    rw [bump] at hx
    rcases List.mem_cons.1 hx with e | e
    · subst e; have := h a (List.mem_cons_self ..); omega
    · have := h x (List.mem_cons_of_mem _ e); omega
mutual
theorem opV_bd : ∀ (t : Vt), ∀ x ∈ opV t, 0 ≤ x ∧ x ≤ (dpV t : Nat)
  | .nd k i tx ps => by
    have h := opVL_bd ps
    have h2 : ∀ x ∈ opVL ps ++ [(0 : Int)], 0 ≤ x ∧ x ≤ ((dpVL ps : Nat) : Int) := fun x hx => by
      rcases List.mem_append.1 hx with e | e
      · exact h x e
      · rw [List.mem_singleton] at e; subst e; omega
    rw [opV, dpV]
    split
    · intro x hx; have := bump_mem h2 x hx; omega
    · intro x hx; have := h2 x hx; omega
theorem opVL_bd : ∀ (l : List Vt), ∀ x ∈ opVL l, 0 ≤ x ∧ x ≤ (dpVL l : Nat)
  | [] => by intro x hx; cases hx
  | t :: r => by
    intro x hx
    rw [opVL] at hx
    rw [dpVL]
    rcases List.mem_append.1 hx with e | e
    · have := opV_bd t x e; omega
    · have := opVL_bd r x e; omega
end
theorem row_bd {S : List Vt} {k j b : Nat} (h : szVL S = k) : 0 ≤ (opVL S ++ List.replicate j (0 : Int)).getD b 0 ∧ (opVL S ++ List.replicate j (0 : Int)).getD b 0 ≤ k := by
  have hd := dpVL_sz S
  by_cases hb : b < (opVL S ++ List.replicate j (0 : Int)).length
  · have hm : (opVL S ++ List.replicate j (0 : Int)).getD b 0 ∈ opVL S ++ List.replicate j (0 : Int) := by
      rw [List.getD, List.getElem?_eq_getElem hb]; exact List.getElem_mem hb
    rcases List.mem_append.1 hm with e | e
    · have := opVL_bd S _ e; omega
    · have := (List.mem_replicate.1 e).2; omega
  · rw [List.getD, List.getElem?_eq_none (by omega)]; simp
/-- Where lay stands. -/
structure LY (w wk : World) (l : List Atm) (g gf b2 b3 : Nat) (v : Value) (R : List Int) : Prop where
  o : OwnG KI wk w.heap.size (.slice (some ⟨g, 0, none⟩) l.length l.length) R
  f : OwnG KI wk w.heap.size (.slice (some ⟨gf, 0, none⟩) l.length l.length) (frV [] l)
  x2 : wk.heap[b2]? = some (.cells #[.slice none 0 0, .slice none 0 0] 61)
  x3 : wk.heap[b3]? = some (.cells #[v, .slice (some ⟨g, 0, none⟩) l.length l.length] 61)
  n1 : g ≠ gf
  n2 : g ≠ b2
  n3 : g ≠ b3
  bl : Below w.heap.size w wk
theorem LY.set {w wk : World} {l : List Atm} {g gf b2 b3 : Nat} {v : Value} {R : List Int} (h : LY w wk l g gf b2 b3 v R) (k : Nat) (x : Int) : LY w (wk.setCell ⟨g, k, none⟩ (.int .i64 x)) l g gf b2 b3 v (R.set k x) := by
  have hlt := h.o.lt (g := g) rfl
  refine ⟨h.o.set1 rfl KI_ok.len x _ rfl, h.f.far (fun y hy => Below.heap_setCell _ _ _ _ (fun e => ?_)), (Below.heap_setCell _ _ _ _ (fun e => h.n2 e.symm)).trans h.x2, (Below.heap_setCell _ _ _ _ (fun e => h.n3 e.symm)).trans h.x3, h.n1, h.n2, h.n3, h.bl.setCell hlt.1 _⟩
  have h1 : y = gf := by simpa [Value.ownBlock] using hy.symm
  exact h.n1 (by rw [← h1]; exact e.symm)
theorem box2_cell {w : World} {b : Nat} {u v : Value} {t : TypeId} (h : w.heap[b]? = some (.cells #[u, v] t)) : w.cell? ⟨b, 0, none⟩ = some u ∧ w.cell? ⟨b, 1, none⟩ = some v ∧ (∀ o, w.frozen? ⟨b, o, none⟩ = false) :=
  ⟨(cell_of_row _ _ _ _ _ _ h).trans rfl, (cell_of_row _ _ _ _ _ _ h).trans rfl, fun o => by simp [World.frozen?, h]⟩
set_option maxHeartbeats 16000000 in
set_option maxRecDepth 100000 in
theorem lay_any (p : Option Addr) (cap : Nat) (t : Vt) (w : World) (h : AS w (.slice p (szV t) cap) (flV t)) (hr : RT t) :
    Calls Tryd.prog 23 #[.slice p (szV t) cap] w fun e w' => ∃ g, e = .returned (.agg #[.slice p (szV t) cap, .slice (some ⟨g, 0, none⟩) (szV t) (szV t)]) ∧ OwnG KI w' w.heap.size (.slice (some ⟨g, 0, none⟩) (szV t) (szV t)) (opV t) ∧ Below w.heap.size w w' := by
  have hsz := hr.sz
  have hfl : (flV t).length = szV t := rfl
  have hd : depV (flV t) ≠ 0 := by rw [depV_flat hr.wf]; have := dpV_pos t; omega
  have FO : Hid (∀ k S F (hk : k < (flV t).length), FI (flV t) k S F → okV S (flV t)[k] = true ∧ FI (flV t) (k + 1) (stV S (flV t)[k]) (F ++ [((szVL (S.take (cutV S (flV t)[k])) : Nat) : Int)])) := fun k S F hk hf => ⟨hf.ok hd hk, hf.next hk (hf.ok hd hk)⟩
  have FE : Hid (∀ S F, FI (flV t) (flV t).length S F → opVL S = opV t) := fun S F hf => by
    have := hf.di.eq
    rw [bV_flat hr.wf, List.drop_length, bV] at this
    injection this with this
    rw [← this, opVL, opVL, List.append_nil]
  have FAT : Hid (∀ k S F (hk : k < (flV t).length), FI (flV t) k S F → (frV [] (flV t)).getD k 0 = ((szVL (S.take (cutV S (flV t)[k])) : Nat) : Int)) := fun k S F hk hf => frV_at hf hk
  have F0 : Hid (FI (flV t) 0 [] []) := FI.start _
  have BG : Hid (∀ w1, Below w.heap.size w w1 → _) := fun w1 b => beginsOf_any (.slice p (szV t) cap) (flV t) w1 (h.below b) hd (by omega)
  have HS : Hid (AS w (.slice p (szV t) cap) (flV t)) := h
  have FRL : Hid ((frV [] (flV t)).length = szV t) := frV_len hd
  obtain ⟨l, hl⟩ : ∃ l, l = flV t := ⟨_, rfl⟩
  have hll : szV t = l.length := by rw [hl]; rfl
  rw [← hl] at FO FE FAT F0 BG HS FRL
  rw [hll] at BG HS hsz FRL ⊢
  generalize opV t = ot at *
  clear h hr hd hfl hl hll
  go_enter Tryd.func23, Tryd.ntmps23
  go_wp2_with (at_make; refine make_g KI KI_ok 0 rfl rfl _ rfl _ _ 59 rfl Tryd.underlying59 l.length rfl rfl (by omega) (by decide) ?_; intro w5 ho5 hb5)
  have H5 : Hid (OwnG KI w5 w.heap.size (.slice (some ⟨w.heap.size + 1, 0, none⟩) l.length l.length) (List.replicate l.length 0) ∧ w5.heap[w.heap.size]? = some (.cells #[.slice none 0 0, .slice none 0 0] 61) ∧ Below w.heap.size w w5 ∧ w.heap.size + 1 < w5.heap.size) := by
    have hs1 : (w.alloc (.cells #[.slice none 0 0, .slice none 0 0] 61)).heap.size = w.heap.size + 1 := by simp
    have b0 : Below w.heap.size w (w.alloc (.cells #[.slice none 0 0, .slice none 0 0] 61)) := (Below.refl _ _).alloc (Nat.le_refl _) _
    rw [hs1] at ho5 hb5
    have h2 := (ho5.lt (g := w.heap.size + 1) rfl).2
    exact ⟨ho5.low (by omega), (hb5.block w.heap.size (by omega)).trans (heap_alloc_new w _), b0.trans (hb5.mono (by omega)), h2⟩
  clear ho5 hb5
  have B6 : Hid (∀ ob, Below w.heap.size w (w5.alloc ob)) := fun ob => H5.out.2.2.1.alloc H5.out.2.2.1.size _
  refine Calls.mono (BG.out _ (B6.out _)) ?_
  rintro e w7 ⟨gf, rfl, hof, hb7⟩
  have H7 : Hid (LY w w7 l (w.heap.size + 1) gf w.heap.size w5.heap.size (.slice p l.length cap) (opVL [] ++ List.replicate (l.length - 0) 0)) := by
    have hgf := (hof.lt (g := gf) rfl).1
    have b5 : Below w5.heap.size w5 (w5.alloc (.cells #[.slice p l.length cap, .slice (some ⟨w.heap.size + 1, 0, none⟩) l.length l.length] 61)) := (Below.refl _ _).alloc (Nat.le_refl _) _
    have hs : (w5.alloc (.cells #[.slice p l.length cap, .slice (some ⟨w.heap.size + 1, 0, none⟩) l.length l.length] 61)).heap.size = w5.heap.size + 1 := by simp
    have h5 := H5.out
    have b57 : Below w5.heap.size w5 w7 := b5.trans (hb7.mono (by rw [hs]; omega))
    refine ⟨h5.1.below b57, hof.low (by rw [hs]; omega), (b57.block _ (by omega)).trans h5.2.1, (hb7.block _ (by rw [hs]; omega)).trans (heap_alloc_new w5 _), by rw [hs] at hgf; omega, by omega, by omega, h5.2.2.1.trans (b57.mono h5.2.2.1.size)⟩
  generalize hg1 : w.heap.size + 1 = g at *
  generalize hg2 : w5.heap.size = b3 at *
  have hwb : Hid (w.heap.size ≤ w.heap.size) := Nat.le_refl _
  obtain ⟨b2, hb2⟩ : ∃ b2, b2 = w.heap.size := ⟨_, rfl⟩
  rw [← hb2] at H7
  have HB2 : Hid (b2 = w.heap.size) := hb2
  clear hof hb7 H5 B6 BG hg1 hg2 hwb
  rw [← hb2]
  clear hb2
  go_wp2_with fail
  go_loopw [14] (fun v14 wr => ∃ (k : Nat) (S : List Vt) (F : List Int) (wk : World), v14 = .int .i64 k ∧ wk = wr ∧ k ≤ l.length ∧ Hid (FI l k S F) ∧ Hid (LY w wk l g gf b2 b3 (.slice p l.length cap) (opVL S ++ List.replicate (l.length - k) 0))) (fun v14 _ => l.length - (intOf v14).toNat)
  case atStart => exact ⟨0, [], [], _, rfl, rfl, Nat.zero_le _, F0, H7⟩
  case round =>
    obtain ⟨k, S, F, wr, rfl, rfl, hk, HF, HL⟩ := hrel
    clear F0 H7
    by_cases hlt : k < l.length
    · obtain ⟨X, o, e1, x0, x1, x2, x3⟩ := (HS.out.below HL.out.bl).atA hlt
      obtain rfl : p = some ⟨X, o, none⟩ := e1
      obtain ⟨okt, FIx⟩ := FO.out k S F hlt HF.out
      have hfat := FAT.out k S F hlt HF.out
      have cf : wr.cell? ⟨gf, k, none⟩ = some (.int .i64 ((frV [] l).getD k 0)) := own_int HL.out.f FRL.out.symm (j := k) (by rw [FRL.out]; exact hlt)
      have ST := lay_step S l[k] (l.length - (k + 1))
      have hsub : l.length - (k + 1) + 1 = l.length - k := by omega
      rw [hsub] at ST
      obtain ⟨c30, c31, _⟩ := box2_cell HL.out.x3
      have hsz1 := HF.out.sz
      have hop : (opVL S).length = k := by rw [opVL_len, hsz1]
      have hbk : szVL (S.take (cutV S l[k])) ≤ k := by have := szVL_take_le S (cutV S l[k]); omega
      rw [hfat] at cf
      generalize l[k] = a at *
      have FX : Hid (FI l (k + 1) (stV S a) (F ++ [((szVL (S.take (cutV S a)) : Nat) : Int)])) := FIx
      generalize szVL (S.take (cutV S a)) = b at *
      have hbl : b < l.length := by omega
      have cg : wr.cell? ⟨g, b, none⟩ = some (.int .i64 ((opVL S ++ List.replicate (l.length - k) 0).getD b 0)) := own_int HL.out.o (by simp [hop]; omega) (j := b) (by simp [hop]; omega)
      have fg := own_frozen HL.out.o b
      have OB : Hid (0 ≤ (opVL S ++ List.replicate (l.length - k) (0 : Int)).getD b 0 ∧ (opVL S ++ List.replicate (l.length - k) (0 : Int)).getD b 0 ≤ 1000000) := by have := row_bd (j := l.length - k) (b := b) hsz1; exact ⟨this.1, by omega⟩
      obtain ⟨ak, hak⟩ : ∃ x, x = a.kind := ⟨_, rfl⟩
      rw [← hak] at x0 ST
      by_cases hk3 : ak = 3
      · subst hk3
        have HN : Hid (LY w (wr.setCell ⟨g, b, none⟩ (.int .i64 ((opVL S ++ List.replicate (l.length - k) (0 : Int)).getD b 0 + 1))) l g gf b2 b3 (.slice (some ⟨X, o, none⟩) l.length cap) (opVL (stV S a) ++ List.replicate (l.length - (k + 1)) 0)) := by
          have := HL.out.set b ((opVL S ++ List.replicate (l.length - k) (0 : Int)).getD b 0 + 1)
          rw [ST.1 rfl] at this; exact this
        generalize (opVL S ++ List.replicate (l.length - k) (0 : Int)).getD b 0 = y at *
        obtain ⟨y1, y2⟩ := OB.out
        clear ST HL HF FO FAT FE FIx hak okt hfat hop hsz1 x1 x2 x3
        go_wp2_with fail
        go_roundw
        case rel => exact ⟨k + 1, _, _, _, by go_num, rfl, by omega, FX, HN⟩
        case measure => simp [intOf]; omega
      · have HN : Hid (LY w wr l g gf b2 b3 (.slice (some ⟨X, o, none⟩) l.length cap) (opVL (stV S a) ++ List.replicate (l.length - (k + 1)) 0)) := by
          have := HL.out
          rw [ST.2 hk3] at this; exact this
        have hk4 : (ak == 3) = false := by simp [hk3]
        clear ST HL HF FO FAT FE FIx hak okt hfat hop hsz1 x1 x2 x3 cg fg OB
        go_wp2_with fail
        go_roundw
        case rel => exact ⟨k + 1, _, _, _, by go_num, rfl, by omega, FX, HN⟩
        case measure => simp [intOf]; omega
    · obtain rfl : k = l.length := by omega
      have HE := FE.out S F HF.out
      obtain ⟨c30, c31, _⟩ := box2_cell HL.out.x3
      obtain ⟨c20, c21, f2⟩ := box2_cell HL.out.x2
      have f20 := f2 0
      have f21 := f2 1
      have OO : Hid (OwnG KI wr w.heap.size (.slice (some ⟨g, 0, none⟩) l.length l.length) ot) := by
        have := HL.out.o
        rw [Nat.sub_self, List.replicate_zero, List.append_nil, HE] at this; exact this
      have B9 : Hid (Below w.heap.size w wr) := HL.out.bl
      have N2 : Hid (g ≠ b2) := HL.out.n2
      clear HL HF FO FAT FE HE f2
      go_wp2_with fail
      refine bodyPost_ret (v := .agg #[.slice p l.length cap, .slice (some ⟨g, 0, none⟩) l.length l.length]) (by simp [results, Tryd.results23, go_sem, *]) rfl ⟨g, rfl, ?_, ?_⟩
      · exact OO.out.far (fun y hy => by
          have h1 : y = g := by simpa [Value.ownBlock] using hy.symm
          exact (Below.heap_setCell _ _ _ _ (fun e => N2.out (by rw [← h1]; exact e))).trans (Below.heap_setCell _ _ _ _ (fun e => N2.out (by rw [← h1]; exact e))))
      · exact (B9.out.setCell (by rw [HB2.out]; exact Nat.le_refl _) _).setCell (by rw [HB2.out]; exact Nat.le_refl _) _
end Go.Proofs.YtahcllncjpaijabDoor
