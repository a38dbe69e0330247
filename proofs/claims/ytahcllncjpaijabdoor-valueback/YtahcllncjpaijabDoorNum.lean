/- The walks of lex.Number and of its reference: both give what 'numN' and 'numB' say, for every text. -/
import Derived.Test.YtahcllncjpaijabDoorQuote
import Derived.Test.YtahcllncjpaijabDoorStrApp
import Derived.Test.YtahcllncjpaijabDoorShelf
import Derived.Lib.ItoaLen
import Derived.WalkKit
import Derived.Test.YtahcllncjpaijabDoorProg
import Derived.WalkSpells
import Derived.WalkLawsBesides
namespace Go.Proofs.YtahcllncjpaijabDoor
open Go.RowKit

/-- The powers of ten lie in their variable, and stay there. -/
def PowBelow (B : Nat) (w : World) : Prop := Lib.TabBelow Tryd.prog B w "internal/strconv.uint64pow10" .u64 Lib.pow10Tab
theorem append_str_keep {P : Program} {ops : Array Oper} {rest : List Oper} {o : Oper} {a : Act} {w : World} {Q : Exit → Act → World → Prop} (hgd : o.guard = none) (sl x : Operand) (t u : TypeId)
    (ho : o.op = .call { callee := .builtin .append, args := #[sl, x], argTypes := #[t, u] })
    (base : Nat) (ht : P.underlying t = some (.slice 5)) (hu : P.underlying u = some .string) (hi : (P.info? 5).map (fun i => (i.zero, i.size, i.bytes)) = some (some (.int .u8 0), 1, 1))
    (v : Value) (bs : List UInt8) (hs : a.eval sl = v) (hown : Own w base v bs) (s : ByteArray) (hx : a.eval x = .string s)
    (hlim : bs.length + s.size ≤ 140737488355328) (hbase : base ≤ w.heap.size)
    (h : ∀ v' w', Own w' base v' (bs ++ s.data.toList) → Below base w w' → (∀ b, b < w.heap.size → some b ≠ v.ownBlock → w'.heap[b]? = w.heap[b]?) → wpList P ops Q rest (a.put o.dst v') w') : wpList P ops Q (o :: rest) a w := by
  obtain ⟨i0, hi0, hz0, hz1, hz2⟩ := info_parts hi
  have hsz : s.data.toList.length = s.size := by simp
  refine Lib.wpList_append_own_string w hgd sl x t u ho base 5 i0 ht hu hi0 hz0 hz1 hz2 v bs.length (bs.map byteV) hs hown s hx (by unfold maxLen; omega) hlim hbase ?_
  intro v' w' ho' hg _
  have hb : Below base w w' := (Below.refl base w).grown hg hbase (fun q hq => (hown.lt q hq).1)
  refine h v' w' ?_ hb (fun b hb hn => hg.block b hb hn)
  unfold Own
  rw [List.map_append, List.length_append, hsz]
  exact ho'
theorem Own.ne_box {w : World} {base : Nat} {v : Value} {bs : List UInt8} (h : Own w base v bs) {b : Nat} {cells : Array Value} {t : TypeId} (hb : w.heap[b]? = some (.cells cells t)) (ht : t ≠ 5) : some b ≠ v.ownBlock := by
  intro e
  rcases h.2 with ⟨rfl, _⟩ | ⟨g, cap, cur, rfl, _, hc, _⟩
  · simp [Value.ownBlock] at e
  · simp [Value.ownBlock] at e
    subst e
    rw [hb] at hc
    injection hc with hc
    injection hc with _ hc
    exact ht hc
theorem box4_cell {w : World} {b : Nat} {u v x y : Value} {t : TypeId} (h : w.heap[b]? = some (.cells #[u, v, x, y] t)) : w.cell? ⟨b, 0, none⟩ = some u ∧ w.cell? ⟨b, 1, none⟩ = some v ∧ w.cell? ⟨b, 2, none⟩ = some x ∧ w.cell? ⟨b, 3, none⟩ = some y :=
  ⟨(cell_of_row _ _ _ _ _ _ h).trans rfl, (cell_of_row _ _ _ _ _ _ h).trans rfl, (cell_of_row _ _ _ _ _ _ h).trans rfl, (cell_of_row _ _ _ _ _ _ h).trans rfl⟩
/-- The text of one atom; what stands ahead of it; the text of the places from one on. -/
def atT (a : Atm) : List UInt8 := if a.kind = 1 then Lib.itoa a.int else if a.kind = 2 then quo a.text.data.toList else [93]
def spT (k : Nat) (a : Atm) : List UInt8 := if k = 0 then [] else if a.n = 0 then [44, 32] else []
def plT (k : Nat) (o : Int) (a : Atm) : List UInt8 := spT k a ++ List.replicate o.toNat 91 ++ atT a
def txP : Nat → List Int → List Atm → List UInt8
  | k, o :: os, a :: l => plT k o a ++ txP (k + 1) os l
  | _, _, _ => []
theorem txP_nil (k : Nat) (os : List Int) : txP k os [] = [] := by cases os <;> rfl
theorem txP_at {os : List Int} {l : List Atm} {k : Nat} (h1 : k < os.length) (h2 : k < l.length) : txP k (os.drop k) (l.drop k) = plT k (os.getD k 0) l[k] ++ txP (k + 1) (os.drop (k + 1)) (l.drop (k + 1)) := by
  rw [List.drop_eq_getElem_cons h1, List.drop_eq_getElem_cons h2, txP, List.getD_eq_getElem?_getD, List.getElem?_eq_getElem h1]; rfl
mutual
theorem flV_atB : ∀ (t : Vt), wfV t → ∀ a ∈ flV t, atB a = true
  | .nd k i tx ps, h, a, ha => by
    rw [flV, List.mem_append] at ha
    rw [wfV] at h
    rcases ha with ha | ha
    · exact flVL_atB ps h.2 a ha
    · rw [List.mem_singleton] at ha; rw [ha]; exact h.1
theorem flVL_atB : ∀ (l : List Vt), wfVL l → ∀ a ∈ flVL l, atB a = true
  | [], _, a, ha => by rw [flVL] at ha; cases ha
  | t :: r, h, a, ha => by
    rw [flVL, List.mem_append] at ha
    rw [wfVL] at h
    rcases ha with ha | ha
    · exact flV_atB t h.1 a ha
    · exact flVL_atB r h.2 a ha
end
theorem opV_at {t : Vt} (h : RT t) (k : Nat) : 0 ≤ (opV t).getD k 0 ∧ (opV t).getD k 0 ≤ 32 := by
  by_cases hk : k < (opV t).length
  · have := opV_bd t ((opV t)[k]) (List.getElem_mem hk)
    rw [List.getD_eq_getElem?_getD, List.getElem?_eq_getElem hk]
    show 0 ≤ (opV t)[k] ∧ (opV t)[k] ≤ 32
    have := h.dp
    omega
  · rw [List.getD_eq_getElem?_getD, List.getElem?_eq_none (by omega)]; exact ⟨Int.le_refl _, by decide⟩
theorem fldL (u v : Value) (w : World) : (Instr.field 61 (.agg #[u, v]) 1).run Tryd.prog w = .ok v w := by kernel_rfl
theorem atB_is {k n i : Int} {tx : ByteArray} (h : atB ⟨k, n, i, tx⟩ = true) : (k = 1 ∧ -9007199254740992 ≤ i ∧ i ≤ 9007199254740992) ∨ (k = 2 ∧ tx.size ≤ 4096) ∨ k = 3 := by
  rw [atB_def] at h
  split at h
  · simp at h; left; refine ⟨by assumption, by omega, by omega⟩
  · split at h
    · simp at h; right; left; exact ⟨by assumption, h.2⟩
    · split at h
      · right; right; assumption
      · cases h
end Go.Proofs.YtahcllncjpaijabDoor
namespace Go.Proofs.YtahcllncjpaijabDoor
open Go.RowKit

mutual
/-- The text of a tree. -/
def prV : Vt → List UInt8
  | .nd k i tx ps => if k = 1 then Lib.itoa i else if k = 2 then quo tx.data.toList else 91 :: (prVL ps ++ [93])
/-- Members with commas between them. -/
def prVL : List Vt → List UInt8
  | [] => []
  | t :: r => prV t ++ prVS r
/-- Members, a comma ahead of each. -/
def prVS : List Vt → List UInt8
  | [] => []
  | t :: r => 44 :: 32 :: (prV t ++ prVS r)
end
def sepK (k : Nat) : List UInt8 := if k = 0 then [] else [44, 32]
theorem txP_app : ∀ {os : List Int} {l : List Atm} (k : Nat) (os' : List Int) (l' : List Atm), os.length = l.length → txP k (os ++ os') (l ++ l') = txP k os l ++ txP (k + l.length) os' l'
  | [], [], k, os', l', _ => by simp [txP_nil]
  | o :: os, a :: l, k, os', l', h => by
    rw [List.cons_append, List.cons_append, txP, txP, txP_app (k + 1) os' l' (by simpa using h), List.append_assoc, List.length_cons]
    congr 3; omega
  | [], _ :: _, _, _, _, h => by simp at h
  | _ :: _, [], _, _, _, h => by simp at h
theorem txP_one (k : Nat) (o : Int) (a : Atm) : txP k [o] [a] = plT k o a := by rw [txP, txP_nil, List.append_nil]
theorem spT_zero (k : Nat) (kd i : Int) (tx : ByteArray) : spT k ⟨kd, 0, i, tx⟩ = sepK k := by
  unfold spT sepK
  split <;> rfl
mutual
theorem txP_tree : ∀ (t : Vt) (k n : Nat), wfV t → txP k (bumpN n (opV t)) (flV t) = sepK k ++ List.replicate n 91 ++ prV t
  | .nd kd i tx [], k, n, h => by
    rw [opV, opVL, List.nil_append, flV, flVL, List.nil_append, prV, prVL]
    rw [wfV] at h
    have hb := atB_is h.1
    by_cases h3 : kd = 3
    · subst h3
      rw [if_pos rfl, bump, bumpN_cons, txP_one]
      unfold plT atT
      rw [if_neg (by show ¬ ((3 : Int) = 1); omega), if_neg (by show ¬ ((3 : Int) = 2); omega), if_neg (by omega), if_neg (by omega)]
      have e : ((0 : Int) + 1 + (n : Int)).toNat = n + 1 := by omega
      rw [e, List.replicate_succ']
      have := spT_zero k 3 i tx
      rw [show spT k ⟨3, (([] : List Vt).length : Nat), i, tx⟩ = sepK k from this]
      simp
    · rw [if_neg h3, bumpN_cons, txP_one]
      unfold plT atT
      have e : ((0 : Int) + (n : Int)).toNat = n := by omega
      rw [e, show spT k ⟨kd, (([] : List Vt).length : Nat), i, tx⟩ = sepK k from spT_zero k kd i tx]
      by_cases h1 : kd = 1
      · rw [if_pos h1, if_pos h1]
      · rw [if_neg h1, if_neg h1]
        have h2 : kd = 2 := by rcases hb with ⟨e, _⟩ | ⟨e, _⟩ | e <;> omega
        rw [if_pos h2, if_pos h2]
  | .nd kd i tx (p :: r), k, n, h => by
    have hw := h
    rw [wfV] at h
    have h3 : kd = 3 := by
      have := (atB_n h.1).2.1 (by show (((p :: r).length : Nat) : Int) ≠ 0; rw [List.length_cons]; omega)
      exact this
    subst h3
    have hp := h.2
    rw [wfVL] at hp
    have hne : bump (opV p) ≠ [] := fun e => opV_ne p (List.length_eq_zero_iff.1 (by rw [← bump_len, e]; rfl))
    have hsz := szV_pos p
    rw [opV, if_pos rfl, opVL, flV, flVL, List.append_assoc, bump_app _ _ (opV_ne p), bumpN_app _ _ _ hne, List.append_assoc, txP_app _ _ _ (by rw [bumpN_len, bump_len, opV_len]; rfl), txP_app _ _ _ (by rw [opVL_len]; rfl)]
    rw [show bumpN n (bump (opV p)) = bumpN (n + 1) (opV p) from rfl, txP_tree p k (n + 1) hp.1, txP_trees r (k + (flV p).length) (by show 0 < k + szV p; omega) hp.2, txP_one]
    rw [prV, if_neg (by omega), if_neg (by omega), prVL]
    unfold plT atT spT
    have hk0 : ¬ (k + (flV p).length + (flVL r).length = 0) := by have : (flV p).length = szV p := rfl; omega
    rw [if_neg hk0, if_neg (by show ¬ ((((p :: r).length : Nat) : Int) = 0); rw [List.length_cons]; omega)]
    rw [if_neg (by show ¬ ((3 : Int) = 1); omega), if_neg (by show ¬ ((3 : Int) = 2); omega), List.replicate_succ']
    simp
theorem txP_trees : ∀ (l : List Vt) (k : Nat), 0 < k → wfVL l → txP k (opVL l) (flVL l) = prVS l
  | [], k, _, _ => by rw [opVL, flVL, prVS]; rfl
  | t :: r, k, hk, h => by
    rw [wfVL] at h
    rw [opVL, flVL, prVS, txP_app _ _ _ (by rw [opV_len]; rfl), txP_trees r _ (by omega) h.2]
    have := txP_tree t k 0 h.1
    rw [show bumpN 0 (opV t) = opV t from rfl] at this
    rw [this]
    unfold sepK
    rw [if_neg (by omega)]
    simp
end
/-- What is told from the front on is the tree's text. -/
theorem txP_is {t : Vt} (h : wfV t) : txP 0 (opV t) (flV t) = prV t := by
  have := txP_tree t 0 0 h
  rw [show bumpN 0 (opV t) = opV t from rfl] at this
  rw [this]
  unfold sepK
  simp
end Go.Proofs.YtahcllncjpaijabDoor
namespace Go.Proofs.YtahcllncjpaijabDoor
open Go.RowKit

/-- Where the reader stands: the atoms, how many members each list that has not ended has (the innermost first), the next number's sign. -/
structure RdS where
  l : List Atm
  R : List Int
  sg : Int
/-- One token read: its kind, its number, its text. -/
def rdS (st : RdS) (k n : Int) (tx : List UInt8) : RdS :=
  if k = 4 then ⟨st.l ++ [⟨1, 0, st.sg * n, ByteArray.empty⟩], bump st.R, 1⟩
  else if k = 5 then ⟨st.l ++ [⟨2, 0, 0, ⟨tx.toArray⟩⟩], bump st.R, st.sg⟩
  else if k = 6 then
    (if tx = [45] then ⟨st.l, st.R, -1⟩ else if tx = [91] then ⟨st.l, 0 :: st.R, st.sg⟩
     else if tx = [93] ∧ 1 < st.R.length then ⟨st.l ++ [⟨3, st.R.headD 0, 0, ByteArray.empty⟩], bump st.R.tail, st.sg⟩ else st)
  else st
def rdG (st : RdS) (L : List (Int × Int × List UInt8)) : RdS := L.foldl (fun st t => rdS st t.1 t.2.1 t.2.2) st
theorem rdG_app (st : RdS) (A B : List (Int × Int × List UInt8)) : rdG st (A ++ B) = rdG (rdG st A) B := List.foldl_append ..
theorem rdG_cons (st : RdS) (t : Int × Int × List UInt8) (B : List (Int × Int × List UInt8)) : rdG st (t :: B) = rdG (rdS st t.1 t.2.1 t.2.2) B := rfl
theorem rdG_nil (st : RdS) : rdG st [] = st := rfl
mutual
/-- A tree's tokens. -/
def tkV : Vt → List (Int × Int × List UInt8)
  | .nd k i tx ps => if k = 1 then (if i < 0 then [(6, 0, [45]), (4, -i, [])] else [(4, i, [])]) else if k = 2 then [(5, 0, tx.data.toList)] else (6, 0, [91]) :: (tkL ps ++ [(6, 0, [93])])
def tkL : List Vt → List (Int × Int × List UInt8)
  | [] => []
  | t :: r => tkV t ++ tkS r
def tkS : List Vt → List (Int × Int × List UInt8)
  | [] => []
  | t :: r => (6, 0, [44]) :: (tkV t ++ tkS r)
end
theorem rd_comma (st : RdS) : rdS st 6 0 [44] = st := by simp [rdS]
theorem empty_of {tx : ByteArray} (h : tx.size = 0) : tx = ByteArray.empty := by
  obtain ⟨⟨l⟩⟩ := tx
  have : l = [] := List.length_eq_zero_iff.1 h
  subst this
  rfl
mutual
theorem rd_tree : ∀ (t : Vt) (l : List Atm) (R : List Int), wfV t → R ≠ [] → rdG ⟨l, R, 1⟩ (tkV t) = ⟨l ++ flV t, bump R, 1⟩
  | .nd k i tx ps, l, R, h, hR => by
    have hw := h
    rw [wfV] at h
    have hb := h.1
    rw [atB_def] at hb
    rw [tkV, flV]
    by_cases h1 : k = 1
    · rw [if_pos h1] at hb
      simp only [Bool.and_eq_true, decide_eq_true_eq] at hb
      have hp : ps = [] := List.length_eq_zero_iff.1 (by omega)
      subst hp h1
      have ht := empty_of hb.2
      subst ht
      rw [if_pos rfl, flVL, List.nil_append]
      split
      · rw [rdG_cons, rdG_cons, rdG_nil]
        simp [rdS]
      · rw [rdG_cons, rdG_nil]
        simp [rdS]
    · rw [if_neg h1] at hb
      rw [if_neg h1]
      by_cases h2 : k = 2
      · rw [if_pos h2] at hb
        simp only [Bool.and_eq_true, decide_eq_true_eq] at hb
        have hp : ps = [] := List.length_eq_zero_iff.1 (by omega)
        have hi : i = 0 := hb.1.2
        subst hp h2 hi
        rw [if_pos rfl, flVL, List.nil_append, rdG_cons, rdG_nil]
        simp [rdS]
      · rw [if_neg h2] at hb
        rw [if_neg h2]
        have h3 : k = 3 := by
          split at hb
          · assumption
          · cases hb
        subst h3
        obtain ⟨e1, e2⟩ := wf_end hw
        subst e1 e2
        have hs : rdS ⟨l, R, 1⟩ 6 0 [91] = ⟨l, 0 :: R, 1⟩ := by simp [rdS]
        rw [rdG_cons]
        show rdG (rdS ⟨l, R, 1⟩ 6 0 [91]) _ = _
        rw [hs, rdG_app, rd_list ps l 0 R h.2, rdG_cons, rdG_nil]
        show rdS ⟨l ++ flVL ps, (0 + (ps.length : Int)) :: R, 1⟩ 6 0 [93] = _
        have hl : 1 < ((0 + (ps.length : Int)) :: R).length := by
          cases R with
          | nil => exact absurd rfl hR
          | cons a r => simp
        unfold rdS
        rw [if_neg (by decide), if_neg (by decide), if_pos rfl, if_neg (by decide), if_neg (by decide), if_pos ⟨rfl, hl⟩]
        simp
theorem rd_list : ∀ (ps : List Vt) (l : List Atm) (a : Int) (R : List Int), wfVL ps → rdG ⟨l, a :: R, 1⟩ (tkL ps) = ⟨l ++ flVL ps, (a + (ps.length : Int)) :: R, 1⟩
  | [], l, a, R, _ => by rw [tkL, flVL, rdG_nil]; simp
  | t :: r, l, a, R, h => by
    rw [wfVL] at h
    rw [tkL, flVL, rdG_app, rd_tree t l (a :: R) h.1 (by simp), bump, rd_more r (l ++ flV t) (a + 1) R h.2, List.append_assoc, List.length_cons]
    congr 2
    omega
theorem rd_more : ∀ (ps : List Vt) (l : List Atm) (a : Int) (R : List Int), wfVL ps → rdG ⟨l, a :: R, 1⟩ (tkS ps) = ⟨l ++ flVL ps, (a + (ps.length : Int)) :: R, 1⟩
  | [], l, a, R, _ => by rw [tkS, flVL, rdG_nil]; simp
  | t :: r, l, a, R, h => by
    rw [wfVL] at h
    rw [tkS, flVL, rdG_cons]
    show rdG (rdS ⟨l, a :: R, 1⟩ 6 0 [44]) _ = _
    rw [rd_comma, rdG_app, rd_tree t l (a :: R) h.1 (by simp), bump, rd_more r (l ++ flV t) (a + 1) R h.2, List.append_assoc, List.length_cons]
    congr 2
    omega
end
/-- A tree's tokens, read from the start on. -/
theorem rd_all {t : Vt} (h : wfV t) : (rdG ⟨[], [0], 1⟩ (tkV t)).l = flV t := by rw [rd_tree t [] [0] h (by simp)]; simp
end Go.Proofs.YtahcllncjpaijabDoor
namespace Go.Proofs.YtahcllncjpaijabDoor.L1

/-- The number that digits make behind a number; none where a byte is no digit, or the number passes 2^53. -/
def numGo : List UInt8 → Int → Option Int
  | [], n => some n
  | c :: r, n => if 48 ≤ (c.toNat : Int) ∧ (c.toNat : Int) ≤ 57 then (if 10 * n + ((c.toNat : Int) - 48) > 9007199254740992 then none else numGo r (10 * n + ((c.toNat : Int) - 48))) else none
/-- Is it a text that can be no number at sight? -/
def numBad (l : List UInt8) : Bool := match l with
  | [] => true
  | [_] => false
  | c :: _ => c == 48
def numN (l : List UInt8) : Int := if numBad l then 0 else (numGo l 0).getD 0
def numB (l : List UInt8) : Bool := if numBad l then false else (numGo l 0).isSome

theorem drop_cons (s : ByteArray) (k : Nat) (h : k < s.size) : s.data.toList.drop k = s[k] :: s.data.toList.drop (k + 1) := by
  rw [List.drop_eq_getElem_cons (by simpa using h)]; rfl
theorem drop_end (s : ByteArray) (k : Nat) (h : s.size ≤ k) : s.data.toList.drop k = [] := by
  rw [List.drop_eq_nil_iff]; simpa using h

theorem numGo_ge : ∀ (l : List UInt8) (n m : Int), 0 ≤ n → numGo l n = some m → n * 10 ^ l.length ≤ m
  | [], n, m, _, h => by simp [numGo] at h; simp [h]
  | c :: r, n, m, h0, h => by
    simp only [numGo] at h
    split at h
    · split at h
      · cases h
      · rename_i hc hb
        have := numGo_ge r _ m (by omega) h
        have e : n * 10 ^ (c :: r).length = (10 * n) * 10 ^ r.length := by rw [List.length_cons, Int.pow_succ]; rw [← Int.mul_assoc, Int.mul_comm 10 n, Int.mul_assoc, Int.mul_assoc, Int.mul_comm 10]
        rw [e]
        refine Int.le_trans (Int.mul_le_mul_of_nonneg_right (by omega) ?_) this
        exact Int.le_of_lt (Int.pow_pos (by omega))
    · cases h
theorem numGo_le : ∀ (l : List UInt8) (n m : Int), n ≤ 9007199254740992 → numGo l n = some m → m ≤ 9007199254740992
  | [], n, m, h0, h => by simp [numGo] at h; omega
  | c :: r, n, m, h0, h => by
    simp only [numGo] at h
    split at h
    · split at h
      · cases h
      · exact numGo_le r _ m (by omega) h
    · cases h
/-- Twenty digits, the first no zero, are too many. -/
theorem numGo_long (l : List UInt8) (hb : numBad l = false) (h : 19 < l.length) : numGo l 0 = none := by
  match l, hb, h with
  | c :: d :: r, hb, h =>
    simp [numBad] at hb
    cases e : numGo (c :: d :: r) 0 with
    | none => rfl
    | some m =>
      have hle := numGo_le _ _ _ (by omega) e
      simp only [numGo] at e
      split at e
      · split at e
        · cases e
        · rename_i hc hbb
          have hne : c.toNat ≠ 48 := fun h' => hb (by apply UInt8.toNat_inj.1; simpa using h')
          have := numGo_ge (d :: r) (10 * 0 + ((c.toNat : Int) - 48)) m (by omega) (by simpa only [numGo] using e)
          have h1 : (1 : Int) * 10 ^ 19 ≤ (10 * 0 + ((c.toNat : Int) - 48)) * 10 ^ (d :: r).length := by
            refine Int.le_trans ?_ (Int.mul_le_mul_of_nonneg_right (show (1 : Int) ≤ 10 * 0 + ((c.toNat : Int) - 48) by omega) (Int.le_of_lt (Int.pow_pos (by omega))))
            rw [Int.one_mul, Int.one_mul]
            exact_mod_cast Nat.pow_le_pow_right (by omega : 0 < 10) (show 19 ≤ (d :: r).length by simp at h ⊢; omega)
          omega
      · cases e
end Go.Proofs.YtahcllncjpaijabDoor.L1
namespace Go.Proofs.YtahcllncjpaijabDoor.L1

def isSm (c : UInt8) : Bool := decide (97 ≤ (c.toNat : Int) ∧ (c.toNat : Int) ≤ 122)
def isDg (c : UInt8) : Bool := decide (48 ≤ (c.toNat : Int) ∧ (c.toNat : Int) ≤ 57)
def isPt (c : UInt8) : Bool := decide ((97 ≤ (c.toNat : Int) ∧ (c.toNat : Int) ≤ 122) ∨ (48 ≤ (c.toNat : Int) ∧ (c.toNat : Int) ≤ 57) ∨ (c.toNat : Int) = 95)
/-- How many bytes from here on may stand in a word, behind its first one. -/
def ptLen : List UInt8 → Nat
  | [] => 0
  | c :: r => if isPt c then ptLen r + 1 else 0
/-- How many bytes of a word begin here. -/
def wLen : List UInt8 → Nat
  | [] => 0
  | c :: r => if isSm c then ptLen r + 1 else 0
def wordB (l : List UInt8) : Bool := decide (l ≠ [] ∧ wLen l = l.length)

theorem isSm_pt {c : UInt8} (h : isSm c = true) : isPt c = true := by
  simp only [isSm, isPt, decide_eq_true_eq] at h ⊢; exact Or.inl h
theorem ptLen_le : ∀ l : List UInt8, ptLen l ≤ l.length
  | [] => Nat.le_refl _
  | c :: r => by simp only [ptLen]; split <;> simp <;> have := ptLen_le r <;> omega
theorem wLen_le (l : List UInt8) : wLen l ≤ l.length := by
  cases l with
  | nil => exact Nat.le_refl _
  | cons c r => simp only [wLen]; split <;> simp <;> have := ptLen_le r <;> omega
theorem ptLen_cons_pos {c : UInt8} {r : List UInt8} (h : isPt c = true) : ptLen (c :: r) = ptLen r + 1 := by simp [ptLen, h]
theorem ptLen_cons_neg {c : UInt8} {r : List UInt8} (h : isPt c = false) : ptLen (c :: r) = 0 := by simp [ptLen, h]
theorem wLen_cons_pos {c : UInt8} {r : List UInt8} (h : isSm c = true) : wLen (c :: r) = ptLen r + 1 := by simp [wLen, h]
theorem wLen_cons_neg {c : UInt8} {r : List UInt8} (h : isSm c = false) : wLen (c :: r) = 0 := by simp [wLen, h]
theorem isSm_t {c : UInt8} (h1 : 97 ≤ (c.toNat : Int)) (h2 : (c.toNat : Int) ≤ 122) : isSm c = true := by simp only [isSm, decide_eq_true_eq]; exact ⟨h1, h2⟩
theorem isSm_f {c : UInt8} (h : ¬ (97 ≤ (c.toNat : Int) ∧ (c.toNat : Int) ≤ 122)) : isSm c = false := by simp only [isSm, decide_eq_false_iff_not]; exact h
theorem isPt_t {c : UInt8} (h : (97 ≤ (c.toNat : Int) ∧ (c.toNat : Int) ≤ 122) ∨ (48 ≤ (c.toNat : Int) ∧ (c.toNat : Int) ≤ 57) ∨ (c.toNat : Int) = 95) : isPt c = true := by simp only [isPt, decide_eq_true_eq]; exact h
theorem isPt_f {c : UInt8} (h : ¬ ((97 ≤ (c.toNat : Int) ∧ (c.toNat : Int) ≤ 122) ∨ (48 ≤ (c.toNat : Int) ∧ (c.toNat : Int) ≤ 57) ∨ (c.toNat : Int) = 95)) : isPt c = false := by simp only [isPt, decide_eq_false_iff_not]; exact h
end Go.Proofs.YtahcllncjpaijabDoor.L1
namespace Go.Proofs.YtahcllncjpaijabDoor.L1
open Go.RowKit

theorem ret_tuple2 {k : IntKind} {a b : Int} {p q : Bool} (h : a = b) (h2 : p = q) : Ending.returned (.tuple #[.int k a, .bool p]) = .returned (.tuple #[.int k b, .bool q]) := by rw [h, h2]
theorem bytes_nil {s : ByteArray} (h : s.size = 0) : s = ByteArray.empty := by
  have : s.data = #[] := Array.eq_empty_of_size_eq_zero h
  cases s; simp at this; subst this; rfl
theorem bytes_ne {s : ByteArray} (h : 0 < s.size) : ¬ s.toList = [] ∧ s.toList.isEmpty = false := by
  have e : ¬ s.toList = [] := by
    rw [ByteArray.toList_eq]; intro e
    have : s.data.toList.length = 0 := by rw [e]; rfl
    have h2 : s.data.toList.length = s.size := by simp
    omega
  exact ⟨e, by cases h : s.toList with | nil => exact absurd h e | cons => rfl⟩
theorem bytes_cons {s : ByteArray} (h : 0 < s.size) : s.data.toList = s[0] :: s.data.toList.drop 1 := by
  have := drop_cons s 0 h; simpa using this
theorem numBad_zero {s : ByteArray} (h : 0 < s.size) (hz : (s[0].toNat : Int) = 48) (h1 : 1 < s.size) : numBad s.data.toList = true := by
  have hl : (s.data.toList.drop 1).length = s.size - 1 := by simp
  rw [bytes_cons h]
  match e : s.data.toList.drop 1, hl with
  | [], hl => simp at hl; omega
  | d :: r, _ => simp [numBad]; apply UInt8.toNat_inj.1; simp; omega
theorem numBad_not {s : ByteArray} (h : 0 < s.size) (hz : ¬ ((s[0].toNat : Int) = 48 ∧ 1 < s.size)) : numBad s.data.toList = false := by
  have hl : (s.data.toList.drop 1).length = s.size - 1 := by simp
  rw [bytes_cons h]
  match e : s.data.toList.drop 1, hl with
  | [], hl => simp [numBad]
  | d :: r, hl => 
    simp [numBad]; intro hc; apply hz; rw [hc]; refine ⟨rfl, ?_⟩; simp at hl; omega

set_option maxHeartbeats 400000 in
theorem number_any (s : ByteArray) (w : World) (hs : s.size ≤ maxLen) :
    Calls Tryd.prog 76 #[.string s] w fun e w' => e = .returned (.tuple #[.int .i64 (numN s.data.toList), .bool (numB s.data.toList)]) ∧ w' = w := by
  unfold maxLen at hs
  by_cases hz : s.size = 0
  · obtain rfl := bytes_nil hz
    go_enter Tryd.func76, Tryd.ntmps76
    go_wp2
    go_ret2
    exact ⟨rfl, rfl⟩
  have h0 : 0 < s.size := by omega
  obtain ⟨hn1, hn2⟩ := bytes_ne h0
  by_cases hb : (s[0].toNat : Int) = 48 ∧ 1 < s.size
  · obtain ⟨hb1, hb2⟩ := hb
    go_enter Tryd.func76, Tryd.ntmps76
    go_wp2
    go_ret2
    have hbad := numBad_zero h0 hb1 hb2
    exact ⟨ret_tuple2 (by simp [numN, hbad]) (by simp [numB, hbad]), rfl⟩
  have HB : Hid (numBad s.data.toList = false) := numBad_not h0 hb
  go_enter Tryd.func76, Tryd.ntmps76
  go_wp2
  all_goals
    clear hb hn1 hn2
    go_loop [4, 20] (fun n i => ∃ (k : Nat) (v : Int), k ≤ s.size ∧ i = .int .i64 k ∧ n = .int .i64 v ∧ 0 ≤ v ∧ v ≤ 9007199254740992 ∧ Hid (numGo s.data.toList 0 = numGo (s.data.toList.drop k) v)) (fun _ i => s.size - (intOf i).toNat)
    case atStart => exact ⟨0, 0, Nat.zero_le _, rfl, rfl, by omega, by omega, rfl⟩
    case round =>
      obtain ⟨k, v, hk, rfl, rfl, hv0, hv1, HR⟩ := hrel
      by_cases hlt : k < s.size
      · have HD : Hid (s.data.toList.drop k = s[k] :: s.data.toList.drop (k + 1)) := drop_cons s k hlt
        have hc : (s[k].toNat : Int) ≤ 255 := by have := UInt8.toNat_lt s[k]; omega
        by_cases hd : 48 ≤ (s[k].toNat : Int) ∧ (s[k].toNat : Int) ≤ 57
        · obtain ⟨hd1, hd2⟩ := hd
          by_cases hbig : 9007199254740992 < 10 * v + ((s[k].toNat : Int) - 48)
          · go_wp2
            go_ret2
            have e : numGo s.data.toList 0 = none := by rw [HR.out, HD.out]; simp only [numGo]; rw [if_pos ⟨hd1, hd2⟩, if_pos hbig]
            exact ⟨ret_tuple2 (by simp [numN, e]) (by simp [numB, e]), rfl⟩
          · go_wp2
            go_round
            case rel =>
              refine ⟨k + 1, _, by omega, by go_num, rfl, by omega, by omega, ?_⟩
              show numGo _ _ = _
              rw [HR.out, HD.out]; simp only [numGo]; rw [if_pos ⟨hd1, hd2⟩, if_neg hbig]
            case measure => simp [intOf]; omega
        · have e : numGo s.data.toList 0 = none := by rw [HR.out, HD.out]; simp only [numGo]; rw [if_neg hd]
          have HE : Hid (numGo s.data.toList 0 = none) := e
          clear e
          by_cases hd1 : 48 ≤ (s[k].toNat : Int)
          · have hd2 : ¬ (s[k].toNat : Int) ≤ 57 := fun h => hd ⟨hd1, h⟩
            clear hd
            go_wp2
            go_ret2
            exact ⟨ret_tuple2 (by simp [numN, HE.out]) (by simp [numB, HE.out]), rfl⟩
          · clear hd
            go_wp2
            go_ret2
            exact ⟨ret_tuple2 (by simp [numN, HE.out]) (by simp [numB, HE.out]), rfl⟩
      · go_wp2
        go_ret2
        have e : numGo s.data.toList 0 = some v := by rw [HR.out, drop_end s k (by omega)]; rfl
        exact ⟨ret_tuple2 (by simp [numN, HB.out, e]) (by simp [numB, HB.out, e]), rfl⟩
end Go.Proofs.YtahcllncjpaijabDoor.L1
