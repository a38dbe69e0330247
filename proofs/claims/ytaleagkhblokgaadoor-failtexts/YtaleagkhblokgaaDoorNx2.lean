/- Failures: the reference's reader, plain: it is the program's. -/
import Derived.Test.YtaleagkhblokgaaDoorNx0
namespace Go.Proofs.YtaleagkhblokgaaDoor
open Go.RowKit

/-- How far a quoted text's end is, behind its first byte. -/
def rq : List UInt8 → Nat
  | [] => 0
  | [c] => if c = 34 then 0 else if c = 92 then 2 else 1
  | c :: d :: r => if c = 34 then 0 else if c = 92 then 2 + rq r else 1 + rq (d :: r)
theorem rq_plain {c : UInt8} {r : List UInt8} (h1 : c ≠ 92) (h2 : c ≠ 34) : rq (c :: r) = 1 + rq r := by
  cases r with
  | nil => simp [rq, h1, h2]
  | cons d r => rw [rq, if_neg h2, if_neg h1]
theorem rq_esc {d : UInt8} {r : List UInt8} : rq (92 :: d :: r) = 2 + rq r := by rw [rq, if_neg (by decide), if_pos rfl]
theorem rq_end (r : List UInt8) : rq (34 :: r) = 0 := by cases r <;> rw [rq, if_pos rfl]
theorem rq_qB (c : UInt8) (r : List UInt8) : rq (qB c ++ r) = (qB c).length + rq r := by
  by_cases h1 : (c.toNat : Int) = 34
  · rw [qB_34 h1]; simp only [List.cons_append, List.nil_append, rq_esc]; simp
  · by_cases h2 : (c.toNat : Int) = 92
    · rw [qB_92 h2]; simp only [List.cons_append, List.nil_append, rq_esc]; simp
    · by_cases h3 : (c.toNat : Int) = 10
      · rw [qB_nl h3]; simp only [List.cons_append, List.nil_append, rq_esc]; simp
      · by_cases h4 : 32 ≤ (c.toNat : Int) ∧ (c.toNat : Int) ≤ 126
        · rw [qB_plain h1 h2 h4.1 h4.2]
          have e1 : c ≠ 92 := fun e => h2 (by rw [e]; rfl)
          have e2 : c ≠ 34 := fun e => h1 (by rw [e]; rfl)
          simp only [List.cons_append, List.nil_append, rq_plain e1 e2]; simp
        · rw [qB_hex h3 (by omega)]
          have a := hexD_ok (c.toNat / 16)
          have b := hexD_ok (c.toNat % 16)
          simp only [List.cons_append, List.nil_append, rq_esc, rq_plain a.1 a.2, rq_plain b.1 b.2]; simp; omega
theorem rq_quo : ∀ (t X : List UInt8), rq (t.flatMap qB ++ 34 :: X) = (t.flatMap qB).length
  | [], X => by simp only [List.flatMap_nil, List.nil_append, List.length_nil]; exact rq_end X
  | c :: t, X => by rw [List.flatMap_cons, List.append_assoc, rq_qB, rq_quo t X, List.length_append]
/-- The quoted text that stands here, and what follows. -/
def rpt (s : List UInt8) : Option (ByteArray × List UInt8) :=
  if s.head? = some 34 ∧ rq (s.drop 1) < (s.drop 1).length ∧ unqB (s.take (rq (s.drop 1) + 2)) = true then some (⟨(unqT (s.take (rq (s.drop 1) + 2))).toArray⟩, s.drop (rq (s.drop 1) + 2)) else none
theorem rpt_there (t : ByteArray) (X : List UInt8) : rpt (quo t.data.toList ++ X) = some (t, X) := by
  have e : quo t.data.toList ++ X = 34 :: (t.data.toList.flatMap qB ++ 34 :: X) := by unfold quo; simp
  have hq := rq_quo t.data.toList X
  have hl : (quo t.data.toList).length = (t.data.toList.flatMap qB).length + 2 := by unfold quo; simp
  have e1 : (quo t.data.toList ++ X).drop 1 = t.data.toList.flatMap qB ++ 34 :: X := by rw [e]; rfl
  unfold rpt
  rw [e1, hq]
  have e2 : (quo t.data.toList ++ X).take ((t.data.toList.flatMap qB).length + 2) = quo t.data.toList := by rw [← hl]; simp
  have e3 : (quo t.data.toList ++ X).drop ((t.data.toList.flatMap qB).length + 2) = X := by rw [← hl]; simp
  rw [e2, e3, if_pos ⟨by rw [e]; rfl, by simp, (unq_quo _).1⟩, (unq_quo _).2]
theorem rpt_back {s : List UInt8} {t : ByteArray} {r : List UInt8} (h : rpt s = some (t, r)) : s = quo t.data.toList ++ r := by
  unfold rpt at h
  split at h
  · rename_i hc
    injection h with h
    injection h with h1 h2
    subst h1 h2
    have := quo_unq hc.2.2
    show s = quo (unqT _) ++ _
    rw [← this, List.take_append_drop]
  · cases h
abbrev RpT := List UInt8 → Option (List Cr × List UInt8)
/-- A list's parts. -/
def rpL (T : RpT) : Nat → List Cr → Nat → RpT
  | 0, _, _, _ => none
  | m + 1, out, n, s => if out.length ≤ 1024 then (T s).bind fun y => match strip [41] y.2 with
      | some u => some (out ++ y.1 ++ [⟨10, (n + 1 : Nat), ByteArray.empty⟩], u)
      | none => match strip [59, 32] y.2 with
        | some u => rpL T m (out ++ y.1) (n + 1) u
        | none => none
    else none
def rpJ (T : RpT) (s : List UInt8) : Option (List Cr × List UInt8) := (strip [40] s).bind fun u => rpL T 1025 [] 0 u
def rpR (T : RpT) (k : Int) (q : List UInt8) : Option (List Cr × List UInt8) :=
  if k = 1 ∨ k = 2 then (rpt q).map fun z => ([⟨k, 0, z.1⟩], z.2)
  else if k = 3 ∨ k = 4 ∨ k = 5 then some ([⟨k, 0, ⟨(q.take (ptLen q)).toArray⟩⟩], q.drop (ptLen q))
  else if k = 8 then (rpt q).bind fun z => match strip [58, 32] z.2 with
    | none => some ([⟨8, 0, z.1⟩], z.2)
    | some u => (T u).map fun y => (y.1 ++ [⟨8, 1, z.1⟩], y.2)
  else if k = 9 then (strip [58, 32] (q.drop (ptLen q))).bind fun u => (T u).map fun y => (y.1 ++ [⟨9, 1, ⟨(q.take (ptLen q)).toArray⟩⟩], y.2)
  else none
def rpK (T : RpT) (k : Int) (r : List UInt8) : Option (List Cr × List UInt8) :=
  if k = 6 ∨ k = 7 ∨ k = 11 then some ([⟨k, 0, ByteArray.empty⟩], r)
  else if k = 10 then rpJ T r
  else (strip [32] r).bind fun q => rpR T k q
/-- The failure that begins here, and what follows. -/
def rp : Nat → RpT
  | 0, _ => none
  | f + 1, s => rpK (rp f) (kOf (s.take (ptLen s))) (s.drop (ptLen s))

/-- What is read has its text. -/
def Bk (T : RpT) : Prop := ∀ s l r, T s = some (l, r) → ∃ t, flat t = l ∧ s = prF t ++ r
theorem prL_false (b : ByteArray) (ts : List Ft) (h : ts ≠ []) : prL b false ts = b.data.toList ++ prL b true ts := by
  cases ts with
  | nil => exact absurd rfl h
  | cons t r => rw [prL, prL]; simp
theorem rpL_back {T : RpT} (hT : Bk T) : ∀ (m : Nat) (out : List Cr) (n : Nat) (s : List UInt8) (l : List Cr) (r : List UInt8), rpL T m out n s = some (l, r) →
    ∃ ts, ts ≠ [] ∧ l = out ++ flatL ts ++ [⟨10, (n + ts.length : Nat), ByteArray.empty⟩] ∧ s = prL ⟨#[59, 32]⟩ true ts ++ 41 :: r
  | 0, out, n, s, l, r, h => by rw [rpL] at h; cases h
  | m + 1, out, n, s, l, r, h => by
    rw [rpL] at h
    split at h
    · obtain ⟨⟨l1, r1⟩, hy, h⟩ := Option.bind_eq_some_iff.1 h
      obtain ⟨t, ht, hs⟩ := hT _ _ _ hy
      dsimp only at h
      cases h1 : strip [41] r1 with
      | some u =>
        rw [h1] at h
        injection h with h; injection h with h2 h3
        subst h2 h3
        refine ⟨[t], by simp, by rw [flatL_one, ht]; rfl, ?_⟩
        rw [hs, strip_eq h1, prL, prL]; simp
      | none =>
        rw [h1] at h
        dsimp only at h
        cases h2 : strip [59, 32] r1 with
        | none => rw [h2] at h; cases h
        | some u =>
          rw [h2] at h
          obtain ⟨ts, hn, hl, hu⟩ := rpL_back hT m _ _ _ _ _ h
          refine ⟨t :: ts, by simp, ?_, ?_⟩
          · rw [hl, flatL, ht]
            simp only [List.length_cons, List.append_assoc]
            rw [show n + 1 + ts.length = n + (ts.length + 1) by omega]
          · rw [hs, strip_eq h2, prL, prL_false _ _ hn, hu]; simp
    · cases h
theorem rpK_back {T : RpT} (hT : Bk T) {k : Int} (hk : isK k = true) {s : List UInt8} {l : List Cr} {r : List UInt8} (h : rpK T k s = some (l, r)) : ∃ t, flat t = l ∧ (frow k).word.data.toList ++ s = prF t ++ r := by
  by_cases h6 : k = 6 ∨ k = 7 ∨ k = 11
  · unfold rpK at h
    rw [if_pos h6] at h
    injection h with h; injection h with h1 h2
    subst h1 h2
    refine ⟨.nd k ByteArray.empty [], by simp [flat, flatL], ?_⟩
    rw [pr_leaf]
    have e : (frow k).text = 0 := by rcases h6 with rfl | rfl | rfl <;> decide
    rw [e]; simp [txtF]
  · unfold rpK at h
    rw [if_neg h6] at h
    by_cases h10 : k = 10
    · rw [if_pos h10] at h
      subst h10
      unfold rpJ at h
      obtain ⟨u, hu, h⟩ := Option.bind_eq_some_iff.1 h
      obtain ⟨ts, hn, hl, hs⟩ := rpL_back hT _ _ _ _ _ _ h
      refine ⟨.nd 10 ByteArray.empty ts, by rw [hl, flat]; simp, ?_⟩
      rw [pr_node _ _ _ hn, strip_eq hu, hs]
      have e1 : (frow 10).text = 0 := by decide
      have e2 : (frow 10).op.data.toList = [40] := by decide
      have e3 : (frow 10).en.data.toList = [41] := by decide
      have e4 : (frow 10).bt = ⟨#[59, 32]⟩ := by decide
      rw [e1, e2, e3, e4]; simp [txtF]
    · rw [if_neg h10] at h
      obtain ⟨q, hq, g⟩ := Option.bind_eq_some_iff.1 h
      clear h
      rw [strip_eq hq]
      unfold rpR at g
      by_cases h1 : k = 1 ∨ k = 2
      · rw [if_pos h1] at g
        obtain ⟨⟨t, u⟩, hz, h⟩ := Option.map_eq_some_iff.1 g
        injection h with h1 h2
        subst h1 h2
        refine ⟨.nd k t [], by simp [flat, flatL], ?_⟩
        have e : (frow k).text = 1 := by rcases h1 with rfl | rfl <;> decide
        rw [pr_leaf, e, rpt_back hz]; simp [txtF]
      · rw [if_neg h1] at g
        by_cases h3 : k = 3 ∨ k = 4 ∨ k = 5
        · rw [if_pos h3] at g
          injection g with g; injection g with h4 h5
          subst h4 h5
          refine ⟨.nd k ⟨(q.take (ptLen q)).toArray⟩ [], by simp [flat, flatL], ?_⟩
          have e : (frow k).text ≠ 0 ∧ (frow k).text ≠ 1 := by rcases h3 with rfl | rfl | rfl <;> decide
          rw [pr_leaf]; unfold txtF; rw [if_neg e.1, if_neg e.2]; simp
        · rw [if_neg h3] at g
          by_cases h8 : k = 8
          · rw [if_pos h8] at g
            subst h8
            obtain ⟨⟨tx, u⟩, hz, g2⟩ := Option.bind_eq_some_iff.1 g
            clear g
            have e1 : (frow 8).text = 1 := by decide
            have e2 : (frow 8).op.data.toList = [58, 32] := by decide
            have e3 : (frow 8).en.data.toList = [] := by decide
            try dsimp only at g2
            cases hs : strip [58, 32] u with
            | none =>
              rw [hs] at g2
              injection g2 with g2; injection g2 with h4 h5
              subst h4 h5
              refine ⟨.nd 8 tx [], by simp [flat, flatL], ?_⟩
              rw [pr_leaf, e1, rpt_back hz]; simp [txtF]
            | some v =>
              rw [hs] at g2
              obtain ⟨⟨l1, r1⟩, hy, h⟩ := Option.map_eq_some_iff.1 g2
              injection h with h4 h5
              subst h4 h5
              obtain ⟨t, ht, hv⟩ := hT _ _ _ hy
              refine ⟨.nd 8 tx [t], by rw [flat, flatL_one, ht]; rfl, ?_⟩
              rw [pr_node _ _ _ (by simp), e1, e2, e3, rpt_back hz, strip_eq hs, hv, prL, prL]; simp [txtF]
          · rw [if_neg h8] at g
            by_cases h9 : k = 9
            · rw [if_pos h9] at g
              subst h9
              have e1 : (frow 9).text = 3 := by decide
              have e2 : (frow 9).op.data.toList = [58, 32] := by decide
              have e3 : (frow 9).en.data.toList = [] := by decide
              obtain ⟨u, hu, g2⟩ := Option.bind_eq_some_iff.1 g
              clear g
              obtain ⟨⟨l1, r1⟩, hy, h⟩ := Option.map_eq_some_iff.1 g2
              injection h with h4 h5
              subst h4 h5
              obtain ⟨t, ht, hv⟩ := hT _ _ _ hy
              refine ⟨.nd 9 ⟨(q.take (ptLen q)).toArray⟩ [t], by rw [flat, flatL_one, ht]; rfl, ?_⟩
              have hq2 := List.take_append_drop (ptLen q) q
              rw [strip_eq hu, hv] at hq2
              rw [pr_node _ _ _ (by simp), e1, e2, e3, prL, prL]
              conv => lhs; rw [← hq2]
              simp [txtF]
            · rw [if_neg h9] at g; cases g
theorem rp_back : ∀ (f : Nat), Bk (rp f)
  | 0, s, l, r, h => by rw [rp] at h; cases h
  | f + 1, s, l, r, h => by
    rw [rp] at h
    rcases kOf_cases (s.take (ptLen s)) with h0 | ⟨hk, hw⟩
    · rw [h0] at h
      unfold rpK at h
      rw [if_neg (by decide), if_neg (by decide)] at h
      obtain ⟨q, _, h⟩ := Option.bind_eq_some_iff.1 h
      unfold rpR at h
      rw [if_neg (by decide), if_neg (by decide), if_neg (by decide), if_neg (by decide)] at h
      cases h
    · obtain ⟨t, ht, he⟩ := rpK_back (rp_back f) hk h
      rw [hw, List.take_append_drop] at he
      exact ⟨t, ht, he⟩

/-- A list's parts are read as they were. -/
theorem rpL_there {T : RpT} (X : List UInt8) : ∀ (ts : List Ft) (m : Nat) (out : List Cr) (n : Nat), ts ≠ [] → ts.length ≤ m → (∀ t ∈ ts, ∀ Y, okX Y → T (prF t ++ Y) = some (flat t, Y)) → out.length + (flatL ts).length ≤ 1024 →
    rpL T m out n (prL ⟨#[59, 32]⟩ true ts ++ 41 :: X) = some (out ++ flatL ts ++ [⟨10, (n + ts.length : Nat), ByteArray.empty⟩], X)
  | [], _, _, _, h, _, _, _ => absurd rfl h
  | t :: r, 0, _, _, _, h, _, _ => by simp at h
  | t :: r, m + 1, out, n, _, hm, hT, hb => by
    rw [flatL, List.length_append] at hb
    have e : prL ⟨#[59, 32]⟩ true (t :: r) ++ 41 :: X = prF t ++ (prL ⟨#[59, 32]⟩ false r ++ 41 :: X) := by rw [prL]; simp
    have hY : okX (prL ⟨#[59, 32]⟩ false r ++ 41 :: X) := by
      cases r with
      | nil => right; right; rw [prL]; rfl
      | cons u v => right; left; rw [prL]; rfl
    rw [rpL, if_pos (by omega), e, hT t (by simp) _ hY, Option.bind_some]
    cases hr : r with
    | nil =>
      have : strip [41] (prL ⟨#[59, 32]⟩ false [] ++ 41 :: X) = some X := by rw [prL]; exact strip_app [41] X
      dsimp only
      rw [this, flatL_one]; rfl
    | cons u v =>
      rw [← hr]
      have hn : r ≠ [] := by rw [hr]; simp
      have e2 : prL ⟨#[59, 32]⟩ false r ++ 41 :: X = [59, 32] ++ (prL ⟨#[59, 32]⟩ true r ++ 41 :: X) := by rw [prL_false _ _ hn]; simp
      have e3 : strip [41] ([59, 32] ++ (prL ⟨#[59, 32]⟩ true r ++ 41 :: X)) = none := by
        unfold strip Lib.hasPrefix
        rw [if_neg (by simp [List.isPrefixOf])]
      dsimp only
      rw [e2, e3, strip_app]
      dsimp only
      rw [rpL_there X r m _ _ hn (by simpa using hm) (fun t ht => hT t (by simp [ht])) (by simp; omega), flatL]
      simp only [List.length_cons, List.append_assoc]
      rw [show n + 1 + r.length = n + (r.length + 1) by omega]
theorem strip_no {p s : List UInt8} (h : ¬ p.isPrefixOf s = true) : strip p s = none := by unfold strip Lib.hasPrefix; rw [if_neg h]
theorem okX_col {X : List UInt8} (h : okX X) : strip [58, 32] X = none := by
  refine strip_no ?_
  rcases h with rfl | h | h
  · simp
  · cases X with
    | nil => simp
    | cons c r => injection h with h; subst h; simp [List.isPrefixOf]
  · cases X with
    | nil => simp
    | cons c r => injection h with h; subst h; simp [List.isPrefixOf]
theorem txt_none {tx : ByteArray} (h : txT 0 tx = true) : tx = ByteArray.empty := by
  unfold txT at h
  simp at h
  first | exact h | exact bytes_ext (by simpa using h)
theorem bytes_back (t : ByteArray) : (⟨t.data.toList.toArray⟩ : ByteArray) = t := bytes_ext (by simp)
theorem there_q (T : RpT) {k : Int} (h : k = 1 ∨ k = 2) (tx : ByteArray) (X : List UInt8) : rpK T k (txtF 1 tx ++ X) = some ([⟨k, 0, tx⟩], X) := by
  unfold rpK
  have e : txtF 1 tx ++ X = [32] ++ (quo tx.data.toList ++ X) := by simp [txtF]
  rw [if_neg (by omega), if_neg (by omega), e, strip_app, Option.bind_some]
  unfold rpR
  rw [if_pos h, rpt_there]; rfl
theorem there_w (T : RpT) {k : Int} (h : k = 3 ∨ k = 4 ∨ k = 5) {x : Int} (h0 : x ≠ 0) (h1 : x ≠ 1) (tx : ByteArray) (X : List UInt8) (hp : ∀ c ∈ tx.data.toList, isPt c = true) (hX : ptLen X = 0) : rpK T k (txtF x tx ++ X) = some ([⟨k, 0, tx⟩], X) := by
  unfold rpK
  have e : txtF x tx ++ X = [32] ++ (tx.data.toList ++ X) := by unfold txtF; rw [if_neg h0, if_neg h1]; simp
  rw [if_neg (by omega), if_neg (by omega), e, strip_app, Option.bind_some]
  unfold rpR
  rw [if_neg (by omega), if_pos h, ptLen_all _ _ hp hX, List.take_left, List.drop_left, bytes_back]
theorem there_n (T : RpT) {k : Int} (h : k = 6 ∨ k = 7 ∨ k = 11) (X : List UInt8) : rpK T k X = some ([⟨k, 0, ByteArray.empty⟩], X) := by unfold rpK; rw [if_pos h]
theorem there_8 (T : RpT) (tx : ByteArray) (X : List UInt8) (hX : okX X) : rpK T 8 (txtF 1 tx ++ X) = some ([⟨8, 0, tx⟩], X) := by
  unfold rpK
  have e : txtF 1 tx ++ X = [32] ++ (quo tx.data.toList ++ X) := by simp [txtF]
  rw [if_neg (by decide), if_neg (by decide), e, strip_app, Option.bind_some]
  unfold rpR
  rw [if_neg (by decide), if_neg (by decide), if_pos rfl, rpt_there, Option.bind_some]
  dsimp only
  rw [okX_col hX]
theorem there_8s (T : RpT) (tx : ByteArray) (t : Ft) (X : List UInt8) (h : T (prF t ++ X) = some (flat t, X)) : rpK T 8 (txtF 1 tx ++ ([58, 32] ++ (prF t ++ X))) = some (flat t ++ [⟨8, 1, tx⟩], X) := by
  unfold rpK
  have e : txtF 1 tx ++ ([58, 32] ++ (prF t ++ X)) = [32] ++ (quo tx.data.toList ++ ([58, 32] ++ (prF t ++ X))) := by simp [txtF]
  rw [if_neg (by decide), if_neg (by decide), e, strip_app, Option.bind_some]
  unfold rpR
  rw [if_neg (by decide), if_neg (by decide), if_pos rfl, rpt_there, Option.bind_some]
  dsimp only
  rw [strip_app]
  dsimp only
  rw [h]; rfl
theorem there_9 (T : RpT) (tx : ByteArray) (t : Ft) (X : List UInt8) (hp : ∀ c ∈ tx.data.toList, isPt c = true) (h : T (prF t ++ X) = some (flat t, X)) : rpK T 9 (txtF 3 tx ++ ([58, 32] ++ (prF t ++ X))) = some (flat t ++ [⟨9, 1, tx⟩], X) := by
  unfold rpK
  have e : txtF 3 tx ++ ([58, 32] ++ (prF t ++ X)) = [32] ++ (tx.data.toList ++ ([58, 32] ++ (prF t ++ X))) := by simp [txtF]
  rw [if_neg (by decide), if_neg (by decide), e, strip_app, Option.bind_some]
  unfold rpR
  rw [if_neg (by decide), if_neg (by decide), if_neg (by decide), if_pos rfl, ptLen_all _ _ hp rfl, List.drop_left, List.take_left, strip_app, Option.bind_some, h, bytes_back]; rfl
theorem there_10 (T : RpT) (ts : List Ft) (X : List UInt8) (hn : ts ≠ []) (hT : ∀ t ∈ ts, ∀ Y, okX Y → T (prF t ++ Y) = some (flat t, Y)) (hm : ts.length ≤ 1025) (hb : (flatL ts).length ≤ 1024) : rpK T 10 ([40] ++ (prL ⟨#[59, 32]⟩ true ts ++ 41 :: X)) = some (flatL ts ++ [⟨10, (ts.length : Nat), ByteArray.empty⟩], X) := by
  unfold rpK rpJ
  rw [if_neg (by decide), if_pos rfl, strip_app, Option.bind_some, rpL_there X ts 1025 [] 0 hn hm hT (by simpa using hb)]
  simp
theorem flatL_len : ∀ ts : List Ft, ts.length ≤ (flatL ts).length
  | [] => by simp
  | t :: r => by rw [flatL]; have := flat_pos t; have := flatL_len r; simp; omega
theorem nil_of {ps : List Ft} {m : Int} (h : (ps.length : Int) ≤ m) (e : m = 0) : ps = [] := List.eq_nil_of_length_eq_zero (by omega)
theorem one_of {ps : List Ft} (h : ps.length = 1) : ∃ t, ps = [t] := by
  match ps, h with
  | [t], _ => exact ⟨t, rfl⟩
mutual
theorem rp_there : ∀ (t : Ft) (f : Nat) (X : List UInt8), gd t → okX X → (flat t).length ≤ f → (flat t).length ≤ 1024 → rp f (prF t ++ X) = some (flat t, X)
  | .nd k tx ps, 0, X, _, _, hf, _ => by have := flat_pos (.nd k tx ps); omega
  | .nd k tx ps, f + 1, X, hg, hX, hf, hb => by
    rw [gd] at hg
    obtain ⟨hc, hgs⟩ := hg
    unfold crB at hc
    simp only [Bool.and_eq_true, decide_eq_true_eq] at hc
    obtain ⟨⟨hk, hn1, hn2⟩, ht⟩ := hc
    obtain ⟨r1, r2, r3, r4, r5, r6, r7⟩ := row_facts hk
    rw [flat, List.length_append, List.length_singleton] at hf hb
    have ih := rpA_there ps f hgs (by omega) (by omega)
    obtain ⟨Z, hZ⟩ : ∃ Z, Z = (if ps.length = 0 then [] else (frow k).op.data.toList ++ (prL (frow k).bt true ps ++ (frow k).en.data.toList)) ++ X := ⟨_, rfl⟩
    have e : prF (.nd k tx ps) ++ X = (frow k).word.data.toList ++ (txtF (frow k).text tx ++ Z) := by rw [prF, hZ]; simp
    have hpt : ptLen Z = 0 := by
      rw [hZ]
      by_cases h0 : ps.length = 0
      · rw [if_pos h0]; exact okX_pt hX
      · rw [if_neg h0]
        rcases row_parts hk (fun e => h0 (by omega)) with h | h
        · rw [h.1]; rfl
        · rw [h.1]; rfl
    have hpw : ptLen (txtF (frow k).text tx ++ Z) = 0 := by
      unfold txtF
      split
      · simpa using hpt
      · split <;> rfl
    have hlen := ptLen_all _ _ r2 hpw
    rw [e, rp, hlen, List.take_left, List.drop_left, r1, flat]
    clear e hpw hlen r1 r2 r3 r4 r5 r6 r7 hf
    rcases isK_cases hk with rfl | rfl | rfl | rfl | rfl | rfl | rfl | rfl | rfl | rfl | rfl
    · obtain rfl := nil_of hn2 (by decide)
      have e1 : (frow 1).text = 1 := by decide
      rw [e1, hZ, if_pos List.length_nil, List.nil_append, there_q _ (by decide)]; simp [flatL]
    · obtain rfl := nil_of hn2 (by decide)
      have e1 : (frow 2).text = 1 := by decide
      rw [e1, hZ, if_pos List.length_nil, List.nil_append, there_q _ (by decide)]; simp [flatL]
    · obtain rfl := nil_of hn2 (by decide)
      have e1 : (frow 3).text = 2 := by decide
      rw [e1] at ht
      rw [e1, hZ, if_pos List.length_nil, List.nil_append, there_w _ (by decide) (by decide) (by decide) tx X (inB_pt (by simpa [txT] using ht)) (okX_pt hX)]; simp [flatL]
    · obtain rfl := nil_of hn2 (by decide)
      have e1 : (frow 4).text = 3 := by decide
      rw [e1] at ht
      rw [e1, hZ, if_pos List.length_nil, List.nil_append, there_w _ (by decide) (by decide) (by decide) tx X (nameB_pt (by simpa [txT] using ht)) (okX_pt hX)]; simp [flatL]
    · obtain rfl := nil_of hn2 (by decide)
      have e1 : (frow 5).text = 3 := by decide
      rw [e1] at ht
      rw [e1, hZ, if_pos List.length_nil, List.nil_append, there_w _ (by decide) (by decide) (by decide) tx X (nameB_pt (by simpa [txT] using ht)) (okX_pt hX)]; simp [flatL]
    · obtain rfl := nil_of hn2 (by decide)
      have e1 : (frow 6).text = 0 := by decide
      rw [e1] at ht
      obtain rfl := txt_none ht
      rw [e1, hZ, if_pos List.length_nil, List.nil_append, show txtF 0 ByteArray.empty = [] from rfl, List.nil_append, there_n _ (by decide)]; simp [flatL]
    · obtain rfl := nil_of hn2 (by decide)
      have e1 : (frow 7).text = 0 := by decide
      rw [e1] at ht
      obtain rfl := txt_none ht
      rw [e1, hZ, if_pos List.length_nil, List.nil_append, show txtF 0 ByteArray.empty = [] from rfl, List.nil_append, there_n _ (by decide)]; simp [flatL]
    · have e1 : (frow 8).text = 1 := by decide
      have e2 : (frow 8).op.data.toList = [58, 32] := by decide
      have e3 : (frow 8).en.data.toList = [] := by decide
      have e4 : (frow 8).most = 1 := by decide
      by_cases h0 : ps.length = 0
      · obtain rfl := List.eq_nil_of_length_eq_zero h0
        rw [e1, hZ, if_pos List.length_nil, List.nil_append, there_8 _ _ _ hX]; simp [flatL]
      · obtain ⟨t, rfl⟩ := one_of (ps := ps) (by omega)
        have e5 : Z = [58, 32] ++ (prF t ++ X) := by rw [hZ, if_neg h0, e2, e3, prL, prL]; simp
        rw [e1, e5, there_8s _ _ t X (ih t (by simp) X hX), flatL_one]; rfl
    · have e1 : (frow 9).text = 3 := by decide
      have e2 : (frow 9).op.data.toList = [58, 32] := by decide
      have e3 : (frow 9).en.data.toList = [] := by decide
      have e4 : (frow 9).most = 1 := by decide
      have e6 : (frow 9).least = 1 := by decide
      obtain ⟨t, rfl⟩ := one_of (ps := ps) (by omega)
      have e5 : Z = [58, 32] ++ (prF t ++ X) := by rw [hZ, if_neg (by simp), e2, e3, prL, prL]; simp
      rw [e1] at ht
      rw [e1, e5, there_9 _ _ t X (nameB_pt (by simpa [txT] using ht)) (ih t (by simp) X hX), flatL_one]; rfl
    · have e1 : (frow 10).text = 0 := by decide
      have e2 : (frow 10).op.data.toList = [40] := by decide
      have e3 : (frow 10).en.data.toList = [41] := by decide
      have e4 : (frow 10).bt = ⟨#[59, 32]⟩ := by decide
      have e6 : (frow 10).least = 1 := by decide
      have hn : ps ≠ [] := fun h => by subst h; rw [e6] at hn1; simp at hn1
      have hl := flatL_len ps
      rw [e1] at ht
      obtain rfl := txt_none ht
      have e5 : txtF 0 ByteArray.empty ++ Z = [40] ++ (prL ⟨#[59, 32]⟩ true ps ++ 41 :: X) := by
        rw [hZ, if_neg (fun h => hn (List.eq_nil_of_length_eq_zero h)), e2, e3, e4]; simp [txtF]
      rw [e1, e5, there_10 _ ps X hn ih (by omega) (by omega)]
    · obtain rfl := nil_of hn2 (by decide)
      have e1 : (frow 11).text = 0 := by decide
      rw [e1] at ht
      obtain rfl := txt_none ht
      rw [e1, hZ, if_pos List.length_nil, List.nil_append, show txtF 0 ByteArray.empty = [] from rfl, List.nil_append, there_n _ (by decide)]; simp [flatL]
theorem rpA_there : ∀ (ps : List Ft) (f : Nat), gdL ps → (flatL ps).length ≤ f → (flatL ps).length ≤ 1024 → ∀ t ∈ ps, ∀ Y, okX Y → rp f (prF t ++ Y) = some (flat t, Y)
  | [], _, _, _, _, t, ht => by cases ht
  | u :: r, f, hg, hf, hb, t, ht => by
    rw [gdL] at hg
    rw [flatL, List.length_append] at hf hb
    intro Y hY
    rcases List.mem_cons.1 ht with h | h
    · rw [h]; exact rp_there u f Y hg.1 hY (by omega) (by omega)
    · exact rpA_there r f hg.2 (by omega) (by omega) t h Y hY
end
end Go.Proofs.YtaleagkhblokgaaDoor
