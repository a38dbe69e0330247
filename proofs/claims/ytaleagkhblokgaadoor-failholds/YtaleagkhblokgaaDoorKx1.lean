/- Failures read of a text, plain. -/
import Derived.Test.YtaleagkhblokgaaDoorUnq
import Derived.Test.YtaleagkhblokgaaDoorQback
import Derived.Test.YtaleagkhblokgaaDoorShelf
namespace Go.Proofs.YtaleagkhblokgaaDoor
open Go.RowKit

/-- How many bytes of a quoted text stand here, behind its first one. -/
def qGo : List UInt8 → Nat
  | [] => 0
  | [c] => if c = 34 then 1 else 1
  | c :: d :: r => if c = 92 then 2 + qGo r else if c = 34 then 1 else 1 + qGo (d :: r)
def qSize (s : List UInt8) : Nat := match s with | [] => 0 | _ :: r => 1 + qGo r
theorem qGo_le : ∀ (s : List UInt8), qGo s ≤ s.length
  | [] => by simp [qGo]
  | [c] => by simp [qGo]
  | c :: d :: r => by
    have h1 := qGo_le r
    have h2 := qGo_le (d :: r)
    rw [qGo]
    split
    · simp; omega
    · split
      · simp
      · simp at h2 ⊢; omega
theorem qSize_le (s : List UInt8) : qSize s ≤ s.length := by
  cases s with
  | nil => simp [qSize]
  | cons c r => have := qGo_le r; simp [qSize]; omega
/-- The kind that is told by a word; 0: none is. -/
def kOf (w : List UInt8) : Int := ((List.range 11).find? fun (i : Nat) => (frow ((i : Int) + 1)).word.data.toList == w).elim 0 fun i => (i : Int) + 1
/-- What follows a text, if that stands ahead. -/
def strip (p s : List UInt8) : Option (List UInt8) := if Lib.hasPrefix s p = true then some (s.drop p.length) else none
/-- A crack's text. -/
def rdX (k : Int) (s : List UInt8) : Option (ByteArray × List UInt8) :=
  (if (frow k).text = 0 then some (ByteArray.empty, s)
   else (strip [32] s).bind fun r => if (frow k).text = 1 then (if unqB (r.take (qSize r)) = true then some (⟨(unqT (r.take (qSize r))).toArray⟩, r.drop (qSize r)) else none) else some (⟨(r.take (ptLen r)).toArray⟩, r.drop (ptLen r))).bind fun q =>
  if txT (frow k).text q.1 = true then some q else none
abbrev RdT := List UInt8 → Nat → Option (Ft × List UInt8 × Nat)
/-- Parts from the second one on. -/
def rdL (T : RdT) (bt : List UInt8) : Nat → List UInt8 → Nat → Option (List Ft × List UInt8 × Nat)
  | 0, s, b => some ([], s, b)
  | n + 1, s, b => match strip bt s with
    | none => some ([], s, b)
    | some r => (T r b).bind fun x => (rdL T bt n x.2.1 x.2.2).map fun y => (x.1 :: y.1, y.2)
/-- A crack's parts. -/
def rdP (T : RdT) (k : Int) (s : List UInt8) (b : Nat) : Option (List Ft × List UInt8 × Nat) :=
  if (frow k).most = 0 ∨ ((frow k).least = 0 ∧ Lib.hasPrefix s (frow k).op.data.toList = false) then some ([], s, b)
  else (strip (frow k).op.data.toList s).bind fun r => (T r b).bind fun x => (rdL T (frow k).bt.data.toList ((frow k).most.toNat - 1) x.2.1 x.2.2).bind fun y =>
    (strip (frow k).en.data.toList y.2.1).map fun z => (x.1 :: y.1, z, y.2.2)
/-- A failure from the front on. -/
def rdT : Nat → RdT
  | 0, _, _ => none
  | f + 1, s, b => if kOf (s.take (ptLen s)) = 0 ∨ 1024 < b + 1 then none
    else (rdX (kOf (s.take (ptLen s))) (s.drop (ptLen s))).bind fun q => (rdP (rdT f) (kOf (s.take (ptLen s))) q.2 (b + 1)).map fun y => (.nd (kOf (s.take (ptLen s))) q.1 y.1, y.2)
theorem rdL_len (T : RdT) (bt : List UInt8) (hT : ∀ s b t r b', T s b = some (t, r, b') → b' = b + (flat t).length ∧ b' ≤ 1024) : ∀ (n : Nat) (s : List UInt8) (b : Nat) (ts : List Ft) (r : List UInt8) (b' : Nat), b ≤ 1024 → rdL T bt n s b = some (ts, r, b') → b' = b + (flatL ts).length ∧ b' ≤ 1024
  | 0, s, b, ts, r, b', hb, h => by
    rw [rdL] at h
    injection h with h
    injection h with h1 h2
    injection h2 with h2 h3
    subst h1 h3
    simp [flatL]; exact hb
  | n + 1, s, b, ts, r, b', hb, h => by
    rw [rdL] at h
    split at h
    · injection h with h
      injection h with h1 h2
      injection h2 with h2 h3
      subst h1 h3
      simp [flatL]; exact hb
    · obtain ⟨x, hx, h⟩ := Option.bind_eq_some_iff.1 h
      obtain ⟨y, hy, h⟩ := Option.map_eq_some_iff.1 h
      obtain ⟨t, r1, b1⟩ := x
      obtain ⟨e1, e2⟩ := hT _ _ _ _ _ hx
      obtain ⟨us, r2, b2⟩ := y
      obtain ⟨e3, e4⟩ := rdL_len T bt hT n _ _ _ _ _ e2 hy
      injection h with h1 h2
      injection h2 with h2 h3
      subst h1 h3
      dsimp only at *
      rw [flatL, List.length_append]
      omega
theorem rdP_len (T : RdT) (k : Int) (hT : ∀ s b t r b', T s b = some (t, r, b') → b' = b + (flat t).length ∧ b' ≤ 1024) (s : List UInt8) (b : Nat) (ts : List Ft) (r : List UInt8) (b' : Nat) (hb : b ≤ 1024) (h : rdP T k s b = some (ts, r, b')) : b' = b + (flatL ts).length ∧ b' ≤ 1024 := by
  unfold rdP at h
  split at h
  · injection h with h
    injection h with h1 h2
    injection h2 with h2 h3
    subst h1 h3
    simp [flatL]; exact hb
  · obtain ⟨q, hq, h⟩ := Option.bind_eq_some_iff.1 h
    obtain ⟨x, hx, h⟩ := Option.bind_eq_some_iff.1 h
    obtain ⟨y, hy, h⟩ := Option.bind_eq_some_iff.1 h
    obtain ⟨z, hz, h⟩ := Option.map_eq_some_iff.1 h
    obtain ⟨t, r1, b1⟩ := x
    obtain ⟨us, r2, b2⟩ := y
    obtain ⟨e1, e2⟩ := hT _ _ _ _ _ hx
    obtain ⟨e3, e4⟩ := rdL_len T _ hT _ _ _ _ _ _ e2 hy
    injection h with h1 h2
    injection h2 with h2 h3
    subst h1 h3
    dsimp only at *
    rw [flatL, List.length_append]
    omega
theorem rdT_len : ∀ (f : Nat) (s : List UInt8) (b : Nat) (t : Ft) (r : List UInt8) (b' : Nat), rdT f s b = some (t, r, b') → b' = b + (flat t).length ∧ b' ≤ 1024
  | 0, s, b, t, r, b', h => by rw [rdT] at h; cases h
  | f + 1, s, b, t, r, b', h => by
    rw [rdT] at h
    split at h
    · cases h
    · rename_i hc
      obtain ⟨q, hq, h⟩ := Option.bind_eq_some_iff.1 h
      obtain ⟨y, hy, h⟩ := Option.map_eq_some_iff.1 h
      obtain ⟨us, r2, b2⟩ := y
      obtain ⟨e1, e2⟩ := rdP_len (rdT f) _ (rdT_len f) _ _ _ _ _ (by omega) hy
      injection h with h1 h2
      injection h2 with h2 h3
      subst h1 h3
      rw [flat, List.length_append]
      simp
      omega
/-- Parse's answer. -/
def psV (s : List UInt8) : Option Ft := match rdT 1025 s 0 with | some (t, [], _) => some t | _ => none
def psE (s : List UInt8) : Int := if 65536 < s.length then 3 else match psV s with | some _ => 0 | none => 2
def psL (s : List UInt8) : List Cr := if 65536 < s.length then [] else match psV s with | some t => flat t | none => []
end Go.Proofs.YtaleagkhblokgaaDoor
