/- Failures: the reader's small steps, walked. -/
import Derived.Test.YtaleagkhblokgaaDoorUnq
import Derived.Test.YtaleagkhblokgaaDoorQback
import Derived.Test.YtaleagkhblokgaaDoorShelf
namespace Go.Proofs.YtaleagkhblokgaaDoor
open Go.RowKit

/-- How many bytes of a quoted text stand here, behind its first one. -/
def qGo : List UInt8 → Nat
  | [] => 0
  | [c] => if c = 34 then 1 else 1
  | c :: d :: r => if c = 92 then 2 + qGo r else if c = 34 then 1 else 1 + qGo (d :: r)
def qSize (s : List UInt8) : Nat := match s with | [] => 0 | _ :: r => 1 + qGo r
theorem qGo_le : ∀ (s : List UInt8), qGo s ≤ s.length
  | [] => by simp [qGo]
  | [c] => by simp [qGo]
  | c :: d :: r => by
    have h1 := qGo_le r
    have h2 := qGo_le (d :: r)
    rw [qGo]
    split
    · simp; omega
    · split
      · simp
      · simp at h2 ⊢; omega
theorem qSize_le (s : List UInt8) : qSize s ≤ s.length := by
  cases s with
  | nil => simp [qSize]
  | cons c r => have := qGo_le r; simp [qSize]; omega
/-- The kind that is told by a word; 0: none is. -/
def kOf (w : List UInt8) : Int := ((List.range 11).find? fun (i : Nat) => (frow ((i : Int) + 1)).word.data.toList == w).elim 0 fun i => (i : Int) + 1
/-- What follows a text, if that stands ahead. -/
def strip (p s : List UInt8) : Option (List UInt8) := if Lib.hasPrefix s p = true then some (s.drop p.length) else none
/-- A crack's text. -/
def rdX (k : Int) (s : List UInt8) : Option (ByteArray × List UInt8) :=
  (if (frow k).text = 0 then some (ByteArray.empty, s)
   else (strip [32] s).bind fun r => if (frow k).text = 1 then (if unqB (r.take (qSize r)) = true then some (⟨(unqT (r.take (qSize r))).toArray⟩, r.drop (qSize r)) else none) else some (⟨(r.take (ptLen r)).toArray⟩, r.drop (ptLen r))).bind fun q =>
  if txT (frow k).text q.1 = true then some q else none
abbrev RdT := List UInt8 → Nat → Option (Ft × List UInt8 × Nat)
/-- Parts from the second one on. -/
def rdL (T : RdT) (bt : List UInt8) : Nat → List UInt8 → Nat → Option (List Ft × List UInt8 × Nat)
  | 0, s, b => some ([], s, b)
  | n + 1, s, b => match strip bt s with
    | none => some ([], s, b)
    | some r => (T r b).bind fun x => (rdL T bt n x.2.1 x.2.2).map fun y => (x.1 :: y.1, y.2)
/-- A crack's parts. -/
def rdP (T : RdT) (k : Int) (s : List UInt8) (b : Nat) : Option (List Ft × List UInt8 × Nat) :=
  if (frow k).most = 0 ∨ ((frow k).least = 0 ∧ Lib.hasPrefix s (frow k).op.data.toList = false) then some ([], s, b)
  else (strip (frow k).op.data.toList s).bind fun r => (T r b).bind fun x => (rdL T (frow k).bt.data.toList ((frow k).most.toNat - 1) x.2.1 x.2.2).bind fun y =>
    (strip (frow k).en.data.toList y.2.1).map fun z => (x.1 :: y.1, z, y.2.2)
/-- A failure from the front on. -/
def rdT : Nat → RdT
  | 0, _, _ => none
  | f + 1, s, b => if kOf (s.take (ptLen s)) = 0 ∨ 1024 < b + 1 then none
    else (rdX (kOf (s.take (ptLen s))) (s.drop (ptLen s))).bind fun q => (rdP (rdT f) (kOf (s.take (ptLen s))) q.2 (b + 1)).map fun y => (.nd (kOf (s.take (ptLen s))) q.1 y.1, y.2)
theorem rdL_len (T : RdT) (bt : List UInt8) (hT : ∀ s b t r b', T s b = some (t, r, b') → b' = b + (flat t).length ∧ b' ≤ 1024) : ∀ (n : Nat) (s : List UInt8) (b : Nat) (ts : List Ft) (r : List UInt8) (b' : Nat), b ≤ 1024 → rdL T bt n s b = some (ts, r, b') → b' = b + (flatL ts).length ∧ b' ≤ 1024
  | 0, s, b, ts, r, b', hb, h => by
    rw [rdL] at h
    injection h with h
    injection h with h1 h2
    injection h2 with h2 h3
    subst h1 h3
    simp [flatL]; exact hb
  | n + 1, s, b, ts, r, b', hb, h => by
    rw [rdL] at h
    split at h
    · injection h with h
      injection h with h1 h2
      injection h2 with h2 h3
      subst h1 h3
      simp [flatL]; exact hb
    · obtain ⟨x, hx, h⟩ := Option.bind_eq_some_iff.1 h
      obtain ⟨y, hy, h⟩ := Option.map_eq_some_iff.1 h
      obtain ⟨t, r1, b1⟩ := x
      obtain ⟨e1, e2⟩ := hT _ _ _ _ _ hx
      obtain ⟨us, r2, b2⟩ := y
      obtain ⟨e3, e4⟩ := rdL_len T bt hT n _ _ _ _ _ e2 hy
      injection h with h1 h2
      injection h2 with h2 h3
      subst h1 h3
      dsimp only at *
      rw [flatL, List.length_append]
      omega
theorem rdP_len (T : RdT) (k : Int) (hT : ∀ s b t r b', T s b = some (t, r, b') → b' = b + (flat t).length ∧ b' ≤ 1024) (s : List UInt8) (b : Nat) (ts : List Ft) (r : List UInt8) (b' : Nat) (hb : b ≤ 1024) (h : rdP T k s b = some (ts, r, b')) : b' = b + (flatL ts).length ∧ b' ≤ 1024 := by
  unfold rdP at h
  split at h
  · injection h with h
    injection h with h1 h2
    injection h2 with h2 h3
    subst h1 h3
    simp [flatL]; exact hb
  · obtain ⟨q, hq, h⟩ := Option.bind_eq_some_iff.1 h
    obtain ⟨x, hx, h⟩ := Option.bind_eq_some_iff.1 h
    obtain ⟨y, hy, h⟩ := Option.bind_eq_some_iff.1 h
    obtain ⟨z, hz, h⟩ := Option.map_eq_some_iff.1 h
    obtain ⟨t, r1, b1⟩ := x
    obtain ⟨us, r2, b2⟩ := y
    obtain ⟨e1, e2⟩ := hT _ _ _ _ _ hx
    obtain ⟨e3, e4⟩ := rdL_len T _ hT _ _ _ _ _ _ e2 hy
    injection h with h1 h2
    injection h2 with h2 h3
    subst h1 h3
    dsimp only at *
    rw [flatL, List.length_append]
    omega
theorem rdT_len : ∀ (f : Nat) (s : List UInt8) (b : Nat) (t : Ft) (r : List UInt8) (b' : Nat), rdT f s b = some (t, r, b') → b' = b + (flat t).length ∧ b' ≤ 1024
  | 0, s, b, t, r, b', h => by rw [rdT] at h; cases h
  | f + 1, s, b, t, r, b', h => by
    rw [rdT] at h
    split at h
    · cases h
    · rename_i hc
      obtain ⟨q, hq, h⟩ := Option.bind_eq_some_iff.1 h
      obtain ⟨y, hy, h⟩ := Option.map_eq_some_iff.1 h
      obtain ⟨us, r2, b2⟩ := y
      obtain ⟨e1, e2⟩ := rdP_len (rdT f) _ (rdT_len f) _ _ _ _ _ (by omega) hy
      injection h with h1 h2
      injection h2 with h2 h3
      subst h1 h3
      rw [flat, List.length_append]
      simp
      omega
/-- Parse's answer. -/
def psV (s : List UInt8) : Option Ft := match rdT 1025 s 0 with | some (t, [], _) => some t | _ => none
def psE (s : List UInt8) : Int := if 65536 < s.length then 3 else match psV s with | some _ => 0 | none => 2
def psL (s : List UInt8) : List Cr := if 65536 < s.length then [] else match psV s with | some t => flat t | none => []
end Go.Proofs.YtaleagkhblokgaaDoor
namespace Go.Proofs.YtaleagkhblokgaaDoor
open Go.RowKit

/-- All but the reader's own block, and rows of cracks from it on, stay. -/
structure KR (rb : Nat) (a b : World) : Prop where
  os : b.os = a.os
  tape : b.tape = a.tape
  output : b.output = a.output
  size : a.heap.size ≤ b.heap.size
  block : ∀ j, j < a.heap.size → j ≠ rb → (j < rb ∨ ∀ arr, a.heap[j]? ≠ some (.cells arr 55)) → b.heap[j]? = a.heap[j]?
theorem KR.refl (rb : Nat) (a : World) : KR rb a a := ⟨rfl, rfl, rfl, Nat.le_refl _, fun _ _ _ _ => rfl⟩
theorem KR.trans {rb : Nat} {a b c : World} (h : KR rb a b) (k : KR rb b c) : KR rb a c :=
  ⟨k.os.trans h.os, k.tape.trans h.tape, k.output.trans h.output, Nat.le_trans h.size k.size, fun j hj hp hc => by
    have e := h.block j hj hp hc
    exact (k.block j (Nat.lt_of_lt_of_le hj h.size) hp (by rw [e]; exact hc)).trans e⟩
theorem KR.below {rb : Nat} {a b : World} (h : KR rb a b) (hp : rb < a.heap.size) : Below rb a b :=
  ⟨h.os, h.tape, h.output, h.size, fun j hj => h.block j (by omega) (by omega) (Or.inl hj)⟩
theorem KR.of_below {rb : Nat} {a b : World} (h : Below a.heap.size a b) : KR rb a b :=
  ⟨h.os, h.tape, h.output, h.size, fun j hj _ _ => h.block j hj⟩
theorem KR.set {rb : Nat} {a b : World} (h : KR rb a b) (o : Nat) (v : Value) : KR rb a (b.setCell ⟨rb, o, none⟩ v) :=
  ⟨h.os, h.tape, h.output, by simpa [World.setCell] using h.size, fun j hj hp hc => (Below.heap_setCell _ _ _ _ hp).trans (h.block j hj hp hc)⟩
theorem KR.keep {rb : Nat} {a b : World} (h : KR rb a b) {X : Nat} {arr : Array Value} {t : TypeId} (hX : a.heap[X]? = some (.cells arr t)) (hp : X ≠ rb) (ht : t ≠ 55) : b.heap[X]? = some (.cells arr t) := by
  have hl : X < a.heap.size := (Array.getElem?_eq_some_iff.1 hX).1
  rw [h.block X hl hp (Or.inr (fun arr' e => by rw [hX] at e; injection e with e; injection e with _ e _; exact ht e))]
  exact hX
/-- The reader: what is left, how many have begun, the cracks so far. -/
structure RR (rb : Nat) (wk : World) (R : ByteArray) (b : Nat) (cv : Value) (cs : List Cr) : Prop where
  hp : wk.heap[rb]? = some (.cells #[.string R, .int .i64 b, cv] 77)
  ow : OwnC wk (rb + 1) cv cs
theorem RR.lt {rb : Nat} {wk : World} {R : ByteArray} {b : Nat} {cv : Value} {cs : List Cr} (h : RR rb wk R b cv cs) : rb < wk.heap.size := (Array.getElem?_eq_some_iff.1 h.hp).1
theorem RR.c0 {rb : Nat} {wk : World} {R : ByteArray} {b : Nat} {cv : Value} {cs : List Cr} (h : RR rb wk R b cv cs) : wk.cell? ⟨rb, 0, none⟩ = some (.string R) := cell_of_row _ _ _ _ _ _ h.hp
theorem RR.c1 {rb : Nat} {wk : World} {R : ByteArray} {b : Nat} {cv : Value} {cs : List Cr} (h : RR rb wk R b cv cs) : wk.cell? ⟨rb, 1, none⟩ = some (.int .i64 b) := cell_of_row _ _ _ _ _ _ h.hp
theorem RR.c2 {rb : Nat} {wk : World} {R : ByteArray} {b : Nat} {cv : Value} {cs : List Cr} (h : RR rb wk R b cv cs) : wk.cell? ⟨rb, 2, none⟩ = some cv := cell_of_row _ _ _ _ _ _ h.hp
theorem RR.fz {rb : Nat} {wk : World} {R : ByteArray} {b : Nat} {cv : Value} {cs : List Cr} (h : RR rb wk R b cv cs) (o : Nat) : wk.frozen? ⟨rb, o, none⟩ = false := by simp [World.frozen?, h.hp]
theorem OwnC.far' {w w' : World} {base : Nat} {v : Value} {l : List Cr} (h : OwnC w base v l) (k : ∀ g, v.ownBlock = some g → w'.heap[g]? = w.heap[g]?) : OwnC w' base v l := by
  obtain ⟨h1, h2⟩ := h
  refine ⟨h1, ?_⟩
  rcases h2 with h2 | ⟨g, cap, cur, e1, e2, e3, e4⟩
  · exact Or.inl h2
  · exact Or.inr ⟨g, cap, cur, e1, e2, by rw [k g (by rw [e1]; rfl)]; exact e3, e4⟩
theorem RR.below {rb : Nat} {wk w' : World} {R : ByteArray} {b : Nat} {cv : Value} {cs : List Cr} (h : RR rb wk R b cv cs) (B : Below wk.heap.size wk w') : RR rb w' R b cv cs :=
  ⟨(B.block rb h.lt).trans h.hp, h.ow.far' (fun g hg => B.block g (World.ownsRow.lt h.ow g hg).2)⟩
theorem RR.far {rb : Nat} {wk : World} {R : ByteArray} {b : Nat} {cv : Value} {cs : List Cr} (h : RR rb wk R b cv cs) (o : Nat) (v : Value) : OwnC (wk.setCell ⟨rb, o, none⟩ v) (rb + 1) cv cs :=
  h.ow.far' (fun g hg => Below.heap_setCell _ _ _ _ (by have := (World.ownsRow.lt h.ow g hg).1; show g ≠ rb; omega))
theorem RR.put0 {rb : Nat} {wk : World} {R : ByteArray} {b : Nat} {cv : Value} {cs : List Cr} (h : RR rb wk R b cv cs) (R' : ByteArray) : RR rb (wk.setCell ⟨rb, 0, none⟩ (.string R')) R' b cv cs :=
  ⟨by have := heap_setCell_same wk rb 0 _ _ (.string R') h.hp; simpa using this, h.far _ _⟩
theorem RR.put1 {rb : Nat} {wk : World} {R : ByteArray} {b : Nat} {cv : Value} {cs : List Cr} (h : RR rb wk R b cv cs) (b' : Nat) : RR rb (wk.setCell ⟨rb, 1, none⟩ (.int .i64 b')) R b' cv cs :=
  ⟨by have := heap_setCell_same wk rb 1 _ _ (.int .i64 b') h.hp; simpa using this, h.far _ _⟩
/-- What giving up looks like. -/
def GP : List PanicEntry := [{ v := .iface 26 (.int .i64 2), recovered := false }]
theorem giveUp_any (rb : Nat) (w : World) :
    Calls Tryd.prog 50 #[.pointer (some ⟨rb, 0, none⟩)] w fun e w' => e = .panicked GP ∧ w' = w := by
  go_enter Tryd.func50, Tryd.ntmps50
  go_wp2
  exact ⟨rfl, rfl, rfl⟩
set_option maxHeartbeats 1000000 in
theorem isWordByte_any (c : UInt8) (w : World) : Calls Tryd.prog 77 #[.int .u8 (c.toNat : Int)] w fun e w' => e = .returned (.bool (isPt c)) ∧ w' = w := by
  have HP : Hid (isPt c = decide ((97 ≤ (c.toNat : Int) ∧ (c.toNat : Int) ≤ 122) ∨ (48 ≤ (c.toNat : Int) ∧ (c.toNat : Int) ≤ 57) ∨ (c.toNat : Int) = 95)) := rfl
  generalize (c.toNat : Int) = x at *
  go_enter Tryd.func77, Tryd.ntmps77
  go_wp2
  all_goals go_ret
  all_goals exact ⟨ret_bool (by rw [HP.out, Bool.eq_iff_iff]; simp; omega), rfl⟩
theorem cloneS_any (s : ByteArray) (w : World) (hs : s.size ≤ 281474976710656) :
    Calls Tryd.prog 89 #[.string s] w fun e w' => e = .returned (.string s) ∧ Below w.heap.size w w' := by
  have CL := Tryd.stringslite_Clone s w hs
  go_enter Tryd.func89, Tryd.ntmps89
  go_wp2_with fail
  refine CL.mono ?_
  rintro e w1 ⟨rfl, hb1⟩
  have B1 : Hid (Below w.heap.size w w1) := hb1
  clear hb1 CL
  go_wp2_with fail
  go_ret
  exact ⟨rfl, B1.out⟩
set_option maxHeartbeats 2000000 in
theorem cut_any (rb : Nat) (w : World) (R : ByteArray) (b : Nat) (cv : Value) (cs : List Cr) (n : Nat) (h : RR rb w R b cv cs) (hn : n ≤ R.size) (hR : R.size ≤ 100000000) :
    Calls Tryd.prog 78 #[.pointer (some ⟨rb, 0, none⟩), .int .i64 n] w fun e w' => e = .returned (.string (R.extract 0 n)) ∧ RR rb w' (R.extract n R.size) b cv cs ∧ KR rb w w' := by
  have CL : Hid (∀ w', Calls Tryd.prog 89 #[.string (R.extract 0 n)] w' fun e w'' => e = .returned (.string (R.extract 0 n)) ∧ Below w'.heap.size w' w'') := fun w' => cloneS_any _ w' (by simp; omega)
  have c0 := h.c0
  have HR : Hid (RR rb w R b cv cs) := h
  clear h
  go_enter Tryd.func78, Tryd.ntmps78
  go_wp2_with fail
  refine (CL.out _).mono ?_
  rintro e w1 ⟨rfl, hb1⟩
  have HR1 := HR.out.below hb1
  have d0 := HR1.c0
  have f0 := HR1.fz 0
  have K1 : Hid (KR rb w w1) := KR.of_below hb1
  have HR1' : Hid (RR rb w1 R b cv cs) := HR1
  clear hb1 HR1
  go_wp2_with fail
  go_ret
  exact ⟨rfl, HR1'.out.put0 _, K1.out.set _ _⟩
/-- How far a word goes. -/
theorem ptLen_step {l : List UInt8} {k : Nat} (hk : k < l.length) : ptLen (l.drop k) = if isPt l[k] = true then ptLen (l.drop (k + 1)) + 1 else 0 := by
  rw [List.drop_eq_getElem_cons hk, ptLen]
set_option maxHeartbeats 4000000 in
theorem takeWord_any (rb : Nat) (w : World) (R : ByteArray) (b : Nat) (cv : Value) (cs : List Cr) (h : RR rb w R b cv cs) (hR : R.size ≤ 100000000) :
    Calls Tryd.prog 63 #[.pointer (some ⟨rb, 0, none⟩)] w fun e w' => e = .returned (.string (R.extract 0 (ptLen R.data.toList))) ∧ RR rb w' (R.extract (ptLen R.data.toList) R.size) b cv cs ∧ KR rb w w' := by
  have HPL : Hid (ptLen R.data.toList ≤ R.size) := by show _ ≤ _; have := ptLen_le R.data.toList; simpa using this
  have CT : Hid (∀ n, n ≤ R.size → Calls Tryd.prog 78 #[.pointer (some ⟨rb, 0, none⟩), .int .i64 n] w fun e w' => e = .returned (.string (R.extract 0 n)) ∧ RR rb w' (R.extract n R.size) b cv cs ∧ KR rb w w') := fun n hn => cut_any rb w R b cv cs n h hn hR
  have c0 := h.c0
  have P0 : Hid (ptLen R.data.toList = 0 + ptLen (R.data.toList.drop 0)) := by show _ = _; simp
  have PS : Hid (∀ k (hk : k < R.size), ptLen (R.data.toList.drop k) = if isPt R[k] = true then ptLen (R.data.toList.drop (k + 1)) + 1 else 0) := fun k hk => by
    have := ptLen_step (l := R.data.toList) (k := k) (by simpa using hk)
    rw [this]; rfl
  have PE : Hid (ptLen (R.data.toList.drop R.size) = 0) := by
    show _ = _
    rw [List.drop_of_length_le (by simp)]; rfl
  generalize ptLen R.data.toList = n at *
  clear h
  go_enter Tryd.func63, Tryd.ntmps63
  go_wp2
  go_loop [3] (fun v3 => ∃ k : Nat, k ≤ R.size ∧ v3 = .int .i64 k ∧ Hid (n = k + ptLen (R.data.toList.drop k))) (fun v3 => R.size - (intOf v3).toNat)
  case atStart => exact ⟨0, Nat.zero_le _, rfl, P0⟩
  case round =>
    obtain ⟨k, hk, rfl, HK⟩ := hrel
    clear P0
    by_cases hlt : k < R.size
    · have hS := PS.out k hlt
      have IW := fun w' => isWordByte_any R[k] w'
      cases hp : isPt R[k] with
      | true =>
        rw [hp, if_pos rfl] at hS
        rw [hp] at IW
        have HN : Hid (n = (k + 1) + ptLen (R.data.toList.drop (k + 1))) := by show _ = _; rw [HK.out, hS]; omega
        clear hS hp HK
        go_wp2_with (go_at_call 77; refine (IW _).mono ?_; rintro e w' ⟨rfl, rfl⟩)
        go_round
        case rel => exact ⟨k + 1, by omega, by go_num, HN⟩
        case measure => simp [intOf]; omega
      | false =>
        rw [hp] at hS IW
        simp only [Bool.false_eq_true, if_false] at hS
        have hn : n = k := by have := HK.out; omega
        have CC := CT.out n (by omega)
        subst hn
        clear hS hp HK CT
        go_wp2_with (first | (go_at_call 77; refine (IW _).mono ?_; rintro e w' ⟨rfl, rfl⟩) | (go_at_call 78; refine CC.mono ?_; rintro e w2 ⟨rfl, h2, k2⟩; have H2 : Hid _ := h2; have K2 : Hid _ := k2; clear h2 k2))
        go_ret
        exact ⟨rfl, H2.out, K2.out⟩
    · obtain rfl : k = R.size := by omega
      have hn : n = R.size := by have := HK.out; rw [PE.out] at this; omega
      have CC := CT.out n (by omega)
      subst hn
      clear HK CT
      go_wp2_with (first | (go_at_call 78; refine CC.mono ?_; rintro e w2 ⟨rfl, h2, k2⟩; have H2 : Hid _ := h2; have K2 : Hid _ := k2; clear h2 k2))
      go_ret
      exact ⟨by simp, H2.out, K2.out⟩
theorem strip_list (p : List UInt8) (s : List UInt8) : strip p s = if Lib.hasPrefix s p = true then some (s.drop p.length) else none := rfl
set_option maxHeartbeats 2000000 in
theorem take_any (rb : Nat) (w : World) (R p : ByteArray) (b : Nat) (cv : Value) (cs : List Cr) (h : RR rb w R b cv cs) :
    Calls Tryd.prog 82 #[.pointer (some ⟨rb, 0, none⟩), .string p] w fun e w' => e = .returned (.bool (Lib.hasPrefix R.data.toList p.data.toList)) ∧ RR rb w' ⟨(Lib.trimPrefix R.data.toList p.data.toList).toArray⟩ b cv cs ∧ KR rb w w' := by
  have CP := fun w' => Tryd.strings_CutPrefix R p w'
  have c0 := h.c0
  have f0 := h.fz 0
  have HR : Hid (RR rb w R b cv cs) := h
  generalize Lib.hasPrefix R.data.toList p.data.toList = r at *
  generalize Lib.trimPrefix R.data.toList p.data.toList = L at *
  clear h
  go_enter Tryd.func82, Tryd.ntmps82
  go_wp2_with (go_at_call 93; refine (CP _).mono ?_; rintro e w' ⟨rfl, rfl⟩)
  go_ret
  exact ⟨rfl, HR.out.put0 _, (KR.refl _ _).set _ _⟩
set_option maxHeartbeats 2000000 in
theorem need_any (rb : Nat) (w : World) (R p : ByteArray) (b : Nat) (cv : Value) (cs : List Cr) (h : RR rb w R b cv cs) :
    Calls Tryd.prog 79 #[.pointer (some ⟨rb, 0, none⟩), .string p] w fun e w' => (∃ L, strip p.data.toList R.data.toList = some L ∧ e = .returned (.tuple #[]) ∧ RR rb w' ⟨L.toArray⟩ b cv cs ∧ KR rb w w') ∨ (strip p.data.toList R.data.toList = none ∧ e = .panicked GP ∧ KR rb w w') := by
  have TK := take_any rb w R p b cv cs h
  have GU := fun w' => giveUp_any rb w'
  have HS : Hid (strip p.data.toList R.data.toList = if Lib.hasPrefix R.data.toList p.data.toList = true then some (R.data.toList.drop p.data.toList.length) else none) := rfl
  have HT : Hid (Lib.trimPrefix R.data.toList p.data.toList = if Lib.hasPrefix R.data.toList p.data.toList then R.data.toList.drop p.data.toList.length else R.data.toList) := rfl
  generalize strip p.data.toList R.data.toList = q at *
  generalize R.data.toList.drop p.data.toList.length = D at *
  clear h
  cases hr : Lib.hasPrefix R.data.toList p.data.toList with
  | true =>
    rw [hr] at TK HS HT
    generalize Lib.trimPrefix R.data.toList p.data.toList = L at *
    have hq : Hid (q = some L) := by show _ = _; rw [HS.out, HT.out]; rfl
    clear hr HS HT
    go_enter Tryd.func79, Tryd.ntmps79
    go_wp2_with (go_at_call 82; refine TK.mono ?_; rintro e w' ⟨rfl, h2, k2⟩; have H2 : Hid _ := h2; have K2 : Hid _ := k2; clear h2 k2)
    go_end0
    exact Or.inl ⟨L, hq.out, rfl, H2.out, K2.out⟩
  | false =>
    rw [hr] at TK HS
    have hq : Hid (q = none) := by show _ = _; rw [HS.out]; rfl
    clear hr HS HT
    go_enter Tryd.func79, Tryd.ntmps79
    go_wp2_with (first | (go_at_call 82; refine TK.mono ?_; rintro e w' ⟨rfl, h2, k2⟩; have K2 : Hid _ := k2; clear h2 k2) | (go_at_call 50; refine (GU _).mono ?_; rintro e w' ⟨rfl, rfl⟩))
    exact ⟨rfl, Or.inr ⟨hq.out, rfl, K2.out⟩⟩
theorem qGo_step {l : List UInt8} {k : Nat} (hk : k < l.length) : qGo (l.drop k) = if l[k] = 92 then (if k + 1 < l.length then 2 + qGo (l.drop (k + 2)) else 1) else if l[k] = 34 then 1 else 1 + qGo (l.drop (k + 1)) := by
  rw [List.drop_eq_getElem_cons hk]
  by_cases h1 : k + 1 < l.length
  · rw [List.drop_eq_getElem_cons h1, qGo, if_pos h1]
  · rw [List.drop_of_length_le (i := k + 1) (by omega), qGo, if_neg h1]
    simp [qGo]
set_option maxHeartbeats 4000000 in
theorem quotedSize_any (s : ByteArray) (w : World) (hs : s.size ≤ 100000000) :
    Calls Tryd.prog 91 #[.string s] w fun e w' => e = .returned (.int .i64 (qSize s.data.toList)) ∧ w' = w := by
  have Q0 : Hid ((1 ≤ s.size ∧ qSize s.data.toList = 1 + qGo (s.data.toList.drop 1)) ∨ (s.size < 1 ∧ qSize s.data.toList = s.size)) := by
    have e : s.data.toList.length = s.size := by simp
    show _ ∨ _
    cases hl : s.data.toList with
    | nil => right; rw [hl] at e; simp at e; exact ⟨by omega, by simp [qSize]; omega⟩
    | cons c r => left; rw [hl] at e; simp at e; exact ⟨by omega, by simp [qSize]⟩
  have QS : Hid (∀ k (hk : k < s.size), qGo (s.data.toList.drop k) = if s[k] = 92 then (if k + 1 < s.size then 2 + qGo (s.data.toList.drop (k + 2)) else 1) else if s[k] = 34 then 1 else 1 + qGo (s.data.toList.drop (k + 1))) := fun k hk => by
    have := qGo_step (l := s.data.toList) (k := k) (by simpa using hk)
    simp only [show s.data.toList.length = s.size by simp] at this
    exact this
  have QE : Hid (qGo (s.data.toList.drop s.size) = 0) := by
    show _ = _
    rw [List.drop_of_length_le (by simp)]; rfl
  generalize qSize s.data.toList = n at *
  go_enter Tryd.func91, Tryd.ntmps91
  go_wp2
  go_loop [3] (fun v3 => ∃ k : Nat, k ≤ s.size + 1 ∧ v3 = .int .i64 k ∧ Hid ((k ≤ s.size ∧ n = k + qGo (s.data.toList.drop k)) ∨ (s.size < k ∧ n = s.size))) (fun v3 => s.size + 1 - (intOf v3).toNat)
  case atStart => exact ⟨1, by omega, rfl, Q0⟩
  case round =>
    obtain ⟨k, hk, rfl, HK⟩ := hrel
    clear Q0
    by_cases hlt : k < s.size
    · have hS := QS.out k hlt
      have hn : n = k + qGo (s.data.toList.drop k) := by
        rcases HK.out with h | h
        · exact h.2
        · omega
      rw [hS] at hn
      obtain ⟨c, hc⟩ : ∃ c, c = s[k] := ⟨_, rfl⟩
      rw [← hc] at hn
      by_cases h92 : c = 92
      · rw [if_pos h92] at hn
        have e1 : (s[k].toNat : Int) = 92 := by rw [← hc, h92]; rfl
        have HN : Hid ((k + 1 + 1 ≤ s.size ∧ n = (k + 1 + 1) + qGo (s.data.toList.drop (k + 1 + 1))) ∨ (s.size < k + 1 + 1 ∧ n = s.size)) := by
          by_cases h1 : k + 1 < s.size
          · rw [if_pos h1] at hn; left; exact ⟨by omega, by rw [hn, show k + 1 + 1 = k + 2 from rfl]; omega⟩
          · rw [if_neg h1] at hn; right; exact ⟨by omega, by omega⟩
        clear hn hS hc HK h92
        go_wp2
        go_round
        case rel => exact ⟨k + 1 + 1, by omega, by go_num, HN⟩
        case measure => simp [intOf]; omega
      · rw [if_neg h92] at hn
        have e1 : ¬ (s[k].toNat : Int) = 92 := fun e => h92 (by rw [hc]; exact u8_eq (n := 92) (by omega) e)
        have e1b : ((s[k].toNat : Int) == 92) = false := by simpa using e1
        by_cases h34 : c = 34
        · rw [if_pos h34] at hn
          have e2 : (s[k].toNat : Int) = 34 := by rw [← hc, h34]; rfl
          have HN : Hid (n = k + 1) := hn
          clear hn hS hc HK h92 h34
          go_wp2
          go_ret
          exact ⟨ret_int (by rw [HN.out]; go_num), rfl⟩
        · rw [if_neg h34] at hn
          have e2 : ¬ (s[k].toNat : Int) = 34 := fun e => h34 (by rw [hc]; exact u8_eq (n := 34) (by omega) e)
          have e2b : ((s[k].toNat : Int) == 34) = false := by simpa using e2
          have HN : Hid ((k + 1 ≤ s.size ∧ n = (k + 1) + qGo (s.data.toList.drop (k + 1))) ∨ (s.size < k + 1 ∧ n = s.size)) := Or.inl ⟨by omega, by rw [hn]; omega⟩
          clear hn hS hc HK h92 h34
          go_wp2
          go_round
          case rel => exact ⟨k + 1, by omega, by go_num, HN⟩
          case measure => simp [intOf]; omega
    · have hn : n = s.size := by
        rcases HK.out with h | h
        · have hke : k = s.size := by omega
          rw [hke, QE.out] at h; omega
        · exact h.2
      subst hn
      clear HK QS QE
      go_wp2
      go_ret
      exact ⟨rfl, rfl⟩
end Go.Proofs.YtaleagkhblokgaaDoor
