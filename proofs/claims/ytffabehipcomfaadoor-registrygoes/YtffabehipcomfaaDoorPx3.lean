/- Names: the reference's well: what it needs. -/
import Derived.Test.YtffabehipcomfaaDoorKey
import Derived.BigRegion
namespace Go.Proofs.YtffabehipcomfaaDoor
open Go.RowKit

/-- The table's rows: how many parts; what its text may be. -/
def orow : List (Int × Int) := [(0, 0), (0, 0), (0, 1), (0, 2), (0, 2), (0, 0), (2, 0), (2, 0), (2, 0), (2, 0), (2, 0), (1, 0), (2, 0), (2, 0), (3, 0), (2, 0), (1, 0), (1, 0), (1, 2), (2, 2)]
theorem orow_len : orow.length = 20 := by decide
def oprt (k : Int) : Int := (orow.getD k.toNat (0, 0)).1
def otxt (k : Int) : Int := (orow.getD k.toNat (0, 0)).2
def ORowsAt (w : World) : Prop := ∀ k : Nat, k < 20 → w.cell? ⟨1, k * 2, none⟩ = some (.int .i64 (oprt k)) ∧ w.cell? ⟨1, k * 2 + 1, none⟩ = some (.int .i64 (otxt k))
theorem ORowsAt.below {w w' : World} (h : ORowsAt w) (hb : Below w.heap.size w w') : ORowsAt w' := by
  intro k hk
  obtain ⟨h1, h2⟩ := h k hk
  rw [hb.cell (p := ⟨1, k * 2, none⟩) (block_lt_of_cell h1), hb.cell (p := ⟨1, k * 2 + 1, none⟩) (block_lt_of_cell h2)]
  exact ⟨h1, h2⟩
theorem below_drewX {b : Nat} {w w' : World} (h : Below b w w') : Below b w w'.drew := by
  first | exact h.drew | exact below_drewN h 1 | exact below_drewN' h 1
/-- An operation. -/
structure Opn where
  kind : Int
  n : Int
  int : Int
  text : ByteArray
def opV (o : Opn) : Value := .agg #[.int .i64 o.kind, .int .i64 o.n, .int .i64 o.int, .string o.text]
def isX (k : Int) : Bool := decide (1 ≤ k ∧ k ≤ 19)
def arB (o : Opn) : Bool := if o.kind = 5 then decide (0 ≤ o.n) else decide (o.n = oprt o.kind)
def inB' (o : Opn) : Bool := if o.kind = 1 then decide (-9007199254740992 ≤ o.int ∧ o.int ≤ 9007199254740992) else decide (o.int = 0)
def txB (o : Opn) : Bool := if otxt o.kind = 1 then true else if otxt o.kind = 2 then nameB o.text else decide (o.text.size = 0)
def opB (o : Opn) : Bool := isX o.kind && (arB o && inB' o && txB o)
theorem isWithin_any (n a b : Int) (w : World) : Calls Tryd.prog 75 #[.int .i64 n, .int .i64 a, .int .i64 b] w fun e w' => e = .returned (.bool (decide (a ≤ n ∧ n ≤ b))) ∧ w' = w := by
  by_cases h1 : a ≤ n
  · by_cases h2 : n ≤ b
    · go_enter Tryd.func75, Tryd.ntmps75
      go_wp2
      go_ret
      exact ⟨ret_bool (by simp [h1, h2]), rfl⟩
    · go_enter Tryd.func75, Tryd.ntmps75
      go_wp2
      go_ret
      exact ⟨ret_bool (by simp; omega), rfl⟩
  · go_enter Tryd.func75, Tryd.ntmps75
    go_wp2
    go_ret
    exact ⟨ret_bool (by simp; omega), rfl⟩
set_option maxHeartbeats 2000000 in
theorem isInt_any (o : Opn) (w : World) : Calls Tryd.prog 94 #[opV o] w fun e w' => e = .returned (.bool (inB' o)) ∧ Below w.heap.size w w' := by
  have HB : Hid (inB' o = if o.kind = 1 then decide (-9007199254740992 ≤ o.int ∧ o.int ≤ 9007199254740992) else decide (o.int = 0)) := rfl
  generalize inB' o = r at *
  obtain ⟨k, n, i, t⟩ := o
  have IW := fun w' => isWithin_any i (-9007199254740992) 9007199254740992 w'
  simp only [opV] at *
  have AL : Hid (∀ ob, Below w.heap.size w (w.alloc ob)) := fun ob => (Below.refl _ _).alloc (Nat.le_refl _) ob
  by_cases hk : k = 1
  · subst hk
    go_enter Tryd.func94, Tryd.ntmps94
    go_wp2_with (go_at_call 75; refine (IW _).mono ?_; rintro e w' ⟨rfl, rfl⟩)
    go_ret
    exact ⟨ret_bool (by rw [HB.out]; simp), AL.out _⟩
  · have hk1 : (k == 1) = false := by simpa using hk
    rw [if_neg hk] at HB
    go_enter Tryd.func94, Tryd.ntmps94
    go_wp2
    go_ret
    exact ⟨ret_bool (by rw [HB.out]; rfl), AL.out _⟩
theorem isX_iff {k : Int} : isX k = true ↔ 1 ≤ k ∧ k ≤ 19 := by simp [isX]
theorem ORowsAt.at {w : World} (h : ORowsAt w) {k : Int} (hk : isX k = true) : ∃ m : Nat, k = m ∧ m ≤ 19 ∧ w.cell? ⟨1, m * 2, none⟩ = some (.int .i64 (oprt k)) ∧ w.cell? ⟨1, m * 2 + 1, none⟩ = some (.int .i64 (otxt k)) := by
  rw [isX_iff] at hk
  refine ⟨k.toNat, by omega, by omega, ?_⟩
  have := h k.toNat (by omega)
  rw [show ((k.toNat : Nat) : Int) = k by omega] at this
  exact this
set_option maxHeartbeats 2000000 in
theorem isArity_any (o : Opn) (w : World) (hk : isX o.kind = true) (hr : ORowsAt w) : Calls Tryd.prog 93 #[opV o] w fun e w' => e = .returned (.bool (arB o)) ∧ Below w.heap.size w w' := by
  have HB : Hid (arB o = if o.kind = 5 then decide (0 ≤ o.n) else decide (o.n = oprt o.kind)) := rfl
  generalize arB o = r at *
  have AL : Hid (∀ ob, Below w.heap.size w (w.alloc ob)) := fun ob => (Below.refl _ _).alloc (Nat.le_refl _) ob
  have DR : Hid (∀ ob, Below w.heap.size w ((w.alloc ob).drew)) := fun ob => below_drewX (AL.out ob)
  obtain ⟨m, hm, hm2, q0, _⟩ := (hr.below (AL.out (.cells #[.int .i64 o.kind, .int .i64 o.n, .int .i64 o.int, .string o.text] 71))).at hk
  generalize oprt o.kind = P at *
  obtain ⟨k, n, i, t⟩ := o
  simp only [opV] at *
  subst hm
  clear hr hk
  by_cases hk : (m : Int) = 5
  · have hk1 : ((m : Int) == 5) = true := by simpa using hk
    rw [if_pos hk] at HB
    go_enter Tryd.func93, Tryd.ntmps93
    go_wp2
    go_ret
    exact ⟨ret_bool (by rw [HB.out]), AL.out _⟩
  · have hk1 : ((m : Int) == 5) = false := by simpa using hk
    rw [if_neg hk] at HB
    go_enter Tryd.func93, Tryd.ntmps93
    go_wp2
    go_region
    go_wp2
    go_ret
    exact ⟨ret_bool (by rw [HB.out]; rfl), DR.out _⟩
theorem otxt_cases {k : Int} (hk : isX k = true) : otxt k = 0 ∨ otxt k = 1 ∨ otxt k = 2 := by
  rw [isX_iff] at hk
  have : k = 1 ∨ k = 2 ∨ k = 3 ∨ k = 4 ∨ k = 5 ∨ k = 6 ∨ k = 7 ∨ k = 8 ∨ k = 9 ∨ k = 10 ∨ k = 11 ∨ k = 12 ∨ k = 13 ∨ k = 14 ∨ k = 15 ∨ k = 16 ∨ k = 17 ∨ k = 18 ∨ k = 19 := by omega
  rcases this with rfl | rfl | rfl | rfl | rfl | rfl | rfl | rfl | rfl | rfl | rfl | rfl | rfl | rfl | rfl | rfl | rfl | rfl | rfl <;> decide
set_option maxHeartbeats 2000000 in
theorem isText_any (o : Opn) (w : World) (hk : isX o.kind = true) (hr : ORowsAt w) (IN : ∀ w', Below w.heap.size w w' → Calls Tryd.prog 51 #[.string o.text] w' fun e w'' => e = .returned (.bool (nameB o.text)) ∧ w'' = w') : Calls Tryd.prog 95 #[opV o] w fun e w' => e = .returned (.bool (txB o)) ∧ Below w.heap.size w w' := by
  have HB : Hid (txB o = if otxt o.kind = 1 then true else if otxt o.kind = 2 then nameB o.text else decide (o.text.size = 0)) := rfl
  have HC := otxt_cases hk
  generalize txB o = r at *
  have AL : Hid (∀ ob, Below w.heap.size w (w.alloc ob)) := fun ob => (Below.refl _ _).alloc (Nat.le_refl _) ob
  obtain ⟨m, hm, hm2, _, q1⟩ := (hr.below (AL.out (.cells #[.int .i64 o.kind, .int .i64 o.n, .int .i64 o.int, .string o.text] 71))).at hk
  have IX := IN _ (AL.out (.cells #[.int .i64 o.kind, .int .i64 o.n, .int .i64 o.int, .string o.text] 71))
  generalize otxt o.kind = P at *
  generalize nameB o.text = nb at *
  obtain ⟨k, n, i, t⟩ := o
  simp only [opV] at *
  subst hm
  clear hr hk IN
  rcases HC with rfl | rfl | rfl
  · by_cases hz : t.size = 0
    · have := bytes_nil hz
      subst this
      go_enter Tryd.func95, Tryd.ntmps95
      go_wp2
      go_ret
      exact ⟨ret_bool (by rw [HB.out]; rfl), AL.out _⟩
    · obtain ⟨z1, z2⟩ := bytes_ne (s := t) (by omega)
      go_enter Tryd.func95, Tryd.ntmps95
      go_wp2
      go_ret
      exact ⟨ret_bool (by rw [HB.out]; simp [hz]), AL.out _⟩
  · go_enter Tryd.func95, Tryd.ntmps95
    go_wp2
    go_ret
    exact ⟨ret_bool (by rw [HB.out]; rfl), AL.out _⟩
  · go_enter Tryd.func95, Tryd.ntmps95
    go_wp2_with fail
    refine IX.mono ?_
    rintro e w1 ⟨rfl, hw1⟩
    rw [hw1]
    go_wp2
    go_ret
    exact ⟨ret_bool (by rw [HB.out]; simp), AL.out _⟩
/-- Both variables. -/
structure NV (w : World) : Prop where
  keys : KeysAt w
  rows : ORowsAt w
theorem NV.below {w w' : World} (h : NV w) (hb : Below w.heap.size w w') : NV w' := ⟨h.keys.below hb, h.rows.below hb⟩
set_option maxHeartbeats 4000000 in
theorem isOp_any (o : Opn) (w : World) (hv : NV w) (ht : o.text.size ≤ maxLen) : Calls Tryd.prog 84 #[opV o] w fun e w' => e = .returned (.bool (opB o)) ∧ Below w.heap.size w w' := by
  have HB : Hid (opB o = (isX o.kind && (arB o && inB' o && txB o))) := rfl
  have AL : Hid (∀ ob, Below w.heap.size w (w.alloc ob)) := fun ob => (Below.refl _ _).alloc (Nat.le_refl _) ob
  have II := fun w' => isInt_any o w'
  cases hk : isX o.kind with
  | false =>
    rw [hk] at HB
    generalize opB o = r at *
    have hk2 : ¬ (1 ≤ o.kind ∧ o.kind ≤ 19) := fun h => by rw [isX_iff.2 h] at hk; cases hk
    clear hv II
    obtain ⟨k, n, i, t⟩ := o
    simp only [opV] at *
    by_cases h1 : k < 1
    · go_enter Tryd.func84, Tryd.ntmps84
      go_wp2
      go_ret
      exact ⟨ret_bool (by rw [HB.out]; rfl), AL.out _⟩
    · have h2 : k > 19 := by omega
      go_enter Tryd.func84, Tryd.ntmps84
      go_wp2
      go_ret
      exact ⟨ret_bool (by rw [HB.out]; rfl), AL.out _⟩
  | true =>
    rw [hk] at HB
    have hk2 := isX_iff.1 hk
    have IA : Hid (∀ w', NV w' → Calls Tryd.prog 93 #[opV o] w' fun e w'' => e = .returned (.bool (arB o)) ∧ Below w'.heap.size w' w'') := fun w' h => isArity_any o w' hk h.rows
    have IT : Hid (∀ w', NV w' → Calls Tryd.prog 95 #[opV o] w' fun e w'' => e = .returned (.bool (txB o)) ∧ Below w'.heap.size w' w'') := fun w' h => isText_any o w' hk h.rows (fun w2 hb => isName_any o.text w2 ht (h.keys.below hb))
    have V0 : Hid (∀ ob, NV (w.alloc ob)) := fun ob => hv.below (AL.out ob)
    generalize opB o = r at *
    generalize arB o = r1 at *
    generalize inB' o = r2 at *
    generalize txB o = r3 at *
    obtain ⟨k, n, i, t⟩ := o
    simp only [opV] at *
    obtain ⟨h1, h2⟩ := hk2
    clear hv hk
    have hn1 : ¬ k < 1 := by omega
    have hn2 : ¬ k > 19 := by omega
    have C0 : Hid (∀ w', Below (w.alloc (.cells #[.int .i64 k, .int .i64 n, .int .i64 i, .string t] 71)).heap.size (w.alloc (.cells #[.int .i64 k, .int .i64 n, .int .i64 i, .string t] 71)) w' → w'.cell? ⟨w.heap.size, 0, none⟩ = some (.int .i64 k) ∧ w'.cell? ⟨w.heap.size, 1, none⟩ = some (.int .i64 n) ∧ w'.cell? ⟨w.heap.size, 2, none⟩ = some (.int .i64 i) ∧ w'.cell? ⟨w.heap.size, 3, none⟩ = some (.string t)) := fun w' hb => by
      have q : ∀ j v, (#[.int .i64 k, .int .i64 n, .int .i64 i, .string t] : Array Value)[j]? = some v → w'.cell? ⟨w.heap.size, j, none⟩ = some v := fun j v hj => by
        have e : (w.alloc (.cells #[.int .i64 k, .int .i64 n, .int .i64 i, .string t] 71)).cell? ⟨w.heap.size, j, none⟩ = some v := (cell_of_row _ _ _ _ _ _ (heap_alloc_new _ _)).trans hj
        rw [hb.cell (p := ⟨w.heap.size, j, none⟩) (block_lt_of_cell e)]; exact e
      exact ⟨q 0 _ rfl, q 1 _ rfl, q 2 _ rfl, q 3 _ rfl⟩
    go_enter Tryd.func84, Tryd.ntmps84
    go_wp2_with fail
    refine Calls.mono (IA.out _ (V0.out _)) ?_
    rintro e w1 ⟨rfl, hb1⟩
    obtain ⟨c0, c1, c2, c3⟩ := C0.out _ hb1
    have B1 : Hid (Below w.heap.size w w1) := (AL.out _).trans (hb1.mono (AL.out _).size)
    have V1 : Hid (NV w1) := (V0.out _).below hb1
    have D1 : Hid _ := hb1
    clear hb1 IA V0
    cases r1 with
    | false =>
      go_wp2_with fail
      go_ret
      exact ⟨ret_bool (by rw [HB.out]; rfl), B1.out⟩
    | true =>
      go_wp2_with fail
      refine Calls.mono (II _) ?_
      rintro e w2 ⟨rfl, hb2⟩
      have d0 := (hb2.cell (p := ⟨w.heap.size, 0, none⟩) (block_lt_of_cell c0)).trans c0
      have d1 := (hb2.cell (p := ⟨w.heap.size, 1, none⟩) (block_lt_of_cell c1)).trans c1
      have d2 := (hb2.cell (p := ⟨w.heap.size, 2, none⟩) (block_lt_of_cell c2)).trans c2
      have d3 := (hb2.cell (p := ⟨w.heap.size, 3, none⟩) (block_lt_of_cell c3)).trans c3
      have B2 : Hid (Below w.heap.size w w2) := B1.out.trans (hb2.mono B1.out.size)
      have V2 : Hid (NV w2) := V1.out.below hb2
      clear hb2 II c0 c1 c2 c3 V1 B1
      cases r2 with
      | false =>
        go_wp2_with fail
        go_ret
        exact ⟨ret_bool (by rw [HB.out]; rfl), B2.out⟩
      | true =>
        go_wp2_with fail
        refine Calls.mono (IT.out _ V2.out) ?_
        rintro e w3 ⟨rfl, hb3⟩
        have B3 : Hid (Below w.heap.size w w3) := B2.out.trans (hb3.mono B2.out.size)
        clear hb3 IT
        go_wp2_with fail
        go_ret
        exact ⟨ret_bool (by rw [HB.out]; simp), B3.out⟩
end Go.Proofs.YtffabehipcomfaaDoor
namespace Go.Proofs.YtffabehipcomfaaDoor
open Go.RowKit

theorem isX_cases {k : Int} (h : isX k = true) : k = 1 ∨ k = 2 ∨ k = 3 ∨ k = 4 ∨ k = 5 ∨ k = 6 ∨ k = 7 ∨ k = 8 ∨ k = 9 ∨ k = 10 ∨ k = 11 ∨ k = 12 ∨ k = 13 ∨ k = 14 ∨ k = 15 ∨ k = 16 ∨ k = 17 ∨ k = 18 ∨ k = 19 := by
  rw [isX_iff] at h; omega
def arO (o : Opn) : Int := if o.kind = 5 then o.n else oprt o.kind
set_option maxHeartbeats 4000000 in
theorem rarity_any (o : Opn) (w : World) (hk : isX o.kind = true) : Calls Tryd.prog 90 #[opV o] w fun e w' => e = .returned (.int .i64 (arO o)) ∧ Below w.heap.size w w' := by
  have AL : Hid (∀ ob, Below w.heap.size w (w.alloc ob)) := fun ob => (Below.refl _ _).alloc (Nat.le_refl _) ob
  have HB : Hid (arO o = if o.kind = 5 then o.n else oprt o.kind) := rfl
  generalize arO o = r at *
  obtain ⟨k, n, i, t⟩ := o
  simp only [opV] at *
  rcases isX_cases hk with rfl | rfl | rfl | rfl | rfl | rfl | rfl | rfl | rfl | rfl | rfl | rfl | rfl | rfl | rfl | rfl | rfl | rfl | rfl
  all_goals
    clear hk
    go_enter Tryd.func90, Tryd.ntmps90
    go_wp2
    go_ret
    exact ⟨by rw [HB.out]; rfl, AL.out _⟩
end Go.Proofs.YtffabehipcomfaaDoor
namespace Go.Proofs.YtffabehipcomfaaDoor
open Go.RowKit

theorem oprt_nn {k : Int} (h : isX k = true) : 0 ≤ oprt k := by
  rcases isX_cases h with rfl | rfl | rfl | rfl | rfl | rfl | rfl | rfl | rfl | rfl | rfl | rfl | rfl | rfl | rfl | rfl | rfl | rfl | rfl <;> decide
theorem arB_eq {o : Opn} (h : isX o.kind = true) : arB o = decide (0 ≤ o.n ∧ o.n = arO o) := by
  have := oprt_nn h
  unfold arB arO
  split
  · simp
  · exact decide_eq_decide.2 (by omega)
/-- A box with an operation. -/
def OB (w0 w : World) (g : Nat) (k n i : Int) (t : ByteArray) : Prop := (w.cell? ⟨g, 0, none⟩ = some (.int .i64 k) ∧ w.cell? ⟨g, 1, none⟩ = some (.int .i64 n) ∧ w.cell? ⟨g, 2, none⟩ = some (.int .i64 i) ∧ w.cell? ⟨g, 3, none⟩ = some (.string t)) ∧ Below w0.heap.size w0 w
theorem OB.new (w : World) (k n i : Int) (t : ByteArray) : OB w (w.alloc (.cells #[.int .i64 k, .int .i64 n, .int .i64 i, .string t] 71)) w.heap.size k n i t := by
  have q : ∀ j, (w.alloc (.cells #[.int .i64 k, .int .i64 n, .int .i64 i, .string t] 71)).cell? ⟨w.heap.size, j, none⟩ = (#[.int .i64 k, .int .i64 n, .int .i64 i, .string t] : Array Value)[j]? := fun j => cell_of_row _ _ _ _ _ _ (heap_alloc_new _ _)
  exact ⟨⟨q 0, q 1, q 2, q 3⟩, (Below.refl _ _).alloc (Nat.le_refl _) _⟩
theorem OB.below {w0 w w' : World} {g : Nat} {k n i : Int} {t : ByteArray} (h : OB w0 w g k n i t) (hb : Below w.heap.size w w') : OB w0 w' g k n i t := by
  obtain ⟨⟨c0, c1, c2, c3⟩, b⟩ := h
  exact ⟨⟨(hb.cell (p := ⟨g, 0, none⟩) (block_lt_of_cell c0)).trans c0, (hb.cell (p := ⟨g, 1, none⟩) (block_lt_of_cell c1)).trans c1, (hb.cell (p := ⟨g, 2, none⟩) (block_lt_of_cell c2)).trans c2, (hb.cell (p := ⟨g, 3, none⟩) (block_lt_of_cell c3)).trans c3⟩, b.trans (hb.mono b.size)⟩
end Go.Proofs.YtffabehipcomfaaDoor
