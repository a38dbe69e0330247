/- Graph: the document's Check, next, Next; the program's Next. -/
import Derived.Test.YtghkhceplpjegaaYc2
import Derived.Test.YtghkhceplpjegaaYb3
namespace Go.Proofs.Ytghkhceplpjegaa
open Go.RowKit

set_option maxHeartbeats 2000000 in
theorem rnode_any (w : World) (n x : Int) (p : Option Addr) (m c : Nat) : Calls Try.prog 49 #[.agg #[.int .i64 n, .slice p m c], .int .i64 x] w fun e w' => e = .returned (.bool (ndB n x)) ∧ Below w.heap.size w w' := by
  by_cases h0 : 0 ≤ x
  · have b0 : decide (0 ≤ x) = true := decide_eq_true h0
    have HN : Hid (ndB n x = decide (x < n)) := by show _ = _; simp [ndB, h0]
    go_enter Try.func49, Try.ntmps49
    go_wp2
    go_ret
    exact ⟨ret_bool HN.out.symm, bal _ _⟩
  · have b0 : decide (0 ≤ x) = false := decide_eq_false h0
    have HN : Hid (ndB n x = false) := by show _ = _; simp [ndB, h0]
    go_enter Try.func49, Try.ntmps49
    go_wp2
    go_ret
    exact ⟨ret_bool HN.out.symm, bal _ _⟩
set_option maxRecDepth 100000 in
set_option maxHeartbeats 16000000 in
theorem rcheck_any (w : World) (n : Int) (v : Value) (l : List (Int × Int)) (hv : GS KE w v l) : Calls Try.prog 37 #[.agg #[.int .i64 n, v]] w fun e w' => e = .returned (.int .i64 (chkG n l)) ∧ Below w.heap.size w w' := by
  obtain ⟨p, c, rfl⟩ := hv.form
  by_cases h1 : n < 0 ∨ 4096 < n
  · have HC : Hid (chkG n l = 1) := by show _ = _; unfold chkG; rw [if_pos h1]
    by_cases h2 : n < 0
    · go_enter Try.func37, Try.ntmps37
      go_wp2
      go_ret
      exact ⟨ret_i HC.out.symm, bal _ _⟩
    · have h3 : 4096 < n := by omega
      go_enter Try.func37, Try.ntmps37
      go_wp2
      go_ret
      exact ⟨ret_i HC.out.symm, bal _ _⟩
  · have a1 : ¬ n < 0 := by omega
    have a2 : ¬ 4096 < n := by omega
    by_cases h2 : 16384 < l.length
    · have HC : Hid (chkG n l = 3) := by show _ = _; unfold chkG; rw [if_neg h1, if_pos h2]
      have a3 : (16384 : Int) < (l.length : Nat) := by omega
      generalize l.length = m at *
      go_enter Try.func37, Try.ntmps37
      go_wp2
      go_ret
      exact ⟨ret_i HC.out.symm, bal _ _⟩
    · have HC : Hid (chkG n l = if l.all (edB n) then 0 else 1) := by show _ = _; unfold chkG; rw [if_neg h1, if_neg h2]
      have A1 := hid (fun w' (hb : Below w.heap.size w w') j (hj : j < l.length) => GS.atE (hv.below hb) hj)
      have a3 : ¬ (16384 : Int) < (l.length : Nat) := by omega
      obtain ⟨m, hm⟩ : ∃ m, m = l.length := ⟨_, rfl⟩
      rw [← hm]
      rw [← hm] at a3
      have M1 : Hid (l.length = m) := hm.symm
      have a4 : m ≤ 16384 := by omega
      clear hm h1 h2 hv
      go_enter Try.func37, Try.ntmps37
      go_wp2
      generalize hW : w.alloc (.cells #[.int .i64 n, .slice p m c] 24) = W
      have BW : Hid (Below w.heap.size w W) := by rw [← hW]; exact bal _ _
      have C0 : Hid (∀ W', Below W.heap.size W W' → W'.cell? ⟨w.heap.size, 0, none⟩ = some (.int .i64 n) ∧ W'.cell? ⟨w.heap.size, 1, none⟩ = some (.slice p m c)) := fun W' hb => by
        have e : W'.heap[w.heap.size]? = some (.cells #[.int .i64 n, .slice p m c] 24) := (hb.block _ (by rw [← hW, asz]; omega)).trans (by rw [← hW]; exact heap_alloc_new _ _)
        exact ⟨cell_of_row _ _ _ _ _ _ e, cell_of_row _ _ _ _ _ _ e⟩
      obtain ⟨sz, hsz⟩ : ∃ sz, sz = w.heap.size := ⟨_, rfl⟩
      rw [← hsz] at C0 ⊢
      have BI := hid (Below.refl W.heap.size W)
      clear hW hsz
      go_loopw [3] (fun v3 wr => ∃ (j : Nat) (wk : World), v3 = .int .i64 j ∧ wk = wr ∧ j ≤ m ∧ Hid ((l.take j).all (edB n) = true) ∧ Hid (Below W.heap.size W wk)) (fun v3 _ => m - (intOf v3).toNat)
      case atStart => exact ⟨0, _, rfl, rfl, Nat.zero_le _, rfl, BI⟩
      case round =>
        obtain ⟨j, wr, rfl, rfl, hj, HE, HB⟩ := hrel
        obtain ⟨d0, d1⟩ := C0.out wr HB.out
        by_cases hlt : j < m
        · have j1 : j < l.length := by have := M1.out; omega
          obtain ⟨X, o, e1, hX, c1, c2⟩ := A1.out wr (bl3 BW.out HB.out) j j1
          subst e1
          have NX := hid (fun h => all_snoc j1 HE.out (p := edB n) h)
          have NO := hid (fun h => all_no j1 (p := edB n) h)
          have EN : Hid (edB n l[j] = (ndB n l[j].1 && ndB n l[j].2)) := rfl
          have hji : (j : Int) < (m : Nat) := by omega
          have hj0 : (0 : Int) ≤ (j : Nat) := by omega
          generalize l[j].1 = x at *
          generalize l[j].2 = y at *
          have SS : Hid (∀ W', Below wr.heap.size wr W' → W'.cell? ⟨sz, 0, none⟩ = some (.int .i64 n) ∧ W'.cell? ⟨sz, 1, none⟩ = some (.slice (some ⟨X, o, none⟩) m c) ∧ W'.cell? ⟨X, o + j * 2, none⟩ = some (.int .i64 x) ∧ W'.cell? ⟨X, o + j * 2 + 1, none⟩ = some (.int .i64 y)) := fun W' hb => ⟨(C0.out W' (bl3 HB.out hb)).1, (C0.out W' (bl3 HB.out hb)).2, (hb.cell (p := ⟨X, o + j * 2, none⟩) hX).trans c1, (hb.cell (p := ⟨X, o + j * 2 + 1, none⟩) hX).trans c2⟩
          have BD : Hid (Below wr.heap.size wr wr.drew) := drew_below wr 1
          have CX : Hid (∀ W' x', ndB n x = x' → Calls Try.prog 49 #[.agg #[.int .i64 n, .slice (some ⟨X, o, none⟩) m c], .int .i64 x] W' fun e w' => e = .returned (.bool x') ∧ Below W'.heap.size W' w') := fun W' x' h => by have := rnode_any W' n x (some ⟨X, o, none⟩) m c; rw [h] at this; exact this
          have CY : Hid (∀ W' x', ndB n y = x' → Calls Try.prog 49 #[.agg #[.int .i64 n, .slice (some ⟨X, o, none⟩) m c], .int .i64 y] W' fun e w' => e = .returned (.bool x') ∧ Below W'.heap.size W' w') := fun W' x' h => by have := rnode_any W' n y (some ⟨X, o, none⟩) m c; rw [h] at this; exact this
          go_upto_region 8 with fail
          cases hx : ndB n x with
          | false =>
            have HF : Hid (chkG n l = 1) := by show _ = _; rw [HC.out, NO.out (by rw [EN.out, hx]; rfl)]; rfl
            have HX := hid hx
            clear hx
            refine wp_region_held_drew (S := (fun w' => w'.cell? ⟨sz, 0, none⟩ = some (.int .i64 n) ∧ w'.cell? ⟨sz, 1, none⟩ = some (.slice (some ⟨X, o, none⟩) m c) ∧ w'.cell? ⟨X, o + j * 2, none⟩ = some (.int .i64 x) ∧ w'.cell? ⟨X, o + j * 2 + 1, none⟩ = some (.int .i64 y))) (by kernel_rfl) ?_ (fun hHeld => ?_)
            · exact SS.out _ BD.out
            refine wpAnyH_take (i := 0) (oi := { dst := some 23, op := Op.load 24 (Operand.tmp 1), type := 24, pos := "ref.go:18", after := #[], guard := none }) (v := ?_) rfl (by kernel_rfl) (by kernel_rfl) (by kernel_rfl) (fun _ _ _ h => h) (Or.inl ⟨by rfl, ?_⟩) (by assumption) ?_
            rotate_left
            · intro w hSw
              try dsimp only at hSw
              go_simp
              try with_reducible rfl
            try simp only [Act.put, List.setIfInBounds_toArray, List.set_cons_zero, List.set_cons_succ]
            refine wpAnyH_take (i := 1) (oi := { dst := some 24, op := Op.fieldAddr 24 (Operand.tmp 1) 1, type := 0, pos := "ref.go:18", after := #[], guard := none }) (v := ?_) rfl (by kernel_rfl) (by kernel_rfl) (by kernel_rfl) (fun _ _ _ h => h) (Or.inl ⟨by rfl, ?_⟩) (by assumption) ?_
            rotate_left
            · intro w hSw
              try dsimp only at hSw
              go_simp
              try with_reducible rfl
            try simp only [Act.put, List.setIfInBounds_toArray, List.set_cons_zero, List.set_cons_succ]
            refine wpAnyH_take (i := 2) (oi := { dst := some 25, op := Op.load 22 (Operand.tmp 24), type := 22, pos := "ref.go:18", after := #[{ on := 1, ground := Ground.data }], guard := none }) (v := ?_) rfl (by kernel_rfl) (by kernel_rfl) (by kernel_rfl) (fun _ _ _ h => h) (Or.inl ⟨by rfl, ?_⟩) (by assumption) ?_
            rotate_left
            · intro w hSw
              try dsimp only at hSw
              go_simp
              try with_reducible rfl
            try simp only [Act.put, List.setIfInBounds_toArray, List.set_cons_zero, List.set_cons_succ]
            refine wpAnyH_take (i := 3) (oi := { dst := some 26, op := Op.move (Operand.tmp 3), type := 3, pos := "ref.go:18", after := #[], guard := none }) (v := ?_) rfl (by kernel_rfl) (by kernel_rfl) (by kernel_rfl) (fun _ _ _ h => h) (Or.inl ⟨by rfl, ?_⟩) (by assumption) ?_
            rotate_left
            · intro w hSw
              try dsimp only at hSw
              go_simp
              try with_reducible rfl
            try simp only [Act.put, List.setIfInBounds_toArray, List.set_cons_zero, List.set_cons_succ]
            refine wpAnyH_take (i := 4) (oi := { dst := some 27, op := Op.indexAddr 22 (Operand.tmp 25) (Operand.tmp 26), type := 0, pos := "ref.go:18", after := #[{ on := 2, ground := Ground.data }, { on := 3, ground := Ground.data }], guard := none }) (v := ?_) rfl (by kernel_rfl) (by kernel_rfl) (by kernel_rfl) (fun _ _ _ h => h) (Or.inl ⟨by rfl, ?_⟩) (by assumption) ?_
            rotate_left
            · intro w hSw
              try dsimp only at hSw
              go_simp
              try with_reducible rfl
            try simp only [Act.put, List.setIfInBounds_toArray, List.set_cons_zero, List.set_cons_succ]
            refine wpAnyH_take (i := 5) (oi := { dst := some 28, op := Op.fieldAddr 47 (Operand.tmp 27) 0, type := 0, pos := "ref.go:18", after := #[{ on := 4, ground := Ground.data }], guard := none }) (v := ?_) rfl (by kernel_rfl) (by kernel_rfl) (by kernel_rfl) (fun _ _ _ h => h) (Or.inl ⟨by rfl, ?_⟩) (by assumption) ?_
            rotate_left
            · intro w hSw
              try dsimp only at hSw
              go_simp
              try with_reducible rfl
            try simp only [Act.put, List.setIfInBounds_toArray, List.set_cons_zero, List.set_cons_succ]
            refine wpAnyH_take (i := 6) (oi := { dst := some 29, op := Op.load 3 (Operand.tmp 28), type := 3, pos := "ref.go:18", after := #[{ on := 5, ground := Ground.data }], guard := none }) (v := ?_) rfl (by kernel_rfl) (by kernel_rfl) (by kernel_rfl) (fun _ _ _ h => h) (Or.inl ⟨by rfl, ?_⟩) (by assumption) ?_
            rotate_left
            · intro w hSw
              try dsimp only at hSw
              go_simp
              try with_reducible rfl
            try simp only [Act.put, List.setIfInBounds_toArray, List.set_cons_zero, List.set_cons_succ]
            refine wpAnyH_ready (rs := [7]) (by kernel_rfl) (by simp) ?_
            refine AllReadyH.cons (o := { dst := some 30, op := Op.call { callee := Callee.value (Operand.func 49), args := #[Operand.tmp 23, Operand.tmp 29], argTypes := #[24, 3] }, type := 4, pos := "ref.go:18", after := #[{ on := 0, ground := Ground.data }, { on := 6, ground := Ground.data }], guard := none }) rfl (fun K hK => ?_) AllReadyH.nil
            go_simp
            go_at_call 49
            refine (CX.out _ false HX.out).mono ?_
            rintro e w6 ⟨rfl, hb6⟩
            have B6 : Hid (Below wr.heap.size wr w6) := bl3 BD.out hb6
            clear hb6
            go_wp2_with fail
            refine hK.out _ _ ?_ (fun hHeld => ?_)
            · exact SS.out _ B6.out
            clear hK K
            try simp only [Act.put, List.setIfInBounds_toArray, List.set_cons_zero, List.set_cons_succ]
            refine wpAnyH_take (i := 8) (oi := { dst := some 31, op := Op.unOp UnOp.not 4 (Operand.tmp 30), type := 4, pos := "ref.go:18", after := #[{ on := 7, ground := Ground.data }], guard := none }) (v := ?_) rfl (by kernel_rfl) (by kernel_rfl) (by kernel_rfl) (fun _ _ _ h => h) (Or.inl ⟨by rfl, ?_⟩) (by assumption) ?_
            rotate_left
            · intro w hSw
              try dsimp only at hSw
              go_simp
              try with_reducible rfl
            try simp only [Act.put, List.setIfInBounds_toArray, List.set_cons_zero, List.set_cons_succ]
            refine wpAnyH_take (i := 9) (oi := { dst := some 32, op := Op.move (Operand.tmp 31), type := 4, pos := "ref.go:18", after := #[{ on := 8, ground := Ground.data }, { on := 7, ground := Ground.chain }], guard := none }) (v := ?_) rfl (by kernel_rfl) (by kernel_rfl) (by kernel_rfl) (fun _ _ _ h => h) (Or.inl ⟨by rfl, ?_⟩) (by assumption) ?_
            rotate_left
            · intro w hSw
              try dsimp only at hSw
              go_simp
              try with_reducible rfl
            try simp only [Act.put, List.setIfInBounds_toArray, List.set_cons_zero, List.set_cons_succ]
            refine wpAnyH_take (i := 10) (oi := { dst := some 33, op := Op.load 24 (Operand.tmp 1), type := 24, pos := "ref.go:18", after := #[{ on := 9, ground := Ground.guard }], guard := some (9, false) }) (v := undef) rfl (by kernel_rfl) (by kernel_rfl) (by kernel_rfl) (fun _ _ _ h => h) (Or.inr ⟨by rfl, rfl⟩) (by assumption) ?_
            try simp only [Act.put, List.setIfInBounds_toArray, List.set_cons_zero, List.set_cons_succ]
            refine wpAnyH_take (i := 11) (oi := { dst := some 34, op := Op.fieldAddr 24 (Operand.tmp 1) 1, type := 0, pos := "ref.go:18", after := #[{ on := 9, ground := Ground.guard }], guard := some (9, false) }) (v := undef) rfl (by kernel_rfl) (by kernel_rfl) (by kernel_rfl) (fun _ _ _ h => h) (Or.inr ⟨by rfl, rfl⟩) (by assumption) ?_
            try simp only [Act.put, List.setIfInBounds_toArray, List.set_cons_zero, List.set_cons_succ]
            refine wpAnyH_take (i := 12) (oi := { dst := some 35, op := Op.load 22 (Operand.tmp 34), type := 22, pos := "ref.go:18", after := #[{ on := 11, ground := Ground.data }, { on := 9, ground := Ground.guard }], guard := some (9, false) }) (v := undef) rfl (by kernel_rfl) (by kernel_rfl) (by kernel_rfl) (fun _ _ _ h => h) (Or.inr ⟨by rfl, rfl⟩) (by assumption) ?_
            try simp only [Act.put, List.setIfInBounds_toArray, List.set_cons_zero, List.set_cons_succ]
            refine wpAnyH_take (i := 13) (oi := { dst := some 36, op := Op.move (Operand.tmp 3), type := 3, pos := "ref.go:18", after := #[{ on := 9, ground := Ground.guard }], guard := some (9, false) }) (v := undef) rfl (by kernel_rfl) (by kernel_rfl) (by kernel_rfl) (fun _ _ _ h => h) (Or.inr ⟨by rfl, rfl⟩) (by assumption) ?_
            try simp only [Act.put, List.setIfInBounds_toArray, List.set_cons_zero, List.set_cons_succ]
            refine wpAnyH_take (i := 14) (oi := { dst := some 37, op := Op.indexAddr 22 (Operand.tmp 35) (Operand.tmp 36), type := 0, pos := "ref.go:18", after := #[{ on := 12, ground := Ground.data }, { on := 13, ground := Ground.data }, { on := 9, ground := Ground.guard }], guard := some (9, false) }) (v := undef) rfl (by kernel_rfl) (by kernel_rfl) (by kernel_rfl) (fun _ _ _ h => h) (Or.inr ⟨by rfl, rfl⟩) (by assumption) ?_
            try simp only [Act.put, List.setIfInBounds_toArray, List.set_cons_zero, List.set_cons_succ]
            refine wpAnyH_take (i := 15) (oi := { dst := some 38, op := Op.fieldAddr 47 (Operand.tmp 37) 1, type := 0, pos := "ref.go:18", after := #[{ on := 14, ground := Ground.data }, { on := 9, ground := Ground.guard }], guard := some (9, false) }) (v := undef) rfl (by kernel_rfl) (by kernel_rfl) (by kernel_rfl) (fun _ _ _ h => h) (Or.inr ⟨by rfl, rfl⟩) (by assumption) ?_
            try simp only [Act.put, List.setIfInBounds_toArray, List.set_cons_zero, List.set_cons_succ]
            refine wpAnyH_take (i := 16) (oi := { dst := some 39, op := Op.load 3 (Operand.tmp 38), type := 3, pos := "ref.go:18", after := #[{ on := 15, ground := Ground.data }, { on := 9, ground := Ground.guard }], guard := some (9, false) }) (v := undef) rfl (by kernel_rfl) (by kernel_rfl) (by kernel_rfl) (fun _ _ _ h => h) (Or.inr ⟨by rfl, rfl⟩) (by assumption) ?_
            try simp only [Act.put, List.setIfInBounds_toArray, List.set_cons_zero, List.set_cons_succ]
            refine wpAnyH_take (i := 17) (oi := { dst := some 40, op := Op.call { callee := Callee.value (Operand.func 49), args := #[Operand.tmp 33, Operand.tmp 39], argTypes := #[24, 3] }, type := 4, pos := "ref.go:18", after := #[{ on := 10, ground := Ground.data }, { on := 16, ground := Ground.data }, { on := 9, ground := Ground.chain }, { on := 9, ground := Ground.guard }], guard := some (9, false) }) (v := undef) rfl (by kernel_rfl) (by kernel_rfl) (by kernel_rfl) (fun _ _ _ h => h) (Or.inr ⟨by rfl, rfl⟩) (by assumption) ?_
            try simp only [Act.put, List.setIfInBounds_toArray, List.set_cons_zero, List.set_cons_succ]
            refine wpAnyH_take (i := 18) (oi := { dst := some 41, op := Op.unOp UnOp.not 4 (Operand.tmp 40), type := 4, pos := "ref.go:18", after := #[{ on := 17, ground := Ground.data }, { on := 9, ground := Ground.guard }], guard := some (9, false) }) (v := undef) rfl (by kernel_rfl) (by kernel_rfl) (by kernel_rfl) (fun _ _ _ h => h) (Or.inr ⟨by rfl, rfl⟩) (by assumption) ?_
            try simp only [Act.put, List.setIfInBounds_toArray, List.set_cons_zero, List.set_cons_succ]
            refine wpAnyH_take (i := 19) (oi := { dst := some 42, op := Op.pick (Operand.tmp 32) (Operand.const (Value.bool true)) (Operand.tmp 41), type := 4, pos := "ref.go:18", after := #[{ on := 9, ground := Ground.data }, { on := 18, ground := Ground.data }], guard := none }) (v := ?_) rfl (by kernel_rfl) (by kernel_rfl) (by kernel_rfl) (fun _ _ _ h => h) (Or.inl ⟨by rfl, ?_⟩) (by assumption) ?_
            rotate_left
            · intro w hSw
              try dsimp only at hSw
              go_simp
              try with_reducible rfl
            try simp only [Act.put, List.setIfInBounds_toArray, List.set_cons_zero, List.set_cons_succ]
            refine wpAnyH_done (by kernel_rfl) ?_ _
            go_wp2
            go_ret
            exact ⟨ret_i HF.out.symm, bl3 (bl3 BW.out HB.out) B6.out⟩
          | true =>
            have HX := hid hx
            cases hy : ndB n y with
            | false =>
              have HF : Hid (chkG n l = 1) := by show _ = _; rw [HC.out, NO.out (by rw [EN.out, hx, hy]; rfl)]; rfl
              have HY := hid hy
              clear hx hy
              refine wp_region_held_drew (S := (fun w' => w'.cell? ⟨sz, 0, none⟩ = some (.int .i64 n) ∧ w'.cell? ⟨sz, 1, none⟩ = some (.slice (some ⟨X, o, none⟩) m c) ∧ w'.cell? ⟨X, o + j * 2, none⟩ = some (.int .i64 x) ∧ w'.cell? ⟨X, o + j * 2 + 1, none⟩ = some (.int .i64 y))) (by kernel_rfl) ?_ (fun hHeld => ?_)
              · exact SS.out _ BD.out
              refine wpAnyH_take (i := 0) (oi := { dst := some 23, op := Op.load 24 (Operand.tmp 1), type := 24, pos := "ref.go:18", after := #[], guard := none }) (v := ?_) rfl (by kernel_rfl) (by kernel_rfl) (by kernel_rfl) (fun _ _ _ h => h) (Or.inl ⟨by rfl, ?_⟩) (by assumption) ?_
              rotate_left
              · intro w hSw
                try dsimp only at hSw
                go_simp
                try with_reducible rfl
              try simp only [Act.put, List.setIfInBounds_toArray, List.set_cons_zero, List.set_cons_succ]
              refine wpAnyH_take (i := 1) (oi := { dst := some 24, op := Op.fieldAddr 24 (Operand.tmp 1) 1, type := 0, pos := "ref.go:18", after := #[], guard := none }) (v := ?_) rfl (by kernel_rfl) (by kernel_rfl) (by kernel_rfl) (fun _ _ _ h => h) (Or.inl ⟨by rfl, ?_⟩) (by assumption) ?_
              rotate_left
              · intro w hSw
                try dsimp only at hSw
                go_simp
                try with_reducible rfl
              try simp only [Act.put, List.setIfInBounds_toArray, List.set_cons_zero, List.set_cons_succ]
              refine wpAnyH_take (i := 2) (oi := { dst := some 25, op := Op.load 22 (Operand.tmp 24), type := 22, pos := "ref.go:18", after := #[{ on := 1, ground := Ground.data }], guard := none }) (v := ?_) rfl (by kernel_rfl) (by kernel_rfl) (by kernel_rfl) (fun _ _ _ h => h) (Or.inl ⟨by rfl, ?_⟩) (by assumption) ?_
              rotate_left
              · intro w hSw
                try dsimp only at hSw
                go_simp
                try with_reducible rfl
              try simp only [Act.put, List.setIfInBounds_toArray, List.set_cons_zero, List.set_cons_succ]
              refine wpAnyH_take (i := 3) (oi := { dst := some 26, op := Op.move (Operand.tmp 3), type := 3, pos := "ref.go:18", after := #[], guard := none }) (v := ?_) rfl (by kernel_rfl) (by kernel_rfl) (by kernel_rfl) (fun _ _ _ h => h) (Or.inl ⟨by rfl, ?_⟩) (by assumption) ?_
              rotate_left
              · intro w hSw
                try dsimp only at hSw
                go_simp
                try with_reducible rfl
              try simp only [Act.put, List.setIfInBounds_toArray, List.set_cons_zero, List.set_cons_succ]
              refine wpAnyH_take (i := 4) (oi := { dst := some 27, op := Op.indexAddr 22 (Operand.tmp 25) (Operand.tmp 26), type := 0, pos := "ref.go:18", after := #[{ on := 2, ground := Ground.data }, { on := 3, ground := Ground.data }], guard := none }) (v := ?_) rfl (by kernel_rfl) (by kernel_rfl) (by kernel_rfl) (fun _ _ _ h => h) (Or.inl ⟨by rfl, ?_⟩) (by assumption) ?_
              rotate_left
              · intro w hSw
                try dsimp only at hSw
                go_simp
                try with_reducible rfl
              try simp only [Act.put, List.setIfInBounds_toArray, List.set_cons_zero, List.set_cons_succ]
              refine wpAnyH_take (i := 5) (oi := { dst := some 28, op := Op.fieldAddr 47 (Operand.tmp 27) 0, type := 0, pos := "ref.go:18", after := #[{ on := 4, ground := Ground.data }], guard := none }) (v := ?_) rfl (by kernel_rfl) (by kernel_rfl) (by kernel_rfl) (fun _ _ _ h => h) (Or.inl ⟨by rfl, ?_⟩) (by assumption) ?_
              rotate_left
              · intro w hSw
                try dsimp only at hSw
                go_simp
                try with_reducible rfl
              try simp only [Act.put, List.setIfInBounds_toArray, List.set_cons_zero, List.set_cons_succ]
              refine wpAnyH_take (i := 6) (oi := { dst := some 29, op := Op.load 3 (Operand.tmp 28), type := 3, pos := "ref.go:18", after := #[{ on := 5, ground := Ground.data }], guard := none }) (v := ?_) rfl (by kernel_rfl) (by kernel_rfl) (by kernel_rfl) (fun _ _ _ h => h) (Or.inl ⟨by rfl, ?_⟩) (by assumption) ?_
              rotate_left
              · intro w hSw
                try dsimp only at hSw
                go_simp
                try with_reducible rfl
              try simp only [Act.put, List.setIfInBounds_toArray, List.set_cons_zero, List.set_cons_succ]
              refine wpAnyH_ready (rs := [7]) (by kernel_rfl) (by simp) ?_
              refine AllReadyH.cons (o := { dst := some 30, op := Op.call { callee := Callee.value (Operand.func 49), args := #[Operand.tmp 23, Operand.tmp 29], argTypes := #[24, 3] }, type := 4, pos := "ref.go:18", after := #[{ on := 0, ground := Ground.data }, { on := 6, ground := Ground.data }], guard := none }) rfl (fun K hK => ?_) AllReadyH.nil
              go_simp
              go_at_call 49
              refine (CX.out _ true HX.out).mono ?_
              rintro e w6 ⟨rfl, hb6⟩
              have B6 : Hid (Below wr.heap.size wr w6) := bl3 BD.out hb6
              clear hb6
              go_wp2_with fail
              refine hK.out _ _ ?_ (fun hHeld => ?_)
              · exact SS.out _ B6.out
              clear hK K
              try simp only [Act.put, List.setIfInBounds_toArray, List.set_cons_zero, List.set_cons_succ]
              refine wpAnyH_take (i := 8) (oi := { dst := some 31, op := Op.unOp UnOp.not 4 (Operand.tmp 30), type := 4, pos := "ref.go:18", after := #[{ on := 7, ground := Ground.data }], guard := none }) (v := ?_) rfl (by kernel_rfl) (by kernel_rfl) (by kernel_rfl) (fun _ _ _ h => h) (Or.inl ⟨by rfl, ?_⟩) (by assumption) ?_
              rotate_left
              · intro w hSw
                try dsimp only at hSw
                go_simp
                try with_reducible rfl
              try simp only [Act.put, List.setIfInBounds_toArray, List.set_cons_zero, List.set_cons_succ]
              refine wpAnyH_take (i := 9) (oi := { dst := some 32, op := Op.move (Operand.tmp 31), type := 4, pos := "ref.go:18", after := #[{ on := 8, ground := Ground.data }, { on := 7, ground := Ground.chain }], guard := none }) (v := ?_) rfl (by kernel_rfl) (by kernel_rfl) (by kernel_rfl) (fun _ _ _ h => h) (Or.inl ⟨by rfl, ?_⟩) (by assumption) ?_
              rotate_left
              · intro w hSw
                try dsimp only at hSw
                go_simp
                try with_reducible rfl
              try simp only [Act.put, List.setIfInBounds_toArray, List.set_cons_zero, List.set_cons_succ]
              refine wpAnyH_take (i := 10) (oi := { dst := some 33, op := Op.load 24 (Operand.tmp 1), type := 24, pos := "ref.go:18", after := #[{ on := 9, ground := Ground.guard }], guard := some (9, false) }) (v := ?_) rfl (by kernel_rfl) (by kernel_rfl) (by kernel_rfl) (fun _ _ _ h => h) (Or.inl ⟨by rfl, ?_⟩) (by assumption) ?_
              rotate_left
              · intro w hSw
                try dsimp only at hSw
                go_simp
                try with_reducible rfl
              try simp only [Act.put, List.setIfInBounds_toArray, List.set_cons_zero, List.set_cons_succ]
              refine wpAnyH_take (i := 11) (oi := { dst := some 34, op := Op.fieldAddr 24 (Operand.tmp 1) 1, type := 0, pos := "ref.go:18", after := #[{ on := 9, ground := Ground.guard }], guard := some (9, false) }) (v := ?_) rfl (by kernel_rfl) (by kernel_rfl) (by kernel_rfl) (fun _ _ _ h => h) (Or.inl ⟨by rfl, ?_⟩) (by assumption) ?_
              rotate_left
              · intro w hSw
                try dsimp only at hSw
                go_simp
                try with_reducible rfl
              try simp only [Act.put, List.setIfInBounds_toArray, List.set_cons_zero, List.set_cons_succ]
              refine wpAnyH_take (i := 12) (oi := { dst := some 35, op := Op.load 22 (Operand.tmp 34), type := 22, pos := "ref.go:18", after := #[{ on := 11, ground := Ground.data }, { on := 9, ground := Ground.guard }], guard := some (9, false) }) (v := ?_) rfl (by kernel_rfl) (by kernel_rfl) (by kernel_rfl) (fun _ _ _ h => h) (Or.inl ⟨by rfl, ?_⟩) (by assumption) ?_
              rotate_left
              · intro w hSw
                try dsimp only at hSw
                go_simp
                try with_reducible rfl
              try simp only [Act.put, List.setIfInBounds_toArray, List.set_cons_zero, List.set_cons_succ]
              refine wpAnyH_take (i := 13) (oi := { dst := some 36, op := Op.move (Operand.tmp 3), type := 3, pos := "ref.go:18", after := #[{ on := 9, ground := Ground.guard }], guard := some (9, false) }) (v := ?_) rfl (by kernel_rfl) (by kernel_rfl) (by kernel_rfl) (fun _ _ _ h => h) (Or.inl ⟨by rfl, ?_⟩) (by assumption) ?_
              rotate_left
              · intro w hSw
                try dsimp only at hSw
                go_simp
                try with_reducible rfl
              try simp only [Act.put, List.setIfInBounds_toArray, List.set_cons_zero, List.set_cons_succ]
              refine wpAnyH_take (i := 14) (oi := { dst := some 37, op := Op.indexAddr 22 (Operand.tmp 35) (Operand.tmp 36), type := 0, pos := "ref.go:18", after := #[{ on := 12, ground := Ground.data }, { on := 13, ground := Ground.data }, { on := 9, ground := Ground.guard }], guard := some (9, false) }) (v := ?_) rfl (by kernel_rfl) (by kernel_rfl) (by kernel_rfl) (fun _ _ _ h => h) (Or.inl ⟨by rfl, ?_⟩) (by assumption) ?_
              rotate_left
              · intro w hSw
                try dsimp only at hSw
                go_simp
                try with_reducible rfl
              try simp only [Act.put, List.setIfInBounds_toArray, List.set_cons_zero, List.set_cons_succ]
              refine wpAnyH_take (i := 15) (oi := { dst := some 38, op := Op.fieldAddr 47 (Operand.tmp 37) 1, type := 0, pos := "ref.go:18", after := #[{ on := 14, ground := Ground.data }, { on := 9, ground := Ground.guard }], guard := some (9, false) }) (v := ?_) rfl (by kernel_rfl) (by kernel_rfl) (by kernel_rfl) (fun _ _ _ h => h) (Or.inl ⟨by rfl, ?_⟩) (by assumption) ?_
              rotate_left
              · intro w hSw
                try dsimp only at hSw
                go_simp
                try with_reducible rfl
              try simp only [Act.put, List.setIfInBounds_toArray, List.set_cons_zero, List.set_cons_succ]
              refine wpAnyH_take (i := 16) (oi := { dst := some 39, op := Op.load 3 (Operand.tmp 38), type := 3, pos := "ref.go:18", after := #[{ on := 15, ground := Ground.data }, { on := 9, ground := Ground.guard }], guard := some (9, false) }) (v := ?_) rfl (by kernel_rfl) (by kernel_rfl) (by kernel_rfl) (fun _ _ _ h => h) (Or.inl ⟨by rfl, ?_⟩) (by assumption) ?_
              rotate_left
              · intro w hSw
                try dsimp only at hSw
                go_simp
                try with_reducible rfl
              try simp only [Act.put, List.setIfInBounds_toArray, List.set_cons_zero, List.set_cons_succ]
              refine wpAnyH_ready (rs := [17]) (by kernel_rfl) (by simp) ?_
              refine AllReadyH.cons (o := { dst := some 40, op := Op.call { callee := Callee.value (Operand.func 49), args := #[Operand.tmp 33, Operand.tmp 39], argTypes := #[24, 3] }, type := 4, pos := "ref.go:18", after := #[{ on := 10, ground := Ground.data }, { on := 16, ground := Ground.data }, { on := 9, ground := Ground.chain }, { on := 9, ground := Ground.guard }], guard := some (9, false) }) rfl (fun K hK => ?_) AllReadyH.nil
              go_simp
              go_at_call 49
              refine (CY.out _ false HY.out).mono ?_
              rintro e w7 ⟨rfl, hb7⟩
              have B7 : Hid (Below wr.heap.size wr w7) := bl3 B6.out hb7
              clear hb7
              go_wp2_with fail
              refine hK.out _ _ ?_ (fun hHeld => ?_)
              · exact SS.out _ B7.out
              clear hK K
              try simp only [Act.put, List.setIfInBounds_toArray, List.set_cons_zero, List.set_cons_succ]
              refine wpAnyH_take (i := 18) (oi := { dst := some 41, op := Op.unOp UnOp.not 4 (Operand.tmp 40), type := 4, pos := "ref.go:18", after := #[{ on := 17, ground := Ground.data }, { on := 9, ground := Ground.guard }], guard := some (9, false) }) (v := ?_) rfl (by kernel_rfl) (by kernel_rfl) (by kernel_rfl) (fun _ _ _ h => h) (Or.inl ⟨by rfl, ?_⟩) (by assumption) ?_
              rotate_left
              · intro w hSw
                try dsimp only at hSw
                go_simp
                try with_reducible rfl
              try simp only [Act.put, List.setIfInBounds_toArray, List.set_cons_zero, List.set_cons_succ]
              refine wpAnyH_take (i := 19) (oi := { dst := some 42, op := Op.pick (Operand.tmp 32) (Operand.const (Value.bool true)) (Operand.tmp 41), type := 4, pos := "ref.go:18", after := #[{ on := 9, ground := Ground.data }, { on := 18, ground := Ground.data }], guard := none }) (v := ?_) rfl (by kernel_rfl) (by kernel_rfl) (by kernel_rfl) (fun _ _ _ h => h) (Or.inl ⟨by rfl, ?_⟩) (by assumption) ?_
              rotate_left
              · intro w hSw
                try dsimp only at hSw
                go_simp
                try with_reducible rfl
              try simp only [Act.put, List.setIfInBounds_toArray, List.set_cons_zero, List.set_cons_succ]
              refine wpAnyH_done (by kernel_rfl) ?_ _
              go_wp2
              go_ret
              exact ⟨ret_i HF.out.symm, bl3 (bl3 BW.out HB.out) B7.out⟩
            | true =>
              have HF : Hid ((l.take (j + 1)).all (edB n) = true) := NX.out (by rw [EN.out, hx, hy]; rfl)
              have HY := hid hy
              clear hx hy
              refine wp_region_held_drew (S := (fun w' => w'.cell? ⟨sz, 0, none⟩ = some (.int .i64 n) ∧ w'.cell? ⟨sz, 1, none⟩ = some (.slice (some ⟨X, o, none⟩) m c) ∧ w'.cell? ⟨X, o + j * 2, none⟩ = some (.int .i64 x) ∧ w'.cell? ⟨X, o + j * 2 + 1, none⟩ = some (.int .i64 y))) (by kernel_rfl) ?_ (fun hHeld => ?_)
              · exact SS.out _ BD.out
              refine wpAnyH_take (i := 0) (oi := { dst := some 23, op := Op.load 24 (Operand.tmp 1), type := 24, pos := "ref.go:18", after := #[], guard := none }) (v := ?_) rfl (by kernel_rfl) (by kernel_rfl) (by kernel_rfl) (fun _ _ _ h => h) (Or.inl ⟨by rfl, ?_⟩) (by assumption) ?_
              rotate_left
              · intro w hSw
                try dsimp only at hSw
                go_simp
                try with_reducible rfl
              try simp only [Act.put, List.setIfInBounds_toArray, List.set_cons_zero, List.set_cons_succ]
              refine wpAnyH_take (i := 1) (oi := { dst := some 24, op := Op.fieldAddr 24 (Operand.tmp 1) 1, type := 0, pos := "ref.go:18", after := #[], guard := none }) (v := ?_) rfl (by kernel_rfl) (by kernel_rfl) (by kernel_rfl) (fun _ _ _ h => h) (Or.inl ⟨by rfl, ?_⟩) (by assumption) ?_
              rotate_left
              · intro w hSw
                try dsimp only at hSw
                go_simp
                try with_reducible rfl
              try simp only [Act.put, List.setIfInBounds_toArray, List.set_cons_zero, List.set_cons_succ]
              refine wpAnyH_take (i := 2) (oi := { dst := some 25, op := Op.load 22 (Operand.tmp 24), type := 22, pos := "ref.go:18", after := #[{ on := 1, ground := Ground.data }], guard := none }) (v := ?_) rfl (by kernel_rfl) (by kernel_rfl) (by kernel_rfl) (fun _ _ _ h => h) (Or.inl ⟨by rfl, ?_⟩) (by assumption) ?_
              rotate_left
              · intro w hSw
                try dsimp only at hSw
                go_simp
                try with_reducible rfl
              try simp only [Act.put, List.setIfInBounds_toArray, List.set_cons_zero, List.set_cons_succ]
              refine wpAnyH_take (i := 3) (oi := { dst := some 26, op := Op.move (Operand.tmp 3), type := 3, pos := "ref.go:18", after := #[], guard := none }) (v := ?_) rfl (by kernel_rfl) (by kernel_rfl) (by kernel_rfl) (fun _ _ _ h => h) (Or.inl ⟨by rfl, ?_⟩) (by assumption) ?_
              rotate_left
              · intro w hSw
                try dsimp only at hSw
                go_simp
                try with_reducible rfl
              try simp only [Act.put, List.setIfInBounds_toArray, List.set_cons_zero, List.set_cons_succ]
              refine wpAnyH_take (i := 4) (oi := { dst := some 27, op := Op.indexAddr 22 (Operand.tmp 25) (Operand.tmp 26), type := 0, pos := "ref.go:18", after := #[{ on := 2, ground := Ground.data }, { on := 3, ground := Ground.data }], guard := none }) (v := ?_) rfl (by kernel_rfl) (by kernel_rfl) (by kernel_rfl) (fun _ _ _ h => h) (Or.inl ⟨by rfl, ?_⟩) (by assumption) ?_
              rotate_left
              · intro w hSw
                try dsimp only at hSw
                go_simp
                try with_reducible rfl
              try simp only [Act.put, List.setIfInBounds_toArray, List.set_cons_zero, List.set_cons_succ]
              refine wpAnyH_take (i := 5) (oi := { dst := some 28, op := Op.fieldAddr 47 (Operand.tmp 27) 0, type := 0, pos := "ref.go:18", after := #[{ on := 4, ground := Ground.data }], guard := none }) (v := ?_) rfl (by kernel_rfl) (by kernel_rfl) (by kernel_rfl) (fun _ _ _ h => h) (Or.inl ⟨by rfl, ?_⟩) (by assumption) ?_
              rotate_left
              · intro w hSw
                try dsimp only at hSw
                go_simp
                try with_reducible rfl
              try simp only [Act.put, List.setIfInBounds_toArray, List.set_cons_zero, List.set_cons_succ]
              refine wpAnyH_take (i := 6) (oi := { dst := some 29, op := Op.load 3 (Operand.tmp 28), type := 3, pos := "ref.go:18", after := #[{ on := 5, ground := Ground.data }], guard := none }) (v := ?_) rfl (by kernel_rfl) (by kernel_rfl) (by kernel_rfl) (fun _ _ _ h => h) (Or.inl ⟨by rfl, ?_⟩) (by assumption) ?_
              rotate_left
              · intro w hSw
                try dsimp only at hSw
                go_simp
                try with_reducible rfl
              try simp only [Act.put, List.setIfInBounds_toArray, List.set_cons_zero, List.set_cons_succ]
              refine wpAnyH_ready (rs := [7]) (by kernel_rfl) (by simp) ?_
              refine AllReadyH.cons (o := { dst := some 30, op := Op.call { callee := Callee.value (Operand.func 49), args := #[Operand.tmp 23, Operand.tmp 29], argTypes := #[24, 3] }, type := 4, pos := "ref.go:18", after := #[{ on := 0, ground := Ground.data }, { on := 6, ground := Ground.data }], guard := none }) rfl (fun K hK => ?_) AllReadyH.nil
              go_simp
              go_at_call 49
              refine (CX.out _ true HX.out).mono ?_
              rintro e w6 ⟨rfl, hb6⟩
              have B6 : Hid (Below wr.heap.size wr w6) := bl3 BD.out hb6
              clear hb6
              go_wp2_with fail
              refine hK.out _ _ ?_ (fun hHeld => ?_)
              · exact SS.out _ B6.out
              clear hK K
              try simp only [Act.put, List.setIfInBounds_toArray, List.set_cons_zero, List.set_cons_succ]
              refine wpAnyH_take (i := 8) (oi := { dst := some 31, op := Op.unOp UnOp.not 4 (Operand.tmp 30), type := 4, pos := "ref.go:18", after := #[{ on := 7, ground := Ground.data }], guard := none }) (v := ?_) rfl (by kernel_rfl) (by kernel_rfl) (by kernel_rfl) (fun _ _ _ h => h) (Or.inl ⟨by rfl, ?_⟩) (by assumption) ?_
              rotate_left
              · intro w hSw
                try dsimp only at hSw
                go_simp
                try with_reducible rfl
              try simp only [Act.put, List.setIfInBounds_toArray, List.set_cons_zero, List.set_cons_succ]
              refine wpAnyH_take (i := 9) (oi := { dst := some 32, op := Op.move (Operand.tmp 31), type := 4, pos := "ref.go:18", after := #[{ on := 8, ground := Ground.data }, { on := 7, ground := Ground.chain }], guard := none }) (v := ?_) rfl (by kernel_rfl) (by kernel_rfl) (by kernel_rfl) (fun _ _ _ h => h) (Or.inl ⟨by rfl, ?_⟩) (by assumption) ?_
              rotate_left
              · intro w hSw
                try dsimp only at hSw
                go_simp
                try with_reducible rfl
              try simp only [Act.put, List.setIfInBounds_toArray, List.set_cons_zero, List.set_cons_succ]
              refine wpAnyH_take (i := 10) (oi := { dst := some 33, op := Op.load 24 (Operand.tmp 1), type := 24, pos := "ref.go:18", after := #[{ on := 9, ground := Ground.guard }], guard := some (9, false) }) (v := ?_) rfl (by kernel_rfl) (by kernel_rfl) (by kernel_rfl) (fun _ _ _ h => h) (Or.inl ⟨by rfl, ?_⟩) (by assumption) ?_
              rotate_left
              · intro w hSw
                try dsimp only at hSw
                go_simp
                try with_reducible rfl
              try simp only [Act.put, List.setIfInBounds_toArray, List.set_cons_zero, List.set_cons_succ]
              refine wpAnyH_take (i := 11) (oi := { dst := some 34, op := Op.fieldAddr 24 (Operand.tmp 1) 1, type := 0, pos := "ref.go:18", after := #[{ on := 9, ground := Ground.guard }], guard := some (9, false) }) (v := ?_) rfl (by kernel_rfl) (by kernel_rfl) (by kernel_rfl) (fun _ _ _ h => h) (Or.inl ⟨by rfl, ?_⟩) (by assumption) ?_
              rotate_left
              · intro w hSw
                try dsimp only at hSw
                go_simp
                try with_reducible rfl
              try simp only [Act.put, List.setIfInBounds_toArray, List.set_cons_zero, List.set_cons_succ]
              refine wpAnyH_take (i := 12) (oi := { dst := some 35, op := Op.load 22 (Operand.tmp 34), type := 22, pos := "ref.go:18", after := #[{ on := 11, ground := Ground.data }, { on := 9, ground := Ground.guard }], guard := some (9, false) }) (v := ?_) rfl (by kernel_rfl) (by kernel_rfl) (by kernel_rfl) (fun _ _ _ h => h) (Or.inl ⟨by rfl, ?_⟩) (by assumption) ?_
              rotate_left
              · intro w hSw
                try dsimp only at hSw
                go_simp
                try with_reducible rfl
              try simp only [Act.put, List.setIfInBounds_toArray, List.set_cons_zero, List.set_cons_succ]
              refine wpAnyH_take (i := 13) (oi := { dst := some 36, op := Op.move (Operand.tmp 3), type := 3, pos := "ref.go:18", after := #[{ on := 9, ground := Ground.guard }], guard := some (9, false) }) (v := ?_) rfl (by kernel_rfl) (by kernel_rfl) (by kernel_rfl) (fun _ _ _ h => h) (Or.inl ⟨by rfl, ?_⟩) (by assumption) ?_
              rotate_left
              · intro w hSw
                try dsimp only at hSw
                go_simp
                try with_reducible rfl
              try simp only [Act.put, List.setIfInBounds_toArray, List.set_cons_zero, List.set_cons_succ]
              refine wpAnyH_take (i := 14) (oi := { dst := some 37, op := Op.indexAddr 22 (Operand.tmp 35) (Operand.tmp 36), type := 0, pos := "ref.go:18", after := #[{ on := 12, ground := Ground.data }, { on := 13, ground := Ground.data }, { on := 9, ground := Ground.guard }], guard := some (9, false) }) (v := ?_) rfl (by kernel_rfl) (by kernel_rfl) (by kernel_rfl) (fun _ _ _ h => h) (Or.inl ⟨by rfl, ?_⟩) (by assumption) ?_
              rotate_left
              · intro w hSw
                try dsimp only at hSw
                go_simp
                try with_reducible rfl
              try simp only [Act.put, List.setIfInBounds_toArray, List.set_cons_zero, List.set_cons_succ]
              refine wpAnyH_take (i := 15) (oi := { dst := some 38, op := Op.fieldAddr 47 (Operand.tmp 37) 1, type := 0, pos := "ref.go:18", after := #[{ on := 14, ground := Ground.data }, { on := 9, ground := Ground.guard }], guard := some (9, false) }) (v := ?_) rfl (by kernel_rfl) (by kernel_rfl) (by kernel_rfl) (fun _ _ _ h => h) (Or.inl ⟨by rfl, ?_⟩) (by assumption) ?_
              rotate_left
              · intro w hSw
                try dsimp only at hSw
                go_simp
                try with_reducible rfl
              try simp only [Act.put, List.setIfInBounds_toArray, List.set_cons_zero, List.set_cons_succ]
              refine wpAnyH_take (i := 16) (oi := { dst := some 39, op := Op.load 3 (Operand.tmp 38), type := 3, pos := "ref.go:18", after := #[{ on := 15, ground := Ground.data }, { on := 9, ground := Ground.guard }], guard := some (9, false) }) (v := ?_) rfl (by kernel_rfl) (by kernel_rfl) (by kernel_rfl) (fun _ _ _ h => h) (Or.inl ⟨by rfl, ?_⟩) (by assumption) ?_
              rotate_left
              · intro w hSw
                try dsimp only at hSw
                go_simp
                try with_reducible rfl
              try simp only [Act.put, List.setIfInBounds_toArray, List.set_cons_zero, List.set_cons_succ]
              refine wpAnyH_ready (rs := [17]) (by kernel_rfl) (by simp) ?_
              refine AllReadyH.cons (o := { dst := some 40, op := Op.call { callee := Callee.value (Operand.func 49), args := #[Operand.tmp 33, Operand.tmp 39], argTypes := #[24, 3] }, type := 4, pos := "ref.go:18", after := #[{ on := 10, ground := Ground.data }, { on := 16, ground := Ground.data }, { on := 9, ground := Ground.chain }, { on := 9, ground := Ground.guard }], guard := some (9, false) }) rfl (fun K hK => ?_) AllReadyH.nil
              go_simp
              go_at_call 49
              refine (CY.out _ true HY.out).mono ?_
              rintro e w7 ⟨rfl, hb7⟩
              have B7 : Hid (Below wr.heap.size wr w7) := bl3 B6.out hb7
              clear hb7
              go_wp2_with fail
              refine hK.out _ _ ?_ (fun hHeld => ?_)
              · exact SS.out _ B7.out
              clear hK K
              try simp only [Act.put, List.setIfInBounds_toArray, List.set_cons_zero, List.set_cons_succ]
              refine wpAnyH_take (i := 18) (oi := { dst := some 41, op := Op.unOp UnOp.not 4 (Operand.tmp 40), type := 4, pos := "ref.go:18", after := #[{ on := 17, ground := Ground.data }, { on := 9, ground := Ground.guard }], guard := some (9, false) }) (v := ?_) rfl (by kernel_rfl) (by kernel_rfl) (by kernel_rfl) (fun _ _ _ h => h) (Or.inl ⟨by rfl, ?_⟩) (by assumption) ?_
              rotate_left
              · intro w hSw
                try dsimp only at hSw
                go_simp
                try with_reducible rfl
              try simp only [Act.put, List.setIfInBounds_toArray, List.set_cons_zero, List.set_cons_succ]
              refine wpAnyH_take (i := 19) (oi := { dst := some 42, op := Op.pick (Operand.tmp 32) (Operand.const (Value.bool true)) (Operand.tmp 41), type := 4, pos := "ref.go:18", after := #[{ on := 9, ground := Ground.data }, { on := 18, ground := Ground.data }], guard := none }) (v := ?_) rfl (by kernel_rfl) (by kernel_rfl) (by kernel_rfl) (fun _ _ _ h => h) (Or.inl ⟨by rfl, ?_⟩) (by assumption) ?_
              rotate_left
              · intro w hSw
                try dsimp only at hSw
                go_simp
                try with_reducible rfl
              try simp only [Act.put, List.setIfInBounds_toArray, List.set_cons_zero, List.set_cons_succ]
              refine wpAnyH_done (by kernel_rfl) ?_ _
              go_wp2
              go_roundw
              case rel => exact ⟨j + 1, _, by go_num, rfl, by omega, HF, bl3 HB.out B7.out⟩
              case measure => simp [intOf]; omega
        · obtain rfl : j = m := by omega
          have HF : Hid (chkG n l = 0) := by
            have := HE.out
            rw [List.take_of_length_le (by rw [M1.out]; exact Nat.le_refl _)] at this
            show _ = _
            rw [HC.out, this]; rfl
          go_wp2
          go_ret
          exact ⟨ret_i HF.out.symm, bl3 BW.out HB.out⟩
/-- The document's next. -/
theorem tg_take' {E : List (Nat × Nat)} {j i : Nat} (hj : j < E.length) : (E[j].1 = i → nI (tg (E.take (j + 1)) i) = nI (tg (E.take j) i) ++ [(E[j].2 : Int)]) ∧ (¬ E[j].1 = i → nI (tg (E.take (j + 1)) i) = nI (tg (E.take j) i)) := by
  rw [tg_take hj]
  exact ⟨fun h => by rw [if_pos h.symm], fun h => by rw [if_neg (fun e => h e.symm)]⟩
set_option maxHeartbeats 8000000 in
theorem rnext_any (w : World) (N : Nat) (v : Value) (E : List (Nat × Nat)) (hg : GOK N E) (hv : GS KE w v (eI E)) (i : Nat) : Calls Try.prog 41 #[.agg #[.int .i64 N, v], .int .i64 i] w fun e w' => ∃ q c, e = .returned (.slice q (nI (nx N E i)).length c) ∧ OwnG KI w' w.heap.size (.slice q (nI (nx N E i)).length c) (nI (nx N E i)) ∧ Below w.heap.size w w' := by
  obtain ⟨p, c, rfl⟩ := hv.form
  have A1 := hid (fun w' (hb : Below w.heap.size w w') j (hj : j < E.length) => GS.atN (hv.below hb) hj)
  have HG := hid hg
  rw [eI_len]
  obtain ⟨m, hm⟩ : ∃ m, m = E.length := ⟨_, rfl⟩
  rw [← hm]
  have M1 : Hid (E.length = m) := hm.symm
  have a4 : m ≤ 16384 := by have := hg.e; omega
  have TL := hid (fun j => tg_len (E.take j) i)
  clear hm hv hg
  go_enter Try.func41, Try.ntmps41
  go_wp2
  generalize hW : w.alloc (.cells #[.int .i64 N, .slice p m c] 24) = W at *
  have BW : Hid (Below w.heap.size w W) := by rw [← hW]; exact bal _ _
  have SW : Hid (W.heap.size = w.heap.size + 1) := by show _ = _; rw [← hW, asz]
  have C0 : Hid (∀ W', Below W.heap.size W W' → W'.cell? ⟨w.heap.size, 0, none⟩ = some (.int .i64 N) ∧ W'.cell? ⟨w.heap.size, 1, none⟩ = some (.slice p m c)) := fun W' hb => by
    have e : W'.heap[w.heap.size]? = some (.cells #[.int .i64 N, .slice p m c] 24) := (hb.block _ (by rw [← hW, asz]; omega)).trans (by rw [← hW]; exact heap_alloc_new _ _)
    exact ⟨cell_of_row _ _ _ _ _ _ e, cell_of_row _ _ _ _ _ _ e⟩
  have O0 : Hid (OwnG KI (W.alloc (.cells #[] 3)) W.heap.size (.slice (some ⟨W.heap.size, 0, none⟩) 0 0) []) := OwnG.empty KI W
  have BA : Hid (Below W.heap.size W (W.alloc (.cells #[] 3))) := bal _ _
  rw [← SW.out]
  obtain ⟨sz, hsz⟩ : ∃ sz, sz = w.heap.size := ⟨_, rfl⟩
  rw [← hsz] at C0 ⊢
  clear hW hsz
  go_loopw [5, 6] (fun v5 v6 wr => ∃ (j : Nat) (R : List Int) (q : Option Addr) (d : Nat) (wk : World), v6 = .int .i64 j ∧ v5 = .slice q R.length d ∧ wk = wr ∧ j ≤ m ∧ Hid (R = nI (tg (E.take j) i)) ∧ Hid (OwnG KI wk W.heap.size (.slice q R.length d) R) ∧ Hid (Below W.heap.size W wk)) (fun _ v6 _ => m - (intOf v6).toNat)
  case atStart => exact ⟨0, [], _, _, _, rfl, rfl, rfl, Nat.zero_le _, rfl, O0, BA⟩
  case round =>
    obtain ⟨j, R, q, d, wr, rfl, rfl, rfl, hj, HR, HO, HB⟩ := hrel
    clear O0 BA
    obtain ⟨d0, d1⟩ := C0.out wr HB.out
    have RL : R.length ≤ 16384 := by rw [HR.out, nI_len]; have := TL.out j; rw [List.length_take] at this; omega
    by_cases hlt : j < m
    · have j1 : j < E.length := by have := M1.out; omega
      obtain ⟨X, o, e1, c1, c2⟩ := A1.out wr (bl3 BW.out HB.out) j j1
      subst e1
      have TT := hid (tg_take' (i := i) j1)
      have LS : Hid ((R.length + 1) * KI.B ≤ 140737488355328) := by show (_ + 1) * 8 ≤ _; omega
      have hji : (j : Int) < (m : Nat) := by omega
      generalize E[j].1 = f at *
      generalize E[j].2 = t at *
      by_cases hf : f = i
      · subst hf
        have R2 : Hid (R ++ [(t : Int)] = nI (tg (E.take (j + 1)) f)) := by show _ = _; rw [TT.out.1 rfl, HR.out]
        go_wp2_with (at_builtin; refine append_g KI KI_ok rfl (.tmp 23) (.tmp 30) 25 rfl W.heap.size Try.underlying25 wr _ _ (.slice q R.length d) R (t : Int) _ rfl HO.out wr.heap.size rfl rfl rfl LS.out HB.out.size ?_; intro g5 cp5 w5 ho5 hb5 _ _; have O5 := hid ho5; have B5 := hid (HB.out.trans hb5); clear ho5 hb5)
        go_roundw
        case rel => exact ⟨j + 1, R ++ [(t : Int)], some ⟨g5, 0, none⟩, cp5, _, by go_num, by rw [List.length_append]; rfl, rfl, by omega, R2, by rw [List.length_append]; exact O5.out, B5⟩
        case measure => simp [intOf]; omega
      · have R2 : Hid (R = nI (tg (E.take (j + 1)) i)) := by show _ = _; rw [TT.out.2 hf, HR.out]
        have b1 : ((f : Int) == (i : Nat)) = false := by simp; omega
        have b2 : ¬ (f : Int) = (i : Nat) := by omega
        clear hf
        go_wp2
        go_roundw
        case rel => exact ⟨j + 1, R, _, _, _, by go_num, rfl, rfl, by omega, R2, HO, HB⟩
        case measure => simp [intOf]; omega
    · obtain rfl : j = m := by omega
      have RI := hid ((rising_any _ R wr (HO.out.gs KI_ok.len) (by omega)).mono (R' := fun e w' => ∃ q c, e = .returned (.slice q (nI (nx N E i)).length c) ∧ OwnG KI w' wr.heap.size (.slice q (nI (nx N E i)).length c) (nI (nx N E i)) ∧ Below wr.heap.size wr w') fun e w' ⟨M, q, c, h1, h2, h3, h4⟩ => by
        have e2 : M = nI (nx N E i) := nx_of HG.out h3.up fun x => by rw [h3.mem, HR.out, List.take_of_length_le (by rw [M1.out]; exact Nat.le_refl _)]
        subst e2
        exact ⟨q, c, h1, h2, h4⟩)
      have SL : Hid (w.heap.size ≤ wr.heap.size) := (bl3 BW.out HB.out).size
      have BF := hid (bl3 BW.out HB.out)
      go_wp2_with (go_at_call 66; refine RI.out.mono ?_; rintro e w6 ⟨q6, c6, rfl, ho6, hb6⟩; have O6 := hid ho6; have B6 := hid hb6; clear ho6 hb6)
      go_ret
      exact ⟨q6, c6, rfl, O6.out.low SL.out, bl3 BF.out B6.out⟩
end Go.Proofs.Ytghkhceplpjegaa
