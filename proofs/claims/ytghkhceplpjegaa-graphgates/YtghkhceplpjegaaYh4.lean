/- Graph: the document's order, walked. -/
import Derived.Test.YtghkhceplpjegaaYh3
namespace Go.Proofs.Ytghkhceplpjegaa
open Go.RowKit

set_option maxRecDepth 100000 in
set_option maxHeartbeats 32000000 in
theorem rOrder_any (w : World) (n : Int) (v : Value) (l : List (Int × Int)) (hv : GS KE w v l) : Calls Try.prog 38 #[.agg #[.int .i64 n, v]] w fun e w' => AnsI w (orA n l) (orE n l) e w' := by
  obtain ⟨p, c, rfl⟩ := hv.form
  generalize hW : w.alloc (.cells #[.int .i64 n, .slice p l.length c] 24) = W
  obtain ⟨bw, c0⟩ := graph_box w n p l.length c hW
  have BW := hid bw
  have C0 := hid c0
  have CK := hid (rRound_any W n _ l (hv.below bw))
  obtain ⟨d0, d1⟩ := c0 W (Below.refl _ _)
  clear bw c0
  by_cases h0 : chkG n l = 0
  · obtain ⟨N, E, rfl, rfl, hg⟩ := chkG_ok h0
    rw [h0, rnA_ok hg] at CK
    have GB := hid (fun w' (hb : Below w.heap.size w w') j (hj : j < E.length) => GS.atN (hv.below hb) hj)
    rw [eI_len] at C0 CK d1 hW ⊢
    have HG := hid hg
    unfold AnsI at CK
    by_cases hr : rnL N E = []
    · rw [hr] at CK
      obtain ⟨kD, lD⟩ := orL_ko hg hr
      rw [(orE_yes hg hr).1, (orE_yes hg hr).2]
      have OI := hid (fun D (h : KO N E D) (e : D.length = N) => orL_is h e)
      have HR := hid (rn_nil.1 hr)
      have NB : N ≤ 4096 := hg.n
      have a4 := hg.e
      have EL2 := hid (fun e (he : e ∈ E) => HG.out.lt e he)
      obtain ⟨el, hel⟩ : ∃ el, el = E.length := ⟨_, rfl⟩
      have ME : Hid (E.length = el) := hel.symm
      rw [← hel] at C0 CK d1 hW a4 ⊢
      have CZ : (nI []).length = 0 := rfl
      rw [CZ] at CK
      clear CZ h0 hg hv hel kD lD hr
      go_enter Try.func38, Try.ntmps38
      go_upto_region 6 with (go_at_call 40; refine CK.out.mono ?_; rintro e w6 ⟨q6, c6, rfl, _, b6⟩; have B6 := hid b6; obtain ⟨g0, g1⟩ := C0.out _ b6; clear b6)
      go_upto_region 7 with (refine make_g KI KI_ok 0 rfl rfl w6 rfl (.tmp 25) (.tmp 25) 25 rfl Try.underlying25 N rfl rfl (by omega) (by decide) ?_; intro w1 ho1 hb1; have C1 : Hid (CT w6 w6.heap.size N w1 (fun x => (elE (E.take 0) [] x : Nat))) := ⟨hb1, (LFR.zero ho1).eq fun x => by rw [List.take_zero, elE_nil]; rfl⟩; clear ho1 hb1)
      obtain ⟨X, hX⟩ : ∃ X, X = w6.heap.size := ⟨_, rfl⟩
      rw [← hX] at C1 ⊢
      have WV : Hid (Below w.heap.size w w6) := bl3 BW.out B6.out
      obtain ⟨sz, hsz⟩ : ∃ sz, sz = w.heap.size := ⟨_, rfl⟩
      have SZ : Hid (sz < w6.heap.size) := by show _ < _; rw [hsz]; have := B6.out.size; have e : w.heap.size < W.heap.size := by rw [← hW, asz]; omega
                                              omega
      have GC0 : Hid (∀ W', Below w6.heap.size w6 W' → W'.cell? ⟨sz, 0, none⟩ = some (.int .i64 N) ∧ W'.cell? ⟨sz, 1, none⟩ = some (.slice p el c)) := fun W' hb => by rw [hsz]; exact C0.out W' (bl3 B6.out hb)
      rw [← hsz] at g0 g1 ⊢
      clear hX hsz C0 CK BW hW d0 d1 B6 g0 g1
      go_wp2_with fail
      go_loopw [7] (fun v7 wr => ∃ (i : Nat) (wk : World), v7 = .int .i64 i ∧ wk = wr ∧ i ≤ el ∧ Hid (CT w6 X N wk (fun x => (elE (E.take i) [] x : Nat)))) (fun v7 _ => el - (intOf v7).toNat)
      case atStart => exact ⟨0, _, rfl, rfl, Nat.zero_le _, C1⟩
      case round =>
        obtain ⟨i, wr, rfl, rfl, hi, HC⟩ := hrel
        clear C1
        obtain ⟨d0, d1⟩ := GC0.out wr HC.out.bl
        by_cases hlt : i < el
        · have i1 : i < E.length := by have := ME.out; omega
          obtain ⟨Y, o, e1, c1, c2⟩ := GB.out wr (bl3 WV.out HC.out.bl) i i1
          subst e1
          have hy : E[i].2 < N := (EL2.out _ (List.getElem_mem i1)).2
          obtain ⟨f1, f2⟩ := HC.out.lf.at hy
          have N2 := hid (HC.out.edge i1)
          have fb : elE (E.take i) [] E[i].2 ≤ 16384 := by have := elE_le (E.take i) [] E[i].2; rw [List.length_take] at this; omega
          generalize elE (E.take i) [] E[i].2 = fy at *
          generalize E[i].1 = yf at *
          generalize E[i].2 = y at *
          have hyi : (y : Int) < (N : Nat) := by omega
          have hii : (i : Int) < (el : Nat) := by omega
          clear HC
          go_wp2_with fail
          go_roundw
          case rel => exact ⟨i + 1, _, by go_num, rfl, by omega, N2⟩
          case measure => simp [intOf]; omega
        · obtain rfl : i = el := by omega
          have C2 : Hid (CT w6 X N wr (fun x => (elE E [] x : Nat))) := by
            have := HC.out
            rw [List.take_of_length_le (by rw [ME.out]; exact Nat.le_refl _)] at this
            exact this
          clear HC
          go_upto_region 12 with (refine make_g KS KS_ok sl0 rfl rfl wr rfl (.tmp 46) (.tmp 46) 42 rfl Try.underlying42 N rfl rfl (by omega) (by decide) ?_; intro w2 ho2 hb2; have J0 := hid ((OL.start C2.out hb2 ho2).imp (Q := fun i => nI (tg (E.take 0) i)) fun i _ => rfl); clear ho2 hb2)
          obtain ⟨lb, hlb⟩ : ∃ lb, lb = wr.heap.size := ⟨_, rfl⟩
          rw [← hlb] at J0 ⊢
          clear hlb d0 d1 C2
          go_wp2_with fail
          go_loopw [9] (fun v9 wl => ∃ (j : Nat) (vs : List Sl) (wk : World), v9 = .int .i64 j ∧ wk = wl ∧ j ≤ i ∧ Hid (OL w6 N X lb vs (fun i => nI (tg (E.take j) i)) (fun x => (elE E [] x : Nat)) wk)) (fun v9 _ => i - (intOf v9).toNat)
          case atStart => exact ⟨0, _, _, rfl, rfl, Nat.zero_le _, J0⟩
          case round =>
            obtain ⟨k, vs, wl, rfl, rfl, hk, HJ⟩ := hrel
            clear J0
            obtain ⟨d0, d1⟩ := GC0.out wl HJ.out.bl
            by_cases hlt2 : k < i
            · have k1 : k < E.length := by have := ME.out; omega
              obtain ⟨Y, o, e1, c1, c2⟩ := GB.out wl (bl3 WV.out HJ.out.bl) k k1
              subst e1
              have hf : E[k].1 < N := (EL2.out _ (List.getElem_mem k1)).1
              have hki : (k : Int) < (i : Nat) := by omega
              have hk0 : (0 : Int) ≤ (k : Nat) := by omega
              obtain ⟨pp, cc, q1, q2, q3⟩ := HJ.out.lz.at hf
              have hrl : (nI (tg (E.take k) E[k].1)).length ≤ 16384 := by rw [nI_len]; have := tg_len (E.take k) E[k].1; rw [List.length_take] at this; omega
              have LP := hid (fun w1 w8 g8 c8 (h1 : Below wl.heap.size wl w1) => HJ.out.lane (w1 := w1) (w8 := w8) (g8 := g8) (c8 := c8) k1 hf q2 h1)
              have OW := hid q3
              have BJ := hid HJ.out.bl
              have GC : Hid (∀ W', Below w6.heap.size w6 W' → W'.cell? ⟨sz, 1, none⟩ = some (.slice (some ⟨Y, o, none⟩) i c) ∧ W'.cell? ⟨Y, o + k * 2, none⟩ = some (.int .i64 (E[k].1 : Nat)) ∧ W'.cell? ⟨Y, o + k * 2 + 1, none⟩ = some (.int .i64 (E[k].2 : Nat))) := fun W' hb => by
                obtain ⟨X2, o2, e2, y1, y2⟩ := GB.out W' (bl3 WV.out hb) k k1
                injection e2 with e2
                injection e2 with e2 e3 _
                subst e2 e3
                exact ⟨(GC0.out W' hb).2, y1, y2⟩
              have hbb := HJ.out.lz.bb
              have NB2 : Hid (lb ≠ sz) := by have := hbb.1; have := SZ.out; show _ ≠ _; omega
              generalize nI (tg (E.take k) E[k].1) = row at *
              generalize E[k].1 = f at *
              generalize E[k].2 = t at *
              have hfi : (f : Int) < (N : Nat) := by omega
              have hf0 : (0 : Int) ≤ (f : Nat) := by omega
              have LS : Hid ((row.length + 1) * KI.B ≤ 140737488355328) := by show (_ + 1) * 8 ≤ _; omega
              have z2 : ∀ ob, (wl.alloc ob).cell? ⟨lb, f, none⟩ = some (.slice pp row.length cc) := fun ob => ((bal wl ob).cell (p := ⟨lb, f, none⟩) hbb.2).trans q1
              have BD : Hid (Below wl.heap.size wl wl.drew) := drew_below wl 1
              have BZ : Hid (w6.heap.size ≤ wl.heap.size) := HJ.out.bl.size
              have GS2 : Hid (∀ w8 g c8, Below w6.heap.size w6 w8 → w6.heap.size ≤ lb → Below w6.heap.size w6 (w8.setCell ⟨lb, f, none⟩ (.slice (some ⟨g, 0, none⟩) (row.length + 1) c8))) := fun w8 g c8 hb hl => hb.setCell (p := ⟨lb, f, none⟩) hl _
              clear q2 q3
              go_wp2_with fail
              refine wp_region_held_drew (S := (fun w' => w'.cell? ⟨sz, 1, none⟩ = some (.slice (some ⟨Y, o, none⟩) i c) ∧ w'.cell? ⟨Y, o + k * 2, none⟩ = some (.int .i64 f) ∧ w'.cell? ⟨Y, o + k * 2 + 1, none⟩ = some (.int .i64 t))) (by kernel_rfl) ?_ (fun hHeld => ?_)
              · exact GC.out _ (bl3 BJ.out BD.out)
              refine wpAnyH_take (i := 0) (oi := { dst := some 55, op := Op.move (Operand.tmp 8), type := 42, pos := "ref.go:230", after := #[], guard := none }) (v := ?_) rfl (by kernel_rfl) (by kernel_rfl) (by kernel_rfl) (fun _ _ _ h => h) (Or.inl ⟨by rfl, ?_⟩) (by assumption) ?_
              rotate_left
              · intro w hSw
                try dsimp only at hSw
                go_simp
                try with_reducible rfl
              try simp only [Act.put, List.setIfInBounds_toArray, List.set_cons_zero, List.set_cons_succ]
              refine wpAnyH_take (i := 1) (oi := { dst := some 56, op := Op.fieldAddr 24 (Operand.tmp 1) 1, type := 0, pos := "ref.go:230", after := #[], guard := none }) (v := ?_) rfl (by kernel_rfl) (by kernel_rfl) (by kernel_rfl) (fun _ _ _ h => h) (Or.inl ⟨by rfl, ?_⟩) (by assumption) ?_
              rotate_left
              · intro w hSw
                try dsimp only at hSw
                go_simp
                try with_reducible rfl
              try simp only [Act.put, List.setIfInBounds_toArray, List.set_cons_zero, List.set_cons_succ]
              refine wpAnyH_take (i := 2) (oi := { dst := some 57, op := Op.load 22 (Operand.tmp 56), type := 22, pos := "ref.go:230", after := #[{ on := 1, ground := Ground.data }], guard := none }) (v := ?_) rfl (by kernel_rfl) (by kernel_rfl) (by kernel_rfl) (fun _ _ _ h => h) (Or.inl ⟨by rfl, ?_⟩) (by assumption) ?_
              rotate_left
              · intro w hSw
                try dsimp only at hSw
                go_simp
                try with_reducible rfl
              try simp only [Act.put, List.setIfInBounds_toArray, List.set_cons_zero, List.set_cons_succ]
              refine wpAnyH_take (i := 3) (oi := { dst := some 58, op := Op.move (Operand.tmp 9), type := 3, pos := "ref.go:230", after := #[], guard := none }) (v := ?_) rfl (by kernel_rfl) (by kernel_rfl) (by kernel_rfl) (fun _ _ _ h => h) (Or.inl ⟨by rfl, ?_⟩) (by assumption) ?_
              rotate_left
              · intro w hSw
                try dsimp only at hSw
                go_simp
                try with_reducible rfl
              try simp only [Act.put, List.setIfInBounds_toArray, List.set_cons_zero, List.set_cons_succ]
              refine wpAnyH_take (i := 4) (oi := { dst := some 59, op := Op.indexAddr 22 (Operand.tmp 57) (Operand.tmp 58), type := 0, pos := "ref.go:230", after := #[{ on := 2, ground := Ground.data }, { on := 3, ground := Ground.data }], guard := none }) (v := ?_) rfl (by kernel_rfl) (by kernel_rfl) (by kernel_rfl) (fun _ _ _ h => h) (Or.inl ⟨by rfl, ?_⟩) (by assumption) ?_
              rotate_left
              · intro w hSw
                try dsimp only at hSw
                go_simp
                try with_reducible rfl
              try simp only [Act.put, List.setIfInBounds_toArray, List.set_cons_zero, List.set_cons_succ]
              refine wpAnyH_take (i := 5) (oi := { dst := some 60, op := Op.fieldAddr 47 (Operand.tmp 59) 0, type := 0, pos := "ref.go:230", after := #[{ on := 4, ground := Ground.data }], guard := none }) (v := ?_) rfl (by kernel_rfl) (by kernel_rfl) (by kernel_rfl) (fun _ _ _ h => h) (Or.inl ⟨by rfl, ?_⟩) (by assumption) ?_
              rotate_left
              · intro w hSw
                try dsimp only at hSw
                go_simp
                try with_reducible rfl
              try simp only [Act.put, List.setIfInBounds_toArray, List.set_cons_zero, List.set_cons_succ]
              refine wpAnyH_take (i := 6) (oi := { dst := some 61, op := Op.load 3 (Operand.tmp 60), type := 3, pos := "ref.go:230", after := #[{ on := 5, ground := Ground.data }], guard := none }) (v := ?_) rfl (by kernel_rfl) (by kernel_rfl) (by kernel_rfl) (fun _ _ _ h => h) (Or.inl ⟨by rfl, ?_⟩) (by assumption) ?_
              rotate_left
              · intro w hSw
                try dsimp only at hSw
                go_simp
                try with_reducible rfl
              try simp only [Act.put, List.setIfInBounds_toArray, List.set_cons_zero, List.set_cons_succ]
              refine wpAnyH_take (i := 7) (oi := { dst := some 62, op := Op.move (Operand.tmp 8), type := 42, pos := "ref.go:230", after := #[], guard := none }) (v := ?_) rfl (by kernel_rfl) (by kernel_rfl) (by kernel_rfl) (fun _ _ _ h => h) (Or.inl ⟨by rfl, ?_⟩) (by assumption) ?_
              rotate_left
              · intro w hSw
                try dsimp only at hSw
                go_simp
                try with_reducible rfl
              try simp only [Act.put, List.setIfInBounds_toArray, List.set_cons_zero, List.set_cons_succ]
              refine wpAnyH_take (i := 8) (oi := { dst := some 63, op := Op.fieldAddr 24 (Operand.tmp 1) 1, type := 0, pos := "ref.go:230", after := #[], guard := none }) (v := ?_) rfl (by kernel_rfl) (by kernel_rfl) (by kernel_rfl) (fun _ _ _ h => h) (Or.inl ⟨by rfl, ?_⟩) (by assumption) ?_
              rotate_left
              · intro w hSw
                try dsimp only at hSw
                go_simp
                try with_reducible rfl
              try simp only [Act.put, List.setIfInBounds_toArray, List.set_cons_zero, List.set_cons_succ]
              refine wpAnyH_take (i := 9) (oi := { dst := some 64, op := Op.load 22 (Operand.tmp 63), type := 22, pos := "ref.go:230", after := #[{ on := 8, ground := Ground.data }], guard := none }) (v := ?_) rfl (by kernel_rfl) (by kernel_rfl) (by kernel_rfl) (fun _ _ _ h => h) (Or.inl ⟨by rfl, ?_⟩) (by assumption) ?_
              rotate_left
              · intro w hSw
                try dsimp only at hSw
                go_simp
                try with_reducible rfl
              try simp only [Act.put, List.setIfInBounds_toArray, List.set_cons_zero, List.set_cons_succ]
              refine wpAnyH_take (i := 10) (oi := { dst := some 65, op := Op.move (Operand.tmp 9), type := 3, pos := "ref.go:230", after := #[], guard := none }) (v := ?_) rfl (by kernel_rfl) (by kernel_rfl) (by kernel_rfl) (fun _ _ _ h => h) (Or.inl ⟨by rfl, ?_⟩) (by assumption) ?_
              rotate_left
              · intro w hSw
                try dsimp only at hSw
                go_simp
                try with_reducible rfl
              try simp only [Act.put, List.setIfInBounds_toArray, List.set_cons_zero, List.set_cons_succ]
              refine wpAnyH_take (i := 11) (oi := { dst := some 66, op := Op.indexAddr 22 (Operand.tmp 64) (Operand.tmp 65), type := 0, pos := "ref.go:230", after := #[{ on := 9, ground := Ground.data }, { on := 10, ground := Ground.data }], guard := none }) (v := ?_) rfl (by kernel_rfl) (by kernel_rfl) (by kernel_rfl) (fun _ _ _ h => h) (Or.inl ⟨by rfl, ?_⟩) (by assumption) ?_
              rotate_left
              · intro w hSw
                try dsimp only at hSw
                go_simp
                try with_reducible rfl
              try simp only [Act.put, List.setIfInBounds_toArray, List.set_cons_zero, List.set_cons_succ]
              refine wpAnyH_take (i := 12) (oi := { dst := some 67, op := Op.fieldAddr 47 (Operand.tmp 66) 0, type := 0, pos := "ref.go:230", after := #[{ on := 11, ground := Ground.data }], guard := none }) (v := ?_) rfl (by kernel_rfl) (by kernel_rfl) (by kernel_rfl) (fun _ _ _ h => h) (Or.inl ⟨by rfl, ?_⟩) (by assumption) ?_
              rotate_left
              · intro w hSw
                try dsimp only at hSw
                go_simp
                try with_reducible rfl
              try simp only [Act.put, List.setIfInBounds_toArray, List.set_cons_zero, List.set_cons_succ]
              refine wpAnyH_take (i := 13) (oi := { dst := some 68, op := Op.load 3 (Operand.tmp 67), type := 3, pos := "ref.go:230", after := #[{ on := 12, ground := Ground.data }], guard := none }) (v := ?_) rfl (by kernel_rfl) (by kernel_rfl) (by kernel_rfl) (fun _ _ _ h => h) (Or.inl ⟨by rfl, ?_⟩) (by assumption) ?_
              rotate_left
              · intro w hSw
                try dsimp only at hSw
                go_simp
                try with_reducible rfl
              try simp only [Act.put, List.setIfInBounds_toArray, List.set_cons_zero, List.set_cons_succ]
              refine wpAnyH_take (i := 14) (oi := { dst := some 69, op := Op.indexAddr 42 (Operand.tmp 62) (Operand.tmp 68), type := 0, pos := "ref.go:230", after := #[{ on := 7, ground := Ground.data }, { on := 13, ground := Ground.data }], guard := none }) (v := ?_) rfl (by kernel_rfl) (by kernel_rfl) (by kernel_rfl) (fun _ _ _ h => h) (Or.inl ⟨by rfl, ?_⟩) (by assumption) ?_
              rotate_left
              · intro w hSw
                try dsimp only at hSw
                go_simp
                try with_reducible rfl
              try simp only [Act.put, List.setIfInBounds_toArray, List.set_cons_zero, List.set_cons_succ]
              refine wpAnyH_take (i := 16) (oi := { dst := some 71, op := Op.fieldAddr 24 (Operand.tmp 1) 1, type := 0, pos := "ref.go:230", after := #[], guard := none }) (v := ?_) rfl (by kernel_rfl) (by kernel_rfl) (by kernel_rfl) (fun _ _ _ h => h) (Or.inl ⟨by rfl, ?_⟩) (by assumption) ?_
              rotate_left
              · intro w hSw
                try dsimp only at hSw
                go_simp
                try with_reducible rfl
              try simp only [Act.put, List.setIfInBounds_toArray, List.set_cons_zero, List.set_cons_succ]
              refine wpAnyH_take (i := 17) (oi := { dst := some 72, op := Op.load 22 (Operand.tmp 71), type := 22, pos := "ref.go:230", after := #[{ on := 16, ground := Ground.data }], guard := none }) (v := ?_) rfl (by kernel_rfl) (by kernel_rfl) (by kernel_rfl) (fun _ _ _ h => h) (Or.inl ⟨by rfl, ?_⟩) (by assumption) ?_
              rotate_left
              · intro w hSw
                try dsimp only at hSw
                go_simp
                try with_reducible rfl
              try simp only [Act.put, List.setIfInBounds_toArray, List.set_cons_zero, List.set_cons_succ]
              refine wpAnyH_take (i := 18) (oi := { dst := some 73, op := Op.move (Operand.tmp 9), type := 3, pos := "ref.go:230", after := #[], guard := none }) (v := ?_) rfl (by kernel_rfl) (by kernel_rfl) (by kernel_rfl) (fun _ _ _ h => h) (Or.inl ⟨by rfl, ?_⟩) (by assumption) ?_
              rotate_left
              · intro w hSw
                try dsimp only at hSw
                go_simp
                try with_reducible rfl
              try simp only [Act.put, List.setIfInBounds_toArray, List.set_cons_zero, List.set_cons_succ]
              refine wpAnyH_take (i := 19) (oi := { dst := some 74, op := Op.indexAddr 22 (Operand.tmp 72) (Operand.tmp 73), type := 0, pos := "ref.go:230", after := #[{ on := 17, ground := Ground.data }, { on := 18, ground := Ground.data }], guard := none }) (v := ?_) rfl (by kernel_rfl) (by kernel_rfl) (by kernel_rfl) (fun _ _ _ h => h) (Or.inl ⟨by rfl, ?_⟩) (by assumption) ?_
              rotate_left
              · intro w hSw
                try dsimp only at hSw
                go_simp
                try with_reducible rfl
              try simp only [Act.put, List.setIfInBounds_toArray, List.set_cons_zero, List.set_cons_succ]
              refine wpAnyH_take (i := 20) (oi := { dst := some 75, op := Op.fieldAddr 47 (Operand.tmp 74) 1, type := 0, pos := "ref.go:230", after := #[{ on := 19, ground := Ground.data }], guard := none }) (v := ?_) rfl (by kernel_rfl) (by kernel_rfl) (by kernel_rfl) (fun _ _ _ h => h) (Or.inl ⟨by rfl, ?_⟩) (by assumption) ?_
              rotate_left
              · intro w hSw
                try dsimp only at hSw
                go_simp
                try with_reducible rfl
              try simp only [Act.put, List.setIfInBounds_toArray, List.set_cons_zero, List.set_cons_succ]
              refine wpAnyH_take (i := 21) (oi := { dst := some 76, op := Op.load 3 (Operand.tmp 75), type := 3, pos := "ref.go:230", after := #[{ on := 20, ground := Ground.data }], guard := none }) (v := ?_) rfl (by kernel_rfl) (by kernel_rfl) (by kernel_rfl) (fun _ _ _ h => h) (Or.inl ⟨by rfl, ?_⟩) (by assumption) ?_
              rotate_left
              · intro w hSw
                try dsimp only at hSw
                go_simp
                try with_reducible rfl
              try simp only [Act.put, List.setIfInBounds_toArray, List.set_cons_zero, List.set_cons_succ]
              refine wpAnyH_ready (rs := [15, 22]) (by kernel_rfl) (by simp) ?_
              refine (AllReadyH.cons (o := { dst := some 70, op := Op.load 25 (Operand.tmp 69), type := 25, pos := "ref.go:230", after := #[{ on := 14, ground := Ground.data }], guard := none }) rfl (fun K hK => ?_) (AllReadyH.cons (o := { dst := some 77, op := Op.buildSlice 25 1 #[(0, Operand.tmp 76)], type := 25, pos := "ref.go:230", after := #[{ on := 21, ground := Ground.data }], guard := none }) rfl (fun K hK => ?_) AllReadyH.nil))
              · go_simp
                refine hK.out _ _ ?_ (fun hHeld => ?_)
                · exact GC.out _ (by first | exact bl3 BJ.out BD.out | exact bl3 (bl3 BJ.out BD.out) (bal _ _) | exact bl3 BJ.out (bal _ _))
                clear hK K
                try simp only [Act.put, List.setIfInBounds_toArray, List.set_cons_zero, List.set_cons_succ]
                refine wpAnyH_ready (rs := [22]) (by kernel_rfl) (by simp) ?_
                refine AllReadyH.cons (o := { dst := some 77, op := Op.buildSlice 25 1 #[(0, Operand.tmp 76)], type := 25, pos := "ref.go:230", after := #[{ on := 21, ground := Ground.data }], guard := none }) rfl (fun K hK => ?_) AllReadyH.nil
                go_simp
                refine hK.out _ _ ?_ (fun hHeld => ?_)
                · exact GC.out _ (by first | exact bl3 BJ.out BD.out | exact bl3 (bl3 BJ.out BD.out) (bal _ _) | exact bl3 BJ.out (bal _ _))
                clear hK K
                try simp only [Act.put, List.setIfInBounds_toArray, List.set_cons_zero, List.set_cons_succ]
                refine wpAnyH_ready (rs := [23]) (by kernel_rfl) (by simp) ?_
                refine AllReadyH.cons (o := { dst := some 78, op := Op.call { callee := Callee.builtin Builtin.append, args := #[Operand.tmp 70, Operand.tmp 77], argTypes := #[25, 25] }, type := 25, pos := "ref.go:230", after := #[{ on := 15, ground := Ground.data }, { on := 22, ground := Ground.data }], guard := none }) rfl (fun K hK => ?_) AllReadyH.nil
                refine step_append_g KI KI_ok (by rfl) (.tmp 70) (.tmp 77) 25 (by rfl) w6.heap.size Try.underlying25 _ _ _ _ (by first | exact heap_alloc_new _ _) (.slice pp row.length cc) row (t : Int) _ (by rfl) (OwnG.below OW.out (by first | exact (Below.refl _ _).alloc (Nat.le_refl _) _ | exact ((Below.refl _ _).drew).alloc (Nat.le_refl _) _)) (by rfl) (by rfl) LS.out (by first | (simp; exact BZ.out) | (have := BZ.out; simp; omega)) ?_
                intro g8 c8 w8 o8 b8 k8 q8
                obtain ⟨m1, m3, u8, m4⟩ := LP.out _ w8 g8 c8 (by first | exact (Below.refl _ _).alloc (Nat.le_refl _) _ | exact ((Below.refl _ _).drew).alloc (Nat.le_refl _) _) o8 b8 k8 q8
                have B8 : Hid (Below w6.heap.size w6 w8) := (by first | exact (bl3 BJ.out (bal _ _)).trans b8 | exact (bl3 BJ.out (((Below.refl _ _).drew).alloc (Nat.le_refl _) _)).trans b8)
                obtain ⟨y0, y1, y2⟩ := GC.out w8 B8.out
                have N1 := hid m1
                clear m1 o8 b8 q8 k8
                refine hK.out _ _ ?_ (fun hHeld => ?_)
                · exact GC.out _ B8.out
                clear hK K
                try simp only [Act.put, List.setIfInBounds_toArray, List.set_cons_zero, List.set_cons_succ]
                refine wpAnyH_take (i := 24) (oi := { dst := some 79, op := Op.indexAddr 42 (Operand.tmp 55) (Operand.tmp 61), type := 0, pos := "ref.go:230", after := #[{ on := 0, ground := Ground.data }, { on := 6, ground := Ground.data }, { on := 0, ground := Ground.phase }, { on := 1, ground := Ground.phase }, { on := 2, ground := Ground.phase }, { on := 3, ground := Ground.phase }, { on := 4, ground := Ground.phase }, { on := 5, ground := Ground.phase }, { on := 6, ground := Ground.phase }, { on := 7, ground := Ground.phase }, { on := 8, ground := Ground.phase }, { on := 9, ground := Ground.phase }, { on := 10, ground := Ground.phase }, { on := 11, ground := Ground.phase }, { on := 12, ground := Ground.phase }, { on := 13, ground := Ground.phase }, { on := 14, ground := Ground.phase }, { on := 15, ground := Ground.phase }, { on := 16, ground := Ground.phase }, { on := 17, ground := Ground.phase }, { on := 18, ground := Ground.phase }, { on := 19, ground := Ground.phase }, { on := 20, ground := Ground.phase }, { on := 21, ground := Ground.phase }, { on := 22, ground := Ground.phase }, { on := 23, ground := Ground.phase }], guard := none }) (v := ?_) rfl (by kernel_rfl) (by kernel_rfl) (by kernel_rfl) (fun _ _ _ h => h) (Or.inl ⟨by rfl, ?_⟩) (by assumption) ?_
                rotate_left
                · intro w hSw
                  try dsimp only at hSw
                  go_simp
                  try with_reducible rfl
                try simp only [Act.put, List.setIfInBounds_toArray, List.set_cons_zero, List.set_cons_succ]
                refine wpAnyH_ready (rs := [25]) (by kernel_rfl) (by simp) ?_
                refine AllReadyH.cons (o := { dst := none, op := Op.store 25 (Operand.tmp 79) (Operand.tmp 78), type := 0, pos := "ref.go:230", after := #[{ on := 24, ground := Ground.data }, { on := 23, ground := Ground.data }, { on := 23, ground := Ground.chain }, { on := 0, ground := Ground.phase }, { on := 1, ground := Ground.phase }, { on := 2, ground := Ground.phase }, { on := 3, ground := Ground.phase }, { on := 4, ground := Ground.phase }, { on := 5, ground := Ground.phase }, { on := 6, ground := Ground.phase }, { on := 7, ground := Ground.phase }, { on := 8, ground := Ground.phase }, { on := 9, ground := Ground.phase }, { on := 10, ground := Ground.phase }, { on := 11, ground := Ground.phase }, { on := 12, ground := Ground.phase }, { on := 13, ground := Ground.phase }, { on := 14, ground := Ground.phase }, { on := 15, ground := Ground.phase }, { on := 16, ground := Ground.phase }, { on := 17, ground := Ground.phase }, { on := 18, ground := Ground.phase }, { on := 19, ground := Ground.phase }, { on := 20, ground := Ground.phase }, { on := 21, ground := Ground.phase }, { on := 22, ground := Ground.phase }, { on := 23, ground := Ground.phase }], guard := none }) rfl (fun K hK => ?_) AllReadyH.nil
                go_simp
                refine hK.out _ _ ?_ (fun hHeld => ?_)
                · exact GC.out _ (GS2.out _ _ _ B8.out hbb.1)
                clear hK K
                try simp only [Act.put, List.setIfInBounds_toArray, List.set_cons_zero, List.set_cons_succ]
                refine wpAnyH_done (by kernel_rfl) ?_ _
                go_wp2
                go_roundw
                case rel => exact ⟨k + 1, _, _, by go_num, rfl, by omega, N1⟩
                case measure => simp [intOf]; omega
              · go_simp
                refine hK.out _ _ ?_ (fun hHeld => ?_)
                · exact GC.out _ (by first | exact bl3 BJ.out BD.out | exact bl3 (bl3 BJ.out BD.out) (bal _ _) | exact bl3 BJ.out (bal _ _))
                clear hK K
                try simp only [Act.put, List.setIfInBounds_toArray, List.set_cons_zero, List.set_cons_succ]
                refine wpAnyH_ready (rs := [15]) (by kernel_rfl) (by simp) ?_
                refine AllReadyH.cons (o := { dst := some 70, op := Op.load 25 (Operand.tmp 69), type := 25, pos := "ref.go:230", after := #[{ on := 14, ground := Ground.data }], guard := none }) rfl (fun K hK => ?_) AllReadyH.nil
                go_simp
                refine hK.out _ _ ?_ (fun hHeld => ?_)
                · exact GC.out _ (by first | exact bl3 BJ.out BD.out | exact bl3 (bl3 BJ.out BD.out) (bal _ _) | exact bl3 BJ.out (bal _ _))
                clear hK K
                try simp only [Act.put, List.setIfInBounds_toArray, List.set_cons_zero, List.set_cons_succ]
                refine wpAnyH_ready (rs := [23]) (by kernel_rfl) (by simp) ?_
                refine AllReadyH.cons (o := { dst := some 78, op := Op.call { callee := Callee.builtin Builtin.append, args := #[Operand.tmp 70, Operand.tmp 77], argTypes := #[25, 25] }, type := 25, pos := "ref.go:230", after := #[{ on := 15, ground := Ground.data }, { on := 22, ground := Ground.data }], guard := none }) rfl (fun K hK => ?_) AllReadyH.nil
                refine step_append_g KI KI_ok (by rfl) (.tmp 70) (.tmp 77) 25 (by rfl) w6.heap.size Try.underlying25 _ _ _ _ (by first | exact heap_alloc_new _ _) (.slice pp row.length cc) row (t : Int) _ (by rfl) (OwnG.below OW.out (by first | exact (Below.refl _ _).alloc (Nat.le_refl _) _ | exact ((Below.refl _ _).drew).alloc (Nat.le_refl _) _)) (by rfl) (by rfl) LS.out (by first | (simp; exact BZ.out) | (have := BZ.out; simp; omega)) ?_
                intro g8 c8 w8 o8 b8 k8 q8
                obtain ⟨m1, m3, u8, m4⟩ := LP.out _ w8 g8 c8 (by first | exact (Below.refl _ _).alloc (Nat.le_refl _) _ | exact ((Below.refl _ _).drew).alloc (Nat.le_refl _) _) o8 b8 k8 q8
                have B8 : Hid (Below w6.heap.size w6 w8) := (by first | exact (bl3 BJ.out (bal _ _)).trans b8 | exact (bl3 BJ.out (((Below.refl _ _).drew).alloc (Nat.le_refl _) _)).trans b8)
                obtain ⟨y0, y1, y2⟩ := GC.out w8 B8.out
                have N1 := hid m1
                clear m1 o8 b8 q8 k8
                refine hK.out _ _ ?_ (fun hHeld => ?_)
                · exact GC.out _ B8.out
                clear hK K
                try simp only [Act.put, List.setIfInBounds_toArray, List.set_cons_zero, List.set_cons_succ]
                refine wpAnyH_take (i := 24) (oi := { dst := some 79, op := Op.indexAddr 42 (Operand.tmp 55) (Operand.tmp 61), type := 0, pos := "ref.go:230", after := #[{ on := 0, ground := Ground.data }, { on := 6, ground := Ground.data }, { on := 0, ground := Ground.phase }, { on := 1, ground := Ground.phase }, { on := 2, ground := Ground.phase }, { on := 3, ground := Ground.phase }, { on := 4, ground := Ground.phase }, { on := 5, ground := Ground.phase }, { on := 6, ground := Ground.phase }, { on := 7, ground := Ground.phase }, { on := 8, ground := Ground.phase }, { on := 9, ground := Ground.phase }, { on := 10, ground := Ground.phase }, { on := 11, ground := Ground.phase }, { on := 12, ground := Ground.phase }, { on := 13, ground := Ground.phase }, { on := 14, ground := Ground.phase }, { on := 15, ground := Ground.phase }, { on := 16, ground := Ground.phase }, { on := 17, ground := Ground.phase }, { on := 18, ground := Ground.phase }, { on := 19, ground := Ground.phase }, { on := 20, ground := Ground.phase }, { on := 21, ground := Ground.phase }, { on := 22, ground := Ground.phase }, { on := 23, ground := Ground.phase }], guard := none }) (v := ?_) rfl (by kernel_rfl) (by kernel_rfl) (by kernel_rfl) (fun _ _ _ h => h) (Or.inl ⟨by rfl, ?_⟩) (by assumption) ?_
                rotate_left
                · intro w hSw
                  try dsimp only at hSw
                  go_simp
                  try with_reducible rfl
                try simp only [Act.put, List.setIfInBounds_toArray, List.set_cons_zero, List.set_cons_succ]
                refine wpAnyH_ready (rs := [25]) (by kernel_rfl) (by simp) ?_
                refine AllReadyH.cons (o := { dst := none, op := Op.store 25 (Operand.tmp 79) (Operand.tmp 78), type := 0, pos := "ref.go:230", after := #[{ on := 24, ground := Ground.data }, { on := 23, ground := Ground.data }, { on := 23, ground := Ground.chain }, { on := 0, ground := Ground.phase }, { on := 1, ground := Ground.phase }, { on := 2, ground := Ground.phase }, { on := 3, ground := Ground.phase }, { on := 4, ground := Ground.phase }, { on := 5, ground := Ground.phase }, { on := 6, ground := Ground.phase }, { on := 7, ground := Ground.phase }, { on := 8, ground := Ground.phase }, { on := 9, ground := Ground.phase }, { on := 10, ground := Ground.phase }, { on := 11, ground := Ground.phase }, { on := 12, ground := Ground.phase }, { on := 13, ground := Ground.phase }, { on := 14, ground := Ground.phase }, { on := 15, ground := Ground.phase }, { on := 16, ground := Ground.phase }, { on := 17, ground := Ground.phase }, { on := 18, ground := Ground.phase }, { on := 19, ground := Ground.phase }, { on := 20, ground := Ground.phase }, { on := 21, ground := Ground.phase }, { on := 22, ground := Ground.phase }, { on := 23, ground := Ground.phase }], guard := none }) rfl (fun K hK => ?_) AllReadyH.nil
                go_simp
                refine hK.out _ _ ?_ (fun hHeld => ?_)
                · exact GC.out _ (GS2.out _ _ _ B8.out hbb.1)
                clear hK K
                try simp only [Act.put, List.setIfInBounds_toArray, List.set_cons_zero, List.set_cons_succ]
                refine wpAnyH_done (by kernel_rfl) ?_ _
                go_wp2
                go_roundw
                case rel => exact ⟨k + 1, _, _, by go_num, rfl, by omega, N1⟩
                case measure => simp [intOf]; omega
            · obtain rfl : k = i := by omega
              have HX : Hid (OX w6 N X lb vs (fun i => nI (tg E i)) (.slice (some ⟨wl.heap.size, 0, none⟩) 0 0) [] (lfR E []) (wl.alloc (.cells #[] KI.ty))) := (OX.start (HJ.out.imp fun i _ => by rw [List.take_of_length_le (by rw [ME.out]; exact Nat.le_refl _)])).eq fun x => (lfR_nil E x).symm
              have K0 : Hid (KO N E []) := .nil
              clear HJ GB
              go_wp2_with fail
              go_loopw [10] (fun v10 wp => ∃ (D : List Nat) (q : Option Addr) (cq : Nat) (wk : World), v10 = .slice q D.length cq ∧ wk = wp ∧ Hid (OX w6 N X lb vs (fun i => nI (tg E i)) (.slice q D.length cq) D (lfR E D) wk) ∧ Hid (KO N E D)) (fun v10 _ => N - lenV v10)
              case atStart => exact ⟨[], _, _, _, rfl, rfl, HX, K0⟩
              case round =>
                obtain ⟨D, q, cq, wp, rfl, rfl, HO, HK⟩ := hrel
                clear HX K0
                obtain ⟨d0, _⟩ := GC0.out wp HO.out.ol.bl
                have hDN := HK.out.len
                by_cases hlt3 : D.length < N
                · obtain ⟨y, hyN, hcy, hmin⟩ := HK.out.least HG.out hlt3 HR.out
                  have hdi : (D.length : Int) < (N : Nat) := by omega
                  have FA := hid (fun m (hm : m < N) => HO.out.ol.lf.at hm)
                  have FZ := hid (fun m (hm : m < y) => (fun e => hmin m hm (lfR_zero.1 e) : ¬ lfR E D m = 0))
                  have FY : Hid (lfR E D y = 0) := lfR_zero.2 hcy
                  have CY := hid hcy
                  have K1 : Hid (KO N E (D ++ [y])) := .snoc HK.out hyN hcy hmin
                  clear hcy hmin
                  generalize hDL : D.length = dl at *
                  go_wp2_with fail
                  go_loopw [11] (fun v11 wq => ∃ (m : Nat), v11 = .int .i64 m ∧ wq = wp ∧ m ≤ y) (fun v11 _ => y - (intOf v11).toNat)
                  case atStart => exact ⟨0, rfl, rfl, Nat.zero_le _⟩
                  case round =>
                    obtain ⟨m, rfl, hwq, hm⟩ := hrel
                    subst hwq
                    by_cases hmy : m < y
                    · obtain ⟨f1, _⟩ := FA.out m (by omega)
                      have hne := FZ.out m hmy
                      have b1 : (lfR E D m != 0) = true := (fun (z : Int) (h : ¬ z = 0) => (by simp [h] : (z != 0) = true)) _ hne
                      have hmi : (m : Int) < (N : Nat) := by omega
                      generalize lfR E D m = fm at *
                      go_wp2_with fail
                      go_roundw
                      case rel => exact ⟨m + 1, by go_num, by first | trivial | rfl, by omega⟩
                      case measure => simp [intOf]; omega
                    · obtain rfl : m = y := by omega
                      obtain ⟨f1, _⟩ := FA.out m hyN
                      rw [FY.out] at f1
                      have hmi : (m : Int) < (N : Nat) := by omega
                      have S2 := hid (fun (g8 c8 : Nat) (w8 : World) h1 h2 h3 h4 => OX.app (W := _) (w' := w8) (x := m) (g := g8) (cap := c8) HO.out h1 h2 h3 h4)
                      have OD := hid HO.out.od
                      have LS : Hid (((nI D).length + 1) * KI.B ≤ 140737488355328) := by show (_ + 1) * 8 ≤ _; rw [nI_len]; omega
                      have BS : Hid (w6.heap.size ≤ _) := HO.out.ol.bl.size
                      have e0 : (nI D).length = D.length := nI_len D
                      have LD : Hid ((D ++ [m]).length = (nI D).length + 1) := by show _ = _; rw [List.length_append, List.length_singleton, nI_len]
                      have LM : Hid ((nI D).length + 1 ≤ N ∧ dl < (nI D).length + 1) := by show _ ∧ _; rw [nI_len]; omega
                      obtain ⟨R, hR⟩ : ∃ R, R = nI D := ⟨_, rfl⟩
                      rw [← hR] at OD S2 LS e0 LD LM
                      rw [← hDL, ← e0] at OD S2 ⊢
                      clear FA FZ FY HO hR e0
                      go_upto_region 22 with (at_builtin; refine append_g KI KI_ok rfl (.tmp 93) (.tmp 95) 25 rfl w6.heap.size Try.underlying25 _ _ _ (.slice q R.length cq) R (m : Int) _ rfl OD.out _ rfl rfl rfl LS.out BS.out ?_; intro g8 c8 w8 ho8 hb8 hk8 hg8; have A8 := hid (S2.out g8 c8 w8 ho8 hb8 hk8 hg8); clear ho8 hb8 hk8 hg8)
                      obtain ⟨c3, _⟩ := LZ.cell (A := tg E) A8.out.ol.lz hyN
                      have f8 := (A8.out.ol.lf.at hyN)
                      obtain ⟨f9, f10⟩ := f8
                      have A9 : Hid (OX w6 N X lb vs (fun i => nI (tg E i)) (.slice (some ⟨g8, 0, none⟩) (R.length + 1) c8) (D ++ [m]) (lfI E D m 0) (w8.setCell ⟨X, m, none⟩ (.int .i64 (-1)))) := (A8.out.set m (-1)).eq fun x => by rw [lfI_zero]; rfl
                      have LI := hid (fun i x => lfI_lo CY.out HK.out i x)
                      have LF := hid (fun x => lfI_fin HK.out CY.out x)
                      have TGL := tg_len E m
                      have HV := hid (fun j (hj : j < (tg E m).length) => (EL2.out _ (tg_mem.1 (List.getElem_mem hj))).2)
                      have elk : E.length ≤ 16384 := by rw [ME.out]; omega
                      obtain ⟨tl, htl⟩ : ∃ tl, tl = (tg E m).length := ⟨_, rfl⟩
                      have T1 : Hid ((tg E m).length = tl) := htl.symm
                      rw [← htl] at c3 TGL
                      clear A8 S2 OD LS BS htl HK CY
                      go_wp2_with fail
                      clear c3 f9 f10 f1
                      go_loopw [12] (fun v12 wz => ∃ (j : Nat) (wk : World), v12 = .int .i64 j ∧ wk = wz ∧ j ≤ tl ∧ Hid (OX w6 N X lb vs (fun i => nI (tg E i)) (.slice (some ⟨g8, 0, none⟩) (R.length + 1) c8) (D ++ [m]) (lfI E D m j) wk)) (fun v12 _ => tl - (intOf v12).toNat)
                      case atStart => exact ⟨0, _, rfl, rfl, Nat.zero_le _, A9⟩
                      case round =>
                        obtain ⟨j, wz, rfl, rfl, hj, HZ⟩ := hrel
                        clear A9
                        obtain ⟨c3, r3⟩ := LZ.cell (A := tg E) HZ.out.ol.lz hyN
                        rw [T1.out] at c3
                        by_cases hlt4 : j < tl
                        · have j1 : j < (tg E m).length := by have := T1.out; omega
                          obtain ⟨Y2, o2, e1, c1⟩ := r3.atI (k := j) (by rw [nI_len]; exact j1)
                          rw [nI_at j1] at c1
                          generalize (vs.getD m sl0).1 = pk at *
                          generalize (vs.getD m sl0).2.2 = ck at *
                          subst e1
                          have hy := HV.out j j1
                          obtain ⟨f1, f2⟩ := HZ.out.ol.lf.at hy
                          have fb := LI.out j (tg E m)[j]
                          have N2 : Hid (OX w6 N X lb vs (fun i => nI (tg E i)) (.slice (some ⟨g8, 0, none⟩) (R.length + 1) c8) (D ++ [m]) (lfI E D m (j + 1)) (wz.setCell ⟨X, (tg E m)[j], none⟩ (.int .i64 (lfI E D m j (tg E m)[j] - 1)))) := (HZ.out.set _ _).eq fun z => by
                            rw [lfI_succ j1]
                            unfold upF
                            split
                            · rename_i e; rw [e]
                            · rfl
                          have hji : (j : Int) < (tl : Nat) := by omega
                          generalize lfI E D m j (tg E m)[j] = fy at *
                          generalize (tg E m)[j] = y at *
                          have hyi : (y : Int) < (N : Nat) := by omega
                          clear HZ r3
                          go_wp2_with fail
                          go_roundw
                          case rel => exact ⟨j + 1, _, by go_num, rfl, by omega, N2⟩
                          case measure => simp [intOf]; omega
                        · obtain rfl : j = tl := by omega
                          have N3 : Hid (OX w6 N X lb vs (fun i => nI (tg E i)) (.slice (some ⟨g8, 0, none⟩) (R.length + 1) c8) (D ++ [m]) (lfR E (D ++ [m])) wz) := HZ.out.eq fun x => by rw [← LF.out x, T1.out]
                          have lm := LM.out
                          generalize (vs.getD m sl0).1 = pk at *
                          generalize (vs.getD m sl0).2.2 = ck at *
                          clear HZ r3
                          go_wp2_with fail
                          go_roundw
                          case rel => exact ⟨D ++ [m], _, _, _, by rw [LD.out], rfl, by rw [LD.out]; exact N3, K1⟩
                          case measure => simp [lenV]; omega
                · have hdi : ¬ (D.length : Int) < (N : Nat) := by omega
                  have hdN : D.length = N := by omega
                  have E1 := hid (OI.out D HK.out hdN)
                  have OD := hid (HO.out.od.gs KI_ok.len)
                  have BL := hid HO.out.ol.bl
                  have LD := hid (nI_len D)
                  clear HO HK
                  go_wp2_with fail
                  go_ret2
                  rw [E1.out]
                  exact ⟨q, cq, by rw [LD.out, hdN]; rfl, by rw [LD.out]; exact OD.out, bl3 WV.out BL.out⟩
    · rw [(orE_not hg hr).1, (orE_not hg hr).2]
      have hl : 0 < (nI (rnL N E)).length := by rw [nI_len]; exact List.length_pos_iff.2 hr
      generalize (nI (rnL N E)).length = m at *
      have hl2 : (0 : Int) < (m : Nat) := by omega
      clear h0 hg hv hr
      go_enter Try.func38, Try.ntmps38
      go_wp2_with (go_at_call 40; refine CK.out.mono ?_; rintro e w6 ⟨q6, c6, rfl, _, hb6⟩; have B6 := hid hb6; clear hb6)
      go_ret2
      exact AnsI.none (bl3 BW.out B6.out)
  · rw [(orE_bad h0).1, (orE_bad h0).2]
    rw [rnA_no h0] at CK
    generalize chkG n l = r at *
    have b1 : (r != 0) = true := by simp [h0]
    unfold AnsI at CK
    go_enter Try.func38, Try.ntmps38
    go_wp2_with (go_at_call 40; refine CK.out.mono ?_; rintro e w6 ⟨q6, c6, rfl, _, hb6⟩; have B6 := hid hb6; clear hb6)
    go_ret2
    exact AnsI.none (bl3 BW.out B6.out)
end Go.Proofs.Ytghkhceplpjegaa
