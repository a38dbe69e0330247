/- Graph: the document's Components. -/
import Derived.Test.YtghkhceplpjegaaYe2
import Derived.Deep.CutBlock
namespace Go.Proofs.Ytghkhceplpjegaa
open Go.RowKit

theorem CI.at {V W0 W : World} {N : Nat} {E : List (Nat × Nat)} {bs n k : Nat} {q : Option Addr} {c : Nat} {R : List Int} (h : CI V W0 N E bs n k q c R W) {b9 b : Nat} {f : Nat → Bool} (ho : OwnG KB W0 b (.slice (some ⟨b9, 0, none⟩) N N) ((List.range N).map f)) (hne : b9 ≠ bs) {i : Nat} (hi : i < N) : W.cell? ⟨b9, i, none⟩ = some (.bool (f i)) := by
  have o2 : OwnG KB W b (.slice (some ⟨b9, 0, none⟩) N N) ((List.range N).map f) := ho.far fun g hg => by
    injection hg with hg
    have hg : b9 = g := hg
    subst hg
    exact h.old _ (ho.lt rfl).2 hne
  obtain ⟨X, o, e, hc⟩ := (o2.gs KB_ok.len).atB (k := i) (by simpa using hi)
  injection e with e
  injection e with e1 e2 _
  subst e1 e2
  rw [Nat.zero_add] at hc
  rw [hc]
  simp
theorem tu_len (E : List (Nat × Nat)) : (tu E).length = E.length := by simp [tu]
set_option maxRecDepth 100000 in
set_option maxHeartbeats 16000000 in
theorem rComponents_any (w : World) (n : Int) (v : Value) (l : List (Int × Int)) (hv : GS KE w v l) : Calls Try.prog 64 #[.agg #[.int .i64 n, v]] w fun e w' => AnsP w (cmA n l) (chkG n l) e w' := by
  obtain ⟨p, c, rfl⟩ := hv.form
  generalize hW : w.alloc (.cells #[.int .i64 n, .slice p l.length c] 24) = W
  have BW : Hid (Below w.heap.size w W) := by rw [← hW]; exact bal _ _
  have C0 : Hid (∀ W', Below W.heap.size W W' → W'.cell? ⟨w.heap.size, 0, none⟩ = some (.int .i64 n) ∧ W'.cell? ⟨w.heap.size, 1, none⟩ = some (.slice p l.length c)) := fun W' hb => by
    have e : W'.heap[w.heap.size]? = some (.cells #[.int .i64 n, .slice p l.length c] 24) := (hb.block _ (by rw [← hW, asz]; omega)).trans (by rw [← hW]; exact heap_alloc_new _ _)
    exact ⟨cell_of_row _ _ _ _ _ _ e, cell_of_row _ _ _ _ _ _ e⟩
  have TU := hid (rTurn_any W n _ l (hv.below BW.out))
  obtain ⟨d0, d1⟩ := C0.out W (Below.refl _ _)
  by_cases h0 : chkG n l = 0
  · obtain ⟨N, E, rfl, rfl, hg⟩ := chkG_ok h0
    have e1 : tuN N (eI E) = N := by unfold tuN; rw [if_pos h0]
    have e2 : tuL N (eI E) = eI (tu E) := by unfold tuL; rw [if_pos h0, eI_tu]
    rw [cmA_ok hg, h0]
    rw [e1, e2, h0] at TU
    unfold AnsG at TU
    rw [eI_len] at TU C0 d1 hW ⊢
    rw [eI_len, tu_len] at TU
    have CW := hid (fun W' u (m : Nat) (hm : m < N) (hb : Below w.heap.size w W') (hu : GS KI W' u [(m : Int)]) => ways_any W' N _ E hg (hv.below hb) u [m] hu (fun f hf => by rw [List.mem_singleton] at hf; rw [hf]; exact hm) (by simp) (-1))
    have CT := hid (fun W' v' u (m : Nat) (hm : m < N) (hv' : GS KE W' v' (eI (tu E))) (hu : GS KI W' u [(m : Int)]) => ways_any W' N v' (tu E) (tu_ok hg) hv' u [m] hu (fun f hf => by rw [List.mem_singleton] at hf; rw [hf]; exact hm) (by simp) (-1))
    rw [eI_len] at CW
    have a5 : N ≤ 4096 := hg.n
    have HG := hid hg
    obtain ⟨el, hel⟩ : ∃ el, el = E.length := ⟨_, rfl⟩
    rw [← hel] at TU C0 d1 hW CW ⊢
    have ME : Hid (E.length = el) := hel.symm
    clear h0 hg e1 e2 hv hel
    go_enter Try.func64, Try.ntmps64
    go_upto_region 4 with (go_at_call 79; refine TU.out.mono ?_; rintro e w6 ⟨p6, c6, rfl, o6, b6⟩; have O6 := hid o6; have B6 := hid b6; clear o6 b6)
    generalize hV : w6.alloc (.cells #[.int .i64 N, .slice p6 el c6] 24) = V
    obtain ⟨tb, htb⟩ : ∃ tb, tb = w6.heap.size := ⟨_, rfl⟩
    obtain ⟨sz, hsz⟩ : ∃ sz, sz = w.heap.size := ⟨_, rfl⟩
    have BV : Hid (Below W.heap.size W V) := by rw [← hV]; exact bl3 B6.out (bal _ _)
    have GC : Hid (∀ W', Below V.heap.size V W' → W'.cell? ⟨sz, 0, none⟩ = some (.int .i64 N) ∧ W'.cell? ⟨sz, 1, none⟩ = some (.slice p el c) ∧ W'.cell? ⟨tb, 0, none⟩ = some (.int .i64 N) ∧ W'.cell? ⟨tb, 1, none⟩ = some (.slice p6 el c6)) := fun W' hb => by
      have e : W'.heap[w6.heap.size]? = some (.cells #[.int .i64 N, .slice p6 el c6] 24) := (hb.block _ (by rw [← hV, asz]; omega)).trans (by rw [← hV]; exact heap_alloc_new _ _)
      rw [htb, hsz]
      exact ⟨(C0.out W' (bl3 BV.out hb)).1, (C0.out W' (bl3 BV.out hb)).2, cell_of_row _ _ _ _ _ _ e, cell_of_row _ _ _ _ _ _ e⟩
    have OT : Hid (GS KE V (.slice p6 el c6) (eI (tu E))) := by rw [← hV]; exact (O6.out.below (bal _ _)).gs KE_ok.len
    have WV : Hid (Below w.heap.size w V) := bl3 BW.out BV.out
    rw [← htb, ← hsz]
    clear hW hV d0 d1 C0 TU O6 B6 BV BW htb hsz
    have B0 : Hid (Below V.heap.size V (V.alloc (.cells #[] 25))) := bal _ _
    have K0 : Hid (OwnG KS (V.alloc (.cells #[] 25)) V.heap.size (.slice (some ⟨V.heap.size, 0, none⟩) 0 0) []) := OwnG.empty KS V
    go_upto_region 5 with fail
    generalize V.alloc (.cells #[] 25) = V1 at *
    obtain ⟨z0, z1, z2, z3⟩ := GC.out V1 B0.out
    go_upto_region 6 with (refine make_g KB KB_ok false rfl rfl V1 rfl (.tmp 23) (.tmp 23) 49 rfl Try.underlying49 N rfl rfl (by omega) (by decide) ?_; intro w7 ho7 hb7; have O7 := hid ho7; have B7 := hid hb7; clear ho7 hb7)
    obtain ⟨bs, hbs⟩ : ∃ bs, bs = V1.heap.size := ⟨_, rfl⟩
    have Q0 : Hid (CO V N E bs 0 (some ⟨V.heap.size, 0, none⟩) 0 [] w7) := by
      refine ⟨bl3 B0.out B7.out, ?_, K0.out.below B7.out, rfl, fun i hi => absurd hi (by simp)⟩
      rw [dnB_zero, List.map_const', List.length_range, hbs]
      exact O7.out.low B0.out.size
    rw [← hbs]
    clear z0 z1 z2 z3 B0 K0 O7 B7 hbs
    go_wp2_with fail
    go_loopw [6, 8] (fun v6 v8 wr => ∃ (m : Nat) (vs : List Sl) (q : Option Addr) (cq : Nat) (wk : World), v8 = .int .i64 m ∧ v6 = .slice q vs.length cq ∧ wk = wr ∧ m ≤ N ∧ Hid (CO V N E bs m q cq vs wk)) (fun _ v8 _ => N - (intOf v8).toNat)
    case atStart => exact ⟨0, [], _, _, _, rfl, rfl, rfl, Nat.zero_le _, Q0⟩
    case round =>
      obtain ⟨m, vs, q, cq, wr, rfl, rfl, rfl, hm, HC⟩ := hrel
      clear Q0
      obtain ⟨y0, y1, y2, y3⟩ := GC.out wr HC.out.bl
      by_cases hlt : m < N
      · have s0 := HC.out.se hlt
        have hmi : (m : Int) < (N : Nat) := by omega
        cases hd : dnB E m m with
        | true =>
          rw [hd] at s0
          have N1 := hid (HC.out.skip hd)
          clear hd HC
          go_wp2_with fail
          go_roundw
          case rel => exact ⟨m + 1, vs, q, cq, _, by go_num, rfl, rfl, by omega, N1⟩
          case measure => simp [intOf]; omega
        | false =>
          have HL := hid (dn_no hd)
          rw [hd] at s0
          clear hd
          have BD : Hid (Below wr.heap.size wr wr.drew) := drew_below wr 1
          have CW1 := hid (fun W' u (hb : Below V.heap.size V W') (hu : GS KI W' u [(m : Int)]) => CW.out W' u m hlt (bl3 WV.out hb) hu)
          have CW2 := hid (fun W' u (hb : Below V.heap.size V W') (hu : GS KI W' u [(m : Int)]) => CT.out W' (.slice p6 el c6) u m hlt (OT.out.below hb) hu)
          go_upto_region 10 with fail
          go_cut [9, 10] from 25 to 76 (fun v9 v10 wx => ∃ (b9 b10 : Nat) (wk : World), v9 = .slice (some ⟨b9, 0, none⟩) N N ∧ v10 = .slice (some ⟨b10, 0, none⟩) N N ∧ wk = wx ∧ Hid (Below wr.heap.size wr wk ∧ OwnG KB wk wr.heap.size (.slice (some ⟨b9, 0, none⟩) N N) ((List.range N).map (wyB E (-1) [m])) ∧ OwnG KB wk wr.heap.size (.slice (some ⟨b10, 0, none⟩) N N) ((List.range N).map (wyB (tu E) (-1) [m]))))
          case first =>
            refine wp_region_held_drew (S := (fun w' => w'.cell? ⟨sz, 0, none⟩ = some (.int .i64 N) ∧ w'.cell? ⟨sz, 1, none⟩ = some (.slice p el c) ∧ w'.cell? ⟨tb, 0, none⟩ = some (.int .i64 N) ∧ w'.cell? ⟨tb, 1, none⟩ = some (.slice p6 el c6))) (by kernel_rfl) ?_ (fun hHeld => ?_)
            · exact GC.out _ (bl3 HC.out.bl BD.out)
            refine wpAnyH_take (i := 0) (oi := { dst := some 35, op := Op.load 24 (Operand.tmp 1), type := 24, pos := "ref.go:134", after := #[], guard := none }) (v := ?_) rfl (by kernel_rfl) (by kernel_rfl) (by kernel_rfl) (fun _ _ _ h => h) (Or.inl ⟨by rfl, ?_⟩) (by assumption) ?_
            rotate_left
            · intro w hSw
              try dsimp only at hSw
              go_simp
              try with_reducible rfl
            try simp only [Act.put, List.setIfInBounds_toArray, List.set_cons_zero, List.set_cons_succ]
            refine wpAnyH_take (i := 1) (oi := { dst := some 36, op := Op.move (Operand.tmp 8), type := 3, pos := "ref.go:134", after := #[], guard := none }) (v := ?_) rfl (by kernel_rfl) (by kernel_rfl) (by kernel_rfl) (fun _ _ _ h => h) (Or.inl ⟨by rfl, ?_⟩) (by assumption) ?_
            rotate_left
            · intro w hSw
              try dsimp only at hSw
              go_simp
              try with_reducible rfl
            try simp only [Act.put, List.setIfInBounds_toArray, List.set_cons_zero, List.set_cons_succ]
            refine wpAnyH_take (i := 4) (oi := { dst := some 39, op := Op.load 24 (Operand.tmp 4), type := 24, pos := "ref.go:134", after := #[], guard := none }) (v := ?_) rfl (by kernel_rfl) (by kernel_rfl) (by kernel_rfl) (fun _ _ _ h => h) (Or.inl ⟨by rfl, ?_⟩) (by assumption) ?_
            rotate_left
            · intro w hSw
              try dsimp only at hSw
              go_simp
              try with_reducible rfl
            try simp only [Act.put, List.setIfInBounds_toArray, List.set_cons_zero, List.set_cons_succ]
            refine wpAnyH_take (i := 5) (oi := { dst := some 40, op := Op.move (Operand.tmp 8), type := 3, pos := "ref.go:134", after := #[], guard := none }) (v := ?_) rfl (by kernel_rfl) (by kernel_rfl) (by kernel_rfl) (fun _ _ _ h => h) (Or.inl ⟨by rfl, ?_⟩) (by assumption) ?_
            rotate_left
            · intro w hSw
              try dsimp only at hSw
              go_simp
              try with_reducible rfl
            try simp only [Act.put, List.setIfInBounds_toArray, List.set_cons_zero, List.set_cons_succ]
            refine wpAnyH_ready (rs := [2, 6]) (by kernel_rfl) (by simp) ?_
            refine (AllReadyH.cons (o := { dst := some 37, op := Op.buildSlice 25 1 #[(0, Operand.tmp 36)], type := 25, pos := "ref.go:134", after := #[{ on := 1, ground := Ground.data }], guard := none }) rfl (fun K hK => ?_) (AllReadyH.cons (o := { dst := some 41, op := Op.buildSlice 25 1 #[(0, Operand.tmp 40)], type := 25, pos := "ref.go:134", after := #[{ on := 5, ground := Ground.data }], guard := none }) rfl (fun K hK => ?_) AllReadyH.nil))
            · refine step_lit _ (by rfl) (.tmp 36) (by rfl) (m : Int) (by rfl) ?_
              intro b1 wb1 gb hb
              have G1 := hid gb
              have B1 := hid (bl3 BD.out hb)
              clear gb hb
              refine hK.out _ _ ?_ (fun hHeld => ?_)
              · exact GC.out _ (bl3 HC.out.bl B1.out)
              clear hK K
              try simp only [Act.put, List.setIfInBounds_toArray, List.set_cons_zero, List.set_cons_succ]
              refine wpAnyH_ready (rs := [3, 6]) (by kernel_rfl) (by simp) ?_
              refine (AllReadyH.cons (o := { dst := some 38, op := Op.call { callee := Callee.value (Operand.func 42), args := #[Operand.tmp 35, Operand.tmp 37, Operand.const (Value.int IntKind.i64 (-1))], argTypes := #[24, 25, 3] }, type := 49, pos := "ref.go:134", after := #[{ on := 0, ground := Ground.data }, { on := 2, ground := Ground.data }], guard := none }) rfl (fun K hK => ?_) (AllReadyH.cons (o := { dst := some 41, op := Op.buildSlice 25 1 #[(0, Operand.tmp 40)], type := 25, pos := "ref.go:134", after := #[{ on := 5, ground := Ground.data }], guard := none }) rfl (fun K hK => ?_) AllReadyH.nil))
              · go_simp
                go_at_call 42
                refine (CW1.out _ _ (bl3 HC.out.bl B1.out) G1.out).mono ?_
                rintro e wc1 ⟨r1, rfl, oc, hb⟩
                have A1 := hid (oc.low B1.out.size)
                have D1 := hid (bl3 B1.out hb)
                clear oc hb
                go_wp2_with fail
                refine hK.out _ _ ?_ (fun hHeld => ?_)
                · exact GC.out _ (bl3 HC.out.bl D1.out)
                clear hK K
                try simp only [Act.put, List.setIfInBounds_toArray, List.set_cons_zero, List.set_cons_succ]
                refine wpAnyH_ready (rs := [6]) (by kernel_rfl) (by simp) ?_
                refine AllReadyH.cons (o := { dst := some 41, op := Op.buildSlice 25 1 #[(0, Operand.tmp 40)], type := 25, pos := "ref.go:134", after := #[{ on := 5, ground := Ground.data }], guard := none }) rfl (fun K hK => ?_) AllReadyH.nil
                refine step_lit _ (by rfl) (.tmp 40) (by rfl) (m : Int) (by rfl) ?_
                intro b2 wb2 gb hb
                have G2 := hid gb
                have A1 := hid (A1.out.below hb)
                have B2 := hid (bl3 D1.out hb)
                clear gb hb
                refine hK.out _ _ ?_ (fun hHeld => ?_)
                · exact GC.out _ (bl3 HC.out.bl B2.out)
                clear hK K
                try simp only [Act.put, List.setIfInBounds_toArray, List.set_cons_zero, List.set_cons_succ]
                refine wpAnyH_ready (rs := [7]) (by kernel_rfl) (by simp) ?_
                refine AllReadyH.cons (o := { dst := some 42, op := Op.call { callee := Callee.value (Operand.func 42), args := #[Operand.tmp 39, Operand.tmp 41, Operand.const (Value.int IntKind.i64 (-1))], argTypes := #[24, 25, 3] }, type := 49, pos := "ref.go:134", after := #[{ on := 4, ground := Ground.data }, { on := 6, ground := Ground.data }, { on := 3, ground := Ground.chain }], guard := none }) rfl (fun K hK => ?_) AllReadyH.nil
                go_simp
                go_at_call 42
                refine (CW2.out _ _ (bl3 HC.out.bl B2.out) G2.out).mono ?_
                rintro e wc2 ⟨r2, rfl, oc, hb⟩
                have A2 := hid (oc.low B2.out.size)
                have A1 := hid (A1.out.below hb)
                have D2 := hid (bl3 B2.out hb)
                clear oc hb
                go_wp2_with fail
                refine hK.out _ _ ?_ (fun hHeld => ?_)
                · exact GC.out _ (bl3 HC.out.bl D2.out)
                clear hK K
                try simp only [Act.put, List.setIfInBounds_toArray, List.set_cons_zero, List.set_cons_succ]
                refine wpAnyH_take (i := 8) (oi := { dst := some 9, op := Op.assign (Operand.tmp 38), type := 49, pos := "ref.go:134", after := #[{ on := 3, ground := Ground.data }, { on := 7, ground := Ground.chain }, { on := 0, ground := Ground.phase }, { on := 1, ground := Ground.phase }, { on := 2, ground := Ground.phase }, { on := 3, ground := Ground.phase }, { on := 4, ground := Ground.textOnly Departure.lateStores }, { on := 5, ground := Ground.textOnly Departure.lateStores }, { on := 6, ground := Ground.textOnly Departure.lateStores }, { on := 7, ground := Ground.textOnly Departure.lateStoresUnsure }], guard := none }) (v := ?_) rfl (by kernel_rfl) (by kernel_rfl) (by kernel_rfl) (fun _ _ _ h => h) (Or.inl ⟨by rfl, ?_⟩) (by assumption) ?_
                rotate_left
                · intro w hSw
                  try dsimp only at hSw
                  go_simp
                  try with_reducible rfl
                try simp only [Act.put, List.setIfInBounds_toArray, List.set_cons_zero, List.set_cons_succ]
                refine wpAnyH_take (i := 9) (oi := { dst := some 10, op := Op.assign (Operand.tmp 42), type := 49, pos := "ref.go:134", after := #[{ on := 7, ground := Ground.data }, { on := 8, ground := Ground.chain }, { on := 0, ground := Ground.phase }, { on := 1, ground := Ground.phase }, { on := 2, ground := Ground.phase }, { on := 3, ground := Ground.phase }, { on := 4, ground := Ground.phase }, { on := 5, ground := Ground.phase }, { on := 6, ground := Ground.phase }, { on := 7, ground := Ground.phase }, { on := 8, ground := Ground.phase }], guard := none }) (v := ?_) rfl (by kernel_rfl) (by kernel_rfl) (by kernel_rfl) (fun _ _ _ h => h) (Or.inl ⟨by rfl, ?_⟩) (by assumption) ?_
                rotate_left
                · intro w hSw
                  try dsimp only at hSw
                  go_simp
                  try with_reducible rfl
                try simp only [Act.put, List.setIfInBounds_toArray, List.set_cons_zero, List.set_cons_succ]
                refine wpAnyH_done (by kernel_rfl) ?_ _
                go_wp2_with fail
                go_meet
                case rel => exact ⟨_, _, _, rfl, rfl, rfl, D2.out, A1.out, A2.out⟩
              · refine step_lit _ (by rfl) (.tmp 40) (by rfl) (m : Int) (by rfl) ?_
                intro b2 wb2 gb hb
                have G2 := hid gb
                have G1 := hid (G1.out.below hb)
                have B2 := hid (bl3 B1.out hb)
                clear gb hb
                refine hK.out _ _ ?_ (fun hHeld => ?_)
                · exact GC.out _ (bl3 HC.out.bl B2.out)
                clear hK K
                try simp only [Act.put, List.setIfInBounds_toArray, List.set_cons_zero, List.set_cons_succ]
                refine wpAnyH_ready (rs := [3]) (by kernel_rfl) (by simp) ?_
                refine AllReadyH.cons (o := { dst := some 38, op := Op.call { callee := Callee.value (Operand.func 42), args := #[Operand.tmp 35, Operand.tmp 37, Operand.const (Value.int IntKind.i64 (-1))], argTypes := #[24, 25, 3] }, type := 49, pos := "ref.go:134", after := #[{ on := 0, ground := Ground.data }, { on := 2, ground := Ground.data }], guard := none }) rfl (fun K hK => ?_) AllReadyH.nil
                go_simp
                go_at_call 42
                refine (CW1.out _ _ (bl3 HC.out.bl B2.out) G1.out).mono ?_
                rintro e wc1 ⟨r1, rfl, oc, hb⟩
                have A1 := hid (oc.low B2.out.size)
                have G2 := hid (G2.out.below hb)
                have D1 := hid (bl3 B2.out hb)
                clear oc hb
                go_wp2_with fail
                refine hK.out _ _ ?_ (fun hHeld => ?_)
                · exact GC.out _ (bl3 HC.out.bl D1.out)
                clear hK K
                try simp only [Act.put, List.setIfInBounds_toArray, List.set_cons_zero, List.set_cons_succ]
                refine wpAnyH_ready (rs := [7]) (by kernel_rfl) (by simp) ?_
                refine AllReadyH.cons (o := { dst := some 42, op := Op.call { callee := Callee.value (Operand.func 42), args := #[Operand.tmp 39, Operand.tmp 41, Operand.const (Value.int IntKind.i64 (-1))], argTypes := #[24, 25, 3] }, type := 49, pos := "ref.go:134", after := #[{ on := 4, ground := Ground.data }, { on := 6, ground := Ground.data }, { on := 3, ground := Ground.chain }], guard := none }) rfl (fun K hK => ?_) AllReadyH.nil
                go_simp
                go_at_call 42
                refine (CW2.out _ _ (bl3 HC.out.bl D1.out) G2.out).mono ?_
                rintro e wc2 ⟨r2, rfl, oc, hb⟩
                have A2 := hid (oc.low D1.out.size)
                have A1 := hid (A1.out.below hb)
                have D2 := hid (bl3 D1.out hb)
                clear oc hb
                go_wp2_with fail
                refine hK.out _ _ ?_ (fun hHeld => ?_)
                · exact GC.out _ (bl3 HC.out.bl D2.out)
                clear hK K
                try simp only [Act.put, List.setIfInBounds_toArray, List.set_cons_zero, List.set_cons_succ]
                refine wpAnyH_take (i := 8) (oi := { dst := some 9, op := Op.assign (Operand.tmp 38), type := 49, pos := "ref.go:134", after := #[{ on := 3, ground := Ground.data }, { on := 7, ground := Ground.chain }, { on := 0, ground := Ground.phase }, { on := 1, ground := Ground.phase }, { on := 2, ground := Ground.phase }, { on := 3, ground := Ground.phase }, { on := 4, ground := Ground.textOnly Departure.lateStores }, { on := 5, ground := Ground.textOnly Departure.lateStores }, { on := 6, ground := Ground.textOnly Departure.lateStores }, { on := 7, ground := Ground.textOnly Departure.lateStoresUnsure }], guard := none }) (v := ?_) rfl (by kernel_rfl) (by kernel_rfl) (by kernel_rfl) (fun _ _ _ h => h) (Or.inl ⟨by rfl, ?_⟩) (by assumption) ?_
                rotate_left
                · intro w hSw
                  try dsimp only at hSw
                  go_simp
                  try with_reducible rfl
                try simp only [Act.put, List.setIfInBounds_toArray, List.set_cons_zero, List.set_cons_succ]
                refine wpAnyH_take (i := 9) (oi := { dst := some 10, op := Op.assign (Operand.tmp 42), type := 49, pos := "ref.go:134", after := #[{ on := 7, ground := Ground.data }, { on := 8, ground := Ground.chain }, { on := 0, ground := Ground.phase }, { on := 1, ground := Ground.phase }, { on := 2, ground := Ground.phase }, { on := 3, ground := Ground.phase }, { on := 4, ground := Ground.phase }, { on := 5, ground := Ground.phase }, { on := 6, ground := Ground.phase }, { on := 7, ground := Ground.phase }, { on := 8, ground := Ground.phase }], guard := none }) (v := ?_) rfl (by kernel_rfl) (by kernel_rfl) (by kernel_rfl) (fun _ _ _ h => h) (Or.inl ⟨by rfl, ?_⟩) (by assumption) ?_
                rotate_left
                · intro w hSw
                  try dsimp only at hSw
                  go_simp
                  try with_reducible rfl
                try simp only [Act.put, List.setIfInBounds_toArray, List.set_cons_zero, List.set_cons_succ]
                refine wpAnyH_done (by kernel_rfl) ?_ _
                go_wp2_with fail
                go_meet
                case rel => exact ⟨_, _, _, rfl, rfl, rfl, D2.out, A1.out, A2.out⟩
            · refine step_lit _ (by rfl) (.tmp 40) (by rfl) (m : Int) (by rfl) ?_
              intro b2 wb2 gb hb
              have G2 := hid gb
              have B2 := hid (bl3 BD.out hb)
              clear gb hb
              refine hK.out _ _ ?_ (fun hHeld => ?_)
              · exact GC.out _ (bl3 HC.out.bl B2.out)
              clear hK K
              try simp only [Act.put, List.setIfInBounds_toArray, List.set_cons_zero, List.set_cons_succ]
              refine wpAnyH_ready (rs := [2]) (by kernel_rfl) (by simp) ?_
              refine AllReadyH.cons (o := { dst := some 37, op := Op.buildSlice 25 1 #[(0, Operand.tmp 36)], type := 25, pos := "ref.go:134", after := #[{ on := 1, ground := Ground.data }], guard := none }) rfl (fun K hK => ?_) AllReadyH.nil
              refine step_lit _ (by rfl) (.tmp 36) (by rfl) (m : Int) (by rfl) ?_
              intro b1 wb1 gb hb
              have G1 := hid gb
              have G2 := hid (G2.out.below hb)
              have B1 := hid (bl3 B2.out hb)
              clear gb hb
              refine hK.out _ _ ?_ (fun hHeld => ?_)
              · exact GC.out _ (bl3 HC.out.bl B1.out)
              clear hK K
              try simp only [Act.put, List.setIfInBounds_toArray, List.set_cons_zero, List.set_cons_succ]
              refine wpAnyH_ready (rs := [3]) (by kernel_rfl) (by simp) ?_
              refine AllReadyH.cons (o := { dst := some 38, op := Op.call { callee := Callee.value (Operand.func 42), args := #[Operand.tmp 35, Operand.tmp 37, Operand.const (Value.int IntKind.i64 (-1))], argTypes := #[24, 25, 3] }, type := 49, pos := "ref.go:134", after := #[{ on := 0, ground := Ground.data }, { on := 2, ground := Ground.data }], guard := none }) rfl (fun K hK => ?_) AllReadyH.nil
              go_simp
              go_at_call 42
              refine (CW1.out _ _ (bl3 HC.out.bl B1.out) G1.out).mono ?_
              rintro e wc1 ⟨r1, rfl, oc, hb⟩
              have A1 := hid (oc.low B1.out.size)
              have G2 := hid (G2.out.below hb)
              have D1 := hid (bl3 B1.out hb)
              clear oc hb
              go_wp2_with fail
              refine hK.out _ _ ?_ (fun hHeld => ?_)
              · exact GC.out _ (bl3 HC.out.bl D1.out)
              clear hK K
              try simp only [Act.put, List.setIfInBounds_toArray, List.set_cons_zero, List.set_cons_succ]
              refine wpAnyH_ready (rs := [7]) (by kernel_rfl) (by simp) ?_
              refine AllReadyH.cons (o := { dst := some 42, op := Op.call { callee := Callee.value (Operand.func 42), args := #[Operand.tmp 39, Operand.tmp 41, Operand.const (Value.int IntKind.i64 (-1))], argTypes := #[24, 25, 3] }, type := 49, pos := "ref.go:134", after := #[{ on := 4, ground := Ground.data }, { on := 6, ground := Ground.data }, { on := 3, ground := Ground.chain }], guard := none }) rfl (fun K hK => ?_) AllReadyH.nil
              go_simp
              go_at_call 42
              refine (CW2.out _ _ (bl3 HC.out.bl D1.out) G2.out).mono ?_
              rintro e wc2 ⟨r2, rfl, oc, hb⟩
              have A2 := hid (oc.low D1.out.size)
              have A1 := hid (A1.out.below hb)
              have D2 := hid (bl3 D1.out hb)
              clear oc hb
              go_wp2_with fail
              refine hK.out _ _ ?_ (fun hHeld => ?_)
              · exact GC.out _ (bl3 HC.out.bl D2.out)
              clear hK K
              try simp only [Act.put, List.setIfInBounds_toArray, List.set_cons_zero, List.set_cons_succ]
              refine wpAnyH_take (i := 8) (oi := { dst := some 9, op := Op.assign (Operand.tmp 38), type := 49, pos := "ref.go:134", after := #[{ on := 3, ground := Ground.data }, { on := 7, ground := Ground.chain }, { on := 0, ground := Ground.phase }, { on := 1, ground := Ground.phase }, { on := 2, ground := Ground.phase }, { on := 3, ground := Ground.phase }, { on := 4, ground := Ground.textOnly Departure.lateStores }, { on := 5, ground := Ground.textOnly Departure.lateStores }, { on := 6, ground := Ground.textOnly Departure.lateStores }, { on := 7, ground := Ground.textOnly Departure.lateStoresUnsure }], guard := none }) (v := ?_) rfl (by kernel_rfl) (by kernel_rfl) (by kernel_rfl) (fun _ _ _ h => h) (Or.inl ⟨by rfl, ?_⟩) (by assumption) ?_
              rotate_left
              · intro w hSw
                try dsimp only at hSw
                go_simp
                try with_reducible rfl
              try simp only [Act.put, List.setIfInBounds_toArray, List.set_cons_zero, List.set_cons_succ]
              refine wpAnyH_take (i := 9) (oi := { dst := some 10, op := Op.assign (Operand.tmp 42), type := 49, pos := "ref.go:134", after := #[{ on := 7, ground := Ground.data }, { on := 8, ground := Ground.chain }, { on := 0, ground := Ground.phase }, { on := 1, ground := Ground.phase }, { on := 2, ground := Ground.phase }, { on := 3, ground := Ground.phase }, { on := 4, ground := Ground.phase }, { on := 5, ground := Ground.phase }, { on := 6, ground := Ground.phase }, { on := 7, ground := Ground.phase }, { on := 8, ground := Ground.phase }], guard := none }) (v := ?_) rfl (by kernel_rfl) (by kernel_rfl) (by kernel_rfl) (fun _ _ _ h => h) (Or.inl ⟨by rfl, ?_⟩) (by assumption) ?_
              rotate_left
              · intro w hSw
                try dsimp only at hSw
                go_simp
                try with_reducible rfl
              try simp only [Act.put, List.setIfInBounds_toArray, List.set_cons_zero, List.set_cons_succ]
              refine wpAnyH_done (by kernel_rfl) ?_ _
              go_wp2_with fail
              go_meet
              case rel => exact ⟨_, _, _, rfl, rfl, rfl, D2.out, A1.out, A2.out⟩
          obtain ⟨b9, b10, w9, rfl, rfl, rfl, HH⟩ := hcut
          have C9 := hid (HC.out.below HH.out.1)
          have LB : Hid (bs < wr.heap.size) := (HC.out.dn.lt (g := bs) rfl).2
          have L9 : Hid (b9 ≠ bs) := fun e => by have h1 := (HH.out.2.1.lt (g := b9) rfl).1; have h2 := LB.out; omega
          have L10 : Hid (b10 ≠ bs) := fun e => by have h1 := (HH.out.2.2.lt (g := b10) rfl).1; have h2 := LB.out; omega
          have AT := hid (fun k q1 c1 R W' (h : CI V w9 N E bs m k q1 c1 R W') i (hi : i < N) => And.intro (h.at HH.out.2.1 L9.out hi) (h.at HH.out.2.2 L10.out hi))
          have I0 : Hid (CI V w9 N E bs m m (some ⟨w9.heap.size, 0, none⟩) 0 [] (w9.alloc (.cells #[] 3))) := CI.start C9.out HL.out (bal _ _) (OwnG.empty KI w9)
          have OW := hid (fun k q1 c1 R W' (h : CI V w9 N E bs m k q1 c1 R W') => h.ot C9.out)
          clear HH HC y0 y1 y2 y3 s0 BD CW1 CW2 LB
          obtain ⟨g0, hg0⟩ : ∃ g0, g0 = w9.heap.size := ⟨_, rfl⟩
          go_upto_region 12 with fail
          rw [← hg0] at I0 ⊢
          clear hg0
          generalize w9.alloc (.cells #[] 3) = W10 at *
          have R0 : Hid (([] : List Int) = nI (ris m (scB E m))) := by show _ = _; rw [ris_none HL.out]; rfl
          go_wp2_with fail
          go_loopw [11, 12] (fun v11 v12 wq => ∃ (k : Nat) (R : List Int) (q1 : Option Addr) (c1 : Nat) (wk : World), v12 = .int .i64 k ∧ v11 = .slice q1 R.length c1 ∧ wk = wq ∧ m ≤ k ∧ k ≤ N ∧ Hid (R = nI (ris k (scB E m))) ∧ Hid (CI V w9 N E bs m k q1 c1 R wk)) (fun _ v12 _ => N - (intOf v12).toNat)
          case atStart => exact ⟨m, [], _, _, _, rfl, rfl, rfl, Nat.le_refl _, hm, R0, I0⟩
          case round =>
            obtain ⟨k, R, q1, c1, wq, rfl, rfl, rfl, hmk, hkN, HR, HI⟩ := hrel
            clear I0 R0
            obtain ⟨y0, y1, y2, y3⟩ := GC.out wq HI.out.bl
            have RL : R.length ≤ 4096 := by rw [HR.out, nI_len]; have := ris_len k (scB E m); omega
            have LS : Hid ((R.length + 1) * KI.B ≤ 140737488355328) := by show (_ + 1) * 8 ≤ _; omega
            by_cases hk : k < N
            · obtain ⟨t1, t2⟩ := AT.out k q1 c1 R wq HI.out k hk
              have hki : (k : Int) < (N : Nat) := by omega
              by_cases hkm : k = m
              · obtain rfl : m = k := hkm.symm
                have HS : Hid (scB E m m = true) := scB_iff.2 (sc.refl _ _)
                generalize wyB E (-1) [m] m = x1 at *
                generalize wyB (tu E) (-1) [m] m = x2 at *
                have R2 : Hid (R ++ [(m : Int)] = nI (ris (m + 1) (scB E m))) := by show _ = _; rw [ris_succ, if_pos HS.out, nI_app, HR.out]; rfl
                have PU := hid (fun w8 g8 c8 => HI.out.push (x := (m : Int)) (w8 := w8) (g8 := g8) (c8 := c8) hk HS.out)
                go_upto_region 17 with (at_builtin; refine append_g KI KI_ok rfl (.tmp 66) (.tmp 68) 25 rfl w9.heap.size Try.underlying25 wq _ _ (.slice q1 R.length c1) R (m : Int) _ rfl HI.out.ow wq.heap.size rfl rfl rfl LS.out HI.out.sz ?_; intro g5 cp5 w5 ho5 hb5 hk5 _; obtain ⟨k1, ⟨u, k2⟩, k3⟩ := PU.out w5 g5 cp5 ho5 hb5 hk5; have K1 := hid k1; clear k1 ho5 hb5 hk5)
                go_wp2
                go_roundw
                case rel => first | exact ⟨m + 1, R ++ [(m : Int)], some ⟨g5, 0, none⟩, cp5, _, by go_num, by rw [List.length_append]; rfl, rfl, by omega, by omega, R2, K1⟩ | exact ⟨m + 1, by omega, R ++ [(m : Int)], some ⟨g5, 0, none⟩, cp5, ⟨rfl, by simp, rfl⟩, by omega, by omega, R2, K1⟩
                case measure => simp [intOf]; omega
              · have SC := hid (sc_cond (E := E) hkm)
                have hkmi : ¬ (k : Int) = (m : Nat) := by omega
                have hkmb : ((k : Int) == (m : Nat)) = false := by simp [hkmi]
                generalize wyB E (-1) [m] k = x1 at *
                generalize wyB (tu E) (-1) [m] k = x2 at *
                cases x1 with
                | true =>
                  cases x2 with
                  | true =>
                    have HS : Hid (scB E m k = true) := SC.out
                    clear SC
                    have R2 : Hid (R ++ [(k : Int)] = nI (ris (k + 1) (scB E m))) := by show _ = _; rw [ris_succ, if_pos HS.out, nI_app, HR.out]; rfl
                    have PU := hid (fun w8 g8 c8 => HI.out.push (x := (k : Int)) (w8 := w8) (g8 := g8) (c8 := c8) hk HS.out)
                    go_upto_region 17 with (at_builtin; refine append_g KI KI_ok rfl (.tmp 66) (.tmp 68) 25 rfl w9.heap.size Try.underlying25 wq _ _ (.slice q1 R.length c1) R (k : Int) _ rfl HI.out.ow wq.heap.size rfl rfl rfl LS.out HI.out.sz ?_; intro g5 cp5 w5 ho5 hb5 hk5 _; obtain ⟨k1, ⟨u, k2⟩, k3⟩ := PU.out w5 g5 cp5 ho5 hb5 hk5; have K1 := hid k1; clear k1 ho5 hb5 hk5)
                    go_wp2
                    go_roundw
                    case rel => first | exact ⟨k + 1, R ++ [(k : Int)], some ⟨g5, 0, none⟩, cp5, _, by go_num, by rw [List.length_append]; rfl, rfl, by omega, by omega, R2, K1⟩ | exact ⟨k + 1, by omega, R ++ [(k : Int)], some ⟨g5, 0, none⟩, cp5, ⟨rfl, by simp, rfl⟩, by omega, by omega, R2, K1⟩
                    case measure => simp [intOf]; omega
                  | false =>
                    have HS : Hid (scB E m k = false) := SC.out
                    clear SC
                    have R2 : Hid (R = nI (ris (k + 1) (scB E m))) := by show _ = _; rw [ris_succ, if_neg (by rw [HS.out]; simp), HR.out]
                    have K1 := hid (HI.out.skip HS.out)
                    go_wp2_with fail
                    go_roundw
                    case rel => exact ⟨k + 1, R, q1, c1, _, by go_num, rfl, rfl, by omega, by omega, R2, K1⟩
                    case measure => simp [intOf]; omega
                | false =>
                  have HS : Hid (scB E m k = false) := SC.out
                  clear SC
                  have R2 : Hid (R = nI (ris (k + 1) (scB E m))) := by show _ = _; rw [ris_succ, if_neg (by rw [HS.out]; simp), HR.out]
                  have K1 := hid (HI.out.skip HS.out)
                  go_wp2_with fail
                  go_roundw
                  case rel => exact ⟨k + 1, R, q1, c1, _, by go_num, rfl, rfl, by omega, by omega, R2, K1⟩
                  case measure => simp [intOf]; omega
            · obtain rfl : N = k := by omega
              have LV : vs.length ≤ 4096 := by rw [C9.out.ln]; have := ris_len m (lst E); omega
              have LS2 : Hid ((vs.length + 1) * KS.B ≤ 140737488355328) := by show (_ + 1) * 24 ≤ _; omega
              have O2 := hid (OW.out N q1 c1 R wq HI.out)
              have VL : Hid (V.heap.size ≤ wq.heap.size) := HI.out.bl.size
              have NX := hid (fun w8 g8 c8 => CO.next (w8 := w8) (g8 := g8) (c8 := c8) C9.out HI.out HR.out HL.out)
              go_wp2_with (at_builtin; refine append_g KS KS_ok rfl (.tmp 73) (.tmp 75) 42 rfl V.heap.size Try.underlying42 wq _ _ (.slice q vs.length cq) vs (q1, R.length, c1) _ rfl O2.out wq.heap.size rfl rfl rfl LS2.out VL.out ?_; intro g5 cp5 w5 ho5 hb5 hk5 _; have K1 := hid (NX.out w5 g5 cp5 ho5 hb5 hk5); clear ho5 hb5 hk5)
              go_roundw
              case rel => exact ⟨m + 1, vs ++ [(q1, R.length, c1)], some ⟨g5, 0, none⟩, cp5, _, by go_num, by rw [List.length_append]; rfl, rfl, by omega, K1⟩
              case measure => simp [intOf]; omega
      · obtain rfl : N = m := by omega
        go_wp2_with fail
        go_ret2
        exact HC.out.ans WV.out
  · rw [cmA_no h0]
    have e1 : tuN n l = 0 := by unfold tuN; rw [if_neg h0]
    have e2 : tuL n l = [] := by unfold tuL; rw [if_neg h0]
    rw [e1, e2] at TU
    generalize chkG n l = r at *
    have b1 : (r != 0) = true := by simp [h0]
    go_enter Try.func64, Try.ntmps64
    go_wp2_with (go_at_call 79; refine TU.out.mono ?_; rintro e w6 ⟨p6, c6, rfl, o6, b6⟩; have B6 := hid b6; clear o6 b6)
    go_ret2
    exact AnsP.none (bl3 BW.out (bl3 B6.out (bal _ _)))
end Go.Proofs.Ytghkhceplpjegaa
