/- Graph: the laws' copied, same, spoil; Turn on both sides. -/
import Derived.Test.YtghkhceplpjegaaYc3
namespace Go.Proofs.Ytghkhceplpjegaa
open Go.RowKit

def eN (e : List (Int × Int)) : List (Nat × Nat) := e.map fun x => (x.1.toNat, x.2.toNat)
theorem eN_eI (E : List (Nat × Nat)) : eN (eI E) = E := by
  unfold eN eI
  rw [List.map_map]
  simp [Function.comp_def]
/-- What a call with a node answers first. -/
def nxE (n : Int) (e : List (Int × Int)) (x : Int) : Int := if chkG n e = 0 then (if ndB n x then 0 else 1) else chkG n e
def nxA (n : Int) (e : List (Int × Int)) (x : Int) : List Int := if nxE n e x = 0 then nI (nx n.toNat (eN e) x.toNat) else []
theorem nxE_ok {n : Int} {e : List (Int × Int)} {x : Int} (h : nxE n e x = 0) : ∃ N E i, n = (N : Nat) ∧ e = eI E ∧ GOK N E ∧ x = (i : Nat) ∧ i < N := by
  unfold nxE at h
  split at h
  · rename_i h1
    obtain ⟨N, E, rfl, rfl, hg⟩ := chkG_ok h1
    split at h
    · rename_i h2
      simp only [ndB, Bool.and_eq_true, decide_eq_true_eq] at h2
      exact ⟨N, E, x.toNat, rfl, rfl, hg, by omega, by omega⟩
    · cases h
  · rename_i h1; exact absurd h h1
theorem nxE_at {N : Nat} {E : List (Nat × Nat)} (hg : GOK N E) {i : Nat} (hi : i < N) : nxE N (eI E) i = 0 ∧ nxA N (eI E) i = nI (nx N E i) := by
  have h1 : nxE N (eI E) i = 0 := by
    unfold nxE
    rw [if_pos hg.chk]
    have : ndB N i = true := by simp [ndB]; omega
    rw [if_pos this]
  refine ⟨h1, ?_⟩
  unfold nxA
  rw [if_pos h1, eN_eI]
  simp
theorem nxE_no {n : Int} {e : List (Int × Int)} {x : Int} (h : nxE n e x ≠ 0) : nxA n e x = [] := by unfold nxA; rw [if_neg h]
set_option maxHeartbeats 4000000 in
theorem checkWith_any (w : World) (n : Int) (v : Value) (l : List (Int × Int)) (hv : GS KE w v l) (x : Int) : Calls Try.prog 43 #[.agg #[.int .i64 n, v], .int .i64 x] w fun e w' => e = .returned (.int .i64 (nxE n l x)) ∧ Below w.heap.size w w' := by
  obtain ⟨p, c, rfl⟩ := hv.form
  generalize hW : w.alloc (.cells #[.int .i64 n, .slice p l.length c] 24) = W
  have BW : Hid (Below w.heap.size w W) := by rw [← hW]; exact bal _ _
  have C0 : Hid (∀ W', Below W.heap.size W W' → W'.cell? ⟨w.heap.size, 0, none⟩ = some (.int .i64 n) ∧ W'.cell? ⟨w.heap.size, 1, none⟩ = some (.slice p l.length c)) := fun W' hb => by
    have e : W'.heap[w.heap.size]? = some (.cells #[.int .i64 n, .slice p l.length c] 24) := (hb.block _ (by rw [← hW, asz]; omega)).trans (by rw [← hW]; exact heap_alloc_new _ _)
    exact ⟨cell_of_row _ _ _ _ _ _ e, cell_of_row _ _ _ _ _ _ e⟩
  have CK := hid (check_any W n _ l (hv.below BW.out))
  obtain ⟨d0, d1⟩ := C0.out W (Below.refl _ _)
  have HE : Hid (nxE n l x = if chkG n l = 0 then (if ndB n x then 0 else 1) else chkG n l) := rfl
  generalize chkG n l = ck at *
  generalize nxE n l x = r at *
  have IN := hid (fun W' => isNode_any W' n x p l.length c)
  by_cases h0 : ck = 0
  · have b1 : (ck != 0) = false := by simp [h0]
    rw [if_pos h0] at HE
    subst h0
    cases hx : ndB n x with
    | true =>
      rw [hx] at HE IN
      go_enter Try.func43, Try.ntmps43
      go_wp2_with (first | (go_at_call 31; refine CK.out.mono ?_; rintro e w6 ⟨rfl, hb6⟩; have B6 := hid hb6; obtain ⟨g0, g1⟩ := C0.out _ hb6; clear hb6) | (go_at_call 55; refine (IN.out _).mono ?_; rintro e w7 ⟨rfl, hb7⟩; have B7 := hid hb7; clear hb7))
      go_ret
      exact ⟨ret_i HE.out.symm, bl3 BW.out (bl3 B6.out B7.out)⟩
    | false =>
      rw [hx] at HE IN
      go_enter Try.func43, Try.ntmps43
      go_wp2_with (first | (go_at_call 31; refine CK.out.mono ?_; rintro e w6 ⟨rfl, hb6⟩; have B6 := hid hb6; obtain ⟨g0, g1⟩ := C0.out _ hb6; clear hb6) | (go_at_call 55; refine (IN.out _).mono ?_; rintro e w7 ⟨rfl, hb7⟩; have B7 := hid hb7; clear hb7))
      go_ret
      exact ⟨ret_i HE.out.symm, bl3 BW.out (bl3 B6.out B7.out)⟩
  · have b1 : (ck != 0) = true := by simp [h0]
    rw [if_neg h0] at HE
    go_enter Try.func43, Try.ntmps43
    go_wp2_with (go_at_call 31; refine CK.out.mono ?_; rintro e w6 ⟨rfl, hb6⟩; have B6 := hid hb6; clear hb6)
    go_ret
    exact ⟨ret_i HE.out.symm, bl3 BW.out B6.out⟩
/-- A list and an error. -/
def AnsI (w : World) (L : List Int) (r : Int) (e : Ending) (w' : World) : Prop := ∃ q c, e = .returned (.tuple #[.slice q L.length c, .int .i64 r]) ∧ GS KI w' (.slice q L.length c) L ∧ Below w.heap.size w w'
theorem AnsI.none {w w' : World} {r : Int} (h : Below w.heap.size w w') : AnsI w [] r (.returned (.tuple #[.slice none 0 0, .int .i64 r])) w' := ⟨_, _, rfl, Or.inl ⟨Or.inl rfl, rfl⟩, h⟩
end Go.Proofs.Ytghkhceplpjegaa
namespace Go.Proofs.Ytghkhceplpjegaa
open Go.RowKit

/-- A graph's row of its own, to be spoiled. -/
structure SP (w : World) (g c : Nat) (wk : World) : Prop where
  r : ∃ cur : Array Value, wk.heap[g]? = some (.cells cur 47) ∧ cur.size = c * 2
  k : But (fun x => x = g) w wk
theorem SP.two {w : World} {g c : Nat} {wk : World} (h : SP w g c wk) {k : Nat} (hk : k < c) (a b : Value) : (∃ u0 u1, wk.cell? ⟨g, k * 2, none⟩ = some u0 ∧ wk.cell? ⟨g, k * 2 + 1, none⟩ = some u1) ∧ (∀ o, wk.frozen? ⟨g, o, none⟩ = false) ∧ SP w g c ((wk.setCell ⟨g, k * 2, none⟩ a).setCell ⟨g, k * 2 + 1, none⟩ b) := by
  obtain ⟨cur, hb, hs⟩ := h.r
  have h0 : k * 2 < cur.size := by omega
  have h1 : k * 2 + 1 < cur.size := by omega
  refine ⟨⟨cur[k * 2], cur[k * 2 + 1], ?_, ?_⟩, fun o => by simp [World.frozen?, hb], ⟨(cur.setIfInBounds (k * 2) a).setIfInBounds (k * 2 + 1) b, ?_, by simp [hs]⟩, ?_⟩
  · rw [cell_of_row _ _ _ _ _ _ hb]; simp [h0]
  · rw [cell_of_row _ _ _ _ _ _ hb]; simp [h1]
  · exact heap_setCell_same _ _ _ _ _ _ (heap_setCell_same _ _ _ _ _ _ hb)
  · have hk2 := h.k
    refine ⟨by simp [World.setCell]; exact hk2.os, by simp [World.setCell]; exact hk2.tape, by simp [World.setCell]; exact hk2.output, by simp [World.setCell]; exact hk2.size, fun y hy hn => ?_⟩
    rw [set_far hn, set_far hn]
    exact hk2.block y hy hn
set_option maxHeartbeats 8000000 in
theorem spoil_own (n : Int) (g m c : Nat) (M : List (Int × Int)) (w : World) (base : Nat) (h : OwnG KE w base (.slice (some ⟨g, 0, none⟩) m c) M) : Calls Try.prog 17 #[.agg #[.int .i64 n, .slice (some ⟨g, 0, none⟩) m c]] w fun e w' => e = .returned (.tuple #[]) ∧ But (fun x => x = g) w w' := by
  have hg := (own_len h).2.1
  have H0 : m ≤ c ∧ c ≤ maxLen ∧ SP w g c w := by
    rcases h.2 with ⟨e, _⟩ | ⟨g', cap, cur, e, _, hb, h1, h2, h3, _⟩
    · cases e
    · injection e with e1 e2 e3
      injection e1 with e1
      injection e1 with e1
      subst e1 e2 e3
      exact ⟨h1, h2, ⟨cur, hb, h3⟩, But.refl _ _⟩
  obtain ⟨h1, h2, S0⟩ := H0
  generalize hW : w.alloc (.cells #[.int .i64 n, .slice (some ⟨g, 0, none⟩) m c] 24) = W
  have HS : Hid (SP w g c W) := by
    obtain ⟨cur, hb, hs⟩ := S0.r
    rw [← hW]
    exact ⟨⟨cur, ((bal w _).block g hg).trans hb, hs⟩, But.of_below (bal _ _)⟩
  have C0 : W.cell? ⟨w.heap.size, 0, none⟩ = some (.int .i64 n) ∧ W.cell? ⟨w.heap.size, 1, none⟩ = some (.slice (some ⟨g, 0, none⟩) m c) := by
    have e : W.heap[w.heap.size]? = some (.cells #[.int .i64 n, .slice (some ⟨g, 0, none⟩) m c] 24) := by rw [← hW]; exact heap_alloc_new _ _
    exact ⟨cell_of_row _ _ _ _ _ _ e, cell_of_row _ _ _ _ _ _ e⟩
  obtain ⟨d0, d1⟩ := C0
  unfold maxLen at h2
  clear h S0
  go_enter Try.func17, Try.ntmps17
  go_wp2_with fail
  clear hW d0 d1
  go_loopw [3] (fun v3 wr => ∃ (k : Nat) (wk : World), v3 = .int .i64 k ∧ wk = wr ∧ k ≤ c ∧ Hid (SP w g c wk)) (fun v3 _ => c - (intOf v3).toNat)
  case atStart => exact ⟨0, _, rfl, rfl, Nat.zero_le _, HS⟩
  case round =>
    obtain ⟨k, wr, rfl, rfl, hk, HK⟩ := hrel
    clear HS
    by_cases hlt : k < c
    · obtain ⟨⟨u0, u1, e0, e1⟩, fz, hs⟩ := HK.out.two hlt (.int .i64 (-7)) (.int .i64 0)
      have HS2 := hid hs
      clear hs
      go_wp2_with fail
      go_roundw
      case rel => exact ⟨k + 1, _, by go_num, rfl, by omega, HS2⟩
      case measure => simp [intOf]; omega
    · obtain rfl : k = c := by omega
      have F := hid HK.out.k
      go_wp2_with fail
      go_end0
      exact ⟨rfl, F.out⟩
set_option maxHeartbeats 4000000 in
theorem spoil_nil (n : Int) (w : World) : Calls Try.prog 17 #[.agg #[.int .i64 n, .slice none 0 0]] w fun e w' => e = .returned (.tuple #[]) ∧ Below w.heap.size w w' := by
  have BA : Hid (Below w.heap.size w (w.alloc (.cells #[.int .i64 n, .slice none 0 0] 24))) := bal _ _
  go_enter Try.func17, Try.ntmps17
  go_wp2_with fail
  go_loopw [3] (fun v3 wr => v3 = .int .i64 0 ∧ ∃ wk, wk = wr ∧ Hid (Below w.heap.size w wk)) (fun _ _ => 0)
  case atStart => exact ⟨rfl, _, rfl, BA⟩
  case round =>
    obtain ⟨rfl, wr, rfl, HB⟩ := hrel
    go_wp2_with fail
    go_end0
    exact ⟨rfl, HB.out⟩
theorem spoil_any (n : Int) (v : Value) (M : List (Int × Int)) (w : World) (base : Nat) (h : OwnG KE w base v M) : Calls Try.prog 17 #[.agg #[.int .i64 n, v]] w fun e w' => e = .returned (.tuple #[]) ∧ But (fun x => v.ownBlock = some x) w w' := by
  rcases h.2 with ⟨e, _⟩ | ⟨g, cap, cur, e, _⟩
  · rw [e]
    exact (spoil_nil n w).mono fun e w' ⟨h1, h2⟩ => ⟨h1, But.of_below h2⟩
  · rw [e] at h ⊢
    refine (spoil_own n g _ cap M w base h).mono fun e w' ⟨h1, h2⟩ => ⟨h1, h2.os, h2.tape, h2.output, h2.size, fun x hx hn => h2.block x hx (fun e => hn (by rw [e]; rfl))⟩
set_option maxHeartbeats 8000000 in
theorem copied_any (w : World) (n : Int) (v : Value) (l : List (Int × Int)) (hv : GS KE w v l) (HL : l.length * 16 ≤ 140737488355328) : Calls Try.prog 9 #[.agg #[.int .i64 n, v]] w fun e w' => ∃ p c, e = .returned (.agg #[.int .i64 n, .slice p l.length c]) ∧ OwnG KE w' w.heap.size (.slice p l.length c) l ∧ Below w.heap.size w w' := by
  obtain ⟨p, c, rfl⟩ := hv.form
  generalize hW : (w.alloc (.cells #[.int .i64 n, .slice p l.length c] 24)).alloc (.cells #[.int .i64 0, .slice none 0 0] 24) = W
  have BW : Hid (Below w.heap.size w W) := by rw [← hW]; exact bl3 (bal _ _) (bal _ _)
  have SW : Hid (W.heap.size = w.heap.size + 2) := by show _ = _; rw [← hW, asz, asz]
  have B0 : Hid (W.heap[w.heap.size]? = some (.cells #[.int .i64 n, .slice p l.length c] 24)) := by show _ = _; rw [← hW, Below.heap_alloc _ _ _ (by rw [asz]; omega)]; exact heap_alloc_new _ _
  have B1 : Hid (W.heap[w.heap.size + 1]? = some (.cells #[.int .i64 0, .slice none 0 0] 24)) := by
    show _ = _
    have := heap_alloc_new (w.alloc (.cells #[.int .i64 n, .slice p l.length c] 24)) (.cells #[.int .i64 0, .slice none 0 0] 24)
    rw [asz] at this
    rw [← hW]
    exact this
  have G0 : Hid (GS KE (W.alloc (.cells #[] 47)) (.slice p l.length c) l) := hv.below (bl3 BW.out (bal _ _))
  have O0 : Hid (OwnG KE (W.alloc (.cells #[] 47)) W.heap.size (.slice (some ⟨W.heap.size, 0, none⟩) 0 0) []) := OwnG.empty KE W
  have LS : Hid ((([] : List (Int × Int)).length + l.length) * KE.B ≤ 140737488355328) := by show (0 + _) * 16 ≤ _; omega
  have BA : Hid (Below W.heap.size W (W.alloc (.cells #[] 47))) := bal _ _
  clear hv HL
  go_enter Try.func9, Try.ntmps9
  go_upto_region 1 with fail
  try rw [hW]
  have d1 : ∀ ob, (W.alloc ob).cell? ⟨w.heap.size, 1, none⟩ = some (.slice p l.length c) := fun ob => cell_of_row _ _ _ _ _ _ (((bal W ob).block _ (lt_of_heap B0.out)).trans B0.out)
  obtain ⟨m, hm⟩ : ∃ m, m = l.length := ⟨_, rfl⟩
  rw [← hm] at d1 B0 G0 ⊢
  have ML : Hid (l.length = m) := hm.symm
  clear hW hm
  have BX : Hid (∀ w5, Below W.heap.size W w5 → ∀ (p5 : Option Addr) (c5 : Nat), w5.cell? ⟨w.heap.size, 1, none⟩ = some (.slice p m c) ∧ (∀ o, w5.frozen? ⟨w.heap.size, o, none⟩ = false) ∧ ((w5.setCell ⟨w.heap.size, 1, none⟩ (.slice p5 m c5)).cell? ⟨w.heap.size, 0, none⟩ = some (.int .i64 n) ∧ (w5.setCell ⟨w.heap.size, 1, none⟩ (.slice p5 m c5)).cell? ⟨w.heap.size, 1, none⟩ = some (.slice p5 m c5)) ∧ (w5.setCell ⟨w.heap.size, 1, none⟩ (.slice p5 m c5)).heap[w.heap.size + 1]? = some (.cells #[.int .i64 0, .slice none 0 0] 24)) := fun w5 hb p5 c5 => by
    have e0 := (hb.block _ (lt_of_heap B0.out)).trans B0.out
    have e1 := (hb.block _ (lt_of_heap B1.out)).trans B1.out
    have e2 := heap_setCell_same w5 w.heap.size 1 _ _ (.slice p5 m c5) e0
    exact ⟨cell_of_row _ _ _ _ _ _ e0, fun o => by simp [World.frozen?, e0], ⟨cell_of_row _ _ _ _ _ _ e2, cell_of_row _ _ _ _ _ _ e2⟩, by rw [set_far (by omega)]; exact e1⟩
  go_upto_region 2 with (at_builtin; refine append_gs KE KE_ok rfl (.tmp 3) (.tmp 5) 22 rfl W.heap.size Try.underlying22 _ (.slice (some ⟨W.heap.size, 0, none⟩) 0 0) (.slice p m c) [] l rfl rfl O0.out G0.out LS.out BA.out.size ?_; intro v5 w5 ho5 hb5 _; rw [List.nil_append] at ho5; obtain ⟨p5, c5, e5, o5⟩ := ho5.sl; rw [ML.out] at e5 o5; subst e5; have O5 := hid o5; have B5 : Hid (Below W.heap.size W w5) := BA.out.trans hb5; obtain ⟨z1, z2, z3, z4⟩ := BX.out w5 B5.out p5 c5; clear ho5 hb5 o5)
  obtain ⟨z5, z6⟩ := z3
  generalize hV : w5.setCell ⟨w.heap.size, 1, none⟩ (.slice p5 m c5) = V at *
  have hz := heap_setCell_same _ (w.heap.size + 1) 1 _ _ (.slice p5 m c5) (heap_setCell_same V (w.heap.size + 1) 0 _ _ (.int .i64 n) z4)
  have y0 : V.cell? ⟨w.heap.size + 1, 0, none⟩ = some (.int .i64 0) := cell_of_row _ _ _ _ _ _ z4
  have y1 : V.cell? ⟨w.heap.size + 1, 1, none⟩ = some (.slice none 0 0) := cell_of_row _ _ _ _ _ _ z4
  have y2 : ∀ o, V.frozen? ⟨w.heap.size + 1, o, none⟩ = false := fun o => by simp [World.frozen?, z4]
  have r0 : ((V.setCell ⟨w.heap.size + 1, 0, none⟩ (.int .i64 n)).setCell ⟨w.heap.size + 1, 1, none⟩ (.slice p5 m c5)).cell? ⟨w.heap.size + 1, 0, none⟩ = some (.int .i64 n) := cell_of_row _ _ _ _ _ _ hz
  have r1 : ((V.setCell ⟨w.heap.size + 1, 0, none⟩ (.int .i64 n)).setCell ⟨w.heap.size + 1, 1, none⟩ (.slice p5 m c5)).cell? ⟨w.heap.size + 1, 1, none⟩ = some (.slice p5 m c5) := cell_of_row _ _ _ _ _ _ hz
  have FIN : Hid (OwnG KE ((V.setCell ⟨w.heap.size + 1, 0, none⟩ (.int .i64 n)).setCell ⟨w.heap.size + 1, 1, none⟩ (.slice p5 m c5)) w.heap.size (.slice p5 m c5) l ∧ Below w.heap.size w ((V.setCell ⟨w.heap.size + 1, 0, none⟩ (.int .i64 n)).setCell ⟨w.heap.size + 1, 1, none⟩ (.slice p5 m c5))) := by
    have hs := SW.out
    refine ⟨(O5.out.far fun g hg => ?_).low BW.out.size, ?_⟩
    · have := (O5.out.lt hg).1
      rw [set_far (by omega), set_far (by omega), ← hV, set_far (by omega)]
    · refine Below.setCell (p := ⟨w.heap.size + 1, 1, none⟩) (Below.setCell (p := ⟨w.heap.size + 1, 0, none⟩) ?_ (by show w.heap.size ≤ w.heap.size + 1; omega) _) (by show w.heap.size ≤ w.heap.size + 1; omega) _
      rw [← hV]
      exact Below.setCell (p := ⟨w.heap.size, 1, none⟩) (bl3 BW.out B5.out) (Nat.le_refl _) _
  clear hV z1 z2 z4 hz
  go_wp2
  refine bodyPost_ret (v := .agg #[.int .i64 n, .slice p5 m c5]) (by simp [results, Try.results9, go_sem, r0, r1]) rfl ?_
  rw [ML.out]
  exact ⟨p5, c5, rfl, FIN.out.1, FIN.out.2⟩
end Go.Proofs.Ytghkhceplpjegaa
