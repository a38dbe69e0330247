/- The reference's Advance, walked. -/
import Derived.Test.YteiadigafkollaaRg8
namespace Go.Proofs.Yteiadigafkollaa
open Go.RowKit Go.Sort Go.Shelf

set_option maxHeartbeats 16000000 in
set_option maxRecDepth 100000 in
theorem radv_any (w : World) (time made x : Int) (p : Option Addr) (cap : Nat) (L : List Tm) (h : RS w (.slice p L.length cap) L) (ho : Ok time made L) :
    Calls Try.prog 31 #[.agg #[.int .i64 time, .int .i64 made, .slice p L.length cap], .int .i64 x] w fun e w' => RAdv w w' time made x p cap L e := by
  have HR : Hid (RS w (.slice p L.length cap) L) := h
  have HOK : Hid (Ok time made L) := ho
  have ht1 := ho.now0.1
  have ht2 := ho.now0.2
  clear h ho
  by_cases hr : 0 ≤ x ∧ x ≤ 1099511627776 - time
  · have HRg : Hid (0 ≤ x ∧ x ≤ 1099511627776 - time) := hr
    obtain ⟨hr1, hr2⟩ := hr
    have g1 : ¬ x < 0 := by omega
    have g2 : ¬ x > 1099511627776 - time := by omega
    obtain ⟨U, hU⟩ : ∃ U, U = time + x := ⟨_, rfl⟩
    have HU : Hid (U = time + x) := hU
    have hU1 : 0 ≤ U := by omega
    have hU2 : U ≤ 1099511627776 := by omega
    clear hU
    go_enter Try.func31, Try.ntmps31
    have A0 : Hid (AI w (((w.alloc (.cells #[.int .i64 time, .int .i64 made, .slice p L.length cap] 28)).alloc (.cells #[.int .i64 0, .int .i64 0, .slice none 0 0] 28)).alloc (.cells #[.int .i64 (time + x), .int .i64 made, .slice p L.length cap] 28)) p time made U cap L 0 (.slice p L.length cap) (.slice none 0 0)) := by
      obtain ⟨t1, t2, t3⟩ := three_boxes w #[.int .i64 time, .int .i64 made, .slice p L.length cap] #[.int .i64 0, .int .i64 0, .slice none 0 0] #[.int .i64 (time + x), .int .i64 made, .slice p L.length cap] 28 28 28
      have hbl : Below w.heap.size w (((w.alloc (.cells #[.int .i64 time, .int .i64 made, .slice p L.length cap] 28)).alloc (.cells #[.int .i64 0, .int .i64 0, .slice none 0 0] 28)).alloc (.cells #[.int .i64 (time + x), .int .i64 made, .slice p L.length cap] 28)) := (((Below.refl _ _).alloc (Nat.le_refl _) _).alloc (by simp) _).alloc (by simp; omega) _
      refine ⟨World.ownsRow_nil _ _ _ _, HR.out.below hbl, ?_, ?_, hbl, fun o => cell_of_row _ _ _ _ _ _ t1, ⟨_, _, _, cell_of_row _ _ _ _ _ _ t2, cell_of_row _ _ _ _ _ _ t2, cell_of_row _ _ _ _ _ _ t2⟩, fun o => by rw [cell_of_row _ _ _ _ _ _ t3, HU.out], ?_, by simp⟩
      · intro a n c e
        refine ⟨by simp [Value.ownBlock], ?_⟩
        rcases HR.out with ⟨e2, _⟩ | ⟨X, o, cp, e2, hX, _⟩
        · rw [e2] at e; cases e
        · rw [e2] at e; injection e with e3 _ _; injection e3 with e3; subst e3; exact Or.inl hX
      · intro a n c e
        injection e with e3 _ _
        exact Or.inl ⟨a, e3, rfl⟩
      · intro o b hb1 hb2
        have hb : b = w.heap.size ∨ b = w.heap.size + 1 ∨ b = w.heap.size + 2 := by omega
        rcases hb with rfl | rfl | rfl
        · exact frozen_of_row t1
        · exact frozen_of_row t2
        · exact frozen_of_row t3
    go_wp2
    go_loopw [8] (fun v8 wr => ∃ (k : Nat) (vk vo : Value) (wk : World), vo = v8 ∧ wk = wr ∧ (k : Int) ≤ dueL U L ∧ k ≤ 4096 ∧ Hid (AI w wk p time made U cap L k vk vo)) (fun v8 _ => 5000 - lenV v8)
    case atStart => exact ⟨0, _, _, _, rfl, rfl, by have := due_nn U L (fun t ht => (HOK.out.rng t ht).2.2.2.2.1); simpa using this, by omega, A0⟩
    case round =>
      obtain ⟨k, vk, vo, wr, rfl, rfl, hk, hk4, HA⟩ := hrel
      clear A0
      obtain ⟨po, co, hvo⟩ := HA.out.own.form
      rw [told_len] at hvo
      subst hvo
      obtain ⟨pk, ck, hvk⟩ := HA.out.rs.form
      subst hvk
      obtain ⟨hok, hdu⟩ := it_ok HOK.out hU2 k hk
      have HN : Hid (dueL U (it k L) = dueL U L - k) := hdu
      have HK : Hid (Ok time made (it k L)) := hok
      have hlen : (it k L).length ≤ 1024 := hok.len
      have b00 : wr.cell? ⟨w.heap.size, 0, none⟩ = some (.int .i64 time) := HA.out.b0 0
      have b01 : wr.cell? ⟨w.heap.size, 1, none⟩ = some (.int .i64 made) := HA.out.b0 1
      have b02 : wr.cell? ⟨w.heap.size, 2, none⟩ = some (.slice p L.length cap) := HA.out.b0 2
      obtain ⟨r1, r2, r3, b10, b11, b12⟩ := HA.out.b1
      have b20 : wr.cell? ⟨w.heap.size + 2, 0, none⟩ = some (.int .i64 U) := HA.out.b2 0
      have b21 : wr.cell? ⟨w.heap.size + 2, 1, none⟩ = some (.int .i64 made) := HA.out.b2 1
      have b22 : wr.cell? ⟨w.heap.size + 2, 2, none⟩ = some (.slice pk (it k L).length ck) := HA.out.b2 2
      have z0 : ∀ o, wr.frozen? ⟨w.heap.size, o, none⟩ = false := fun o => HA.out.fz o _ (Nat.le_refl _) (by omega)
      have z1 : ∀ o, wr.frozen? ⟨w.heap.size + 1, o, none⟩ = false := fun o => HA.out.fz o _ (by omega) (by omega)
      have z2 : ∀ o, wr.frozen? ⟨w.heap.size + 2, o, none⟩ = false := fun o => HA.out.fz o _ (by omega) (by omega)
      clear hok hdu
      have FIN : Hid (dueL U (it k L) = 0 → ∀ nq, RAdv w ((((wr.drewN nq).setCell ⟨w.heap.size + 1, 0, none⟩ (.int .i64 U)).setCell ⟨w.heap.size + 1, 1, none⟩ (.int .i64 made)).setCell ⟨w.heap.size + 1, 2, none⟩ (.slice pk (it k L).length ck)) time made x p cap L (.returned (.tuple #[.agg #[.int .i64 U, .int .i64 made, .slice pk (it k L).length ck], .slice po k co, .int .i64 0]))) := by
        intro h0 nq
        obtain ⟨_, f2, f3, f4⟩ := (HA.out.drewN nq).fin (.int .i64 U) (.int .i64 made) (.slice pk (it k L).length ck)
        have hn := HN.out
        refine ⟨f2, Or.inr (Or.inr ⟨HRg.out, k, pk, po, ck, co, by rw [← HU.out]; omega, hk4, by rw [← HU.out], ?_, HA.out.src, f4⟩)⟩
        refine f3 ?_
        intro q n c e
        have := (HA.out.dj q n c e).2; omega
      have hNN : ∃ N, N = (it k L).length := ⟨_, rfl⟩
      obtain ⟨N, hN⟩ := hNN
      rw [← hN] at b22 FIN HA hlen
      cases hit : it k L with
      | nil =>
        have hN0 : N = 0 := by rw [hN, hit]; rfl
        subst hN0
        have FI2 : Hid _ := FIN.out (by rw [hit]; rfl)
        have SS : Hid (∀ nq, _) := fun nq => ((HA.out.drewN nq).fin (.int .i64 U) (.int .i64 made) (.slice pk 0 ck)).1
        clear hN hit FIN
        go_wp2
        go_quiet (fail)
        go_wp2
        exact bodyPost_ret (v := .tuple #[.agg #[.int .i64 U, .int .i64 made, .slice pk 0 ck], .slice po k co, .int .i64 0]) (by have e := SS.out nq; simp [results, Try.results31, go_sem, e.1, e.2.1, e.2.2]) rfl (FI2.out _)
      | cons t r =>
        have hN0 : N = r.length + 1 := by rw [hN, hit]; rfl
        have HN0 : Hid (N = r.length + 1) := hN0
        have hNp : 0 < N := by omega
        clear hN0
        have hNi : (0 : Int) < N := by omega
        have hNd : decide ((0 : Int) < N) = true := by simpa using hNp
        have HRS : Hid (RS wr (.slice pk N ck) (t :: r)) := hit ▸ HA.out.rs
        obtain ⟨X, o, e1, x1, x2, x3⟩ := HRS.out.head
        obtain rfl : pk = some ⟨X, o, none⟩ := e1
        have HIT : Hid (it k L = t :: r) := hit
        by_cases htu : t.tm ≤ U
        · have htd : decide (t.tm ≤ U) = true := by simpa using htu
          have FP : Hid (1 ≤ dueL U (t :: r)) := fir_head (hit ▸ HK.out) htu
          by_cases h4 : k = 4096
          · have HL : Hid (4096 < dueL (time + x) L) := by show 4096 < dueL (time + x) L; rw [← HU.out]; have e1 := HN.out; rw [hit] at e1; have e2 := FP.out; omega
            have SS : Hid (∀ nq, _) := fun nq => ((HA.out.drewN nq).fin (.int .i64 time) (.int .i64 made) (.slice p L.length cap))
            have hk5 : (4096 : Int) ≤ k := by omega
            clear hN hit FIN h4
            go_wp2
            go_quiet (fail)
            go_wp2
            exact bodyPost_ret (v := .tuple #[.agg #[.int .i64 time, .int .i64 made, .slice p L.length cap], .slice none 0 0, .int .i64 3]) (by have e := (SS.out nq).1; simp [results, Try.results31, go_sem, e.1, e.2.1, e.2.2]) rfl ⟨(SS.out _).2.1, Or.inr (Or.inl ⟨HRg.out, HL.out, rfl⟩)⟩
          · have hk5 : ¬ (4096 : Int) ≤ k := by omega
            have TL : Hid ((told k L).length ≤ 100000) := by show (told k L).length ≤ 100000; rw [told_len]; omega
            have HS3 : Hid (w.heap.size + 3 ≤ wr.heap.size) := HA.out.sz
            clear hN FIN
            go_wp2
            go_quiet (fail)
            have HAq := HA.out.drewN nq
            clear b00 b01 b02 b10 b11 b12 b20 b21 b22 z0 z1 z2 x1 x2 x3 HRS HS3
            generalize wr.drewN nq = wq at HAq ⊢
            have HA2 : Hid (AI w wq p time made U cap L k (.slice (some ⟨X, o, none⟩) N ck) (.slice po k co)) := HAq
            have b20 : wq.cell? ⟨w.heap.size + 2, 0, none⟩ = some (.int .i64 U) := HAq.b2 0
            have b21 : wq.cell? ⟨w.heap.size + 2, 1, none⟩ = some (.int .i64 made) := HAq.b2 1
            have b22 : wq.cell? ⟨w.heap.size + 2, 2, none⟩ = some (.slice (some ⟨X, o, none⟩) N ck) := HAq.b2 2
            have HS3 : Hid (w.heap.size + 3 ≤ wq.heap.size) := HAq.sz
            have HRS : Hid (RS wq (.slice (some ⟨X, o, none⟩) N ck) (t :: r)) := hit ▸ HAq.rs
            obtain ⟨X', o', e1, x1, x2, x3⟩ := HRS.out.head
            injection e1 with e1
            injection e1 with e1 e2 _
            subst e1 e2
            have HO0 : Hid (∀ ob, OwnF (wq.alloc ob) (w.heap.size + 3) (.slice po k co) (told k L)) := fun ob => HAq.own.lt (below_alloc _ ob)
            have HS4 : Hid (∀ ob, w.heap.size + 3 ≤ (wq.alloc ob).heap.size) := fun ob => Nat.le_trans HS3.out (below_alloc wq ob).size
            clear HAq HA
            have TSN : Hid (told k L ++ [(t.num, t.tm)] = told (k + 1) L) := by show _ = _; rw [told_succ, HIT.out]; rfl
            have TLk : Hid ((told k L).length = k) := told_len _ _
            have RG := HK.out.rng t (by rw [hit]; exact List.mem_cons_self ..)
            obtain ⟨rg1, rg2, rg3, rg4, rg5, rg6⟩ := RG
            obtain ⟨S, hS⟩ : ∃ S, S = Value.slice (some ⟨X, o + 3, none⟩) r.length (ck - 1) := ⟨_, rfl⟩
            have HSv : Hid _ := hS
            clear hS hit
            by_cases hgo : 0 < t.ev ∧ t.ev ≤ 1099511627776 - t.tm
            · obtain ⟨o3, hif⟩ : ∃ o3, (if ck = 1 then some (⟨X, o, none⟩ : Addr) else some ⟨X, o + 3, none⟩) = some ⟨X, o3, none⟩ := by
                by_cases hck : ck = 1
                · exact ⟨o, if_pos hck⟩
                · exact ⟨o + 3, if_neg hck⟩
              have HST : Hid (it (k + 1) L = ins ⟨t.num, t.tm + t.ev, t.ev⟩ r) := by show it (k + 1) L = _; rw [it_succ HIT.out]; unfold stepL; rw [if_pos hgo]
              obtain ⟨hgo1, hgo2⟩ := hgo
              have hgo3 : t.tm ≤ 1099511627776 - t.ev := by omega
              go_wp2_with (at_builtin; refine append_fil rfl (.tmp 51) (.tmp 57) 37 rfl (w.heap.size + 3) Try.underlying37 info_fi _ _ _ (.slice po k co) (told k L) (t.num, t.tm) _ rfl (HO0.out _) (wq.heap.size + 1) (by simp) rfl rfl TL.out (HS4.out _) ?_; intro g cap8 w8 ho8 hb8 hk8 hg8; obtain ⟨m1, m2, m3, m4, m5, m6, m7, m8, m9⟩ := HA2.out.app hb8 hk8 hg8; have d20 : w8.cell? ⟨w.heap.size + 2, 0, none⟩ = some (.int .i64 U) := (m4 _ 0 (by omega)).trans b20; have d21 : w8.cell? ⟨w.heap.size + 2, 1, none⟩ = some (.int .i64 made) := (m4 _ 1 (by omega)).trans b21; have d22 : w8.cell? ⟨w.heap.size + 2, 2, none⟩ = some (.slice (some ⟨X, o, none⟩) N ck) := (m4 _ 2 (by omega)).trans b22; have yf : ∀ o, w8.frozen? ⟨w.heap.size + 2, o, none⟩ = false := (fun o => (m5 _ o (by omega)).trans (HA2.out.fz o _ (by omega) (by omega))); have hq2 : wq.heap.size ≠ w.heap.size + 2 := (by have := HS3.out; omega); have e0 : ∀ u, (w8.setCell ⟨w.heap.size + 2, 2, none⟩ u).cell? ⟨wq.heap.size, 0, none⟩ = some (.int .i64 t.num) := (fun u => by rw [far_set hq2]; exact cell_of_row _ _ _ _ _ _ m6); have e1 : ∀ u, (w8.setCell ⟨w.heap.size + 2, 2, none⟩ u).cell? ⟨wq.heap.size, 1, none⟩ = some (.int .i64 t.tm) := (fun u => by rw [far_set hq2]; exact cell_of_row _ _ _ _ _ _ m6); have e2 : ∀ u, (w8.setCell ⟨w.heap.size + 2, 2, none⟩ u).cell? ⟨wq.heap.size, 2, none⟩ = some (.int .i64 t.ev) := (fun u => by rw [far_set hq2]; exact cell_of_row _ _ _ _ _ _ m6); have HO8 : Hid (OwnF w8 (w.heap.size + 3) (.slice (some ⟨g, 0, none⟩) (k + 1) cap8) (told (k + 1) L)) := (by show OwnF _ _ _ _; rw [TLk.out] at ho8; exact TSN.out ▸ ho8); have M1 : Hid (RS w8 (.slice (some ⟨X, o, none⟩) N ck) (t :: r)) := HIT.out ▸ m1; have M2 : Hid _ := m2; have M3 : Hid _ := m3; have M4 : Hid _ := m4; have M5 : Hid _ := m5; have M6 : Hid _ := m6; have M7 : Hid _ := m7; have M8 : Hid _ := m8; have M9 : Hid _ := m9; clear ho8 hb8 hk8 hg8 m1 m2 m3 m4 m5 m6 m7 m8 m9; have ft : ∀ o, w8.frozen? ⟨wq.heap.size, o, none⟩ = false := (fun o => frozen_of_row M6.out); have g22 : ∀ u v, ((w8.setCell ⟨w.heap.size + 2, 2, none⟩ u).setCell ⟨wq.heap.size, 1, none⟩ v).cell? ⟨w.heap.size + 2, 2, none⟩ = some u := (fun u v => by rw [far_set hq2.symm]; exact head_set d22); have t0 : ∀ u v, ((w8.setCell ⟨w.heap.size + 2, 2, none⟩ u).setCell ⟨wq.heap.size, 1, none⟩ v).cell? ⟨wq.heap.size, 0, none⟩ = some (.int .i64 t.num) := (fun u v => by rw [other_set (by decide)]; exact e0 u); have t1 : ∀ u v, ((w8.setCell ⟨w.heap.size + 2, 2, none⟩ u).setCell ⟨wq.heap.size, 1, none⟩ v).cell? ⟨wq.heap.size, 1, none⟩ = some v := (fun u v => head_set (e1 u)); have t2 : ∀ u v, ((w8.setCell ⟨w.heap.size + 2, 2, none⟩ u).setCell ⟨wq.heap.size, 1, none⟩ v).cell? ⟨wq.heap.size, 2, none⟩ = some (.int .i64 t.ev) := (fun u v => by rw [other_set (by decide)]; exact e2 u))
              have R8 : Hid (RS w8 (.slice (some ⟨X, o3, none⟩) (N - 1) (ck - 1)) r) := (by have := M1.out.cut HN0.out; rw [hif] at this; exact this)
              have BX : Hid (X ≠ w.heap.size + 1 + 1 ∧ X ≠ wq.heap.size) := by have := M2.out _ _ _ rfl; simp only at this; exact ⟨by omega, this.2.1⟩
              have HR9 : Hid (RS ((w8.setCell ⟨w.heap.size + 1 + 1, 2, none⟩ (.slice (some ⟨X, o3, none⟩) (N - 1) (ck - 1))).setCell ⟨wq.heap.size, 1, none⟩ (.int .i64 (t.tm + t.ev))) (.slice (some ⟨X, o3, none⟩) (N - 1) (ck - 1)) r) := (R8.out.blk (w' := ((w8.setCell ⟨w.heap.size + 1 + 1, 2, none⟩ (.slice (some ⟨X, o3, none⟩) (N - 1) (ck - 1))).setCell ⟨wq.heap.size, 1, none⟩ (.int .i64 (t.tm + t.ev)))) (by simp [World.setCell]) (fun a n c e => by injection e with e _ _; injection e with e; subst e; rw [Below.heap_setCell _ _ _ _ BX.out.2, Below.heap_setCell _ _ _ _ BX.out.1]))
              refine (laid_any _ _ r ⟨t.num, t.tm + t.ev, t.ev⟩ HR9.out (by have := HN0.out; omega)).mono ?_
              rintro e w10 ⟨p10, c10, rfl, ho10, hb10⟩
              have hsz9 : ((w8.setCell ⟨w.heap.size + 1 + 1, 2, none⟩ (.slice (some ⟨X, o3, none⟩) (N - 1) (ck - 1))).setCell ⟨wq.heap.size, 1, none⟩ (.int .i64 (t.tm + t.ev))).heap.size = w8.heap.size := by simp [World.setCell]
              rw [hsz9] at ho10 hb10
              have h8 : w.heap.size + 2 < w8.heap.size := by have := HS3.out; have := M7.out; omega
              have k22 : w10.cell? ⟨w.heap.size + 2, 2, none⟩ = some (.slice (some ⟨X, o3, none⟩) (N - 1) (ck - 1)) := (hb10.cell (p := ⟨w.heap.size + 2, 2, none⟩) h8).trans (g22 _ _)
              have kf : ∀ o, w10.frozen? ⟨w.heap.size + 2, o, none⟩ = false := fun o => (hb10.frozen (p := ⟨w.heap.size + 2, o, none⟩) h8).trans (by rw [World.frozen?_setCell, World.frozen?_setCell]; exact yf o)
              have G1 : Hid (∀ j, j ≠ w.heap.size + 2 → j ≠ wq.heap.size → j < w8.heap.size → w10.heap[j]? = w8.heap[j]?) := fun j h1 h2 h3 => by rw [hb10.block j h3, Below.heap_setCell _ _ _ _ h2, Below.heap_setCell _ _ _ _ (by simp; omega)]
              have G2 : Hid (∀ o, o ≠ 2 → w10.cell? ⟨w.heap.size + 2, o, none⟩ = w8.cell? ⟨w.heap.size + 2, o, none⟩) := fun o ho => by rw [hb10.cell (p := ⟨w.heap.size + 2, o, none⟩) h8, far_set hq2.symm, other_set ho]
              have G0 : Hid (Below w.heap.size w w10) := ((M3.out.setCell (by simp; omega) _).setCell (by have := HS3.out; simp; omega) _).trans (hb10.mono (by have := M3.out.size; omega))
              have G4 : Hid (w8.heap.size ≤ w10.heap.size) := by have := hb10.size; rw [hsz9] at this; exact this
              have O10 : Hid (OwnT w10 w8.heap.size (.slice p10 (r.length + 1) c10) (ins ⟨t.num, t.tm + t.ev, t.ev⟩ r)) := ho10
              have GL : Hid (g < w8.heap.size) := (World.ownsRow.lt HO8.out g rfl).2
              clear ho10 hb10 hsz9
              go_wp2
              go_roundw
              case rel =>
                refine ⟨k + 1, .slice p10 (r.length + 1) c10, _, _, rfl, rfl, by have := HN.out; rw [HIT.out] at this; have := FP.out; omega, by omega, ?_⟩
                rw [TLk.out]
                refine HA2.out.store M4.out M5.out M8.out M9.out M7.out HO8.out G0.out G1.out G2.out ⟨_, k22⟩ kf G4.out ?_ ?_ ?_
                · rw [HST.out]; exact O10.out.rs
                · intro a n c e
                  have := O10.out.newB a n c e
                  have := GL.out
                  exact ⟨by omega, Or.inr (by omega)⟩
                · intro a n c e
                  have := O10.out.newB a n c e
                  exact Or.inr (by omega)
              case measure => simp [lenV, TLk.out]; omega
            · by_cases hev : 0 < t.ev
              · have HST : Hid (it (k + 1) L = r) := by show it (k + 1) L = r; rw [it_succ HIT.out]; unfold stepL; rw [if_neg hgo]
                have hev2 : ¬ t.tm ≤ 1099511627776 - t.ev := by omega
                clear hgo
                go_wp2_with (at_builtin; refine append_fil rfl (.tmp 51) (.tmp 57) 37 rfl (w.heap.size + 3) Try.underlying37 info_fi _ _ _ (.slice po k co) (told k L) (t.num, t.tm) _ rfl (HO0.out _) (wq.heap.size + 1) (by simp) rfl rfl TL.out (HS4.out _) ?_; intro g cap8 w8 ho8 hb8 hk8 hg8; obtain ⟨m1, m2, m3, m4, m5, m6, m7, m8, m9⟩ := HA2.out.app hb8 hk8 hg8; have d20 : w8.cell? ⟨w.heap.size + 2, 0, none⟩ = some (.int .i64 U) := (m4 _ 0 (by omega)).trans b20; have d21 : w8.cell? ⟨w.heap.size + 2, 1, none⟩ = some (.int .i64 made) := (m4 _ 1 (by omega)).trans b21; have d22 : w8.cell? ⟨w.heap.size + 2, 2, none⟩ = some (.slice (some ⟨X, o, none⟩) N ck) := (m4 _ 2 (by omega)).trans b22; have yf : ∀ o, w8.frozen? ⟨w.heap.size + 2, o, none⟩ = false := (fun o => (m5 _ o (by omega)).trans (HA2.out.fz o _ (by omega) (by omega))); have hq2 : wq.heap.size ≠ w.heap.size + 2 := (by have := HS3.out; omega); have e0 : ∀ u, (w8.setCell ⟨w.heap.size + 2, 2, none⟩ u).cell? ⟨wq.heap.size, 0, none⟩ = some (.int .i64 t.num) := (fun u => by rw [far_set hq2]; exact cell_of_row _ _ _ _ _ _ m6); have e1 : ∀ u, (w8.setCell ⟨w.heap.size + 2, 2, none⟩ u).cell? ⟨wq.heap.size, 1, none⟩ = some (.int .i64 t.tm) := (fun u => by rw [far_set hq2]; exact cell_of_row _ _ _ _ _ _ m6); have e2 : ∀ u, (w8.setCell ⟨w.heap.size + 2, 2, none⟩ u).cell? ⟨wq.heap.size, 2, none⟩ = some (.int .i64 t.ev) := (fun u => by rw [far_set hq2]; exact cell_of_row _ _ _ _ _ _ m6); have HO8 : Hid (OwnF w8 (w.heap.size + 3) (.slice (some ⟨g, 0, none⟩) (k + 1) cap8) (told (k + 1) L)) := (by show OwnF _ _ _ _; rw [TLk.out] at ho8; exact TSN.out ▸ ho8); have M1 : Hid (RS w8 (.slice (some ⟨X, o, none⟩) N ck) (t :: r)) := HIT.out ▸ m1; have M2 : Hid _ := m2; have M3 : Hid _ := m3; have M4 : Hid _ := m4; have M5 : Hid _ := m5; have M6 : Hid _ := m6; have M7 : Hid _ := m7; have M8 : Hid _ := m8; have M9 : Hid _ := m9; clear ho8 hb8 hk8 hg8 m1 m2 m3 m4 m5 m6 m7 m8 m9)
                go_roundw
                case rel =>
                  refine ⟨k + 1, .slice (if ck = 1 then some ⟨X, o, none⟩ else some ⟨X, o + 3, none⟩) (N - 1) (ck - 1), _, _, rfl, rfl, by have := HN.out; rw [HIT.out] at this; have := FP.out; omega, by omega, ?_⟩
                  rw [TLk.out]
                  refine HA2.out.store M4.out M5.out M8.out M9.out M7.out HO8.out M3.out (fun j _ _ _ => rfl) (fun o _ => rfl) ⟨_, d22⟩ yf (Nat.le_refl _) ?_ ?_ ?_
                  · rw [HST.out]; exact M1.out.cut HN0.out
                  · intro a n c e
                    have e2 := cut_blk e
                    have := M2.out _ _ _ rfl
                    rw [e2]; exact ⟨this.1, this.2.2⟩
                  · intro a n c e
                    have e2 := cut_blk e
                    have := HA2.out.src _ _ _ rfl
                    rw [e2]; exact this
                case measure => simp [lenV, TLk.out]; omega
              · have HST : Hid (it (k + 1) L = r) := by show it (k + 1) L = r; rw [it_succ HIT.out]; unfold stepL; rw [if_neg hgo]
                have hev2 : ¬ 0 < t.ev := hev
                clear hgo
                go_wp2_with (at_builtin; refine append_fil rfl (.tmp 51) (.tmp 57) 37 rfl (w.heap.size + 3) Try.underlying37 info_fi _ _ _ (.slice po k co) (told k L) (t.num, t.tm) _ rfl (HO0.out _) (wq.heap.size + 1) (by simp) rfl rfl TL.out (HS4.out _) ?_; intro g cap8 w8 ho8 hb8 hk8 hg8; obtain ⟨m1, m2, m3, m4, m5, m6, m7, m8, m9⟩ := HA2.out.app hb8 hk8 hg8; have d20 : w8.cell? ⟨w.heap.size + 2, 0, none⟩ = some (.int .i64 U) := (m4 _ 0 (by omega)).trans b20; have d21 : w8.cell? ⟨w.heap.size + 2, 1, none⟩ = some (.int .i64 made) := (m4 _ 1 (by omega)).trans b21; have d22 : w8.cell? ⟨w.heap.size + 2, 2, none⟩ = some (.slice (some ⟨X, o, none⟩) N ck) := (m4 _ 2 (by omega)).trans b22; have yf : ∀ o, w8.frozen? ⟨w.heap.size + 2, o, none⟩ = false := (fun o => (m5 _ o (by omega)).trans (HA2.out.fz o _ (by omega) (by omega))); have hq2 : wq.heap.size ≠ w.heap.size + 2 := (by have := HS3.out; omega); have e0 : ∀ u, (w8.setCell ⟨w.heap.size + 2, 2, none⟩ u).cell? ⟨wq.heap.size, 0, none⟩ = some (.int .i64 t.num) := (fun u => by rw [far_set hq2]; exact cell_of_row _ _ _ _ _ _ m6); have e1 : ∀ u, (w8.setCell ⟨w.heap.size + 2, 2, none⟩ u).cell? ⟨wq.heap.size, 1, none⟩ = some (.int .i64 t.tm) := (fun u => by rw [far_set hq2]; exact cell_of_row _ _ _ _ _ _ m6); have e2 : ∀ u, (w8.setCell ⟨w.heap.size + 2, 2, none⟩ u).cell? ⟨wq.heap.size, 2, none⟩ = some (.int .i64 t.ev) := (fun u => by rw [far_set hq2]; exact cell_of_row _ _ _ _ _ _ m6); have HO8 : Hid (OwnF w8 (w.heap.size + 3) (.slice (some ⟨g, 0, none⟩) (k + 1) cap8) (told (k + 1) L)) := (by show OwnF _ _ _ _; rw [TLk.out] at ho8; exact TSN.out ▸ ho8); have M1 : Hid (RS w8 (.slice (some ⟨X, o, none⟩) N ck) (t :: r)) := HIT.out ▸ m1; have M2 : Hid _ := m2; have M3 : Hid _ := m3; have M4 : Hid _ := m4; have M5 : Hid _ := m5; have M6 : Hid _ := m6; have M7 : Hid _ := m7; have M8 : Hid _ := m8; have M9 : Hid _ := m9; clear ho8 hb8 hk8 hg8 m1 m2 m3 m4 m5 m6 m7 m8 m9)
                go_roundw
                case rel =>
                  refine ⟨k + 1, .slice (if ck = 1 then some ⟨X, o, none⟩ else some ⟨X, o + 3, none⟩) (N - 1) (ck - 1), _, _, rfl, rfl, by have := HN.out; rw [HIT.out] at this; have := FP.out; omega, by omega, ?_⟩
                  rw [TLk.out]
                  refine HA2.out.store M4.out M5.out M8.out M9.out M7.out HO8.out M3.out (fun j _ _ _ => rfl) (fun o _ => rfl) ⟨_, d22⟩ yf (Nat.le_refl _) ?_ ?_ ?_
                  · rw [HST.out]; exact M1.out.cut HN0.out
                  · intro a n c e
                    have e2 := cut_blk e
                    have := M2.out _ _ _ rfl
                    rw [e2]; exact ⟨this.1, this.2.2⟩
                  · intro a n c e
                    have e2 := cut_blk e
                    have := HA2.out.src _ _ _ rfl
                    rw [e2]; exact this
                case measure => simp [lenV, TLk.out]; omega
        · have FI2 : Hid _ := FIN.out (by rw [hit]; exact due_before (hit ▸ HK.out) (by omega))
          have SS : Hid (∀ nq, _) := fun nq => ((HA.out.drewN nq).fin (.int .i64 U) (.int .i64 made) (.slice (some ⟨X, o, none⟩) N ck)).1
          have htd : decide (t.tm ≤ U) = false := by simpa using htu
          clear hN hit FIN
          go_wp2
          go_quiet (fail)
          go_wp2
          exact bodyPost_ret (v := .tuple #[.agg #[.int .i64 U, .int .i64 made, .slice (some ⟨X, o, none⟩) N ck], .slice po k co, .int .i64 0]) (by have e := SS.out nq; simp [results, Try.results31, go_sem, e.1, e.2.1, e.2.2]) rfl (FI2.out _)
  · have HRg : Hid (¬ (0 ≤ x ∧ x ≤ 1099511627776 - time)) := hr
    by_cases hr1 : x < 0
    · clear hr
      go_enter Try.func31, Try.ntmps31
      go_wp2
      exact bodyPost_ret (v := .tuple #[.agg #[.int .i64 time, .int .i64 made, .slice p L.length cap], .slice none 0 0, .int .i64 1]) (by simp [results, Try.results31, go_sem]) rfl ⟨((Below.refl _ _).alloc (Nat.le_refl _) _).alloc (by simp) _, Or.inl ⟨HRg.out, rfl⟩⟩
    · have hr2 : x > 1099511627776 - time := by omega
      clear hr
      go_enter Try.func31, Try.ntmps31
      go_wp2
      exact bodyPost_ret (v := .tuple #[.agg #[.int .i64 time, .int .i64 made, .slice p L.length cap], .slice none 0 0, .int .i64 1]) (by simp [results, Try.results31, go_sem]) rfl ⟨((Below.refl _ _).alloc (Nat.le_refl _) _).alloc (by simp) _, Or.inl ⟨HRg.out, rfl⟩⟩
end Go.Proofs.Yteiadigafkollaa
