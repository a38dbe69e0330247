/- Retry: waits, Wait, Due, May. -/
import Derived.Test.YtddnagoljdhnlaaXa2
namespace Go.Proofs.Ytddnagoljdhnlaa
open Go.RowKit

def preW (p : Pol) (k : Nat) : List Int := (List.range k).map (wtP p)
theorem preW_len (p : Pol) (k : Nat) : (preW p k).length = k := by simp [preW]
theorem preW_succ (p : Pol) (k : Nat) : preW p (k + 1) = preW p k ++ [wtP p k] := by simp [preW, List.range_succ]
theorem box4 (w : World) (p : Pol) (T : TypeId) : (w.alloc (.cells #[.int .i64 p.t, .int .i64 p.b, .int .i64 p.f, .int .i64 p.c] T)).cell? ⟨w.heap.size, 0, none⟩ = some (.int .i64 p.t) ∧ (w.alloc (.cells #[.int .i64 p.t, .int .i64 p.b, .int .i64 p.f, .int .i64 p.c] T)).cell? ⟨w.heap.size, 1, none⟩ = some (.int .i64 p.b) ∧ (w.alloc (.cells #[.int .i64 p.t, .int .i64 p.b, .int .i64 p.f, .int .i64 p.c] T)).cell? ⟨w.heap.size, 2, none⟩ = some (.int .i64 p.f) ∧ (w.alloc (.cells #[.int .i64 p.t, .int .i64 p.b, .int .i64 p.f, .int .i64 p.c] T)).cell? ⟨w.heap.size, 3, none⟩ = some (.int .i64 p.c) :=
  ⟨cell_of_row _ _ _ _ _ _ (heap_alloc_new w _), cell_of_row _ _ _ _ _ _ (heap_alloc_new w _), cell_of_row _ _ _ _ _ _ (heap_alloc_new w _), cell_of_row _ _ _ _ _ _ (heap_alloc_new w _)⟩
set_option maxHeartbeats 4000000 in
theorem waits_any (p : Pol) (w : World) (hp : polB p = true) : Calls Try.prog 24 #[polV p] w fun e w' => ∃ v, e = .returned v ∧ OwnG KI w' w.heap.size v (wts p) ∧ Below w.heap.size w w' := by
  have WB : Hid (∀ k, 0 ≤ wtP p k ∧ wtP p k ≤ p.c) := wt_bd hp
  have WS : Hid (∀ k, wtP p (k + 1) = min (wtP p k * p.f) p.c) := fun k => rfl
  have W0 : Hid (wtP p 0 = p.b) := rfl
  have PL : Hid (∀ k, (preW p k).length = k) := preW_len p
  have PS : Hid (∀ k, preW p (k + 1) = preW p k ++ [wtP p k]) := preW_succ p
  have P0 : Hid (preW p 0 = []) := rfl
  have PE : Hid (preW p (nwt p) = wts p) := rfl
  have HM : Hid (nwt p = (p.t - 1).toNat) := rfl
  obtain ⟨t0, t1, _, _, f0, f1, _, hpc⟩ := pol_bd hp
  generalize wtP p = wt at *
  generalize preW p = pre at *
  generalize wts p = ws at *
  generalize nwt p = m at *
  have BX := hid (box4 w p 46)
  obtain ⟨pt, pb, pf, pc⟩ := p
  simp only [polV] at *
  clear hp
  go_enter Try.func24, Try.ntmps24
  go_wp2
  generalize hW : w.alloc _ = W
  rw [hW] at BX
  have BW : Hid (Below w.heap.size w W) := by rw [← hW]; exact (Below.refl _ _).alloc (Nat.le_refl _) _
  have SW : Hid (w.heap.size < W.heap.size) := by rw [← hW]; show _ < _; simp
  clear hW
  go_loopw [3, 4, 10] (fun v3 v4 v10 wr => ∃ (k : Nat) (v : Value) (wk : World), v10 = .int .i64 k ∧ v = v3 ∧ v4 = .int .i64 (wt k) ∧ wk = wr ∧ k ≤ m ∧ Hid (OwnG KI wk W.heap.size v (pre k) ∧ Below W.heap.size W wk)) (fun _ _ v10 _ => m - (intOf v10).toNat)
  case atStart => exact ⟨0, _, _, rfl, rfl, by rw [W0.out], rfl, Nat.zero_le _, by show _ ∧ _; rw [P0.out]; exact ⟨OwnG.nil _ _ _, Below.refl _ _⟩⟩
  case round =>
    obtain ⟨k, v, wr, rfl, rfl, rfl, rfl, hk, HS⟩ := hrel
    by_cases hlt : (k : Int) < pt - 1
    · obtain ⟨y0, y1⟩ := WB.out k
      obtain ⟨z0, z1⟩ := mul_bd y0 (by omega) f0 f1
      have HN := hid (WS.out k)
      have HK : Hid (k < m) := by have := HM.out; show k < m; omega
      have PN := hid (PS.out k)
      have LS : Hid (((pre k).length + 1) * 8 ≤ 140737488355328) := by show (_ : Nat) ≤ _; rw [PL.out]; have := HM.out; omega
      have LN := hid (PL.out k)
      have O1 := hid HS.out.1
      have B1 := hid HS.out.2
      clear HS
      have C2 : Hid (∀ w', Below W.heap.size wr w' → w'.cell? ⟨w.heap.size, 2, none⟩ = some (.int .i64 pf) ∧ w'.cell? ⟨w.heap.size, 3, none⟩ = some (.int .i64 pc)) := fun w' hb => ⟨((B1.out.trans hb).cell (p := ⟨w.heap.size, 2, none⟩) SW.out).trans BX.out.2.2.1, ((B1.out.trans hb).cell (p := ⟨w.heap.size, 3, none⟩) SW.out).trans BX.out.2.2.2⟩
      generalize wt k = x at *
      generalize pre k = L at *
      by_cases hmin : x * pf ≤ pc
      · have hm2 : ¬ pc < x * pf := by omega
        go_wp2_with (at_builtin; refine append_g KI KI_ok rfl (.tmp 12) (.tmp 14) 49 rfl W.heap.size Try.underlying49 wr _ _ v L x _ rfl O1.out _ rfl rfl rfl LS.out B1.out.size ?_; intro g2 c2 w2 ho2 hb2 hk2 hg2; have O2 := hid ho2; have B2 := hid hb2; have d2 := (C2.out _ hb2).1; have d3 := (C2.out _ hb2).2; clear ho2 hb2 hk2 hg2)
        go_roundw
        case rel => exact ⟨k + 1, _, _, by go_num, rfl, by rw [HN.out]; congr 1; omega, rfl, HK.out, by show _ ∧ _; rw [PN.out]; exact ⟨O2.out, B1.out.trans B2.out⟩⟩
        case measure => have := HK.out; simp [intOf]; omega
      · have hm2 : pc < x * pf := by omega
        go_wp2_with (at_builtin; refine append_g KI KI_ok rfl (.tmp 12) (.tmp 14) 49 rfl W.heap.size Try.underlying49 wr _ _ v L x _ rfl O1.out _ rfl rfl rfl LS.out B1.out.size ?_; intro g2 c2 w2 ho2 hb2 hk2 hg2; have O2 := hid ho2; have B2 := hid hb2; have d2 := (C2.out _ hb2).1; have d3 := (C2.out _ hb2).2; clear ho2 hb2 hk2 hg2)
        go_roundw
        case rel => exact ⟨k + 1, _, _, by go_num, rfl, by rw [HN.out]; congr 1; omega, rfl, HK.out, by show _ ∧ _; rw [PN.out]; exact ⟨O2.out, B1.out.trans B2.out⟩⟩
        case measure => have := HK.out; simp [intOf]; omega
    · have HE : Hid (pre k = ws) := by rw [← PE.out, show k = m by have := HM.out; omega]; exact rfl
      go_wp2
      go_ret
      refine ⟨_, rfl, ?_, BW.out.trans (HS.out.2.mono BW.out.size)⟩
      rw [← HE.out]; exact HS.out.1.low BW.out.size
end Go.Proofs.Ytddnagoljdhnlaa
