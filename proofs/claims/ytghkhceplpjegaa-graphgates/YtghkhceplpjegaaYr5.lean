/- Graph: the law GraphGates, whole. -/
import Derived.Test.YtghkhceplpjegaaYr4
namespace Go.Proofs.Ytghkhceplpjegaa
open Go.RowKit

set_option maxRecDepth 100000 in
set_option maxHeartbeats 16000000 in
theorem graphGates_any (w : World) (n : Int) (v : Value) (l : List (Int × Int)) (hv : GS KE w v l) (x : Int) : Calls Try.prog 8 #[.agg #[.int .i64 n, v], .int .i64 x] w fun e w' => e = .returned (.bool true) ∧ Below w.heap.size w w' := by
  obtain ⟨p, c, rfl⟩ := hv.form
  generalize hW : w.alloc (.cells #[.int .i64 n, .slice p l.length c] 24) = W
  obtain ⟨bw, c0⟩ := graph_box w n p l.length c hW
  have BW := hid bw
  have C0 := hid c0
  obtain ⟨d0, d1⟩ := c0 W (Below.refl _ _)
  have WK := hid (works_any W)
  have FI := hid (fun W' (hb : Below W.heap.size W W') => fits_any W' n _ l ((hv.below bw).below hb))
  by_cases hm : fitB n l = true
  · by_cases h0 : n = 0
    · subst h0
      rw [hm] at FI
      generalize l.length = m at *
      clear hv hm bw c0
      go_enter Try.func8, Try.ntmps8
      go_wp2_with (first
        | (go_at_call 20; refine WK.out.mono ?_; rintro e w1 ⟨rfl, hb1⟩; have B1 := hid hb1; obtain ⟨g0, g1⟩ := C0.out _ hb1; clear hb1)
        | (go_at_call 21; refine (FI.out _ B1.out).mono ?_; rintro e w2 ⟨rfl, hb2⟩; have B2 := hid (bl3 B1.out hb2); obtain ⟨g2, g3⟩ := C0.out _ B2.out; clear hb2))
      go_ret
      exact ⟨rfl, bl3 BW.out B2.out⟩
    · obtain ⟨N, E, rfl, rfl, hg, _, _⟩ := fitB_ok hm
      rw [eI_len] at hv ⊢
      exact gates_main w N E hg p c hv x (by omega) hm
  · have hf : fitB n l = false := by simpa using hm
    rw [hf] at FI
    generalize l.length = m at *
    clear hv hm hf bw c0
    go_enter Try.func8, Try.ntmps8
    go_wp2_with (first
      | (go_at_call 20; refine WK.out.mono ?_; rintro e w1 ⟨rfl, hb1⟩; have B1 := hid hb1; obtain ⟨g0, g1⟩ := C0.out _ hb1; clear hb1)
      | (go_at_call 21; refine (FI.out _ B1.out).mono ?_; rintro e w2 ⟨rfl, hb2⟩; have B2 := hid (bl3 B1.out hb2); clear hb2))
    go_ret
    exact ⟨rfl, bl3 BW.out B2.out⟩
end Go.Proofs.Ytghkhceplpjegaa
