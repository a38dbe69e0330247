/- Graph: the functions within components. -/
import Derived.Test.YtdieffjagpjdaaaYe5
namespace Go.Proofs.Ytdieffjagpjdaaa
open Go.RowKit

set_option maxHeartbeats 4000000 in
theorem visA_any {w0 : World} {N lb bs B : Nat} {vs : List Sl} {A : Nat → List Nat} (hN : N ≤ 4096) {W : World} {S : Nat → Bool} {L : List Nat} (h : RJ w0 N lb bs B vs A W S L) (x : Nat) (hx : x < N) (hxS : S x = true) (hxL : x ∉ L) : Calls Try.prog 70 #[.int .i64 x, .pointer (some ⟨B, 0, none⟩)] W fun e w' => e = .returned (.tuple #[]) ∧ RJ w0 N lb bs B vs A w' S (L ++ [x]) := by
  obtain ⟨q, c, h1, h2, h3⟩ := h.bx
  have ll := nd_len h.ll
  have LS : Hid (((nI L).length + 1) * KI.B ≤ 140737488355328) := by show (_ + 1) * 8 ≤ _; rw [nI_len]; omega
  have VS := hid (fun w1 w8 g8 c8 => h.vis (w1 := w1) (w8 := w8) (g8 := g8) (c8 := c8) hx hxS hxL h1 h2 h3)
  have x0 : W.cell? ⟨B, 0, none⟩ = some (.slice q L.length c) := cell_of_row _ _ _ _ _ _ h1
  have O1 := hid h2
  have BS : Hid (w0.heap.size ≤ W.heap.size) := h.bl.size
  have e0 := nI_len L
  rw [e0] at LS
  have AP := hid (fun (g8 c8 : Nat) (w8 : World) (ho : OwnG KI w8 w0.heap.size (.slice (some ⟨g8, 0, none⟩) ((nI L).length + 1) c8) (nI L ++ [(x : Int)])) => (by rw [e0] at ho; exact ho : OwnG KI w8 w0.heap.size (.slice (some ⟨g8, 0, none⟩) (L.length + 1) c8) (nI L ++ [(x : Int)])))
  clear h h1 h2 h3 hxS hxL ll
  obtain ⟨R, hR⟩ : ∃ R, R = nI L := ⟨_, rfl⟩
  rw [← hR] at O1 AP VS e0
  have EL : Hid (R.length = L.length) := e0
  rw [← e0] at LS VS AP O1 x0
  clear e0 hR
  go_enter Try.func70, Try.ntmps70
  go_wp2_with (at_builtin; refine append_g KI KI_ok rfl (.tmp 3) (.tmp 5) 25 rfl w0.heap.size Try.underlying25 W _ _ (.slice q R.length c) R (x : Int) _ rfl O1.out W.heap.size rfl rfl rfl LS.out BS.out ?_; intro g5 cp5 w5 ho5 hb5 hk5 hg5; obtain ⟨k1, k2, k3⟩ := VS.out W w5 g5 cp5 (Below.refl _ _) ho5 hb5 hk5 hg5; have K1 := hid k1; clear k1 ho5 hb5 hk5 hg5)
  go_end0
  exact ⟨rfl, K1.out⟩
set_option maxHeartbeats 4000000 in
theorem visB_any {w0 : World} {N lb bs B : Nat} {vs : List Sl} {A : Nat → List Nat} (hN : N ≤ 4096) {W : World} {S : Nat → Bool} {L : List Nat} (h : RJ w0 N lb bs B vs A W S L) (x : Nat) (hx : x < N) (hxS : S x = true) (hxL : x ∉ L) : Calls Try.prog 71 #[.int .i64 x, .pointer (some ⟨B, 0, none⟩)] W fun e w' => e = .returned (.tuple #[]) ∧ RJ w0 N lb bs B vs A w' S (L ++ [x]) := by
  obtain ⟨q, c, h1, h2, h3⟩ := h.bx
  have ll := nd_len h.ll
  have LS : Hid (((nI L).length + 1) * KI.B ≤ 140737488355328) := by show (_ + 1) * 8 ≤ _; rw [nI_len]; omega
  have VS := hid (fun w1 w8 g8 c8 => h.vis (w1 := w1) (w8 := w8) (g8 := g8) (c8 := c8) hx hxS hxL h1 h2 h3)
  have x0 : W.cell? ⟨B, 0, none⟩ = some (.slice q L.length c) := cell_of_row _ _ _ _ _ _ h1
  have O1 := hid h2
  have BS : Hid (w0.heap.size ≤ W.heap.size) := h.bl.size
  have e0 := nI_len L
  rw [e0] at LS
  have AP := hid (fun (g8 c8 : Nat) (w8 : World) (ho : OwnG KI w8 w0.heap.size (.slice (some ⟨g8, 0, none⟩) ((nI L).length + 1) c8) (nI L ++ [(x : Int)])) => (by rw [e0] at ho; exact ho : OwnG KI w8 w0.heap.size (.slice (some ⟨g8, 0, none⟩) (L.length + 1) c8) (nI L ++ [(x : Int)])))
  clear h h1 h2 h3 hxS hxL ll
  obtain ⟨R, hR⟩ : ∃ R, R = nI L := ⟨_, rfl⟩
  rw [← hR] at O1 AP VS e0
  have EL : Hid (R.length = L.length) := e0
  rw [← e0] at LS VS AP O1 x0
  clear e0 hR
  go_enter Try.func71, Try.ntmps71
  go_wp2_with (at_builtin; refine append_g KI KI_ok rfl (.tmp 3) (.tmp 5) 25 rfl w0.heap.size Try.underlying25 W _ _ (.slice q R.length c) R (x : Int) _ rfl O1.out W.heap.size rfl rfl rfl LS.out BS.out ?_; intro g5 cp5 w5 ho5 hb5 hk5 hg5; obtain ⟨k1, k2, k3⟩ := VS.out W w5 g5 cp5 (Below.refl _ _) ho5 hb5 hk5 hg5; have K1 := hid k1; clear k1 ho5 hb5 hk5 hg5)
  go_end0
  exact ⟨rfl, K1.out⟩
/-- Two components by their first nodes. -/
theorem cmp_any (w : World) (X Y o o2 na nb ca cb : Nat) (a b : Nat) (ha : a < 4096) (hb : b < 4096) (h1 : w.cell? ⟨X, o, none⟩ = some (.int .i64 a)) (h2 : w.cell? ⟨Y, o2, none⟩ = some (.int .i64 b)) (h3 : 0 < na) (h4 : 0 < nb) : Calls Try.prog 73 #[.slice (some ⟨X, o, none⟩) na ca, .slice (some ⟨Y, o2, none⟩) nb cb] w fun e w' => e = .returned (.int .i64 ((a : Int) - (b : Int))) ∧ ∃ q os', w' = Go.Sort.grow (w.drewN q) os' := by
  have h3i : (0 : Int) < (na : Nat) := by omega
  have h4i : (0 : Int) < (nb : Nat) := by omega
  have e1 : o + 0 = o := Nat.add_zero o
  go_enter Try.func73, Try.ntmps73
  have hs : IntKind.i64.wrap ((a : Int) - (b : Int)) = (a : Int) - (b : Int) := IntWalk.i64_in _ (by omega)
  go_wp2
  go_quiet (fail)
  go_wp2
  go_ret
  exact ⟨rfl, nq, #[], by rw [Go.Sort.grow_empty]⟩
end Go.Proofs.Ytdieffjagpjdaaa
