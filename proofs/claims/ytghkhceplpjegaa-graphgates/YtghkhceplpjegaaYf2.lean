/- Graph: the second walk of the components, node by node: plain, and what stands in memory. -/
import Derived.RangeFuncNested
import Derived.RangeFuncBound
import Derived.RangeFuncCalls
import Derived.RangeFuncLeaves
import Derived.RangeFuncWrites
import Derived.Shelf.Abstract
import Derived.Shelf.RegionOpen
import Derived.WalkKit
import Derived.OwnWalkIn
import Derived.TacticsInMore
import Derived.LoopNIn
import Derived.LoopIn
import Derived.Test.YtghkhceplpjegaaYa3
import Derived.Test.YtghkhceplpjegaaYb1
import Derived.Test.YtghkhceplpjegaaYe9
namespace Go.Proofs.Ytghkhceplpjegaa
open Go.RowKit Go.Shelf
attribute [local go_sem] Oper.semAt_some

/-- What a range over a row hands out: a place and a node. -/
abbrev BX (N : Nat) := { x : Nat × Nat // x.2 < N }
/-- These blocks stay. -/
def KpB (F : Nat → Prop) (a b : World) : Prop := ∀ k, F k → b.heap[k]? = a.heap[k]?
theorem KpB.refl (F : Nat → Prop) (a : World) : KpB F a a := fun _ _ => rfl
theorem KpB.trans {F : Nat → Prop} {a b c : World} (h : KpB F a b) (k : KpB F b c) : KpB F a c := fun i hi => (k i hi).trans (h i hi)
/-- What comes, last first. -/
def bkL (N : Nat) (l : List Nat) (h : ∀ x ∈ l, x < N) : List (BX N) := (List.range l.length).pmap (fun j hj => ⟨(l.length - 1 - j, l[l.length - 1 - j]'(by omega)), h _ (List.getElem_mem _)⟩) (fun _ hj => List.mem_range.1 hj)
theorem bkL_len {N : Nat} {l : List Nat} (h : ∀ x ∈ l, x < N) : (bkL N l h).length = l.length := by simp [bkL]
theorem bkL_at {N : Nat} {l : List Nat} (h : ∀ x ∈ l, x < N) {k : Nat} (hk : k < l.length) : ((bkL N l h)[k]'(by rw [bkL_len]; exact hk)).1 = (l.length - 1 - k, l[l.length - 1 - k]'(by omega)) := by simp [bkL]
theorem bkL_map {N : Nat} {l : List Nat} (h : ∀ x ∈ l, x < N) : (bkL N l h).map (fun x => x.1.2) = l.reverse := by
  apply List.ext_getElem
  · simp [bkL]
  · intro k h1 h2
    have hk : k < l.length := by simpa using h2
    rw [List.getElem_map, bkL_at h hk, List.getElem_reverse]
set_option maxHeartbeats 1000000 in
theorem backward_in (F : Fence) (n : Nat) (h5 : F.fn 47) (hro : F.round = none) (a : Option Addr) (len cap : Nat) (w : World) :
    CallsIn F n Try.prog 47 #[.slice a len cap] w fun e w' => e = .returned (.func (.func 68) #[] #[.pointer (some ⟨w.heap.size, 0, none⟩)]) ∧ w' = w.alloc (.cells #[.slice a len cap] 25) := by
  refine callsIn_of_wp Try.func47 rfl h5 ?_ hro
  simp only [Try.ntmps47, List.size_toArray, List.length_cons, List.length_nil, Nat.reduceAdd, Nat.reduceSub, Array.replicate_succ, Array.replicate_zero, List.push_toArray, List.append_toArray, List.nil_append, List.cons_append]
  gi_wp2
  go_ret
  exact ⟨rfl, rfl⟩
set_option maxRecDepth 100000 in
set_option maxHeartbeats 2000000 in
theorem backward1_in {N : Nat} (F : Fence) (n : Nat) (h7 : F.fn 68) (hro : F.round = none) (hn : 1 ≤ n) (l Bs : Nat) (a : Option Addr) (cap : Nat) (zs : List Nat) (L : List (BX N)) (LL : L.length = zs.length) (la : ∀ k (hk : k < zs.length) (h2 : k < L.length), (L[k]'h2).1 = (zs.length - 1 - k, zs[zs.length - 1 - k]'(by omega))) (hzl : zs.length ≤ 100000) (Fb : Nat → Prop) (J Jx : List (BX N) → World → Prop)
    (hY : ∀ pre x W, J pre W → pre.length < zs.length → YieldAt F (n - 1) Try.prog l #[.int .i64 (x.1.1 : Nat), .int .i64 (x.1.2 : Nat)] W fun e W' =>
      (e = .returned (.bool true) ∧ J (pre ++ [x]) W' ∧ KpB Fb W W') ∨ (e = .returned (.bool false) ∧ Jx (pre ++ [x]) W'))
    (W : World) (hBs : ∀ W', KpB Fb W W' → W'.cell? ⟨Bs, 0, none⟩ = some (.slice a zs.length cap)) (hc : ∀ W', KpB Fb W W' → ∀ j (hj : j < zs.length), ∃ X o, a = some ⟨X, o, none⟩ ∧ W'.cell? ⟨X, o + j, none⟩ = some (.int .i64 (zs[j] : Nat))) (h0 : J [] W) :
    CallsIn F n Try.prog 68 #[.func (.yield l) #[] #[], .pointer (some ⟨Bs, 0, none⟩)] W fun e W' => (∃ v, e = .returned v) ∧
      ((∃ ys, ys = L ∧ J ys W') ∨ (∃ pre, True ∧ Jx pre W')) := by
  have LA := hid la
  have TK := hid (fun k (hk : k < L.length) => List.take_succ_eq_append_getElem hk)
  have TF : Hid (L.take zs.length = L) := List.take_of_length_le (by rw [LL]; exact Nat.le_refl _)
  have ZS := hid hc
  have BS := hid hBs
  clear la
  obtain ⟨len, hlen⟩ : ∃ len, len = zs.length := ⟨_, rfl⟩
  have ML : Hid (zs.length = len) := hlen.symm
  rw [← hlen] at BS LL TF hY hzl
  have b0 := BS.out W (KpB.refl _ _)
  have J0 : Hid (J (L.take 0) W) := h0
  clear hc hBs h0 hlen
  refine callsIn_of_wp Try.func68 rfl h7 ?_ hro
  simp only [Try.ntmps68, List.size_toArray, List.length_cons, List.length_nil, Nat.reduceAdd, Nat.reduceSub, Array.replicate_succ, Array.replicate_zero, List.push_toArray, List.append_toArray, List.nil_append, List.cons_append]
  gi_wp2
  clear b0
  gi_loopw [3] (fun i wr => ∃ (k : Nat) (wk : World), k ≤ len ∧ i = .int .i64 ((len : Int) - 1 - k) ∧ wk = wr ∧ Hid (J (L.take k) wk) ∧ Hid (KpB Fb W wk))
    (fun i _ => (intOf i + 1).toNat)
  case atStart => exact ⟨0, _, Nat.zero_le _, by simp, rfl, J0, KpB.refl _ _⟩
  case round =>
    obtain ⟨k, wr, hk, rfl, rfl, HJ, HK⟩ := hrel
    clear J0
    have b0 := BS.out wr HK.out
    by_cases hlt : k < len
    · have k1 : k < zs.length := by have := ML.out; omega
      obtain ⟨X, o, e1, c1⟩ := ZS.out wr HK.out (zs.length - 1 - k) (by omega)
      subst e1
      have k2 : k < L.length := by omega
      obtain ⟨fn, tmps, assign, body, hy, hR⟩ := hY _ L[k] wr HJ.out (by rw [List.length_take]; omega)
      have HT := hid (TK.out k k2)
      have e2 := LA.out k k1 k2
      rw [e2] at hy
      dsimp only at hy
      generalize zs[zs.length - 1 - k]'(by omega) = z at hy c1
      clear e2
      rw [ML.out] at hy c1
      generalize L[k] = x at *
      obtain ⟨i, hi⟩ : ∃ i : Nat, (len : Int) - 1 - k = i ∧ i = len - 1 - k := ⟨len - 1 - k, by omega, rfl⟩
      rw [← hi.2] at hy c1
      rw [hi.1]
      have hi0 : (0 : Int) ≤ (i : Nat) := by omega
      have hil : (i : Int) < (len : Nat) := by omega
      have HI := hid hi
      clear hi
      gi_wp2
      refine hR.mono ?_
      rintro e W3 (⟨rfl, hJ3, hk3⟩ | ⟨rfl, hJx3⟩)
      · gi_wp2
        go_roundw
        case rel => exact ⟨k + 1, _, by omega, by have := HI.out; (congr 1 <;> omega), rfl, by show J _ _; rw [HT.out]; exact hJ3, HK.out.trans hk3⟩
        case measure => simp [intOf]
      · gi_wp2
        refine bodyPost_ret (results_none rfl _ _ _) rfl ?_
        exact ⟨⟨_, rfl⟩, .inr ⟨_, trivial, hJx3⟩⟩
    · obtain rfl : k = len := by omega
      have e1 : (k : Int) - 1 - k = -1 := by omega
      rw [e1]
      gi_wp2
      go_end0
      exact ⟨⟨_, rfl⟩, .inl ⟨_, rfl, by have := HJ.out; rw [TF.out] at this; exact this⟩⟩
/-- slices.Backward of a row, at the wide fence. -/
theorem backward_stops {N : Nat} (n : Nat) (hn : 1 ≤ n) (Bs : Nat) (v : Value) (zs : List Nat) (hz : ∀ x ∈ zs, x < N) (hzl : zs.length ≤ 100000) (Fb : Nat → Prop) (hF1 : Fb Bs) (hF2 : ∀ x, v.ownBlock = some x → Fb x) (w : World) (hBs : w.heap[Bs]? = some (.cells #[v] 25)) (hv : GS KI w v (nI zs)) (hF3 : ∀ x, Fb x → x < w.heap.size) :
    SeqStopsK Fence.wide n Try.prog 68 #[.pointer (some ⟨Bs, 0, none⟩)] (fun x : BX N => #[Value.int .i64 (x.1.1 : Nat), Value.int .i64 (x.1.2 : Nat)]) (KpB Fb) (fun ys => ys = bkL N zs hz) (fun _ => True) zs.length w := fun l J Jx W hW _ _ hY h0 => by
  obtain ⟨a, cap, rfl⟩ := hv.form
  rw [nI_len] at hBs hv hF2
  have keep : ∀ W', KpB Fb W W' → ∀ x, Fb x → W'.heap[x]? = w.heap[x]? := fun W' hk x hx => (hk x hx).trans (hW.block x (hF3 x hx))
  refine backward1_in Fence.wide n trivial rfl hn l Bs a cap zs (bkL N zs hz) (bkL_len hz) (fun k hk _ => bkL_at hz hk) hzl Fb J Jx hY W (fun W' hk => cell_of_row _ _ _ _ _ _ ((keep W' hk Bs hF1).trans hBs)) (fun W' hk j hj => ?_) h0
  have hs : (zs.length ≠ 0) := by omega
  have hv2 : GS KI w (.slice a zs.length cap) (nI zs) := hv
  obtain ⟨X, o, e1, c1⟩ := hv2.atI (k := j) (by rw [nI_len]; exact hj)
  rw [nI_at hj] at c1
  subst e1
  exact ⟨X, o, rfl, (World.cell?_of_block (w := w) (a := ⟨X, o + j, none⟩) (keep W' hk X (hF2 X rfl))).trans c1⟩
end Go.Proofs.Ytghkhceplpjegaa
namespace Go.Proofs.Ytghkhceplpjegaa
open Go.RowKit

/-- The second walk over any nodes: who is seen, and the parts, sorted. -/
inductive KL (A : Nat → List Nat) : List Nat → (Nat → Bool) → List (List Int) → Prop
  | nil : KL A [] (fun _ => false) []
  | skip {p : List Nat} {S : Nat → Bool} {Ps : List (List Int)} {r : Nat} : KL A p S Ps → S r = true → KL A (p ++ [r]) S Ps
  | one {p : List Nat} {S S' : Nat → Bool} {Ps : List (List Int)} {r : Nat} {P : List Nat} : KL A p S Ps → S r = false → DL A S [r] S' P → KL A (p ++ [r]) S' (Ps ++ [(nI P).mergeSort fun x y => decide (x ≤ y)])
theorem KL.len {A : Nat → List Nat} {p : List Nat} {S : Nat → Bool} {Ps : List (List Int)} (h : KL A p S Ps) : Ps.length ≤ p.length := by
  induction h with
  | nil => simp
  | skip h hs ih => rw [List.length_append]; omega
  | one h hs hd ih => rw [List.length_append, List.length_append, List.length_singleton, List.length_singleton]; omega
theorem KL.fin {N : Nat} {E : List (Nat × Nat)} (hg : GOK N E) {D : List Nat} {S0 : Nat → Bool} (hD : DL (nx N E) (fun _ => false) (List.range N) S0 D) (hN : ∀ x ∈ D, x < N) {p : List Nat} {S : Nat → Bool} {Ps : List (List Int)} (h : KL (nx N (tu E)) p S Ps) : ∀ La, D = La ++ p.reverse → ∃ rs, KP N E p.reverse S rs ∧ Ps = rs.map fun r => nI (prt N E r) := by
  induction h with
  | nil => intro La _; exact ⟨[], KP.start N E, rfl⟩
  | @skip p S Ps r h hs ih =>
    intro La e
    rw [List.reverse_append] at e ⊢
    simp only [List.reverse_singleton, List.singleton_append] at e ⊢
    obtain ⟨rs, q, hP⟩ := ih (La ++ [r]) (by rw [e]; simp)
    exact ⟨rs, q.skip hs, hP⟩
  | @one p S S' Ps r P h hs hd ih =>
    intro La e
    rw [List.reverse_append] at e ⊢
    simp only [List.reverse_singleton, List.singleton_append] at e ⊢
    obtain ⟨rs, q, hP⟩ := ih (La ++ [r]) (by rw [e]; simp)
    have hr : r < N := hN r (by rw [e]; simp)
    obtain ⟨q2, hm⟩ := KP.one hg hD e q hs hr hd
    refine ⟨rs ++ [r], q2, ?_⟩
    rw [List.map_append, hP, prt_of hg hr hd.nodup hm]
    rfl
/-- A walk that gathers into a box, and leaves all else as it lay in a world ahead of it. -/
structure RJF (Wr w0 : World) (N lb bs B : Nat) (vs : List Sl) (A : Nat → List Nat) (W : World) (S : Nat → Bool) (L : List Nat) : Prop where
  rj : RJ w0 N lb bs B vs A W S L
  ge : Wr.heap.size ≤ W.heap.size
  fr : ∀ k, k < Wr.heap.size → k ≠ bs → k ≠ B → W.heap[k]? = Wr.heap[k]?
  nw : ∀ q c, W.heap[B]? = some (.cells #[.slice q L.length c] 25) → ∀ g, (Value.slice q L.length c).ownBlock = some g → Wr.heap.size ≤ g
theorem RJF.st {Wr w0 : World} {N lb bs B : Nat} {vs : List Sl} {A : Nat → List Nat} {W : World} {S : Nat → Bool} {L : List Nat} (h : RJF Wr w0 N lb bs B vs A W S L) (i : Nat) : RJF Wr w0 N lb bs B vs A (W.setCell ⟨bs, i, none⟩ (.bool true)) (adP S i) L := by
  have hnB : B ≠ bs := fun e => by
    obtain ⟨q, c, h1, _⟩ := h.rj.bx
    obtain ⟨cur, hs⟩ := h.rj.sn.ty (g := bs) rfl
    rw [e, hs] at h1
    injection h1 with h1
    injection h1 with _ h1 _
    revert h1; decide
  refine ⟨h.rj.st i, by simpa [World.setCell] using h.ge, fun k hk h1 h2 => by rw [set_far h1]; exact h.fr k hk h1 h2, fun q c e => h.nw q c (by rw [set_far hnB] at e; exact e)⟩
set_option maxHeartbeats 4000000 in
theorem visF_any {Wr w0 : World} {N lb bs B : Nat} {vs : List Sl} {A : Nat → List Nat} (hN : N ≤ 4096) {W : World} {S : Nat → Bool} {L : List Nat} (hf : RJF Wr w0 N lb bs B vs A W S L) (x : Nat) (hx : x < N) (hxS : S x = true) (hxL : x ∉ L) : Calls Try.prog 70 #[.int .i64 x, .pointer (some ⟨B, 0, none⟩)] W fun e w' => e = .returned (.tuple #[]) ∧ RJF Wr w0 N lb bs B vs A w' S (L ++ [x]) := by
  have h := hf.rj
  obtain ⟨q, c, h1, h2, h3⟩ := h.bx
  have ll := nd_len h.ll
  have LS : Hid (((nI L).length + 1) * KI.B ≤ 140737488355328) := by show (_ + 1) * 8 ≤ _; rw [nI_len]; omega
  have VS := hid (fun w8 g8 c8 h4 h5 h6 h7 => (show RJF Wr w0 N lb bs B vs A _ S (L ++ [x]) ∧ _ ∧ _ from by
    obtain ⟨k1, k2, k3⟩ := h.vis (w1 := W) (w8 := w8) (g8 := g8) (c8 := c8) hx hxS hxL h1 h2 h3 (Below.refl _ _) h4 h5 h6 h7
    have hs8 : W.heap.size ≤ w8.heap.size := h5.size
    refine ⟨⟨k1, by have := hf.ge; simp [World.setCell]; omega, fun k hk e1 e2 => ?_, fun q' c' e g hg => ?_⟩, k2, k3⟩
    · rw [set_far e2, h6 k (Nat.lt_of_lt_of_le hk hf.ge) (fun e => by
        have := hf.nw q c h1 k e.symm
        omega)]
      exact hf.fr k hk e1 e2
    · have c9 : (w8.setCell ⟨B, 0, none⟩ (.slice (some ⟨g8, 0, none⟩) (L.length + 1) c8)).cell? ⟨B, 0, none⟩ = some (.slice q' (L ++ [x]).length c') := cell_of_row _ B 0 _ _ _ e
      rw [World.cell?_setCell_same _ _ _ k2] at c9
      injection c9 with c9
      rw [← c9] at hg
      injection hg with hg
      have hg : g8 = g := hg
      subst hg
      rcases h7 with z | z
      · exact hf.nw q c h1 g8 z
      · exact Nat.le_trans hf.ge z))
  have x0 : W.cell? ⟨B, 0, none⟩ = some (.slice q L.length c) := cell_of_row _ _ _ _ _ _ h1
  have O1 := hid h2
  have BS : Hid (w0.heap.size ≤ W.heap.size) := h.bl.size
  have e0 := nI_len L
  rw [e0] at LS
  clear h h1 h2 h3 hxS hxL ll hf
  obtain ⟨R, hR⟩ : ∃ R, R = nI L := ⟨_, rfl⟩
  rw [← hR] at O1 VS e0
  rw [← e0] at LS VS O1 x0
  clear e0 hR
  go_enter Try.func70, Try.ntmps70
  go_wp2_with (at_builtin; refine append_g KI KI_ok rfl (.tmp 3) (.tmp 5) 25 rfl w0.heap.size Try.underlying25 W _ _ (.slice q R.length c) R (x : Int) _ rfl O1.out W.heap.size rfl rfl rfl LS.out BS.out ?_; intro g5 cp5 w5 ho5 hb5 hk5 hg5; obtain ⟨k1, k2, k3⟩ := VS.out w5 g5 cp5 ho5 hb5 hk5 hg5; have K1 := hid k1; clear k1 ho5 hb5 hk5 hg5)
  go_end0
  exact ⟨rfl, K1.out⟩
set_option maxHeartbeats 4000000 in
theorem visG_any {Wr w0 : World} {N lb bs B : Nat} {vs : List Sl} {A : Nat → List Nat} (hN : N ≤ 4096) {W : World} {S : Nat → Bool} {L : List Nat} (hf : RJF Wr w0 N lb bs B vs A W S L) (x : Nat) (hx : x < N) (hxS : S x = true) (hxL : x ∉ L) : Calls Try.prog 69 #[.int .i64 x, .pointer (some ⟨B, 0, none⟩)] W fun e w' => e = .returned (.tuple #[]) ∧ RJF Wr w0 N lb bs B vs A w' S (L ++ [x]) := by
  have h := hf.rj
  obtain ⟨q, c, h1, h2, h3⟩ := h.bx
  have ll := nd_len h.ll
  have LS : Hid (((nI L).length + 1) * KI.B ≤ 140737488355328) := by show (_ + 1) * 8 ≤ _; rw [nI_len]; omega
  have VS := hid (fun w8 g8 c8 h4 h5 h6 h7 => (show RJF Wr w0 N lb bs B vs A _ S (L ++ [x]) ∧ _ ∧ _ from by
    obtain ⟨k1, k2, k3⟩ := h.vis (w1 := W) (w8 := w8) (g8 := g8) (c8 := c8) hx hxS hxL h1 h2 h3 (Below.refl _ _) h4 h5 h6 h7
    have hs8 : W.heap.size ≤ w8.heap.size := h5.size
    refine ⟨⟨k1, by have := hf.ge; simp [World.setCell]; omega, fun k hk e1 e2 => ?_, fun q' c' e g hg => ?_⟩, k2, k3⟩
    · rw [set_far e2, h6 k (Nat.lt_of_lt_of_le hk hf.ge) (fun e => by
        have := hf.nw q c h1 k e.symm
        omega)]
      exact hf.fr k hk e1 e2
    · have c9 : (w8.setCell ⟨B, 0, none⟩ (.slice (some ⟨g8, 0, none⟩) (L.length + 1) c8)).cell? ⟨B, 0, none⟩ = some (.slice q' (L ++ [x]).length c') := cell_of_row _ B 0 _ _ _ e
      rw [World.cell?_setCell_same _ _ _ k2] at c9
      injection c9 with c9
      rw [← c9] at hg
      injection hg with hg
      have hg : g8 = g := hg
      subst hg
      rcases h7 with z | z
      · exact hf.nw q c h1 g8 z
      · exact Nat.le_trans hf.ge z))
  have x0 : W.cell? ⟨B, 0, none⟩ = some (.slice q L.length c) := cell_of_row _ _ _ _ _ _ h1
  have O1 := hid h2
  have BS : Hid (w0.heap.size ≤ W.heap.size) := h.bl.size
  have e0 := nI_len L
  rw [e0] at LS
  clear h h1 h2 h3 hxS hxL ll hf
  obtain ⟨R, hR⟩ : ∃ R, R = nI L := ⟨_, rfl⟩
  rw [← hR] at O1 VS e0
  rw [← e0] at LS VS O1 x0
  clear e0 hR
  go_enter Try.func69, Try.ntmps69
  go_wp2_with (at_builtin; refine append_g KI KI_ok rfl (.tmp 3) (.tmp 5) 25 rfl w0.heap.size Try.underlying25 W _ _ (.slice q R.length c) R (x : Int) _ rfl O1.out W.heap.size rfl rfl rfl LS.out BS.out ?_; intro g5 cp5 w5 ho5 hb5 hk5 hg5; obtain ⟨k1, k2, k3⟩ := VS.out w5 g5 cp5 ho5 hb5 hk5 hg5; have K1 := hid k1; clear k1 ho5 hb5 hk5 hg5)
  go_end0
  exact ⟨rfl, K1.out⟩
theorem RJF.wk {Wr w0 : World} {N lb bs B : Nat} {vs : List Sl} {E : List (Nat × Nat)} (hg : GOK N E) : WK (nx N E) N lb bs N 70 #[.pointer (some ⟨B, 0, none⟩)] (fun i => (vs.getD i sl0).1) (fun i => (vs.getD i sl0).2.2) (RJF Wr w0 N lb bs B vs (nx N E)) :=
  ⟨fun h _ hi => h.rj.lz.cell hi, fun h _ hi => h.rj.se hi, fun h i _ => h.st i, fun h => h.rj.ls, fun h i hi h1 h2 => visF_any hg.n h i hi h1 h2, fun _ _ _ hy => (hg.lt _ ((nx_mem hg).1 hy)).2, fun i => Nat.le_trans (nx_len N E i) hg.n, Try.call70⟩
theorem RJF.wk1 {Wr w0 : World} {N lb bs B : Nat} {vs : List Sl} {E : List (Nat × Nat)} (hg : GOK N E) : WK (nx N E) N lb bs N 69 #[.pointer (some ⟨B, 0, none⟩)] (fun i => (vs.getD i sl0).1) (fun i => (vs.getD i sl0).2.2) (RJF Wr w0 N lb bs B vs (nx N E)) :=
  ⟨fun h _ hi => h.rj.lz.cell hi, fun h _ hi => h.rj.se hi, fun h i _ => h.st i, fun h => h.rj.ls, fun h i hi h1 h2 => visG_any hg.n h i hi h1 h2, fun _ _ _ hy => (hg.lt _ ((nx_mem hg).1 hy)).2, fun i => Nat.le_trans (nx_len N E i) hg.n, Try.call69⟩
end Go.Proofs.Ytghkhceplpjegaa
