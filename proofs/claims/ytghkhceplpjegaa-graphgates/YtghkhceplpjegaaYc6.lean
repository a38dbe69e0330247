/- Graph: what a walk that gathers does; Reach. -/
import Derived.Test.YtghkhceplpjegaaYd2
namespace Go.Proofs.Ytghkhceplpjegaa
open Go.RowKit

/-- What a walk needs: the lists, who was seen, what a visit does. -/
structure WK (A : Nat → List Nat) (N lb bs cs fn : Nat) (cb : Array Value) (P : Nat → Option Addr) (C : Nat → Nat) (J : World → (Nat → Bool) → List Nat → Prop) : Prop where
  rd : ∀ {W S L}, J W S L → ∀ i, i < N → W.cell? ⟨lb, i, none⟩ = some (.slice (P i) (A i).length (C i)) ∧ GS KI W (.slice (P i) (A i).length (C i)) (nI (A i))
  se : ∀ {W S L}, J W S L → ∀ i, i < N → W.cell? ⟨bs, i, none⟩ = some (.bool (S i)) ∧ W.frozen? ⟨bs, i, none⟩ = false
  st : ∀ {W S L}, J W S L → ∀ i, i < N → J (W.setCell ⟨bs, i, none⟩ (.bool true)) (adP S i) L
  ls : ∀ {W S L}, J W S L → ∀ y ∈ L, S y = true
  vi : ∀ {W S L}, J W S L → ∀ i, i < N → S i = true → i ∉ L → Calls Try.prog fn (#[.int .i64 i] ++ cb) W fun e w' => e = .returned (.tuple #[]) ∧ J w' S (L ++ [i])
  lt : ∀ i, i < N → ∀ y ∈ A i, y < N
  ln : ∀ i, (A i).length ≤ 4096
  en : ∀ args w, Sem.run Try.prog (callFunc fn args) w = .ok (.enter fn args) w
def WO (A : Nat → List Nat) (J : World → (Nat → Bool) → List Nat → Prop) (S : Nat → Bool) (t L : List Nat) (e : Ending) (w' : World) : Prop := e = .returned (.tuple #[]) ∧ ∃ S' L', DL A S t S' L' ∧ J w' S' (L ++ L')
set_option maxHeartbeats 8000000 in
theorem walk_step {A : Nat → List Nat} {N lb bs cs fn : Nat} {cb : Array Value} {P : Nat → Option Addr} {C : Nat → Nat} {J : World → (Nat → Bool) → List Nat → Prop} (K : WK A N lb bs cs fn cb P C J) (d : Nat)
    (ih : ∀ (S : Nat → Bool), un N S < d → ∀ (W : World) (L : List Nat) (x : Nat), J W S L → x < N → Calls Try.prog 44 #[.slice (some ⟨lb, 0, none⟩) N N, .int .i64 x, .slice (some ⟨bs, 0, none⟩) N cs, .func (.func fn) #[] cb] W fun e w' => WO A J S [x] L e w')
    (S : Nat → Bool) (hd : un N S ≤ d) (W : World) (L : List Nat) (x : Nat) (hJ : J W S L) (hx : x < N) : Calls Try.prog 44 #[.slice (some ⟨lb, 0, none⟩) N N, .int .i64 x, .slice (some ⟨bs, 0, none⟩) N cs, .func (.func fn) #[] cb] W fun e w' => WO A J S [x] L e w' := by
  have hen := K.en
  have hxi : (x : Int) < (N : Nat) := by omega
  obtain ⟨s0, s1⟩ := K.se hJ x hx
  cases hS : S x with
  | true =>
    have HO : Hid (DL A S [x] S []) := .seen hS .nil
    have HJ := hid hJ
    rw [hS] at s0
    clear hJ
    go_enter Try.func44, Try.ntmps44
    go_wp2
    go_end0
    exact ⟨rfl, S, [], HO.out, by rw [List.append_nil]; exact HJ.out⟩
  | false =>
    rw [hS] at s0
    have J1 := hid (K.st hJ x hx)
    have hun := un_ad hx hS
    obtain ⟨r0, r1⟩ := K.rd J1.out x hx
    have RD := hid (fun W' S' L' (h : J W' S' L') j (hj : j < (nI (A x)).length) => GS.atI (K.rd h x hx).2 hj)
    have IH : Hid (∀ (S' : Nat → Bool), (∀ y, adP S x y = true → S' y = true) → ∀ (W' : World) (L' : List Nat) (y : Nat), J W' S' L' → y < N → Calls Try.prog 44 #[.slice (some ⟨lb, 0, none⟩) N N, .int .i64 y, .slice (some ⟨bs, 0, none⟩) N cs, .func (.func fn) #[] cb] W' fun e w' => WO A J S' [y] L' e w') := fun S' hs W' L' y hj hy => ih S' (by have := un_le (n := N) hs; omega) W' L' y hj hy
    have VI := hid (fun W' S' L' (h : J W' S' L') => K.vi h x hx)
    have XL : Hid (x ∉ L) := fun e => by rw [K.ls hJ x e] at hS; cases hS
    have AL := K.ln x
    have AY := hid (K.lt x hx)
    have D0 : Hid (DL A (adP S x) ((A x).take 0) (adP S x) []) := .nil
    have DO := hid (fun S1 L1 (h : DL A (adP S x) (A x) S1 L1) => DL.one hS h)
    have J2 : Hid (J (W.setCell ⟨bs, x, none⟩ (.bool true)) (adP S x) (L ++ [])) := by show J _ _ _; rw [List.append_nil]; exact J1.out
    clear r1 ih hJ hS hun J1
    generalize hW2 : W.setCell ⟨bs, x, none⟩ (.bool true) = W2 at *
    go_enter Try.func44, Try.ntmps44
    go_wp2
    clear hW2 s0 s1 r0
    obtain ⟨m, hm⟩ : ∃ m, m = (A x).length := ⟨_, rfl⟩
    have M1 : Hid ((A x).length = m) := hm.symm
    rw [← hm] at AL ⊢
    clear hm
    go_loopw [22] (fun v22 wr => ∃ (j : Nat) (wk : World), v22 = .int .i64 j ∧ wk = wr ∧ j ≤ m ∧ Hid (∃ S1 L1, DL A (adP S x) ((A x).take j) S1 L1 ∧ J wk S1 (L ++ L1))) (fun v22 _ => m - (intOf v22).toNat)
    case atStart => exact ⟨0, _, rfl, rfl, Nat.zero_le _, ⟨_, _, D0.out, J2.out⟩⟩
    case round =>
      obtain ⟨j, wr, rfl, rfl, hj, HE⟩ := hrel
      clear D0 J2
      obtain ⟨S1, L1, dl, hj1⟩ := HE.out
      have DLh := hid dl
      have HJ := hid hj1
      clear dl hj1
      by_cases hlt : j < m
      · have j1 : j < (A x).length := by have := M1.out; omega
        obtain ⟨X, o, e1, c1⟩ := RD.out wr S1 _ HJ.out j (by rw [nI_len]; exact j1)
        rw [nI_at j1] at c1
        have hy : (A x)[j] < N := AY.out _ (List.getElem_mem j1)
        have CL := hid (IH.out S1 (fun y h => DLh.out.up h) wr _ _ HJ.out hy)
        have TK : Hid ((A x).take (j + 1) = (A x).take j ++ [(A x)[j]]) := List.take_succ_eq_append_getElem j1
        have hji : (j : Int) < (m : Nat) := by omega
        generalize (A x)[j] = y at *
        rw [e1]
        go_wp2_with (go_at_call 44; refine CL.out.mono ?_; rintro e w5 ⟨rfl, S2, L2, d2, j2⟩; have N2 : Hid (∃ S1 L1, DL A (adP S x) ((A x).take (j + 1)) S1 L1 ∧ J w5 S1 (L ++ L1)) := ⟨S2, L1 ++ L2, by rw [TK.out]; exact DLh.out.app d2, by rw [← List.append_assoc]; exact j2⟩; clear d2 j2)
        go_roundw
        case rel => exact ⟨j + 1, _, by go_num, rfl, by omega, N2⟩
        case measure => simp [intOf]; omega
      · obtain rfl : j = m := by omega
        have D1 : Hid (DL A S [x] S1 (L1 ++ [x])) := DO.out S1 L1 (by
          have := DLh.out
          rw [List.take_of_length_le (by rw [M1.out]; exact Nat.le_refl _)] at this
          exact this)
        have V2 := hid (VI.out wr S1 _ HJ.out (DLh.out.up (adP_iff.2 (Or.inr rfl))) (fun e => by
          rcases List.mem_append.1 e with e | e
          · exact XL.out e
          · exact (adP_no (DLh.out.dis x e)).2 rfl))
        go_wp2_with fail
        refine Calls.mono V2.out ?_
        rintro e w6 ⟨rfl, j6⟩
        have J6 := hid j6
        clear j6
        go_wp2_with fail
        go_end0
        exact ⟨rfl, S1, L1 ++ [x], D1.out, by rw [← List.append_assoc]; exact J6.out⟩
theorem walk_any {A : Nat → List Nat} {N lb bs cs fn : Nat} {cb : Array Value} {P : Nat → Option Addr} {C : Nat → Nat} {J : World → (Nat → Bool) → List Nat → Prop} (K : WK A N lb bs cs fn cb P C J) (d : Nat) : ∀ (S : Nat → Bool), un N S < d → ∀ (W : World) (L : List Nat) (x : Nat), J W S L → x < N → Calls Try.prog 44 #[.slice (some ⟨lb, 0, none⟩) N N, .int .i64 x, .slice (some ⟨bs, 0, none⟩) N cs, .func (.func fn) #[] cb] W fun e w' => WO A J S [x] L e w' := by
  induction d with
  | zero => intro S h; omega
  | succ d ih => intro S h W L x hJ hx; exact walk_step K d ih S (by omega) W L x hJ hx
theorem walk_all {A : Nat → List Nat} {N lb bs cs fn : Nat} {cb : Array Value} {P : Nat → Option Addr} {C : Nat → Nat} {J : World → (Nat → Bool) → List Nat → Prop} (K : WK A N lb bs cs fn cb P C J) {S : Nat → Bool} {W : World} {L : List Nat} {x : Nat} (hJ : J W S L) (hx : x < N) : Calls Try.prog 44 #[.slice (some ⟨lb, 0, none⟩) N N, .int .i64 x, .slice (some ⟨bs, 0, none⟩) N cs, .func (.func fn) #[] cb] W fun e w' => WO A J S [x] L e w' :=
  walk_any K (un N S + 1) S (Nat.lt_succ_self _) W L x hJ hx
end Go.Proofs.Ytghkhceplpjegaa
namespace Go.Proofs.Ytghkhceplpjegaa
open Go.RowKit

/-- The lists stay where a block of another type is written. -/
theorem LZ.off {w w' : World} {base b N : Nat} {vs : List Sl} {R : Nat → List Int} (h : LZ w base b N vs R) {q : Nat} {arr : Array Value} {t : TypeId} (hq : w.heap[q]? = some (.cells arr t)) (h1 : KI.ty ≠ t) (h2 : b ≠ q) (k : ∀ x, x < w.heap.size → x ≠ q → w'.heap[x]? = w.heap[x]?) : LZ w' base b N vs R :=
  ⟨h.len, h.out.far fun g hg => k g (h.out.lt hg).2 (fun e => by
      injection hg with hg
      exact h2 ((show b = g from hg).trans e)), fun i hi => (h.row i hi).far fun g hg => k g ((h.row i hi).lt hg).2 (fun e => (h.row i hi).notat hq h1 (by rw [← e]; exact hg)), h.ap⟩
theorem LZ.cell {w : World} {base b N : Nat} {vs : List Sl} {A : Nat → List Nat} (h : LZ w base b N vs (fun i => nI (A i))) {i : Nat} (hi : i < N) : w.cell? ⟨b, i, none⟩ = some (.slice (vs.getD i sl0).1 (A i).length (vs.getD i sl0).2.2) ∧ GS KI w (.slice (vs.getD i sl0).1 (A i).length (vs.getD i sl0).2.2) (nI (A i)) := by
  obtain ⟨p, c, h1, h2, h3⟩ := h.at hi
  have h2 : Value.slice (vs.getD i sl0).1 (vs.getD i sl0).2.1 (vs.getD i sl0).2.2 = .slice p (nI (A i)).length c := h2
  injection h2 with e1 _ e3
  rw [e1, e3, ← nI_len]
  exact ⟨h1, h3.gs KI_ok.len⟩
theorem rmap_set (N : Nat) (S : Nat → Bool) (i : Nat) : ((List.range N).map S).set i true = (List.range N).map (adP S i) := by
  apply List.ext_getElem
  · simp
  · intro k h1 h2
    rw [List.getElem_set]
    have hk : k < N := by simpa using h2
    by_cases e : i = k
    · subst e; simp [adP]
    · rw [if_neg e]
      have : ¬ k = i := fun x => e x.symm
      simp [adP, this]
/-- A walk that gathers into a box. -/
structure RJ (w0 : World) (N lb bs B : Nat) (vs : List Sl) (A : Nat → List Nat) (W : World) (S : Nat → Bool) (L : List Nat) : Prop where
  bl : Below w0.heap.size w0 W
  lz : LZ W w0.heap.size lb N vs (fun i => nI (A i))
  sn : OwnG KB W w0.heap.size (.slice (some ⟨bs, 0, none⟩) N N) ((List.range N).map S)
  bx : ∃ q c, W.heap[B]? = some (.cells #[.slice q L.length c] 25) ∧ OwnG KI W w0.heap.size (.slice q L.length c) (nI L) ∧ ∀ i, i < N → ∀ g, (slV (vs.getD i sl0)).ownBlock = some g → (Value.slice q L.length c).ownBlock ≠ some g
  ge : w0.heap.size ≤ B
  nb : B ≠ lb
  ll : L.Nodup ∧ ∀ x ∈ L, x < N
  ls : ∀ x ∈ L, S x = true
theorem RJ.st {w0 : World} {N lb bs B : Nat} {vs : List Sl} {A : Nat → List Nat} {W : World} {S : Nat → Bool} {L : List Nat} (h : RJ w0 N lb bs B vs A W S L) (i : Nat) : RJ w0 N lb bs B vs A (W.setCell ⟨bs, i, none⟩ (.bool true)) (adP S i) L := by
  obtain ⟨q, c, h1, h2, h3⟩ := h.bx
  obtain ⟨cur, hs⟩ := h.sn.ty (g := bs) rfl
  have hlt := h.sn.lt (g := bs) rfl
  have hne : lb ≠ bs := fun e => by
    obtain ⟨c2, h4⟩ := h.lz.out.ty (g := lb) rfl
    rw [e, hs] at h4
    injection h4 with h4
    injection h4 with _ h4 _
    revert h4; decide
  have hnB : B ≠ bs := fun e => by
    rw [e, hs] at h1
    injection h1 with h1
    injection h1 with _ h1 _
    revert h1; decide
  refine ⟨h.bl.setCell (p := ⟨bs, i, none⟩) hlt.1 _, h.lz.off hs (by decide) hne fun x _ hx => set_far hx, ?_, ⟨q, c, ?_, h2.far fun g hg => set_far (fun e => h2.notat hs (by decide) (by rw [← e]; exact hg)), h3⟩, h.ge, h.nb, h.ll, fun x hx => adP_iff.2 (Or.inl (h.ls x hx))⟩
  · have := h.sn.set1 rfl KB_ok.len (k := i) true (.bool true) rfl
    rw [rmap_set] at this
    exact this
  · rw [set_far hnB]; exact h1
theorem RJ.se {w0 : World} {N lb bs B : Nat} {vs : List Sl} {A : Nat → List Nat} {W : World} {S : Nat → Bool} {L : List Nat} (h : RJ w0 N lb bs B vs A W S L) {i : Nat} (hi : i < N) : W.cell? ⟨bs, i, none⟩ = some (.bool (S i)) ∧ W.frozen? ⟨bs, i, none⟩ = false := by
  refine ⟨?_, own_frozen h.sn i⟩
  obtain ⟨X, o, e, hc⟩ := (h.sn.gs KB_ok.len).atB (k := i) (by simpa using hi)
  injection e with e
  injection e with e1 e2 _
  subst e1 e2
  rw [Nat.zero_add] at hc
  rw [hc]
  simp
theorem RJ.below {w0 : World} {N lb bs B : Nat} {vs : List Sl} {A : Nat → List Nat} {W W' : World} {S : Nat → Bool} {L : List Nat} (h : RJ w0 N lb bs B vs A W S L) (k : Below W.heap.size W W') : RJ w0 N lb bs B vs A W' S L := by
  obtain ⟨q, c, h1, h2, h3⟩ := h.bx
  exact ⟨bl3 h.bl k, h.lz.below k, h.sn.below k, ⟨q, c, (k.block _ (lt_of_heap h1)).trans h1, h2.below k, h3⟩, h.ge, h.nb, h.ll, h.ls⟩
theorem nd_len {L : List Nat} {N : Nat} (h : L.Nodup ∧ ∀ x ∈ L, x < N) : L.length ≤ N := by
  have := nodup_le (nI L) (nI (List.range N)) (nI_nodup h.1) fun x hx => by
    obtain ⟨k, hk, e⟩ := nI_mem.1 hx
    exact nI_mem.2 ⟨k, List.mem_range.2 (h.2 k hk), e⟩
  rw [nI_len, nI_len, List.length_range] at this
  exact this
/-- Behind a visit. -/
theorem RJ.vis {w0 : World} {N lb bs B : Nat} {vs : List Sl} {A : Nat → List Nat} {W w1 w8 : World} {S : Nat → Bool} {L : List Nat} (h : RJ w0 N lb bs B vs A W S L) {x : Nat} (hx : x < N) (hxS : S x = true) (hxL : x ∉ L) {q : Option Addr} {c : Nat} (h1 : W.heap[B]? = some (.cells #[.slice q L.length c] 25)) (h2 : OwnG KI W w0.heap.size (.slice q L.length c) (nI L)) (h3 : ∀ i, i < N → ∀ g, (slV (vs.getD i sl0)).ownBlock = some g → (Value.slice q L.length c).ownBlock ≠ some g) {g8 c8 : Nat} (hb1 : Below W.heap.size W w1) (ho : OwnG KI w8 w0.heap.size (.slice (some ⟨g8, 0, none⟩) (L.length + 1) c8) (nI L ++ [(x : Int)])) (hb8 : Below w0.heap.size w1 w8) (hk : ∀ k, k < w1.heap.size → some k ≠ (Value.slice q L.length c).ownBlock → w8.heap[k]? = w1.heap[k]?) (hg : (Value.slice q L.length c).ownBlock = some g8 ∨ w1.heap.size ≤ g8) :
    RJ w0 N lb bs B vs A (w8.setCell ⟨B, 0, none⟩ (.slice (some ⟨g8, 0, none⟩) (L.length + 1) c8)) S (L ++ [x]) ∧ w8.cell? ⟨B, 0, none⟩ = some (.slice q L.length c) ∧ w8.frozen? ⟨B, 0, none⟩ = false := by
  have hB1 : w1.heap[B]? = some (.cells #[.slice q L.length c] 25) := (hb1.block _ (lt_of_heap h1)).trans h1
  have h21 := h2.below hb1
  have nB : (Value.slice q L.length c).ownBlock ≠ some B := h21.notat hB1 (by decide)
  have hB8 : w8.heap[B]? = some (.cells #[.slice q L.length c] 25) := (hk B (lt_of_heap hB1) (fun e => nB e.symm)).trans hB1
  have hW := h.bl.size
  have old : ∀ k, k < W.heap.size → (Value.slice q L.length c).ownBlock ≠ some k → w8.heap[k]? = W.heap[k]? := fun k hkl hn => (hk k (Nat.lt_of_lt_of_le hkl hb1.size) (fun e => hn e.symm)).trans (hb1.block k hkl)
  have lz8 : LZ w8 w0.heap.size lb N vs (fun i => nI (A i)) := ⟨h.lz.len, h.lz.out.far fun g hg2 => old g (h.lz.out.lt hg2).2 (fun e => h2.apart h.lz.out (by decide) hg2 e), fun i hi => (h.lz.row i hi).far fun g hg2 => old g ((h.lz.row i hi).lt hg2).2 (h3 i hi g hg2), h.lz.ap⟩
  have sn8 : OwnG KB w8 w0.heap.size (.slice (some ⟨bs, 0, none⟩) N N) ((List.range N).map S) := h.sn.far fun g hg2 => old g (h.sn.lt hg2).2 (fun e => h2.apart h.sn (by decide) hg2 e)
  have hlen : (L ++ [x]).length = L.length + 1 := by simp
  refine ⟨⟨((h.bl.trans (hb1.mono hW)).trans hb8).setCell (p := ⟨B, 0, none⟩) h.ge _, lz8.off hB8 (by decide) (fun e => h.nb e.symm) fun y _ hy => set_far hy, ?_, ⟨some ⟨g8, 0, none⟩, c8, ?_, ?_, fun i hi g hg2 => ?_⟩, h.ge, h.nb, ⟨?_, ?_⟩, ?_⟩, cell_of_row _ _ _ _ _ _ hB8, by simp [World.frozen?, hB8]⟩
  · refine sn8.far fun g hg2 => set_far (fun e => ?_)
    subst e
    exact sn8.notat hB8 (by decide) hg2
  · rw [hlen]
    have := heap_setCell_same w8 B 0 _ 25 (.slice (some ⟨g8, 0, none⟩) (L.length + 1) c8) hB8
    exact this
  · rw [hlen, nI_app]
    refine ho.far fun g hg2 => set_far (fun e => ?_)
    subst e
    exact ho.notat hB8 (by decide) hg2
  · intro e
    rw [hlen] at e
    injection e with e
    have e : g8 = g := e
    subst e
    rcases hg with e | e
    · exact h3 i hi g8 hg2 e
    · have := ((h.lz.row i hi).lt hg2).2
      have := hb1.size
      omega
  · rw [List.nodup_append]
    exact ⟨h.ll.1, by simp, fun a ha b hb e => hxL (by rw [List.mem_singleton] at hb; rw [← hb, ← e]; exact ha)⟩
  · intro y hy
    rw [List.mem_append, List.mem_singleton] at hy
    rcases hy with hy | hy
    · exact h.ll.2 y hy
    · rw [hy]; exact hx
  · intro y hy
    rw [List.mem_append, List.mem_singleton] at hy
    rcases hy with hy | hy
    · exact h.ls y hy
    · rw [hy]; exact hxS
set_option maxHeartbeats 4000000 in
theorem visR_any {w0 : World} {N lb bs B : Nat} {vs : List Sl} {A : Nat → List Nat} (hN : N ≤ 4096) {W : World} {S : Nat → Bool} {L : List Nat} (h : RJ w0 N lb bs B vs A W S L) (x : Nat) (hx : x < N) (hxS : S x = true) (hxL : x ∉ L) : Calls Try.prog 56 #[.int .i64 x, .pointer (some ⟨B, 0, none⟩)] W fun e w' => e = .returned (.tuple #[]) ∧ RJ w0 N lb bs B vs A w' S (L ++ [x]) := by
  obtain ⟨q, c, h1, h2, h3⟩ := h.bx
  have ll := nd_len h.ll
  have LS : Hid (((nI L).length + 1) * KI.B ≤ 140737488355328) := by show (_ + 1) * 8 ≤ _; rw [nI_len]; omega
  have VS := hid (fun w1 w8 g8 c8 => h.vis (w1 := w1) (w8 := w8) (g8 := g8) (c8 := c8) hx hxS hxL h1 h2 h3)
  have x0 : W.cell? ⟨B, 0, none⟩ = some (.slice q L.length c) := cell_of_row _ _ _ _ _ _ h1
  have O1 := hid h2
  have BS : Hid (w0.heap.size ≤ W.heap.size) := h.bl.size
  have e0 := nI_len L
  rw [e0] at LS
  have AP := hid (fun (g8 c8 : Nat) (w8 : World) (ho : OwnG KI w8 w0.heap.size (.slice (some ⟨g8, 0, none⟩) ((nI L).length + 1) c8) (nI L ++ [(x : Int)])) => (by rw [e0] at ho; exact ho : OwnG KI w8 w0.heap.size (.slice (some ⟨g8, 0, none⟩) (L.length + 1) c8) (nI L ++ [(x : Int)])))
  clear h h1 h2 h3 hxS hxL ll
  obtain ⟨R, hR⟩ : ∃ R, R = nI L := ⟨_, rfl⟩
  rw [← hR] at O1 AP VS e0
  have EL : Hid (R.length = L.length) := e0
  rw [← e0] at LS VS AP O1 x0
  clear e0 hR
  go_enter Try.func56, Try.ntmps56
  go_wp2_with (at_builtin; refine append_g KI KI_ok rfl (.tmp 3) (.tmp 5) 25 rfl w0.heap.size Try.underlying25 W _ _ (.slice q R.length c) R (x : Int) _ rfl O1.out W.heap.size rfl rfl rfl LS.out BS.out ?_; intro g5 cp5 w5 ho5 hb5 hk5 hg5; obtain ⟨k1, k2, k3⟩ := VS.out W w5 g5 cp5 (Below.refl _ _) ho5 hb5 hk5 hg5; have K1 := hid k1; clear k1 ho5 hb5 hk5 hg5)
  go_end0
  exact ⟨rfl, K1.out⟩
end Go.Proofs.Ytghkhceplpjegaa
