/- Tokens: what only reads: isDone, find, Now, leastRank. -/
import Derived.Test.YtkebflllbphkkaaDoorTq2
namespace Go.Proofs.YtkebflllbphkkaaDoor
open Go.RowKit

/-- A token as it lies in memory. -/
structure NM where
  name : ByteArray
  ab : Nat → Nat
  til : Int
  rk : Nat
  bw : Nat
  wp : Option Addr
  wn : Nat
  wc : Nat
def nmC (x : NM) : List Value := (ndA x.name x.ab x.til x.rk x.bw (.slice x.wp x.wn x.wc)).toList
def KN : RK NM := ⟨71, 9, 96, .agg #[.string ByteArray.empty, .int .u64 0, .int .u64 0, .int .u64 0, .int .u64 0, .int .i64 0, .int .i64 0, .int .i64 0, .slice none 0 0], nmC⟩
theorem KN_ok : KN.Ok Tryd.prog :=
  ⟨fun _ => rfl, fun x u hu => by simp [KN, nmC, ndA] at hu; rcases hu with rfl | rfl | rfl | rfl | rfl | rfl | rfl | rfl | rfl <;> rfl, rfl, by decide, by decide, info_parts' (by kernel_rfl)⟩
def KP : RK Nat := ⟨3, 1, 8, .int .i64 0, fun x => [.int .i64 x]⟩
theorem KP_ok : KP.Ok Tryd.prog :=
  ⟨fun _ => rfl, fun x u hu => by simp [KP] at hu; subst hu; rfl, rfl, by decide, by decide, info_parts' (by kernel_rfl)⟩
def KC : RK Cr := ⟨56, 3, 32, .agg #[.int .i64 0, .int .i64 0, .string ByteArray.empty], crC⟩
theorem KC_ok : KC.Ok Tryd.prog :=
  ⟨fun _ => rfl, fun x u hu => by simp [KC, crC] at hu; rcases hu with rfl | rfl | rfl <;> rfl, rfl, by decide, by decide, info_parts' (by kernel_rfl)⟩
theorem OwnC.g {w : World} {base : Nat} {v : Value} {l : List Cr} (h : OwnC w base v l) : OwnG KC w base v l := h
theorem ownC_g {w : World} {base : Nat} {v : Value} {l : List Cr} (h : OwnG KC w base v l) : OwnC w base v l := h
/-- A cell of a row written. -/
theorem OwnG.setW {α : Type} {K : RK α} (hf : ∀ x, (K.f x).length = K.W) {w : World} {base g n cap : Nat} {l : List α} (h : OwnG K w base (.slice (some ⟨g, 0, none⟩) n cap) l) {k j : Nat} (hk : k < l.length) (hj : j < K.W) (x : α) (u : Value) (hu : K.f x = (K.f l[k]).set j u) : OwnG K (w.setCell ⟨g, k * K.W + j, none⟩ u) base (.slice (some ⟨g, 0, none⟩) n cap) (l.set k x) := by
  obtain ⟨h1, h2⟩ := h
  rcases h2 with ⟨h2, _⟩ | ⟨g', cp, cur, e1, e2, e3, e4, e5, e6, e7⟩
  · cases h2
  · injection e1 with e1 e8 e9
    injection e1 with e1
    injection e1 with e1 _ _
    subst e1 e9
    refine ⟨RK.flat_len hf _, Or.inr ⟨g, cap, cur.setIfInBounds (k * K.W + j) u, by rw [List.length_set, e8], e2, heap_setCell_same w g _ cur _ _ e3, by rw [List.length_set]; exact e4, e5, by simpa using e6, ?_⟩⟩
    have fl : ∀ (l : List α) (k : Nat) (hk : k < l.length), K.f x = (K.f l[k]).set j u → (l.set k x).flatMap K.f = (l.flatMap K.f).set (k * K.W + j) u := fun l => by
      induction l with
      | nil => intro k hk; simp at hk
      | cons y r ih =>
        intro k hk hx
        cases k with
        | zero =>
          rw [List.set_cons_zero, List.flatMap_cons, List.flatMap_cons, Nat.zero_mul, Nat.zero_add, List.set_append_left _ _ (by rw [hf]; exact hj)]
          rw [hx]; rfl
        | succ k =>
          rw [List.set_cons_succ, List.flatMap_cons, List.flatMap_cons, ih k (by simpa using hk) hx, List.set_append_right _ _ (by rw [hf, Nat.add_mul]; omega), hf]
          congr 2
          rw [Nat.add_mul]; omega
    rw [List.length_set, fl l k hk hu, ← e7]
    simp [Array.toList_setIfInBounds, List.take_set]
/-- The names; where one stands. -/
def Tr.nms (T : Tr) : List ByteArray := T.ns.map TN.name
def plO (l : List ByteArray) (s : ByteArray) : Option Nat := l.findIdx? (fun x => decide (x = s))
def plF (l : List ByteArray) : ByteArray → Option Value := fun s => (plO l s).map (fun p => .int .i64 p)
theorem nms_len (T : Tr) : T.nms.length = T.ns.length := by simp [Tr.nms]
theorem nms_at {T : Tr} {p : Nat} (h : p < T.ns.length) : T.nms[p]? = some (T.n p).name := by simp [Tr.nms, Tr.n, List.getD, h]
theorem plO_some {T : Tr} {s : ByteArray} {p : Nat} (h : plO T.nms s = some p) : p < T.ns.length ∧ (T.n p).name = s := by
  unfold plO at h
  rw [List.findIdx?_eq_some_iff_getElem] at h
  obtain ⟨h1, h2, _⟩ := h
  have h3 : p < T.ns.length := by rw [nms_len] at h1; exact h1
  have := nms_at h3
  rw [List.getElem?_eq_getElem h1] at this
  injection this with this
  simp at h2
  exact ⟨h3, by rw [← this]; exact h2⟩
theorem plO_at {T : Tr} (hn : ∀ p q, p < T.ns.length → q < T.ns.length → (T.n p).name = (T.n q).name → p = q) {p : Nat} (hp : p < T.ns.length) : plO T.nms (T.n p).name = some p := by
  cases h : plO T.nms (T.n p).name with
  | none =>
    unfold plO at h
    rw [List.findIdx?_eq_none_iff] at h
    have := h (T.n p).name (List.mem_of_getElem? (nms_at hp))
    simp at this
  | some q =>
    obtain ⟨h1, h2⟩ := plO_some h
    rw [hn q p h1 hp h2]
theorem plO_none {T : Tr} {s : ByteArray} (h : plO T.nms s = none) {p : Nat} (hp : p < T.ns.length) : (T.n p).name ≠ s := by
  unfold plO at h
  rw [List.findIdx?_eq_none_iff] at h
  have := h (T.n p).name (List.mem_of_getElem? (nms_at hp))
  simpa using this
theorem Cn.nms {T U : Tr} (h : Cn T U) : U.nms = T.nms := by
  refine List.ext_getElem? (fun p => ?_)
  by_cases hp : p < T.ns.length
  · rw [nms_at hp, nms_at (by rw [h.len]; exact hp), h.name]
  · rw [List.getElem?_eq_none (by rw [nms_len, h.len]; omega), List.getElem?_eq_none (by rw [nms_len]; omega)]
/-- A token in memory is this one. -/
structure NR (w : World) (od : List Nat) (p : Nat) (m : NM) (n : TN) : Prop where
  name : m.name = n.name
  ab : m.ab = n.ab
  til : m.til = n.til
  rk : m.rk = rkOf od p
  bw : m.bw = n.bw
  why : OwnC w 0 (.slice m.wp m.wn m.wc) n.why
def NM0 : NM := ⟨ByteArray.empty, fun _ => 0, 0, 0, 0, none, 0, 0⟩
/-- The tree at a block. -/
structure TX (w : World) (b cb mb : Nat) (nv ov : Value) (L : List NM) (T : Tr) : Prop where
  tr : w.heap[b]? = some (.cells #[.pointer (some ⟨cb, 0, none⟩), nv, .map (some mb), ov] 62)
  ck : w.heap[cb]? = some (.cells #[.int .i64 T.now, .int .i64 0, .slice none 0 0] 99)
  nr : OwnG KN w 0 nv L
  or : OwnG KP w 0 ov T.od
  mp : MV w mb T.ns.length (plF T.nms)
  ll : L.length = T.ns.length
  lr : ∀ p, p < T.ns.length → NR w T.od p (L.getD p NM0) (T.n p)
  nl : T.ns.length ≤ 256
  ol : T.od.length ≤ 256
  wd : ∀ p k, p < T.ns.length → (T.n p).ab k < 18446744073709551616
def fp (b cb mb : Nat) (nv ov : Value) : Nat → Prop := fun x => x = b ∨ x = cb ∨ x = mb ∨ nv.ownBlock = some x ∨ ov.ownBlock = some x
/-- Blocks that trees write into: by their kinds. -/
def okT : Obj → Prop
  | .cells _ t _ => t = 62 ∨ t = 99 ∨ t = 71 ∨ t = 3
  | .map _ _ => True
  | _ => False
def OkF (w : World) (F : Nat → Prop) : Prop := ∀ x, F x → ∃ o, w.heap[x]? = some o ∧ okT o
theorem lt_of_heap {w : World} {x : Nat} {o : Obj} (h : w.heap[x]? = some o) : x < w.heap.size := by
  by_cases hx : x < w.heap.size
  · exact hx
  · rw [Array.getElem?_eq_none (by omega)] at h; cases h
theorem OkF.lt {w : World} {F : Nat → Prop} (h : OkF w F) {x : Nat} (hx : F x) : x < w.heap.size := by
  obtain ⟨o, ho, _⟩ := h x hx
  exact lt_of_heap ho
theorem TX.okF {w : World} {b cb mb : Nat} {nv ov : Value} {L : List NM} {T : Tr} (h : TX w b cb mb nv ov L T) : OkF w (fp b cb mb nv ov) := by
  rintro x (rfl | rfl | rfl | hx | hx)
  · exact ⟨_, h.tr, Or.inl rfl⟩
  · exact ⟨_, h.ck, Or.inr (Or.inl rfl)⟩
  · obtain ⟨D, ⟨es, c, h1, _⟩, _⟩ := h.mp
    exact ⟨_, h1, trivial⟩
  · obtain ⟨c, hc⟩ := h.nr.ty hx
    exact ⟨_, hc, Or.inr (Or.inr (Or.inl rfl))⟩
  · obtain ⟨c, hc⟩ := h.or.ty hx
    exact ⟨_, hc, Or.inr (Or.inr (Or.inr rfl))⟩
/-- A row of another kind stays. -/
theorem OwnG.butF {α : Type} {K : RK α} {w w' : World} {base : Nat} {v : Value} {l : List α} {F : Nat → Prop} (h : OwnG K w base v l) (k : But F w w') (hF : OkF w F) (ht : ¬ okT (.cells #[] K.ty (0, 0))) : OwnG K w' base v l :=
  h.far (fun g hg => k.block g (h.lt hg).2 (fun hx => by
    obtain ⟨c, hc⟩ := h.ty hg
    obtain ⟨o, ho, hk⟩ := hF g hx
    rw [hc] at ho
    injection ho with ho
    subst ho
    exact ht hk))
theorem kc_no : ¬ okT (.cells #[] KC.ty (0, 0)) := by unfold okT KC; decide
theorem ks_no : ¬ okT (.cells #[] KS.ty (0, 0)) := by unfold okT KS; decide
theorem NR.keep {w w' : World} {od : List Nat} {p : Nat} {m : NM} {n : TN} {F : Nat → Prop} (h : NR w od p m n) (k : But F w w') (hF : OkF w F) : NR w' od p m n :=
  ⟨h.name, h.ab, h.til, h.rk, h.bw, ownC_g (h.why.g.butF k hF kc_no)⟩
/-- What leaves the tree's blocks as they were leaves the tree. -/
theorem TX.keep {w w' : World} {b cb mb : Nat} {nv ov : Value} {L : List NM} {T : Tr} {G : Nat → Prop} (h : TX w b cb mb nv ov L T) (k : But G w w') (hG : OkF w G) (hd : ∀ x, fp b cb mb nv ov x → ¬ G x) : TX w' b cb mb nv ov L T := by
  have st : ∀ x, fp b cb mb nv ov x → w'.heap[x]? = w.heap[x]? := fun x hx => k.block x (h.okF.lt hx) (hd x hx)
  exact ⟨(st b (Or.inl rfl)).trans h.tr, (st cb (Or.inr (Or.inl rfl))).trans h.ck, h.nr.far (fun g hg => st g (Or.inr (Or.inr (Or.inr (Or.inl hg))))), h.or.far (fun g hg => st g (Or.inr (Or.inr (Or.inr (Or.inr hg))))), h.mp.far (st mb (Or.inr (Or.inr (Or.inl rfl)))), h.ll, fun p hp => (h.lr p hp).keep k hG, h.nl, h.ol, h.wd⟩
theorem TX.below {w w' : World} {b cb mb : Nat} {nv ov : Value} {L : List NM} {T : Tr} (h : TX w b cb mb nv ov L T) (k : Below w.heap.size w w') : TX w' b cb mb nv ov L T :=
  h.keep (But.of_below (F := fun _ => False) k) (fun _ hx => hx.elim) (fun _ _ hx => hx)
/-- The tree's own cells. -/
theorem TX.cells {w : World} {b cb mb : Nat} {nv ov : Value} {L : List NM} {T : Tr} (h : TX w b cb mb nv ov L T) : w.cell? ⟨b, 0, none⟩ = some (.pointer (some ⟨cb, 0, none⟩)) ∧ w.cell? ⟨b, 1, none⟩ = some nv ∧ w.cell? ⟨b, 2, none⟩ = some (.map (some mb)) ∧ w.cell? ⟨b, 3, none⟩ = some ov := by
  refine ⟨?_, ?_, ?_, ?_⟩ <;> (rw [cell_of_row _ _ _ _ _ _ h.tr]; rfl)
theorem TX.fz {w : World} {b cb mb : Nat} {nv ov : Value} {L : List NM} {T : Tr} (h : TX w b cb mb nv ov L T) (j : Nat) : w.frozen? ⟨b, j, none⟩ = false := by simp [World.frozen?, h.tr]
theorem TX.ckc {w : World} {b cb mb : Nat} {nv ov : Value} {L : List NM} {T : Tr} (h : TX w b cb mb nv ov L T) : w.cell? ⟨cb, 0, none⟩ = some (.int .i64 T.now) ∧ w.cell? ⟨cb, 1, none⟩ = some (.int .i64 0) ∧ w.cell? ⟨cb, 2, none⟩ = some (.slice none 0 0) := by
  refine ⟨?_, ?_, ?_⟩ <;> (rw [cell_of_row _ _ _ _ _ _ h.ck]; rfl)
/-- A token's cells. -/
theorem TX.nd {w : World} {b cb mb : Nat} {nv ov : Value} {L : List NM} {T : Tr} (h : TX w b cb mb nv ov L T) {p : Nat} (hp : p < T.ns.length) : ∃ X cap, nv = .slice (some ⟨X, 0, none⟩) T.ns.length cap ∧ T.ns.length ≤ cap ∧ X < w.heap.size ∧ (∀ j, w.frozen? ⟨X, j, none⟩ = false) ∧ w.cell? ⟨X, p * 9, none⟩ = some (.string (T.n p).name) ∧ AB w X (p * 9 + 1) (T.n p).ab ∧ w.cell? ⟨X, p * 9 + 5, none⟩ = some (.int .i64 (T.n p).til) ∧ w.cell? ⟨X, p * 9 + 6, none⟩ = some (.int .i64 (rkOf T.od p)) ∧ w.cell? ⟨X, p * 9 + 7, none⟩ = some (.int .i64 (T.n p).bw) ∧ ∃ wp wc, w.cell? ⟨X, p * 9 + 8, none⟩ = some (.slice wp (T.n p).why.length wc) ∧ OwnC w 0 (.slice wp (T.n p).why.length wc) (T.n p).why := by
  have hl := h.ll
  have hpl : p < L.length := by omega
  have hr := h.lr p hp
  have eL : L.getD p NM0 = L[p] := by simp [List.getD, hpl]
  rw [eL] at hr
  obtain ⟨X, cap, e, hc⟩ := h.nr.place (by
    intro hn
    rcases h.nr.2 with ⟨_, e0⟩ | ⟨g, c, cur, e0, _⟩
    · omega
    · rw [e0] at hn; cases hn)
  have ho := h.nr
  rw [e] at ho
  have hg := ho.gs KN_ok.len
  obtain ⟨X', o', e1, hX, hcell⟩ := hg.at hpl
  injection e1 with e1
  injection e1 with e1 e2 _
  subst e1 e2
  have cl : ∀ j u, (nmC L[p])[j]? = some u → w.cell? ⟨X, p * 9 + j, none⟩ = some u := fun j u hu => by
    have := hcell j u hu
    rw [show KN.W = 9 from rfl, Nat.zero_add] at this
    exact this
  have hwy := hr.why
  obtain ⟨wp, wc, ew⟩ := hwy.form
  have ew2 : L[p].wn = (T.n p).why.length := by injection ew
  refine ⟨X, cap, by rw [e, hl], by omega, hX, fun j => own_frozen ho j, ?_, fun k hk => ?_, ?_, ?_, ?_, L[p].wp, L[p].wc, ?_, by rw [← ew2]; exact hwy⟩
  · have := cl 0 _ rfl
    rw [Nat.add_zero] at this
    rw [this, hr.name]
  · have := cl (1 + k) (.int .u64 (L[p].ab k)) (by
      have : k = 0 ∨ k = 1 ∨ k = 2 ∨ k = 3 := by omega
      rcases this with rfl | rfl | rfl | rfl <;> rfl)
    rw [Nat.add_assoc, this, hr.ab]
  · rw [cl 5 _ rfl, hr.til]
  · rw [cl 6 _ rfl, hr.rk]
  · rw [cl 7 _ rfl, hr.bw]
  · rw [cl 8 _ rfl, ew2]
end Go.Proofs.YtkebflllbphkkaaDoor
namespace Go.Proofs.YtkebflllbphkkaaDoor
open Go.RowKit

theorem zeroInt (w : World) : (zeroValue 3).run Tryd.prog w = .ok (.int .i64 0) w := by kernel_rfl
set_option maxHeartbeats 4000000 in
theorem isDone_any (w : World) (b cb mb : Nat) (nv ov : Value) (L : List NM) (T : Tr) (h : TX w b cb mb nv ov L T) (p : Nat) (hp : p < T.ns.length) :
    Calls Tryd.prog 26 #[.pointer (some ⟨b, 0, none⟩), .int .i64 p] w fun e w' => e = .returned (.bool (decide (p ∈ T.od))) ∧ w' = w := by
  obtain ⟨c0, c1, c2, c3⟩ := h.cells
  obtain ⟨X, cap, rfl, hcap, hX, fz, n0, n1, n5, n6, n7, wp, wc, n8, ow⟩ := h.nd hp
  have hd : Hid (((rkOf T.od p : Nat) : Int) ≠ 256 ↔ p ∈ T.od) := by
    show _ ↔ _
    have hol := h.ol
    constructor
    · intro q
      by_cases hm : p ∈ T.od
      · exact hm
      · rw [rkOf_out hm] at q; exact absurd rfl q
    · intro q
      have := rkOf_lt q
      omega
  have hnl := h.nl
  generalize T.ns.length = N at *
  generalize rkOf T.od p = r at *
  clear h n0 n1 n5 n7 n8 ow c0 c2 c3
  by_cases hr : ((r : Nat) : Int) = 256
  · have h1 : ((r : Int) != 256) = false := by simpa using hr
    have h2 : ((r : Int) == 256) = true := by simpa using hr
    have HF : Hid (decide (p ∈ T.od) = false) := by
      show _ = _
      simp only [decide_eq_false_iff_not]
      exact fun q => hd.out.2 q hr
    clear hr
    go_enter Tryd.func26, Tryd.ntmps26
    go_wp2
    go_ret
    exact ⟨ret_bool HF.out.symm, rfl⟩
  · have h1 : ((r : Int) != 256) = true := by simpa using hr
    have h2 : ((r : Int) == 256) = false := by simpa using hr
    have HF : Hid (decide (p ∈ T.od) = true) := by
      show _ = _
      simp only [decide_eq_true_eq]
      exact hd.out.1 hr
    go_enter Tryd.func26, Tryd.ntmps26
    go_wp2
    go_ret
    exact ⟨ret_bool HF.out.symm, rfl⟩
/-- What find answers. -/
def fndE : Option Nat → Int
  | some _ => 0
  | none => 4
def fndP : Option Nat → Nat
  | some p => p
  | none => 0
set_option maxHeartbeats 4000000 in
theorem find_any (w : World) (b cb mb : Nat) (nv ov : Value) (L : List NM) (T : Tr) (h : TX w b cb mb nv ov L T) (s : ByteArray) (hs : s.size ≤ maxLen) :
    Calls Tryd.prog 25 #[.pointer (some ⟨b, 0, none⟩), .string s] w fun e w' => e = .returned (.tuple #[.int .i64 (fndP (plO T.nms s) : Nat), .int .i64 (fndE (plO T.nms s))]) ∧ w' = w := by
  obtain ⟨c0, c1, c2, c3⟩ := h.cells
  have MP := hid h.mp
  have VL : Hid ((plF T.nms s).getD (.int .i64 0) = .int .i64 (fndP (plO T.nms s) : Nat) ∧ (plF T.nms s).isSome = (plO T.nms s).isSome) := by
    refine ⟨?_, ?_⟩
    · unfold plF; cases plO T.nms s <;> rfl
    · unfold plF; cases plO T.nms s <;> rfl
  generalize T.ns.length = N at *
  generalize hf : plF T.nms = f at *
  clear h hf
  generalize plO T.nms s = o at *
  clear c0 c1 c3
  cases o with
  | none =>
    have VL2 : Hid ((f s).getD (.int .i64 0) = .int .i64 0 ∧ (f s).isSome = false) := VL
    clear VL
    go_enter Tryd.func25, Tryd.ntmps25
    go_wp2_with (at_lookup; refine mv_ok rfl _ _ 60 rfl 3 Tryd.underlying60 (zeroInt _) mb N f rfl MP.out s rfl hs ?_; rw [VL2.out.1, VL2.out.2])
    go_ret2
    exact ⟨rfl, rfl⟩
  | some p =>
    have VL2 : Hid ((f s).getD (.int .i64 0) = .int .i64 (p : Nat) ∧ (f s).isSome = true) := VL
    clear VL
    go_enter Tryd.func25, Tryd.ntmps25
    go_wp2_with (at_lookup; refine mv_ok rfl _ _ 60 rfl 3 Tryd.underlying60 (zeroInt _) mb N f rfl MP.out s rfl hs ?_; rw [VL2.out.1, VL2.out.2])
    go_ret2
    exact ⟨rfl, rfl⟩
set_option maxHeartbeats 4000000 in
theorem cnow_any (w : World) (cb : Nat) (n : Int) (h : w.cell? ⟨cb, 0, none⟩ = some (.int .i64 n)) :
    Calls Tryd.prog 40 #[.pointer (some ⟨cb, 0, none⟩)] w fun e w' => e = .returned (.int .i64 n) ∧ w' = w := by
  go_enter Tryd.func40, Tryd.ntmps40
  go_wp2
  go_ret
  exact ⟨rfl, rfl⟩
set_option maxHeartbeats 4000000 in
theorem tnow_any (w : World) (b cb mb : Nat) (nv ov : Value) (L : List NM) (T : Tr) (h : TX w b cb mb nv ov L T) :
    Calls Tryd.prog 21 #[.pointer (some ⟨b, 0, none⟩)] w fun e w' => e = .returned (.int .i64 T.now) ∧ w' = w := by
  obtain ⟨c0, c1, c2, c3⟩ := h.cells
  have CN := cnow_any w cb T.now h.ckc.1
  clear h c1 c2 c3
  go_enter Tryd.func21, Tryd.ntmps21
  go_wp2_with (go_at_call 40; refine CN.mono ?_; rintro e w' ⟨rfl, rfl⟩)
  go_ret
  exact ⟨rfl, rfl⟩
/-- The least rank of some. -/
def leastA (od : List Nat) (acc : Nat) (l : List Nat) : Nat := l.foldl (fun a p => min a (rkOf od p)) acc
theorem leastA_step (od : List Nat) (x : Nat) : ∀ (l : List Nat) (acc : Nat), leastA od (min x acc) l = min x (leastA od acc l)
  | [], acc => rfl
  | p :: r, acc => by
    unfold leastA
    rw [List.foldl_cons, List.foldl_cons]
    have := leastA_step od x r (min acc (rkOf od p))
    unfold leastA at this
    rw [← this]
    congr 1
    omega
theorem leastA_cons (od : List Nat) (p : Nat) (r : List Nat) : leastA od 256 (p :: r) = min (rkOf od p) (leastA od 256 r) := by
  have := leastA_step od (rkOf od p) r 256
  rw [← this]
  show leastA od (min 256 (rkOf od p)) r = _
  congr 1
  omega
theorem leastA_spec {od : List Nat} (ho : od.length ≤ 256) : ∀ l : List Nat, (leastA od 256 l = 256 ∧ ∀ p ∈ l, p ∉ od) ∨ (leastA od 256 l < 256 ∧ ∃ p ∈ l, p ∈ od ∧ leastA od 256 l = rkOf od p)
  | [] => Or.inl ⟨rfl, fun p hp => by cases hp⟩
  | p :: r => by
    rw [leastA_cons]
    by_cases hp : p ∈ od
    · have h1 := rkOf_lt hp
      right
      rcases leastA_spec ho r with ⟨h, _⟩ | ⟨h, q, hq, hq2, e⟩
      · exact ⟨by omega, p, List.mem_cons_self .., hp, by omega⟩
      · refine ⟨by omega, ?_⟩
        by_cases hle : rkOf od p ≤ leastA od 256 r
        · exact ⟨p, List.mem_cons_self .., hp, by omega⟩
        · exact ⟨q, List.mem_cons_of_mem _ hq, hq2, by omega⟩
    · rw [rkOf_out hp]
      rcases leastA_spec ho r with ⟨h, k⟩ | ⟨h, q, hq, hq2, e⟩
      · left
        refine ⟨by omega, fun q hq => ?_⟩
        rcases List.mem_cons.1 hq with rfl | hq
        · exact hp
        · exact k q hq
      · right
        exact ⟨by omega, q, List.mem_cons_of_mem _ hq, hq2, by omega⟩
set_option maxHeartbeats 8000000 in
set_option maxRecDepth 100000 in
theorem least_any (w : World) (b cb mb : Nat) (nv ov : Value) (L : List NM) (T : Tr) (h : TX w b cb mb nv ov L T) (v : Value) (l : List Nat) (hv : GS KP w v l) (hl : ∀ p ∈ l, p < T.ns.length) (hll : l.length ≤ 100000) :
    Calls Tryd.prog 30 #[.pointer (some ⟨b, 0, none⟩), v] w fun e w' => e = .returned (.int .i64 (leastA T.od 256 l : Nat)) ∧ w' = w := by
  obtain ⟨pv, cv, rfl⟩ := hv.form
  obtain ⟨c0, c1, c2, c3⟩ := h.cells
  have H := hid h
  have HV := hid hv
  have HL : Hid (∀ p ∈ l, p < T.ns.length) := hl
  clear h hv hl c0 c2 c3
  go_enter Tryd.func30, Tryd.ntmps30
  go_wp2
  go_loop [5, 10] (fun a i => ∃ k : Nat, k ≤ l.length ∧ i = .int .i64 k ∧ a = .int .i64 (leastA T.od 256 (l.take k) : Nat)) (fun _ i => l.length - (intOf i).toNat)
  case atStart => exact ⟨0, Nat.zero_le _, rfl, rfl⟩
  case round =>
    obtain ⟨k, hk, rfl, rfl⟩ := hrel
    by_cases hlt : k < l.length
    · obtain ⟨X, o, rfl, hX, hc⟩ := HV.out.at hlt
      have e0 := hc 0 _ rfl
      rw [show KP.W = 1 from rfl, Nat.mul_one, Nat.add_zero] at e0
      have hp := HL.out _ (List.getElem_mem hlt)
      have NX : Hid (leastA T.od 256 (l.take (k + 1)) = min (leastA T.od 256 (l.take k)) (rkOf T.od l[k])) := by
        show _ = _
        unfold leastA
        rw [List.take_add_one, List.getElem?_eq_getElem hlt, Option.toList_some, List.foldl_append]; rfl
      obtain ⟨p, hpe⟩ : ∃ p, p = l[k] := ⟨_, rfl⟩
      rw [← hpe] at e0 hp NX
      obtain ⟨Y, cap, hnv, hcap, hY, fz, n0, n1, n5, n6, n7, wp, wc, n8, ow⟩ := H.out.nd hp
      rw [hnv] at c1
      have hnl := H.out.nl
      clear n0 n1 n5 n7 n8 ow hnv hpe hc fz
      generalize hz : T.ns.length = N at *
      generalize leastA T.od 256 (l.take k) = a at *
      generalize rkOf T.od p = r at *
      clear hz
      go_wp2
      all_goals
        go_round
        case rel => exact ⟨k + 1, by omega, by go_num, by rw [NX.out]; go_num⟩
        case measure => simp [intOf]; omega
    · have e : l.take k = l := List.take_of_length_le (by omega)
      rw [e]
      go_wp2
      go_ret
      exact ⟨rfl, rfl⟩
end Go.Proofs.YtkebflllbphkkaaDoor
