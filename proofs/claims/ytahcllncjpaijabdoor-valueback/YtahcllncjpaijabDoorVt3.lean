/- Values: value.Sort of right values. -/
import Derived.Test.YtahcllncjpaijabDoorVt1
import Derived.Test.YtahcllncjpaijabDoorGr2
namespace Go.Proofs.YtahcllncjpaijabDoor
open Go.RowKit

def x0L : Lx := ⟨none, none, 0, 0⟩
theorem made2 (n : Nat) : (madeCells KL.z.cells (n * 2)).toList = (List.replicate n x0L).flatMap KL.f := by
  have h : ∀ i : Nat, (#[.slice none 0 0, .slice none 0 0] : Array Value)[i % 2]! = .slice none 0 0 := by
    intro i
    rcases Nat.mod_two_eq_zero_or_one i with h | h <;> rw [h] <;> rfl
  have e1 : (madeCells KL.z.cells (n * 2)).toList = List.replicate (n * 2) (.slice none 0 0) := by
    unfold madeCells
    show ((Array.range (n * 2)).map (fun i => (#[.slice none 0 0, .slice none 0 0] : Array Value)[i % 2]!)).toList = _
    rw [Array.toList_map, List.eq_replicate_iff]
    refine ⟨by simp, fun b hb => ?_⟩
    obtain ⟨i, _, e⟩ := List.mem_map.1 hb
    rw [← e]; exact h i
  rw [e1]
  clear e1 h
  induction n with
  | zero => rfl
  | succ n ih =>
    have e : (n + 1) * 2 = n * 2 + 2 := by omega
    rw [e]
    show (.slice none 0 0 : Value) :: .slice none 0 0 :: List.replicate (n * 2) (.slice none 0 0) = KL.f x0L ++ (List.replicate n x0L).flatMap KL.f
    rw [ih]
    rfl
theorem flat_set2 (x : Lx) : ∀ (A : List Lx) (k : Nat), k < A.length → (A.set k x).flatMap KL.f = ((A.flatMap KL.f).set (k * 2) (.slice x.p x.n x.c)).set (k * 2 + 1) (.slice x.q x.n x.n)
  | [], k, h => by simp at h
  | a :: A, 0, _ => rfl
  | a :: A, k + 1, h => by
    rw [List.set_cons_succ, List.flatMap_cons, List.flatMap_cons, flat_set2 x A k (by simpa using h)]
    have e : (k + 1) * 2 = k * 2 + 2 := by omega
    rw [e]
    rfl
theorem OwnG.set2 {w : World} {base g n cap : Nat} {A : List Lx} (h : OwnG KL w base (.slice (some ⟨g, 0, none⟩) n cap) A) {k : Nat} (hk : k < A.length) (x : Lx) : OwnG KL ((w.setCell ⟨g, k * 2, none⟩ (.slice x.p x.n x.c)).setCell ⟨g, k * 2 + 1, none⟩ (.slice x.q x.n x.n)) base (.slice (some ⟨g, 0, none⟩) n cap) (A.set k x) := by
  obtain ⟨h1, h2⟩ := h
  rcases h2 with ⟨h2, _⟩ | ⟨g', cp, cur, e1, e2, e3, e4, e5, e6, e7⟩
  · cases h2
  · injection e1 with e1 e8 e9
    injection e1 with e1
    injection e1 with e1 _ _
    subst e1 e9
    have i1 := heap_setCell_same w g (k * 2) cur _ (.slice x.p x.n x.c) e3
    have i2 := heap_setCell_same _ g (k * 2 + 1) _ _ (.slice x.q x.n x.n) i1
    refine ⟨RK.flat_len KL_ok.len _, Or.inr ⟨g, cap, _, by rw [List.length_set, e8], e2, i2, by rw [List.length_set]; exact e4, e5, by simpa using e6, ?_⟩⟩
    rw [flat_set2 x A k hk, List.length_set, Array.toList_setIfInBounds, Array.toList_setIfInBounds]
    have hl : k * 2 + 1 < A.length * KL.W := by show _ < _ * 2; omega
    rw [List.take_set, List.take_set, e7]
set_option maxHeartbeats 2000000 in
theorem make_L (w : World) {ops : Array Oper} {rest : List Oper} {o : Oper} {a : Act} {Q : Exit → Act → World → Prop}
    (hg : o.guard = none) (l c : Operand) (t : TypeId) (hop : o.op = Op.makeSlice t l c) (ht : Tryd.prog.underlying t = some (.slice KL.ty))
    (n : Nat) (hl : a.eval l = .int .i64 n) (hc : a.eval c = .int .i64 n) (hn : n ≤ 100000)
    (hK : ∀ w', OwnG KL w' w.heap.size (.slice (some ⟨w.heap.size, 0, none⟩) n n) (List.replicate n x0L) → Below w.heap.size w w' → wpList Tryd.prog ops Q rest (a.put o.dst (.slice (some ⟨w.heap.size, 0, none⟩) n n)) w') : wpList Tryd.prog ops Q (o :: rest) a w := by
  obtain ⟨i0, hi0, hz0, hz1, hz2⟩ := KL_ok.info
  have hB : KL.B = 48 := rfl
  refine wpList_make_full w hg l c t hop w.heap.size KL.ty i0 KL.z KL.W ht hi0 hz0 hz1 .i64 .i64 n n n hl hc rfl rfl (by rw [hz2, hB]; omega) (by unfold maxLen; omega) (Nat.le_refl _) ?_
  intro w' ho hgr
  refine hK w' ?_ ((Below.refl _ _).grown hgr (Nat.le_refl _) (fun k hk => by cases hk))
  unfold OwnG
  rw [List.length_replicate, ← made2]
  exact ho
def Fg (ga g : Nat) (b : Nat) : Prop := b = ga ∨ b = g
/-- Where value.Sort's first loop stands. -/
structure S1 (w wk : World) (ga vb g n : Nat) (T : List Vt) (A : List Lx) (k : Nat) : Prop where
  va : wk.heap[vb]? = some (.cells #[.slice (some ⟨ga, 0, none⟩) n n] 58)
  oa : OwnG KL wk w.heap.size (.slice (some ⟨ga, 0, none⟩) n n) A
  la : A.length = n
  lx : ∀ i (h : i < A.length) (h2 : i < T.length), i < k → LX wk (Fg ga g) A[i] T[i]
  op : OwnG KI wk w.heap.size (.slice (some ⟨g, 0, none⟩) n n) (plcN k ++ List.replicate (n - k) 0)
  bl : Below w.heap.size w wk
theorem plcN_succ (k : Nat) : plcN (k + 1) = plcN k ++ [(k : Int)] := by unfold plcN; rw [List.range_succ, List.map_append]; rfl
theorem plcN_set {n k : Nat} (h : k < n) : (plcN k ++ List.replicate (n - k) (0 : Int)).set k (k : Int) = plcN (k + 1) ++ List.replicate (n - (k + 1)) 0 := by
  obtain ⟨m, hm⟩ : ∃ m, n - k = m + 1 := ⟨n - k - 1, by omega⟩
  rw [hm, show n - (k + 1) = m by omega, List.set_append_right _ _ (by rw [plcN_len]; exact Nat.le_refl _), plcN_len, Nat.sub_self, List.replicate_succ, List.set_cons_zero, plcN_succ]
  simp
theorem S1.ne {w wk : World} {ga vb g n : Nat} {T : List Vt} {A : List Lx} {k : Nat} (h : S1 w wk ga vb g n T A k) : ga ≠ vb ∧ g ≠ vb ∧ ga ≠ g ∧ ga < wk.heap.size ∧ g < wk.heap.size ∧ vb < wk.heap.size ∧ w.heap.size ≤ g ∧ w.heap.size ≤ ga :=
  ⟨fun e => h.oa.notat h.va (by decide) (by rw [← e]; rfl), fun e => h.op.notat h.va (by decide) (by rw [← e]; rfl), fun e => h.oa.apart h.op (by decide) (g := g) rfl (by rw [e]; rfl), (h.oa.lt rfl).2, (h.op.lt rfl).2, (Array.getElem?_eq_some_iff.1 h.va).1, (h.op.lt rfl).1, (h.oa.lt rfl).1⟩
theorem S1.below {w wk w5 : World} {ga vb g n : Nat} {T : List Vt} {A : List Lx} {k : Nat} (h : S1 w wk ga vb g n T A k) (b : Below wk.heap.size wk w5) : S1 w w5 ga vb g n T A k :=
  ⟨(b.block vb h.ne.2.2.2.2.2.1).trans h.va, h.oa.below b, h.la, fun i h1 h2 h3 => (h.lx i h1 h2 h3).blk b.size (fun j hj _ => b.block j hj), h.op.below b, h.bl.trans (b.mono h.bl.size)⟩
/-- One more is laid out. -/
theorem S1.next {w w5 : World} {ga vb g n : Nat} {T : List Vt} {A : List Lx} {k : Nat} (h : S1 w w5 ga vb g n T A k) (hk : k < n) {x : Lx} (hx : ∀ h2 : k < T.length, LX w5 (Fg ga g) x T[k]) :
    S1 w (((w5.setCell ⟨ga, k * 2, none⟩ (.slice x.p x.n x.c)).setCell ⟨ga, k * 2 + 1, none⟩ (.slice x.q x.n x.n)).setCell ⟨g, k, none⟩ (.int .i64 (k : Int))) ga vb g n T (A.set k x) (k + 1) := by
  obtain ⟨n1, n2, n3, n4, n5, n6, n7, n8⟩ := h.ne
  have hla := h.la
  have kb : ∀ j, ¬ Fg ga g j → (((w5.setCell ⟨ga, k * 2, none⟩ (.slice x.p x.n x.c)).setCell ⟨ga, k * 2 + 1, none⟩ (.slice x.q x.n x.n)).setCell ⟨g, k, none⟩ (.int .i64 (k : Int))).heap[j]? = w5.heap[j]? := fun j hj => by
    rw [Below.heap_setCell _ _ _ _ (fun e => hj (Or.inr e)), Below.heap_setCell _ _ _ _ (fun e => hj (Or.inl e)), Below.heap_setCell _ _ _ _ (fun e => hj (Or.inl e))]
  have hz : w5.heap.size ≤ (((w5.setCell ⟨ga, k * 2, none⟩ (.slice x.p x.n x.c)).setCell ⟨ga, k * 2 + 1, none⟩ (.slice x.q x.n x.n)).setCell ⟨g, k, none⟩ (.int .i64 (k : Int))).heap.size := by simp [World.setCell]
  have o2 := h.oa.set2 (k := k) (by omega) x
  have o3 : OwnG KI ((w5.setCell ⟨ga, k * 2, none⟩ (.slice x.p x.n x.c)).setCell ⟨ga, k * 2 + 1, none⟩ (.slice x.q x.n x.n)) w.heap.size (.slice (some ⟨g, 0, none⟩) n n) (plcN k ++ List.replicate (n - k) 0) := h.op.far (fun b hb => by
    have e : b = g := by simpa [Value.ownBlock] using hb.symm
    rw [e, Below.heap_setCell _ _ _ _ (Ne.symm n3), Below.heap_setCell _ _ _ _ (Ne.symm n3)])
  refine ⟨(kb vb (fun e => e.elim (fun e => n1 e.symm) (fun e => n2 e.symm))).trans h.va, o2.far (fun b hb => ?_), by rw [List.length_set]; exact hla, fun i h1 h2 h3 => ?_, ?_, ((h.bl.setCell n8 _).setCell n8 _).setCell n7 _⟩
  · have e : b = ga := by simpa [Value.ownBlock] using hb.symm
    rw [e]; exact Below.heap_setCell _ _ _ _ n3
  · by_cases e : i = k
    · subst e
      have : (A.set i x)[i]'h1 = x := by simp
      rw [this]
      exact (hx h2).blk hz (fun j _ hj => kb j hj)
    · have : (A.set k x)[i]'h1 = A[i]'(by rw [List.length_set] at h1; exact h1) := by rw [List.getElem_set]; rw [if_neg (Ne.symm e)]
      rw [this]
      exact (h.lx i _ h2 (by omega)).blk hz (fun j _ hj => kb j hj)
  · rw [← plcN_set hk]
    exact o3.set1 rfl KI_ok.len (k : Int) _ rfl
end Go.Proofs.YtahcllncjpaijabDoor
namespace Go.Proofs.YtahcllncjpaijabDoor
open Go.RowKit

/-- Where its second loop stands. -/
structure S2 (w wk : World) (gs n : Nat) (A : List (List Atm)) (R : List Vx) (k : Nat) : Prop where
  ow : OwnG KV wk w.heap.size (.slice (some ⟨gs, 0, none⟩) n n) (R ++ List.replicate (n - k) zVx)
  ln : R.length = k
  eq : aL R = A.take k
  ea : ∀ x ∈ R, OwnG KA wk w.heap.size x.v x.a
theorem rep_setV (R : List Vx) (m : Nat) (x : Vx) (h : 0 < m) : (R ++ List.replicate m zVx).set R.length x = R ++ [x] ++ List.replicate (m - 1) zVx := by
  obtain ⟨j, rfl⟩ : ∃ j, m = j + 1 := ⟨m - 1, by omega⟩
  rw [List.set_append_right _ _ (Nat.le_refl _), Nat.sub_self, List.replicate_succ, List.set_cons_zero]
  simp
theorem S2.below {w wk w' : World} {gs n : Nat} {A : List (List Atm)} {R : List Vx} {k : Nat} (h : S2 w wk gs n A R k) (b : Below wk.heap.size wk w') : S2 w w' gs n A R k := ⟨h.ow.below b, h.ln, h.eq, fun x hx => (h.ea x hx).below b⟩
theorem S2.next {w wk : World} {gs n : Nat} {A : List (List Atm)} {R : List Vx} {k : Nat} (h : S2 w wk gs n A R k) (hk : k < n) (hkA : k < A.length) {p : Option Addr} {c : Nat} {a : List Atm} (ha : a = A[k]) (ho : OwnG KA wk w.heap.size (.slice p a.length c) a) : S2 w (wk.setCell ⟨gs, k, none⟩ (.slice p a.length c)) gs n A (R ++ [⟨a, p, c⟩]) (k + 1) := by
  have o1 := h.ow.set1 (k := k) rfl KV_ok.len (⟨a, p, c⟩ : Vx) _ rfl
  have e := rep_setV R (n - k) ⟨a, p, c⟩ (by omega)
  rw [h.ln] at e
  rw [e, show n - k - 1 = n - (k + 1) by omega] at o1
  have hne : ∀ x : Value, ∀ l, OwnG KA wk w.heap.size x l → ∀ b, x.ownBlock = some b → b ≠ gs := fun x l hx b hb e => hx.apart h.ow (by decide) (g := gs) rfl (by rw [hb, e])
  refine ⟨o1, by simp [h.ln], ?_, fun x hx => ?_⟩
  · have e9 := h.eq
    unfold aL at e9 ⊢
    rw [List.map_append, e9, List.take_add_one, List.getElem?_eq_getElem hkA, ← ha]
    rfl
  · rcases List.mem_append.1 hx with hx | hx
    · exact (h.ea x hx).far (fun b hb => Below.heap_setCell _ _ _ _ (hne _ _ (h.ea x hx) b hb))
    · rw [List.mem_singleton] at hx
      subst hx
      exact ho.far (fun b hb => Below.heap_setCell _ _ _ _ (hne _ _ ho b hb))
set_option maxHeartbeats 16000000 in
set_option maxRecDepth 100000 in
theorem vsort_ok (v : Value) (L : List Vx) (w : World) (T : List Vt) (h : VR w v L) (ht : VT L) (hz : allE (aL L) = 0) (hT : aL L = T.map flV) (hr : ∀ t ∈ T, RT t) :
    Calls Tryd.prog 10 #[v] w fun e w' => ∃ S, S.Perm T ∧ Srt S ∧ AnsS w w' e (S.map flV) 0 := by
  obtain ⟨p, cap, rfl⟩ := h.gs.form
  have hlen : T.length = L.length := by rw [← aL_len L, hT, List.length_map]
  have hn : L.length ≤ 4096 := by have := (allE_zero hz).1; rw [aL_len] at this; exact this
  have CA : Hid (Calls Tryd.prog 21 #[.slice p L.length cap] w fun e w' => e = .returned (.int .i64 0) ∧ Below w.heap.size w w') := by have := checkAll_any (.slice p L.length cap) L w h ht; rw [hz] at this; exact this
  have HV : Hid (∀ w', Below w.heap.size w w' → VR w' (.slice p L.length cap) L) := fun w' b => h.below b
  have HA : Hid (∀ k (h1 : k < L.length) (h2 : k < T.length), L[k].a = flV T[k]) := fun k h1 h2 => by
    have e1 := aL_at h1
    rw [← e1]
    simp [hT]
  have HLT : Hid (∀ k (h1 : k < L.length), ∀ b, (L[k].v).ownBlock = some b → 0 < L[k].a.length → b < w.heap.size) := fun k h1 b hb hp => (h.av L[k] (List.getElem_mem _)).lt hp hb
  have HR : Hid (∀ t ∈ T, RT t) := hr
  have HVT : Hid (∀ t ∈ T, AT (flV t)) := fun t htm => by
    have : flV t ∈ aL L := by rw [hT]; exact List.mem_map.2 ⟨t, htm, rfl⟩
    obtain ⟨x, hx, e⟩ := List.mem_map.1 this
    rw [← e]; exact ht.t x hx
  have HLN : Hid (T.length = L.length) := hlen
  clear h ht hz hT hr hlen
  generalize hnn : L.length = n at CA hn ⊢
  have HN : Hid (L.length = n) := hnn
  clear hnn
  go_enter Tryd.func10, Tryd.ntmps10
  go_wp2_with (first
    | (go_at_call 21; refine CA.out.mono ?_; rintro e w1 ⟨rfl, b⟩; have B1 : Hid (Below w.heap.size w w1) := b; clear b)
    | (at_make; refine make_L _ rfl _ _ 58 rfl Tryd.underlying58 n rfl rfl (by omega) ?_; intro w2 o2 b2; have O2 : Hid (OwnG KL w2 w1.heap.size (.slice (some ⟨w1.heap.size, 0, none⟩) n n) (List.replicate n x0L)) := o2; have B2 : Hid (Below w1.heap.size w1 w2) := b2; clear o2 b2)
    | (at_make; refine make_g KI KI_ok 0 rfl rfl _ rfl _ _ 59 rfl Tryd.underlying59 n rfl rfl (by omega) (by decide) ?_; intro w4 o4 b4; have O4 : Hid _ := o4; have B4 : Hid _ := b4; clear o4 b4))
  have S0 : Hid (S1 w w4 w1.heap.size w2.heap.size (w2.heap.size + 1) n T (List.replicate n x0L) 0) := by
    have b4 := B4.out
    have o4 := O4.out
    have ez : (w2.alloc (.cells #[.slice (some ⟨w1.heap.size, 0, none⟩) n n] 58)).heap.size = w2.heap.size + 1 := by simp
    rw [ez] at b4 o4
    have b3 : Below w2.heap.size w2 (w2.alloc (.cells #[.slice (some ⟨w1.heap.size, 0, none⟩) n n] 58)) := (Below.refl _ _).alloc (Nat.le_refl _) _
    have z2 := B2.out.size
    have z1 := B1.out.size
    refine ⟨(b4.block w2.heap.size (by omega)).trans (heap_alloc_new _ _), ((O2.out.below b3).below (by rw [ez]; exact b4)).low z1, List.length_replicate .., fun i _ _ hi => by omega, ?_, ?_⟩
    · have : OwnG KI w4 (w2.heap.size + 1) (.slice (some ⟨w2.heap.size + 1, 0, none⟩) n n) (List.replicate n 0) := o4
      rw [Nat.sub_zero]
      exact this.low (by omega)
    · exact ((B1.out.trans (B2.out.mono z1)).trans (b3.mono (by omega))).trans (b4.mono (by omega))
  clear O2 B2 O4 B4 CA B1
  generalize w2.heap.size + 1 = g at *
  generalize w2.heap.size = vb at *
  generalize w1.heap.size = ga at *
  go_loopw [25] (fun v25 wr => ∃ (k : Nat) (A : List Lx) (wk : World), v25 = .int .i64 k ∧ wk = wr ∧ k ≤ n ∧ Hid (S1 w wk ga vb g n T A k)) (fun v25 _ => n - (intOf v25).toNat)
  case atStart => exact ⟨0, _, _, rfl, rfl, Nat.zero_le _, S0⟩
  case round =>
    obtain ⟨k, A, wr, rfl, rfl, hk, HS⟩ := hrel
    clear S0
    by_cases hlt : k < n
    · have hkL : k < L.length := by rw [HN.out]; exact hlt
      have hkT : k < T.length := by rw [HLN.out]; exact hkL
      have vr := HV.out wr HS.out.bl
      obtain ⟨X, o, e1, x0⟩ := vr.gs.atV hkL
      obtain rfl : p = some ⟨X, o, none⟩ := e1
      have ea := HA.out k hkL hkT
      have ra := HR.out _ (List.getElem_mem hkT)
      have av := vr.av _ (List.getElem_mem hkL)
      have lt := HLT.out k hkL
      unfold Vx.v at av lt
      rw [ea] at av lt x0
      obtain ⟨t, htt⟩ : ∃ t, t = T[k] := ⟨_, rfl⟩
      have HTK : Hid (∀ h2 : k < T.length, T[k] = t) := fun _ => htt.symm
      rw [← htt] at av lt x0 ra
      obtain ⟨q, hq⟩ : ∃ q, q = L[k].q := ⟨_, rfl⟩
      obtain ⟨c, hc⟩ : ∃ c, c = L[k].c := ⟨_, rfl⟩
      rw [← hq, ← hc] at av lt x0
      have hfl : (flV t).length = szV t := rfl
      rw [hfl] at av lt x0
      have LY : Hid (∀ W, Below wr.heap.size wr W → Calls Tryd.prog 23 #[.slice q (szV t) c] W fun e w' => ∃ b, e = .returned (.agg #[.slice q (szV t) c, .slice (some ⟨b, 0, none⟩) (szV t) (szV t)]) ∧ OwnG KI w' W.heap.size (.slice (some ⟨b, 0, none⟩) (szV t) (szV t)) (opV t) ∧ Below W.heap.size W w') := fun W b => lay_any q c t W (GS.below av b) ra
      obtain ⟨n1, n2, n3, n4, n5, n6, n7, n8⟩ := HS.out.ne
      have szp : 0 < szV t := szV_pos t
      have NX : Hid (∀ W w5 b, Below wr.heap.size wr W → Below W.heap.size W w5 → OwnG KI w5 W.heap.size (.slice (some ⟨b, 0, none⟩) (szV t) (szV t)) (opV t) → S1 w (((w5.setCell ⟨ga, k * 2, none⟩ (.slice q (szV t) c)).setCell ⟨ga, k * 2 + 1, none⟩ (.slice (some ⟨b, 0, none⟩) (szV t) (szV t))).setCell ⟨g, k, none⟩ (.int .i64 (k : Int))) ga vb g n T (A.set k ⟨q, some ⟨b, 0, none⟩, szV t, c⟩) (k + 1) ∧ w5.cell? ⟨vb, 0, none⟩ = some (.slice (some ⟨ga, 0, none⟩) n n)) := fun W w5 b b1 b2 ob => by
        have bb := b1.trans (b2.mono b1.size)
        have s5 := HS.out.below bb
        have hbW : W.heap.size ≤ b := (ob.lt rfl).1
        have hz := b1.size
        refine ⟨s5.next hlt (x := ⟨q, some ⟨b, 0, none⟩, szV t, c⟩) (fun h2 => ?_), cell_of_row _ _ _ _ _ _ s5.va⟩
        rw [HTK.out h2]
        refine ⟨rfl, ⟨b, rfl, fun e => ?_⟩, GS.below av bb, ob.gs KI_ok.len, fun j hj e => ?_⟩
        · rcases e with e | e <;> omega
        · have := lt j hj szp
          rcases e with e | e <;> omega
      have xv : wr.cell? ⟨vb, 0, none⟩ = some (.slice (some ⟨ga, 0, none⟩) n n) := cell_of_row _ _ _ _ _ _ HS.out.va
      have FZ : Hid (∀ W w5, Below wr.heap.size wr W → Below W.heap.size W w5 → (∀ o, w5.frozen? ⟨ga, o, none⟩ = false) ∧ (∀ o, w5.frozen? ⟨g, o, none⟩ = false) ∧ (∃ u, w5.cell? ⟨ga, k * 2, none⟩ = some u) ∧ (∃ u, w5.cell? ⟨ga, k * 2 + 1, none⟩ = some u) ∧ ∃ u, w5.cell? ⟨g, k, none⟩ = some u) := fun W w5 b1 b2 => by
        have s5 := HS.out.below (b1.trans (b2.mono b1.size))
        obtain ⟨X', o', e', y1, y2⟩ := (s5.oa.gs KL_ok.len).atL (k := k) (by rw [s5.la]; exact hlt)
        injection e' with e'
        injection e' with a1 a2 _
        subst a1 a2
        rw [Nat.zero_add] at y1 y2
        exact ⟨own_frozen s5.oa, own_frozen s5.op, ⟨_, y1⟩, ⟨_, y2⟩, _, own_int s5.op (by simp [plcN_len]; omega) (by simp [plcN_len]; omega)⟩
      have k1 : (0 : Int) ≤ (k : Int) := by omega
      have k2 : (k : Int) < (n : Int) := by omega
      generalize szV t = sz at *
      clear HS vr av lt ra ea htt hq hc hfl HTK HR HVT HA HLT
      go_wp2_with fail
      go_region_held3 (fun w' => w'.cell? ⟨vb, 0, none⟩ = some (.slice (some ⟨ga, 0, none⟩) n n)) (go_keep) ((go_at_call 23; refine (LY.out _ (by first | exact (Below.refl _ _).drew | exact Below.refl _ _)).mono ?_; rintro e w5 ⟨b, rfl, ob, b5⟩; obtain ⟨p1, p2⟩ := NX.out _ w5 b (by first | exact (Below.refl _ _).drew | exact Below.refl _ _) b5 ob; obtain ⟨q1, q2, ⟨u1, q3⟩, ⟨u2, q4⟩, u3, q5⟩ := FZ.out _ w5 (by first | exact (Below.refl _ _).drew | exact Below.refl _ _) b5; have f1 := q1 (k * 2); have f2 := q1 (k * 2 + 1); have f3 := q2 k; have P1 : Hid _ := p1; clear p1 ob b5 q1 q2))
      go_wp2_with fail
      go_roundw
      case rel => exact ⟨k + 1, _, _, by go_num, rfl, hlt, P1⟩
      case measure => simp [intOf]; omega
    · obtain rfl : k = n := by omega
      obtain ⟨n1, n2, n3, n4, n5, n6, n7, n8⟩ := HS.out.ne
      have hTk : T.length = k := by rw [HLN.out, HN.out]
      have CM : CmpOk k wr g 25 #[.pointer (some ⟨vb, 0, none⟩)] (cP T) := by
        refine ⟨fun _ _ => rfl, fun wk s x y x1 x2 y1 y2 => ?_, fun x y => cmpV_bd _ _, cP_ord HR.out⟩
        obtain ⟨x, rfl⟩ : ∃ m : Nat, x = m := ⟨x.toNat, by omega⟩
        obtain ⟨y, rfl⟩ : ∃ m : Nat, y = m := ⟨y.toNat, by omega⟩
        have hx : x < k := by omega
        have hy : y < k := by omega
        have ho : OwnG KL wk w.heap.size (.slice (some ⟨ga, 0, none⟩) k k) A := HS.out.oa.far (fun b hb => by
          have e : b = ga := by simpa [Value.ownBlock] using hb.symm
          rw [e]; exact s.block ga n4 n3)
        have hv : wk.heap[vb]? = some (.cells #[.slice (some ⟨ga, 0, none⟩) k k] 58) := (s.block vb n6 (Ne.symm n2)).trans HS.out.va
        have := cmpP_any wk vb ga k (Fg ga g) A T x y (cell_of_row _ _ _ _ _ _ hv) (ho.gs KL_ok.len) HS.out.la hTk hx hy ((HS.out.lx x _ (by omega) hx).sm (Or.inr rfl) s) ((HS.out.lx y _ (by omega) hy).sm (Or.inr rfl) s) HR.out
        have e : cP T (x : Int) (y : Int) = cmpV (T[x]'(by omega)) (T[y]'(by omega)) := by
          unfold cP
          simp [List.getD, hTk, hx, hy]
        rw [e]
        exact this
      have hpl : plcN k ++ List.replicate (k - k) (0 : Int) = plcN k := by simp
      have D0 : SD k wr wr g k (plcN k) := by
        have ho := HS.out.op
        rw [hpl] at ho
        exact ⟨ho.low (Nat.zero_le _), plcN_len k, Sm.refl _ _, fun j hj => by rw [plcN_at hj]; omega⟩
      have SO : Hid (Calls Tryd.prog 24 #[.slice (some ⟨g, 0, none⟩) k k, .func (.func 25) #[] #[.pointer (some ⟨vb, 0, none⟩)]] wr fun e w' => e = .returned (.tuple #[]) ∧ ∃ E, SD k wr w' g k E ∧ Run (cP T) E 0 k ∧ Rel 0 k (plcN k) E) := sortStable_any k wr g k 25 #[.pointer (some ⟨vb, 0, none⟩)] (cP T) (plcN k) CM D0 (by omega)
      have SB : Hid (∀ w6, Sm g wr w6 → Below w.heap.size w w6) := fun w6 s => by
        have b := HS.out.bl
        exact ⟨s.os.trans b.os, s.tape.trans b.tape, s.output.trans b.output, Nat.le_trans b.size s.size, fun j hj => (s.block j (Nat.lt_of_lt_of_le hj b.size) (by omega)).trans (b.block j hj)⟩
      clear HS CM D0
      go_wp2_with (first
        | (go_at_call 24; refine SO.out.mono ?_; rintro e w6 ⟨rfl, E, d6, r6, l6⟩; have D6 : Hid (SD k wr w6 g k E) := d6; have R6 : Hid (Run (cP T) E 0 k ∧ Rel 0 k (plcN k) E) := ⟨r6, l6⟩; have B6 : Hid (Below w.heap.size w w6) := SB.out w6 d6.sm; clear d6 r6 l6)
        | (at_make; refine make_g KV KV_ok zVx rfl rfl _ rfl _ _ 24 rfl Tryd.underlying24 k rfl rfl (by omega) (by decide) ?_; intro w7 o7 b7; have O7 : Hid (OwnG KV w7 w6.heap.size (.slice (some ⟨w6.heap.size, 0, none⟩) k k) (List.replicate k zVx)) := o7; have B7 : Hid (Below w6.heap.size w6 w7) := b7; clear o7 b7))
      have I0 : Hid (S2 w w7 w6.heap.size k ((outS T E).map flV) [] 0 ∧ OwnG KI w7 0 (.slice (some ⟨g, 0, none⟩) k k) E ∧ Below w.heap.size w w7) := ⟨⟨O7.out.low B6.out.size, rfl, rfl, fun x hx => by cases hx⟩, D6.out.ow.below B7.out, B6.out.trans (B7.out.mono B6.out.size)⟩
      have PM : Hid ((outS T E).Perm T ∧ Srt (outS T E) ∧ E.length = k ∧ ∀ j, j < k → 0 ≤ gD E j ∧ gD E j < (k : Int)) := by
        have hl := R6.out.2.len
        rw [plcN_len] at hl
        refine ⟨outS_perm (by rw [hTk]; exact R6.out.2.pm), outS_srt (by rw [hl]; exact R6.out.1), hl, D6.out.rg⟩
      clear SO SB D6 R6 B6 O7 B7 hpl hTk
      generalize w6.heap.size = gs at *
      go_loopw [48] (fun v48 wr => ∃ (j : Nat) (R : List Vx) (wk : World), v48 = .int .i64 j ∧ wk = wr ∧ j ≤ k ∧ Hid (S2 w wk gs k ((outS T E).map flV) R j ∧ OwnG KI wk 0 (.slice (some ⟨g, 0, none⟩) k k) E ∧ Below w.heap.size w wk)) (fun v48 _ => k - (intOf v48).toNat)
      case atStart => exact ⟨0, [], _, rfl, rfl, Nat.zero_le _, I0⟩
      case round =>
        obtain ⟨j, R, wq, rfl, rfl, hj, HS⟩ := hrel
        clear I0
        by_cases hjk : j < k
        · obtain ⟨s1, s2, s3⟩ := HS.out
          obtain ⟨pm1, pm2, pm3, pm4⟩ := PM.out
          have hrg := pm4 j hjk
          obtain ⟨pn, hpn⟩ : ∃ pn : Nat, gD E j = (pn : Int) := ⟨(gD E j).toNat, by omega⟩
          have hpk : pn < k := by omega
          have hpL : pn < L.length := by rw [HN.out]; exact hpk
          have hpT : pn < T.length := by rw [HLN.out]; exact hpL
          have x1 : wq.cell? ⟨g, j, none⟩ = some (.int .i64 (pn : Int)) := by rw [← hpn]; exact own_int s2 pm3.symm (by omega)
          have vr := HV.out wq s3
          obtain ⟨X, o, e1, x0⟩ := vr.gs.atV hpL
          obtain rfl : p = some ⟨X, o, none⟩ := e1
          have av := vr.av _ (List.getElem_mem hpL)
          have ea := HA.out pn hpL hpT
          have hla : L[pn].a.length ≤ 1024 := by rw [ea]; exact (HR.out _ (List.getElem_mem hpT)).sz
          have hEj : j < E.length := by omega
          have hAj : ∀ h9 : j < ((outS T E).map flV).length, L[pn].a = ((outS T E).map flV)[j] := fun h9 => by
            have e9 : E[j] = (pn : Int) := by rw [← gD_get hEj]; exact hpn
            simp [outS, e9, ea, List.getD, hpT]
          have h9 : j < ((outS T E).map flV).length := by simp [outS]; exact hEj
          obtain ⟨la, hla'⟩ : ∃ la, la = L[pn].a := ⟨_, rfl⟩
          obtain ⟨q, hq⟩ : ∃ q, q = L[pn].q := ⟨_, rfl⟩
          obtain ⟨c, hc⟩ : ∃ c, c = L[pn].c := ⟨_, rfl⟩
          unfold Vx.v at av
          rw [← hla', ← hq, ← hc] at av x0
          rw [← hla'] at hla hAj
          have CN : Hid (Calls Tryd.prog 20 #[.slice q la.length c] wq fun e w' => ∃ p' c', e = .returned (.slice p' la.length c') ∧ OwnG KA w' wq.heap.size (.slice p' la.length c') la ∧ Below wq.heap.size wq w') := cloneA_any wq _ la av (by omega)
          have hgs := s1.ow.lt (g := gs) rfl
          have NX : Hid (∀ w8 p' c', OwnG KA w8 wq.heap.size (.slice p' la.length c') la → Below wq.heap.size wq w8 → (S2 w (w8.setCell ⟨gs, j, none⟩ (.slice p' la.length c')) gs k ((outS T E).map flV) (R ++ [⟨la, p', c'⟩]) (j + 1) ∧ OwnG KI (w8.setCell ⟨gs, j, none⟩ (.slice p' la.length c')) 0 (.slice (some ⟨g, 0, none⟩) k k) E ∧ Below w.heap.size w (w8.setCell ⟨gs, j, none⟩ (.slice p' la.length c'))) ∧ (∃ u, w8.cell? ⟨gs, j, none⟩ = some u) ∧ w8.frozen? ⟨gs, j, none⟩ = false) := fun w8 p' c' ho b8 => by
            have t1 := s1.below b8
            have t2 := s2.below b8
            have hz := s3.size
            refine ⟨⟨t1.next hjk h9 (hAj h9) (ho.low hz), t2.far (fun b hb => Below.heap_setCell _ _ _ _ (fun e => ?_)), (s3.trans (b8.mono hz)).setCell hgs.1 _⟩, ?_, own_frozen t1.ow j⟩
            · exact t2.apart t1.ow (by decide) (g := gs) rfl (by rw [hb, e])
            · obtain ⟨X', o', e', y1⟩ := (t1.ow.gs KV_ok.len).atV (k := j) (by simp [t1.ln]; omega)
              injection e' with e'
              injection e' with a1 a2 _
              subst a1 a2
              rw [Nat.zero_add] at y1
              exact ⟨_, y1⟩
          have k1 : (0 : Int) ≤ (pn : Int) := by omega
          have k2 : (pn : Int) < (k : Int) := by omega
          generalize hgl : la.length = ll at *
          clear HS s1 s2 s3 pm1 pm2 pm3 pm4 vr av ea hAj hpn hrg hla' hq hc hgl
          go_wp2_with (go_at_call 20; refine CN.out.mono ?_; rintro e w8 ⟨p', c', rfl, ho, b8⟩; obtain ⟨n1', ⟨u1, n2'⟩, n3'⟩ := NX.out w8 p' c' ho b8; have N1 : Hid _ := n1'; clear n1' ho b8)
          go_roundw
          case rel => exact ⟨j + 1, _, _, by go_num, rfl, hjk, N1⟩
          case measure => simp [intOf]; omega
        · obtain rfl : j = k := by omega
          have FIN : Hid (AnsS w wq (.returned (.tuple #[.slice (some ⟨gs, 0, none⟩) j j, .int .i64 0])) ((outS T E).map flV) 0) := by
            obtain ⟨s1, s2, s3⟩ := HS.out
            obtain ⟨pm1, pm2, pm3, pm4⟩ := PM.out
            have hl9 : ((outS T E).map flV).length = j := by simp [outS]; exact pm3
            have ow := s1.ow
            rw [Nat.sub_self, List.replicate_zero, List.append_nil] at ow
            have eq := s1.eq
            rw [List.take_of_length_le (by omega)] at eq
            have hin : ∀ x ∈ R, ∃ t ∈ T, x.a = flV t := fun x hx => by
              have : x.a ∈ aL R := List.mem_map.2 ⟨x, hx, rfl⟩
              rw [eq] at this
              obtain ⟨t, ht, e⟩ := List.mem_map.1 this
              exact ⟨t, pm1.subset ht, e.symm⟩
            refine ⟨some ⟨gs, 0, none⟩, j, R, by rw [hl9], by rw [hl9]; exact ow, fun x hx => (s1.ea x hx).gs KA_ok.len, eq, ⟨by rw [s1.ln]; omega, fun x hx => ?_, fun x hx => ?_⟩, fun x hx => SPV.own (s1.ea x hx), s3⟩
            · obtain ⟨t, ht, e⟩ := hin x hx
              rw [e]
              have := (HR.out t ht).sz
              have e2 : (flV t).length = szV t := rfl
              omega
            · obtain ⟨t, ht, e⟩ := hin x hx
              rw [e]; exact HVT.out t ht
          clear HS
          go_wp2_with fail
          exact bodyPost_ret (v := .tuple #[.slice (some ⟨gs, 0, none⟩) j j, .int .i64 0]) (by simp [results, Tryd.results10, go_sem]) rfl ⟨outS T E, PM.out.1, PM.out.2.1, FIN.out⟩
end Go.Proofs.YtahcllncjpaijabDoor
