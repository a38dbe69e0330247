/- Values: laid out. -/
import Derived.Test.YtahcllncjpaijaaVe1
namespace Go.Proofs.Ytahcllncjpaijaa
open Go.RowKit

theorem opVL_st (S : List Vt) (a : Atm) : opVL (stV S a) = opVL (S.take (cutV S a)) ++ (if a.kind = 3 then bump (opVL (S.drop (cutV S a)) ++ [0]) else opVL (S.drop (cutV S a)) ++ [0]) := by
  unfold stV
  rw [opVL_app, opVL, opVL, opV, List.append_nil]
theorem opVL_split (S : List Vt) (m : Nat) : opVL S = opVL (S.take m) ++ opVL (S.drop m) := by rw [← opVL_app, List.take_append_drop]
theorem bump_set (A : List Int) (j : Nat) (h : 0 < A.length) : (A ++ List.replicate j 0).set 0 ((A ++ List.replicate j (0 : Int)).getD 0 0 + 1) = bump A ++ List.replicate j 0 := by
  match A, h with
  | a :: r, _ => simp [bump]
/-- One atom more is laid out. -/
theorem lay_step (S : List Vt) (a : Atm) (j : Nat) :
    (a.kind = 3 → (opVL S ++ List.replicate (j + 1) 0).set (szVL (S.take (cutV S a))) ((opVL S ++ List.replicate (j + 1) (0 : Int)).getD (szVL (S.take (cutV S a))) 0 + 1) = opVL (stV S a) ++ List.replicate j 0)
    ∧ (a.kind ≠ 3 → opVL S ++ List.replicate (j + 1) 0 = opVL (stV S a) ++ List.replicate j 0) := by
  rw [opVL_st, opVL_split S (cutV S a)]
  have hl : (opVL (S.take (cutV S a))).length = szVL (S.take (cutV S a)) := opVL_len _
  generalize opVL (S.take (cutV S a)) = A at *
  generalize opVL (S.drop (cutV S a)) = B at *
  have er : List.replicate (j + 1) (0 : Int) = [0] ++ List.replicate j 0 := by rw [List.replicate_succ]; rfl
  refine ⟨fun hk => ?_, fun hk => ?_⟩
  · rw [if_pos hk, er, ← hl, List.append_assoc, List.set_append_right _ _ (Nat.le_refl _), Nat.sub_self]
    have e2 : (A ++ (B ++ ([0] ++ List.replicate j (0 : Int)))).getD A.length 0 = ((B ++ [0]) ++ List.replicate j 0).getD 0 0 := by
      rw [List.getD, List.getElem?_append_right (Nat.le_refl _), Nat.sub_self]
      simp [List.getD]
    rw [e2, ← List.append_assoc B, bump_set _ _ (by simp), List.append_assoc]
  · rw [if_neg hk, er]
    simp
theorem frV_at {l : List Atm} {k : Nat} {S : List Vt} {F : List Int} (h : FI l k S F) (hk : k < l.length) : (frV [] l).getD k 0 = ((szVL (S.take (cutV S l[k])) : Nat) : Int) := by
  rw [h.fr, drop_at hk, frV]
  have := h.fl
  simp [List.getD, this]
theorem bump_mem {A : List Int} {B : Int} (h : ∀ x ∈ A, 0 ≤ x ∧ x ≤ B) : ∀ x ∈ bump A, 0 ≤ x ∧ x ≤ B + 1 := by
  match A, h with
  | [], _ => intro x hx; cases hx
  | a :: r, h =>
    intro x hx
    rw [bump] at hx
    rcases List.mem_cons.1 hx with e | e
    · subst e; have := h a (List.mem_cons_self ..); omega
    · have := h x (List.mem_cons_of_mem _ e); omega
mutual
theorem opV_bd : ∀ (t : Vt), ∀ x ∈ opV t, 0 ≤ x ∧ x ≤ (dpV t : Nat)
  | .nd k i tx ps => by
    have h := opVL_bd ps
    have h2 : ∀ x ∈ opVL ps ++ [(0 : Int)], 0 ≤ x ∧ x ≤ ((dpVL ps : Nat) : Int) := fun x hx => by
      rcases List.mem_append.1 hx with e | e
      · exact h x e
      · rw [List.mem_singleton] at e; subst e; omega
    rw [opV, dpV]
    split
    · intro x hx; have := bump_mem h2 x hx; omega
    · intro x hx; have := h2 x hx; omega
theorem opVL_bd : ∀ (l : List Vt), ∀ x ∈ opVL l, 0 ≤ x ∧ x ≤ (dpVL l : Nat)
  | [] => by intro x hx; cases hx
  | t :: r => by
    intro x hx
    rw [opVL] at hx
    rw [dpVL]
    rcases List.mem_append.1 hx with e | e
    · have := opV_bd t x e; omega
    · have := opVL_bd r x e; omega
end
theorem row_bd {S : List Vt} {k j b : Nat} (h : szVL S = k) : 0 ≤ (opVL S ++ List.replicate j (0 : Int)).getD b 0 ∧ (opVL S ++ List.replicate j (0 : Int)).getD b 0 ≤ k := by
  have hd := dpVL_sz S
  by_cases hb : b < (opVL S ++ List.replicate j (0 : Int)).length
  · have hm : (opVL S ++ List.replicate j (0 : Int)).getD b 0 ∈ opVL S ++ List.replicate j (0 : Int) := by
      rw [List.getD, List.getElem?_eq_getElem hb]; exact List.getElem_mem hb
    rcases List.mem_append.1 hm with e | e
    · have := opVL_bd S _ e; omega
    · have := (List.mem_replicate.1 e).2; omega
  · rw [List.getD, List.getElem?_eq_none (by omega)]; simp
/-- Where lay stands. -/
structure LY (w wk : World) (l : List Atm) (g gf b2 b3 : Nat) (v : Value) (R : List Int) : Prop where
  o : OwnG KI wk w.heap.size (.slice (some ⟨g, 0, none⟩) l.length l.length) R
  f : OwnG KI wk w.heap.size (.slice (some ⟨gf, 0, none⟩) l.length l.length) (frV [] l)
  x2 : wk.heap[b2]? = some (.cells #[.slice none 0 0, .slice none 0 0] 58)
  x3 : wk.heap[b3]? = some (.cells #[v, .slice (some ⟨g, 0, none⟩) l.length l.length] 58)
  n1 : g ≠ gf
  n2 : g ≠ b2
  n3 : g ≠ b3
  bl : Below w.heap.size w wk
theorem LY.set {w wk : World} {l : List Atm} {g gf b2 b3 : Nat} {v : Value} {R : List Int} (h : LY w wk l g gf b2 b3 v R) (k : Nat) (x : Int) : LY w (wk.setCell ⟨g, k, none⟩ (.int .i64 x)) l g gf b2 b3 v (R.set k x) := by
  have hlt := h.o.lt (g := g) rfl
  refine ⟨h.o.set1 rfl KI_ok.len x _ rfl, h.f.far (fun y hy => Below.heap_setCell _ _ _ _ (fun e => ?_)), (Below.heap_setCell _ _ _ _ (fun e => h.n2 e.symm)).trans h.x2, (Below.heap_setCell _ _ _ _ (fun e => h.n3 e.symm)).trans h.x3, h.n1, h.n2, h.n3, h.bl.setCell hlt.1 _⟩
  have h1 : y = gf := by simpa [Value.ownBlock] using hy.symm
  exact h.n1 (by rw [← h1]; exact e.symm)
theorem box2_cell {w : World} {b : Nat} {u v : Value} {t : TypeId} (h : w.heap[b]? = some (.cells #[u, v] t)) : w.cell? ⟨b, 0, none⟩ = some u ∧ w.cell? ⟨b, 1, none⟩ = some v ∧ (∀ o, w.frozen? ⟨b, o, none⟩ = false) :=
  ⟨(cell_of_row _ _ _ _ _ _ h).trans rfl, (cell_of_row _ _ _ _ _ _ h).trans rfl, fun o => by simp [World.frozen?, h]⟩
set_option maxHeartbeats 16000000 in
set_option maxRecDepth 100000 in
theorem lay_any (p : Option Addr) (cap : Nat) (t : Vt) (w : World) (h : AS w (.slice p (szV t) cap) (flV t)) (hr : RT t) :
    Calls Try.prog 38 #[.slice p (szV t) cap] w fun e w' => ∃ g, e = .returned (.agg #[.slice p (szV t) cap, .slice (some ⟨g, 0, none⟩) (szV t) (szV t)]) ∧ OwnG KI w' w.heap.size (.slice (some ⟨g, 0, none⟩) (szV t) (szV t)) (opV t) ∧ Below w.heap.size w w' := by
  have hsz := hr.sz
  have hfl : (flV t).length = szV t := rfl
  have hd : depV (flV t) ≠ 0 := by rw [depV_flat hr.wf]; have := dpV_pos t; omega
  have FO : Hid (∀ k S F (hk : k < (flV t).length), FI (flV t) k S F → okV S (flV t)[k] = true ∧ FI (flV t) (k + 1) (stV S (flV t)[k]) (F ++ [((szVL (S.take (cutV S (flV t)[k])) : Nat) : Int)])) := fun k S F hk hf => ⟨hf.ok hd hk, hf.next hk (hf.ok hd hk)⟩
  have FE : Hid (∀ S F, FI (flV t) (flV t).length S F → opVL S = opV t) := fun S F hf => by
    have := hf.di.eq
    rw [bV_flat hr.wf, List.drop_length, bV] at this
    injection this with this
    rw [← this, opVL, opVL, List.append_nil]
  have FAT : Hid (∀ k S F (hk : k < (flV t).length), FI (flV t) k S F → (frV [] (flV t)).getD k 0 = ((szVL (S.take (cutV S (flV t)[k])) : Nat) : Int)) := fun k S F hk hf => frV_at hf hk
  have F0 : Hid (FI (flV t) 0 [] []) := FI.start _
  have BG : Hid (∀ w1, Below w.heap.size w w1 → _) := fun w1 b => beginsOf_any (.slice p (szV t) cap) (flV t) w1 (h.below b) hd (by omega)
  have HS : Hid (AS w (.slice p (szV t) cap) (flV t)) := h
  have FRL : Hid ((frV [] (flV t)).length = szV t) := frV_len hd
  obtain ⟨l, hl⟩ : ∃ l, l = flV t := ⟨_, rfl⟩
  have hll : szV t = l.length := by rw [hl]; rfl
  rw [← hl] at FO FE FAT F0 BG HS FRL
  rw [hll] at BG HS hsz FRL ⊢
  generalize opV t = ot at *
  clear h hr hd hfl hl hll
  go_enter Try.func38, Try.ntmps38
  go_wp2_with (at_make; refine make_g KI KI_ok 0 rfl rfl _ rfl _ _ 50 rfl Try.underlying50 l.length rfl rfl (by omega) (by decide) ?_; intro w5 ho5 hb5)
  have H5 : Hid (OwnG KI w5 w.heap.size (.slice (some ⟨w.heap.size + 1, 0, none⟩) l.length l.length) (List.replicate l.length 0) ∧ w5.heap[w.heap.size]? = some (.cells #[.slice none 0 0, .slice none 0 0] 58) ∧ Below w.heap.size w w5 ∧ w.heap.size + 1 < w5.heap.size) := by
    have hs1 : (w.alloc (.cells #[.slice none 0 0, .slice none 0 0] 58)).heap.size = w.heap.size + 1 := by simp
    have b0 : Below w.heap.size w (w.alloc (.cells #[.slice none 0 0, .slice none 0 0] 58)) := (Below.refl _ _).alloc (Nat.le_refl _) _
    rw [hs1] at ho5 hb5
    have h2 := (ho5.lt (g := w.heap.size + 1) rfl).2
    exact ⟨ho5.low (by omega), (hb5.block w.heap.size (by omega)).trans (heap_alloc_new w _), b0.trans (hb5.mono (by omega)), h2⟩
  clear ho5 hb5
  have B6 : Hid (∀ ob, Below w.heap.size w (w5.alloc ob)) := fun ob => H5.out.2.2.1.alloc H5.out.2.2.1.size _
  refine Calls.mono (BG.out _ (B6.out _)) ?_
  rintro e w7 ⟨gf, rfl, hof, hb7⟩
  have H7 : Hid (LY w w7 l (w.heap.size + 1) gf w.heap.size w5.heap.size (.slice p l.length cap) (opVL [] ++ List.replicate (l.length - 0) 0)) := by
    have hgf := (hof.lt (g := gf) rfl).1
    have b5 : Below w5.heap.size w5 (w5.alloc (.cells #[.slice p l.length cap, .slice (some ⟨w.heap.size + 1, 0, none⟩) l.length l.length] 58)) := (Below.refl _ _).alloc (Nat.le_refl _) _
    have hs : (w5.alloc (.cells #[.slice p l.length cap, .slice (some ⟨w.heap.size + 1, 0, none⟩) l.length l.length] 58)).heap.size = w5.heap.size + 1 := by simp
    have h5 := H5.out
    have b57 : Below w5.heap.size w5 w7 := b5.trans (hb7.mono (by rw [hs]; omega))
    refine ⟨h5.1.below b57, hof.low (by rw [hs]; omega), (b57.block _ (by omega)).trans h5.2.1, (hb7.block _ (by rw [hs]; omega)).trans (heap_alloc_new w5 _), by rw [hs] at hgf; omega, by omega, by omega, h5.2.2.1.trans (b57.mono h5.2.2.1.size)⟩
  generalize hg1 : w.heap.size + 1 = g at *
  generalize hg2 : w5.heap.size = b3 at *
  have hwb : Hid (w.heap.size ≤ w.heap.size) := Nat.le_refl _
  obtain ⟨b2, hb2⟩ : ∃ b2, b2 = w.heap.size := ⟨_, rfl⟩
  rw [← hb2] at H7
  have HB2 : Hid (b2 = w.heap.size) := hb2
  clear hof hb7 H5 B6 BG hg1 hg2 hwb
  rw [← hb2]
  clear hb2
  go_wp2_with fail
  go_loopw [14] (fun v14 wr => ∃ (k : Nat) (S : List Vt) (F : List Int) (wk : World), v14 = .int .i64 k ∧ wk = wr ∧ k ≤ l.length ∧ Hid (FI l k S F) ∧ Hid (LY w wk l g gf b2 b3 (.slice p l.length cap) (opVL S ++ List.replicate (l.length - k) 0))) (fun v14 _ => l.length - (intOf v14).toNat)
  case atStart => exact ⟨0, [], [], _, rfl, rfl, Nat.zero_le _, F0, H7⟩
  case round =>
    obtain ⟨k, S, F, wr, rfl, rfl, hk, HF, HL⟩ := hrel
    clear F0 H7
    by_cases hlt : k < l.length
    · obtain ⟨X, o, e1, x0, x1, x2, x3⟩ := (HS.out.below HL.out.bl).atA hlt
      obtain rfl : p = some ⟨X, o, none⟩ := e1
      obtain ⟨okt, FIx⟩ := FO.out k S F hlt HF.out
      have hfat := FAT.out k S F hlt HF.out
      have cf : wr.cell? ⟨gf, k, none⟩ = some (.int .i64 ((frV [] l).getD k 0)) := own_int HL.out.f FRL.out.symm (j := k) (by rw [FRL.out]; exact hlt)
      have ST := lay_step S l[k] (l.length - (k + 1))
      have hsub : l.length - (k + 1) + 1 = l.length - k := by omega
      rw [hsub] at ST
      obtain ⟨c30, c31, _⟩ := box2_cell HL.out.x3
      have hsz1 := HF.out.sz
      have hop : (opVL S).length = k := by rw [opVL_len, hsz1]
      have hbk : szVL (S.take (cutV S l[k])) ≤ k := by have := szVL_take_le S (cutV S l[k]); omega
      rw [hfat] at cf
      generalize l[k] = a at *
      have FX : Hid (FI l (k + 1) (stV S a) (F ++ [((szVL (S.take (cutV S a)) : Nat) : Int)])) := FIx
      generalize szVL (S.take (cutV S a)) = b at *
      have hbl : b < l.length := by omega
      have cg : wr.cell? ⟨g, b, none⟩ = some (.int .i64 ((opVL S ++ List.replicate (l.length - k) 0).getD b 0)) := own_int HL.out.o (by simp [hop]; omega) (j := b) (by simp [hop]; omega)
      have fg := own_frozen HL.out.o b
      have OB : Hid (0 ≤ (opVL S ++ List.replicate (l.length - k) (0 : Int)).getD b 0 ∧ (opVL S ++ List.replicate (l.length - k) (0 : Int)).getD b 0 ≤ 1000000) := by have := row_bd (j := l.length - k) (b := b) hsz1; exact ⟨this.1, by omega⟩
      obtain ⟨ak, hak⟩ : ∃ x, x = a.kind := ⟨_, rfl⟩
      rw [← hak] at x0 ST
      by_cases hk3 : ak = 3
      · subst hk3
        have HN : Hid (LY w (wr.setCell ⟨g, b, none⟩ (.int .i64 ((opVL S ++ List.replicate (l.length - k) (0 : Int)).getD b 0 + 1))) l g gf b2 b3 (.slice (some ⟨X, o, none⟩) l.length cap) (opVL (stV S a) ++ List.replicate (l.length - (k + 1)) 0)) := by
          have := HL.out.set b ((opVL S ++ List.replicate (l.length - k) (0 : Int)).getD b 0 + 1)
          rw [ST.1 rfl] at this; exact this
        generalize (opVL S ++ List.replicate (l.length - k) (0 : Int)).getD b 0 = y at *
        obtain ⟨y1, y2⟩ := OB.out
        clear ST HL HF FO FAT FE FIx hak okt hfat hop hsz1 x1 x2 x3
        go_wp2_with fail
        go_roundw
        case rel => exact ⟨k + 1, _, _, _, by go_num, rfl, by omega, FX, HN⟩
        case measure => simp [intOf]; omega
      · have HN : Hid (LY w wr l g gf b2 b3 (.slice (some ⟨X, o, none⟩) l.length cap) (opVL (stV S a) ++ List.replicate (l.length - (k + 1)) 0)) := by
          have := HL.out
          rw [ST.2 hk3] at this; exact this
        have hk4 : (ak == 3) = false := by simp [hk3]
        clear ST HL HF FO FAT FE FIx hak okt hfat hop hsz1 x1 x2 x3 cg fg OB
        go_wp2_with fail
        go_roundw
        case rel => exact ⟨k + 1, _, _, _, by go_num, rfl, by omega, FX, HN⟩
        case measure => simp [intOf]; omega
    · obtain rfl : k = l.length := by omega
      have HE := FE.out S F HF.out
      obtain ⟨c30, c31, _⟩ := box2_cell HL.out.x3
      obtain ⟨c20, c21, f2⟩ := box2_cell HL.out.x2
      have f20 := f2 0
      have f21 := f2 1
      have OO : Hid (OwnG KI wr w.heap.size (.slice (some ⟨g, 0, none⟩) l.length l.length) ot) := by
        have := HL.out.o
        rw [Nat.sub_self, List.replicate_zero, List.append_nil, HE] at this; exact this
      have B9 : Hid (Below w.heap.size w wr) := HL.out.bl
      have N2 : Hid (g ≠ b2) := HL.out.n2
      clear HL HF FO FAT FE HE f2
      go_wp2_with fail
      refine bodyPost_ret (v := .agg #[.slice p l.length cap, .slice (some ⟨g, 0, none⟩) l.length l.length]) (by simp [results, Try.results38, go_sem, *]) rfl ⟨g, rfl, ?_, ?_⟩
      · exact OO.out.far (fun y hy => by
          have h1 : y = g := by simpa [Value.ownBlock] using hy.symm
          exact (Below.heap_setCell _ _ _ _ (fun e => N2.out (by rw [← h1]; exact e))).trans (Below.heap_setCell _ _ _ _ (fun e => N2.out (by rw [← h1]; exact e))))
      · exact (B9.out.setCell (by rw [HB2.out]; exact Nat.le_refl _) _).setCell (by rw [HB2.out]; exact Nat.le_refl _) _
end Go.Proofs.Ytahcllncjpaijaa
