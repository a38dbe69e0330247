/- Graph, plain: the circle that is answered. -/
import Derived.Test.YtkmokoiilmdfbaaYj2
import Derived.Test.YtkmokoiilmdfbaaYd2
namespace Go.Proofs.Ytkmokoiilmdfbaa
open Go.RowKit

structure FS (w : World) (N X g off cap : Nat) (F : Nat → Int) (T : List Nat) (W : World) : Prop where
  bl : Below w.heap.size w W
  lf : LFR W w.heap.size X N F
  qr : QR W w.heap.size g off cap T
  ne : g ≠ X
theorem FS.set {w : World} {N X g off cap : Nat} {F : Nat → Int} {T : List Nat} {W : World} (h : FS w N X g off cap F T W) (i : Nat) (y : Int) : FS w N X g off cap (upF F i y) T (W.setCell ⟨X, i, none⟩ (.int .i64 y)) :=
  ⟨h.bl.setCell (p := ⟨X, _, none⟩) h.lf.lt.1 _, h.lf.set i y, h.qr.far (set_far h.ne), h.ne⟩
theorem FS.app {w : World} {N X g off cap : Nat} {F : Nat → Int} {T : List Nat} {W : World} (h : FS w N X g off cap F T W) {g' off' cap' : Nat} {w' : World} {T' : List Nat} (hT : QR w' w.heap.size g' off' cap' T') (hb : Below w.heap.size W w') (hk : ∀ k, k < W.heap.size → k ≠ g → w'.heap[k]? = W.heap[k]?) (hg : g' = g ∨ W.heap.size ≤ g') : FS w N X g' off' cap' F T' w' := by
  have hX := h.lf.lt.2
  refine ⟨h.bl.trans hb, h.lf.far (hk X hX (fun e => h.ne e.symm)), hT, ?_⟩
  rcases hg with e | e
  · rw [e]; exact h.ne
  · omega
theorem FS.pop {w : World} {N X g off cap x : Nat} {F : Nat → Int} {T : List Nat} {W : World} (h : FS w N X g off (cap + 1) F (x :: T) W) : FS w N X g (off + 1) cap F T W := ⟨h.bl, h.lf, h.qr.pop, h.ne⟩
theorem FS.pop1 {w : World} {N X g off x : Nat} {F : Nat → Int} {T : List Nat} {W : World} (h : FS w N X g off 1 F (x :: T) W) : T = [] ∧ FS w N X g off 0 F [] W := ⟨h.qr.pop1.1, h.bl, h.lf, h.qr.pop1.2, h.ne⟩
def ufW (W : World) (X : Nat) : Nat → Nat
  | 0 => 0
  | n + 1 => ufW W X n + match W.cell? ⟨X, n, none⟩ with
    | some (.int .i64 x) => if x < 0 then 1 else 0
    | _ => 0
theorem FS.un {w : World} {N X g off cap : Nat} {F : Nat → Int} {T : List Nat} {W : World} (h : FS w N X g off cap F T W) : ∀ M, M ≤ N → ufW W X M = unF F M := by
  intro M
  induction M with
  | zero => intro _; rfl
  | succ m ih =>
    intro hM
    unfold ufW unF
    rw [ih (by omega), (h.lf.at (i := m) (by omega)).1]
theorem LFR.none {w : World} {base X N : Nat} (h : OwnG KI w base (.slice (some ⟨X, 0, none⟩) N N) (List.replicate N (-1))) : LFR w base X N (fun _ => -1) := by
  unfold LFR
  have : (List.range N).map (fun _ => (-1 : Int)) = List.replicate N (-1) := by simp [List.map_const']
  rw [this]
  exact h
def FARQ (w : World) (N : Nat) (E : List (Nat × Nat)) (A : Nat → List Nat) (n : Nat) (e : Ending) (w' : World) : Prop := ∃ (X : Nat) (F : Nat → Int) (k : Nat), e = .returned (.slice (some ⟨X, 0, none⟩) N N) ∧ FK N E A n k F [] ∧ LFR w' w.heap.size X N F ∧ Below w.heap.size w w'
set_option maxHeartbeats 16000000 in
set_option maxRecDepth 100000 in
theorem far_any (w : World) (N : Nat) (E E' : List (Nat × Nat)) (hg : GOK N E') (hA : ∀ x y, y ∈ nx N E' x ↔ (y, x) ∈ E) (bb lb : Nat) (vs : List Sl) (hz : LZ w bb lb N vs (fun i => nI (nx N E' i))) (n : Nat) (hn : n < N) : Calls Try.prog 54 #[.slice (some ⟨lb, 0, none⟩) N N, .int .i64 n] w fun e w' => FARQ w N E (nx N E') n e w' := by
  have NB : N ≤ 4096 := hg.n
  have HA := hid hA
  have HN : Hid (∀ x, ∀ y ∈ nx N E' x, y < N) := fun x y hy => (hg.lt _ ((nx_mem hg).1 hy)).2
  have ZC := hid (fun wr (hb : Below w.heap.size w wr) i (hi : i < N) => LZ.cell (A := nx N E') (hz.below hb) hi)
  have AL := hid (fun i => nx_len N E' i)
  have ST := hid (FK.start E (nx N E') hn)
  clear hz hg hA
  generalize nx N E' = A at *
  have b1 := bal w (.cells #[.int .i64 (-1)] 3)
  have c1 : (w.alloc (.cells #[.int .i64 (-1)] 3)).cell? ⟨w.heap.size, 0, none⟩ = some (.int .i64 (-1)) := cell_of_row _ _ _ _ _ _ (heap_alloc_new _ _)
  have z1 : w.heap.size < (w.alloc (.cells #[.int .i64 (-1)] 3)).heap.size := by simp
  generalize hW1 : w.alloc (.cells #[.int .i64 (-1)] 3) = w1 at *
  have RP := hid (repeat_any w1 w.heap.size 0 1 (-1) N (by omega) c1 z1)
  have B1 := hid b1
  have RQ : Hid (∀ w2 X, OwnG KI w2 w1.heap.size (.slice (some ⟨X, 0, none⟩) N N) (List.replicate N (-1)) → Below w1.heap.size w1 w2 → LFR w2 w.heap.size X N (fun _ => -1) ∧ Below w.heap.size w w2) := fun w2 X h1 h2 => ⟨LFR.none (h1.low B1.out.size), bl3 B1.out h2⟩
  clear b1 c1 z1
  have hni : (n : Int) < (N : Nat) := by omega
  go_enter Try.func54, Try.ntmps54
  go_upto_region 2 with (go_at_call 62; refine RP.out.mono ?_; rintro e w2 ⟨X, rfl, ho2, hb2⟩; have S2 := hid (RQ.out w2 X ho2 hb2); clear ho2 hb2)
  clear hW1 RP RQ B1
  obtain ⟨f1, f2⟩ := S2.out.1.at hn
  have S3 : Hid (LFR (w2.setCell ⟨X, n, none⟩ (.int .i64 0)) w.heap.size X N (upF (fun _ => -1) n 0) ∧ Below w.heap.size w (w2.setCell ⟨X, n, none⟩ (.int .i64 0))) := ⟨S2.out.1.set n 0, S2.out.2.setCell (p := ⟨X, _, none⟩) S2.out.1.lt.1 _⟩
  generalize hw3 : w2.setCell ⟨X, n, none⟩ (.int .i64 0) = w3 at S3
  have S4 : Hid (FS w N X w3.heap.size 0 1 (upF (fun _ => -1) n 0) [n] (w3.alloc (.cells #[.int .i64 (n : Nat)] 3))) := ⟨S3.out.2.alloc S3.out.2.size _, S3.out.1.far (Below.heap_alloc _ _ _ S3.out.1.lt.2), QR.new w3 _ n S3.out.2.size, by have := S3.out.1.lt.2; omega⟩
  generalize hW4 : w3.alloc (.cells #[.int .i64 (n : Nat)] 3) = w4 at S4
  go_wp2_with fail
  try rw [hW4]
  clear hW4
  obtain ⟨g, hg⟩ : ∃ g, g = w3.heap.size := ⟨_, rfl⟩
  rw [← hg] at S4 ⊢
  clear hg hw3 S3 S2 f1 f2
  go_loopw [6] (fun v6 wr => ∃ (g off cap k : Nat) (F : Nat → Int) (T : List Nat) (wk : World), v6 = .slice (some ⟨g, off, none⟩) T.length cap ∧ wk = wr ∧ Hid (FS w N X g off cap F T wk) ∧ Hid (FK N E A n k F T)) (fun v6 wr => lenV v6 + ufW wr X N)
  case atStart => exact ⟨g, 0, 1, 0, _, [n], _, rfl, rfl, S4, ST⟩
  case round =>
    obtain ⟨g, off, cap, k, F, T, wr, rfl, rfl, HS, HK⟩ := hrel
    clear S4 ST
    cases T with
    | nil =>
      have FIN : Hid (FARQ w N E A n (.returned (.slice (some ⟨X, 0, none⟩) N N)) wr) := ⟨X, F, k, rfl, HK.out, HS.out.lf, HS.out.bl⟩
      clear HS HK
      rw [List.length_nil]
      go_wp2_with fail
      go_ret
      exact FIN.out
    | cons x T =>
      have hx : x < N := HK.out.fb.lt x (.head _)
      have hxi : (x : Int) < (N : Nat) := by omega
      have q0 := HS.out.qr.head
      obtain ⟨z0, z9⟩ := ZC.out wr HS.out.bl x hx
      clear z9
      have LK : (A x).length ≤ N := AL.out x
      have GA := hid (fun wq (hb : Below w.heap.size w wq) j (hj : j < (nI (A x)).length) => GS.atI (ZC.out wq hb x hx).2 hj)
      have HV := hid (fun j (hj : j < (A x).length) => HN.out x _ (List.getElem_mem hj))
      have kN : k ≤ N := by have := HK.out.fb.n; omega
      have FX := hid (HK.out.fb.up x)
      have U0 : Hid (k + T.length + 1 + ufW wr X N = N) := by
        have h1 := HK.out.fb.n
        have h2 := HS.out.un N (Nat.le_refl _)
        rw [List.length_cons] at h1
        show _ = _
        omega
      have J0 := hid (FJ.start HK.out)
      have ONE := hid (fun j (F' : Nat → Int) (T' : List Nat) (h : FJ N E A n k x F T j F' T') (hj : j < (A x).length) => FJ.one HA.out HN.out FX.out h hj)
      have FIN := hid (fun (F' : Nat → Int) (T' : List Nat) (h : FJ N E A n k x F T (A x).length F' T') => FJ.fin HA.out HK.out h)
      have TL : Hid (T.length ≤ N) := by have := HK.out.fb.n; rw [List.length_cons] at this; show _ ≤ _; omega
      obtain ⟨m, hm⟩ : ∃ m, m = (A x).length := ⟨_, rfl⟩
      have M1 : Hid ((A x).length = m) := hm.symm
      rw [← hm] at z0 LK
      rw [List.length_cons]
      generalize (vs.getD x sl0).1 = pk at *
      generalize (vs.getD x sl0).2.2 = ck at *
      clear hm HK
      obtain ⟨tl, htl⟩ : ∃ tl, tl = T.length := ⟨_, rfl⟩
      have TE : Hid (T.length = tl) := htl.symm
      rw [← htl] at U0 ⊢
      have gt0 : (0 : Int) < ((tl + 1 : Nat) : Int) := by omega
      clear htl TL
      go_wp2_with fail
      have I0 : Hid (FS w N X g off cap F (x :: T) wr ∧ T.length = tl) := ⟨HS.out, TE.out⟩
      clear HS TE gt0 q0 z0
      go_loopw [6, 30] (fun v6 v30 wq => ∃ (j g off cap sl : Nat) (F' : Nat → Int) (T' : List Nat) (wk : World), v30 = .int .i64 j ∧ v6 = .slice (some ⟨g, off, none⟩) (sl + 1) cap ∧ wk = wq ∧ j ≤ m ∧ Hid (FS w N X g off cap F' (x :: T') wk ∧ T'.length = sl) ∧ Hid (FJ N E A n k x F T j F' T')) (fun _ v30 _ => m - (intOf v30).toNat)
      case atStart => exact ⟨0, g, off, cap, tl, F, T, _, rfl, rfl, rfl, Nat.zero_le _, I0, J0⟩
      case round =>
        obtain ⟨j, g, off, cap, sl, F', T', wq, rfl, rfl, rfl, hj, HI, HJ⟩ := hrel
        clear I0 J0
        by_cases hlt : j < m
        · have j1 : j < (A x).length := by have := M1.out; omega
          obtain ⟨Y, o, e1, c1⟩ := GA.out wq HI.out.1.bl j (by rw [nI_len]; exact j1)
          rw [nI_at j1] at c1
          subst e1
          have hy := HV.out j j1
          have J2 := hid (ONE.out j F' T' HJ.out j1)
          obtain ⟨f1, f2⟩ := HI.out.1.lf.at hy
          have q0 := HI.out.1.qr.head
          obtain ⟨g1, g2⟩ := HI.out.1.lf.at hx
          have lo := HJ.out.fi.lo (A x)[j]
          have dx : 0 ≤ F' x ∧ F' x ≤ 5000 := ⟨HJ.out.fi.xq x (.head _), by rw [HJ.out.at']; have := FX.out; omega⟩
          have sN : sl + 1 ≤ N := by have := HJ.out.fb.n; have := HI.out.2; omega
          have hji : (j : Int) < (m : Nat) := by omega
          generalize (A x)[j] = y at *
          have hyi : (y : Int) < (N : Nat) := by omega
          rcases lo with hF | hF
          · have J3 : Hid (FJ N E A n k x F T (j + 1) (upF F' y (F' x + 1)) (T' ++ [y])) := by
              have := J2.out
              unfold bf1 at this
              rw [if_pos (by show F' y < 0; rw [hF]; decide)] at this
              exact this
            have S5 := hid (HI.out.1.set y (F' x + 1))
            rw [hF] at f1
            clear J2 ONE FIN HJ hF
            obtain ⟨d0, d1⟩ := dx
            generalize F' x = d at *
            generalize hw5 : wq.setCell ⟨X, y, none⟩ (.int .i64 (d + 1)) = w5 at S5
            have BS : Hid (w.heap.size ≤ w5.heap.size) := S5.out.bl.size
            have EL : Hid (sl + 1 = (x :: T').length) := by show _ = _; rw [List.length_cons, HI.out.2]
            have LE : Hid ((x :: T').length + 1 ≤ 100000) := by show _ ≤ _; rw [← EL.out]; omega
            have NX := hid (fun (g' off' cap' : Nat) (w6 : World) h1 h2 h3 h4 => FS.app (g' := g') (off' := off') (cap' := cap') (w' := w6) (T' := (x :: T') ++ [y]) S5.out h1 h2 h3 h4)
            have LT : Hid ((T' ++ [y]).length = sl + 1) := by show _ = _; rw [List.length_append, List.length_singleton, HI.out.2]
            have QR5 := hid S5.out.qr
            clear HI S5
            go_wp2_with (at_builtin; refine append_q rfl (.tmp 49) (.tmp 51) 25 rfl w.heap.size Try.underlying25 w5 _ g off cap (sl + 1) (x :: T') y _ rfl EL.out QR5.out w5.heap.size rfl rfl LE.out BS.out ?_; intro g6 off6 cap6 w6 hq6 hb6 hk6 hg6; have S6 := hid (NX.out g6 off6 cap6 w6 hq6 hb6 hk6 hg6); clear hq6 hb6 hk6 hg6)
            all_goals
              go_roundw
              case rel => exact ⟨j + 1, g6, off6, cap6, sl + 1, _, _, _, by go_num, rfl, rfl, by omega, ⟨S6.out, LT.out⟩, J3⟩
              case measure => simp [intOf]; omega
          · have J3 : Hid (FJ N E A n k x F T (j + 1) F' T') := by
              have := J2.out
              unfold bf1 at this
              rw [if_neg (by show ¬ F' y < 0; omega)] at this
              exact this
            have hF1 : (F' y == -1) = false := by simp; omega
            have hF2 : ¬ F' y = -1 := by omega
            clear J2 ONE FIN HJ
            generalize F' y = fy at *
            go_wp2_with fail
            all_goals
              go_roundw
              case rel => exact ⟨j + 1, g, off, cap, sl, _, _, _, by go_num, rfl, rfl, by omega, HI, J3⟩
              case measure => simp [intOf]; omega
        · obtain rfl : j = m := by omega
          have K2 := hid (FIN.out F' T' (by rw [M1.out]; exact HJ.out))
          have U1 : Hid (k + 1 + sl + ufW wq X N = N) := by
            have h1 := K2.out.fb.n
            have h2 := HI.out.1.un N (Nat.le_refl _)
            have h3 := HI.out.2
            show _ = _
            omega
          have one : (1 : Int) ≤ ((sl + 1 : Nat) : Int) := by omega
          clear ONE FIN HJ
          by_cases hc : cap = 1
          · subst hc
            obtain ⟨rfl, P2⟩ := HI.out.1.pop1
            have P3 := hid P2
            obtain rfl : sl = 0 := HI.out.2.symm
            clear HI P2
            go_wp2_with fail
            all_goals
              go_roundw
              case rel => exact ⟨g, off, 0, k + 1, F', [], _, rfl, rfl, P3, K2⟩
              case measure => have h0 := U0.out; have h1 := U1.out; simp [lenV]; omega
          · obtain ⟨cp, rfl⟩ : ∃ cp, cap = cp + 1 := ⟨cap - 1, by have := HI.out.1.qr.c; simp at this; omega⟩
            have P3 := hid HI.out.1.pop
            have hcp : ¬ cp = 0 := by omega
            have hle : sl + 1 ≤ cp + 1 := by have := HI.out.1.qr.c; have h3 := HI.out.2; simp at this; omega
            have TE := hid HI.out.2
            clear HI
            go_wp2_with fail
            all_goals
              go_roundw
              case rel => exact ⟨g, off + 1, cp, k + 1, F', T', _, by rw [TE.out], rfl, P3, K2⟩
              case measure => have h0 := U0.out; have h1 := U1.out; simp [lenV]; omega
end Go.Proofs.Ytkmokoiilmdfbaa
namespace Go.Proofs.Ytkmokoiilmdfbaa
open Go.RowKit

def ciF (N : Nat) (E : List (Nat × Nat)) (n : Nat) : Nat → Int := (bfN (nx N (tu E)) (upF (fun _ => -1) n 0, [n]) N).1
theorem FK.ci {N : Nat} {E : List (Nat × Nat)} {n k : Nat} {F : Nat → Int} (h : FK N E (nx N (tu E)) n k F []) : F = ciF N E n ∧ k ≤ N := by
  have hk : k ≤ N := by have := h.fb.n; omega
  refine ⟨?_, hk⟩
  have h1 := bfN_done (A := nx N (tu E)) (s := (upF (fun _ => -1) n 0, [n])) (k := k) (by rw [h.eq]) (N - k)
  rw [show k + (N - k) = N by omega, h.eq] at h1
  unfold ciF
  rw [h1]
def clL (F : Nat → Int) (A : Nat → List Nat) (n : Nat) : Nat → Nat → List Nat
  | 0, _ => []
  | f + 1, a => if a = n then [] else a :: clL F A n f (nrL F (A a)).toNat
def ciR (N : Nat) (E : List (Nat × Nat)) (n : Nat) : List Nat := n :: clL (ciF N E n) (nx N E) n (N + 1) (nrL (ciF N E n) (nx N E n)).toNat
structure CQ (N : Nat) (E : List (Nat × Nat)) (F : Nat → Int) (n : Nat) (R L : List Nat) (a : Nat) : Prop where
  lt : a < N
  ge : 0 ≤ F a
  sum : (L.length : Int) + F a ≤ N + 1
  eq : ∃ f : Nat, F a < f ∧ L ++ clL F (nx N E) n f a = R
theorem CQ.step {N : Nat} {E : List (Nat × Nat)} (hg : GOK N E) {F : Nat → Int} {n : Nat} (hf : FI E n [] [] F []) {R L : List Nat} {a : Nat} (h : CQ N E F n R L a) (hn : a ≠ n) : ∃ b : Nat, nrL F (nx N E a) = b ∧ F b < F a ∧ CQ N E F n R (L ++ [a]) b := by
  obtain ⟨b, h1, h2, h3, h4⟩ := nr_falls hg hf h.ge hn
  obtain ⟨f, e1, e2⟩ := h.eq
  refine ⟨b, h1, h4, h2, h3, ?_, ?_⟩
  · have := h.sum
    rw [List.length_append, List.length_singleton]
    push_cast
    omega
  · have := h.ge
    obtain ⟨f', rfl⟩ : ∃ f', f = f' + 1 := ⟨f - 1, by omega⟩
    refine ⟨f', by push_cast at e1; omega, ?_⟩
    unfold clL at e2
    rw [if_neg hn, h1] at e2
    rw [← e2]
    simp
theorem CQ.fin {N : Nat} {E : List (Nat × Nat)} {F : Nat → Int} {n : Nat} {R L : List Nat} (h : CQ N E F n R L n) : L = R := by
  obtain ⟨f, e1, e2⟩ := h.eq
  have := h.ge
  obtain ⟨f', rfl⟩ : ∃ f', f = f' + 1 := ⟨f - 1, by omega⟩
  unfold clL at e2
  rw [if_pos rfl, List.append_nil] at e2
  exact e2
theorem CQ.start {N : Nat} {E : List (Nat × Nat)} {n k : Nat} {F : Nat → Int} (h : FK N E (nx N (tu E)) n k F []) {b : Nat} (h1 : nrL F (nx N E n) = b) (h2 : b < N) (h3 : 0 ≤ F b) : CQ N E F n (ciR N E n) [n] b := by
  obtain ⟨e, hk⟩ := h.ci
  have u := h.fb.up b
  refine ⟨h2, h3, ?_, N + 1, by push_cast; omega, ?_⟩
  · rw [List.length_singleton]; push_cast; omega
  · unfold ciR
    rw [← e, h1]
    simp
noncomputable def ciE (n : Int) (l : List (Int × Int)) (x : Int) : Int := if nxE n l x = 0 then (if wyB (eN l) (-1) [x.toNat] x.toNat then 0 else 4) else nxE n l x
noncomputable def ciA (n : Int) (l : List (Int × Int)) (x : Int) : List Int := if ciE n l x = 0 then nI (ciR n.toNat (eN l) x.toNat) else []
theorem ciE_bad {n : Int} {l : List (Int × Int)} {x : Int} (h : nxE n l x ≠ 0) : ciE n l x = nxE n l x ∧ ciA n l x = [] := by
  have h1 : ciE n l x = nxE n l x := by unfold ciE; rw [if_neg h]
  refine ⟨h1, ?_⟩
  unfold ciA
  rw [if_neg (by rw [h1]; exact h)]
theorem ciE_no {N : Nat} {E : List (Nat × Nat)} (hg : GOK N E) {i : Nat} (hi : i < N) (h : wyB E (-1) [i] i = false) : ciE N (eI E) i = 4 ∧ ciA N (eI E) i = [] := by
  have h1 : ciE N (eI E) i = 4 := by
    unfold ciE
    rw [if_pos (nxE_at hg hi).1, eN_eI]
    simp [h]
  refine ⟨h1, ?_⟩
  unfold ciA
  rw [if_neg (by rw [h1]; decide)]
theorem ciE_yes {N : Nat} {E : List (Nat × Nat)} (hg : GOK N E) {i : Nat} (hi : i < N) (h : wyB E (-1) [i] i = true) : ciE N (eI E) i = 0 ∧ ciA N (eI E) i = nI (ciR N E i) := by
  have h1 : ciE N (eI E) i = 0 := by
    unfold ciE
    rw [if_pos (nxE_at hg hi).1, eN_eI]
    simp [h]
  refine ⟨h1, ?_⟩
  unfold ciA
  rw [if_pos h1, eN_eI]
  simp
end Go.Proofs.Ytkmokoiilmdfbaa
