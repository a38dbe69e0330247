/- Values: sorted rows, plain; what compares places. -/
import Derived.Test.YtahcllncjpaijabDoorSo8
import Derived.Test.YtahcllncjpaijabDoorQuote
import Derived.Test.YtahcllncjpaijabDoorVd2
namespace Go.Proofs.YtahcllncjpaijabDoor
open Go.RowKit

def Srt (S : List Vt) : Prop := S.Pairwise (fun s t => cmpV s t ≤ 0)
theorem srt_one : ∀ (A B : List Vt), A.Perm B → Srt A → Srt B → (∀ t ∈ A, wfV t) → A = B
  | [], B, hp, _, _, _ => hp.nil_eq
  | a :: A, [], hp, _, _, _ => by simpa using hp.length_eq
  | a :: A, b :: B, hp, ha, hb, hw => by
    have h1 : a ∈ b :: B := hp.subset (List.mem_cons_self ..)
    have h2 : b ∈ a :: A := hp.symm.subset (List.mem_cons_self ..)
    have e : a = b := by
      rcases List.mem_cons.1 h1 with e | h1
      · exact e
      · rcases List.mem_cons.1 h2 with e | h2
        · exact e.symm
        · have q1 := (List.pairwise_cons.1 ha).1 b h2
          have q2 := (List.pairwise_cons.1 hb).1 a h1
          have q3 := cmpV_anti a b
          exact cmpV_eq a b (hw a (List.mem_cons_self ..)) (hw b (List.mem_cons_of_mem _ h2)) (by omega)
    subst e
    rw [srt_one A B (List.perm_cons a |>.1 hp) (List.pairwise_cons.1 ha).2 (List.pairwise_cons.1 hb).2 (fun t ht => hw t (List.mem_cons_of_mem _ ht))]
def t0V : Vt := .nd 1 0 ByteArray.empty []
theorem t0V_wf : wfV t0V := by
  show wfV (.nd 1 0 ByteArray.empty [])
  rw [wfV, wfVL]
  exact ⟨by decide, trivial⟩
/-- Places compared. -/
def cP (T : List Vt) (x y : Int) : Int := cmpV (T.getD x.toNat t0V) (T.getD y.toNat t0V)
theorem getD_wf {T : List Vt} (h : ∀ t ∈ T, RT t) (k : Nat) : wfV (T.getD k t0V) := by
  by_cases hk : k < T.length
  · rw [List.getD_eq_getElem?_getD, List.getElem?_eq_getElem hk]; exact (h _ (List.getElem_mem hk)).wf
  · rw [List.getD_eq_getElem?_getD, List.getElem?_eq_none (by omega)]; exact t0V_wf
theorem cP_ord {T : List Vt} (h : ∀ t ∈ T, RT t) : OrdC (cP T) := ⟨fun _ _ => cmpV_anti _ _, fun _ _ _ a b => (cmpV_three (getD_wf h _) (getD_wf h _) (getD_wf h _)).1 a b⟩
/-- The places 0, 1, .. -/
def plcN (n : Nat) : List Int := (List.range n).map (fun k : Nat => (k : Int))
theorem plcN_len (n : Nat) : (plcN n).length = n := by simp [plcN]
theorem plcN_at {n k : Nat} (h : k < n) : gD (plcN n) k = (k : Int) := by unfold gD plcN; simp [List.getD, h]
def outS (T : List Vt) (E : List Int) : List Vt := E.map (fun p => T.getD p.toNat t0V)
theorem outS_perm {T : List Vt} {E : List Int} (h : E.Perm (plcN T.length)) : (outS T E).Perm T := by
  have h1 := h.map (fun p : Int => T.getD p.toNat t0V)
  have h2 : (plcN T.length).map (fun p : Int => T.getD p.toNat t0V) = T := by
    apply List.ext_getElem
    · simp [plcN]
    · intro i h3 h4
      simp [plcN, List.getD, h4]
  rw [h2] at h1
  exact h1
theorem outS_srt {T : List Vt} {E : List Int} (h : Run (cP T) E 0 E.length) : Srt (outS T E) := by
  unfold Srt outS
  rw [List.pairwise_map, List.pairwise_iff_getElem]
  intro i j hi hj hij
  have := h i j (Nat.zero_le _) hij hj
  rw [gD_get hi, gD_get hj] at this
  exact this
/-- A value laid out. -/
structure Lx where
  p : Option Addr
  q : Option Addr
  n : Nat
  c : Nat
def KL : RK Lx := ⟨61, 2, 48, .agg #[.slice none 0 0, .slice none 0 0], fun x => [.slice x.p x.n x.c, .slice x.q x.n x.n]⟩
theorem KL_ok : KL.Ok Tryd.prog :=
  ⟨fun _ => rfl, fun x u hu => by simp [KL] at hu; rcases hu with rfl | rfl <;> rfl, rfl, by decide, by decide, info_parts' (by kernel_rfl)⟩
theorem GS.atL {w : World} {p : Option Addr} {n cap k : Nat} {l : List Lx} (h : GS KL w (.slice p n cap) l) (hk : k < l.length) : ∃ X o, p = some ⟨X, o, none⟩ ∧ w.cell? ⟨X, o + k * 2, none⟩ = some (.slice l[k].p l[k].n l[k].c) ∧ w.cell? ⟨X, o + k * 2 + 1, none⟩ = some (.slice l[k].q l[k].n l[k].n) := by
  obtain ⟨X, o, h1, _, h2⟩ := GS.at h hk
  exact ⟨X, o, h1, h2 0 _ rfl, h2 1 _ rfl⟩
/-- It is laid out of this tree, away from some blocks. -/
structure LX (w : World) (F : Nat → Prop) (x : Lx) (t : Vt) : Prop where
  n : x.n = szV t
  q : ∃ b, x.q = some ⟨b, 0, none⟩ ∧ ¬ F b
  a : AS w (.slice x.p (szV t) x.c) (flV t)
  i : IS w (.slice x.q (szV t) (szV t)) (opV t)
  f : ∀ b, (Value.slice x.p (szV t) x.c).ownBlock = some b → ¬ F b
theorem LX.blk {w w' : World} {F : Nat → Prop} {x : Lx} {t : Vt} (h : LX w F x t) (hs : w.heap.size ≤ w'.heap.size) (k : ∀ j, j < w.heap.size → ¬ F j → w'.heap[j]? = w.heap[j]?) : LX w' F x t := by
  refine ⟨h.n, h.q, h.a.blk hs (fun y hy hl => k y hl (h.f y hy)), h.i.blk hs (fun y hy hl => k y hl ?_), h.f⟩
  obtain ⟨b, e1, e2⟩ := h.q
  rw [e1] at hy
  have : b = y := by simpa [Value.ownBlock] using hy
  rw [← this]; exact e2
theorem LX.sm {w w' : World} {F : Nat → Prop} {g : Nat} {x : Lx} {t : Vt} (h : LX w F x t) (hF : F g) (s : Sm g w w') : LX w' F x t :=
  h.blk s.size (fun j hj hn => s.block j hj (fun e => hn (by rw [e]; exact hF)))
set_option maxHeartbeats 8000000 in
set_option maxRecDepth 100000 in
theorem cmpP_any (w : World) (vb ga n : Nat) (F : Nat → Prop) (A : List Lx) (T : List Vt) (x y : Nat) (hv : w.cell? ⟨vb, 0, none⟩ = some (.slice (some ⟨ga, 0, none⟩) n n)) (hg : GS KL w (.slice (some ⟨ga, 0, none⟩) n n) A) (hA : A.length = n) (hT : T.length = n)
    (hx : x < n) (hy : y < n) (l1 : LX w F (A[x]'(by omega)) (T[x]'(by omega))) (l2 : LX w F (A[y]'(by omega)) (T[y]'(by omega))) (hr : ∀ t ∈ T, RT t) :
    Calls Tryd.prog 25 #[.int .i64 x, .int .i64 y, .pointer (some ⟨vb, 0, none⟩)] w fun e w' => e = .returned (.int .i64 (cmpV (T[x]'(by omega)) (T[y]'(by omega)))) ∧ Below w.heap.size w w' := by
  obtain ⟨X1, o1, e1, x1, x2⟩ := hg.atL (k := x) (by omega)
  obtain ⟨X2, o2, e2, y1, y2⟩ := hg.atL (k := y) (by omega)
  obtain ⟨rfl, rfl⟩ : X1 = ga ∧ o1 = 0 := by injection e1 with e1; injection e1 with a b _; exact ⟨a.symm, b.symm⟩
  obtain ⟨rfl, rfl⟩ : X2 = X1 ∧ o2 = 0 := by injection e2 with e2; injection e2 with a b _; exact ⟨a.symm, b.symm⟩
  obtain ⟨s, hs⟩ : ∃ s, s = T[x]'(by omega) := ⟨_, rfl⟩
  obtain ⟨t, ht⟩ : ∃ t, t = T[y]'(by omega) := ⟨_, rfl⟩
  have rs : RT s := by rw [hs]; exact hr _ (List.getElem_mem _)
  have rt : RT t := by rw [ht]; exact hr _ (List.getElem_mem _)
  rw [← hs] at l1 ⊢
  rw [← ht] at l2 ⊢
  generalize A[x]'(by omega) = a1 at *
  generalize A[y]'(by omega) = a2 at *
  obtain ⟨g1, q1, _⟩ := l1.q
  obtain ⟨g2, q2, _⟩ := l2.q
  have i1 := l1.i
  have i2 := l2.i
  rw [q1] at i1 x2
  rw [q2] at i2 y2
  rw [l1.n] at x1 x2
  rw [l2.n] at y1 y2
  have LC : Hid (∀ W, Below w.heap.size w W → Calls Tryd.prog 26 #[.agg #[.slice a1.p (szV s) a1.c, .slice (some ⟨g1, 0, none⟩) (szV s) (szV s)], .agg #[.slice a2.p (szV t) a2.c, .slice (some ⟨g2, 0, none⟩) (szV t) (szV t)]] W fun e w' => e = .returned (.int .i64 (cmpV s t)) ∧ Below W.heap.size W w') := fun W b => laidCompare_any a1.p a2.p a1.c a2.c g1 g2 s t W (GS.below l1.a b) (GS.below l2.a b) (GS.below i1 b) (GS.below i2 b) rs rt
  rw [Nat.zero_add] at x1 x2 y1 y2
  have KP : Hid (∀ W w1, Below w.heap.size w W → Below W.heap.size W w1 → w1.cell? ⟨vb, 0, none⟩ = some (.slice (some ⟨X2, 0, none⟩) n n) ∧ w1.cell? ⟨X2, x * 2, none⟩ = some (.slice a1.p (szV s) a1.c) ∧ w1.cell? ⟨X2, x * 2 + 1, none⟩ = some (.slice (some ⟨g1, 0, none⟩) (szV s) (szV s)) ∧ w1.cell? ⟨X2, y * 2, none⟩ = some (.slice a2.p (szV t) a2.c) ∧ w1.cell? ⟨X2, y * 2 + 1, none⟩ = some (.slice (some ⟨g2, 0, none⟩) (szV t) (szV t)) ∧ Below w.heap.size w w1) := fun W w1 b b' => by
    have bb := b.trans (b'.mono b.size)
    exact ⟨(bb.cell (block_lt_of_cell hv)).trans hv, (bb.cell (block_lt_of_cell x1)).trans x1, (bb.cell (block_lt_of_cell x2)).trans x2, (bb.cell (block_lt_of_cell y1)).trans y1, (bb.cell (block_lt_of_cell y2)).trans y2, bb⟩
  have k1 : (0 : Int) ≤ (x : Int) := by omega
  have k2 : (x : Int) < (n : Int) := by omega
  have k3 : (0 : Int) ≤ (y : Int) := by omega
  have k4 : (y : Int) < (n : Int) := by omega
  generalize cmpV s t = cc at *
  generalize szV s = ns at *
  generalize szV t = nt at *
  clear hg hA hT l1 l2 hr rs rt i1 i2 q1 q2 e1 e2 hs ht
  go_enter Tryd.func25, Tryd.ntmps25
  go_wp2_with fail
  go_region_held3 (fun w' => w'.cell? ⟨vb, 0, none⟩ = some (.slice (some ⟨X2, 0, none⟩) n n) ∧ w'.cell? ⟨X2, x * 2, none⟩ = some (.slice a1.p ns a1.c) ∧ w'.cell? ⟨X2, x * 2 + 1, none⟩ = some (.slice (some ⟨g1, 0, none⟩) ns ns) ∧ w'.cell? ⟨X2, y * 2, none⟩ = some (.slice a2.p nt a2.c) ∧ w'.cell? ⟨X2, y * 2 + 1, none⟩ = some (.slice (some ⟨g2, 0, none⟩) nt nt)) (go_keep) ((go_at_call 26; refine (LC.out _ (by first | exact (Below.refl _ _).drew | exact Below.refl _ _)).mono ?_; rintro e w1 ⟨rfl, b1⟩; obtain ⟨z1, z2, z3, z4, z5, z6⟩ := KP.out _ w1 (by first | exact (Below.refl _ _).drew | exact Below.refl _ _) b1; have B1 : Hid _ := z6; clear b1 z6))
  go_wp2_with fail
  go_ret
  exact ⟨rfl, B1.out⟩
end Go.Proofs.YtahcllncjpaijabDoor
