/- Graph: rows of numbers, truths, edges, lists; Check. -/
import Derived.Test.YtghkhceplpjegaaProg
import Derived.Test.YtghkhceplpjegaaGr2
import Derived.Test.YtghkhceplpjegaaYa3
import Derived.Deep.RegionHeld3
import Derived.Laws.StructEq
import Derived.Laws.EntriesVeiled
import Derived.Handy
import Derived.BigQuiet
import Derived.BigRegion
import Derived.Deep.Cut
namespace Go.Proofs.Ytghkhceplpjegaa
open Go.RowKit

theorem hid {p : Prop} (h : p) : Hid p := h
theorem ret_bool {a b : Bool} (h : a = b) : Ending.returned (.bool a) = .returned (.bool b) := by rw [h]
theorem ret_i {a b : Int} (h : a = b) : Ending.returned (.int .i64 a) = .returned (.int .i64 b) := by rw [h]
theorem lt_of_heap {w : World} {b : Nat} {o : Obj} (h : w.heap[b]? = some o) : b < w.heap.size := (Array.getElem?_eq_some_iff.1 h).1
theorem drew_below (w : World) (n : Nat) : Below w.heap.size w (w.drewN n) := ⟨rfl, rfl, rfl, Nat.le_refl _, fun _ _ => rfl⟩
theorem bl2 {w w1 : World} {ob : Obj} (h : Below (w.alloc ob).heap.size (w.alloc ob) w1) : Below w.heap.size w w1 := ((Below.refl _ _).alloc (Nat.le_refl _) ob).trans (h.mono (by simp))
theorem bl3 {w w1 w2 : World} (h : Below w.heap.size w w1) (k : Below w1.heap.size w1 w2) : Below w.heap.size w w2 := h.trans (k.mono h.size)
theorem bal (w : World) (ob : Obj) : Below w.heap.size w (w.alloc ob) := (Below.refl _ _).alloc (Nat.le_refl _) ob
theorem asz (w : World) (ob : Obj) : (w.alloc ob).heap.size = w.heap.size + 1 := by simp
theorem info_parts' {P : Program} {t : TypeId} {z : Value} {n m : Nat} (h : (P.info? t).map (fun i => (i.zero, i.size, i.bytes)) = some (some z, n, m)) : ∃ i, P.info? t = some i ∧ i.zero = some z ∧ i.size = n ∧ i.bytes = m := by
  obtain ⟨i, h1, h2⟩ := Option.map_eq_some_iff.1 h
  simp only [Prod.mk.injEq] at h2
  exact ⟨i, h1, h2.1, h2.2.1, h2.2.2⟩
def KI : RK Int := ⟨3, 1, 8, .int .i64 0, fun x => [.int .i64 x]⟩
theorem KI_ok : KI.Ok Try.prog :=
  ⟨fun _ => rfl, fun x u hu => by simp [KI] at hu; subst hu; rfl, rfl, by decide, by decide, info_parts' (by kernel_rfl)⟩
theorem GS.atI {w : World} {p : Option Addr} {n cap k : Nat} {l : List Int} (h : GS KI w (.slice p n cap) l) (hk : k < l.length) : ∃ X o, p = some ⟨X, o, none⟩ ∧ w.cell? ⟨X, o + k, none⟩ = some (.int .i64 l[k]) := by
  obtain ⟨X, o, h1, _, h2⟩ := GS.at h hk
  have := h2 0 _ rfl
  rw [show KI.W = 1 from rfl, Nat.mul_one] at this
  exact ⟨X, o, h1, this⟩
def KB : RK Bool := ⟨4, 1, 1, .bool false, fun x => [.bool x]⟩
theorem KB_ok : KB.Ok Try.prog :=
  ⟨fun _ => rfl, fun x u hu => by simp [KB] at hu; subst hu; rfl, rfl, by decide, by decide, info_parts' (by kernel_rfl)⟩
theorem GS.atB {w : World} {p : Option Addr} {n cap k : Nat} {l : List Bool} (h : GS KB w (.slice p n cap) l) (hk : k < l.length) : ∃ X o, p = some ⟨X, o, none⟩ ∧ w.cell? ⟨X, o + k, none⟩ = some (.bool l[k]) := by
  obtain ⟨X, o, h1, _, h2⟩ := GS.at h hk
  have := h2 0 _ rfl
  rw [show KB.W = 1 from rfl, Nat.mul_one] at this
  exact ⟨X, o, h1, this⟩
def KE : RK (Int × Int) := ⟨47, 2, 16, .agg #[.int .i64 0, .int .i64 0], fun x => [.int .i64 x.1, .int .i64 x.2]⟩
theorem KE_ok : KE.Ok Try.prog :=
  ⟨fun _ => rfl, fun x u hu => by simp [KE] at hu; rcases hu with rfl | rfl <;> rfl, rfl, by decide, by decide, info_parts' (by kernel_rfl)⟩
theorem GS.atE {w : World} {p : Option Addr} {n cap k : Nat} {l : List (Int × Int)} (h : GS KE w (.slice p n cap) l) (hk : k < l.length) : ∃ X o, p = some ⟨X, o, none⟩ ∧ X < w.heap.size ∧ w.cell? ⟨X, o + k * 2, none⟩ = some (.int .i64 l[k].1) ∧ w.cell? ⟨X, o + k * 2 + 1, none⟩ = some (.int .i64 l[k].2) := by
  obtain ⟨X, o, h1, hX, h2⟩ := GS.at h hk
  exact ⟨X, o, h1, hX, h2 0 _ rfl, h2 1 _ rfl⟩
theorem own_frozen {α : Type} {K : RK α} {w : World} {base g n cap : Nat} {l : List α} (h : OwnG K w base (.slice (some ⟨g, 0, none⟩) n cap) l) : ∀ o, w.frozen? ⟨g, o, none⟩ = false := by
  rcases h.2 with ⟨e, _⟩ | ⟨g', cp, cur, e1, _, e3, _⟩
  · cases e
  · injection e1 with e1 _ _
    injection e1 with e1
    injection e1 with e1 _ _
    subst e1
    intro o
    simp [World.frozen?, e3]
structure But (F : Nat → Prop) (a b : World) : Prop where
  os : b.os = a.os
  tape : b.tape = a.tape
  output : b.output = a.output
  size : a.heap.size ≤ b.heap.size
  block : ∀ x, x < a.heap.size → ¬ F x → b.heap[x]? = a.heap[x]?
theorem But.of_below {F : Nat → Prop} {a b : World} (h : Below a.heap.size a b) : But F a b := ⟨h.os, h.tape, h.output, h.size, fun x hx _ => h.block x hx⟩
theorem But.refl (F : Nat → Prop) (a : World) : But F a a := ⟨rfl, rfl, rfl, Nat.le_refl _, fun _ _ _ => rfl⟩
theorem But.trans {F G : Nat → Prop} {a b c : World} (h : But F a b) (k : But G b c) (hG : ∀ x, G x → F x ∨ a.heap.size ≤ x) : But F a c :=
  ⟨k.os.trans h.os, k.tape.trans h.tape, k.output.trans h.output, Nat.le_trans h.size k.size, fun x hx hn => (k.block x (Nat.lt_of_lt_of_le hx h.size) (fun hg => by rcases hG x hg with e | e; exact hn e; omega)).trans (h.block x hx hn)⟩
theorem But.set {w : World} (b o : Nat) (u : Value) : But (fun x => x = b) w (w.setCell ⟨b, o, none⟩ u) :=
  ⟨rfl, rfl, rfl, by simp [World.setCell], fun x _ hn => Below.heap_setCell _ _ _ _ hn⟩
theorem But.drewN {F : Nat → Prop} {a b : World} (h : But F a b) (n : Nat) : But F a (b.drewN n) := ⟨h.os, h.tape, h.output, h.size, h.block⟩
theorem But.below {F : Nat → Prop} {a b : World} (h : But F a b) {n : Nat} (hn : n ≤ a.heap.size) (hF : ∀ x, F x → n ≤ x) : Below n a b :=
  ⟨h.os, h.tape, h.output, h.size, fun x hx => h.block x (by omega) (fun e => by have := hF x e; omega)⟩

/-- It is a node. -/
def ndB (n x : Int) : Bool := decide (0 ≤ x) && decide (x < n)
theorem edB_nd (n : Int) (x : Int × Int) : edB n x = (ndB n x.1 && ndB n x.2) := rfl
set_option maxHeartbeats 2000000 in
theorem isNode_any (w : World) (n x : Int) (p : Option Addr) (m c : Nat) : Calls Try.prog 55 #[.agg #[.int .i64 n, .slice p m c], .int .i64 x] w fun e w' => e = .returned (.bool (ndB n x)) ∧ Below w.heap.size w w' := by
  by_cases h0 : 0 ≤ x
  · have b0 : decide (0 ≤ x) = true := decide_eq_true h0
    have HN : Hid (ndB n x = decide (x < n)) := by show _ = _; simp [ndB, h0]
    go_enter Try.func55, Try.ntmps55
    go_wp2
    go_ret
    exact ⟨ret_bool HN.out.symm, bal _ _⟩
  · have b0 : decide (0 ≤ x) = false := decide_eq_false h0
    have HN : Hid (ndB n x = false) := by show _ = _; simp [ndB, h0]
    go_enter Try.func55, Try.ntmps55
    go_wp2
    go_ret
    exact ⟨ret_bool HN.out.symm, bal _ _⟩
theorem all_snoc {α : Type} {l : List α} {p : α → Bool} {k : Nat} (hk : k < l.length) (h : (l.take k).all p = true) (hp : p l[k] = true) : (l.take (k + 1)).all p = true := by
  rw [List.take_succ_eq_append_getElem hk, List.all_append, h]
  simp [hp]
theorem all_no {α : Type} {l : List α} {p : α → Bool} {k : Nat} (hk : k < l.length) (hp : p l[k] = false) : l.all p = false := by
  rw [List.all_eq_false]
  exact ⟨_, List.getElem_mem hk, by simp [hp]⟩
set_option maxHeartbeats 8000000 in
theorem check_any (w : World) (n : Int) (v : Value) (l : List (Int × Int)) (hv : GS KE w v l) : Calls Try.prog 31 #[.agg #[.int .i64 n, v]] w fun e w' => e = .returned (.int .i64 (chkG n l)) ∧ Below w.heap.size w w' := by
  obtain ⟨p, c, rfl⟩ := hv.form
  have BR : Hid (Below w.heap.size w w) := Below.refl _ _
  by_cases h1 : n < 0 ∨ 4096 < n
  · have HC : Hid (chkG n l = 1) := by show _ = _; unfold chkG; rw [if_pos h1]
    by_cases h2 : n < 0
    · go_enter Try.func31, Try.ntmps31
      go_wp2
      go_ret
      exact ⟨ret_i HC.out.symm, bal _ _⟩
    · have h3 : 4096 < n := by omega
      go_enter Try.func31, Try.ntmps31
      go_wp2
      go_ret
      exact ⟨ret_i HC.out.symm, bal _ _⟩
  · have a1 : ¬ n < 0 := by omega
    have a2 : ¬ 4096 < n := by omega
    by_cases h2 : 16384 < l.length
    · have HC : Hid (chkG n l = 3) := by show _ = _; unfold chkG; rw [if_neg h1, if_pos h2]
      have a3 : (16384 : Int) < (l.length : Nat) := by omega
      generalize l.length = m at *
      go_enter Try.func31, Try.ntmps31
      go_wp2
      go_ret
      exact ⟨ret_i HC.out.symm, bal _ _⟩
    · have HC : Hid (chkG n l = if l.all (edB n) then 0 else 1) := by show _ = _; unfold chkG; rw [if_neg h1, if_neg h2]
      have A1 := hid (fun w' (hb : Below w.heap.size w w') j (hj : j < l.length) => GS.atE (hv.below hb) hj)
      have a3 : ¬ (16384 : Int) < (l.length : Nat) := by omega
      obtain ⟨m, hm⟩ : ∃ m, m = l.length := ⟨_, rfl⟩
      rw [← hm]
      rw [← hm] at a3
      have M1 : Hid (l.length = m) := hm.symm
      have a4 : m ≤ 16384 := by omega
      clear hm h1 h2 hv
      go_enter Try.func31, Try.ntmps31
      go_wp2
      generalize hW : w.alloc (.cells #[.int .i64 n, .slice p m c] 24) = W
      have BW : Hid (Below w.heap.size w W) := by rw [← hW]; exact bal _ _
      have C0 : Hid (∀ W', Below W.heap.size W W' → W'.cell? ⟨w.heap.size, 0, none⟩ = some (.int .i64 n) ∧ W'.cell? ⟨w.heap.size, 1, none⟩ = some (.slice p m c)) := fun W' hb => by
        have e : W'.heap[w.heap.size]? = some (.cells #[.int .i64 n, .slice p m c] 24) := (hb.block _ (by rw [← hW, asz]; omega)).trans (by rw [← hW]; exact heap_alloc_new _ _)
        exact ⟨cell_of_row _ _ _ _ _ _ e, cell_of_row _ _ _ _ _ _ e⟩
      obtain ⟨sz, hsz⟩ : ∃ sz, sz = w.heap.size := ⟨_, rfl⟩
      rw [← hsz] at C0 ⊢
      have BI := hid (Below.refl W.heap.size W)
      clear hW hsz
      go_loopw [20] (fun v20 wr => ∃ (j : Nat) (wk : World), v20 = .int .i64 j ∧ wk = wr ∧ j ≤ m ∧ Hid ((l.take j).all (edB n) = true) ∧ Hid (Below W.heap.size W wk)) (fun v20 _ => m - (intOf v20).toNat)
      case atStart => exact ⟨0, _, rfl, rfl, Nat.zero_le _, rfl, BI⟩
      case round =>
        obtain ⟨j, wr, rfl, rfl, hj, HE, HB⟩ := hrel
        by_cases hlt : j < m
        · have j1 : j < l.length := by have := M1.out; omega
          obtain ⟨X, o, e1, _, c1, c2⟩ := A1.out wr (bl3 BW.out HB.out) j j1
          subst e1
          have NX := hid (fun h => all_snoc j1 HE.out (p := edB n) h)
          have NO := hid (fun h => all_no j1 (p := edB n) h)
          have EN : Hid (edB n l[j] = (ndB n l[j].1 && ndB n l[j].2)) := rfl
          have hji : (j : Int) < (m : Nat) := by omega
          generalize l[j].1 = x at *
          generalize l[j].2 = y at *
          generalize hV : wr.alloc (.cells #[.int .i64 x, .int .i64 y] 47) = V
          have BV : Hid (Below W.heap.size W V) := by rw [← hV]; exact bl3 HB.out (bal _ _)
          obtain ⟨d0, d1⟩ := C0.out V BV.out
          have VL : wr.heap.size < V.heap.size := by rw [← hV, asz]; omega
          have VE : V.cell? ⟨wr.heap.size, 0, none⟩ = some (.int .i64 x) ∧ V.cell? ⟨wr.heap.size, 1, none⟩ = some (.int .i64 y) := by
            have e : V.heap[wr.heap.size]? = some (.cells #[.int .i64 x, .int .i64 y] 47) := by rw [← hV]; exact heap_alloc_new _ _
            exact ⟨cell_of_row _ _ _ _ _ _ e, cell_of_row _ _ _ _ _ _ e⟩
          go_upto_region 8 with fail
          try rw [hV]
          clear hV
          cases hx : ndB n x with
          | false =>
            have HF : Hid (chkG n l = 1) := by show _ = _; rw [HC.out, NO.out (by rw [EN.out, hx]; rfl)]; rfl
            have CI : Hid (∀ W', Calls Try.prog 55 #[.agg #[.int .i64 n, .slice (some ⟨X, o, none⟩) m c], .int .i64 x] W' fun e w' => e = .returned (.bool false) ∧ Below W'.heap.size W' w') := fun W' => by have := isNode_any W' n x (some ⟨X, o, none⟩) m c; rw [hx] at this; exact this
            clear hx
            go_wp2_with (go_at_call 55; refine (CI.out _).mono ?_; rintro e w6 ⟨rfl, hb6⟩; have B6 := hid hb6; clear hb6)
            go_ret
            exact ⟨ret_i HF.out.symm, bl3 (bl3 BW.out BV.out) B6.out⟩
          | true =>
            have CI : Hid (∀ W', Calls Try.prog 55 #[.agg #[.int .i64 n, .slice (some ⟨X, o, none⟩) m c], .int .i64 x] W' fun e w' => e = .returned (.bool true) ∧ Below W'.heap.size W' w') := fun W' => by have := isNode_any W' n x (some ⟨X, o, none⟩) m c; rw [hx] at this; exact this
            cases hy : ndB n y with
            | false =>
              have HF : Hid (chkG n l = 1) := by show _ = _; rw [HC.out, NO.out (by rw [EN.out, hx, hy]; rfl)]; rfl
              have CJ : Hid (∀ W', Calls Try.prog 55 #[.agg #[.int .i64 n, .slice (some ⟨X, o, none⟩) m c], .int .i64 y] W' fun e w' => e = .returned (.bool false) ∧ Below W'.heap.size W' w') := fun W' => by have := isNode_any W' n y (some ⟨X, o, none⟩) m c; rw [hy] at this; exact this
              clear hx hy
              go_wp2_with (first | (go_at_call 55; refine (CI.out _).mono ?_; clear CI; rintro e w6 ⟨rfl, hb6⟩; have B6 := hid (bl3 BV.out hb6); obtain ⟨g0, g1⟩ := C0.out _ B6.out; obtain ⟨k0, k1⟩ := And.intro ((hb6.cell (p := ⟨wr.heap.size, 0, none⟩) VL).trans VE.1) ((hb6.cell (p := ⟨wr.heap.size, 1, none⟩) VL).trans VE.2); clear hb6) | (go_at_call 55; refine (CJ.out _).mono ?_; rintro e w7 ⟨rfl, hb7⟩; have B7 := hid (bl3 B6.out hb7); clear hb7))
              go_ret
              exact ⟨ret_i HF.out.symm, bl3 BW.out B7.out⟩
            | true =>
              have HF : Hid ((l.take (j + 1)).all (edB n) = true) := NX.out (by rw [EN.out, hx, hy]; rfl)
              have CJ : Hid (∀ W', Calls Try.prog 55 #[.agg #[.int .i64 n, .slice (some ⟨X, o, none⟩) m c], .int .i64 y] W' fun e w' => e = .returned (.bool true) ∧ Below W'.heap.size W' w') := fun W' => by have := isNode_any W' n y (some ⟨X, o, none⟩) m c; rw [hy] at this; exact this
              clear hx hy
              go_wp2_with (first | (go_at_call 55; refine (CI.out _).mono ?_; clear CI; rintro e w6 ⟨rfl, hb6⟩; have B6 := hid (bl3 BV.out hb6); obtain ⟨g0, g1⟩ := C0.out _ B6.out; obtain ⟨k0, k1⟩ := And.intro ((hb6.cell (p := ⟨wr.heap.size, 0, none⟩) VL).trans VE.1) ((hb6.cell (p := ⟨wr.heap.size, 1, none⟩) VL).trans VE.2); clear hb6) | (go_at_call 55; refine (CJ.out _).mono ?_; rintro e w7 ⟨rfl, hb7⟩; have B7 := hid (bl3 B6.out hb7); clear hb7))
              go_roundw
              case rel => exact ⟨j + 1, _, by go_num, rfl, by omega, HF, B7⟩
              case measure => simp [intOf]; omega
        · obtain rfl : j = m := by omega
          have HF : Hid (chkG n l = 0) := by
            have := HE.out
            rw [List.take_of_length_le (by rw [M1.out]; exact Nat.le_refl _)] at this
            show _ = _
            rw [HC.out, this]; rfl
          go_wp2
          go_ret
          exact ⟨ret_i HF.out.symm, bl3 BW.out HB.out⟩
end Go.Proofs.Ytghkhceplpjegaa
