/- Cells, the laws: calls as arguments; a cell behind a law's calls. -/
import Derived.Test.YtbgeihgenckihaaDoorCe0
import Derived.Test.YtbgeihgenckihaaDoorCd2
import Derived.Test.YtbgeihgenckihaaDoorCd4
import Derived.Test.YtbgeihgenckihaaDoorCb5
import Derived.Test.YtbgeihgenckihaaDoorCb8
namespace Go.Proofs.YtbgeihgenckihaaDoor
open Go.RowKit

/-- The variables of package fail, below a base. -/
structure FB (w : World) (base : Nat) : Prop where
  fv : FV w
  k1 : 2 < base
  k2 : 1 < base
  k3 : 0 < base
theorem FB.below {w w' : World} {base : Nat} (h : FB w base) (k : Below base w w') : FB w' base := by
  refine ⟨⟨fun i hi => ?_, fun i hi => ?_, fun r hr j hj => ?_⟩, h.k1, h.k2, h.k3⟩
  · rw [k.cell (p := ⟨2, i, none⟩) h.k1]; exact h.fv.keys i hi
  · rw [k.cell (p := ⟨1, i, none⟩) h.k2]; exact h.fv.words i hi
  · rw [k.cell (p := ⟨0, _, none⟩) h.k3]; exact h.fv.rows r hr j hj
/-- An act as it lies in memory. -/
structure Ax where
  kind : Int
  tk : Int
  at_ : Int
  ok : Int
  vp : Option Addr
  vc : Nat
  val : List Atm
  fp : Option Addr
  fc : Nat
  fl : List Cr
def Ax.o (x : Ax) : Oc := ⟨x.ok, x.val, x.fl⟩
def axC (x : Ax) : List Value := [.int .i64 x.kind, .int .i64 x.tk, .int .i64 x.at_, .int .i64 x.ok, .slice x.vp x.val.length x.vc, .slice x.fp x.fl.length x.fc]
def KX : RK Ax := ⟨43, 6, 80, .agg #[.int .i64 0, .int .i64 0, .int .i64 0, .int .i64 0, .slice none 0 0, .slice none 0 0], axC⟩
theorem KX_ok : KX.Ok Tryd.prog :=
  ⟨fun _ => rfl, fun x u hu => by simp [KX, axC] at hu; rcases hu with rfl | rfl | rfl | rfl | rfl | rfl <;> rfl, rfl, by decide, by decide, info_parts' (by kernel_rfl)⟩
structure ARG (w : World) (v : Value) (l : List Ax) : Prop where
  gs : GS KX w v l
  ok : ∀ x ∈ l, OkO w x.o (.slice x.vp x.val.length x.vc) (.slice x.fp x.fl.length x.fc)
  len : l.length ≤ 1000000000000000
theorem ARG.below {w w' : World} {v : Value} {l : List Ax} (h : ARG w v l) (k : Below w.heap.size w w') : ARG w' v l := ⟨h.gs.below k, fun x hx => (h.ok x hx).below k, h.len⟩
theorem ARG.cells {w : World} {p : Option Addr} {n cap k : Nat} {l : List Ax} (h : ARG w (.slice p n cap) l) (hk : k < l.length) : ∃ X o, p = some ⟨X, o, none⟩ ∧ w.cell? ⟨X, o + k * 6, none⟩ = some (.int .i64 l[k].kind) ∧ w.cell? ⟨X, o + k * 6 + 1, none⟩ = some (.int .i64 l[k].tk) ∧ w.cell? ⟨X, o + k * 6 + 2, none⟩ = some (.int .i64 l[k].at_) ∧ w.cell? ⟨X, o + k * 6 + 3, none⟩ = some (.int .i64 l[k].ok) ∧ w.cell? ⟨X, o + k * 6 + 4, none⟩ = some (.slice l[k].vp l[k].val.length l[k].vc) ∧ w.cell? ⟨X, o + k * 6 + 5, none⟩ = some (.slice l[k].fp l[k].fl.length l[k].fc) := by
  obtain ⟨X, o, h1, _, h2⟩ := GS.at h.gs hk
  exact ⟨X, o, h1, h2 0 _ rfl, h2 1 _ rfl, h2 2 _ rfl, h2 3 _ rfl, h2 4 _ rfl, h2 5 _ rfl⟩
/-- A cell above a base, behind a law's calls. -/
structure LS (w : World) (base : Nat) (wk : World) (b : Nat) (c : Ce) : Prop where
  cx : ∃ vv fv, CX wk b c vv fv
  ci : CI c
  bl : Below base w wk
  hb : base ≤ b
  hs : base ≤ w.heap.size
  fb : FB w base
theorem LS.lt {w : World} {base : Nat} {wk : World} {b : Nat} {c : Ce} (h : LS w base wk b c) : b < wk.heap.size := by obtain ⟨_, _, q⟩ := h.cx; exact q.lt
theorem LS.below {w : World} {base : Nat} {wk w' : World} {b : Nat} {c : Ce} (h : LS w base wk b c) (k : Below wk.heap.size wk w') : LS w base w' b c := by
  obtain ⟨vv, fv, q⟩ := h.cx
  exact ⟨⟨vv, fv, q.below k⟩, h.ci, h.bl.trans (k.mono (by have := h.bl.size; have := h.hs; omega)), h.hb, h.hs, h.fb⟩
theorem LS.bu {w : World} {base : Nat} {wk w' : World} {b : Nat} {c : Ce} (h : LS w base wk b c) {c' : Ce} (k : Cdo wk b c' w') (hc : CI c') : LS w base w' b c' ∧ Bu b wk w' := by
  obtain ⟨vv, fv, q1, q2⟩ := k
  exact ⟨⟨⟨vv, fv, q1⟩, hc, h.bl.trans (q2.to h.hb (by have := h.bl.size; have := h.hs; omega)), h.hb, h.hs, h.fb⟩, q2⟩
theorem begX_ci {c : Ce} {tk n : Int} (h : CI c) : CI (begX c tk n) := by
  unfold begX; split
  · exact beg_ci h (by assumption)
  · exact h
theorem endX_ci {c : Ce} {tk n : Int} {o : Oc} (h : CI c) : CI (endX c tk o n) := by
  unfold endX; split
  · exact end_ci h (by assumption)
  · exact h
theorem resX_ci {c : Ce} {n : Int} (h : CI c) : CI (resX c n) := by
  unfold resX; split
  · exact res_ci h (by assumption)
  · exact h
theorem cloX_ci {c : Ce} (h : CI c) : CI (cloX c) := by
  unfold cloX; split
  · exact clo_ci h
  · exact h
theorem begin_ls {w : World} {base : Nat} {wk : World} {b : Nat} {c : Ce} (h : LS w base wk b c) (tk n : Int) :
    Calls Tryd.prog 11 #[.pointer (some ⟨b, 0, none⟩), .int .i64 tk, .int .i64 n] wk fun e w' => e = .returned (.tuple #[.int .i64 (begG c tk n), .int .i64 (begE c tk n)]) ∧ LS w base w' b (begX c tk n) ∧ Bu b wk w' := by
  obtain ⟨vv, fv, q⟩ := h.cx
  exact (begin_any wk b c vv fv q h.ci tk n).mono (fun e w' r => ⟨r.1, h.bu r.2 (begX_ci h.ci)⟩)
theorem reset_ls {w : World} {base : Nat} {wk : World} {b : Nat} {c : Ce} (h : LS w base wk b c) (n : Int) :
    Calls Tryd.prog 12 #[.pointer (some ⟨b, 0, none⟩), .int .i64 n] wk fun e w' => e = .returned (.int .i64 (resE c n)) ∧ LS w base w' b (resX c n) ∧ Bu b wk w' := by
  obtain ⟨vv, fv, q⟩ := h.cx
  exact (reset_any wk b c vv fv q h.ci n).mono (fun e w' r => ⟨r.1, h.bu r.2 (resX_ci h.ci)⟩)
theorem close_ls {w : World} {base : Nat} {wk : World} {b : Nat} {c : Ce} (h : LS w base wk b c) :
    Calls Tryd.prog 18 #[.pointer (some ⟨b, 0, none⟩)] wk fun e w' => e = .returned (.int .i64 (cloE c)) ∧ LS w base w' b (cloX c) ∧ Bu b wk w' := by
  obtain ⟨vv, fv, q⟩ := h.cx
  exact (close_any wk b c vv fv q h.ci).mono (fun e w' r => ⟨r.1, h.bu r.2 (cloX_ci h.ci)⟩)
theorem end_ls {w : World} {base : Nat} {wk : World} {b : Nat} {c : Ce} (h : LS w base wk b c) (tk n : Int) (o : Oc) (va fl : Value) (ho : OkO wk o va fl) (n1 : ∀ x, va.ownBlock = some x → x ≠ b) (n2 : ∀ x, fl.ownBlock = some x → x ≠ b) :
    Calls Tryd.prog 16 #[.pointer (some ⟨b, 0, none⟩), .int .i64 tk, .agg #[.int .i64 o.kind, va, fl], .int .i64 n] wk fun e w' => e = .returned (.int .i64 (endE c tk o n)) ∧ LS w base w' b (endX c tk o n) ∧ Bu b wk w' := by
  obtain ⟨vv, fv, q⟩ := h.cx
  exact (end_any wk b c vv fv q h.ci tk n o va fl ho (h.fb.below h.bl).fv n1 n2).mono (fun e w' r => ⟨r.1, h.bu r.2 (endX_ci h.ci)⟩)
theorem told_ls {w : World} {base : Nat} {wk : World} {b : Nat} {c : Ce} (h : LS w base wk b c) :
    Calls Tryd.prog 19 #[.pointer (some ⟨b, 0, none⟩)] wk fun e w' => e = .returned (.agg #[.int .i64 c.st, .int .i64 c.gen, .int .i64 c.tk, .int .i64 c.fails, .int .i64 (tnx c)]) ∧ LS w base w' b c ∧ Below wk.heap.size wk w' := by
  obtain ⟨vv, fv, q⟩ := h.cx
  exact (told_any wk b c vv fv q h.ci).mono (fun e w' r => ⟨r.1, h.below r.2, r.2⟩)
theorem ask_ls {w : World} {base : Nat} {wk : World} {b : Nat} {c : Ce} (h : LS w base wk b c) (n : Int) :
    Calls Tryd.prog 22 #[.pointer (some ⟨b, 0, none⟩), .int .i64 n] wk fun e w' => e = .returned (.int .i64 (askC c n)) ∧ LS w base w' b c ∧ Below wk.heap.size wk w' := by
  obtain ⟨vv, fv, q⟩ := h.cx
  exact (ask_any wk b c vv fv q h.ci n).mono (fun e w' r => ⟨r.1, h.below r.2, r.2⟩)
theorem outcome_ls {w : World} {base : Nat} {wk : World} {b : Nat} {c : Ce} (h : LS w base wk b c) :
    Calls Tryd.prog 20 #[.pointer (some ⟨b, 0, none⟩)] wk fun e w' => OutR wk c w' e ∧ LS w base w' b c := by
  obtain ⟨vv, fv, q⟩ := h.cx
  exact (outcome_any wk b c vv fv q h.ci).mono (fun e w' r => ⟨r, by obtain ⟨_, _, _, _, _, r2⟩ := r; exact h.below r2.2.2⟩)
theorem new_ls (w : World) (base : Nat) (hb : base ≤ w.heap.size) (hf : FB w base) (wk : World) (k : Below base w wk) (ag : Bool) (p : Pol) :
    Calls Tryd.prog 7 #[.bool ag, polV p] wk fun e w' => Below wk.heap.size wk w' ∧ ((polB p = false ∧ e = .returned (.tuple #[.pointer none, .int .i64 50])) ∨ (polB p = true ∧ ∃ b, wk.heap.size ≤ b ∧ e = .returned (.tuple #[.pointer (some ⟨b, 0, none⟩), .int .i64 0]) ∧ LS w base w' b (newC ag p))) := by
  refine (cnew_any wk ag p).mono ?_
  rintro e w' ⟨r1, r2⟩
  refine ⟨r1, ?_⟩
  rcases r2 with r2 | ⟨r2, b, r3, r4, r5⟩
  · exact Or.inl r2
  · have := k.size
    exact Or.inr ⟨r2, b, r3, r4, ⟨⟨_, _, r5⟩, new_ci r2, k.trans (r1.mono (by omega)), by omega, hb, hf⟩⟩
/-- The chapter's second example. -/
def pW : Pol := ⟨3, 10, 2, 100⟩
def oW : Oc := ⟨2, [], [⟨6, 0, ByteArray.empty⟩]⟩
def W1 : Ce := newC true pW
def W2 : Ce := begX W1 1 0
def W3 : Ce := endX W2 1 oW 5
theorem w_1 : begG W1 1 0 = 1 ∧ begE W1 1 0 = 0 := by decide
theorem w_2 : endE W2 1 oW 5 = 0 := by decide
theorem w_3 : W3.st = 4 ∧ W3.gen = 1 ∧ W3.tk = 0 ∧ W3.fails = 1 ∧ tnx W3 = 15 := by decide
theorem w_4 : askC W3 14 = 3 ∧ askC W3 15 = 1 := by decide
end Go.Proofs.YtbgeihgenckihaaDoor
