/- Retry: an argument that is a list of calls. -/
import Derived.Test.YtddnagoljdhnlaaXo1
namespace Go.Proofs.Ytddnagoljdhnlaa
open Go.RowKit

structure Cl where
  kind : Int
  try_ : Int
  at_ : Int
  fine : Bool
theorem cellsCall : Try.prog.cellsOf 34 = 4 := by kernel_rfl
def KL : RK Cl := ⟨34, 4, 32, .agg #[.int .i64 0, .int .i64 0, .int .i64 0, .bool false], fun x => [.int .i64 x.kind, .int .i64 x.try_, .int .i64 x.at_, .bool x.fine]⟩
theorem open_calls {H : Type} {enc : TypeId × Value → H} {W : World} {r : Reach} {b0 : Nat} {v : Value} {d : DataW H} {ps : List MemPlace} (hval : Value.okWide Try.prog W r b0 22 v) (h : DataW.Trod enc Try.prog W 0 (fun _ => true) true 22 v d ps) :
    ∃ l : List Cl, GS KL W v l ∧ (∀ c ∈ l, (Lit.int .i64 c.try_).wf = true) ∧ (l = [] ∨ ∃ es spare, d = .slice es spare ∧ es.length = l.length) :=
  open_gs ⟨0, 0, 0, false⟩ KL (fun c => (Lit.int .i64 c.try_).wf = true) Try.underlying22 cellsCall (fun _ => rfl) (by decide) (fun n cs x hq => by
    obtain ⟨xs, k, _, hx, hcl, hxl, hf⟩ := DataW.trod_struct Try.underlying34 hq
    rw [cellsCall] at hcl
    match xs, hxl, cs, hcl with
    | [y0, y1, y2, y3], _, [c0, c1, c2, c3], _ =>
      have g0 := hf 0 _ rfl
      have g1 := hf 1 _ rfl
      have g2 := hf 2 _ rfl
      have g3 := hf 3 _ rfl
      simp [cellsInt, cellsBool] at g0 g1 g2 g3
      obtain ⟨m0, e0, _⟩ := DataW.trod_int Try.underlying3 g0
      obtain ⟨m1, e1, _, w1⟩ := DataW.trod_int Try.underlying3 g1
      obtain ⟨m2, e2, _⟩ := DataW.trod_int Try.underlying3 g2
      obtain ⟨m3, e3, _⟩ := DataW.trod_bool Try.underlying4 g3
      simp only [List.cons.injEq, and_true] at e0 e1 e2 e3
      subst e0 e1 e2 e3
      exact ⟨⟨m0, m1, m2, m3⟩, rfl, w1⟩) hval h
theorem GS.atL {w : World} {p : Option Addr} {n cap k : Nat} {l : List Cl} (h : GS KL w (.slice p n cap) l) (hk : k < l.length) : ∃ X o, p = some ⟨X, o, none⟩ ∧ w.cell? ⟨X, o + k * 4, none⟩ = some (.int .i64 l[k].kind) ∧ w.cell? ⟨X, o + k * 4 + 1, none⟩ = some (.int .i64 l[k].try_) ∧ w.cell? ⟨X, o + k * 4 + 2, none⟩ = some (.int .i64 l[k].at_) ∧ w.cell? ⟨X, o + k * 4 + 3, none⟩ = some (.bool l[k].fine) := by
  obtain ⟨X, o, h1, _, h2⟩ := GS.at h hk
  exact ⟨X, o, h1, h2 0 _ rfl, h2 1 _ rfl, h2 2 _ rfl, h2 3 _ rfl⟩
end Go.Proofs.Ytddnagoljdhnlaa
