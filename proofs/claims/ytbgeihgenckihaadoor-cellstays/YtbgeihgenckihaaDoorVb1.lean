/- Values: rows of atoms, of numbers, of texts; is it an atom? -/
import Derived.Test.YtbgeihgenckihaaDoorFx7
import Derived.Test.YtbgeihgenckihaaDoorProg
import Derived.Test.YtbgeihgenckihaaDoorGr1
import Derived.Test.YtbgeihgenckihaaDoorVa1
namespace Go.Proofs.YtbgeihgenckihaaDoor
open Go.RowKit

theorem info_parts' {P : Program} {t : TypeId} {z : Value} {n m : Nat} (h : (P.info? t).map (fun i => (i.zero, i.size, i.bytes)) = some (some z, n, m)) : ∃ i, P.info? t = some i ∧ i.zero = some z ∧ i.size = n ∧ i.bytes = m := by
  obtain ⟨i, h1, h2⟩ := Option.map_eq_some_iff.1 h
  simp only [Prod.mk.injEq] at h2
  exact ⟨i, h1, h2.1, h2.2.1, h2.2.2⟩
def atC (o : Atm) : List Value := [.int .i64 o.kind, .int .i64 o.n, .int .i64 o.int, .string o.text]
def atV (o : Atm) : Value := .agg #[.int .i64 o.kind, .int .i64 o.n, .int .i64 o.int, .string o.text]
def KA : RK Atm := ⟨77, 4, 40, .agg #[.int .i64 0, .int .i64 0, .int .i64 0, .string ByteArray.empty], atC⟩
theorem KA_ok : KA.Ok Tryd.prog :=
  ⟨fun _ => rfl, fun x u hu => by simp [KA, atC] at hu; rcases hu with rfl | rfl | rfl | rfl <;> rfl, rfl, by decide, by decide, info_parts' (by kernel_rfl)⟩
abbrev AS (w : World) (v : Value) (l : List Atm) : Prop := GS KA w v l
theorem GS.atA {w : World} {p : Option Addr} {n cap k : Nat} {l : List Atm} (h : GS KA w (.slice p n cap) l) (hk : k < l.length) : ∃ X o, p = some ⟨X, o, none⟩ ∧ w.cell? ⟨X, o + k * 4, none⟩ = some (.int .i64 l[k].kind) ∧ w.cell? ⟨X, o + k * 4 + 1, none⟩ = some (.int .i64 l[k].n) ∧ w.cell? ⟨X, o + k * 4 + 2, none⟩ = some (.int .i64 l[k].int) ∧ w.cell? ⟨X, o + k * 4 + 3, none⟩ = some (.string l[k].text) := by
  obtain ⟨X, o, h1, _, h2⟩ := GS.at h hk
  exact ⟨X, o, h1, h2 0 _ rfl, h2 1 _ rfl, h2 2 _ rfl, h2 3 _ rfl⟩
def KI : RK Int := ⟨3, 1, 8, .int .i64 0, fun x => [.int .i64 x]⟩
theorem KI_ok : KI.Ok Tryd.prog :=
  ⟨fun _ => rfl, fun x u hu => by simp [KI] at hu; subst hu; rfl, rfl, by decide, by decide, info_parts' (by kernel_rfl)⟩
abbrev IS (w : World) (v : Value) (l : List Int) : Prop := GS KI w v l
theorem GS.atI {w : World} {p : Option Addr} {n cap k : Nat} {l : List Int} (h : GS KI w (.slice p n cap) l) (hk : k < l.length) : ∃ X o, p = some ⟨X, o, none⟩ ∧ w.cell? ⟨X, o + k, none⟩ = some (.int .i64 l[k]) := by
  obtain ⟨X, o, h1, _, h2⟩ := GS.at h hk
  have := h2 0 _ rfl
  rw [show KI.W = 1 from rfl, Nat.mul_one] at this
  exact ⟨X, o, h1, this⟩
/-- A cell of a row of numbers of the call's own. -/
theorem own_int {w : World} {base g n cap : Nat} {S : List Int} (h : OwnG KI w base (.slice (some ⟨g, 0, none⟩) n cap) S) (hn : n = S.length) {j : Nat} (hj : j < S.length) : w.cell? ⟨g, j, none⟩ = some (.int .i64 (S.getD j 0)) := by
  subst hn
  obtain ⟨X, o, e, hc⟩ := (h.gs KI_ok.len).atI hj
  injection e with e
  injection e with e1 e2 _
  subst e1 e2
  rw [Nat.zero_add] at hc
  rw [hc]; simp [List.getD, List.getElem?_eq_getElem hj]
theorem drop_at {l : List Atm} {k : Nat} (h : k < l.length) : l.drop k = l[k] :: l.drop (k + 1) := List.drop_eq_getElem_cons h
theorem isNumber_any (n : Int) (w : World) : Calls Tryd.prog 72 #[.int .i64 n] w fun e w' => e = .returned (.bool (decide (-9007199254740992 ≤ n ∧ n ≤ 9007199254740992))) ∧ w' = w := by
  by_cases h1 : -9007199254740992 ≤ n
  · by_cases h2 : n ≤ 9007199254740992
    · go_enter Tryd.func72, Tryd.ntmps72
      go_wp2
      go_ret
      exact ⟨ret_bool (by simp; omega), rfl⟩
    · go_enter Tryd.func72, Tryd.ntmps72
      go_wp2
      go_ret
      exact ⟨ret_bool (by simp; omega), rfl⟩
  · go_enter Tryd.func72, Tryd.ntmps72
    go_wp2
    go_ret
    exact ⟨ret_bool (by simp; omega), rfl⟩
end Go.Proofs.YtbgeihgenckihaaDoor
