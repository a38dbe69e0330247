/- Plain mathematics of what quoted texts stand for. No condition. -/
import Derived.Test.YtahcllncjpaijabDoorQuote
namespace Go.Proofs.YtahcllncjpaijabDoor.L1

/-- The value of a digit to the base 16; -1: it is none. -/
def hexV (c : UInt8) : Int := if 48 ≤ (c.toNat : Int) ∧ (c.toNat : Int) ≤ 57 then (c.toNat : Int) - 48 else if 97 ≤ (c.toNat : Int) ∧ (c.toNat : Int) ≤ 102 then (c.toNat : Int) - 87 else -1
def plU (c : UInt8) : Bool := plB (c.toNat : Int)
/-- The byte of two digits to the base 16, if that is its one form. -/
def hexB (e f : UInt8) : Option UInt8 :=
  if 0 ≤ hexV e ∧ 0 ≤ hexV f then (if (32 ≤ 16 * hexV e + hexV f ∧ 16 * hexV e + hexV f ≤ 126) ∨ 16 * hexV e + hexV f = 10 then none else some (UInt8.ofNat (16 * hexV e + hexV f).toNat)) else none
theorem hexB_def (e f : UInt8) : hexB e f = if 0 ≤ hexV e ∧ 0 ≤ hexV f then (if (32 ≤ 16 * hexV e + hexV f ∧ 16 * hexV e + hexV f ≤ 126) ∨ 16 * hexV e + hexV f = 10 then none else some (UInt8.ofNat (16 * hexV e + hexV f).toNat)) else none := rfl
/-- The byte that the beginning stands for within quotes, and how many bytes say so. -/
def ub : List UInt8 → Option (UInt8 × Nat)
  | [] => none
  | c :: r => if plU c then some (c, 1) else if c ≠ 92 then none else match r with
    | [] => none
    | d :: r2 => if d = 34 ∨ d = 92 then some (d, 2) else if d = 110 then some (10, 2) else if d = 120 then (match r2 with
        | e :: f :: _ => (hexB e f).map fun b => (b, 4)
        | _ => none) else none
theorem ub_len : ∀ (l : List UInt8) (b : UInt8) (n : Nat), ub l = some (b, n) → 1 ≤ n ∧ n ≤ l.length := by
  intro l b n h
  unfold ub at h
  split at h
  · cases h
  · rename_i c r
    split at h
    · cases h; simp
    · split at h
      · cases h
      · split at h
        · cases h
        · split at h
          · cases h; simp
          · split at h
            · cases h; simp
            · split at h
              · split at h
                · rw [Option.map_eq_some_iff] at h
                  obtain ⟨_, _, h⟩ := h
                  cases h; simp
                · cases h
              · cases h
/-- What the text behind a first quote stands for, and how many bytes it has with its last quote. -/
def uq : List UInt8 → Option (List UInt8 × Nat)
  | [] => none
  | c :: r => if c = 34 then some ([], 1) else match ub (c :: r) with
    | none => none
    | some (b, n) => (uq (r.drop (n - 1))).map fun x => (b :: x.1, x.2 + n)
termination_by l => l.length
decreasing_by simp; omega
theorem uq_nil : uq [] = none := by rw [uq]
theorem uq_quote (r : List UInt8) : uq (34 :: r) = some ([], 1) := by rw [uq]; simp
theorem uq_none {c : UInt8} {r : List UInt8} (hc : c ≠ 34) (h : ub (c :: r) = none) : uq (c :: r) = none := by rw [uq, if_neg hc, h]
theorem uq_some {c : UInt8} {r : List UInt8} {b : UInt8} {n : Nat} (hc : c ≠ 34) (h : ub (c :: r) = some (b, n)) : uq (c :: r) = (uq ((c :: r).drop n)).map fun x => (b :: x.1, x.2 + n) := by
  rw [uq, if_neg hc, h]
  have := (ub_len _ _ _ h).1
  obtain ⟨m, rfl⟩ : ∃ m, n = m + 1 := ⟨n - 1, by omega⟩
  rfl
theorem ub_quote (r : List UInt8) : ub (34 :: r) = none := by
  have : plU 34 = false := by decide
  simp [ub, this]
end Go.Proofs.YtahcllncjpaijabDoor.L1
