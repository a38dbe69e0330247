/- Plain mathematics of quoted texts. No condition. -/
import Derived.Test.YtpiikidpgjmmbaaDoorBytes
namespace Go.Proofs.YtpiikidpgjmmbaaDoor

def hexDig : ByteArray := ⟨#[48, 49, 50, 51, 52, 53, 54, 55, 56, 57, 97, 98, 99, 100, 101, 102]⟩
/-- The digit to the base 16. -/
def hexD (n : Nat) : UInt8 := hexDig.data.toList.getD n 0
/-- A byte as it is written within quotes. -/
def qB (c : UInt8) : List UInt8 :=
  if c = 34 ∨ c = 92 then [92, c] else if c = 10 then [92, 110] else if 32 ≤ c.toNat ∧ c.toNat ≤ 126 then [c] else [92, 120, hexD (c.toNat / 16), hexD (c.toNat % 16)]
def quo (l : List UInt8) : List UInt8 := [34] ++ l.flatMap qB ++ [34]
theorem qB_len (c : UInt8) : (qB c).length ≤ 4 := by unfold qB; split; simp; split; simp; split <;> simp
theorem qB_len1 (c : UInt8) : 1 ≤ (qB c).length := by unfold qB; split; simp; split; simp; split <;> simp
theorem qBs_len : ∀ l : List UInt8, (l.flatMap qB).length ≤ 4 * l.length
  | [] => by simp
  | c :: r => by have := qBs_len r; have := qB_len c; rw [List.flatMap_cons, List.length_append, List.length_cons]; omega
theorem take_snoc (s : ByteArray) (k : Nat) (h : k < s.size) : s.data.toList.take (k + 1) = s.data.toList.take k ++ [s[k]] := by
  rw [List.take_succ_eq_append_getElem (by simpa using h)]; rfl
theorem qBs_snoc (s : ByteArray) (k : Nat) (h : k < s.size) : (s.data.toList.take (k + 1)).flatMap qB = (s.data.toList.take k).flatMap qB ++ qB s[k] := by
  rw [take_snoc s k h, List.flatMap_append]; simp
theorem qB_esc {c : UInt8} (h : (c.toNat : Int) = 34 ∨ (c.toNat : Int) = 92) : qB c = [92, c] := by
  have : c = 34 ∨ c = 92 := by rcases h with h | h; left; apply UInt8.toNat_inj.1; simp; omega; right; apply UInt8.toNat_inj.1; simp; omega
  unfold qB; rw [if_pos this]
theorem qB_34 {c : UInt8} (h : (c.toNat : Int) = 34) : qB c = [92] ++ [34] := by
  have : c = 34 := by apply UInt8.toNat_inj.1; simp; omega
  subst this; rfl
theorem qB_92 {c : UInt8} (h : (c.toNat : Int) = 92) : qB c = [92] ++ [92] := by
  have : c = 92 := by apply UInt8.toNat_inj.1; simp; omega
  subst this; rfl
theorem toNat_ne {c : UInt8} {n : Nat} (hn : n < 256) (h : ¬ (c.toNat : Int) = n) : ¬ c = UInt8.ofNat n := by
  intro e; apply h; rw [e]; simp; omega
theorem qB_nl {c : UInt8} (h : (c.toNat : Int) = 10) : qB c = [92, 110] := by
  have : c = 10 := by apply UInt8.toNat_inj.1; simp; omega
  subst this; rfl
theorem qB_plain {c : UInt8} (h1 : ¬ (c.toNat : Int) = 34) (h2 : ¬ (c.toNat : Int) = 92) (h3 : 32 ≤ (c.toNat : Int)) (h4 : (c.toNat : Int) ≤ 126) : qB c = [c] := by
  unfold qB
  rw [if_neg (by rintro (e | e) <;> subst e <;> simp at h1 h2), if_neg (by intro e; subst e; simp at h3), if_pos (by omega)]
theorem qB_hex {c : UInt8} (h1 : ¬ (c.toNat : Int) = 10) (h2 : (c.toNat : Int) < 32 ∨ 126 < (c.toNat : Int)) : qB c = [92, 120, hexD (c.toNat / 16), hexD (c.toNat % 16)] := by
  unfold qB
  rw [if_neg (by rintro (e | e) <;> subst e <;> simp at h2), if_neg (by intro e; subst e; simp at h1), if_neg (by omega)]
theorem hexAt (j n : Nat) (hj : j = n) (h : j < hexDig.size) : ((hexDig[j]'h).toNat : Int) = ((hexD n).toNat : Int) := by
  subst hj
  have : hexDig[j] = hexD j := by
    have h' : j < hexDig.data.toList.length := h
    simp only [hexD, List.getD_eq_getElem?_getD, List.getElem?_eq_getElem h', Option.getD_some]; rfl
  rw [this]
theorem cells4 {a b : Int} {x y : UInt8} (ha : a = (x.toNat : Int)) (hb : b = (y.toNat : Int)) : (#[.int .u8 92, .int .u8 120, .int .u8 a, .int .u8 b] : Array Value).toList = [92, 120, x, y].map byteV := by
  subst ha hb; rfl
theorem wrap_u8 (n : Int) (h0 : 0 ≤ n) (h1 : n ≤ 255) : IntKind.u8.wrap n = n := by simp [IntKind.wrap, IntKind.signed, IntKind.bits]; omega
theorem and15 (c : UInt8) : bits BinOp.and IntKind.u8 (c.toNat : Int) 15 = (c.toNat : Int) % 16 := by
  have h : ∀ n : Fin 256, bits BinOp.and IntKind.u8 (n.val : Int) 15 = (n.val : Int) % 16 := by decide +kernel
  exact h ⟨c.toNat, UInt8.toNat_lt c⟩
end Go.Proofs.YtpiikidpgjmmbaaDoor
