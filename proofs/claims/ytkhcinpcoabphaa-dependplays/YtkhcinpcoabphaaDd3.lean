/- Depend: calls of a law, with the rows that it keeps. -/
import Derived.Test.YtkhcinpcoabphaaDe3
import Derived.Test.YtkhcinpcoabphaaDe4
namespace Go.Proofs.Ytkhcinpcoabphaa
open Go.RowKit

/-- A row of the law's own, apart from the web. -/
def OB (w : World) (b : Nat) (v : Value) (l : List Nat) : Prop := ∃ base, b < base ∧ OwnG KI w base v (nI l)
theorem OB.gs {w : World} {b : Nat} {v : Value} {l : List Nat} (h : OB w b v l) : GS KI w v (nI l) := by
  obtain ⟨base, _, h⟩ := h
  exact h.gs KI_ok.len
/-- Such rows stay. -/
def Kp (b : Nat) (w w' : World) : Prop := ∀ v l, OB w b v l → OB w' b v l
theorem Kp.of_below {b : Nat} {w w' : World} (h : Below w.heap.size w w') : Kp b w w' := fun _ _ ⟨base, hb, ho⟩ => ⟨base, hb, ho.below h⟩
theorem Kp.of_but {b : Nat} {w w' : World} (h : But (fun x => x = b) w w') : Kp b w w' := fun _ _ ⟨base, hb, ho⟩ => ⟨base, hb, ho.far fun g hg => h.block g (ho.lt hg).2 (fun e => by have e : g = b := e; have := (ho.lt hg).1; omega)⟩
theorem tkB_nat {t : Nat} (h : t < 128) : tkB t = true := by simp [tkB]; omega
theorem clB_nat {t : Nat} (h : t < 256) : clB t = true := by simp [clB]; omega
theorem stack_k {w0 w : World} {b : Nat} {X : Wb} {m : Nat} (h : PW w0 w b X m) {t : Nat} (ht : t < 128) : Calls Try.prog 21 #[.pointer (some ⟨b, 0, none⟩), .int .i64 t] w fun e w' => ∃ q cc, e = .returned (.tuple #[.slice q (stk X t).length cc, .int .i64 0]) ∧ OB w' b (.slice q (stk X t).length cc) (stk X t) ∧ PW w0 w' b X m ∧ Kp b w w' := by
  have := stackF_any w b X h.wx h.wi t
  have e : stkO X t = stk X t := by unfold stkO; rw [tkB_nat ht]; rfl
  rw [e, tkB_nat ht] at this
  refine this.mono ?_
  rintro e w' ⟨q, cc, rfl, ho, hb⟩
  exact ⟨q, cc, rfl, ⟨_, h.lt, ho⟩, h.below hb, Kp.of_below hb⟩
theorem waiters_k {w0 w : World} {b : Nat} {X : Wb} {m : Nat} (h : PW w0 w b X m) {t : Nat} (ht : t < 256) : Calls Try.prog 24 #[.pointer (some ⟨b, 0, none⟩), .int .i64 t] w fun e w' => ∃ q cc, e = .returned (.tuple #[.slice q (wai X t).length cc, .int .i64 0]) ∧ OB w' b (.slice q (wai X t).length cc) (wai X t) ∧ PW w0 w' b X m ∧ Kp b w w' := by
  have := waitersF_any w b X h.wx h.wi t
  have e : waiO X t = wai X t := by unfold waiO; rw [clB_nat ht]; rfl
  rw [e, clB_nat ht] at this
  refine this.mono ?_
  rintro e w' ⟨q, cc, rfl, ho, hb⟩
  exact ⟨q, cc, rfl, ⟨_, h.lt, ho⟩, h.below hb, Kp.of_below hb⟩
theorem runner_k {w0 w : World} {b : Nat} {X : Wb} {m : Nat} (h : PW w0 w b X m) {c : Nat} (hc : c < 256) : Calls Try.prog 23 #[.pointer (some ⟨b, 0, none⟩), .int .i64 c] w fun e w' => e = .returned (.tuple #[.int .i64 (X.r c).to, .bool (X.r c).is, .int .i64 0]) ∧ PW w0 w' b X m ∧ Kp b w w' := by
  have := runner_any w b X h.wx h.wi c
  rw [runE_at hc] at this
  refine this.mono ?_
  rintro e w' ⟨rfl, hb⟩
  exact ⟨rfl, h.below hb, Kp.of_below hb⟩
theorem waiting_k {w0 w : World} {b : Nat} {X : Wb} {m : Nat} (h : PW w0 w b X m) {c : Nat} (hc : c < 128) : Calls Try.prog 22 #[.pointer (some ⟨b, 0, none⟩), .int .i64 c] w fun e w' => e = .returned (.tuple #[.int .i64 (X.w c).to, .bool (X.w c).is, .int .i64 0]) ∧ PW w0 w' b X m ∧ Kp b w w' := by
  have := waiting_any w b X h.wx h.wi c
  rw [wtgE_at hc] at this
  refine this.mono ?_
  rintro e w' ⟨rfl, hb⟩
  exact ⟨rfl, h.below hb, Kp.of_below hb⟩
theorem begin_k {w0 w : World} {b : Nat} {X : Wb} {m : Nat} (h : PW w0 w b X m) (hm : m ≤ 4611686018427387904) (t c : Int) : Calls Try.prog 8 #[.pointer (some ⟨b, 0, none⟩), .int .i64 t, .int .i64 c] w fun e w' => e = .returned (.int .i64 (begE X t c)) ∧ PW w0 w' b (begX X t c) (m + 1) ∧ Kp b w w' :=
  (begin_pw h hm t c).mono fun _ _ ⟨h1, h2, h3⟩ => ⟨h1, h2, Kp.of_but h3⟩
theorem wake_k {w0 w : World} {b : Nat} {X : Wb} {m : Nat} (h : PW w0 w b X m) (t : Int) : Calls Try.prog 18 #[.pointer (some ⟨b, 0, none⟩), .int .i64 t] w fun e w' => e = .returned (.int .i64 (wakE X t)) ∧ PW w0 w' b (wakX X t) m ∧ Kp b w w' :=
  (wake_pw h t).mono fun _ _ ⟨h1, h2, h3⟩ => ⟨h1, h2, Kp.of_but h3⟩
theorem wait_k {w0 w : World} {b : Nat} {X : Wb} {m : Nat} (h : PW w0 w b X m) (hm : m ≤ 4611686018427387904) (t c : Int) : Calls Try.prog 9 #[.pointer (some ⟨b, 0, none⟩), .int .i64 t, .int .i64 c] w fun e w' => ∃ q cc, e = .returned (.tuple #[.slice q (wtL X t c).length cc, .int .i64 (wtE X t c)]) ∧ OB w' b (.slice q (wtL X t c).length cc) (wtL X t c) ∧ PW w0 w' b (wtX X t c) (m + 1) ∧ Kp b w w' :=
  (wait_pw h hm t c).mono fun _ _ ⟨q, cc, h0, h1, h2, h3⟩ => ⟨q, cc, h0, ⟨_, h.lt, h1⟩, h2, Kp.of_but h3⟩
theorem end_k {w0 w : World} {b : Nat} {X : Wb} {m : Nat} (h : PW w0 w b X m) (t : Int) : Calls Try.prog 14 #[.pointer (some ⟨b, 0, none⟩), .int .i64 t] w fun e w' => ∃ q cc, e = .returned (.tuple #[.int .i64 (endC X t), .slice q (endL X t).length cc, .int .i64 (endE X t)]) ∧ OB w' b (.slice q (endL X t).length cc) (endL X t) ∧ PW w0 w' b (endX X t) m ∧ Kp b w w' :=
  (end_pw h t).mono fun _ _ ⟨q, cc, h0, h1, h2, h3⟩ => ⟨q, cc, h0, ⟨_, h.lt, h1⟩, h2, Kp.of_but h3⟩
theorem ask_k {w0 w : World} {b : Nat} {X : Wb} {m : Nat} (h : PW w0 w b X m) (t c : Int) : Calls Try.prog 10 #[.pointer (some ⟨b, 0, none⟩), .int .i64 t, .int .i64 c] w fun e w' => ∃ q cc, e = .returned (.tuple #[.slice q (askL X t c).length cc, .int .i64 (askE X t c)]) ∧ OB w' b (.slice q (askL X t c).length cc) (askL X t c) ∧ PW w0 w' b X m ∧ Kp b w w' :=
  (ask_pw h t c).mono fun _ _ ⟨q, cc, h0, h1, h2, h3⟩ => ⟨q, cc, h0, ⟨_, h.lt, h1⟩, h2, Kp.of_below h3⟩
theorem nI_inj' : ∀ {l k : List Nat}, nI l = nI k → l = k
  | [], [], _ => rfl
  | [], _ :: _, h => by cases h
  | _ :: _, [], h => by cases h
  | a :: l, b :: k, h => by
    have h : ((a : Int) :: nI l) = (b : Int) :: nI k := h
    injection h with h1 h2
    rw [nI_inj' h2, show a = b by omega]
theorem nI_inj {l k : List Nat} : nI l = nI k ↔ l = k := ⟨nI_inj', fun h => by rw [h]⟩
theorem ints_k {w0 w : World} {b : Nat} {X : Wb} {m : Nat} (h : PW w0 w b X m) {v u : Value} {l k : List Nat} (hv : OB w b v l) (hu : OB w b u k) (hl : l.length ≤ 100000) : Calls Try.prog 11 #[v, u] w fun e w' => e = .returned (.bool (decide (l = k))) ∧ PW w0 w' b X m ∧ Kp b w w' := by
  refine (ints_any w v u _ _ hv.gs hu.gs (by rw [nI_len]; omega)).mono ?_
  rintro e w' ⟨rfl, hb⟩
  refine ⟨?_, h.below hb, Kp.of_below hb⟩
  congr 2
  exact decide_eq_decide.2 nI_inj
theorem am_nat (x n : Int) (hn : 0 < n) : ∃ k : Nat, amF x n = k ∧ (k : Int) < n := by
  have := amF_bd x n hn
  exact ⟨(amF x n).toNat, by omega, by omega⟩
end Go.Proofs.Ytkhcinpcoabphaa
