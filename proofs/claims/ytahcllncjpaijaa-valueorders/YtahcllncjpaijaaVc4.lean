/- Values: numbers and texts as values; the first error of a row. -/
import Derived.Test.YtahcllncjpaijaaVc3
namespace Go.Proofs.Ytahcllncjpaijaa
open Go.RowKit

theorem OwnG.lit {α : Type} (K : RK α) (w : World) (l : List α) (cells : Array Value) (hc : cells.toList = l.flatMap K.f) (hl : cells.size = l.length * K.W) (hm : l.length ≤ maxLen) : OwnG K (w.alloc (.cells cells K.ty)) w.heap.size (.slice (some ⟨w.heap.size, 0, none⟩) l.length l.length) l :=
  ⟨by rw [← hc]; simpa using hl, Or.inr ⟨w.heap.size, l.length, cells, rfl, Nat.le_refl _, heap_alloc_new w _, Nat.le_refl _, hm, hl, by rw [← hc, List.take_of_length_le]; simp [hl]⟩⟩
/-- A value of new memory, and an error. -/
def AnsV (w w' : World) (e : Ending) (out : List Atm) (err : Int) : Prop := ∃ p c, e = .returned (.tuple #[.slice p out.length c, .int .i64 err]) ∧ OwnG KA w' w.heap.size (.slice p out.length c) out ∧ Below w.heap.size w w'
theorem AnsV.none {w w' : World} (b : Below w.heap.size w w') (err : Int) : AnsV w w' (.returned (.tuple #[.slice none 0 0, .int .i64 err])) [] err := ⟨.none, 0, rfl, OwnG.nil _ _ _, b⟩
theorem AnsV.one {w : World} (x : Atm) (err : Int) : AnsV w (w.alloc (.cells #[.int .i64 x.kind, .int .i64 x.n, .int .i64 x.int, .string x.text] 45)) (.returned (.tuple #[.slice (some ⟨w.heap.size, 0, .none⟩) 1 1, .int .i64 err])) [x] err :=
  ⟨_, 1, rfl, OwnG.lit KA w [x] _ rfl rfl (by show 1 ≤ maxLen; unfold maxLen; omega), (Below.refl _ _).alloc (Nat.le_refl _) _⟩
def inB (n : Int) : Bool := decide (-9007199254740992 ≤ n ∧ n ≤ 9007199254740992)
def intL (n : Int) : List Atm := if inB n = true then [⟨1, 0, n, ByteArray.empty⟩] else []
def intE (n : Int) : Int := if inB n = true then 0 else 1
def txtL (s : ByteArray) : List Atm := if s.size ≤ 4096 then [⟨2, 0, 0, s⟩] else []
def txtE (s : ByteArray) : Int := if s.size ≤ 4096 then 0 else 3
set_option maxHeartbeats 4000000 in
theorem int_any (n : Int) (w : World) : Calls Try.prog 5 #[.int .i64 n] w fun e w' => AnsV w w' e (intL n) (intE n) := by
  have IN : Hid (∀ w, Calls Try.prog 24 #[.int .i64 n] w fun e w' => e = .returned (.bool (inB n)) ∧ w' = w) := fun w => isNumber_any n w
  have HL : Hid (intL n = if inB n = true then [⟨1, 0, n, ByteArray.empty⟩] else []) := rfl
  have HE : Hid (intE n = if inB n = true then 0 else 1) := rfl
  cases hb : inB n with
  | true =>
    rw [hb] at IN HL HE
    rw [HL.out, HE.out, if_pos rfl, if_pos rfl]
    clear HL HE hb
    go_enter Try.func5, Try.ntmps5
    go_wp2_with fail
    refine Calls.mono (IN.out _) ?_
    rintro e w1 ⟨rfl, rfl⟩
    go_wp2_with fail
    exact bodyPost_ret (v := .tuple #[.slice (some ⟨w1.heap.size, 0, none⟩) 1 1, .int .i64 0]) (by simp [results, Try.results5, go_sem]) rfl (AnsV.one ⟨1, 0, n, ByteArray.empty⟩ 0)
  | false =>
    rw [hb] at IN HL HE
    rw [HL.out, HE.out, if_neg (by decide), if_neg (by decide)]
    clear HL HE hb
    go_enter Try.func5, Try.ntmps5
    go_wp2_with fail
    refine Calls.mono (IN.out _) ?_
    rintro e w1 ⟨rfl, rfl⟩
    go_wp2_with fail
    exact bodyPost_ret (v := .tuple #[.slice none 0 0, .int .i64 1]) (by simp [results, Try.results5, go_sem]) rfl (AnsV.none (Below.refl _ _) 1)
set_option maxHeartbeats 4000000 in
theorem rint_any (n : Int) (w : World) : Calls Try.prog 6 #[.int .i64 n] w fun e w' => AnsV w w' e (intL n) (intE n) := by
  have HL : Hid (intL n = if inB n = true then [⟨1, 0, n, ByteArray.empty⟩] else []) := rfl
  have HE : Hid (intE n = if inB n = true then 0 else 1) := rfl
  have HB : Hid (inB n = decide (-9007199254740992 ≤ n ∧ n ≤ 9007199254740992)) := rfl
  by_cases h1 : n < -9007199254740992
  · rw [HL.out, HE.out, if_neg (by rw [HB.out]; simp; omega), if_neg (by rw [HB.out]; simp; omega)]
    go_enter Try.func6, Try.ntmps6
    go_wp2_with fail
    exact bodyPost_ret (v := .tuple #[.slice none 0 0, .int .i64 1]) (by simp [results, Try.results6, go_sem]) rfl (AnsV.none (Below.refl _ _) 1)
  · by_cases h2 : n > 9007199254740992
    · rw [HL.out, HE.out, if_neg (by rw [HB.out]; simp; omega), if_neg (by rw [HB.out]; simp; omega)]
      go_enter Try.func6, Try.ntmps6
      go_wp2_with fail
      exact bodyPost_ret (v := .tuple #[.slice none 0 0, .int .i64 1]) (by simp [results, Try.results6, go_sem]) rfl (AnsV.none (Below.refl _ _) 1)
    · rw [HL.out, HE.out, if_pos (by rw [HB.out]; simp; omega), if_pos (by rw [HB.out]; simp; omega)]
      go_enter Try.func6, Try.ntmps6
      go_wp2_with fail
      exact bodyPost_ret (v := .tuple #[.slice (some ⟨w.heap.size, 0, none⟩) 1 1, .int .i64 0]) (by simp [results, Try.results6, go_sem]) rfl (AnsV.one ⟨1, 0, n, ByteArray.empty⟩ 0)
set_option maxHeartbeats 4000000 in
theorem text_any (s : ByteArray) (w : World) (_hs : s.size ≤ maxLen) : Calls Try.prog 8 #[.string s] w fun e w' => AnsV w w' e (txtL s) (txtE s) := by
  have HL : Hid (txtL s = if s.size ≤ 4096 then [⟨2, 0, 0, s⟩] else []) := rfl
  have HE : Hid (txtE s = if s.size ≤ 4096 then 0 else 3) := rfl
  by_cases h1 : s.size ≤ 4096
  · have h1I : ¬ (s.size : Int) > 4096 := by omega
    rw [HL.out, HE.out, if_pos h1, if_pos h1]
    go_enter Try.func8, Try.ntmps8
    go_wp2_with fail
    exact bodyPost_ret (v := .tuple #[.slice (some ⟨w.heap.size, 0, none⟩) 1 1, .int .i64 0]) (by simp [results, Try.results8, go_sem]) rfl (AnsV.one ⟨2, 0, 0, s⟩ 0)
  · have h1I : (s.size : Int) > 4096 := by omega
    rw [HL.out, HE.out, if_neg h1, if_neg h1]
    go_enter Try.func8, Try.ntmps8
    go_wp2_with fail
    exact bodyPost_ret (v := .tuple #[.slice none 0 0, .int .i64 3]) (by simp [results, Try.results8, go_sem]) rfl (AnsV.none (Below.refl _ _) 3)
set_option maxHeartbeats 4000000 in
theorem rtext_any (s : ByteArray) (w : World) (_hs : s.size ≤ maxLen) : Calls Try.prog 9 #[.string s] w fun e w' => AnsV w w' e (txtL s) (txtE s) := by
  have HL : Hid (txtL s = if s.size ≤ 4096 then [⟨2, 0, 0, s⟩] else []) := rfl
  have HE : Hid (txtE s = if s.size ≤ 4096 then 0 else 3) := rfl
  by_cases h1 : s.size ≤ 4096
  · have h1I : ¬ (s.size : Int) > 4096 := by omega
    rw [HL.out, HE.out, if_pos h1, if_pos h1]
    go_enter Try.func9, Try.ntmps9
    go_wp2_with fail
    exact bodyPost_ret (v := .tuple #[.slice (some ⟨w.heap.size, 0, none⟩) 1 1, .int .i64 0]) (by simp [results, Try.results9, go_sem]) rfl (AnsV.one ⟨2, 0, 0, s⟩ 0)
  · have h1I : (s.size : Int) > 4096 := by omega
    rw [HL.out, HE.out, if_neg h1, if_neg h1]
    go_enter Try.func9, Try.ntmps9
    go_wp2_with fail
    exact bodyPost_ret (v := .tuple #[.slice none 0 0, .int .i64 3]) (by simp [results, Try.results9, go_sem]) rfl (AnsV.none (Below.refl _ _) 3)
set_option maxHeartbeats 4000000 in
theorem checkAll_any (v : Value) (L : List Vx) (w : World) (h : VR w v L) (ht : VT L) :
    Calls Try.prog 25 #[v] w fun e w' => e = .returned (.int .i64 (allE (aL L))) ∧ Below w.heap.size w w' := by
  obtain ⟨p, cap, rfl⟩ := h.gs.form
  have hlm : L.length ≤ 140737488355328 := by have := ht.n; omega
  have HA : Hid (allE (aL L) = if 4096 < L.length then 3 else firstE (aL L)) := by show _ = _; unfold allE; rw [aL_len]
  have BR : Hid (Below w.heap.size w w) := Below.refl _ _
  have HS : Hid (VR w (.slice p L.length cap) L) := h
  have CK : Hid (∀ w1 k (hk : k < L.length), Below w.heap.size w w1 → Calls Try.prog 14 #[.slice L[k].q L[k].a.length L[k].c] w1 fun e w' => e = .returned (.int .i64 (chkV L[k].a)) ∧ Below w1.heap.size w1 w') := fun w1 k hk b => vcheck_any L[k].v L[k].a w1 ((h.av _ (List.getElem_mem hk)).below b) (ht.t _ (List.getElem_mem hk)) (by have := ht.l _ (List.getElem_mem hk); omega)
  have NX : Hid (∀ k (hk : k < L.length), chkV L[k].a = 0 → firstE (aL L) = firstE ((aL L).drop k) → firstE (aL L) = firstE ((aL L).drop (k + 1))) := fun k hk h0 h1 => firstE_step (by rw [aL_len]; exact hk) (by rw [aL_at hk]; exact h0) h1
  have BD : Hid (∀ k (hk : k < L.length), chkV L[k].a ≠ 0 → firstE (aL L) = firstE ((aL L).drop k) → firstE (aL L) = chkV L[k].a) := fun k hk h0 h1 => by
    have := firstE_bad (by rw [aL_len]; exact hk) (by rw [aL_at hk]; exact h0) h1
    rw [aL_at hk] at this; exact this
  have FN : Hid (∀ k, ¬ k < L.length → firstE (aL L) = firstE ((aL L).drop k) → firstE (aL L) = 0) := fun k hk h1 => firstE_end (by rw [aL_len]; exact hk) h1
  have D0 : Hid (firstE (aL L) = firstE ((aL L).drop 0)) := rfl
  clear h ht
  by_cases h1 : 4096 < L.length
  · have h1I : (L.length : Int) > 4096 := by omega
    rw [if_pos h1] at HA
    go_enter Try.func25, Try.ntmps25
    go_wp2_with fail
    go_ret
    exact ⟨by rw [HA.out]; rfl, BR.out⟩
  · have h1I : ¬ (L.length : Int) > 4096 := by omega
    rw [if_neg h1] at HA
    generalize firstE (aL L) = r at *
    generalize allE (aL L) = ra at *
    go_enter Try.func25, Try.ntmps25
    go_wp2_with fail
    go_loopw [11] (fun v11 wr => ∃ (k : Nat) (wk : World), v11 = .int .i64 k ∧ wk = wr ∧ k ≤ L.length ∧ Hid (r = firstE ((aL L).drop k)) ∧ Hid (Below w.heap.size w wk)) (fun v11 _ => L.length - (intOf v11).toNat)
    case atStart => exact ⟨0, _, rfl, rfl, Nat.zero_le _, D0, BR⟩
    case round =>
      obtain ⟨k, wr, rfl, rfl, hk, HD, HB⟩ := hrel
      clear D0 BR
      by_cases hlt : k < L.length
      · obtain ⟨X, o, e1, x0⟩ := (HS.out.gs.below HB.out).atV hlt
        obtain rfl : p = some ⟨X, o, none⟩ := e1
        have C1 : Hid _ := CK.out wr k hlt HB.out
        have NX1 : Hid _ := fun h0 => NX.out k hlt h0 HD.out
        have BD1 : Hid _ := fun h0 => BD.out k hlt h0 HD.out
        obtain ⟨c, hc⟩ : ∃ c, c = L[k] := ⟨_, rfl⟩
        rw [← hc] at x0 C1 NX1 BD1
        generalize chkV c.a = rc at *
        clear hc CK NX BD FN HS HD
        by_cases hz : rc = 0
        · subst hz
          have HN : Hid _ := NX1.out rfl
          clear NX1 BD1
          go_wp2_with fail
          refine Calls.mono C1.out ?_
          rintro e w1 ⟨rfl, hb1⟩
          have B1 : Hid (Below w.heap.size w w1) := HB.out.trans (hb1.mono HB.out.size)
          clear hb1 C1
          go_wp2_with fail
          go_roundw
          case rel => exact ⟨k + 1, _, by go_num, rfl, by omega, HN, B1⟩
          case measure => simp [intOf]; omega
        · have HN : Hid _ := BD1.out hz
          clear NX1 BD1
          go_wp2_with fail
          refine Calls.mono C1.out ?_
          rintro e w1 ⟨rfl, hb1⟩
          have B1 : Hid (Below w.heap.size w w1) := HB.out.trans (hb1.mono HB.out.size)
          clear hb1 C1
          go_wp2_with fail
          go_ret
          exact ⟨by rw [HA.out, HN.out]; rfl, B1.out⟩
      · have HF : Hid (r = 0) := FN.out k hlt HD.out
        clear HD FN NX BD CK
        go_wp2_with fail
        go_ret
        exact ⟨by rw [HA.out, HF.out]; rfl, HB.out⟩
set_option maxHeartbeats 4000000 in
theorem rfirst_any (v : Value) (L : List Vx) (w : World) (h : VR w v L) (ht : VT L) :
    Calls Try.prog 27 #[v] w fun e w' => e = .returned (.int .i64 (firstE (aL L))) ∧ Below w.heap.size w w' := by
  obtain ⟨p, cap, rfl⟩ := h.gs.form
  have hlm : L.length ≤ 140737488355328 := by have := ht.n; omega
  have BR : Hid (Below w.heap.size w w) := Below.refl _ _
  have HS : Hid (VR w (.slice p L.length cap) L) := h
  have CK : Hid (∀ w1 k (hk : k < L.length), Below w.heap.size w w1 → Calls Try.prog 15 #[.slice L[k].q L[k].a.length L[k].c] w1 fun e w' => e = .returned (.int .i64 (chkV L[k].a)) ∧ Below w1.heap.size w1 w') := fun w1 k hk b => rvcheck_any L[k].v L[k].a w1 ((h.av _ (List.getElem_mem hk)).below b) (ht.t _ (List.getElem_mem hk)) (by have := ht.l _ (List.getElem_mem hk); omega)
  have NX : Hid (∀ k (hk : k < L.length), chkV L[k].a = 0 → firstE (aL L) = firstE ((aL L).drop k) → firstE (aL L) = firstE ((aL L).drop (k + 1))) := fun k hk h0 h1 => firstE_step (by rw [aL_len]; exact hk) (by rw [aL_at hk]; exact h0) h1
  have BD : Hid (∀ k (hk : k < L.length), chkV L[k].a ≠ 0 → firstE (aL L) = firstE ((aL L).drop k) → firstE (aL L) = chkV L[k].a) := fun k hk h0 h1 => by
    have := firstE_bad (by rw [aL_len]; exact hk) (by rw [aL_at hk]; exact h0) h1
    rw [aL_at hk] at this; exact this
  have FN : Hid (∀ k, ¬ k < L.length → firstE (aL L) = firstE ((aL L).drop k) → firstE (aL L) = 0) := fun k hk h1 => firstE_end (by rw [aL_len]; exact hk) h1
  have D0 : Hid (firstE (aL L) = firstE ((aL L).drop 0)) := rfl
  clear h ht
  generalize firstE (aL L) = r at *
  go_enter Try.func27, Try.ntmps27
  go_wp2_with fail
  go_loopw [3] (fun v3 wr => ∃ (k : Nat) (wk : World), v3 = .int .i64 k ∧ wk = wr ∧ k ≤ L.length ∧ Hid (r = firstE ((aL L).drop k)) ∧ Hid (Below w.heap.size w wk)) (fun v3 _ => L.length - (intOf v3).toNat)
  case atStart => exact ⟨0, _, rfl, rfl, Nat.zero_le _, D0, BR⟩
  case round =>
    obtain ⟨k, wr, rfl, rfl, hk, HD, HB⟩ := hrel
    clear D0 BR
    by_cases hlt : k < L.length
    · obtain ⟨X, o, e1, x0⟩ := (HS.out.gs.below HB.out).atV hlt
      obtain rfl : p = some ⟨X, o, none⟩ := e1
      have C1 : Hid _ := CK.out wr k hlt HB.out
      have NX1 : Hid _ := fun h0 => NX.out k hlt h0 HD.out
      have BD1 : Hid _ := fun h0 => BD.out k hlt h0 HD.out
      obtain ⟨c, hc⟩ : ∃ c, c = L[k] := ⟨_, rfl⟩
      rw [← hc] at x0 C1 NX1 BD1
      generalize chkV c.a = rc at *
      clear hc CK NX BD FN HS HD
      by_cases hz : rc = 0
      · subst hz
        have HN : Hid _ := NX1.out rfl
        clear NX1 BD1
        go_wp2_with fail
        refine Calls.mono C1.out ?_
        rintro e w1 ⟨rfl, hb1⟩
        have B1 : Hid (Below w.heap.size w w1) := HB.out.trans (hb1.mono HB.out.size)
        clear hb1 C1
        go_wp2_with fail
        go_roundw
        case rel => exact ⟨k + 1, _, by go_num, rfl, by omega, HN, B1⟩
        case measure => simp [intOf]; omega
      · have HN : Hid _ := BD1.out hz
        clear NX1 BD1
        go_wp2_with fail
        refine Calls.mono C1.out ?_
        rintro e w1 ⟨rfl, hb1⟩
        have B1 : Hid (Below w.heap.size w w1) := HB.out.trans (hb1.mono HB.out.size)
        clear hb1 C1
        go_wp2_with fail
        go_ret
        exact ⟨by rw [HN.out]; rfl, B1.out⟩
    · have HF : Hid (r = 0) := FN.out k hlt HD.out
      clear HD FN NX BD CK
      go_wp2_with fail
      go_ret
      exact ⟨by rw [HF.out]; rfl, HB.out⟩
end Go.Proofs.Ytahcllncjpaijaa
