/- Names: isWhole, hasLongText. -/
import Derived.Test.YthmppnmmlblbhaaDoorPx3
import Derived.Test.YthmppnmmlblbhaaDoorPy2
import Derived.Test.YthmppnmmlblbhaaDoorGr1
namespace Go.Proofs.YthmppnmmlblbhaaDoor
open Go.RowKit

theorem info_parts' {P : Program} {t : TypeId} {z : Value} {n m : Nat} (h : (P.info? t).map (fun i => (i.zero, i.size, i.bytes)) = some (some z, n, m)) : ∃ i, P.info? t = some i ∧ i.zero = some z ∧ i.size = n ∧ i.bytes = m := by
  obtain ⟨i, h1, h2⟩ := Option.map_eq_some_iff.1 h
  simp only [Prod.mk.injEq] at h2
  exact ⟨i, h1, h2.1, h2.2.1, h2.2.2⟩
def opC (o : Opn) : List Value := [.int .i64 o.kind, .int .i64 o.n, .int .i64 o.int, .string o.text]
def KO : RK Opn := ⟨45, 4, 40, .agg #[.int .i64 0, .int .i64 0, .int .i64 0, .string ByteArray.empty], opC⟩
theorem KO_ok : KO.Ok Tryd.prog :=
  ⟨fun _ => rfl, fun x u hu => by simp [KO, opC] at hu; rcases hu with rfl | rfl | rfl | rfl <;> rfl, rfl, by decide, by decide, info_parts' (by kernel_rfl)⟩
abbrev OS (w : World) (v : Value) (l : List Opn) : Prop := GS KO w v l
theorem GS.atO {w : World} {p : Option Addr} {n cap k : Nat} {l : List Opn} (h : GS KO w (.slice p n cap) l) (hk : k < l.length) : ∃ X o, p = some ⟨X, o, none⟩ ∧ w.cell? ⟨X, o + k * 4, none⟩ = some (.int .i64 l[k].kind) ∧ w.cell? ⟨X, o + k * 4 + 1, none⟩ = some (.int .i64 l[k].n) ∧ w.cell? ⟨X, o + k * 4 + 2, none⟩ = some (.int .i64 l[k].int) ∧ w.cell? ⟨X, o + k * 4 + 3, none⟩ = some (.string l[k].text) := by
  obtain ⟨X, o, h1, _, h2⟩ := GS.at h hk
  exact ⟨X, o, h1, h2 0 _ rfl, h2 1 _ rfl, h2 2 _ rfl, h2 3 _ rfl⟩
def KI : RK Int := ⟨3, 1, 8, .int .i64 0, fun x => [.int .i64 x]⟩
theorem KI_ok : KI.Ok Tryd.prog :=
  ⟨fun _ => rfl, fun x u hu => by simp [KI] at hu; subst hu; rfl, rfl, by decide, by decide, info_parts' (by kernel_rfl)⟩
abbrev IS (w : World) (v : Value) (l : List Int) : Prop := GS KI w v l
theorem GS.atI {w : World} {p : Option Addr} {n cap k : Nat} {l : List Int} (h : GS KI w (.slice p n cap) l) (hk : k < l.length) : ∃ X o, p = some ⟨X, o, none⟩ ∧ w.cell? ⟨X, o + k, none⟩ = some (.int .i64 l[k]) := by
  obtain ⟨X, o, h1, _, h2⟩ := GS.at h hk
  have := h2 0 _ rfl
  rw [show KI.W = 1 from rfl, Nat.mul_one] at this
  exact ⟨X, o, h1, this⟩
def KS : RK ByteArray := ⟨9, 1, 16, .string ByteArray.empty, fun x => [.string x]⟩
theorem KS_ok : KS.Ok Tryd.prog :=
  ⟨fun _ => rfl, fun x u hu => by simp [KS] at hu; subst hu; rfl, rfl, by decide, by decide, info_parts' (by kernel_rfl)⟩
abbrev SS (w : World) (v : Value) (l : List ByteArray) : Prop := GS KS w v l
theorem GS.atS {w : World} {p : Option Addr} {n cap k : Nat} {l : List ByteArray} (h : GS KS w (.slice p n cap) l) (hk : k < l.length) : ∃ X o, p = some ⟨X, o, none⟩ ∧ w.cell? ⟨X, o + k, none⟩ = some (.string l[k]) := by
  obtain ⟨X, o, h1, _, h2⟩ := GS.at h hk
  have := h2 0 _ rfl
  rw [show KS.W = 1 from rfl, Nat.mul_one] at this
  exact ⟨X, o, h1, this⟩
/-- A cell of a row of numbers of the call's own. -/
theorem own_int {w : World} {base g n cap : Nat} {S : List Int} (h : OwnG KI w base (.slice (some ⟨g, 0, none⟩) n cap) S) (hn : n = S.length) {j : Nat} (hj : j < S.length) : w.cell? ⟨g, j, none⟩ = some (.int .i64 (S.getD j 0)) := by
  subst hn
  obtain ⟨X, o, e, hc⟩ := (h.gs KI_ok.len).atI hj
  injection e with e
  injection e with e1 e2 _
  subst e1 e2
  rw [Nat.zero_add] at hc
  rw [hc]; simp [List.getD, List.getElem?_eq_getElem hj]
theorem drop_op {l : List Opn} {k : Nat} (h : k < l.length) : l.drop k = l[k] :: l.drop (k + 1) := List.drop_eq_getElem_cons h
end Go.Proofs.YthmppnmmlblbhaaDoor
namespace Go.Proofs.YthmppnmmlblbhaaDoor
open Go.RowKit

set_option maxHeartbeats 4000000 in
set_option maxRecDepth 100000 in
theorem isWhole_any (v : Value) (l : List Opn) (w : World) (h : OS w v l) (ht : ∀ c ∈ l, c.text.size ≤ maxLen) (hv : NV w) (hlm : l.length ≤ 256) :
    Calls Tryd.prog 74 #[v] w fun e w' => e = .returned (.bool (wholeB l)) ∧ Below w.heap.size w w' := by
  obtain ⟨p, cap, rfl⟩ := h.form
  have HS : Hid (OS w (.slice p l.length cap) l) := h
  have HV : Hid (NV w) := hv
  have HT : Hid (∀ c ∈ l, c.text.size ≤ maxLen) := ht
  have HC : Hid (wholeB l = decide (walkO 0 l = some 1)) := rfl
  generalize wholeB l = r at *
  clear h hv ht
  go_enter Tryd.func74, Tryd.ntmps74
  go_wp2
  go_loopw [3, 8] (fun v3 v8 wr => ∃ (k : Nat) (s : Int) (wk : World), v8 = .int .i64 k ∧ v3 = .int .i64 s ∧ wk = wr ∧ k ≤ l.length ∧ 0 ≤ s ∧ s ≤ k ∧ Hid (Below w.heap.size w wk ∧ walkO 0 l = walkO s (l.drop k))) (fun _ v8 _ => l.length - (intOf v8).toNat)
  case atStart => exact ⟨0, 0, _, rfl, rfl, rfl, Nat.zero_le _, Int.le_refl _, Int.le_refl _, ⟨Below.refl _ _, rfl⟩⟩
  case round =>
    obtain ⟨k, s, wr, rfl, rfl, rfl, hk, hs0, hsk, HW⟩ := hrel
    by_cases hlt : k < l.length
    · obtain ⟨X, o, e1, x1, x2, x3, x4⟩ := (HS.out.below HW.out.1).atO hlt
      obtain rfl : p = some ⟨X, o, none⟩ := e1
      have hmem := HT.out _ (List.getElem_mem hlt)
      have HD : Hid _ := drop_op hlt
      obtain ⟨c, hc⟩ : ∃ c, c = l[k] := ⟨_, rfl⟩
      rw [← hc] at x1 x2 x3 x4 hmem HD
      have IC := fun w' (hb : Below w.heap.size w w') => isOp_any c w' (HV.out.below hb) hmem
      have AL : Hid (∀ ob, Below w.heap.size w (wr.alloc ob)) := fun ob => HW.out.1.alloc HW.out.1.size ob
      clear hc
      cases hcb : opB c with
      | false =>
        rw [hcb] at IC
        have HN : Hid (walkO 0 l = none) := by show walkO 0 l = none; rw [HW.out.2, HD.out, walkO, hcb]; simp
        go_wp2_with (go_at_call 92; refine (IC _ (AL.out _)).mono ?_; rintro e w5 ⟨rfl, hb5⟩)
        go_ret
        exact ⟨ret_bool (by rw [HC.out, HN.out]; rfl), (AL.out _).trans (hb5.mono (AL.out _).size)⟩
      | true =>
        rw [hcb] at IC
        have hn0 := opB_n hcb
        by_cases hcs : c.n ≤ s
        · have hcs2 : ¬ c.n > s := by omega
          have HN : Hid (walkO 0 l = walkO (s + (1 - c.n)) (l.drop (k + 1))) := by show _ = _; rw [HW.out.2, HD.out, walkO, hcb]; simp [hcs]
          go_wp2_with (go_at_call 92; refine (IC _ (AL.out _)).mono ?_; rintro e w5 ⟨rfl, hb5⟩; have y1 : w5.cell? ⟨wr.heap.size, 1, none⟩ = some (.int .i64 c.n) := (hb5.cell (p := ⟨wr.heap.size, 1, none⟩) (by simp)).trans (cell_of_row _ _ _ _ _ _ (heap_alloc_new wr _)); have HB5 : Hid (Below w.heap.size w w5) := (AL.out _).trans (hb5.mono (AL.out _).size); clear hb5)
          go_roundw
          case rel => exact ⟨k + 1, s + (1 - c.n), _, by go_num, rfl, rfl, by omega, by omega, by omega, ⟨HB5.out, HN.out⟩⟩
          case measure => simp [intOf]; omega
        · have hcs2 : c.n > s := by omega
          have HN : Hid (walkO 0 l = none) := by show walkO 0 l = none; rw [HW.out.2, HD.out, walkO]; simp [hcs]
          go_wp2_with (go_at_call 92; refine (IC _ (AL.out _)).mono ?_; rintro e w5 ⟨rfl, hb5⟩; have y1 : w5.cell? ⟨wr.heap.size, 1, none⟩ = some (.int .i64 c.n) := (hb5.cell (p := ⟨wr.heap.size, 1, none⟩) (by simp)).trans (cell_of_row _ _ _ _ _ _ (heap_alloc_new wr _)); have HB5 : Hid (Below w.heap.size w w5) := (AL.out _).trans (hb5.mono (AL.out _).size); clear hb5)
          go_ret
          exact ⟨ret_bool (by rw [HC.out, HN.out]; rfl), HB5.out⟩
    · have HN : Hid (walkO 0 l = some s) := by show walkO 0 l = some s; rw [HW.out.2, List.drop_eq_nil_of_le (by omega)]; rfl
      go_wp2
      go_ret
      exact ⟨ret_bool (by rw [HC.out, HN.out]; by_cases e : s = 1 <;> simp [e]), HW.out.1⟩
set_option maxHeartbeats 4000000 in
theorem hasLong_any (v : Value) (l : List Opn) (w : World) (h : OS w v l) (hlm : l.length ≤ 256) :
    Calls Tryd.prog 76 #[v] w fun e w' => e = .returned (.bool (longB l)) ∧ Below w.heap.size w w' := by
  obtain ⟨p, cap, rfl⟩ := h.form
  have HS : Hid (OS w (.slice p l.length cap) l) := h
  have HH : Hid (∀ k (h : k < l.length), 4096 < l[k].text.size → longB l = true) := fun k h => longB_hit h
  have HM : Hid ((∀ k (h : k < l.length), l[k].text.size ≤ 4096) → longB l = false) := longB_iff.2
  generalize longB l = r at *
  clear h
  go_enter Tryd.func76, Tryd.ntmps76
  go_wp2
  go_loopw [7] (fun v7 wr => ∃ (k : Nat) (wk : World), v7 = .int .i64 k ∧ wk = wr ∧ k ≤ l.length ∧ Hid (Below w.heap.size w wk ∧ ∀ i (h : i < l.length), i < k → l[i].text.size ≤ 4096)) (fun v7 _ => l.length - (intOf v7).toNat)
  case atStart => exact ⟨0, _, rfl, rfl, Nat.zero_le _, ⟨Below.refl _ _, fun i _ h => by omega⟩⟩
  case round =>
    obtain ⟨k, wr, rfl, rfl, hk, HW⟩ := hrel
    by_cases hlt : k < l.length
    · obtain ⟨X, o, e1, x1, x2, x3, x4⟩ := (HS.out.below HW.out.1).atO hlt
      obtain rfl : p = some ⟨X, o, none⟩ := e1
      have AL : Hid (∀ ob, Below w.heap.size w (wr.alloc ob)) := fun ob => HW.out.1.alloc HW.out.1.size ob
      have HK : Hid (4096 < l[k].text.size → r = true) := HH.out k hlt
      have HK2 : Hid (l[k].text.size ≤ 4096 → ∀ i (h : i < l.length), i < k + 1 → l[i].text.size ≤ 4096) := fun h0 i hi hik => by
        by_cases e : i = k
        · subst e; exact h0
        · exact HW.out.2 i hi (by omega)
      obtain ⟨c, hc⟩ : ∃ c, c = l[k] := ⟨_, rfl⟩
      rw [← hc] at x1 x2 x3 x4 HK HK2
      clear hc
      by_cases hs : 4096 < c.text.size
      · have hs2 : (c.text.size : Int) > 4096 := by omega
        have hr := HK.out hs
        subst hr
        go_wp2
        go_ret
        exact ⟨rfl, AL.out _⟩
      · have hs2 : ¬ (c.text.size : Int) > 4096 := by omega
        have H3 : Hid _ := HK2.out (by omega)
        go_wp2
        go_roundw
        case rel => exact ⟨k + 1, _, by go_num, rfl, by omega, ⟨AL.out _, H3.out⟩⟩
        case measure => simp [intOf]; omega
    · have hr := HM.out (fun i hi => HW.out.2 i hi (by omega))
      subst hr
      go_wp2
      go_ret
      exact ⟨rfl, HW.out.1⟩
end Go.Proofs.YthmppnmmlblbhaaDoor
