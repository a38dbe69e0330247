/- Depend: the walk along what a function tells. -/
import Derived.Test.YtkhcinpcoabphaaDb6
namespace Go.Proofs.Ytkhcinpcoabphaa
open Go.RowKit

/-- What a function tells of what leads where. -/
def nxR (o : Option Nat) (e : Ending) : Prop := match o with
  | some y => e = .returned (.tuple #[.int .i64 y, .bool true])
  | none => ∃ y : Int, e = .returned (.tuple #[.int .i64 y, .bool false])
/-- What is left of the way. -/
def Rest (g : Nat → Option Nat) (l : List Nat) (P : List Nat) (v6 v7 : Value) : Prop := ((∃ y : Int, v6 = .int .i64 y) ∧ v7 = .bool false ∧ P = l) ∨ ∃ (y : Nat) (m : List Nat), v6 = .int .i64 y ∧ v7 = .bool true ∧ l = P ++ m ∧ Way g y m
theorem nxR_rest {g : Nat → Option Nat} {l P : List Nat} {y : Nat} {m : List Nat} {e : Ending} (hl : l = P ++ m) (hw : Way g y m) (he : nxR (g y) e) : ∃ v6 v7, e = .returned (.tuple #[v6, v7]) ∧ Rest g l (P ++ [y]) v6 v7 := by
  rcases hw.parts with ⟨h, hm⟩ | ⟨z, m', h, hm, t⟩
  · rw [h] at he
    obtain ⟨z, hz⟩ := he
    exact ⟨_, _, hz, Or.inl ⟨⟨z, rfl⟩, rfl, by rw [hl, hm]⟩⟩
  · rw [h] at he
    exact ⟨_, _, he, Or.inr ⟨z, m', rfl, rfl, by rw [hl, hm, List.append_assoc]; rfl, t⟩⟩
def slN : Value → Nat
  | .slice _ n _ => n
  | _ => 0
set_option maxHeartbeats 8000000 in
theorem walk_any (fn : Nat) (cb : Array Value) (hen : ∀ args w, Sem.run Try.prog (callFunc fn args) w = .ok (.enter fn args) w) (g : Nat → Option Nat) (x : Nat) (l : List Nat) (hw : Way g x l) (hl : l.length ≤ 10000) (w : World)
    (CL : ∀ W (z : Nat), z ∈ l → Below w.heap.size w W → Calls Try.prog fn (#[.int .i64 z] ++ cb) W fun e W' => nxR (g z) e ∧ Below W.heap.size W W') :
    Calls Try.prog 42 #[.int .i64 x, .func (.func fn) #[] cb] w fun e w' => ∃ q cc, e = .returned (.slice q l.length cc) ∧ OwnG KI w' w.heap.size (.slice q l.length cc) (nI l) ∧ Below w.heap.size w w' := by
  have HW := hid hw
  have HC := hid CL
  have O0 : Hid (OwnG KI (w.alloc (.cells #[.int .i64 x] 3)) w.heap.size (.slice (some ⟨w.heap.size, 0, none⟩) 1 1) (nI [x])) := ⟨rfl, Or.inr ⟨w.heap.size, 1, #[.int .i64 x], rfl, Nat.le_refl _, heap_alloc_new w _, Nat.le_refl _, by decide, rfl, rfl⟩⟩
  have C0 := hid (CL (w.alloc (.cells #[.int .i64 x] 3)) x (by obtain ⟨m, hm⟩ := hw.head; rw [hm]; simp) (bal _ _))
  have B0 : Hid (Below w.heap.size w (w.alloc (.cells #[.int .i64 x] 3))) := bal _ _
  clear hw CL
  go_enter Try.func42, Try.ntmps42
  go_wp2_with (go_at_fn fn; refine C0.out.mono ?_; rintro e w1 ⟨hnx, hb1⟩; obtain ⟨v6, v7, rfl, hR⟩ := nxR_rest (P := []) (l := l) (m := l) rfl HW.out hnx; have R1 := hid hR; have B1 := hid hb1; clear hR hb1 hnx)
  go_loopw [5, 6, 7] (fun v5 v6 v7 wr => ∃ (q : Option Addr) (cc : Nat) (P : List Nat) (S : List Int) (wk : World), v5 = .slice q S.length cc ∧ wk = wr ∧ Hid (S = nI P) ∧ Hid (Rest g l P v6 v7) ∧ Hid (OwnG KI wk w.heap.size (.slice q S.length cc) S) ∧ Hid (Below w.heap.size w wk)) (fun v5 _ _ _ => l.length + 1 - slN v5)
  case atStart => exact ⟨_, _, [x], nI [x], _, rfl, rfl, rfl, R1, O0.out.below B1.out, bl3 B0.out B1.out⟩
  case round =>
    obtain ⟨q, cc, P, S, wr, rfl, rfl, HS, HR, HO, HB⟩ := hrel
    clear O0 C0 B0 R1 B1
    rcases HR.out with ⟨⟨y, e6⟩, e7, eP⟩ | ⟨y, m, e6, e7, el, ew⟩
    · subst e6 e7
      have EL := hid eP
      clear eP HR
      go_wp2
      go_ret
      rw [← EL.out]
      refine ⟨q, cc, ?_, ?_, HB.out⟩
      · rw [← nI_len P, ← HS.out]; rfl
      · rw [← nI_len P, ← HS.out]; exact HO.out
    · subst e6 e7
      have LE : Hid (P.length < l.length) := by
        show _ < _
        rw [el]
        obtain ⟨m', hm⟩ := ew.head
        rw [hm]; simp
      have SP : Hid (S.length = P.length) := by show _ = _; rw [HS.out, nI_len]
      have LS : Hid ((S.length + 1) * KI.B ≤ 140737488355328) := by show (S.length + 1) * 8 ≤ _; have := LE.out; have := SP.out; omega
      have HS2 : Hid (S ++ [(y : Int)] = nI (P ++ [y])) := by show _ = _; rw [nI_snoc, HS.out]
      have HN : Hid (∀ e, nxR (g y) e → ∃ v6 v7, e = .returned (.tuple #[v6, v7]) ∧ Rest g l (P ++ [y]) v6 v7) := fun e he => nxR_rest el ew he
      have HM : Hid (y ∈ l) := by
        show _ ∈ _
        rw [el]
        obtain ⟨m', hm⟩ := ew.head
        rw [hm]; simp
      clear el ew HR
      go_wp2_with (first | (at_builtin; refine append_g KI KI_ok rfl (.tmp 23) (.tmp 25) 35 rfl w.heap.size Try.underlying35 wr _ _ (.slice q S.length cc) S (y : Int) _ rfl HO.out wr.heap.size rfl rfl rfl LS.out HB.out.size ?_; intro g2 cp2 w2 ho2 hb2 hk2 hg2; have O2 := hid ho2; have B2 : Hid (Below w.heap.size w w2) := HB.out.trans hb2; clear ho2 hb2 hk2 hg2) | (go_at_fn fn; refine (HC.out _ y HM.out B2.out).mono ?_; rintro e w3 ⟨hnx, hb3⟩; obtain ⟨v6, v7, rfl, hR⟩ := HN.out _ hnx; have R3 := hid hR; have B3 := hid hb3; clear hR hb3 hnx))
      go_roundw
      case rel => exact ⟨some ⟨g2, 0, none⟩, cp2, P ++ [y], S ++ [(y : Int)], _, by rw [List.length_append]; rfl, rfl, HS2, R3, by rw [List.length_append]; exact O2.out.below B3.out, bl3 B2.out B3.out⟩
      case measure => have := LE.out; have := SP.out; simp [slN]; omega
end Go.Proofs.Ytkhcinpcoabphaa
