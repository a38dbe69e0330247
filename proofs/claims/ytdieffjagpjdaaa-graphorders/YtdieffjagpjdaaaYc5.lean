/- Graph: walk, for any visit. -/
import Derived.Test.YtdieffjagpjdaaaYc4
namespace Go.Proofs.Ytdieffjagpjdaaa
open Go.RowKit

/-- What a walk needs: the lists, who was seen, what a visit does. -/
structure WK (A : Nat → List Nat) (N lb bs cs fn : Nat) (cb : Array Value) (P : Nat → Option Addr) (C : Nat → Nat) (J : World → (Nat → Bool) → List Nat → Prop) : Prop where
  rd : ∀ {W S L}, J W S L → ∀ i, i < N → W.cell? ⟨lb, i, none⟩ = some (.slice (P i) (A i).length (C i)) ∧ GS KI W (.slice (P i) (A i).length (C i)) (nI (A i))
  se : ∀ {W S L}, J W S L → ∀ i, i < N → W.cell? ⟨bs, i, none⟩ = some (.bool (S i)) ∧ W.frozen? ⟨bs, i, none⟩ = false
  st : ∀ {W S L}, J W S L → ∀ i, i < N → J (W.setCell ⟨bs, i, none⟩ (.bool true)) (adP S i) L
  ls : ∀ {W S L}, J W S L → ∀ y ∈ L, S y = true
  vi : ∀ {W S L}, J W S L → ∀ i, i < N → S i = true → i ∉ L → Calls Try.prog fn (#[.int .i64 i] ++ cb) W fun e w' => e = .returned (.tuple #[]) ∧ J w' S (L ++ [i])
  lt : ∀ i, i < N → ∀ y ∈ A i, y < N
  ln : ∀ i, (A i).length ≤ 4096
  en : ∀ args w, Sem.run Try.prog (callFunc fn args) w = .ok (.enter fn args) w
def WO (A : Nat → List Nat) (J : World → (Nat → Bool) → List Nat → Prop) (S : Nat → Bool) (t L : List Nat) (e : Ending) (w' : World) : Prop := e = .returned (.tuple #[]) ∧ ∃ S' L', DL A S t S' L' ∧ J w' S' (L ++ L')
set_option maxHeartbeats 8000000 in
theorem walk_step {A : Nat → List Nat} {N lb bs cs fn : Nat} {cb : Array Value} {P : Nat → Option Addr} {C : Nat → Nat} {J : World → (Nat → Bool) → List Nat → Prop} (K : WK A N lb bs cs fn cb P C J) (d : Nat)
    (ih : ∀ (S : Nat → Bool), un N S < d → ∀ (W : World) (L : List Nat) (x : Nat), J W S L → x < N → Calls Try.prog 46 #[.slice (some ⟨lb, 0, none⟩) N N, .int .i64 x, .slice (some ⟨bs, 0, none⟩) N cs, .func (.func fn) #[] cb] W fun e w' => WO A J S [x] L e w')
    (S : Nat → Bool) (hd : un N S ≤ d) (W : World) (L : List Nat) (x : Nat) (hJ : J W S L) (hx : x < N) : Calls Try.prog 46 #[.slice (some ⟨lb, 0, none⟩) N N, .int .i64 x, .slice (some ⟨bs, 0, none⟩) N cs, .func (.func fn) #[] cb] W fun e w' => WO A J S [x] L e w' := by
  have hen := K.en
  have hxi : (x : Int) < (N : Nat) := by omega
  obtain ⟨s0, s1⟩ := K.se hJ x hx
  cases hS : S x with
  | true =>
    have HO : Hid (DL A S [x] S []) := .seen hS .nil
    have HJ := hid hJ
    rw [hS] at s0
    clear hJ
    go_enter Try.func46, Try.ntmps46
    go_wp2
    go_end0
    exact ⟨rfl, S, [], HO.out, by rw [List.append_nil]; exact HJ.out⟩
  | false =>
    rw [hS] at s0
    have J1 := hid (K.st hJ x hx)
    have hun := un_ad hx hS
    obtain ⟨r0, r1⟩ := K.rd J1.out x hx
    have RD := hid (fun W' S' L' (h : J W' S' L') j (hj : j < (nI (A x)).length) => GS.atI (K.rd h x hx).2 hj)
    have IH : Hid (∀ (S' : Nat → Bool), (∀ y, adP S x y = true → S' y = true) → ∀ (W' : World) (L' : List Nat) (y : Nat), J W' S' L' → y < N → Calls Try.prog 46 #[.slice (some ⟨lb, 0, none⟩) N N, .int .i64 y, .slice (some ⟨bs, 0, none⟩) N cs, .func (.func fn) #[] cb] W' fun e w' => WO A J S' [y] L' e w') := fun S' hs W' L' y hj hy => ih S' (by have := un_le (n := N) hs; omega) W' L' y hj hy
    have VI := hid (fun W' S' L' (h : J W' S' L') => K.vi h x hx)
    have XL : Hid (x ∉ L) := fun e => by rw [K.ls hJ x e] at hS; cases hS
    have AL := K.ln x
    have AY := hid (K.lt x hx)
    have D0 : Hid (DL A (adP S x) ((A x).take 0) (adP S x) []) := .nil
    have DO := hid (fun S1 L1 (h : DL A (adP S x) (A x) S1 L1) => DL.one hS h)
    have J2 : Hid (J (W.setCell ⟨bs, x, none⟩ (.bool true)) (adP S x) (L ++ [])) := by show J _ _ _; rw [List.append_nil]; exact J1.out
    clear r1 ih hJ hS hun J1
    generalize hW2 : W.setCell ⟨bs, x, none⟩ (.bool true) = W2 at *
    go_enter Try.func46, Try.ntmps46
    go_wp2
    clear hW2 s0 s1 r0
    obtain ⟨m, hm⟩ : ∃ m, m = (A x).length := ⟨_, rfl⟩
    have M1 : Hid ((A x).length = m) := hm.symm
    rw [← hm] at AL ⊢
    clear hm
    go_loopw [22] (fun v22 wr => ∃ (j : Nat) (wk : World), v22 = .int .i64 j ∧ wk = wr ∧ j ≤ m ∧ Hid (∃ S1 L1, DL A (adP S x) ((A x).take j) S1 L1 ∧ J wk S1 (L ++ L1))) (fun v22 _ => m - (intOf v22).toNat)
    case atStart => exact ⟨0, _, rfl, rfl, Nat.zero_le _, ⟨_, _, D0.out, J2.out⟩⟩
    case round =>
      obtain ⟨j, wr, rfl, rfl, hj, HE⟩ := hrel
      clear D0 J2
      obtain ⟨S1, L1, dl, hj1⟩ := HE.out
      have DLh := hid dl
      have HJ := hid hj1
      clear dl hj1
      by_cases hlt : j < m
      · have j1 : j < (A x).length := by have := M1.out; omega
        obtain ⟨X, o, e1, c1⟩ := RD.out wr S1 _ HJ.out j (by rw [nI_len]; exact j1)
        rw [nI_at j1] at c1
        have hy : (A x)[j] < N := AY.out _ (List.getElem_mem j1)
        have CL := hid (IH.out S1 (fun y h => DLh.out.up h) wr _ _ HJ.out hy)
        have TK : Hid ((A x).take (j + 1) = (A x).take j ++ [(A x)[j]]) := List.take_succ_eq_append_getElem j1
        have hji : (j : Int) < (m : Nat) := by omega
        generalize (A x)[j] = y at *
        rw [e1]
        go_wp2_with (go_at_call 46; refine CL.out.mono ?_; rintro e w5 ⟨rfl, S2, L2, d2, j2⟩; have N2 : Hid (∃ S1 L1, DL A (adP S x) ((A x).take (j + 1)) S1 L1 ∧ J w5 S1 (L ++ L1)) := ⟨S2, L1 ++ L2, by rw [TK.out]; exact DLh.out.app d2, by rw [← List.append_assoc]; exact j2⟩; clear d2 j2)
        go_roundw
        case rel => exact ⟨j + 1, _, by go_num, rfl, by omega, N2⟩
        case measure => simp [intOf]; omega
      · obtain rfl : j = m := by omega
        have D1 : Hid (DL A S [x] S1 (L1 ++ [x])) := DO.out S1 L1 (by
          have := DLh.out
          rw [List.take_of_length_le (by rw [M1.out]; exact Nat.le_refl _)] at this
          exact this)
        have V2 := hid (VI.out wr S1 _ HJ.out (DLh.out.up (adP_iff.2 (Or.inr rfl))) (fun e => by
          rcases List.mem_append.1 e with e | e
          · exact XL.out e
          · exact (adP_no (DLh.out.dis x e)).2 rfl))
        go_wp2_with fail
        refine Calls.mono V2.out ?_
        rintro e w6 ⟨rfl, j6⟩
        have J6 := hid j6
        clear j6
        go_wp2_with fail
        go_end0
        exact ⟨rfl, S1, L1 ++ [x], D1.out, by rw [← List.append_assoc]; exact J6.out⟩
theorem walk_any {A : Nat → List Nat} {N lb bs cs fn : Nat} {cb : Array Value} {P : Nat → Option Addr} {C : Nat → Nat} {J : World → (Nat → Bool) → List Nat → Prop} (K : WK A N lb bs cs fn cb P C J) (d : Nat) : ∀ (S : Nat → Bool), un N S < d → ∀ (W : World) (L : List Nat) (x : Nat), J W S L → x < N → Calls Try.prog 46 #[.slice (some ⟨lb, 0, none⟩) N N, .int .i64 x, .slice (some ⟨bs, 0, none⟩) N cs, .func (.func fn) #[] cb] W fun e w' => WO A J S [x] L e w' := by
  induction d with
  | zero => intro S h; omega
  | succ d ih => intro S h W L x hJ hx; exact walk_step K d ih S (by omega) W L x hJ hx
theorem walk_all {A : Nat → List Nat} {N lb bs cs fn : Nat} {cb : Array Value} {P : Nat → Option Addr} {C : Nat → Nat} {J : World → (Nat → Bool) → List Nat → Prop} (K : WK A N lb bs cs fn cb P C J) {S : Nat → Bool} {W : World} {L : List Nat} {x : Nat} (hJ : J W S L) (hx : x < N) : Calls Try.prog 46 #[.slice (some ⟨lb, 0, none⟩) N N, .int .i64 x, .slice (some ⟨bs, 0, none⟩) N cs, .func (.func fn) #[] cb] W fun e w' => WO A J S [x] L e w' :=
  walk_any K (un N S + 1) S (Nat.lt_succ_self _) W L x hJ hx
end Go.Proofs.Ytdieffjagpjdaaa
