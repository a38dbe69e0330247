/- Failures: gather. -/
import Derived.Test.YtaleagkhblokgaaDoorHx2
import Derived.Test.YtaleagkhblokgaaDoorGx1
namespace Go.Proofs.YtaleagkhblokgaaDoor
open Go.RowKit

def partE (l : List Cr) (k : Int) : Int := if chk l = 0 then (if 0 ≤ k ∧ k < l.length then 0 else 1) else chk l
def partL (l : List Cr) (k : Int) : List Int := if partE l k = 0 then ((whA l).getD k.toNat (0, [])).2 else []
theorem part_ok {l : List Cr} {k : Int} (h : partE l k = 0) : chk l = 0 ∧ 0 ≤ k ∧ k < l.length := by
  unfold partE at h
  split at h
  · split at h
    · rename_i h1 h2; exact ⟨h1, h2⟩
    · omega
  · rename_i h1; exact absurd h h1
/-- Numbers, and an error beside them. -/
def AnsI (w w' : World) (e : Ending) (P : List Int) (x : Int) : Prop := ∃ p cap, e = .returned (.tuple #[.slice p P.length cap, .int .i64 x]) ∧ IS w' (.slice p P.length cap) P ∧ Below w.heap.size w w'
theorem ansI_nil {w w' : World} {P : List Int} {x : Int} (hl : P = []) (b : Below w.heap.size w w') : AnsI w w' (.returned (.tuple #[.slice none 0 0, .int .i64 x])) P x := by
  subst hl; exact ⟨none, 0, rfl, Or.inl ⟨rfl, rfl⟩, b⟩
set_option maxHeartbeats 4000000 in
set_option maxRecDepth 100000 in
theorem parts_any (v : Value) (l : List Cr) (k : Int) (w : World) (h : CS w v l) (ht : ∀ c ∈ l, c.text.size ≤ maxLen) (hlm : l.length ≤ 1000000000000000) (hv : FV w) :
    Calls Tryd.prog 10 #[v, .int .i64 k] w fun e w' => AnsI w w' e (partL l k) (partE l k) := by
  have CK := check_any v l w h ht hv hlm
  obtain ⟨p, cap, rfl⟩ := h.form
  by_cases hc : chk l = 0
  · rw [hc] at CK
    by_cases hk : 0 ≤ k ∧ k < l.length
    · have e1 : partE l k = 0 := by unfold partE; rw [if_pos hc, if_pos hk]
      have e2 : partL l k = ((whA l).getD k.toNat (0, [])).2 := by unfold partL; rw [if_pos e1]
      rw [e1, e2]
      obtain ⟨n, rfl⟩ : ∃ n : Nat, k = n := ⟨k.toNat, by omega⟩
      have hn : n < l.length := by omega
      have WH : Hid (∀ w', Below w.heap.size w w' → _) := fun w' b => wholes_any (.slice p l.length cap) l w' (h.below b) hc
      have hl := (chk_ok hc).1
      obtain ⟨P, hP⟩ : ∃ P, P = ((whA l).getD ((n : Int)).toNat (0, [])).2 := ⟨_, rfl⟩
      rw [← hP]
      have HP : Hid (((whS 0 [] [] l).getD n (0, [])).2 = P) := by show _ = _; rw [hP]; rfl
      clear h ht hv hP
      go_enter Tryd.func10, Tryd.ntmps10
      go_wp2_with (first | (go_at_call 31; refine CK.mono ?_; rintro e w1 ⟨rfl, hb1⟩; have B1 : Hid (Below w.heap.size w w1) := hb1; clear hb1) | (go_at_call 36; refine (WH.out _ B1.out).mono ?_; rintro e w3 ⟨rfl, hb3, hwb, hwc⟩; obtain ⟨vp, c0, c1, hIS, hx⟩ := hwc n hn; rw [HP.out] at hIS; obtain ⟨pp, cp, rfl⟩ := hIS.form; have IS3 : Hid (IS w3 (.slice pp P.length cp) P) := hIS; have B3 : Hid (Below w.heap.size w w3) := B1.out.trans (hb3.mono B1.out.size); clear hb3 hwb hwc hIS hx c0))
      go_ret2
      exact ⟨pp, cp, rfl, IS3.out, B3.out⟩
    · have e1 : partE l k = 1 := by unfold partE; rw [if_pos hc, if_neg hk]
      have e2 : partL l k = [] := by unfold partL; rw [e1]; rfl
      rw [e1]
      have AN : Hid (∀ w', Below w.heap.size w w' → AnsI w w' (.returned (.tuple #[.slice none 0 0, .int .i64 1])) (partL l k) 1) := fun w' b => ansI_nil e2 b
      clear h ht hv
      by_cases h0 : k < 0
      · go_enter Tryd.func10, Tryd.ntmps10
        go_wp2_with (go_at_call 31; refine CK.mono ?_; rintro e w1 ⟨rfl, hb1⟩; have B1 : Hid (Below w.heap.size w w1) := hb1; clear hb1)
        go_ret2
        exact AN.out _ B1.out
      · have h1 : k ≥ (l.length : Int) := by omega
        have h0' : ¬ k < 0 := h0
        have h1' : (l.length : Int) ≤ k := h1
        go_enter Tryd.func10, Tryd.ntmps10
        go_wp2_with (go_at_call 31; refine CK.mono ?_; rintro e w1 ⟨rfl, hb1⟩; have B1 : Hid (Below w.heap.size w w1) := hb1; clear hb1)
        go_ret2
        exact AN.out _ B1.out
  · have e1 : partE l k = chk l := by unfold partE; rw [if_neg hc]
    have e2 : partL l k = [] := by unfold partL; rw [e1, if_neg hc]
    rw [e1]
    have AN : Hid (∀ w', Below w.heap.size w w' → AnsI w w' (.returned (.tuple #[.slice none 0 0, .int .i64 (chk l)])) (partL l k) (chk l)) := fun w' b => ansI_nil e2 b
    clear h ht hv
    generalize chk l = c at *
    have h1 : (c == 0) = false := by simpa using hc
    have h2 : (c != 0) = true := by simpa using hc
    go_enter Tryd.func10, Tryd.ntmps10
    go_wp2_with (go_at_call 31; refine CK.mono ?_; rintro e w1 ⟨rfl, hb1⟩; have B1 : Hid (Below w.heap.size w w1) := hb1; clear hb1)
    go_ret2
    exact AN.out _ B1.out
set_option maxHeartbeats 4000000 in
set_option maxRecDepth 100000 in
theorem rparts_any (v : Value) (l : List Cr) (k : Int) (w : World) (h : CS w v l) (ht : ∀ c ∈ l, c.text.size ≤ maxLen) (hlm : l.length ≤ 1000000000000000) :
    Calls Tryd.prog 11 #[v, .int .i64 k] w fun e w' => AnsI w w' e (partL l k) (partE l k) := by
  have CK := rcheck_any v l w h ht hlm
  obtain ⟨p, cap, rfl⟩ := h.form
  by_cases hc : chk l = 0
  · rw [hc] at CK
    by_cases hk : 0 ≤ k ∧ k < l.length
    · have e1 : partE l k = 0 := by unfold partE; rw [if_pos hc, if_pos hk]
      have e2 : partL l k = ((whA l).getD k.toNat (0, [])).2 := by unfold partL; rw [if_pos e1]
      rw [e1, e2]
      obtain ⟨n, rfl⟩ : ∃ n : Nat, k = n := ⟨k.toNat, by omega⟩
      have hn : n < l.length := by omega
      have hl := (chk_ok hc).1
      have WH : Hid (∀ w', Below w.heap.size w w' → _) := fun w' b => rparts_ok (.slice p l.length cap) l n w' (h.below b) ht hc hn
      rw [Int.toNat_natCast]
      generalize ((whA l).getD n (0, [])).2 = P at *
      clear h ht
      go_enter Tryd.func11, Tryd.ntmps11
      go_wp2_with (first | (go_at_call 37; refine CK.mono ?_; rintro e w1 ⟨rfl, hb1⟩; have B1 : Hid (Below w.heap.size w w1) := hb1; clear hb1) | (go_at_call 38; refine (WH.out _ B1.out).mono ?_; rintro e w3 ⟨p3, c3, rfl, hi3, hb3⟩))
      go_ret2
      exact ⟨p3, c3, rfl, hi3, B1.out.trans (hb3.mono B1.out.size)⟩
    · have e1 : partE l k = 1 := by unfold partE; rw [if_pos hc, if_neg hk]
      have e2 : partL l k = [] := by unfold partL; rw [e1]; rfl
      rw [e1]
      have AN : Hid (∀ w', Below w.heap.size w w' → AnsI w w' (.returned (.tuple #[.slice none 0 0, .int .i64 1])) (partL l k) 1) := fun w' b => ansI_nil e2 b
      clear h ht
      by_cases h0 : k < 0
      · go_enter Tryd.func11, Tryd.ntmps11
        go_wp2_with (go_at_call 37; refine CK.mono ?_; rintro e w1 ⟨rfl, hb1⟩; have B1 : Hid (Below w.heap.size w w1) := hb1; clear hb1)
        go_ret2
        exact AN.out _ B1.out
      · have h1 : k ≥ (l.length : Int) := by omega
        have h1' : (l.length : Int) ≤ k := h1
        go_enter Tryd.func11, Tryd.ntmps11
        go_wp2_with (go_at_call 37; refine CK.mono ?_; rintro e w1 ⟨rfl, hb1⟩; have B1 : Hid (Below w.heap.size w w1) := hb1; clear hb1)
        go_ret2
        exact AN.out _ B1.out
  · have e1 : partE l k = chk l := by unfold partE; rw [if_neg hc]
    have e2 : partL l k = [] := by unfold partL; rw [e1, if_neg hc]
    rw [e1]
    have AN : Hid (∀ w', Below w.heap.size w w' → AnsI w w' (.returned (.tuple #[.slice none 0 0, .int .i64 (chk l)])) (partL l k) (chk l)) := fun w' b => ansI_nil e2 b
    clear h ht
    generalize chk l = c at *
    have h1 : (c == 0) = false := by simpa using hc
    have h2 : (c != 0) = true := by simpa using hc
    go_enter Tryd.func11, Tryd.ntmps11
    go_wp2_with (go_at_call 37; refine CK.mono ?_; rintro e w1 ⟨rfl, hb1⟩; have B1 : Hid (Below w.heap.size w w1) := hb1; clear hb1)
    go_ret2
    exact AN.out _ B1.out
set_option maxHeartbeats 4000000 in
theorem sameInts_same (w : World) (v1 v2 : Value) (P : List Int) (h1 : IS w v1 P) (h2 : IS w v2 P) (hl : P.length ≤ 100000000000000000) :
    Calls Tryd.prog 12 #[v1, v2] w fun e w' => e = .returned (.bool true) ∧ ∃ n, w' = w.drewN n := by
  obtain ⟨p1, c1, rfl⟩ := h1.form
  obtain ⟨p2, c2, rfl⟩ := h2.form
  have A1 : Hid (IS w (.slice p1 P.length c1) P) := h1
  have A2 : Hid (IS w (.slice p2 P.length c2) P) := h2
  clear h1 h2
  go_enter Tryd.func12, Tryd.ntmps12
  go_wp2
  go_loopw [5] (fun i wr => ∃ k n : Nat, k ≤ P.length ∧ i = .int .i64 k ∧ wr = w.drewN n) (fun i _ => P.length - (intOf i).toNat)
  case atStart => exact ⟨0, 0, Nat.zero_le _, rfl, rfl⟩
  case round =>
    obtain ⟨k, n, hk, rfl, rfl⟩ := hrel
    by_cases hlt : k < P.length
    · obtain ⟨X1, o1, rfl, a1⟩ := A1.out.at hlt
      obtain ⟨X2, o2, rfl, a2⟩ := A2.out.at hlt
      generalize P.getD k 0 = y at *
      go_wp2
      go_quiet (fail)
      go_wp2
      all_goals
        go_roundw
        case rel => exact ⟨k + 1, _, by omega, by go_num, rfl⟩
        case measure => simp [intOf]; omega
    · go_wp2
      go_ret
      exact ⟨rfl, n, rfl⟩
end Go.Proofs.YtaleagkhblokgaaDoor
namespace Go.Proofs.YtaleagkhblokgaaDoor
open Go.RowKit

/-- A crack behind its parts; or the one that says that it is too long. -/
def arL (k : Int) (t : ByteArray) (ll : List (List Cr)) : List Cr := if 1024 < 1 + ll.flatten.length then [⟨11, 0, ByteArray.empty⟩] else ll.flatten ++ [⟨k, ll.length, t⟩]
def flK (ll : List (List Cr)) (j : Nat) : List Cr := (ll.take j).flatten
theorem flK_zero (ll : List (List Cr)) : flK ll 0 = [] := by simp [flK]
theorem flK_succ {ll : List (List Cr)} {j : Nat} (h : j < ll.length) : flK ll (j + 1) = flK ll j ++ ll[j] := by
  unfold flK
  rw [List.take_add_one, List.getElem?_eq_getElem h, Option.toList_some, List.flatten_append]; simp
theorem flK_all {ll : List (List Cr)} {j : Nat} (h : ll.length ≤ j) : flK ll j = ll.flatten := by
  unfold flK; rw [List.take_of_length_le h]
theorem flK_len {ll : List (List Cr)} (h1 : ∀ x ∈ ll, x.length ≤ 1024) : ∀ j, j ≤ ll.length → (flK ll j).length ≤ j * 1024
  | 0, _ => by simp [flK_zero]
  | j + 1, hj => by
    rw [flK_succ (by omega), List.length_append]
    have := flK_len h1 j (by omega)
    have := h1 _ (List.getElem_mem (show j < ll.length by omega))
    omega
theorem ownC_one (w : World) (k n : Int) (t : ByteArray) : OwnC (w.alloc (.cells #[.int .i64 k, .int .i64 n, .string t] 55)) w.heap.size (.slice (some ⟨w.heap.size, 0, none⟩) 1 1) [⟨k, n, t⟩] :=
  ⟨rfl, Or.inr ⟨w.heap.size, 1, _, rfl, Nat.le_refl _, heap_alloc_new w _, Nat.le_refl _, by unfold maxLen; omega, rfl, rfl⟩⟩
set_option maxHeartbeats 4000000 in
set_option maxRecDepth 100000 in
theorem around_any (k : Int) (t : ByteArray) (w : World) (v : Value) (ll : List (List Cr)) (h : FS w v ll) (h1 : ∀ x ∈ ll, x.length ≤ 1024) (h2 : ll.length ≤ 4096) :
    Calls Tryd.prog 54 #[.int .i64 k, .string t, v] w fun e w' => ∃ p cap, e = .returned (.slice p (arL k t ll).length cap) ∧ OwnC w' w.heap.size (.slice p (arL k t ll).length cap) (arL k t ll) ∧ Below w.heap.size w w' := by
  obtain ⟨p, cap, rfl⟩ := h.form
  have HS : Hid (FS w (.slice p ll.length cap) ll) := h
  have HX : Hid (∀ j, j ≤ ll.length → (flK ll j).length ≤ j * 1024) := flK_len h1
  have HA : Hid (arL k t ll = if 1024 < 1 + ll.flatten.length then [⟨11, 0, ByteArray.empty⟩] else ll.flatten ++ [⟨k, ll.length, t⟩]) := rfl
  generalize arL k t ll = R at *
  clear h h1
  go_enter Tryd.func54, Tryd.ntmps54
  go_wp2
  go_loop [7, 15] (fun a b => ∃ j : Nat, j ≤ ll.length ∧ b = .int .i64 j ∧ a = .int .i64 ((1 + (flK ll j).length : Nat) : Int)) (fun _ b => ll.length - (intOf b).toNat)
  case atStart => exact ⟨0, Nat.zero_le _, rfl, by rw [flK_zero]; rfl⟩
  case round =>
    obtain ⟨j, hj, rfl, rfl⟩ := hrel
    have hb := HX.out j hj
    by_cases hlt : j < ll.length
    · obtain ⟨X, o, pu, cu, rfl, hX, hc, _⟩ := HS.out.at hlt
      have NX : Hid ((flK ll (j + 1)).length = (flK ll j).length + ll[j].length) := by show _ = _; rw [flK_succ hlt, List.length_append]
      have hb2 := HX.out (j + 1) hlt
      rw [NX.out] at hb2
      generalize (flK ll j).length = a at *
      generalize ll[j].length = b at *
      go_wp2
      go_round
      case rel => exact ⟨j + 1, by omega, by go_num, by rw [NX.out]; go_num⟩
      case measure => simp [intOf]; omega
    · rw [flK_all (by omega)] at hb ⊢
      obtain ⟨F, hF⟩ : ∃ F, F = ll.flatten := ⟨_, rfl⟩
      rw [← hF] at hb HA ⊢
      have HF : Hid (F = ll.flatten) := hF
      by_cases hbig : 1024 < 1 + F.length
      · have HR : Hid (R = [⟨11, 0, ByteArray.empty⟩]) := by show R = _; rw [HA.out, if_pos hbig]
        have hbig2 : ((1 + F.length : Nat) : Int) > 1024 := by omega
        clear HA hF HS
        go_wp2
        go_ret
        rw [HR.out]
        exact ⟨_, _, rfl, ownC_one w 11 0 ByteArray.empty, (Below.refl _ _).alloc (Nat.le_refl _) _⟩
      · have HR : Hid (R = F ++ [⟨k, ll.length, t⟩]) := by show R = _; rw [HA.out, if_neg hbig]
        have hnb : ¬ (1024 : Int) < 1 + (F.length : Int) := by omega
        clear HA hF
        go_wp2_with (at_make; refine make_cr _ rfl _ _ 23 rfl Tryd.underlying23 info_cr w.heap.size (1 + F.length) rfl rfl (by omega) (Nat.le_refl _) ?_; intro v2 w2 ho2 hb2)
        have O2 : Hid (OwnC w2 w.heap.size v2 []) := ho2
        have B2 : Hid (Below w.heap.size w w2) := hb2
        clear ho2 hb2
        go_loopw [10, 32] (fun a b wr => ∃ (j : Nat) (va : Value) (wk : World), j ≤ ll.length ∧ b = .int .i64 j ∧ va = a ∧ wk = wr ∧ Hid (OwnC wk w.heap.size va (flK ll j)) ∧ Hid (Below w.heap.size w wk)) (fun _ b _ => ll.length - (intOf b).toNat)
        case atStart => exact ⟨0, v2, w2, Nat.zero_le _, rfl, rfl, rfl, by rw [flK_zero]; exact O2, B2⟩
        case round =>
          obtain ⟨j, va, wr, hj2, rfl, rfl, rfl, HO, HB⟩ := hrel
          by_cases hlt2 : j < ll.length
          · obtain ⟨X, o, pu, cu, rfl, hX, hc, hcs⟩ := (HS.out.below HB.out).at hlt2
            have HC : Hid (CS wr (.slice pu ll[j].length cu) ll[j]) := hcs
            have hfj := HX.out (j + 1) hlt2
            have SU : Hid (flK ll (j + 1) = flK ll j ++ ll[j]) := flK_succ hlt2
            have HLN : Hid (((flK ll j).length + ll[j].length) * 32 ≤ 140737488355328) := by
              show ((flK ll j).length + ll[j].length) * 32 ≤ 140737488355328
              rw [SU.out, List.length_append] at hfj; omega
            have ZB : Hid (w.heap.size ≤ wr.heap.size) := HB.out.size
            clear hcs hfj
            go_wp2_with (at_builtin; refine append_crs rfl (.tmp 36) (.tmp 37) 23 rfl w.heap.size Tryd.underlying23 info_cr _ va _ (flK ll j) ll[j] rfl rfl HO.out HC.out HLN.out ZB.out ?_; intro v5 w5 ho5 hb5)
            go_roundw
            case rel => exact ⟨j + 1, v5, w5, by omega, by go_num, rfl, rfl, SU.out ▸ ho5, HB.out.trans hb5⟩
            case measure => simp [intOf]; omega
          · have HO2 : Hid (OwnC wr w.heap.size va F) := by
              show OwnC _ _ _ _
              rw [HF.out, ← flK_all (j := j) (by omega)]; exact HO.out
            have HLN : Hid ((F.length + 1) * 32 ≤ 140737488355328) := by show (F.length + 1) * 32 ≤ 140737488355328; omega
            have ZB : Hid (w.heap.size ≤ wr.heap.size) := HB.out.size
            clear HO
            go_wp2_with (at_builtin; refine append_cr rfl (.tmp 40) (.tmp 46) 23 rfl w.heap.size Tryd.underlying23 info_cr _ _ _ va F ⟨k, ll.length, t⟩ _ rfl HO2.out _ rfl rfl rfl HLN.out ZB.out ?_; intro v8 w8 ho8 hb8)
            go_ret
            rw [HR.out]
            obtain ⟨p8, c8, rfl⟩ := ho8.form
            exact ⟨p8, c8, rfl, ho8, HB.out.trans hb8⟩
end Go.Proofs.YtaleagkhblokgaaDoor
namespace Go.Proofs.YtaleagkhblokgaaDoor
open Go.RowKit

/-- The error of the first failure that is neither empty nor right. -/
def gaE : List (List Cr) → Int
  | [] => 0
  | x :: r => if x.length = 0 then gaE r else if chk x = 0 then gaE r else chk x
def neL (ll : List (List Cr)) : List (List Cr) := ll.filter (fun x => decide (x.length ≠ 0))
def gaL (ll : List (List Cr)) : List (List Cr) := if gaE ll = 0 then neL ll else []
def neK (ll : List (List Cr)) (j : Nat) : List (List Cr) := neL (ll.take j)
theorem neK_succ {ll : List (List Cr)} {j : Nat} (h : j < ll.length) : neK ll (j + 1) = neK ll j ++ if ll[j].length = 0 then [] else [ll[j]] := by
  unfold neK neL
  rw [List.take_add_one, List.getElem?_eq_getElem h, Option.toList_some, List.filter_append]
  congr 1
  by_cases h0 : ll[j].length = 0
  · rw [if_pos h0, List.filter_cons_of_neg (by simpa using h0)]; rfl
  · rw [if_neg h0, List.filter_cons_of_pos (by simpa using h0)]; rfl
theorem gaE_drop {ll : List (List Cr)} {j : Nat} (h : j < ll.length) : gaE (ll.drop j) = if ll[j].length = 0 then gaE (ll.drop (j + 1)) else if chk ll[j] = 0 then gaE (ll.drop (j + 1)) else chk ll[j] := by
  rw [List.drop_eq_getElem_cons h, gaE]
theorem neK_le (ll : List (List Cr)) (j : Nat) : (neK ll j).length ≤ j := by
  unfold neK neL
  have := List.length_filter_le (fun x : List Cr => decide (x.length ≠ 0)) (ll.take j)
  simp only [List.length_take] at this; omega
/-- The failures so far. -/
structure GI (w wk : World) (va : Value) (us : List Value) (ll : List (List Cr)) (j : Nat) : Prop where
  s : OwnS wk w.heap.size va us
  ln : us.length = (neK ll j).length
  cs : ∀ k (h1 : k < us.length) (h2 : k < (neK ll j).length), CS w us[k] (neK ll j)[k]
  bl : Below w.heap.size w wk
  ge : gaE ll = gaE (ll.drop j)
theorem GI.skip {w wk w' : World} {va : Value} {us : List Value} {ll : List (List Cr)} {j : Nat} (h : GI w wk va us ll j) (hj : j < ll.length) (h0 : ll[j].length = 0) (b : Below wk.heap.size wk w') : GI w w' va us ll (j + 1) := by
  have e : neK ll (j + 1) = neK ll j := by rw [neK_succ hj, if_pos h0, List.append_nil]
  refine ⟨h.s.below b, by rw [e]; exact h.ln, ?_, h.bl.trans (b.mono h.bl.size), ?_⟩
  · rw [e]; exact h.cs
  · rw [h.ge, gaE_drop hj, if_pos h0]
theorem GI.next {w wk w' : World} {va va' : Value} {us : List Value} {u : Value} {ll : List (List Cr)} {j : Nat} (h : GI w wk va us ll j) (hj : j < ll.length) (h0 : ¬ ll[j].length = 0) (hc : chk ll[j] = 0) (hu : CS w u ll[j]) (o : OwnS w' w.heap.size va' (us ++ [u])) (b : Below w.heap.size wk w') : GI w w' va' (us ++ [u]) ll (j + 1) := by
  have e : neK ll (j + 1) = neK ll j ++ [ll[j]] := by rw [neK_succ hj, if_neg h0]
  refine ⟨o, by rw [e]; simp [h.ln], ?_, h.bl.trans b, ?_⟩
  · intro k h1 h2
    have hl := h.ln
    by_cases hk : k < us.length
    · have h3 : (us ++ [u])[k] = us[k] := List.getElem_append_left hk
      have h4 : (neK ll (j + 1))[k] = (neK ll j)[k]'(by omega) := by simp only [e]; exact List.getElem_append_left (by omega)
      rw [h3, h4]; exact h.cs k hk (by omega)
    · have hk2 : k = us.length := by simp at h1; omega
      have h3 : (us ++ [u])[k] = u := by simp [hk2]
      have h4 : (neK ll (j + 1))[k] = ll[j] := by simp only [e]; simp [hk2, hl]
      rw [h3, h4]; exact hu
  · rw [h.ge, gaE_drop hj, if_neg h0, if_pos hc]
set_option maxHeartbeats 4000000 in
set_option maxRecDepth 100000 in
theorem gather_any (w : World) (v : Value) (ll : List (List Cr)) (h : FS w v ll) (ht : ∀ x ∈ ll, ∀ c ∈ x, c.text.size ≤ maxLen) (hx : ∀ x ∈ ll, x.length ≤ 1000000000000000) (hl : (ll.length + 1) * 24 ≤ 140737488355328) (hv : FV w) :
    Calls Tryd.prog 55 #[v] w fun e w' => ∃ p cap, e = .returned (.tuple #[.slice p (gaL ll).length cap, .int .i64 (gaE ll)]) ∧ FS w' (.slice p (gaL ll).length cap) (gaL ll) ∧ Below w.heap.size w w' := by
  obtain ⟨p, cap, rfl⟩ := h.form
  have HS : Hid (FS w (.slice p ll.length cap) ll) := h
  have CK : Hid (∀ j (hj : j < ll.length) w' v', CS w' v' ll[j] → Below w.heap.size w w' → _) := fun j hj w' v' cs b => check_any v' ll[j] w' cs (ht _ (List.getElem_mem hj)) (hv.below b) (hx _ (List.getElem_mem hj))
  have G0 : Hid (GI w w (.slice none 0 0) [] ll 0) := ⟨World.ownsRow_nil _ _ _ _, by simp [neK, neL], fun k h1 => by simp at h1, Below.refl _ _, rfl⟩
  have HB : Hid (∀ j (hj : j < ll.length), ll[j].length ≤ 1000000000000000) := fun j hj => hx _ (List.getElem_mem hj)
  clear h ht hx hv
  go_enter Tryd.func55, Tryd.ntmps55
  go_wp2
  go_loopw [4, 10] (fun a b wr => ∃ (j : Nat) (va : Value) (us : List Value) (wk : World), j ≤ ll.length ∧ b = .int .i64 j ∧ va = a ∧ wk = wr ∧ Hid (GI w wk va us ll j)) (fun _ b _ => ll.length - (intOf b).toNat)
  case atStart => exact ⟨0, _, [], _, Nat.zero_le _, rfl, rfl, rfl, G0⟩
  case round =>
    obtain ⟨j, va, us, wr, hj, rfl, rfl, rfl, HI⟩ := hrel
    clear G0
    by_cases hlt : j < ll.length
    · obtain ⟨X, o, pu, cu, rfl, hX, hc, hcs⟩ := HS.out.at hlt
      have hc2 := (HI.out.bl.cell (p := ⟨X, o + j, none⟩) hX).trans hc
      have hbj := HB.out j hlt
      have HC : Hid (CS w (.slice pu ll[j].length cu) ll[j]) := hcs
      by_cases h0 : ll[j].length = 0
      · have NX : Hid (GI w wr va us ll (j + 1)) := HI.out.skip hlt h0 (Below.refl _ _)
        clear HI hcs hc
        rw [h0] at hc2
        go_wp2
        go_roundw
        case rel => exact ⟨j + 1, _, _, _, by omega, by go_num, rfl, rfl, NX⟩
        case measure => simp [intOf]; omega
      · have CKJ := CK.out j hlt wr (.slice pu ll[j].length cu) (hcs.below HI.out.bl) HI.out.bl
        have hlne : ¬ ((ll[j].length : Nat) : Int) = 0 := by omega
        have hlb : (((ll[j].length : Nat) : Int) == 0) = false := by simpa using hlne
        by_cases hok : chk ll[j] = 0
        · rw [hok] at CKJ
          have NX : Hid (∀ v' w5 w6, Below wr.heap.size wr w5 → OwnS w6 w.heap.size v' (us ++ [.slice pu ll[j].length cu]) → Below w.heap.size w5 w6 → GI w w6 v' (us ++ [.slice pu ll[j].length cu]) ll (j + 1)) := fun v' w5 w6 b5 o6 b6 => HI.out.next hlt h0 hok HC.out o6 ((b5.mono HI.out.bl.size).trans b6)
          have LN : Hid ((us.length + 1) * 24 ≤ 140737488355328) := by
            show (us.length + 1) * 24 ≤ 140737488355328
            have := HI.out.ln; have := neK_le ll j; omega
          have OW : Hid (∀ w5, Below wr.heap.size wr w5 → OwnS w5 w.heap.size va us ∧ w.heap.size ≤ w5.heap.size) := fun w5 b => ⟨HI.out.s.below b, by have := HI.out.bl.size; have := b.size; omega⟩
          generalize ll[j].length = n at *
          clear hcs hc HI CK hok
          go_wp2_with (first | (go_at_call 31; refine CKJ.mono ?_; rintro e w5 ⟨rfl, hb5⟩; have B5 : Hid (Below wr.heap.size wr w5) := hb5; clear hb5) | (at_builtin; refine append_sv rfl (.tmp 22) (.tmp 24) 30 rfl w.heap.size Tryd.underlying30 info_fl _ _ _ va us pu n cu _ rfl (OW.out _ B5.out).1 _ rfl rfl rfl LN.out (OW.out _ B5.out).2 ?_; intro g1 c1 w6 ho6 hb6 hk6 hg6))
          go_roundw
          case rel => exact ⟨j + 1, _, _, _, by omega, by go_num, rfl, rfl, NX.out _ _ _ B5.out ho6 hb6⟩
          case measure => simp [intOf]; omega
        · have GE : Hid (gaE ll = chk ll[j]) := by show gaE ll = _; rw [HI.out.ge, gaE_drop hlt, if_neg h0, if_neg hok]
          have BL : Hid (Below w.heap.size w wr) := HI.out.bl
          have RS : Hid (gaL ll = []) := by show gaL ll = []; unfold gaL; rw [GE.out, if_neg hok]
          generalize chk ll[j] = ce at *
          have e1 : (ce == 0) = false := by simpa using hok
          have e2 : (ce != 0) = true := by simpa using hok
          generalize ll[j].length = n at *
          clear hcs hc HI CK
          go_wp2_with (go_at_call 31; refine CKJ.mono ?_; rintro e w5 ⟨rfl, hb5⟩; have B5 : Hid (Below wr.heap.size wr w5) := hb5; clear hb5)
          go_ret2
          rw [GE.out, RS.out]
          exact ⟨none, 0, rfl, ⟨none, 0, rfl, Nat.le_refl _, fun k hk => by simp at hk⟩, BL.out.trans (B5.out.mono BL.out.size)⟩
    · have GE : Hid (gaE ll = 0) := by show gaE ll = 0; rw [HI.out.ge, List.drop_eq_nil_of_le (by omega), gaE]
      have RS : Hid (gaL ll = neK ll j) := by
        show gaL ll = _
        unfold gaL neK; rw [GE.out, if_pos rfl, List.take_of_length_le (by omega)]
      have FN : Hid (FS wr va (neK ll j)) := HI.out.s.fs HI.out.ln (fun k h1 h2 => (HI.out.cs k h1 h2).below HI.out.bl)
      have BL : Hid (Below w.heap.size w wr) := HI.out.bl
      obtain ⟨pv, cv, rfl⟩ := FN.out.form
      clear HI
      go_wp2
      go_ret2
      rw [GE.out, RS.out]
      exact ⟨pv, cv, rfl, FN.out, BL.out⟩
end Go.Proofs.YtaleagkhblokgaaDoor
