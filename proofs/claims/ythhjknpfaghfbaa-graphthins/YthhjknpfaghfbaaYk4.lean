/- Graph: whether a list has what is no weight; regions that draw their order, in a round. -/
import Derived.Test.YthhjknpfaghfbaaYb1
import Derived.OrdersIn
import Derived.BigRegionIn
namespace Go.Proofs.Ythhjknpfaghfbaa
open Go.RowKit

section
variable {F : Fence} {n l : Nat} {P : Program} {ops : Array Oper} {Q : Exit → Act → World → Prop}
theorem operIn_round {o : Oper} {a : Act} {w : World} {K : Act → World → Prop} (hro : F.round = none) (hd : ∀ c, o.op ≠ .defer c) (h : o.wpIn F n P a w K Q) : o.wpIn (F.inRound l) n P a w K Q := by
  unfold Oper.wpIn at *
  rw [hro, Oper.semAt_eq _ _ _ hd] at h
  rw [Oper.semAt_eq _ _ _ hd]
  exact h
theorem wpOpsIn_round (hro : F.round = none) (hd : ∀ o ∈ ops.toList, ∀ c, o.op ≠ .defer c) : ∀ (is : List Nat) (a : Act) (w : World), wpOpsIn F n P ops Q is a w → wpOpsIn (F.inRound l) n P ops Q is a w := by
  intro is
  induction is with
  | nil => exact fun a w h => h
  | cons i rest ih =>
    intro a w h
    simp only [wpOpsIn] at h ⊢
    cases ho : ops[i]? with
    | none =>
      simp only [ho] at h ⊢
      exact ih _ _ h
    | some o =>
      simp only [ho] at h ⊢
      have hm : o ∈ ops.toList := by
        obtain ⟨h1, h2⟩ := Array.getElem?_eq_some_iff.1 ho
        rw [← h2, ← Array.getElem_toList]
        exact List.getElem_mem _
      split
      · rename_i hw
        rw [if_pos hw] at h
        exact operIn_round hro (hd o hm) (Oper.wpIn_mono (fun a w k => ih a w k) h)
      · rename_i hw
        rw [if_neg hw] at h
        exact ⟨h.1, ih _ _ h.2⟩
/-- No operation defers. -/
def operCalm (o : Oper) : Bool := match o.op with | .defer _ => false | _ => true
/-- A region that draws its order, in a round: asked as at the fence without one. -/
theorem wpIn_region_any_round {id : Nat} {a : Act} {w : World} (hro : F.round = none) (hm : P.follows .mixedOrders = true) (hd : ops.toList.all operCalm = true)
    (h : wpAnyIn F n P .any ops Q ops.size (Array.replicate ops.size false) a w.drew) : (Code.region id ops true).wpIn (F.inRound l) n P Q a w :=
  wpIn_region_draw fun t => by
    refine wpOpsIn_round hro (fun o ho c e => ?_) _ _ _ ?_
    · have := List.all_eq_true.1 hd o ho
      unfold operCalm at this
      rw [e] at this
      cases this
    · simp only [Region.schedule, hm, Bool.true_or, if_true]
      exact wpAnyIn_sound ops.size t _ a _ h
end
/-- It is no weight. -/
def nwB (x : Int) : Bool := decide (x < 0) || decide (1099511627776 < x)
set_option maxHeartbeats 2000000 in
theorem isNoWeight_any (w : World) (x : Int) : Calls Try.prog 33 #[.int .i64 x] w fun e w' => e = .returned (.bool (nwB x)) ∧ w' = w := by
  by_cases h0 : x < 0
  · have b0 : decide (x < 0) = true := decide_eq_true h0
    have HN : Hid (nwB x = true) := by show _ = _; simp [nwB, h0]
    go_enter Try.func33, Try.ntmps33
    go_wp2
    go_ret
    exact ⟨ret_bool HN.out.symm, rfl⟩
  · have b0 : decide (x < 0) = false := decide_eq_false h0
    have HN : Hid (nwB x = decide (1099511627776 < x)) := by show _ = _; simp [nwB, h0]
    go_enter Try.func33, Try.ntmps33
    go_wp2
    go_ret
    exact ⟨ret_bool HN.out.symm, rfl⟩
/-- Where the first such stands. -/
def fiN (l : List Int) : Int := match l.findIdx? nwB with | none => -1 | some k => k
theorem fiN_ge (l : List Int) : decide (0 ≤ fiN l) = l.any nwB := by
  unfold fiN
  split
  · rename_i h
    rw [List.findIdx?_eq_none_iff] at h
    have : l.any nwB = false := List.any_eq_false.2 fun x hx => by rw [h x hx]; exact Bool.false_ne_true
    rw [this]; rfl
  · rename_i k h
    obtain ⟨h1, h2, _⟩ := List.findIdx?_eq_some_iff_getElem.1 h
    have : l.any nwB = true := List.any_eq_true.2 ⟨_, List.getElem_mem h1, h2⟩
    rw [this]; simp
theorem fiN_at {l : List Int} {k : Nat} (hk : k < l.length) (h : ∀ j (hj : j < l.length), j < k → nwB l[j] = false) (h2 : nwB l[k] = true) : fiN l = k := by
  unfold fiN
  have : l.findIdx? nwB = some k := List.findIdx?_eq_some_iff_getElem.2 ⟨hk, h2, fun j hj => by rw [h j (by omega) hj]; exact Bool.false_ne_true⟩
  rw [this]
theorem fiN_no {l : List Int} (h : ∀ j (hj : j < l.length), nwB l[j] = false) : fiN l = -1 := by
  unfold fiN
  have : l.findIdx? nwB = none := List.findIdx?_eq_none_iff.2 fun x hx => by
    obtain ⟨j, hj, e⟩ := List.mem_iff_getElem.1 hx
    rw [← e]; exact h j hj
  rw [this]
set_option maxHeartbeats 4000000 in
theorem indexNo_any (w : World) (v : Value) (l : List Int) (hv : GS KI w v l) (hl : l.length ≤ 1000000) : Calls Try.prog 57 #[v, .func (.func 33) #[] #[]] w fun e w' => e = .returned (.int .i64 (fiN l)) ∧ w' = w := by
  obtain ⟨p, c, rfl⟩ := hv.form
  have HV := hid hv
  have IN := hid (fun x => isNoWeight_any w x)
  obtain ⟨n, hn⟩ : ∃ n, n = l.length := ⟨_, rfl⟩
  have LN : Hid (l.length = n) := hn.symm
  rw [← hn] at hl ⊢
  clear hv hn
  go_enter Try.func57, Try.ntmps57
  go_wp2_with fail
  go_loopw [8] (fun v8 wr => ∃ (k : Nat), v8 = .int .i64 k ∧ wr = w ∧ k ≤ n ∧ Hid (∀ j (hj : j < l.length), j < k → nwB l[j] = false)) (fun v8 _ => n - (intOf v8).toNat)
  case atStart => exact ⟨0, rfl, rfl, Nat.zero_le _, fun j _ hj => absurd hj (Nat.not_lt_zero _)⟩
  case round =>
    obtain ⟨k, rfl, rfl, hk, HK⟩ := hrel
    by_cases hlt : k < n
    · have k1 : k < l.length := by have := LN.out; omega
      obtain ⟨X, o, e1, c1⟩ := HV.out.atI (k := k) (by exact k1)
      subst e1
      have IX := hid (IN.out l[k])
      have hki : (k : Int) < (n : Nat) := by omega
      obtain ⟨b, hb⟩ : ∃ b, b = nwB l[k] := ⟨_, rfl⟩
      have HB : Hid (nwB l[k] = b) := hb.symm
      rw [← hb] at IX
      generalize l[k] = x at c1 IX
      clear hb IN
      cases b with
      | true =>
        have FI := hid (fiN_at k1 HK.out HB.out)
        clear HK HB
        go_wp2_with (go_at_call 33; refine IX.out.mono ?_; rintro e w' ⟨rfl, hw⟩; rw [hw]; clear hw)
        go_ret
        exact ⟨ret_i FI.out.symm, rfl⟩
      | false =>
        have HN : Hid (∀ j (hj : j < l.length), j < k + 1 → nwB l[j] = false) := fun j hj h => by
          by_cases e : j < k
          · exact HK.out j hj e
          · obtain rfl : j = k := by omega
            exact HB.out
        clear HK HB
        go_wp2_with (go_at_call 33; refine IX.out.mono ?_; rintro e w' ⟨rfl, hw⟩; rw [hw]; clear hw)
        go_roundw
        case rel => exact ⟨k + 1, by go_num, trivial, by omega, HN⟩
        case measure => simp [intOf]; omega
    · obtain rfl : k = n := by omega
      have FI := hid (fiN_no (l := l) (fun j hj => HK.out j hj (by have := LN.out; omega)))
      clear HK IN
      go_wp2_with fail
      go_ret
      exact ⟨ret_i FI.out.symm, rfl⟩
set_option maxHeartbeats 2000000 in
theorem contNo_any (w : World) (v : Value) (l : List Int) (hv : GS KI w v l) (hl : l.length ≤ 1000000) : Calls Try.prog 32 #[v, .func (.func 33) #[] #[]] w fun e w' => e = .returned (.bool (l.any nwB)) ∧ w' = w := by
  have IX := hid (indexNo_any w v l hv hl)
  have FG := hid (fiN_ge l)
  obtain ⟨p, c, rfl⟩ := hv.form
  generalize fiN l = f at *
  clear hv
  go_enter Try.func32, Try.ntmps32
  go_wp2_with (go_at_call 57; refine IX.out.mono ?_; rintro e w' ⟨rfl, hw⟩; rw [hw]; clear hw)
  go_ret
  exact ⟨ret_bool FG.out, rfl⟩
end Go.Proofs.Ythhjknpfaghfbaa
