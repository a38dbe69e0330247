/- The law NamesCloses: its find. -/
import Derived.Test.YthmppnmmlblbhaaDoorPn2
namespace Go.Proofs.YthmppnmmlblbhaaDoor
open Go.RowKit

theorem nodup_ex (p : ByteArray → Bool) : ∀ U : List ByteArray, ∃ ss : List ByteArray, ss.Nodup ∧ ∀ x, x ∈ ss ↔ x ∈ U ∧ p x = true
  | [] => ⟨[], .nil, by simp⟩
  | a :: r => by
    obtain ⟨ss, h1, h2⟩ := nodup_ex p r
    by_cases ha : a ∈ ss ∨ p a = false
    · refine ⟨ss, h1, fun x => ?_⟩
      rw [h2, List.mem_cons]
      constructor
      · rintro ⟨h3, h4⟩; exact ⟨Or.inr h3, h4⟩
      · rintro ⟨rfl | h3, h4⟩
        · rcases ha with e | e
          · exact (h2 _).1 e
          · rw [h4] at e; cases e
        · exact ⟨h3, h4⟩
    · have hn : a ∉ ss := fun e => ha (Or.inl e)
      have hp : p a = true := by cases e : p a with | true => rfl | false => exact absurd (Or.inr e) ha
      refine ⟨a :: ss, List.nodup_cons.2 ⟨hn, h1⟩, fun x => ?_⟩
      rw [List.mem_cons, h2, List.mem_cons]
      constructor
      · rintro (rfl | ⟨h3, h4⟩)
        · exact ⟨Or.inl rfl, hp⟩
        · exact ⟨Or.inr h3, h4⟩
      · rintro ⟨rfl | h3, h4⟩
        · exact Or.inl rfl
        · exact Or.inr ⟨h3, h4⟩
theorem srt_ex {p : ByteArray → Bool} {U : List ByteArray} (h : ∀ s, p s = true → s ∈ U) : ∃ T, Srt T p := by
  obtain ⟨ss, h1, h2⟩ := nodup_ex p U
  have tr : ∀ a b c : ByteArray, decide (a.data.toList ≤ b.data.toList) = true → decide (b.data.toList ≤ c.data.toList) = true → decide (a.data.toList ≤ c.data.toList) = true := fun a b c h1 h2 => by simp only [decide_eq_true_eq] at *; exact List.le_trans h1 h2
  have tot : ∀ a b : ByteArray, (decide (a.data.toList ≤ b.data.toList) || decide (b.data.toList ≤ a.data.toList)) = true := fun a b => by simp only [Bool.or_eq_true, decide_eq_true_eq]; exact List.le_total _ _
  have hp := List.mergeSort_perm ss (fun a b => decide (a.data.toList ≤ b.data.toList))
  have hs := List.pairwise_mergeSort tr tot ss
  have hn : (ss.mergeSort (fun a b => decide (a.data.toList ≤ b.data.toList))).Nodup := hp.nodup_iff.2 h1
  refine ⟨_, ⟨(hs.and hn).imp fun {a b} hab => ?_, fun s => ?_⟩⟩
  · have h3 : a.data.toList ≤ b.data.toList := by simpa using hab.1
    rcases List.le_iff_lt_or_eq.1 h3 with e | e
    · exact e
    · exact absurd (bytes_ext e) hab.2
  · rw [hp.mem_iff, h2]
    exact ⟨fun e => e.2, fun e => ⟨h s e, e⟩⟩
theorem srtL_mem {p : ByteArray → Bool} {U : List ByteArray} (h : ∀ s, p s = true → s ∈ U) (s : ByteArray) : inB (srtL p) s = p s := by
  obtain ⟨T, hT⟩ := srt_ex h
  rw [← hT.eq, Bool.eq_iff_iff, inB_iff, hT.mem]
theorem clos_in {L : List Prv} {s : ByteArray} (h : (fromF L s).2 = 0) (x : ByteArray) : inB (closL L s) x = rchB (askF L) s x := by
  unfold closL
  rw [if_pos h]
  exact srtL_mem (U := askU L) (fun x hx => rch_last (fun _ _ hy => askF_mem hy) (rchB_iff.1 hx)) x
theorem cyc_in {L : List Prv} (h : (setF L).2 = 0) (x : ByteArray) : inB (cycL L) x = rchB (askF L) x x := by
  unfold cycL
  rw [if_pos h]
  exact srtL_mem (U := askU L) (p := fun s => rchB (askF L) s s) (fun x hx => rch_last (fun _ _ hy => askF_mem hy) (rchB_iff.1 hx)) x
/-- Each name leads to a round, or has a longest chain. -/
theorem lgA_ex (L : List Prv) : ∀ (m : Nat) (path : List ByteArray) (x : ByteArray), mu (nameL L) (fun s => inB path s) ≤ m → (∀ p ∈ path, Rch (askF L) p x) → RD (askF L) x ∨ ∃ n, Lg (askF L) (inB (nameL L)) x n := by
  intro m
  induction m using Nat.strongRecOn with
  | _ m ih =>
  intro path x hm hpa
  cases hp : inB (nameL L) x with
  | false => exact Or.inr ⟨0, .out hp⟩
  | true =>
    cases hx : inB path x with
    | true => exact Or.inl ⟨x, Or.inl rfl, hpa x ((inB_iff _ _).1 hx)⟩
    | false =>
      have hlt : mu (nameL L) (fun s => inB (x :: path) s) < mu (nameL L) (fun s => inB path s) := mu_lt (fun s hs => (inB_iff _ _).2 (.tail _ ((inB_iff _ _).1 hs))) ((inB_iff _ _).1 hp) hx ((inB_iff _ _).2 (.head _))
      have hy : ∀ y ∈ askF L x, RD (askF L) y ∨ ∃ n, Lg (askF L) (inB (nameL L)) y n := fun y hy => by
        refine ih _ (by omega) (x :: path) y (Nat.le_refl _) (fun p hpm => ?_)
        cases hpm with
        | head => exact .one hy
        | tail _ hpm => exact (hpa p hpm).trans (.one hy)
      by_cases hr : ∃ y ∈ askF L x, RD (askF L) y
      · obtain ⟨y, hy1, hy2⟩ := hr
        exact Or.inl (hy2.up hy1)
      · right
        have hl : ∀ y ∈ askF L x, ∃ n, Lg (askF L) (inB (nameL L)) y n := fun y hy1 => by
          rcases hy y hy1 with e | e
          · exact absurd ⟨y, hy1, e⟩ hr
          · exact e
        exact ⟨_, .step (fun y => Classical.epsilon fun n => Lg (askF L) (inB (nameL L)) y n) hp fun y hy1 => Classical.epsilon_spec (hl y hy1)⟩
theorem lngI_spec (L : List Prv) (s : ByteArray) : LgA (askF L) (inB (nameL L)) s (lngI L s) := by
  have h : ∃ r, LgA (askF L) (inB (nameL L)) s r := by
    rcases lgA_ex L _ [] s (Nat.le_refl _) (by simp) with e | ⟨n, e⟩
    · exact ⟨-1, Or.inl ⟨rfl, e⟩⟩
    · exact ⟨n, Or.inr ⟨n, rfl, e⟩⟩
  obtain ⟨r, hr⟩ := h
  rw [← lngI_eq hr]; exact hr
noncomputable def trnN (L : List Prv) (t : Bool) (l : List ByteArray) : Bool := l.foldl (fun t y => if inB (nameL L) y = true then t || (lngI L y == -1) else t) t
noncomputable def bstN (L : List Prv) (b : Int) (l : List ByteArray) : Int := l.foldl (fun b y => if inB (nameL L) y = true then max b (lngI L y) else b) b
theorem trnN_next (L : List Prv) (t : Bool) (l : List ByteArray) {k : Nat} (hk : k < l.length) : trnN L t (l.take (k + 1)) = if inB (nameL L) l[k] = true then trnN L t (l.take k) || (lngI L l[k] == -1) else trnN L t (l.take k) := by
  unfold trnN
  rw [List.take_add_one, List.getElem?_eq_getElem hk, Option.toList_some, List.foldl_append]; rfl
theorem bstN_next (L : List Prv) (b : Int) (l : List ByteArray) {k : Nat} (hk : k < l.length) : bstN L b (l.take (k + 1)) = if inB (nameL L) l[k] = true then max (bstN L b (l.take k)) (lngI L l[k]) else bstN L b (l.take k) := by
  unfold bstN
  rw [List.take_add_one, List.getElem?_eq_getElem hk, Option.toList_some, List.foldl_append]; rfl
theorem trnN_iff (L : List Prv) : ∀ (l : List ByteArray) (t : Bool), trnN L t l = true ↔ t = true ∨ ∃ y ∈ l, inB (nameL L) y = true ∧ lngI L y = -1
  | [], t => by unfold trnN; simp
  | y :: r, t => by
    have ih := trnN_iff L r (if inB (nameL L) y = true then t || (lngI L y == -1) else t)
    unfold trnN at ih ⊢
    rw [List.foldl_cons, ih]
    cases hy : inB (nameL L) y with
    | true =>
      rw [if_pos rfl, Bool.or_eq_true, beq_iff_eq]
      constructor
      · rintro ((h | h) | ⟨z, hz, h⟩)
        · exact Or.inl h
        · exact Or.inr ⟨y, .head _, hy, h⟩
        · exact Or.inr ⟨z, .tail _ hz, h⟩
      · rintro (h | ⟨z, hz, h1, h2⟩)
        · exact Or.inl (Or.inl h)
        · cases hz with
          | head => exact Or.inl (Or.inr h2)
          | tail _ hz => exact Or.inr ⟨z, hz, h1, h2⟩
    | false =>
      rw [if_neg (by decide)]
      constructor
      · rintro (h | ⟨z, hz, h⟩)
        · exact Or.inl h
        · exact Or.inr ⟨z, .tail _ hz, h⟩
      · rintro (h | ⟨z, hz, h1, h2⟩)
        · exact Or.inl h
        · cases hz with
          | head => rw [hy] at h1; cases h1
          | tail _ hz => exact Or.inr ⟨z, hz, h1, h2⟩
theorem bstN_eq (L : List Prv) (N : ByteArray → Nat) : ∀ (l : List ByteArray) (b : Int), 0 ≤ b → (∀ y ∈ l, (inB (nameL L) y = true → lngI L y = N y) ∧ (inB (nameL L) y = false → N y = 0)) → bstN L b l = max b (mxN (l.map N) : Nat)
  | [], b, hb, _ => by unfold bstN; simp [mxN]; omega
  | y :: r, b, hb, h => by
    have h1 := h y (.head _)
    have ih := fun b hb => bstN_eq L N r b hb (fun z hz => h z (.tail _ hz))
    unfold bstN at ih ⊢
    rw [List.foldl_cons, List.map_cons, mxN]
    cases hy : inB (nameL L) y with
    | true =>
      rw [if_pos rfl, h1.1 hy, ih _ (by omega)]
      omega
    | false =>
      rw [if_neg (by decide), ih b hb, h1.2 hy]
      omega
theorem lngI_bd (L : List Prv) (s : ByteArray) : -1 ≤ lngI L s ∧ lngI L s ≤ L.length := by
  rcases lngI_spec L s with ⟨e, _⟩ | ⟨n, e, h⟩
  · rw [e]; omega
  · have := lg_le h
    rw [e]; omega
theorem bstN_bd (L : List Prv) : ∀ (l : List ByteArray) (b : Int), 0 ≤ b → b ≤ L.length → 0 ≤ bstN L b l ∧ bstN L b l ≤ L.length
  | [], b, h0, h1 => by unfold bstN; exact ⟨h0, h1⟩
  | y :: r, b, h0, h1 => by
    have h2 := lngI_bd L y
    have ih := fun b h0 h1 => bstN_bd L r b h0 h1
    unfold bstN at ih ⊢
    rw [List.foldl_cons]
    cases hy : inB (nameL L) y with
    | true => rw [if_pos rfl]; exact ih _ (by omega) (by omega)
    | false => rw [if_neg (by decide)]; exact ih _ h0 h1
/-- What the law asks of a name's chain. -/
theorem closes_fin {L : List Prv} {s : ByteArray} (hp : inB (nameL L) s = true) :
    trnN L (rchB (askF L) s s) (askF L s) = (lngI L s == -1) ∧ (trnN L (rchB (askF L) s s) (askF L s) = false → lngI L s = bstN L 0 (askF L s) + 1 ∧ lngI L s ≤ L.length) := by
  have key : trnN L (rchB (askF L) s s) (askF L s) = true ↔ lngI L s = -1 := by
    rw [trnN_iff]
    constructor
    · intro h
      rcases lngI_spec L s with ⟨e, _⟩ | ⟨n, e, hl⟩
      · exact e
      · exfalso
        have hf := hl.free askF_none
        rcases h with h | ⟨y, hy, hyp, hyl⟩
        · exact hf ⟨s, Or.inl rfl, rchB_iff.1 h⟩
        · rcases lngI_spec L y with ⟨_, hr⟩ | ⟨m, e2, _⟩
          · exact hf (hr.up hy)
          · omega
    · intro h
      rcases lngI_spec L s with ⟨_, c, h1, h2⟩ | ⟨n, e, _⟩
      · rcases h1 with rfl | h1
        · exact Or.inl (rchB_iff.2 h2)
        · right
          obtain ⟨y, hy, h3⟩ := h1.first
          have hr : RD (askF L) y := by
            rcases h3 with rfl | h3
            · exact ⟨y, Or.inl rfl, h2⟩
            · exact ⟨c, Or.inr h3, h2⟩
          have hyp : inB (nameL L) y = true := by
            rcases h3 with rfl | h3
            · exact rch_prov h2
            · exact rch_prov h3
          refine ⟨y, hy, hyp, ?_⟩
          rcases lngI_spec L y with ⟨e, _⟩ | ⟨m, _, hm⟩
          · exact e
          · exact absurd hr (hm.free askF_none)
      · omega
  refine ⟨by rw [Bool.eq_iff_iff, key, beq_iff_eq], fun hf => ?_⟩
  have hne : lngI L s ≠ -1 := fun e => by rw [key.2 e] at hf; cases hf
  refine ⟨?_, (lngI_bd L s).2⟩
  rcases lngI_spec L s with ⟨e, _⟩ | ⟨n, e, hl⟩
  · exact absurd e hne
  · cases hl with
    | out h => rw [hp] at h; cases h
    | step N _ hN =>
      rw [e, bstN_eq L N (askF L s) 0 (by omega) (fun y hy => ⟨fun hyp => ?_, fun hyp => ?_⟩)]
      · omega
      · rcases lngI_spec L y with ⟨_, hr⟩ | ⟨m, e2, hm⟩
        · exact absurd hr ((hN y hy).free askF_none)
        · rw [e2, hm.det _ (hN y hy)]
      · exact (Lg.det (hN y hy) 0 (.out hyp))
end Go.Proofs.YthmppnmmlblbhaaDoor
namespace Go.Proofs.YthmppnmmlblbhaaDoor
open Go.RowKit

set_option maxHeartbeats 4000000 in
theorem find_any (v : Value) (L : List Pvx) (s : ByteArray) (w : World) (h : GS KP w v L) (hlm : L.length ≤ 100000000000) :
    Calls Tryd.prog 37 #[v, .string s] w fun e w' => e = .returned (.int .i64 (numI (nameL (pL L)) s)) ∧ w' = w := by
  obtain ⟨p, cap, rfl⟩ := h.form
  have HS : Hid (GS KP w (.slice p L.length cap) L) := h
  have HH : Hid (∀ k (hk : k < L.length), (∀ j (hj : j < k), (L[j]'(by omega)).p.name ≠ s) → L[k].p.name = s → numI (nameL (pL L)) s = k) := fun k hk ha hb => numI_hit (by rw [nameL_len]; exact hk) (fun j hj => by rw [nameL_get (by omega)]; exact ha j hj) (by rw [nameL_get hk]; exact hb)
  have HM : Hid ((∀ j (hj : j < L.length), L[j].p.name ≠ s) → numI (nameL (pL L)) s = -1) := fun ha => numI_miss (fun j hj => by rw [nameL_len] at hj; rw [nameL_get hj]; exact ha j hj)
  generalize numI (nameL (pL L)) s = R at *
  clear h
  go_enter Tryd.func37, Tryd.ntmps37
  go_wp2
  go_loop [5] (fun i => ∃ k : Nat, k ≤ L.length ∧ i = .int .i64 k ∧ Hid (∀ j (hj : j < k) (hl : j < L.length), L[j].p.name ≠ s)) (fun i => L.length - (intOf i).toNat)
  case atStart => exact ⟨0, Nat.zero_le _, rfl, fun j hj => by omega⟩
  case round =>
    obtain ⟨k, hkl, rfl, HR⟩ := hrel
    by_cases hlt : k < L.length
    · obtain ⟨X, o, rfl, hc, _⟩ := HS.out.atP hlt
      cases ht : (L[k].p.name.toList == s.toList)
      · have hne := nm_ne ht
        go_wp2
        go_round
        case rel =>
          refine ⟨k + 1, by omega, by go_num, fun j hj hl => ?_⟩
          by_cases e : j = k
          · subst e; exact hne
          · exact HR.out j (by omega) hl
        case measure => simp [intOf]; omega
      · have he : Hid (L[k].p.name = s) := nm_eq ht
        go_wp2
        go_ret
        exact ⟨ret_int (HH.out k hlt (fun j hj => HR.out j hj _) he.out).symm, rfl⟩
    · go_wp2
      go_ret
      exact ⟨ret_int (HM.out (fun j hj => HR.out j (by omega) hj)).symm, rfl⟩
end Go.Proofs.YthmppnmmlblbhaaDoor
