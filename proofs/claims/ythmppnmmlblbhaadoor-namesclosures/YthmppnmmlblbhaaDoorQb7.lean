/- Names: the longest chain. -/
import Derived.Test.YthmppnmmlblbhaaDoorQb6
namespace Go.Proofs.YthmppnmmlblbhaaDoor
open Go.RowKit Go.Maps

theorem zeroInt (w : World) : (zeroValue 3).run Tryd.prog w = .ok (.int .i64 0) w := by kernel_rfl
/-- A map from texts to numbers. -/
def MN (w : World) (b n : Nat) (g : ByteArray → Option Int) : Prop := MV w b n (fun s => (g s).map (Value.int .i64))
theorem MN.far {w w' : World} {b n : Nat} {g : ByteArray → Option Int} (h : MN w b n g) (k : w'.heap[b]? = w.heap[b]?) : MN w' b n g := MV.far h k
theorem MN.lt {w : World} {b n : Nat} {g : ByteArray → Option Int} (h : MN w b n g) : b < w.heap.size := MV.lt h
theorem MN.below {w w' : World} {b n : Nat} {g : ByteArray → Option Int} (h : MN w b n g) (k : Below w.heap.size w w') : MN w' b n g := MV.below h k
theorem MN.putted {w : World} {b n : Nat} {g : ByteArray → Option Int} {s : ByteArray} {v : Int} (h : MV w b n (putF (fun s => (g s).map (Value.int .i64)) s (.int .i64 v))) : MN w b n (putI g s v) := by
  refine MV.congr h fun x => ?_
  unfold putF putI
  split <;> rfl
theorem MN.notRow {w : World} {b n : Nat} {g : ByteArray → Option Int} (h : MN w b n g) : ∀ cs, w.heap[b]? ≠ some (.cells cs 9) := fun cs e => by
  obtain ⟨D, ⟨es, cl, h1, _⟩, _⟩ := h
  rw [e] at h1; cases h1
/-- What is in the table. -/
def inI (g : ByteArray → Option Int) : ByteArray → Bool := fun s => (g s).isSome
theorem inI_put {g : ByteArray → Option Int} {s : ByteArray} {v : Int} : (∀ x, inI g x = true → inI (putI g s v) x = true) ∧ inI (putI g s v) s = true := by
  refine ⟨fun x hx => ?_, by simp [inI, putI]⟩
  unfold inI putI at *
  split
  · rfl
  · exact hx
/-- What a call of longest has done to the table, where it goes on. -/
structure LGo (L : List Prv) (w w' : World) (bK B : Nat) (g : ByteArray → Option Int) (path : List ByteArray) : Prop where
  ex : ∃ n' g', MN w' bK n' g' ∧ n' + 2 * mu (nameL L) (inI g') ≤ B ∧ LI (askF L) (inB (nameL L)) g' path ∧ (∀ s, inI g s = true → inI g' s = true)
/-- What longest answers. -/
def LAns (L : List Prv) (w w' : World) (bK B : Nat) (g : ByteArray → Option Int) (path : List ByteArray) (nm : ByteArray) (r : Int) : Prop := (r = -1 ∧ RD (askF L) nm) ∨ ∃ n : Nat, r = (n : Int) ∧ n ≤ 1000000 ∧ Lg (askF L) (inB (nameL L)) nm n ∧ LGo L w w' bK B g path
theorem askF_none {L : List Prv} : ∀ x, inB (nameL L) x = false → askF L x = [] := fun x hx => by
  cases h : askF L x with
  | nil => rfl
  | cons y r =>
    have : inB (nameL L) x = true := rch_prov (L := L) (z := y) (.one (by rw [h]; exact .head _))
    rw [this] at hx; cases hx
theorem lg_le {L : List Prv} {x : ByteArray} {n : Nat} (h : Lg (askF L) (inB (nameL L)) x n) : n ≤ L.length := by
  have := h.le askF_none (N := nameL L) (fun s hs => (inB_iff _ _).1 hs)
  unfold nameL at this
  rw [List.length_map] at this; exact this
set_option maxHeartbeats 16000000 in
set_option maxRecDepth 100000 in
theorem longest_any (L : List Prv) (bA bK : Nat) (f : ByteArray → Option Value) (hLL : L.length ≤ 256) (hne : bK ≠ bA) : ∀ (m : Nat) (nm : ByteArray) (w : World) (n B : Nat) (g : ByteArray → Option Int) (path : List ByteArray), mu (nameL L) (inI g) ≤ m → n + 2 * mu (nameL L) (inI g) ≤ B → B ≤ 1000000 → nm.size ≤ maxLen → AKM w bA L f → MN w bK n g → LI (askF L) (inB (nameL L)) g path → (∀ x ∈ path, Rch (askF L) x nm) →
    Calls Tryd.prog 68 #[.map (some bA), .string nm, .map (some bK)] w fun e w' => ∃ r, e = .returned (.int .i64 r) ∧ LAns L w w' bK B g path nm r ∧ But (fun x => x = bK) w w' := by
  intro m
  induction m using Nat.strongRecOn with
  | _ m IH0 =>
  intro nm w n B g path hmu hn hB hnm hk hg hli hpa
  have IH : Hid (∀ (y : ByteArray) (w1 : World) (n1 B1 : Nat) (g1 : ByteArray → Option Int) (path1 : List ByteArray), mu (nameL L) (inI g1) < m → n1 + 2 * mu (nameL L) (inI g1) ≤ B1 → B1 ≤ 1000000 → y.size ≤ maxLen → AKM w1 bA L f → MN w1 bK n1 g1 → LI (askF L) (inB (nameL L)) g1 path1 → (∀ x ∈ path1, Rch (askF L) x y) → _) := fun y w1 n1 B1 g1 path1 h1 h2 h3 h4 h5 h6 h7 h8 => IH0 (mu (nameL L) (inI g1)) h1 y w1 n1 B1 g1 path1 (Nat.le_refl _) h2 h3 h4 h5 h6 h7 h8
  have PV : Hid _ := provides_any bA L.length f nm w hk.mv hnm
  rw [hk.hs] at PV
  cases hin : inB (nameL L) nm with
  | false =>
    rw [hin] at PV
    have AN : Hid (LAns L w w bK B g path nm 0) := Or.inr ⟨0, rfl, by omega, .out hin, ⟨n, g, hg, hn, hli, fun _ h => h⟩⟩
    clear IH IH0 hk hg hli hpa
    go_enter Tryd.func68, Tryd.ntmps68
    go_wp2_with fail
    refine Calls.mono PV.out ?_
    rintro e w1 ⟨rfl, hw1⟩
    rw [hw1]
    clear hw1 PV
    go_wp2_with fail
    go_ret
    exact ⟨0, rfl, AN.out, But.refl _ _⟩
  | true =>
    rw [hin] at PV
    have MG : Hid (MV w bK n (fun s => (g s).map (Value.int .i64))) := hg
    cases hgn : g nm with
    | some v =>
      have AN : Hid (LAns L w w bK B g path nm v) := by
        by_cases hv : v = -1
        · subst hv
          exact Or.inl ⟨rfl, nm, Or.inl rfl, hpa nm (hli.neg nm hgn)⟩
        · obtain ⟨k, rfl, hk2⟩ := hli.pos nm v hgn hv
          exact Or.inr ⟨k, rfl, by have := lg_le hk2; omega, hk2, ⟨n, g, hg, hn, hli, fun _ h => h⟩⟩
      have VL : Hid (((fun s => (g s).map (Value.int .i64)) nm).getD (.int .i64 0) = .int .i64 v ∧ ((fun s => (g s).map (Value.int .i64)) nm).isSome = true) := by show _ ∧ _; simp [hgn]
      clear IH IH0 hk hg hli hpa hgn
      go_enter Tryd.func68, Tryd.ntmps68
      go_wp2_with fail
      refine Calls.mono PV.out ?_
      rintro e w1 ⟨rfl, hw1⟩
      rw [hw1]
      clear hw1 PV
      go_wp2_with (at_lookup; refine mv_ok rfl _ _ 88 rfl 3 Tryd.underlying88 (zeroInt _) bK n _ rfl MG.out nm rfl hnm ?_; rw [VL.out.1, VL.out.2])
      go_ret
      exact ⟨v, rfl, AN.out, But.refl _ _⟩
    | none =>
      have VL : Hid (((fun s => (g s).map (Value.int .i64)) nm).getD (.int .i64 0) = .int .i64 0 ∧ ((fun s => (g s).map (Value.int .i64)) nm).isSome = false) := by show _ ∧ _; simp [hgn]
      have hI : inI g nm = false := by simp [inI, hgn]
      have LT : Hid (∀ g', (∀ s, inI (putI g nm (-1)) s = true → inI g' s = true) → mu (nameL L) (inI g') < mu (nameL L) (inI g)) := fun g' hg' => mu_lt (fun s hs => hg' s (inI_put.1 s hs)) ((inB_iff _ _).1 hin) hI (hg' nm inI_put.2)
      have UP : Hid (∀ g', (∀ s, inI (putI g nm (-1)) s = true → inI g' s = true) → ∀ s, inI g s = true → inI g' s = true) := fun g' hg' s hs => hg' s (inI_put.1 s hs)
      obtain ⟨pT, cT, e1, gT, nT⟩ := hk.each nm
      have HE : Hid ((f nm).getD (.slice none 0 0) = .slice pT (askF L nm).length cT) := e1
      have HKF : Hid (∀ w1, But (fun x => x = bK) w w1 → AKM w1 bA L f) := fun w1 k => hk.far k (fun x e => by rw [e]; exact hg.notRow) (fun e => hne e.symm)
      have HGS : Hid (∀ w1, But (fun x => x = bK) w w1 → GS KS w1 (.slice pT (askF L nm).length cT) (askF L nm)) := fun w1 k => by
        obtain ⟨p2, c2, e2, g2, _⟩ := (HKF.out w1 k).each nm
        rw [e1] at e2
        rw [e2]; exact g2
      have HT : Hid (∀ y ∈ askF L nm, y.size ≤ maxLen) := fun y hy => hk.un y (askF_mem hy)
      have hl : (askF L nm).length ≤ 65536 := Nat.le_trans (askF_len L nm) hk.le
      have L0 : Hid (LI (askF L) (inB (nameL L)) (putI g nm (-1)) (nm :: path)) := hli.begin nm
      have HPA : Hid (∀ y ∈ askF L nm, ∀ x ∈ nm :: path, Rch (askF L) x y) := fun y hy x hx => by
        cases hx with
        | head => exact .one hy
        | tail _ hx => exact (hpa x hx).trans (.one hy)
      have HMU : Hid (mu (nameL L) (inI g) ≤ m ∧ n + 2 * mu (nameL L) (inI g) ≤ B) := ⟨hmu, hn⟩
      have nB : n < maxLen := by unfold maxLen; omega
      have HIN : Hid (inB (nameL L) nm = true) := hin
      clear IH0 hmu hn hk hg hli hpa hgn hI e1 gT nT hin
      go_enter Tryd.func68, Tryd.ntmps68
      go_wp2_with fail
      refine Calls.mono PV.out ?_
      rintro e w1 ⟨rfl, hw1⟩
      rw [hw1]
      clear hw1 PV
      go_wp2_with (first | (at_lookup; refine mv_ok rfl _ _ 88 rfl 3 Tryd.underlying88 (zeroInt _) bK n _ rfl MG.out nm rfl hnm ?_; rw [VL.out.1, VL.out.2]) | (at_mapUpdate; refine mv_put rfl _ _ _ 88 rfl 3 Tryd.underlying88 bK n _ rfl MG.out nB nm (.int .i64 (-1)) rfl rfl hnm ?_; intro w2 hm2 hb2) | (at_lookup; refine mv_at rfl _ _ 70 rfl 28 Tryd.underlying70 (zeroSS _) bA L.length f rfl (HKF.out _ hb2).mv nm rfl hnm ?_; rw [HE.out]))
      have S0 : Hid (∃ n' g', MN w2 bK n' g' ∧ n' + 1 + 2 * mu (nameL L) (inI g') ≤ B ∧ LI (askF L) (inB (nameL L)) g' (nm :: path) ∧ (∀ s, inI (putI g nm (-1)) s = true → inI g' s = true) ∧ But (fun x => x = bK) w w2) := ⟨n + 1, putI g nm (-1), MN.putted hm2, by have h1 := LT.out (putI g nm (-1)) (fun _ h => h); have h2 := HMU.out.2; omega, L0.out, fun _ h => h, hb2⟩
      clear hm2 hb2 L0
      go_loopw [9, 31] (fun v9 v31 wr => ∃ (k mst : Nat) (wk : World), v9 = .int .i64 mst ∧ v31 = .int .i64 k ∧ wk = wr ∧ k ≤ (askF L nm).length ∧ mst ≤ 256 ∧ Hid (LK (askF L) (inB (nameL L)) nm k mst) ∧ Hid (∃ n' g', MN wk bK n' g' ∧ n' + 1 + 2 * mu (nameL L) (inI g') ≤ B ∧ LI (askF L) (inB (nameL L)) g' (nm :: path) ∧ (∀ s, inI (putI g nm (-1)) s = true → inI g' s = true) ∧ But (fun x => x = bK) w wk)) (fun _ v31 _ => (askF L nm).length - (intOf v31).toNat)
      case atStart => exact ⟨0, 0, _, rfl, rfl, rfl, Nat.zero_le _, Nat.zero_le _, LK.start _ _ _, S0⟩
      case round =>
        obtain ⟨k, mst, wr, rfl, rfl, rfl, hk, hmst, HL, HI⟩ := hrel
        clear S0
        obtain ⟨n', g', hm', hn', hl', hu', hb'⟩ := HI.out
        have MQ : Hid (MN wr bK n' g') := hm'
        have NQ : Hid (n' + 1 + 2 * mu (nameL L) (inI g') ≤ B) := hn'
        have LQ : Hid (LI (askF L) (inB (nameL L)) g' (nm :: path)) := hl'
        have UQ : Hid (∀ s, inI (putI g nm (-1)) s = true → inI g' s = true) := hu'
        have BQ : Hid (But (fun x => x = bK) w wr) := hb'
        clear HI hm' hn' hl' hu' hb'
        by_cases hlt : k < (askF L nm).length
        · obtain ⟨X, o, e1, x1⟩ := (HGS.out _ BQ.out).atS hlt
          obtain rfl : pT = some ⟨X, o, none⟩ := e1
          have ym := List.getElem_mem hlt
          have YM : Hid ((askF L nm)[k] ∈ askF L nm) := ym
          have CL : Hid _ := IH.out (askF L nm)[k] wr n' (B - 1) g' (nm :: path) (by have h1 := LT.out g' UQ.out; have h2 := HMU.out.1; omega) (by have := NQ.out; omega) (by omega) (HT.out _ ym) (HKF.out _ BQ.out) MQ.out LQ.out (HPA.out _ ym)
          have HLT : Hid (k + 1 ≤ (askF L nm).length) := hlt
          have LKN : Hid (∀ v, Lg (askF L) (inB (nameL L)) (askF L nm)[k] v → LK (askF L) (inB (nameL L)) nm (k + 1) (max mst v)) := fun v hv => HL.out.next hlt hv
          clear ym
          generalize (askF L nm)[k] = y at *
          go_wp2_with fail
          refine Calls.mono CL.out ?_
          rintro e w3 ⟨r, rfl, han, hb3⟩
          have B3 : Hid (But (fun x => x = bK) w w3) := BQ.out.trans hb3 (fun x hx => Or.inl hx)
          clear hb3 CL x1
          rcases han with ⟨rfl, hrd⟩ | ⟨v, rfl, hv6, hlg, hgo⟩
          · have AN : Hid (LAns L w w3 bK B g path nm (-1)) := Or.inl ⟨rfl, RD.up YM.out hrd⟩
            clear hrd
            go_wp2_with fail
            go_ret
            exact ⟨-1, rfl, AN.out, B3.out⟩
          · have hv256 : v ≤ 256 := by have := lg_le hlg; omega
            have N3 : Hid (∃ n' g', MN w3 bK n' g' ∧ n' + 1 + 2 * mu (nameL L) (inI g') ≤ B ∧ LI (askF L) (inB (nameL L)) g' (nm :: path) ∧ (∀ s, inI (putI g nm (-1)) s = true → inI g' s = true) ∧ But (fun x => x = bK) w w3) := by
              obtain ⟨n3, g3, h1, h2, h3, h4⟩ := hgo.ex
              have hq := NQ.out
              exact ⟨n3, g3, h1, by omega, h3, fun s hs => h4 s (UQ.out s hs), B3.out⟩
            have L3 : Hid (LK (askF L) (inB (nameL L)) nm (k + 1) (max mst v)) := LKN.out v hlg
            have hv1 : ((v : Int) == -1) = false := by simp
            clear hlg hgo LKN NQ MQ LQ UQ BQ
            go_wp2_with fail
            go_roundw
            case rel => exact ⟨k + 1, max mst v, _, by first | rfl | (congr 1; omega) | go_num, by go_num, rfl, HLT.out, by omega, L3, N3⟩
            case measure => have := HLT.out; simp [intOf]; omega
        · have hke : k = (askF L nm).length := by omega
          have LF : Hid (Lg (askF L) (inB (nameL L)) nm (mst + 1)) := by have := HL.out; rw [hke] at this; exact this.fin HIN.out
          have nB' : n' < maxLen := by have := NQ.out; unfold maxLen; omega
          clear hke HL
          go_wp2_with (first | (at_mapUpdate; refine mv_put rfl _ _ _ 88 rfl 3 Tryd.underlying88 bK n' _ rfl MQ.out nB' nm (.int .i64 ((mst + 1 : Nat) : Int)) rfl (by first | rfl | (congr 1; omega)) hnm ?_; intro w2 hm2 hb2))
          have AN : Hid (LAns L w w2 bK B g path nm ((mst + 1 : Nat) : Int)) := Or.inr ⟨mst + 1, rfl, by omega, LF.out, ⟨n' + 1, putI g' nm ((mst + 1 : Nat) : Int), MN.putted hm2, by have h1 := NQ.out; have h2 := mu_le (nameL L) (p := inI g') (q := inI (putI g' nm ((mst + 1 : Nat) : Int))) (fun s hs => inI_put.1 s hs); show _ ≤ _; omega, LQ.out.finish LF.out, fun s hs => inI_put.1 s (UP.out g' UQ.out s hs)⟩⟩
          have B2 : Hid (But (fun x => x = bK) w w2) := BQ.out.trans hb2 (fun x hx => Or.inl hx)
          clear hm2 hb2
          go_ret
          exact ⟨((mst + 1 : Nat) : Int), ret_int (by omega), AN.out, B2.out⟩
open Classical in
/-- How long the longest chain is. -/
noncomputable def lngI (L : List Prv) (s : ByteArray) : Int := if h : ∃ r, LgA (askF L) (inB (nameL L)) s r then h.choose else 0
theorem lngI_eq {L : List Prv} {s : ByteArray} {r : Int} (h : LgA (askF L) (inB (nameL L)) s r) : r = lngI L s := by
  have hx : ∃ r, LgA (askF L) (inB (nameL L)) s r := ⟨r, h⟩
  unfold lngI
  rw [dif_pos hx]
  exact h.uniq askF_none hx.choose_spec
noncomputable def longF (L : List Prv) (s : ByteArray) : Int := if (fromF L s).2 = 0 then lngI L s else 0
end Go.Proofs.YthmppnmmlblbhaaDoor
