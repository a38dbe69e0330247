/- Values: the text of one: textOf. -/
import Derived.Test.YtahcllncjpaijabDoorNum
namespace Go.Proofs.YtahcllncjpaijabDoor
open Go.RowKit

set_option maxHeartbeats 16000000 in
set_option maxRecDepth 100000 in
theorem textOf_any (p : Option Addr) (cap : Nat) (t : Vt) (w : World) (h : AS w (.slice p (szV t) cap) (flV t)) (hr : RT t) (hp : PowBelow w.heap.size w) :
    Calls Tryd.prog 15 #[.slice p (szV t) cap] w fun e w' => e = .returned (.string ⟨(txP 0 (opV t) (flV t)).toArray⟩) ∧ Below w.heap.size w w' := by
  have hsz := hr.sz
  have LA : Hid _ := lay_any p cap t w h hr
  have AB : Hid (∀ k (hk : k < szV t), atB ((flV t)[k]'hk) = true) := fun k hk => flV_atB t hr.wf _ (List.getElem_mem hk)
  have OB : Hid (∀ k, 0 ≤ (opV t).getD k 0 ∧ (opV t).getD k 0 ≤ 32) := opV_at hr
  have TXK : Hid (∀ k (hk : k < szV t), txP k ((opV t).drop k) ((flV t).drop k) = plT k ((opV t).getD k 0) ((flV t)[k]'hk) ++ txP (k + 1) ((opV t).drop (k + 1)) ((flV t).drop (k + 1))) := fun k hk => txP_at (by rw [opV_len]; exact hk) hk
  have TXE : Hid (txP (szV t) ((opV t).drop (szV t)) ((flV t).drop (szV t)) = []) := by
    show _ = _
    unfold szV
    rw [List.drop_length, txP_nil]
  have HS : Hid (AS w (.slice p (szV t) cap) (flV t)) := h
  have HP : Hid (PowBelow w.heap.size w) := hp
  have OL : Hid ((opV t).length = szV t) := opV_len t
  have fL := fldL
  obtain ⟨T, hT⟩ : ∃ T, T = txP 0 (opV t) (flV t) := ⟨_, rfl⟩
  have HT : Hid ([] ++ txP 0 ((opV t).drop 0) ((flV t).drop 0) = T) := by rw [hT]; rfl
  rw [← hT]
  clear h hr hp hT
  go_enter Tryd.func15, Tryd.ntmps15
  go_wp2_with (go_at_call 23; refine Calls.mono LA.out ?_; rintro e w1 ⟨g, rfl, ho1, hb1⟩)
  have ATK : Hid (∀ w2, Below w1.heap.size w1 w2 → ∀ k (hk : k < szV t), ∃ X o, p = some ⟨X, o, none⟩ ∧ w2.cell? ⟨X, o + k * 4, none⟩ = some (.int .i64 ((flV t)[k]'hk).kind) ∧ w2.cell? ⟨X, o + k * 4 + 1, none⟩ = some (.int .i64 ((flV t)[k]'hk).n) ∧ w2.cell? ⟨X, o + k * 4 + 2, none⟩ = some (.int .i64 ((flV t)[k]'hk).int) ∧ w2.cell? ⟨X, o + k * 4 + 3, none⟩ = some (.string ((flV t)[k]'hk).text) ∧ w2.cell? ⟨g, k, none⟩ = some (.int .i64 ((opV t).getD k 0))) := fun w2 b k hk => by
    obtain ⟨X, o, e, c0, c1, c2, c3⟩ := ((HS.out.below hb1).below b).atA (k := k) hk
    exact ⟨X, o, e, c0, c1, c2, c3, own_int (ho1.below b) OL.out.symm (by rw [OL.out]; exact hk)⟩
  have PW : Hid (∀ w2, Below w1.heap.size w1 w2 → PowBelow w1.heap.size w2) := fun w2 b w3 b3 => HP.out w3 (hb1.trans ((b.trans b3).mono hb1.size))
  have FIN : Hid (∀ w2, Below w1.heap.size w1 w2 → Below w.heap.size w w2) := fun w2 b => hb1.trans (b.mono hb1.size)
  have O0 : Hid (Own w1 w1.heap.size (.slice none 0 0) []) := own_nil _ _
  have B0 : Hid (Below w1.heap.size w1 w1) := Below.refl _ _
  have Z0 : Hid (w1.heap.size ≤ w1.heap.size) := Nat.le_refl _
  obtain ⟨base, hbase⟩ : ∃ base, base = w1.heap.size := ⟨_, rfl⟩
  rw [← hbase] at ATK PW FIN O0 B0 Z0
  rw [hbase] at Z0
  have Z1 : Hid (base ≤ w1.heap.size) := by show _ ≤ _; omega
  clear LA HS HP OL ho1 hb1 fL hbase Z0
  go_wp2_with fail
  go_loopw [3, 11] (fun v3 v11 wr => ∃ (k : Nat) (v : Value) (wk : World) (L : List UInt8), v = v3 ∧ v11 = .int .i64 k ∧ wk = wr ∧ k ≤ szV t ∧ Hid (Own wk base v L) ∧ Hid (L ++ txP k ((opV t).drop k) ((flV t).drop k) = T) ∧ Hid (Below base w1 wk) ∧ Hid (base ≤ wk.heap.size) ∧ Hid (L.length ≤ k * 20000)) (fun _ v11 _ => szV t - (intOf v11).toNat)
  case atStart => exact ⟨0, _, _, [], rfl, rfl, rfl, Nat.zero_le _, O0, HT, B0, Z1, Nat.zero_le _⟩
  case round =>
    obtain ⟨k, v3, wr, L, rfl, rfl, rfl, hk, HO, HD, HB, HZ, HL⟩ := hrel
    clear O0 HT B0 Z1
    by_cases hlt : k < szV t
    · obtain ⟨X, o, e1, c0, c1, c2, c3, c4⟩ := ATK.out wr HB.out k hlt
      obtain rfl : p = some ⟨X, o, none⟩ := e1
      have hnx := TXK.out k hlt
      have hab := AB.out k hlt
      have hob := OB.out k
      rw [hnx] at HD
      generalize (flV t)[k]'hlt = a at *
      obtain ⟨ak, an, ai, tx⟩ := a
      simp only at c0 c1 c2 c3
      generalize hoo : (opV t).getD k 0 = oo at *
      obtain ⟨m, rfl⟩ : ∃ m : Nat, oo = m := ⟨oo.toNat, by omega⟩
      have hm : m ≤ 32 := by omega
      have hkind := atB_is hab
      have NX : Hid (∀ LS Z, LS = L ++ spT k ⟨ak, an, ai, tx⟩ → Z = atT ⟨ak, an, ai, tx⟩ → (LS ++ List.replicate m 91) ++ Z ++ txP (k + 1) ((opV t).drop (k + 1)) ((flV t).drop (k + 1)) = T) := fun LS Z e1 e2 => by
        rw [← HD.out, e1, e2]
        unfold plT
        simp [List.append_assoc]
      have A1 : Hid (ak = 1 → atT ⟨ak, an, ai, tx⟩ = Lib.itoa ai) := fun e => by unfold atT; rw [if_pos e]
      have A2 : Hid (ak = 2 → atT ⟨ak, an, ai, tx⟩ = quo tx.data.toList) := fun e => by unfold atT; rw [if_neg (by show ¬ ak = 1; omega), if_pos e]
      have A3 : Hid (ak = 3 → atT ⟨ak, an, ai, tx⟩ = [93]) := fun e => by unfold atT; rw [if_neg (by show ¬ ak = 1; omega), if_neg (by show ¬ ak = 2; omega)]
      have S0 : Hid (k = 0 → spT k ⟨ak, an, ai, tx⟩ = []) := fun e => by unfold spT; rw [if_pos e]
      have S1 : Hid (¬ k = 0 → an = 0 → spT k ⟨ak, an, ai, tx⟩ = [44, 32]) := fun e e2 => by unfold spT; rw [if_neg e, if_pos e2]
      have S2 : Hid (¬ k = 0 → ¬ an = 0 → spT k ⟨ak, an, ai, tx⟩ = []) := fun e e2 => by unfold spT; rw [if_neg e, if_neg e2]
      generalize atT ⟨ak, an, ai, tx⟩ = ZT at *
      generalize spT k ⟨ak, an, ai, tx⟩ = SP at *
      have HLB := HL.out
      have HOA : Hid (∀ ob, Own (wr.alloc ob) base v3 L) := fun ob => HO.out.alloc ob
      have HNB : Hid (some wr.heap.size ≠ v3.ownBlock) := Own.block_lt HO.out (Nat.le_refl _)
      have HBA : Hid (∀ ob, Below base w1 (wr.alloc ob)) := fun ob => HB.out.alloc HZ.out ob
      have HBX : Hid (∀ ob, (wr.alloc ob).heap[wr.heap.size]? = some ob) := fun ob => heap_alloc_new wr ob
      have HSA : Hid (∀ ob, (wr.alloc ob).heap.size = wr.heap.size + 1) := fun ob => by simp
      have HKW : Hid (k + 1 ≤ szV t) := hlt
      clear hnx hab hob HD HO HB HL hoo ATK AB OB TXK TXE FIN
      generalize szV t = n at *
      have hkn : (k : Int) < (n : Int) := by omega
      by_cases hk0 : k = 0
      · have hkI : ¬ (0 : Int) < (k : Int) := by omega
        have HSP : Hid (SP = []) := S0.out hk0
        clear S0 S1 S2 hk0
        have HLS : Hid (L = L ++ SP) := by show _ = _; rw [HSP.out, List.append_nil]
        have J1 : Hid (Own (wr.alloc (.cells #[.int .i64 ak, .int .i64 an, .int .i64 ai, .string tx] 43)) base v3 (L ++ List.replicate 0 91)) := by show Own _ _ _ (L ++ []); rw [List.append_nil]; exact HOA.out _
        have J2 : Hid (Below base w1 (wr.alloc (.cells #[.int .i64 ak, .int .i64 an, .int .i64 ai, .string tx] 43))) := HBA.out _
        have J3 : Hid ((wr.alloc (.cells #[.int .i64 ak, .int .i64 an, .int .i64 ai, .string tx] 43)).heap[wr.heap.size]? = some (.cells #[.int .i64 ak, .int .i64 an, .int .i64 ai, .string tx] 43)) := HBX.out _
        have J4 : Hid (base ≤ (wr.alloc (.cells #[.int .i64 ak, .int .i64 an, .int .i64 ai, .string tx] 43)).heap.size) := by rw [HSA.out]; have := HZ.out; show _ ≤ _; omega
        obtain ⟨LS, hLS⟩ : ∃ LS, LS = L := ⟨_, rfl⟩
        have HLL : LS.length ≤ k * 20000 + 2 := by rw [hLS]; omega
        have HL2 : Hid (LS = L ++ SP) := by show _ = _; rw [hLS]; exact HLS.out
        rw [← hLS] at J1
        clear hLS HLS
        clear HOA HNB HBA HBX HSA HSP HZ HLB
        go_wp2_with fail
        go_loopw [3, 30] (fun v3 v30 wr' => ∃ (j : Nat) (v : Value) (wj : World), v = v3 ∧ v30 = .int .i64 j ∧ wj = wr' ∧ j ≤ m ∧ Hid (Own wj base v (LS ++ List.replicate j 91)) ∧ Hid (Below base w1 wj) ∧ Hid (wj.heap[wr.heap.size]? = some (.cells #[.int .i64 ak, .int .i64 an, .int .i64 ai, .string tx] 43)) ∧ Hid (base ≤ wj.heap.size)) (fun _ v30 _ => m - (intOf v30).toNat)
        case atStart => exact ⟨0, _, _, rfl, rfl, rfl, Nat.zero_le _, J1, J2, J3, J4⟩
        case round =>
          obtain ⟨j, vj, wj, rfl, rfl, rfl, hj, HOJ, HBJ, HXJ, HZJ⟩ := hrel
          clear J1 J2 J3 J4
          have HLT : Hid (wr.heap.size < wj.heap.size) := (Array.getElem?_eq_some_iff.1 HXJ.out).1
          by_cases hjl : j < m
          · have hjI : (j : Int) < (m : Int) := by omega
            have HLN : Hid ((LS ++ List.replicate j 91).length ≤ k * 20000 + 34) := by show _ ≤ _; rw [List.length_append, List.length_replicate]; omega
            have RS : Hid (LS ++ List.replicate (j + 1) 91 = (LS ++ List.replicate j 91) ++ [91]) := by show _ = _; rw [List.replicate_succ', List.append_assoc]
            generalize LS ++ List.replicate j 91 = M at *
            have HLM := HLN.out
            clear HL2 NX A1 A2 A3 hkind
            go_wp2_with (at_builtin; refine append_bytes_keep rfl (.tmp 32) (.tmp 33) 72 rfl base Tryd.underlying72 info_u8 wj _ _ _ M [91] _ rfl HOJ.out _ rfl rfl rfl (by simp; omega) HZJ.out ?_; intro v8 w8 ho8 hb8 hz8 hk8)
            have N1 : Hid (Own w8 base v8 (LS ++ List.replicate (j + 1) 91)) := by rw [RS.out]; exact ho8
            have N3 : Hid (w8.heap[wr.heap.size]? = some (.cells #[.int .i64 ak, .int .i64 an, .int .i64 ai, .string tx] 43)) := (hk8 _ HLT.out (HOJ.out.ne_box HXJ.out (by decide))).trans HXJ.out
            have N2 : Hid (Below base w1 w8) := HBJ.out.trans hb8
            have N4 : Hid (base ≤ w8.heap.size) := Nat.le_trans HZJ.out hz8
            clear ho8 hb8 hz8 hk8
            go_wp2_with fail
            go_roundw
            case rel => exact ⟨j + 1, _, _, rfl, by go_num, rfl, by omega, N1, N2, N3, N4⟩
            case measure => simp [intOf]; omega
          · have hje : j = m := by omega
            obtain ⟨d0, d1, d2, d3⟩ := box4_cell HXJ.out
            have HLN : Hid ((LS ++ List.replicate m 91).length ≤ k * 20000 + 34) := by show _ ≤ _; rw [List.length_append, List.length_replicate]; omega
            have NM : Hid (∀ Z, Z = ZT → (LS ++ List.replicate m 91) ++ Z ++ txP (k + 1) ((opV t).drop (k + 1)) ((flV t).drop (k + 1)) = T) := fun Z e => NX.out LS Z HL2.out e
            rw [hje] at HOJ
            generalize LS ++ List.replicate m 91 = M at *
            have HLM := HLN.out
            subst hje
            clear HL2 NX
            rcases hkind with ⟨rfl, hi1, hi2⟩ | ⟨rfl, htx⟩ | rfl
            · have AI : Hid _ := Tryd.strconv_AppendInt_10 base M.length ai (by omega) (by omega) vj (M.map byteV) wj HOJ.out HZJ.out (by omega) (PW.out wj HBJ.out)
              have HZT : Hid (Lib.itoa ai = ZT) := (A1.out rfl).symm
              have IL : Hid ((Lib.itoa ai).length ≤ 21) := Lib.itoa_length_le ai (by omega) (by omega)
              clear A1 A2 A3 d1 d3
              go_wp2_with (go_at_call 30; refine Calls.mono AI.out ?_; rintro e w9 ⟨v9, rfl, ho9, hb9, _⟩)
              have N1 : Hid (Own w9 base v9 (M ++ Lib.itoa ai)) := by
                show Own _ _ _ _
                unfold Own
                rw [List.length_append, List.map_append]
                exact ho9
              have N2 : Hid (Below base w1 w9) := HBJ.out.trans hb9
              have N3 : Hid (base ≤ w9.heap.size) := Nat.le_trans HZJ.out hb9.size
              have N4 : Hid (M ++ Lib.itoa ai ++ txP (k + 1) ((opV t).drop (k + 1)) ((flV t).drop (k + 1)) = T) := NM.out _ HZT.out
              have N5 : Hid ((M ++ Lib.itoa ai).length ≤ (k + 1) * 20000) := by show _ ≤ _; rw [List.length_append]; have := IL.out; omega
              clear ho9 hb9 AI
              go_wp2_with fail
              go_roundw
              case rel => exact ⟨k + 1, _, _, _, rfl, by go_num, rfl, HKW.out, N1, N4, N2, N3, N5⟩
              case measure => simp [intOf]; omega
            · have HZT : Hid (quo tx.data.toList = ZT) := (A2.out rfl).symm
              have QL : Hid ((quo tx.data.toList).length ≤ 4 * 4096 + 2) := by
                show _ ≤ _
                have := qBs_len tx.data.toList
                have hs : tx.data.toList.length = tx.size := by simp
                unfold quo
                simp only [List.length_append, List.length_cons, List.length_nil]
                omega
              have QA : Hid _ := quote_any tx wj (by omega)
              generalize quo tx.data.toList = qq at *
              have hql := QL.out
              have hqs : (ByteArray.mk qq.toArray).size = qq.length := by show qq.toArray.size = _; simp
              have hqd : (ByteArray.mk qq.toArray).data.toList = qq := by simp
              generalize hqb : ByteArray.mk qq.toArray = qb at *
              have HQS : Hid (qb.size = qq.length) := hqs
              have HQD : Hid (qb.data.toList = qq) := hqd
              clear A1 A2 A3 d1 d2 hqs hqd hqb
              have OW : Hid (∀ w', Below wj.heap.size wj w' → Own w' base vj M ∧ base ≤ w'.heap.size) := fun w' b => ⟨HOJ.out.below b, Nat.le_trans HZJ.out b.size⟩
              go_wp2_with (first
                | (go_at_call 31; refine Calls.mono QA.out ?_; rintro e w8 ⟨rfl, hb8⟩)
                | (at_builtin; refine append_str_keep rfl (.tmp 46) (.tmp 49) 72 9 rfl base Tryd.underlying72 Tryd.underlying9 info_u8 _ M rfl (OW.out _ hb8).1 qb rfl (by have := HQS.out; omega) (OW.out _ hb8).2 ?_; intro v9 w9 ho9 hb9 hk9))
              have N1 : Hid (Own w9 base v9 (M ++ qq)) := by rw [HQD.out] at ho9; exact ho9
              have N2 : Hid (Below base w1 w9) := (HBJ.out.trans (hb8.mono HZJ.out)).trans hb9
              have N3 : Hid (base ≤ w9.heap.size) := Nat.le_trans (OW.out _ hb8).2 hb9.size
              have N4 : Hid (M ++ qq ++ txP (k + 1) ((opV t).drop (k + 1)) ((flV t).drop (k + 1)) = T) := NM.out _ HZT.out
              have N5 : Hid ((M ++ qq).length ≤ (k + 1) * 20000) := by show _ ≤ _; rw [List.length_append]; omega
              clear ho9 hb9 hk9 hb8 QA
              go_wp2_with fail
              go_roundw
              case rel => exact ⟨k + 1, _, _, _, rfl, by go_num, rfl, HKW.out, N1, N4, N2, N3, N5⟩
              case measure => simp [intOf]; omega
            · have HZT : Hid ([93] = ZT) := (A3.out rfl).symm
              clear A1 A2 A3 d1 d2 d3
              go_wp2_with (at_builtin; refine append_bytes_keep rfl (.tmp 53) (.tmp 54) 72 rfl base Tryd.underlying72 info_u8 wj _ _ _ M [93] _ rfl HOJ.out _ rfl rfl rfl (by simp; omega) HZJ.out ?_; intro v9 w9 ho9 hb9 hz9 hk9)
              have N1 : Hid (Own w9 base v9 (M ++ [93])) := ho9
              have N2 : Hid (Below base w1 w9) := HBJ.out.trans hb9
              have N3 : Hid (base ≤ w9.heap.size) := Nat.le_trans HZJ.out hz9
              have N4 : Hid (M ++ [93] ++ txP (k + 1) ((opV t).drop (k + 1)) ((flV t).drop (k + 1)) = T) := NM.out _ HZT.out
              have N5 : Hid ((M ++ [93]).length ≤ (k + 1) * 20000) := by show _ ≤ _; rw [List.length_append, List.length_singleton]; omega
              clear ho9 hb9 hz9 hk9
              go_wp2_with fail
              go_roundw
              case rel => exact ⟨k + 1, _, _, _, rfl, by go_num, rfl, HKW.out, N1, N4, N2, N3, N5⟩
              case measure => simp [intOf]; omega
      have hkI : (0 : Int) < (k : Int) := by omega
      by_cases hn0 : an = 0
      · subst hn0
        have HSP : Hid (SP = [44, 32]) := S1.out hk0 rfl
        clear S0 S1 S2
        go_wp2_with (at_builtin; refine append_str_keep rfl (.tmp 27) (.const (.string ⟨#[44, 32]⟩)) 72 9 rfl base Tryd.underlying72 Tryd.underlying9 info_u8 _ L rfl (HOA.out _) _ rfl (by show L.length + 2 ≤ _; omega) (by rw [HSA.out]; have := HZ.out; omega) ?_; intro v7 w7 ho7 hb7 hk7)
        have HLS : Hid (L ++ [44, 32] = L ++ SP) := by show _ = _; rw [HSP.out]
        have J1 : Hid (Own w7 base v7 (L ++ [44, 32] ++ List.replicate 0 91)) := by show Own _ _ _ (L ++ [44, 32] ++ []); rw [List.append_nil]; exact ho7
        have J2 : Hid (Below base w1 w7) := (HBA.out _).trans hb7
        have J3 : Hid (w7.heap[wr.heap.size]? = some (.cells #[.int .i64 ak, .int .i64 0, .int .i64 ai, .string tx] 43)) := (hk7 _ (by rw [HSA.out]; omega) HNB.out).trans (HBX.out _)
        have J4 : Hid (base ≤ w7.heap.size) := Nat.le_trans (by rw [HSA.out]; have := HZ.out; omega) hb7.size
        clear ho7 hb7 hk7
        obtain ⟨LS, hLS⟩ : ∃ LS, LS = L ++ [44, 32] := ⟨_, rfl⟩
        have HLL : LS.length ≤ k * 20000 + 2 := by rw [hLS]; rw [List.length_append]; show L.length + 2 ≤ _; omega
        have HL2 : Hid (LS = L ++ SP) := by show _ = _; rw [hLS]; exact HLS.out
        rw [← hLS] at J1
        clear hLS HLS
        clear HOA HNB HBA HBX HSA HSP HZ HLB
        go_wp2_with fail
        go_loopw [3, 30] (fun v3 v30 wr' => ∃ (j : Nat) (v : Value) (wj : World), v = v3 ∧ v30 = .int .i64 j ∧ wj = wr' ∧ j ≤ m ∧ Hid (Own wj base v (LS ++ List.replicate j 91)) ∧ Hid (Below base w1 wj) ∧ Hid (wj.heap[wr.heap.size]? = some (.cells #[.int .i64 ak, .int .i64 0, .int .i64 ai, .string tx] 43)) ∧ Hid (base ≤ wj.heap.size)) (fun _ v30 _ => m - (intOf v30).toNat)
        case atStart => exact ⟨0, _, _, rfl, rfl, rfl, Nat.zero_le _, J1, J2, J3, J4⟩
        case round =>
          obtain ⟨j, vj, wj, rfl, rfl, rfl, hj, HOJ, HBJ, HXJ, HZJ⟩ := hrel
          clear J1 J2 J3 J4
          have HLT : Hid (wr.heap.size < wj.heap.size) := (Array.getElem?_eq_some_iff.1 HXJ.out).1
          by_cases hjl : j < m
          · have hjI : (j : Int) < (m : Int) := by omega
            have HLN : Hid ((LS ++ List.replicate j 91).length ≤ k * 20000 + 34) := by show _ ≤ _; rw [List.length_append, List.length_replicate]; omega
            have RS : Hid (LS ++ List.replicate (j + 1) 91 = (LS ++ List.replicate j 91) ++ [91]) := by show _ = _; rw [List.replicate_succ', List.append_assoc]
            generalize LS ++ List.replicate j 91 = M at *
            have HLM := HLN.out
            clear HL2 NX A1 A2 A3 hkind
            go_wp2_with (at_builtin; refine append_bytes_keep rfl (.tmp 32) (.tmp 33) 72 rfl base Tryd.underlying72 info_u8 wj _ _ _ M [91] _ rfl HOJ.out _ rfl rfl rfl (by simp; omega) HZJ.out ?_; intro v8 w8 ho8 hb8 hz8 hk8)
            have N1 : Hid (Own w8 base v8 (LS ++ List.replicate (j + 1) 91)) := by rw [RS.out]; exact ho8
            have N3 : Hid (w8.heap[wr.heap.size]? = some (.cells #[.int .i64 ak, .int .i64 0, .int .i64 ai, .string tx] 43)) := (hk8 _ HLT.out (HOJ.out.ne_box HXJ.out (by decide))).trans HXJ.out
            have N2 : Hid (Below base w1 w8) := HBJ.out.trans hb8
            have N4 : Hid (base ≤ w8.heap.size) := Nat.le_trans HZJ.out hz8
            clear ho8 hb8 hz8 hk8
            go_wp2_with fail
            go_roundw
            case rel => exact ⟨j + 1, _, _, rfl, by go_num, rfl, by omega, N1, N2, N3, N4⟩
            case measure => simp [intOf]; omega
          · have hje : j = m := by omega
            obtain ⟨d0, d1, d2, d3⟩ := box4_cell HXJ.out
            have HLN : Hid ((LS ++ List.replicate m 91).length ≤ k * 20000 + 34) := by show _ ≤ _; rw [List.length_append, List.length_replicate]; omega
            have NM : Hid (∀ Z, Z = ZT → (LS ++ List.replicate m 91) ++ Z ++ txP (k + 1) ((opV t).drop (k + 1)) ((flV t).drop (k + 1)) = T) := fun Z e => NX.out LS Z HL2.out e
            rw [hje] at HOJ
            generalize LS ++ List.replicate m 91 = M at *
            have HLM := HLN.out
            subst hje
            clear HL2 NX
            rcases hkind with ⟨rfl, hi1, hi2⟩ | ⟨rfl, htx⟩ | rfl
            · have AI : Hid _ := Tryd.strconv_AppendInt_10 base M.length ai (by omega) (by omega) vj (M.map byteV) wj HOJ.out HZJ.out (by omega) (PW.out wj HBJ.out)
              have HZT : Hid (Lib.itoa ai = ZT) := (A1.out rfl).symm
              have IL : Hid ((Lib.itoa ai).length ≤ 21) := Lib.itoa_length_le ai (by omega) (by omega)
              clear A1 A2 A3 d1 d3
              go_wp2_with (go_at_call 30; refine Calls.mono AI.out ?_; rintro e w9 ⟨v9, rfl, ho9, hb9, _⟩)
              have N1 : Hid (Own w9 base v9 (M ++ Lib.itoa ai)) := by
                show Own _ _ _ _
                unfold Own
                rw [List.length_append, List.map_append]
                exact ho9
              have N2 : Hid (Below base w1 w9) := HBJ.out.trans hb9
              have N3 : Hid (base ≤ w9.heap.size) := Nat.le_trans HZJ.out hb9.size
              have N4 : Hid (M ++ Lib.itoa ai ++ txP (k + 1) ((opV t).drop (k + 1)) ((flV t).drop (k + 1)) = T) := NM.out _ HZT.out
              have N5 : Hid ((M ++ Lib.itoa ai).length ≤ (k + 1) * 20000) := by show _ ≤ _; rw [List.length_append]; have := IL.out; omega
              clear ho9 hb9 AI
              go_wp2_with fail
              go_roundw
              case rel => exact ⟨k + 1, _, _, _, rfl, by go_num, rfl, HKW.out, N1, N4, N2, N3, N5⟩
              case measure => simp [intOf]; omega
            · have HZT : Hid (quo tx.data.toList = ZT) := (A2.out rfl).symm
              have QL : Hid ((quo tx.data.toList).length ≤ 4 * 4096 + 2) := by
                show _ ≤ _
                have := qBs_len tx.data.toList
                have hs : tx.data.toList.length = tx.size := by simp
                unfold quo
                simp only [List.length_append, List.length_cons, List.length_nil]
                omega
              have QA : Hid _ := quote_any tx wj (by omega)
              generalize quo tx.data.toList = qq at *
              have hql := QL.out
              have hqs : (ByteArray.mk qq.toArray).size = qq.length := by show qq.toArray.size = _; simp
              have hqd : (ByteArray.mk qq.toArray).data.toList = qq := by simp
              generalize hqb : ByteArray.mk qq.toArray = qb at *
              have HQS : Hid (qb.size = qq.length) := hqs
              have HQD : Hid (qb.data.toList = qq) := hqd
              clear A1 A2 A3 d1 d2 hqs hqd hqb
              have OW : Hid (∀ w', Below wj.heap.size wj w' → Own w' base vj M ∧ base ≤ w'.heap.size) := fun w' b => ⟨HOJ.out.below b, Nat.le_trans HZJ.out b.size⟩
              go_wp2_with (first
                | (go_at_call 31; refine Calls.mono QA.out ?_; rintro e w8 ⟨rfl, hb8⟩)
                | (at_builtin; refine append_str_keep rfl (.tmp 46) (.tmp 49) 72 9 rfl base Tryd.underlying72 Tryd.underlying9 info_u8 _ M rfl (OW.out _ hb8).1 qb rfl (by have := HQS.out; omega) (OW.out _ hb8).2 ?_; intro v9 w9 ho9 hb9 hk9))
              have N1 : Hid (Own w9 base v9 (M ++ qq)) := by rw [HQD.out] at ho9; exact ho9
              have N2 : Hid (Below base w1 w9) := (HBJ.out.trans (hb8.mono HZJ.out)).trans hb9
              have N3 : Hid (base ≤ w9.heap.size) := Nat.le_trans (OW.out _ hb8).2 hb9.size
              have N4 : Hid (M ++ qq ++ txP (k + 1) ((opV t).drop (k + 1)) ((flV t).drop (k + 1)) = T) := NM.out _ HZT.out
              have N5 : Hid ((M ++ qq).length ≤ (k + 1) * 20000) := by show _ ≤ _; rw [List.length_append]; omega
              clear ho9 hb9 hk9 hb8 QA
              go_wp2_with fail
              go_roundw
              case rel => exact ⟨k + 1, _, _, _, rfl, by go_num, rfl, HKW.out, N1, N4, N2, N3, N5⟩
              case measure => simp [intOf]; omega
            · have HZT : Hid ([93] = ZT) := (A3.out rfl).symm
              clear A1 A2 A3 d1 d2 d3
              go_wp2_with (at_builtin; refine append_bytes_keep rfl (.tmp 53) (.tmp 54) 72 rfl base Tryd.underlying72 info_u8 wj _ _ _ M [93] _ rfl HOJ.out _ rfl rfl rfl (by simp; omega) HZJ.out ?_; intro v9 w9 ho9 hb9 hz9 hk9)
              have N1 : Hid (Own w9 base v9 (M ++ [93])) := ho9
              have N2 : Hid (Below base w1 w9) := HBJ.out.trans hb9
              have N3 : Hid (base ≤ w9.heap.size) := Nat.le_trans HZJ.out hz9
              have N4 : Hid (M ++ [93] ++ txP (k + 1) ((opV t).drop (k + 1)) ((flV t).drop (k + 1)) = T) := NM.out _ HZT.out
              have N5 : Hid ((M ++ [93]).length ≤ (k + 1) * 20000) := by show _ ≤ _; rw [List.length_append, List.length_singleton]; omega
              clear ho9 hb9 hz9 hk9
              go_wp2_with fail
              go_roundw
              case rel => exact ⟨k + 1, _, _, _, rfl, by go_num, rfl, HKW.out, N1, N4, N2, N3, N5⟩
              case measure => simp [intOf]; omega
      · have hnb : (an == 0) = false := by simp [hn0]
        have HSP : Hid (SP = []) := S2.out hk0 hn0
        clear S0 S1 S2
        have HLS : Hid (L = L ++ SP) := by show _ = _; rw [HSP.out, List.append_nil]
        have J1 : Hid (Own (wr.alloc (.cells #[.int .i64 ak, .int .i64 an, .int .i64 ai, .string tx] 43)) base v3 (L ++ List.replicate 0 91)) := by show Own _ _ _ (L ++ []); rw [List.append_nil]; exact HOA.out _
        have J2 : Hid (Below base w1 (wr.alloc (.cells #[.int .i64 ak, .int .i64 an, .int .i64 ai, .string tx] 43))) := HBA.out _
        have J3 : Hid ((wr.alloc (.cells #[.int .i64 ak, .int .i64 an, .int .i64 ai, .string tx] 43)).heap[wr.heap.size]? = some (.cells #[.int .i64 ak, .int .i64 an, .int .i64 ai, .string tx] 43)) := HBX.out _
        have J4 : Hid (base ≤ (wr.alloc (.cells #[.int .i64 ak, .int .i64 an, .int .i64 ai, .string tx] 43)).heap.size) := by rw [HSA.out]; have := HZ.out; show _ ≤ _; omega
        obtain ⟨LS, hLS⟩ : ∃ LS, LS = L := ⟨_, rfl⟩
        have HLL : LS.length ≤ k * 20000 + 2 := by rw [hLS]; omega
        have HL2 : Hid (LS = L ++ SP) := by show _ = _; rw [hLS]; exact HLS.out
        rw [← hLS] at J1
        clear hLS HLS
        clear HOA HNB HBA HBX HSA HSP HZ HLB
        go_wp2_with fail
        go_loopw [3, 30] (fun v3 v30 wr' => ∃ (j : Nat) (v : Value) (wj : World), v = v3 ∧ v30 = .int .i64 j ∧ wj = wr' ∧ j ≤ m ∧ Hid (Own wj base v (LS ++ List.replicate j 91)) ∧ Hid (Below base w1 wj) ∧ Hid (wj.heap[wr.heap.size]? = some (.cells #[.int .i64 ak, .int .i64 an, .int .i64 ai, .string tx] 43)) ∧ Hid (base ≤ wj.heap.size)) (fun _ v30 _ => m - (intOf v30).toNat)
        case atStart => exact ⟨0, _, _, rfl, rfl, rfl, Nat.zero_le _, J1, J2, J3, J4⟩
        case round =>
          obtain ⟨j, vj, wj, rfl, rfl, rfl, hj, HOJ, HBJ, HXJ, HZJ⟩ := hrel
          clear J1 J2 J3 J4
          have HLT : Hid (wr.heap.size < wj.heap.size) := (Array.getElem?_eq_some_iff.1 HXJ.out).1
          by_cases hjl : j < m
          · have hjI : (j : Int) < (m : Int) := by omega
            have HLN : Hid ((LS ++ List.replicate j 91).length ≤ k * 20000 + 34) := by show _ ≤ _; rw [List.length_append, List.length_replicate]; omega
            have RS : Hid (LS ++ List.replicate (j + 1) 91 = (LS ++ List.replicate j 91) ++ [91]) := by show _ = _; rw [List.replicate_succ', List.append_assoc]
            generalize LS ++ List.replicate j 91 = M at *
            have HLM := HLN.out
            clear HL2 NX A1 A2 A3 hkind
            go_wp2_with (at_builtin; refine append_bytes_keep rfl (.tmp 32) (.tmp 33) 72 rfl base Tryd.underlying72 info_u8 wj _ _ _ M [91] _ rfl HOJ.out _ rfl rfl rfl (by simp; omega) HZJ.out ?_; intro v8 w8 ho8 hb8 hz8 hk8)
            have N1 : Hid (Own w8 base v8 (LS ++ List.replicate (j + 1) 91)) := by rw [RS.out]; exact ho8
            have N3 : Hid (w8.heap[wr.heap.size]? = some (.cells #[.int .i64 ak, .int .i64 an, .int .i64 ai, .string tx] 43)) := (hk8 _ HLT.out (HOJ.out.ne_box HXJ.out (by decide))).trans HXJ.out
            have N2 : Hid (Below base w1 w8) := HBJ.out.trans hb8
            have N4 : Hid (base ≤ w8.heap.size) := Nat.le_trans HZJ.out hz8
            clear ho8 hb8 hz8 hk8
            go_wp2_with fail
            go_roundw
            case rel => exact ⟨j + 1, _, _, rfl, by go_num, rfl, by omega, N1, N2, N3, N4⟩
            case measure => simp [intOf]; omega
          · have hje : j = m := by omega
            obtain ⟨d0, d1, d2, d3⟩ := box4_cell HXJ.out
            have HLN : Hid ((LS ++ List.replicate m 91).length ≤ k * 20000 + 34) := by show _ ≤ _; rw [List.length_append, List.length_replicate]; omega
            have NM : Hid (∀ Z, Z = ZT → (LS ++ List.replicate m 91) ++ Z ++ txP (k + 1) ((opV t).drop (k + 1)) ((flV t).drop (k + 1)) = T) := fun Z e => NX.out LS Z HL2.out e
            rw [hje] at HOJ
            generalize LS ++ List.replicate m 91 = M at *
            have HLM := HLN.out
            subst hje
            clear HL2 NX
            rcases hkind with ⟨rfl, hi1, hi2⟩ | ⟨rfl, htx⟩ | rfl
            · have AI : Hid _ := Tryd.strconv_AppendInt_10 base M.length ai (by omega) (by omega) vj (M.map byteV) wj HOJ.out HZJ.out (by omega) (PW.out wj HBJ.out)
              have HZT : Hid (Lib.itoa ai = ZT) := (A1.out rfl).symm
              have IL : Hid ((Lib.itoa ai).length ≤ 21) := Lib.itoa_length_le ai (by omega) (by omega)
              clear A1 A2 A3 d1 d3
              go_wp2_with (go_at_call 30; refine Calls.mono AI.out ?_; rintro e w9 ⟨v9, rfl, ho9, hb9, _⟩)
              have N1 : Hid (Own w9 base v9 (M ++ Lib.itoa ai)) := by
                show Own _ _ _ _
                unfold Own
                rw [List.length_append, List.map_append]
                exact ho9
              have N2 : Hid (Below base w1 w9) := HBJ.out.trans hb9
              have N3 : Hid (base ≤ w9.heap.size) := Nat.le_trans HZJ.out hb9.size
              have N4 : Hid (M ++ Lib.itoa ai ++ txP (k + 1) ((opV t).drop (k + 1)) ((flV t).drop (k + 1)) = T) := NM.out _ HZT.out
              have N5 : Hid ((M ++ Lib.itoa ai).length ≤ (k + 1) * 20000) := by show _ ≤ _; rw [List.length_append]; have := IL.out; omega
              clear ho9 hb9 AI
              go_wp2_with fail
              go_roundw
              case rel => exact ⟨k + 1, _, _, _, rfl, by go_num, rfl, HKW.out, N1, N4, N2, N3, N5⟩
              case measure => simp [intOf]; omega
            · have HZT : Hid (quo tx.data.toList = ZT) := (A2.out rfl).symm
              have QL : Hid ((quo tx.data.toList).length ≤ 4 * 4096 + 2) := by
                show _ ≤ _
                have := qBs_len tx.data.toList
                have hs : tx.data.toList.length = tx.size := by simp
                unfold quo
                simp only [List.length_append, List.length_cons, List.length_nil]
                omega
              have QA : Hid _ := quote_any tx wj (by omega)
              generalize quo tx.data.toList = qq at *
              have hql := QL.out
              have hqs : (ByteArray.mk qq.toArray).size = qq.length := by show qq.toArray.size = _; simp
              have hqd : (ByteArray.mk qq.toArray).data.toList = qq := by simp
              generalize hqb : ByteArray.mk qq.toArray = qb at *
              have HQS : Hid (qb.size = qq.length) := hqs
              have HQD : Hid (qb.data.toList = qq) := hqd
              clear A1 A2 A3 d1 d2 hqs hqd hqb
              have OW : Hid (∀ w', Below wj.heap.size wj w' → Own w' base vj M ∧ base ≤ w'.heap.size) := fun w' b => ⟨HOJ.out.below b, Nat.le_trans HZJ.out b.size⟩
              go_wp2_with (first
                | (go_at_call 31; refine Calls.mono QA.out ?_; rintro e w8 ⟨rfl, hb8⟩)
                | (at_builtin; refine append_str_keep rfl (.tmp 46) (.tmp 49) 72 9 rfl base Tryd.underlying72 Tryd.underlying9 info_u8 _ M rfl (OW.out _ hb8).1 qb rfl (by have := HQS.out; omega) (OW.out _ hb8).2 ?_; intro v9 w9 ho9 hb9 hk9))
              have N1 : Hid (Own w9 base v9 (M ++ qq)) := by rw [HQD.out] at ho9; exact ho9
              have N2 : Hid (Below base w1 w9) := (HBJ.out.trans (hb8.mono HZJ.out)).trans hb9
              have N3 : Hid (base ≤ w9.heap.size) := Nat.le_trans (OW.out _ hb8).2 hb9.size
              have N4 : Hid (M ++ qq ++ txP (k + 1) ((opV t).drop (k + 1)) ((flV t).drop (k + 1)) = T) := NM.out _ HZT.out
              have N5 : Hid ((M ++ qq).length ≤ (k + 1) * 20000) := by show _ ≤ _; rw [List.length_append]; omega
              clear ho9 hb9 hk9 hb8 QA
              go_wp2_with fail
              go_roundw
              case rel => exact ⟨k + 1, _, _, _, rfl, by go_num, rfl, HKW.out, N1, N4, N2, N3, N5⟩
              case measure => simp [intOf]; omega
            · have HZT : Hid ([93] = ZT) := (A3.out rfl).symm
              clear A1 A2 A3 d1 d2 d3
              go_wp2_with (at_builtin; refine append_bytes_keep rfl (.tmp 53) (.tmp 54) 72 rfl base Tryd.underlying72 info_u8 wj _ _ _ M [93] _ rfl HOJ.out _ rfl rfl rfl (by simp; omega) HZJ.out ?_; intro v9 w9 ho9 hb9 hz9 hk9)
              have N1 : Hid (Own w9 base v9 (M ++ [93])) := ho9
              have N2 : Hid (Below base w1 w9) := HBJ.out.trans hb9
              have N3 : Hid (base ≤ w9.heap.size) := Nat.le_trans HZJ.out hz9
              have N4 : Hid (M ++ [93] ++ txP (k + 1) ((opV t).drop (k + 1)) ((flV t).drop (k + 1)) = T) := NM.out _ HZT.out
              have N5 : Hid ((M ++ [93]).length ≤ (k + 1) * 20000) := by show _ ≤ _; rw [List.length_append, List.length_singleton]; omega
              clear ho9 hb9 hz9 hk9
              go_wp2_with fail
              go_roundw
              case rel => exact ⟨k + 1, _, _, _, rfl, by go_num, rfl, HKW.out, N1, N4, N2, N3, N5⟩
              case measure => simp [intOf]; omega
    · obtain rfl : k = szV t := by omega
      have HE : Hid (L = T) := by
        have := HD.out
        rw [TXE.out, List.append_nil] at this
        exact this
      have OE : Hid (Own wr base v3 T) := by rw [← HE.out]; exact HO.out
      have FE : Hid (Below w.heap.size w wr) := FIN.out _ HB.out
      clear HO HD HB HZ HL ATK AB OB TXK TXE FIN PW HE
      go_wp2_with (refine wpList_own_string rfl (.tmp 57) 72 9 rfl base _ _ rfl OE.out Tryd.underlying72 Tryd.underlying5 Tryd.underlying9 ?_)
      go_ret
      exact ⟨rfl, FE.out⟩
end Go.Proofs.YtahcllncjpaijabDoor
