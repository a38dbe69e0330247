/- The walk of the reference's reading of a quoted text. Asked: the text has room in memory. (Made by mkunq4.py.) -/
import Derived.Test.YtaleagkhblokgaaDoorUnq3
namespace Go.Proofs.YtaleagkhblokgaaDoor
open Go.RowKit

theorem ret_qr {a b : List UInt8} {m n : Int} {p q : Bool} (h : a = b) (h2 : m = n) (h3 : p = q) : Ending.returned (.tuple #[.int .i64 m, .string ⟨a.toArray⟩, .bool p]) = .returned (.tuple #[.int .i64 n, .string ⟨b.toArray⟩, .bool q]) := by rw [h, h2, h3]
theorem QRel.bad {l : List UInt8} {n k : Nat} {done : List UInt8} (h : QRel l n k done) {c : UInt8} {r : List UInt8} (h2 : l.drop k = c :: r) (hc : c ≠ 34) (hz : ubR (c :: r) = (0, 0)) : qa l n = ([], 0, false) :=
  h.fail (by rw [h2]; exact uq_none hc (ubR_zero (by rw [hz]; simp)))
theorem QRel.good {l : List UInt8} {n k : Nat} {done : List UInt8} (h : QRel l n k done) (hk : n + 1 ≤ k) {c : UInt8} {r : List UInt8} (h2 : l.drop k = c :: r) {b : UInt8} {m : Nat} (hu : ubR (c :: r) = (b, m)) (hm : 0 < m) : QRel l n (k + m) (done ++ [b]) := by
  have := h.step hk h2 (by rw [hu]; exact hm)
  rw [hu] at this; exact this
theorem ubR_hex {e f b : UInt8} {r : List UInt8} (h : hexB e f = some b) : ubR (92 :: 120 :: e :: f :: r) = (b, 4) := by rw [ubR_x]; simp [hr, h]
theorem ubR_hexn {e f : UInt8} {r : List UInt8} (h : hexB e f = none) : ubR (92 :: 120 :: e :: f :: r) = (0, 0) := by rw [ubR_x]; simp [hr, h]
theorem ubR_short {d : UInt8} {r : List UInt8} (h1 : ¬ (d.toNat : Int) = 34) (h2 : ¬ (d.toNat : Int) = 92) (h3 : ¬ (d.toNat : Int) = 110) (h4 : r.length < 2) : ubR (92 :: d :: r) = (0, 0) := by
  by_cases h : d = 120
  · subst h
    rw [ubR_x]
    match r, h4 with
    | [], _ => rfl
    | [_], _ => rfl
  · exact ubR_no (toNat_ne (n := 34) (by omega) h1) (toNat_ne (n := 92) (by omega) h2) (toNat_ne (n := 110) (by omega) h3) h
theorem byteCells {v : Int} {b : UInt8} (h : v = (b.toNat : Int)) : (#[.int .u8 v] : Array Value).toList = [b].map byteV := by subst h; rfl
/-- What holds at the head of each round. -/
def QI (s : ByteArray) (n base : Nat) (w : World) (x i : Value) (wr : World) : Prop :=
  ∃ (k : Nat) (done : List UInt8), n + 1 ≤ k ∧ k ≤ s.size ∧ i = .int .i64 k ∧ Own wr base x done ∧ done.length ≤ k ∧ Below base w wr ∧ base ≤ wr.heap.size ∧ Hid (QRel s.data.toList n k done)

set_option maxRecDepth 100000 in
set_option maxHeartbeats 40000000 in
theorem quoted_any (s : ByteArray) (n : Nat) (w : World) (hs : s.size ≤ 140737488351232) (hn : n < s.size) (hq0 : (s[n].toNat : Int) = 34) :
    Calls Tryd.prog 94 #[.string s, .int .i64 n] w fun e w' => e = .returned (.tuple #[.int .i64 ((qa s.data.toList n).2.1 : Int), .string ⟨(qa s.data.toList n).1.toArray⟩, .bool (qa s.data.toList n).2.2]) ∧ Below w.heap.size w w' := by
  obtain ⟨base, hbase⟩ : ∃ base, base = w.heap.size := ⟨_, rfl⟩
  have HB : Hid (base = w.heap.size) := hbase
  have hnn : ¬ s.size ≤ n := by omega
  have ho0 : Own (w.alloc (.cells #[] 5)) base (.slice (some ⟨w.heap.size, 0, none⟩) 0 0) [] := by
    refine ⟨rfl, Or.inr ⟨w.heap.size, 0, #[], rfl, by omega, heap_alloc_new w _, Nat.le_refl _, by unfold maxLen; omega, rfl, rfl⟩⟩
  have hb0 : Below base w (w.alloc (.cells #[] 5)) := (Below.refl _ _).alloc (by omega) _
  have hz0 : base ≤ (w.alloc (.cells #[] 5)).heap.size := by simp; omega
  clear hbase
  go_enter Tryd.func94, Tryd.ntmps94
  go_wp2
  clear hq0
  go_loopw [7, 8] (fun x i wr => QI s n base w x i wr) (fun _ i _ => s.size - (intOf i).toNat)
  case atStart => exact ⟨n + 1, [], Nat.le_refl _, by omega, by go_num, ho0, by simp, hb0, hz0, QRel.start _ _⟩
  case round =>
    obtain ⟨k, done, hk1, hk, rfl, ho, hdl, hb, hz, HR⟩ := hrel
    clear ho0 hb0 hz0
    by_cases hlt : k < s.size
    · have HD : Hid (s.data.toList.drop k = s[k] :: s.data.toList.drop (k + 1)) := drop_cons' s k hlt
      have hc : (s[k].toNat : Int) ≤ 255 := by have := UInt8.toNat_lt s[k]; omega
      by_cases h34 : (s[k].toNat : Int) = 34
      · have HS : Hid (qa s.data.toList n = (done, k + 1, true)) := HR.out.stop hk1 (s.data.toList.drop (k + 1)) (by rw [HD.out, u8_eq (n := 34) (by omega) h34]; rfl)
        have hcv : (convert 71 9 u7).run Tryd.prog wr.drew = .ok (.string ⟨done.toArray⟩) wr.drew := run_own_string ho.drew _ _ Tryd.underlying71 Tryd.underlying5 Tryd.underlying9
        go_wp2
        go_region
        all_goals go_wp2
        all_goals go_ret3
        all_goals
          refine ⟨ret_qr (by rw [HS.out]) (by rw [HS.out]; simp) (by rw [HS.out]), ?_⟩
          rw [← HB.out]; exact hb.drew
      · have h34' : ((s[k].toNat : Int) == 34) = false := by simpa using h34
        by_cases h92 : (s[k].toNat : Int) = 92
        · have e92 : s[k] = 92 := u8_eq (n := 92) (by omega) h92
          by_cases h1 : k + 1 < s.size
          · have h1' : (k : Int) + 1 < (s.size : Int) := by omega
            have E2 : Hid (s.data.toList.drop k = (92 : UInt8) :: s[k + 1] :: s.data.toList.drop (k + 2)) := by
              show _ = _; rw [HD.out, drop_cons' s (k + 1) h1, e92]
            clear e92
            have hd : (s[k + 1].toNat : Int) ≤ 255 := by have := UInt8.toNat_lt s[k + 1]; omega
            by_cases d34 : (s[k + 1].toNat : Int) = 34
            · have HST : Hid (QRel s.data.toList n (k + 2) (done ++ [34])) := HR.out.good hk1 E2.out (by rw [u8_eq (n := 34) (by omega) d34]; exact ubR_esc (Or.inl rfl)) (by omega)
              clear E2 HD
              go_wp2_with (first
                | (at_builtin; refine append_own_bytes rfl (.tmp 73) (.tmp 78) 71 rfl base Tryd.underlying71 info_u8 _ _ _ _ done [34] _ rfl ho rfl rfl (by simp; omega) (by omega) ?_; intro v3 w3 ho3 hb3 hz3 hv3))
              have R : QI s n base w v3 (.int .i64 ((k : Int) + 2)) w3 := ⟨k + 2, done ++ [34], by omega, by omega, by go_num, ho3, by simp; omega, hb.trans hb3, by omega, HST.out⟩
              go_roundw
              case rel => first | exact R | ((repeat apply Exists.intro); exact ⟨R, rfl⟩)
              case measure => simp [intOf]; omega
            have d34' : ((s[k + 1].toNat : Int) == 34) = false := by simpa using d34
            by_cases d92 : (s[k + 1].toNat : Int) = 92
            · have HST : Hid (QRel s.data.toList n (k + 2) (done ++ [92])) := HR.out.good hk1 E2.out (by rw [u8_eq (n := 92) (by omega) d92]; exact ubR_esc (Or.inr rfl)) (by omega)
              clear E2 HD
              go_wp2_with (first
                | (at_builtin; refine append_own_bytes rfl (.tmp 73) (.tmp 78) 71 rfl base Tryd.underlying71 info_u8 _ _ _ _ done [92] _ rfl ho rfl rfl (by simp; omega) (by omega) ?_; intro v3 w3 ho3 hb3 hz3 hv3))
              have R : QI s n base w v3 (.int .i64 ((k : Int) + 2)) w3 := ⟨k + 2, done ++ [92], by omega, by omega, by go_num, ho3, by simp; omega, hb.trans hb3, by omega, HST.out⟩
              go_roundw
              case rel => first | exact R | ((repeat apply Exists.intro); exact ⟨R, rfl⟩)
              case measure => simp [intOf]; omega
            have d92' : ((s[k + 1].toNat : Int) == 92) = false := by simpa using d92
            by_cases d110 : (s[k + 1].toNat : Int) = 110
            · have HST : Hid (QRel s.data.toList n (k + 2) (done ++ [10])) := HR.out.good hk1 E2.out (by rw [u8_eq (n := 110) (by omega) d110]; exact ubR_n) (by omega)
              clear E2 HD
              go_wp2_with (first
                | (at_builtin; refine append_own_bytes rfl (.tmp 95) (.tmp 96) 71 rfl base Tryd.underlying71 info_u8 _ _ _ _ done [10] _ rfl ho rfl rfl (by simp; omega) (by omega) ?_; intro v3 w3 ho3 hb3 hz3 hv3))
              have R : QI s n base w v3 (.int .i64 ((k : Int) + 2)) w3 := ⟨k + 2, done ++ [10], by omega, by omega, by go_num, ho3, by simp; omega, hb.trans hb3, by omega, HST.out⟩
              go_roundw
              case rel => first | exact R | ((repeat apply Exists.intro); exact ⟨R, rfl⟩)
              case measure => simp [intOf]; omega
            have d110' : ((s[k + 1].toNat : Int) == 110) = false := by simpa using d110
            by_cases h3 : k + 3 < s.size
            · have h3' : (k : Int) + 3 < (s.size : Int) := by omega
              have h2' : (k : Int) + 2 < (s.size : Int) := by omega
              have h2 : k + 2 < s.size := by omega
              by_cases d120 : (s[k + 1].toNat : Int) = 120
              · have E4 : Hid (s.data.toList.drop k = (92 : UInt8) :: 120 :: s[k + 2] :: s[k + 3] :: s.data.toList.drop (k + 4)) := by
                  show _ = _; rw [E2.out, drop_cons' s (k + 2) h2, drop_cons' s (k + 3) h3, u8_eq (n := 120) (by omega) d120]; rfl
                clear E2 HD
                obtain ⟨b2, b2'⟩ := hexV_bd s[k + 2]
                obtain ⟨b3, b3'⟩ := hexV_bd s[k + 3]
                have HX0 := hexB_def s[k + 2] s[k + 3]
                have HG : Hid (∀ b, hexB s[k + 2] s[k + 3] = some b → QRel s.data.toList n (k + 4) (done ++ [b])) := fun b hb' => HR.out.good hk1 E4.out (ubR_hex hb') (by omega)
                have HF : Hid (hexB s[k + 2] s[k + 3] = none → qa s.data.toList n = ([], 0, false)) := fun hb' => HR.out.bad E4.out (by decide) (ubR_hexn hb')
                clear E4
                obtain ⟨B, hBe⟩ : ∃ B, B = hexB s[k + 2] s[k + 3] := ⟨_, rfl⟩
                rw [← hBe] at HX0 HG HF
                clear hBe
                obtain ⟨H, hHe⟩ : ∃ H, H = hexV s[k + 2] := ⟨_, rfl⟩
                obtain ⟨L, hLe⟩ : ∃ L, L = hexV s[k + 3] := ⟨_, rfl⟩
                rw [← hHe, ← hLe] at HX0
                rw [← hHe] at b2 b2'
                rw [← hLe] at b3 b3'
                replace hHe := hHe.symm
                replace hLe := hLe.symm
                have HX : Hid _ := HX0
                clear HX0
                by_cases hH : 0 ≤ H
                · by_cases hL : 0 ≤ L
                  · by_cases hbad : (32 ≤ 16 * H + L ∧ 16 * H + L ≤ 126) ∨ 16 * H + L = 10
                    · have HS : Hid (qa s.data.toList n = ([], 0, false)) := HF.out (by rw [HX.out, if_pos ⟨hH, hL⟩, if_pos hbad])
                      clear HX HG HF
                      rcases hbad with ⟨g1, g2⟩ | g1
                      · go_wp2_with (go_at_call 100; refine (hex_any _ _).mono ?_; rintro e w' ⟨rfl, rfl⟩)
                        go_quiet ((go_at_call 100; exact Calls.quiet_of_same (hex_any _ _)))
                        go_wp2
                        go_ret3
                        refine ⟨ret_qr (by rw [HS.out]) (by rw [HS.out]; rfl) (by rw [HS.out]), ?_⟩
                        rw [← HB.out]; exact below_drewN hb _
                      · go_wp2_with (go_at_call 100; refine (hex_any _ _).mono ?_; rintro e w' ⟨rfl, rfl⟩)
                        go_quiet ((go_at_call 100; exact Calls.quiet_of_same (hex_any _ _)))
                        go_wp2
                        go_ret3
                        refine ⟨ret_qr (by rw [HS.out]) (by rw [HS.out]; rfl) (by rw [HS.out]), ?_⟩
                        rw [← HB.out]; exact below_drewN hb _
                    · have HST : Hid (QRel s.data.toList n (k + 4) (done ++ [UInt8.ofNat (16 * H + L).toNat])) := HG.out _ (by rw [HX.out, if_pos ⟨hH, hL⟩, if_neg hbad])
                      obtain ⟨b, hbe⟩ : ∃ b, b = UInt8.ofNat (16 * H + L).toNat := ⟨_, rfl⟩
                      have HBV : Hid ((16 * H + L) = (b.toNat : Int)) := by show _ = _; rw [hbe]; simp; omega
                      rw [← hbe] at HST
                      clear HX HG HF hbe
                      have n10 : ((16 * H + L) == 10) = false := by simp; omega
                      rcases (by omega : 16 * H + L < 32 ∨ 126 < 16 * H + L) with g1 | g1
                      all_goals
                        go_wp2_with (go_at_call 100; refine (hex_any _ _).mono ?_; rintro e w' ⟨rfl, rfl⟩)
                        go_quiet ((go_at_call 100; exact Calls.quiet_of_same (hex_any _ _)))
                        go_wp2_with (at_builtin; refine append_own_bytes rfl (.tmp 152) (.tmp 154) 71 rfl base Tryd.underlying71 info_u8 _ _ _ _ done [b] _ rfl (ho.below (below_drewN (Below.refl _ _) _)) rfl (byteCells HBV.out) (by simp; omega) (by simp; omega) ?_; intro v3 w3 ho3 hb3 hz3 hv3)
                        have hb : Below base w _ := hb.trans ((below_drewN (Below.refl _ _) _).trans hb3)
                        have hz : base ≤ w3.heap.size := by simp at hz3; omega
                        have R : QI s n base w v3 (.int .i64 ((k : Int) + 4)) w3 := ⟨k + 4, done ++ [b], by omega, by omega, by go_num, ho3, by simp; omega, hb, hz, HST.out⟩
                        go_roundw
                        case rel => first | exact R | ((repeat apply Exists.intro); exact ⟨R, rfl⟩)
                        case measure => simp [intOf]; omega
                  · have HS : Hid (qa s.data.toList n = ([], 0, false)) := HF.out (by rw [HX.out, if_neg (by omega)])
                    clear HX HG HF
                    go_wp2_with (go_at_call 100; refine (hex_any _ _).mono ?_; rintro e w' ⟨rfl, rfl⟩)
                    go_ret3
                    refine ⟨ret_qr (by rw [HS.out]) (by rw [HS.out]; rfl) (by rw [HS.out]), ?_⟩
                    rw [← HB.out]; exact hb
                · have HS : Hid (qa s.data.toList n = ([], 0, false)) := HF.out (by rw [HX.out, if_neg (by omega)])
                  clear HX HG HF
                  go_wp2_with (go_at_call 100; refine (hex_any _ _).mono ?_; rintro e w' ⟨rfl, rfl⟩)
                  go_ret3
                  refine ⟨ret_qr (by rw [HS.out]) (by rw [HS.out]; rfl) (by rw [HS.out]), ?_⟩
                  rw [← HB.out]; exact hb
              · have d120' : ((s[k + 1].toNat : Int) == 120) = false := by simpa using d120
                have HS : Hid (qa s.data.toList n = ([], 0, false)) := HR.out.bad E2.out (by decide) (ubR_no (toNat_ne (n := 34) (by omega) d34) (toNat_ne (n := 92) (by omega) d92) (toNat_ne (n := 110) (by omega) d110) (toNat_ne (n := 120) (by omega) d120))
                clear E2 HD d34 d92 d110 d120
                go_wp2
                go_ret3
                refine ⟨ret_qr (by rw [HS.out]) (by rw [HS.out]; rfl) (by rw [HS.out]), ?_⟩
                rw [← HB.out]; exact hb
            · have h3' : ¬ (k : Int) + 3 < (s.size : Int) := by omega
              have HS : Hid (qa s.data.toList n = ([], 0, false)) := HR.out.bad E2.out (by decide) (ubR_short d34 d92 d110 (by simp; omega))
              clear E2 HD d34 d92 d110
              go_wp2
              go_ret3
              refine ⟨ret_qr (by rw [HS.out]) (by rw [HS.out]; rfl) (by rw [HS.out]), ?_⟩
              rw [← HB.out]; exact hb
          · have h1' : ¬ (k : Int) + 1 < (s.size : Int) := by omega
            have h3' : ¬ (k : Int) + 3 < (s.size : Int) := by omega
            have HS : Hid (qa s.data.toList n = ([], 0, false)) := by
              refine HR.out.bad HD.out (toNat_ne (n := 34) (by omega) h34) ?_
              have : s.data.toList.drop (k + 1) = [] := by rw [List.drop_eq_nil_iff]; simp; omega
              rw [this, e92]; exact ubR_one
            clear HD e92
            go_wp2
            go_ret3
            refine ⟨ret_qr (by rw [HS.out]) (by rw [HS.out]; rfl) (by rw [HS.out]), ?_⟩
            rw [← HB.out]; exact hb
        · have h92' : ((s[k].toNat : Int) != 92) = true := by simpa using h92
          by_cases hp : 32 ≤ (s[k].toNat : Int) ∧ (s[k].toNat : Int) ≤ 126
          · have HST : Hid (QRel s.data.toList n (k + 1) (done ++ [s[k]])) := HR.out.good hk1 HD.out (ubR_plain (by simp only [plU, plB, decide_eq_true_eq]; omega)) (by omega)
            obtain ⟨hp1, hp2⟩ := hp
            clear HD
            go_wp2_with (first
              | (at_builtin; refine append_own_bytes rfl (.tmp 47) (.tmp 49) 71 rfl base Tryd.underlying71 info_u8 _ _ _ _ done [s[k]] _ rfl ho rfl rfl (by simp; omega) (by omega) ?_; intro v3 w3 ho3 hb3 hz3 hv3))
            have R : QI s n base w v3 (.int .i64 ((k : Int) + 1)) w3 := ⟨k + 1, done ++ [s[k]], by omega, by omega, by go_num, ho3, by simp; omega, hb.trans hb3, by omega, HST.out⟩
            go_roundw
            case rel => first | exact R | ((repeat apply Exists.intro); exact ⟨R, rfl⟩)
            case measure => simp [intOf]; omega
          · have HS : Hid (qa s.data.toList n = ([], 0, false)) := HR.out.bad HD.out (toNat_ne (n := 34) (by omega) h34) (ubR_other (by simp only [plU, plB, decide_eq_false_iff_not]; omega) (toNat_ne (n := 92) (by omega) h92))
            clear HD
            rcases (by omega : (s[k].toNat : Int) < 32 ∨ 126 < (s[k].toNat : Int)) with hc1 | hc1
            all_goals
              go_wp2
              go_ret3
              refine ⟨ret_qr (by rw [HS.out]) (by rw [HS.out]; rfl) (by rw [HS.out]), ?_⟩
              rw [← HB.out]; exact hb
    · have HS : Hid (qa s.data.toList n = ([], 0, false)) := HR.out.fail (by
        have : s.data.toList.drop k = [] := by rw [List.drop_eq_nil_iff]; simp; omega
        rw [this, uq_nil])
      go_wp2
      go_ret3
      refine ⟨ret_qr (by rw [HS.out]) (by rw [HS.out]; rfl) (by rw [HS.out]), ?_⟩
      rw [← HB.out]; exact hb
end Go.Proofs.YtaleagkhblokgaaDoor
