/- sort.pdqsort and sort.Sort over a queue's address. -/
import Derived.Test.YteiadigafkollaaSt1
import Derived.Test.YteiadigafkollaaSt2
import Derived.Test.YteiadigafkollaaSt3b
import Derived.Test.YteiadigafkollaaSt4
import Derived.Test.YteiadigafkollaaSt5
import Derived.Test.YteiadigafkollaaSt6
import Derived.Test.YteiadigafkollaaSt7
import Derived.Test.YteiadigafkollaaSt8
import Derived.Deep.LoopGhost
import Derived.Deep.CutRange
namespace Go.Proofs.Yteiadigafkollaa
open Go.RowKit Go.Sort Go.Shelf Go.Lib

/-- Where pdqsort of [a, b) stands: [p, q) is still to be sorted. -/
structure PS (w wr : World) (qb qo X cap : Nat) (d dk : Array Tm) (a b lo hi : Nat) : Prop where
  q : QAt wr qb qo X cap dk
  k : Keep X w wr
  perm : PermIn a b d dk
  part : Part a b lo hi dk
  bel : Sort.Below tlt a b dk
theorem PS.step {w wr w' : World} {qb qo X cap : Nat} {d dk d' : Array Tm} {a b p q : Nat} (h : PS w wr qb qo X cap d dk a b p q) (hap : a ≤ p) (hqb : q ≤ b) (hb : b ≤ dk.size) (hp : PermIn p q dk d') (hq : QAt w' qb qo X cap d') (hk : Keep X wr w') : PS w w' qb qo X cap d d' a b p q :=
  ⟨hq, h.k.trans hk, permIn_trans _ _ _ _ _ h.perm (permIn_mono _ _ _ _ _ _ hap hqb hb hp), h.part.perm hap hqb (by omega) hp, below_perm hap hqb hb h.bel hp⟩
theorem PS.drewN {w wr : World} {qb qo X cap : Nat} {d dk : Array Tm} {a b p q : Nat} (h : PS w wr qb qo X cap d dk a b p q) (n : Nat) : PS w (wr.drewN n) qb qo X cap d dk a b p q := ⟨h.q.drewN n, h.k.drewN n, h.perm, h.part, h.bel⟩
theorem PS.done {w wr w' : World} {qb qo X cap : Nat} {d dk d' : Array Tm} {a b p q : Nat} (h : PS w wr qb qo X cap d dk a b p q) (hap : a ≤ p) (hqb : q ≤ b) (hb : b ≤ dk.size) (hp : PermIn p q dk d') (hs : SortedIn tlt p q d') (hq : QAt w' qb qo X cap d') (hk : Keep X wr w') : ∃ d', PermIn a b d d' ∧ SortedIn tlt a b d' ∧ QAt w' qb qo X cap d' ∧ Keep X w w' :=
  have g := h.step hap hqb hb hp hq hk
  ⟨d', g.perm, g.part.sorted hs, g.q, g.k⟩
theorem sub_below {p q i j : Nat} {d : Array Tm} (h : Sort.Below tlt p q d) (_ : p ≤ i) (hij : i = p ∨ ∀ t, i ≤ t → t < j → tlt d[t]! d[i - 1]! = false) (hj : j ≤ q) : Sort.Below tlt i j d := by
  rcases hij with rfl | h2
  · rcases h with h | h
    · exact Or.inl h
    · exact Or.inr fun t h1 h2 => h t h1 (by omega)
  · exact Or.inr h2

set_option maxHeartbeats 32000000 in
set_option maxRecDepth 1000000 in
theorem pdq_q (N : Nat) : ∀ (w : World) (qb qo X cap : Nat) (d : Array Tm) (_ : QAt w qb qo X cap d) (a b lim : Nat) (_ : a ≤ b) (_ : b ≤ d.size) (_ : b - a ≤ N) (_ : d.size ≤ 1000000000000) (_ : lim ≤ 1000000000000) (_ : Sort.Below tlt a b d) (x y z : Int) (_ : x = a) (_ : y = b) (_ : z = lim),
    Calls Try.prog 48 #[.iface 74 (.pointer (some ⟨qb, qo, none⟩)), .int .i64 x, .int .i64 y, .int .i64 z] w fun e w' => e = .returned (.tuple #[]) ∧ ∃ d', PermIn a b d d' ∧ SortedIn tlt a b d' ∧ QAt w' qb qo X cap d' ∧ Keep X w w' := by
  induction N using Nat.strongRecOn with
  | _ N ih =>
  intro w qb qo X cap d h a b lim hab hb hN hm hlim hbel x y z hx hy hz
  subst hx hy hz
  have HS0 : Hid (PS w w qb qo X cap d d a b a b) := ⟨h, Keep.refl _ _, permIn_refl _ _ _, part_start _ _ _, hbel⟩
  clear h hbel
  go_enter Try.func48, Try.ntmps48
  go_wp2
  go_loopg [1, 2, 3, 8, 9] (b - a) (fun g s1 s2 s3 s8 s9 wr => ∃ (p q l : Nat) (wb wp : Bool) (dk : Array Tm), s1 = .int .i64 p ∧ s2 = .int .i64 q ∧ s3 = .int .i64 l ∧ s8 = .bool wb ∧ s9 = .bool wp ∧ a ≤ p ∧ p ≤ q ∧ q ≤ b ∧ q - p ≤ g ∧ l ≤ lim ∧ dk.size = d.size ∧ Hid (PS w wr qb qo X cap d dk a b p q))
  case atStart => exact ⟨a, b, lim, true, true, d, rfl, rfl, rfl, rfl, rfl, Nat.le_refl _, hab, Nat.le_refl _, Nat.le_refl _, Nat.le_refl _, rfl, HS0⟩
  case round =>
    obtain ⟨p, q, l, wb, wp, dk, rfl, rfl, rfl, rfl, rfl, hap, hpq, hqb, hg, hl, hs, HP⟩ := hrel
    rename_i g wr
    clear HS0
    by_cases h12 : (q : Int) - (p : Int) ≤ 12
    · go_wp2_with (go_at_call 57; refine (insertion_q _ _ _ _ _ _ HP.out.q p q hpq (by omega) (by omega) _ _ rfl rfl).mono ?_; rintro e w1 ⟨rfl, q1, k1⟩)
      (try simp only [Exit.inBlock, Exit.then]); refine bodyPost_ret (results_none rfl _ _ _) rfl ?_
      have e := insertionSort_holds tlt_swo dk p q hpq (by omega)
      exact ⟨rfl, HP.out.done hap hqb (by omega) e.1 e.2 q1 k1⟩
    · by_cases hl0 : l = 0
      · subst hl0
        go_wp2_with (go_at_call 58; refine (heapSort_q _ _ _ _ _ _ HP.out.q p q (by omega) (by omega) (by omega) _ _ rfl rfl).mono ?_; rintro e w1 ⟨rfl, q1, k1⟩)
        (try simp only [Exit.inBlock, Exit.then]); refine bodyPost_ret (results_none rfl _ _ _) rfl ?_
        have e := heapSort_holds tlt_swo dk p q hpq (by omega)
        exact ⟨rfl, HP.out.done hap hqb (by omega) e.1 e.2 q1 k1⟩
      · have hl0z : ¬ ((l : Int) = 0) := by omega
        go_upto_if 35 with fail
        go_cut [3] from 19 to 128 (fun s3 wc => ∃ (l1 : Nat) (d1 : Array Tm), s3 = .int .i64 l1 ∧ l1 ≤ lim ∧ d1.size = d.size ∧ Hid (PS w wc qb qo X cap d d1 a b p q))
        case first =>
          cases wb
          · go_wp2_with (go_at_call 59; refine (break_q _ _ _ _ _ _ HP.out.q p (q - p) (by omega) (by omega) (by omega) _ _ rfl (by omega)).mono ?_; rintro e w1 ⟨rfl, d1, p1, q1, k1⟩)
            go_meet
            case rel =>
              rw [show p + (q - p) = q by omega] at p1
              exact ⟨l - 1, d1, by congr 1; omega, by omega, by rw [p1.1, hs], HP.out.step hap hqb (by omega) p1 q1 k1⟩
          · go_wp2_with fail
            go_meet
            case rel => exact ⟨l, dk, rfl, hl, hs, HP⟩
        case rest =>
          obtain ⟨l1, d1, rfl, hl1, hs1, HP1⟩ := hcut
          clear HP hs hl hl0 hl0z
          go_upto_if 50 with (go_at_call 60; refine (choosePivot_q _ _ _ _ _ _ HP1.out.q p q (by omega) (by omega) (by omega) _ _ rfl rfl).mono ?_; rintro e w2 ⟨⟨pv, hint, rfl, hpv1, hpv2, hh⟩, q2, b2⟩)
          have HP2 : Hid (PS w w2 qb qo X cap d d1 a b p q) := ⟨q2, HP1.out.k.mono_below b2, HP1.out.perm, HP1.out.part, HP1.out.bel⟩
          clear HP1 q2 b2
          go_cut [11, 12] from 19 to 128 (fun s11 s12 wc => ∃ (pv h : Nat) (d2 : Array Tm), s11 = .int .i64 pv ∧ s12 = .int .i64 h ∧ p ≤ pv ∧ pv < q ∧ h ≤ 1 ∧ d2.size = d.size ∧ Hid (PS w wc qb qo X cap d d2 a b p q))
          case first =>
            by_cases h2 : hint = 2
            · subst h2
              go_wp2_with (go_at_call 61; refine (reverse_q _ _ _ _ _ _ HP2.out.q p q (by omega) (by omega) (by omega) _ _ rfl rfl).mono ?_; rintro e w3 ⟨rfl, q3, k3⟩)
              go_meet
              case rel =>
                have e := reverseRange_holds d1 p q hpq (by omega)
                exact ⟨(q - 1) - (pv - p), 1, reverseRange d1 p q, by congr 1; omega, rfl, by omega, by omega, by omega, by rw [e.1, hs1], HP2.out.step hap hqb (by omega) e q3 k3⟩
            · have h2b : (hint == 2) = false := by simpa using h2
              go_wp2_with fail
              go_meet
              case rel => exact ⟨pv, hint.toNat, d1, rfl, by congr 1; omega, hpv1, hpv2, by omega, hs1, HP2⟩
          case rest =>
            obtain ⟨pv2, h2, d2, rfl, rfl, hpa, hpb, hh2, hs2, HP3⟩ := hcut
            clear HP2 hs1 hpv1 hpv2 hh
            go_upto_region 15 with fail
            go_cut [68] from 19 to 128 (fun s68 wx => (∃ t : Bool, s68 = .bool t) ∧ wx = wc)
            case first =>
              have hh3 : h2 = 0 ∨ h2 = 1 := by omega
              rcases hh3 with rfl | rfl <;> cases wb <;> cases wp <;> (go_wp2_with fail; go_meet; exact ⟨⟨_, rfl⟩, rfl⟩)
            case rest =>
              obtain ⟨⟨t68, rfl⟩, rfl⟩ := hcut
              go_upto_if 68 with fail
              go_cut [] from 19 to 128 (fun wx => ∃ d3 : Array Tm, d3.size = d.size ∧ Hid (PS w wx qb qo X cap d d3 a b p q))
              case first =>
                cases t68
                · go_wp2_with fail
                  go_meet
                  case rel => exact ⟨d2, hs2, HP3⟩
                · have e := partialInsertionSort_holds tlt_swo d2 p q (by omega) (by omega) (HP3.out.part.below hap hqb HP3.out.bel)
                  have HE : Hid _ := e
                  have C := partial_q _ _ _ _ _ _ HP3.out.q p q (by omega) (by omega) (by omega) p q rfl rfl
                  clear e
                  cases hv : (partialInsertionSort tlt d2 p q).2 with
                  | true =>
                    rw [hv] at C
                    go_wp2_with (go_at_call 62; refine C.mono ?_; rintro e w4 ⟨rfl, q4, k4⟩)
                    (try simp only [Exit.inBlock, Exit.then]); refine bodyPost_ret (results_none rfl _ _ _) rfl ?_
                    exact ⟨rfl, HP3.out.done hap hqb (by omega) HE.out.1 (HE.out.2 hv) q4 k4⟩
                  | false =>
                    rw [hv] at C
                    go_wp2_with (go_at_call 62; refine C.mono ?_; rintro e w4 ⟨rfl, q4, k4⟩)
                    go_meet
                    case rel => exact ⟨_, by rw [HE.out.1.1, hs2], HP3.out.step hap hqb (by omega) HE.out.1 q4 k4⟩
              case rest =>
                obtain ⟨d3, hs3, HP4⟩ := hcut
                clear HP3 hs2
                go_upto_region 17 with fail
                go_cut [82] from 19 to 128 (fun s82 wx => (∃ t : Bool, s82 = .bool t ∧ (t = true → 0 < p ∧ tlt d3[p - 1]! d3[pv2]! = false)) ∧ Hid (PS w wx qb qo X cap d d3 a b p q))
                case first =>
                  have eL := ent_less
                  have mL := inv_less HP4.out.q.head
                  simp only [hs3] at mL
                  by_cases hp0 : 0 < p
                  · have hp0z : (0 : Int) < (p : Int) := by omega
                    cases hlv : tlt d3[p - 1]! d3[pv2]! with
                    | true =>
                      go_wp2_with (go_at_fn 92; refine (HP4.out.q.lessB hs3 (p - 1) pv2 (by omega) (by omega) (by omega) rfl hlv).mono ?_; rintro e w' ⟨rfl, n, rfl⟩)
                      go_meet
                      exact ⟨⟨false, rfl, fun h => by cases h⟩, HP4.out.drewN _⟩
                    | false =>
                      go_wp2_with (go_at_fn 92; refine (HP4.out.q.lessB hs3 (p - 1) pv2 (by omega) (by omega) (by omega) rfl hlv).mono ?_; rintro e w' ⟨rfl, n, rfl⟩)
                      go_meet
                      exact ⟨⟨true, rfl, fun _ => ⟨hp0, hlv⟩⟩, HP4.out.drewN _⟩
                  · have hp0z : decide ((0 : Int) < (p : Int)) = false := decide_eq_false (by omega)
                    go_wp2_with fail
                    go_meet
                    exact ⟨⟨false, rfl, fun h => by cases h⟩, HP4⟩
                case rest =>
                  obtain ⟨⟨t82, rfl, ht82⟩, HP5⟩ := hcut
                  clear HP4
                  have HT : Hid (t82 = true → 0 < p ∧ tlt d3[p - 1]! d3[pv2]! = false) := ht82
                  clear ht82
                  cases t82
                  · obtain ⟨mid, ap, d4, hx⟩ : ∃ mid ap d4, partition tlt d3 p q pv2 = (mid, ap, d4) := ⟨(partition tlt d3 p q pv2).1, (partition tlt d3 p q pv2).2.1, (partition tlt d3 p q pv2).2.2, rfl⟩
                    have e := partition_holds tlt tlt_swo d3 p q pv2 hpa hpb (by omega)
                    have C := part_q _ _ _ _ _ _ HP5.out.q p q pv2 hpa hpb (by omega) (by omega) p q pv2 rfl rfl rfl
                    rw [hx] at e C
                    simp only [] at e C
                    obtain ⟨e1, e2, e3, e4, e5⟩ := e
                    have HA : Hid (PermIn p q d3 d4 ∧ (∀ i, p ≤ i → i < mid → tlt d4[i]! d4[mid]! = true) ∧ ∀ i, mid < i → i < q → tlt d4[i]! d4[mid]! = false) := ⟨e3, e4, e5⟩
                    clear hx e3 e4 e5
                    have hs4 : d4.size = d.size := by rw [HA.out.1.1, hs3]
                    go_upto_if 108 with (go_at_call 64; refine C.mono ?_; rintro e w7 ⟨rfl, q7, k7⟩)
                    clear C
                    have HP6 : Hid (PS w w7 qb qo X cap d d4 a b p q) := HP5.out.step hap hqb (by omega) HA.out.1 q7 k7
                    clear HP5 q7 k7
                    by_cases hlr : (mid : Int) - (p : Int) < (q : Int) - (mid : Int)
                    · have IH := ih (mid - p) (by omega) w7 qb qo X cap d4 HP6.out.q p mid l1 e1 (by omega) (Nat.le_refl _) (by omega) (by omega) (sub_below (HP6.out.part.below hap hqb HP6.out.bel) (Nat.le_refl _) (Or.inl rfl) (by omega)) p mid l1 rfl rfl rfl
                      go_wp2_with (go_at_call 48; refine IH.mono ?_; rintro e w8 ⟨rfl, d5, p5, s5, q5, k5⟩)
                      go_roundg (q - (mid + 1))
                      case measure => omega
                      case rel =>
                        have sp := split_perm_left e2 (by omega) p5 HA.out.2.1 HA.out.2.2
                        have st := HP6.out.step hap hqb (by omega) (permIn_mono _ _ _ _ _ _ (Nat.le_refl _) (by omega) (by omega) p5) q5 k5
                        exact ⟨mid + 1, q, l1, _, ap, d5, by go_num, rfl, rfl, rfl, rfl, by omega, by omega, hqb, Nat.le_refl _, hl1, by rw [p5.1, hs4], ⟨st.q, st.k, st.perm, st.part.left e1 e2 sp.1 sp.2 s5, st.bel⟩⟩
                    · have IH := ih (q - (mid + 1)) (by omega) w7 qb qo X cap d4 HP6.out.q (mid + 1) q l1 (by omega) (by omega) (Nat.le_refl _) (by omega) (by omega) (sub_below (HP6.out.part.below hap hqb HP6.out.bel) (by omega) (Or.inr (fun t h1 h2 => HA.out.2.2 t (by omega) h2)) (by omega)) ((mid : Int) + 1) q l1 (by omega) rfl rfl
                      go_wp2_with (go_at_call 48; refine IH.mono ?_; rintro e w8 ⟨rfl, d5, p5, s5, q5, k5⟩)
                      go_roundg (mid - p)
                      case measure => omega
                      case rel =>
                        have sp := split_perm_right (by omega) p5 HA.out.2.1 HA.out.2.2
                        have st := HP6.out.step hap hqb (by omega) (permIn_mono _ _ _ _ _ _ (by omega) (Nat.le_refl _) (by omega) p5) q5 k5
                        exact ⟨p, mid, l1, _, ap, d5, rfl, rfl, rfl, rfl, rfl, hap, e1, by omega, Nat.le_refl _, hl1, by rw [p5.1, hs4], ⟨st.q, st.k, st.perm, st.part.right e1 e2 sp.1 sp.2 s5, st.bel⟩⟩
                  · obtain ⟨hp0, hlv⟩ := HT.out rfl
                    obtain ⟨mid, d4, hx⟩ : ∃ mid d4, partitionEqual tlt d3 p q pv2 = (mid, d4) := ⟨(partitionEqual tlt d3 p q pv2).1, (partitionEqual tlt d3 p q pv2).2, rfl⟩
                    have hlow : ∀ i, p ≤ i → i < q → tlt d3[i]! d3[pv2]! = false := by
                      intro i h1 h2
                      rcases HP5.out.part.below hap hqb HP5.out.bel with h0 | h0
                      · omega
                      · exact tlt_swo.ntrans _ _ _ (h0 i h1 h2) hlv
                    have e := partitionEqual_holds tlt tlt_swo d3 p q pv2 hpa hpb (by omega) hlow
                    have C := partEq_q _ _ _ _ _ _ HP5.out.q p q pv2 hpa hpb (by omega) (by omega) p q pv2 rfl rfl rfl
                    rw [hx] at e C
                    simp only [] at e C
                    obtain ⟨e1, e2, e3, e4, e5⟩ := e
                    have HA : Hid (PermIn p q d3 d4 ∧ (∀ i, p ≤ i → i < mid → tlt d3[pv2]! d4[i]! = false) ∧ (∀ i, mid ≤ i → i < q → tlt d3[pv2]! d4[i]! = true) ∧ ∀ i, p ≤ i → i < q → tlt d4[i]! d3[pv2]! = false) := ⟨e3, e4, e5, permIn_all d3 d4 p q (fun x => tlt x d3[pv2]! = false) (by omega) e3 hlow⟩
                    clear hx e3 e4 e5 hlow hlv
                    go_wp2_with (go_at_call 63; refine C.mono ?_; rintro e w7 ⟨rfl, q7, k7⟩)
                    go_roundg (q - mid)
                    case measure => omega
                    case rel =>
                      have st := HP5.out.step hap hqb (by omega) HA.out.1 q7 k7
                      exact ⟨mid, q, l1, wb, wp, d4, rfl, rfl, rfl, rfl, rfl, by omega, e2, hqb, Nat.le_refl _, hl1, by rw [HA.out.1.1, hs3], ⟨st.q, st.k, st.perm, st.part.equal HA.out.2.1 HA.out.2.2.2 HA.out.2.2.1, st.bel⟩⟩
end Go.Proofs.Yteiadigafkollaa
