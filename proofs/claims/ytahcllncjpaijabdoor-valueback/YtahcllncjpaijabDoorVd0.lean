/- Values, plain: what operations make of right values. -/
import Derived.Test.YtahcllncjpaijabDoorVe2
import Derived.Test.YtahcllncjpaijabDoorVo2
namespace Go.Proofs.YtahcllncjpaijabDoor
open Go.RowKit

theorem layP_len (t : Vt) : (layP (opV t) (flV t)).length = szV t := by
  unfold layP
  rw [List.length_zipWith, opV_len]
  show min (szV t) (szV t) = szV t
  omega
theorem layP_at (t : Vt) {k : Nat} (h : k < szV t) : (layP (opV t) (flV t))[k]'(by rw [layP_len]; exact h) = plc ((opV t)[k]'(by rw [opV_len]; exact h)) ((flV t)[k]'h) := by
  unfold layP
  rw [List.getElem_zipWith]; rfl
theorem cmpQ_at {A B : List Pl} {k : Nat} (ha : k < A.length) (hb : k < B.length) : cmpQ (A.drop k) (B.drop k) = if cmpP A[k] B[k] = 0 then cmpQ (A.drop (k + 1)) (B.drop (k + 1)) else cmpP A[k] B[k] := by
  rw [List.drop_eq_getElem_cons ha, List.drop_eq_getElem_cons hb, cmpQ]
theorem cmpQ_end {A B : List Pl} {k : Nat} (h : ¬ (k < A.length ∧ k < B.length)) : cmpQ (A.drop k) (B.drop k) = 0 := by
  by_cases ha : k < A.length
  · have e : B.drop k = [] := List.drop_eq_nil_of_le (by omega)
    rw [e]
    cases A.drop k <;> rfl
  · have e : A.drop k = [] := List.drop_eq_nil_of_le (by omega)
    rw [e]
    rfl
theorem cmpP_plc (x y : Int) (a b : Atm) : cmpP (plc x a) (plc y b) = orL [sgn (x - y), cmpA a b] := by
  rw [orL_two]; rfl
set_option maxHeartbeats 16000000 in
set_option maxRecDepth 100000 in
theorem laidCompare_any (p1 p2 : Option Addr) (c1 c2 g1 g2 : Nat) (s t : Vt) (w : World) (h1 : AS w (.slice p1 (szV s) c1) (flV s)) (h2 : AS w (.slice p2 (szV t) c2) (flV t)) (o1 : IS w (.slice (some ⟨g1, 0, none⟩) (szV s) (szV s)) (opV s)) (o2 : IS w (.slice (some ⟨g2, 0, none⟩) (szV t) (szV t)) (opV t)) (hs : RT s) (ht : RT t) :
    Calls Tryd.prog 26 #[.agg #[.slice p1 (szV s) c1, .slice (some ⟨g1, 0, none⟩) (szV s) (szV s)], .agg #[.slice p2 (szV t) c2, .slice (some ⟨g2, 0, none⟩) (szV t) (szV t)]] w fun e w' => e = .returned (.int .i64 (cmpV s t)) ∧ Below w.heap.size w w' := by
  have LC : Hid (cmpQ (layP (opV s) (flV s)) (layP (opV t) (flV t)) = cmpV s t) := lay_cmp hs.wf ht.wf
  have hs1 := hs.sz
  have ht1 := ht.sz
  have AT1 : Hid (∀ k (hk : k < szV s) (hk' : k < szV t), cmpQ ((layP (opV s) (flV s)).drop k) ((layP (opV t) (flV t)).drop k) = if orL [sgn ((opV s)[k]'(by rw [opV_len]; exact hk) - (opV t)[k]'(by rw [opV_len]; exact hk')), cmpA ((flV s)[k]'hk) ((flV t)[k]'hk')] = 0 then cmpQ ((layP (opV s) (flV s)).drop (k + 1)) ((layP (opV t) (flV t)).drop (k + 1)) else orL [sgn ((opV s)[k]'(by rw [opV_len]; exact hk) - (opV t)[k]'(by rw [opV_len]; exact hk')), cmpA ((flV s)[k]'hk) ((flV t)[k]'hk')]) := fun k hk hk' => by
    rw [cmpQ_at (by rw [layP_len]; exact hk) (by rw [layP_len]; exact hk'), layP_at s hk, layP_at t hk', cmpP_plc]
  have END : Hid (∀ k, ¬ (k < szV s ∧ k < szV t) → cmpQ ((layP (opV s) (flV s)).drop k) ((layP (opV t) (flV t)).drop k) = 0) := fun k hk => cmpQ_end (by rw [layP_len, layP_len]; exact hk)
  have D0 : Hid (cmpV s t = cmpQ ((layP (opV s) (flV s)).drop 0) ((layP (opV t) (flV t)).drop 0)) := LC.out.symm
  have G1 : Hid (∀ w1 k (hk : k < szV s), Below w.heap.size w w1 → ∃ X o, p1 = some ⟨X, o, none⟩ ∧ w1.cell? ⟨X, o + k * 4, none⟩ = some (.int .i64 ((flV s)[k]'hk).kind) ∧ w1.cell? ⟨X, o + k * 4 + 1, none⟩ = some (.int .i64 ((flV s)[k]'hk).n) ∧ w1.cell? ⟨X, o + k * 4 + 2, none⟩ = some (.int .i64 ((flV s)[k]'hk).int) ∧ w1.cell? ⟨X, o + k * 4 + 3, none⟩ = some (.string ((flV s)[k]'hk).text)) := fun w1 k hk b => (h1.below b).atA hk
  have G2 : Hid (∀ w1 k (hk : k < szV t), Below w.heap.size w w1 → ∃ X o, p2 = some ⟨X, o, none⟩ ∧ w1.cell? ⟨X, o + k * 4, none⟩ = some (.int .i64 ((flV t)[k]'hk).kind) ∧ w1.cell? ⟨X, o + k * 4 + 1, none⟩ = some (.int .i64 ((flV t)[k]'hk).n) ∧ w1.cell? ⟨X, o + k * 4 + 2, none⟩ = some (.int .i64 ((flV t)[k]'hk).int) ∧ w1.cell? ⟨X, o + k * 4 + 3, none⟩ = some (.string ((flV t)[k]'hk).text)) := fun w1 k hk b => (h2.below b).atA hk
  have Q1 : Hid (∀ w1 k (hk : k < szV s), Below w.heap.size w w1 → w1.cell? ⟨g1, k, none⟩ = some (.int .i64 ((opV s)[k]'(by rw [opV_len]; exact hk)))) := fun w1 k hk b => by
    obtain ⟨X, o, e, hc⟩ := (o1.below b).atI (k := k) (by rw [opV_len]; exact hk)
    injection e with e
    injection e with e1 e2 _
    subst e1 e2
    rw [Nat.zero_add] at hc; exact hc
  have Q2 : Hid (∀ w1 k (hk : k < szV t), Below w.heap.size w w1 → w1.cell? ⟨g2, k, none⟩ = some (.int .i64 ((opV t)[k]'(by rw [opV_len]; exact hk)))) := fun w1 k hk b => by
    obtain ⟨X, o, e, hc⟩ := (o2.below b).atI (k := k) (by rw [opV_len]; exact hk)
    injection e with e
    injection e with e1 e2 _
    subst e1 e2
    rw [Nat.zero_add] at hc; exact hc
  generalize hR : cmpV s t = R at *
  generalize layP (opV s) (flV s) = LA at *
  generalize layP (opV t) (flV t) = LB at *
  clear h1 h2 o1 o2 hs ht LC hR
  go_enter Tryd.func26, Tryd.ntmps26
  go_upto_region 1 with fail
  generalize hW : World.alloc _ _ = W
  have BW : Hid (Below w.heap.size w W) := by rw [← hW]; exact ((Below.refl _ _).alloc (Nat.le_refl _) _).alloc (by simp) _
  have BX : Hid (∀ w1, Below W.heap.size W w1 → w1.cell? ⟨w.heap.size, 0, none⟩ = some (.slice p1 (szV s) c1) ∧ w1.cell? ⟨w.heap.size, 1, none⟩ = some (.slice (some ⟨g1, 0, none⟩) (szV s) (szV s)) ∧ w1.cell? ⟨w.heap.size + 1, 0, none⟩ = some (.slice p2 (szV t) c2) ∧ w1.cell? ⟨w.heap.size + 1, 1, none⟩ = some (.slice (some ⟨g2, 0, none⟩) (szV t) (szV t))) := fun w1 b => by
    have hz : W.heap.size = w.heap.size + 2 := by rw [← hW]; simp
    refine ⟨(b.cell (p := ⟨w.heap.size, 0, none⟩) (by show w.heap.size < W.heap.size; omega)).trans (by rw [← hW]; simp), (b.cell (p := ⟨w.heap.size, 1, none⟩) (by show w.heap.size < W.heap.size; omega)).trans (by rw [← hW]; simp), (b.cell (p := ⟨w.heap.size + 1, 0, none⟩) (by show w.heap.size + 1 < W.heap.size; omega)).trans (by rw [← hW]; simp), (b.cell (p := ⟨w.heap.size + 1, 1, none⟩) (by show w.heap.size + 1 < W.heap.size; omega)).trans (by rw [← hW]; simp)⟩
  have BT : Hid (∀ w1, Below W.heap.size W w1 → Below w.heap.size w w1) := fun w1 b => BW.out.trans (b.mono BW.out.size)
  have BR : Hid (Below W.heap.size W W) := Below.refl _ _
  obtain ⟨z1, z2, z3, z4⟩ := BX.out W BR.out
  clear hW BW
  obtain ⟨hb, hb0⟩ : ∃ hb, hb = w.heap.size := ⟨_, rfl⟩
  rw [← hb0] at BX z1 z2 z3 z4 ⊢
  clear hb0
  obtain ⟨mn, hmn⟩ : ∃ mn : Nat, mn = min (szV s) (szV t) := ⟨_, rfl⟩
  have HMN : Hid (∀ k, (k < mn ↔ k < szV s ∧ k < szV t)) := fun k => by omega
  have hmI : min (szV s : Int) (szV t : Int) = (mn : Int) := by omega
  have hmb : mn ≤ 1024 := by omega
  clear hmn
  go_wp2_with fail
  clear z1 z2 z3 z4
  go_loopw [14] (fun v14 wr => ∃ (k : Nat) (wk : World), v14 = .int .i64 k ∧ wk = wr ∧ k ≤ mn ∧ Hid (R = cmpQ (LA.drop k) (LB.drop k)) ∧ Hid (Below W.heap.size W wk)) (fun v14 _ => mn - (intOf v14).toNat)
  case atStart => exact ⟨0, _, rfl, rfl, Nat.zero_le _, D0, BR⟩
  case round =>
    obtain ⟨k, wr, rfl, rfl, hk, HD, HB⟩ := hrel
    clear D0 BR
    by_cases hlt : k < mn
    · obtain ⟨hk1, hk2⟩ := (HMN.out k).1 hlt
      have NX : Hid _ := AT1.out k hk1 hk2
      rw [NX.out] at HD
      obtain ⟨X, o, e1⟩ : ∃ X o, p1 = some ⟨X, o, none⟩ := by obtain ⟨X, o, e1, _⟩ := G1.out wr k hk1 (BT.out _ HB.out); exact ⟨X, o, e1⟩
      obtain rfl : p1 = some ⟨X, o, none⟩ := e1
      obtain ⟨Y, u, e2⟩ : ∃ X o, p2 = some ⟨X, o, none⟩ := by obtain ⟨X, o, e1, _⟩ := G2.out wr k hk2 (BT.out _ HB.out); exact ⟨X, o, e1⟩
      obtain rfl : p2 = some ⟨Y, u, none⟩ := e2
      obtain ⟨a, ha⟩ : ∃ a, a = (flV s)[k]'hk1 := ⟨_, rfl⟩
      obtain ⟨b, hbb⟩ : ∃ b, b = (flV t)[k]'hk2 := ⟨_, rfl⟩
      obtain ⟨x, hx⟩ : ∃ x, x = (opV s)[k]'(by rw [opV_len]; exact hk1) := ⟨_, rfl⟩
      obtain ⟨y, hy⟩ : ∃ y, y = (opV t)[k]'(by rw [opV_len]; exact hk2) := ⟨_, rfl⟩
      have XS : Hid (∀ w1, Below wr.heap.size wr w1 → w1.cell? ⟨hb, 0, none⟩ = some (.slice (some ⟨X, o, none⟩) (szV s) c1) ∧ w1.cell? ⟨hb, 1, none⟩ = some (.slice (some ⟨g1, 0, none⟩) (szV s) (szV s)) ∧ w1.cell? ⟨hb + 1, 0, none⟩ = some (.slice (some ⟨Y, u, none⟩) (szV t) c2) ∧ w1.cell? ⟨hb + 1, 1, none⟩ = some (.slice (some ⟨g2, 0, none⟩) (szV t) (szV t)) ∧ w1.cell? ⟨g1, k, none⟩ = some (.int .i64 x) ∧ w1.cell? ⟨g2, k, none⟩ = some (.int .i64 y) ∧ w1.cell? ⟨X, o + k * 4, none⟩ = some (.int .i64 a.kind) ∧ w1.cell? ⟨X, o + k * 4 + 1, none⟩ = some (.int .i64 a.n) ∧ w1.cell? ⟨X, o + k * 4 + 2, none⟩ = some (.int .i64 a.int) ∧ w1.cell? ⟨X, o + k * 4 + 3, none⟩ = some (.string a.text) ∧ w1.cell? ⟨Y, u + k * 4, none⟩ = some (.int .i64 b.kind) ∧ w1.cell? ⟨Y, u + k * 4 + 1, none⟩ = some (.int .i64 b.n) ∧ w1.cell? ⟨Y, u + k * 4 + 2, none⟩ = some (.int .i64 b.int) ∧ w1.cell? ⟨Y, u + k * 4 + 3, none⟩ = some (.string b.text)) := fun w1 bb => by
        have bw := HB.out.trans (bb.mono HB.out.size)
        obtain ⟨q1, q2, q3, q4⟩ := BX.out w1 bw
        obtain ⟨X', o', e3, r1, r2, r3, r4⟩ := G1.out w1 k hk1 (BT.out _ bw)
        injection e3 with e3
        injection e3 with e3 e4 _
        subst e3 e4
        obtain ⟨Y', u', e5, s1, s2, s3, s4⟩ := G2.out w1 k hk2 (BT.out _ bw)
        injection e5 with e5
        injection e5 with e5 e6 _
        subst e5 e6
        rw [ha, hbb, hx, hy]
        exact ⟨q1, q2, q3, q4, Q1.out w1 k hk1 (BT.out _ bw), Q2.out w1 k hk2 (BT.out _ bw), r1, r2, r3, r4, s1, s2, s3, s4⟩
      have HD2 : Hid (R = if orL [sgn (x - y), cmpA a b] = 0 then cmpQ (LA.drop (k + 1)) (LB.drop (k + 1)) else orL [sgn (x - y), cmpA a b]) := by rw [ha, hbb, hx, hy]; exact HD.out
      clear HD
      have BN : Hid (∀ w1, Below wr.heap.size wr w1 → Below W.heap.size W w1) := fun w1 c => HB.out.trans (c.mono HB.out.size)
      clear ha hbb hx hy NX G1 G2 Q1 Q2 BX AT1 END HB
      obtain ⟨ak, an, ai, tx⟩ := a
      obtain ⟨bk, bn, bi, ty⟩ := b
      simp only at XS
      have CA : Hid (∀ w1, Calls Tryd.prog 40 #[.agg #[.int .i64 ak, .int .i64 an, .int .i64 ai, .string tx], .agg #[.int .i64 bk, .int .i64 bn, .int .i64 bi, .string ty]] w1 fun e w' => e = .returned (.int .i64 (cmpA ⟨ak, an, ai, tx⟩ ⟨bk, bn, bi, ty⟩)) ∧ Below w1.heap.size w1 w') := fun w1 => compareAtoms_any ⟨ak, an, ai, tx⟩ ⟨bk, bn, bi, ty⟩ w1
      generalize cmpA ⟨ak, an, ai, tx⟩ ⟨bk, bn, bi, ty⟩ = ca at *
      have IA : Hid (∀ (w0 : World) (x1 x2 : Int), IS (w0.alloc (.cells #[.int .i64 x1, .int .i64 x2] 3)) (.slice (some ⟨w0.heap.size, 0, none⟩) 2 2) [x1, x2]) := fun w0 x1 x2 => (OwnG.lit KI w0 [x1, x2] _ rfl rfl (by show 2 ≤ maxLen; unfold maxLen; omega)).gs KI_ok.len
      have ID : Hid (∀ (w0 : World) (x1 x2 : Int), IS (w0.alloc (.cells #[.int .i64 x1, .int .i64 x2] 3)).drew (.slice (some ⟨w0.heap.size, 0, none⟩) 2 2) [x1, x2]) := fun w0 x1 x2 => (IA.out w0 x1 x2).below ((Below.refl _ _).drew)
      have BR : Hid (Below wr.heap.size wr wr) := Below.refl _ _
      have BD : Hid (Below wr.heap.size wr wr.drew) := (Below.refl _ _).drew
      obtain ⟨y1, y2, y3, y4, y5, y6, y7, y8, y9, y10, y11, y12, y13, y14⟩ := XS.out wr BR.out
      generalize szV s = n1 at *
      generalize szV t = n2 at *
      have hkI1 : (k : Int) < (n1 : Int) := by omega
      have hkI2 : (k : Int) < (n2 : Int) := by omega
      go_wp2_with fail
      go_region_held3 (fun w1 => w1.cell? ⟨hb, 0, none⟩ = some (.slice (some ⟨X, o, none⟩) n1 c1) ∧ w1.cell? ⟨hb, 1, none⟩ = some (.slice (some ⟨g1, 0, none⟩) n1 n1) ∧ w1.cell? ⟨hb + 1, 0, none⟩ = some (.slice (some ⟨Y, u, none⟩) n2 c2) ∧ w1.cell? ⟨hb + 1, 1, none⟩ = some (.slice (some ⟨g2, 0, none⟩) n2 n2) ∧ w1.cell? ⟨g1, k, none⟩ = some (.int .i64 x) ∧ w1.cell? ⟨g2, k, none⟩ = some (.int .i64 y) ∧ w1.cell? ⟨X, o + k * 4, none⟩ = some (.int .i64 ak) ∧ w1.cell? ⟨X, o + k * 4 + 1, none⟩ = some (.int .i64 an) ∧ w1.cell? ⟨X, o + k * 4 + 2, none⟩ = some (.int .i64 ai) ∧ w1.cell? ⟨X, o + k * 4 + 3, none⟩ = some (.string tx) ∧ w1.cell? ⟨Y, u + k * 4, none⟩ = some (.int .i64 bk) ∧ w1.cell? ⟨Y, u + k * 4 + 1, none⟩ = some (.int .i64 bn) ∧ w1.cell? ⟨Y, u + k * 4 + 2, none⟩ = some (.int .i64 bi) ∧ w1.cell? ⟨Y, u + k * 4 + 3, none⟩ = some (.string ty)) (go_keep) (first | (go_at_call 39; refine Calls.mono (cmpInt_any _ _ _) ?_; rintro e w1 ⟨rfl, rfl⟩) | (go_at_call 40; refine Calls.mono (CA.out _) ?_; rintro e w3 ⟨rfl, b3⟩; have B3 : Hid (Below wr.heap.size wr w3) := (by first | exact b3 | exact BD.out.trans (b3.mono BD.out.size)); obtain ⟨u1, u2, u3, u4, u5, u6, u7, u8, u9, u10, u11, u12, u13, u14⟩ := XS.out _ B3.out; clear b3) | (go_at_call 38; refine Calls.mono (cmpOr_any _ [sgn (x - y), ca] _ (by first | exact ID.out _ _ _ | exact IA.out _ _ _) (by show 2 ≤ 1000; omega)) ?_; rintro e w4 ⟨rfl, rfl⟩))
      have B4 : Hid (∀ ob, Below W.heap.size W (w3.alloc ob).drew) := fun ob => BN.out _ ((B3.out.alloc B3.out.size ob).drew)
      have B4' : Hid (∀ ob, Below W.heap.size W (w3.alloc ob)) := fun ob => BN.out _ (B3.out.alloc B3.out.size ob)
      clear u1 u2 u3 u4 u5 u6 u7 u8 u9 u10 u11 u12 u13 u14 y1 y2 y3 y4 y5 y6 y7 y8 y9 y10 y11 y12 y13 y14 XS CA IA ID
      generalize orL [sgn (x - y), ca] = rr at *
      by_cases hrr : rr = 0
      · subst hrr
        rw [if_pos rfl] at HD2
        go_wp2_with fail
        go_roundw
        case rel => exact ⟨k + 1, _, by go_num, rfl, by omega, HD2, (by first | exact B4.out _ | exact B4'.out _)⟩
        case measure => simp [intOf]; omega
      · rw [if_neg hrr] at HD2
        have hrr2 : (rr != 0) = true := by simp [hrr]
        have BB : Hid (∀ w1, Below W.heap.size W w1 → Below w.heap.size w w1) := BT.out
        go_wp2_with fail
        go_ret
        exact ⟨by rw [HD2.out]; rfl, by first | exact BB.out _ (B4.out _) | exact BB.out _ (B4'.out _)⟩
    · have HE : R = 0 := by rw [HD.out]; exact END.out k (fun h => hlt ((HMN.out k).2 h))
      have B9 : Hid (Below w.heap.size w wr) := BT.out _ HB.out
      clear HD AT1 END G1 G2 Q1 Q2 BX
      go_wp2_with fail
      go_ret
      exact ⟨by rw [HE]; rfl, B9.out⟩
end Go.Proofs.YtahcllncjpaijabDoor
namespace Go.Proofs.YtahcllncjpaijabDoor
open Go.RowKit

def numT (n : Int) : Option Vt := if -9007199254740992 ≤ n ∧ n ≤ 9007199254740992 then some (.nd 1 n ByteArray.empty []) else none
def txtT (s : ByteArray) : Option Vt := if s.size ≤ 4096 then some (.nd 2 0 s []) else none
def lstT (ts : List Vt) : Option Vt := if szVL ts < 1024 ∧ dpVL ts < 32 then some (mkL ts) else none
theorem lokB_trees {ts : List Vt} (h : ∀ t ∈ ts, RT t) : lokB (ts.map flV) = decide (szVL ts < 1024 ∧ dpVL ts < 32) := by
  unfold lokB
  rw [flat_trees, lstA_trees, depV_flat (mkL_wf (wfVL_all h))]
  have e : dpV (mkL ts) = dpVL ts + 1 := by unfold mkL; rw [dpV]
  rw [e]
  have e2 : (flVL ts).length = szVL ts := rfl
  rw [e2]
  congr 1
  simp; intro _; omega
theorem lstT_eq {ts : List Vt} (h : ∀ t ∈ ts, RT t) : lstT ts = if lokB (ts.map flV) = true then some (mkL ts) else none := by
  unfold lstT
  rw [lokB_trees h]
  simp
/-- What an operation of two makes. -/
def do2T (kind : Int) (a b : Vt) : Option Vt :=
  if kind = 6 then (if a.k = 1 ∧ b.k = 1 then numT (a.i + b.i) else none)
  else if kind = 7 then (if a.k = 1 ∧ b.k = 1 then numT (a.i - b.i) else none)
  else if kind = 8 then (if a.k = 1 ∧ b.k = 1 then numT (a.i * b.i) else none)
  else if kind = 9 then (if a.k = 2 ∧ b.k = 2 then txtT (a.tx ++ b.tx) else if a.k = 3 ∧ b.k = 3 then lstT (a.ps ++ b.ps) else none)
  else if kind = 10 then (if a.k = 3 ∧ b.k = 1 ∧ 0 ≤ b.i then a.ps[b.i.toNat]? else none)
  else if kind = 12 then numT (if cmpV a b < 0 then 1 else 0)
  else numT (if cmpV a b = 0 then 1 else 0)
/-- What an operation of one makes. -/
def do1T (a : Vt) : Option Vt := if a.k = 2 then numT a.tx.size else if a.k = 3 then numT a.ps.length else none
def doT (kind : Int) (ts : List Vt) : Option Vt :=
  if kind = 5 then lstT ts else match ts with
    | [a] => do1T a
    | [a, b] => do2T kind a b
    | _ => none
def outL : Option Vt → List Atm
  | some t => flV t
  | none => []
/-- What Do tells is wrong. -/
def doE (kind : Int) (A : List (List Atm)) : Int :=
  if kind ≠ 5 ∧ (kind < 6 ∨ 13 < kind) then 1
  else if 4096 < A.length then 3
  else if (kind = 11 ∧ A.length ≠ 1) ∨ (kind ≠ 11 ∧ kind ≠ 5 ∧ A.length ≠ 2) then 5
  else firstE A
/-- Atoms as a tree; of what is none, anything. -/
def treeA (l : List Atm) : Vt := match bV [] l with
  | some [t] => t
  | _ => .nd 0 0 ByteArray.empty []
theorem treeA_flat {t : Vt} (h : wfV t) : treeA (flV t) = t := by unfold treeA; rw [bV_flat h]
theorem treeA_map {ts : List Vt} (h : ∀ t ∈ ts, RT t) : (ts.map flV).map treeA = ts := by
  induction ts with
  | nil => rfl
  | cons t r ih => rw [List.map_cons, List.map_cons, treeA_flat (h t (List.mem_cons_self ..)).wf, ih (fun u hu => h u (List.mem_cons_of_mem _ hu))]
def doO (kind : Int) (A : List (List Atm)) : Option Vt := if doE kind A = 0 then doT kind (A.map treeA) else none
theorem numT_rt {n : Int} {t : Vt} (h : numT n = some t) : RT t ∧ t = .nd 1 n ByteArray.empty [] := by
  unfold numT at h
  split at h
  · rename_i hn
    injection h with h
    subst h
    refine ⟨⟨?_, by rw [szV_nd]; simp [szVL, flVL], by rw [dpV]; simp [dpVL]⟩, rfl⟩
    rw [wfV]
    refine ⟨?_, by simp [wfVL]⟩
    unfold atB
    simp; exact hn
  · cases h
theorem txtT_rt {s : ByteArray} {t : Vt} (h : txtT s = some t) : RT t ∧ t = .nd 2 0 s [] := by
  unfold txtT at h
  split at h
  · rename_i hn
    injection h with h
    subst h
    refine ⟨⟨?_, by rw [szV_nd]; simp [szVL, flVL], by rw [dpV]; simp [dpVL]⟩, rfl⟩
    rw [wfV]
    refine ⟨?_, by simp [wfVL]⟩
    unfold atB
    simp; exact hn
  · cases h
theorem lstT_rt {ts : List Vt} (h : ∀ t ∈ ts, RT t) {t : Vt} (h2 : lstT ts = some t) : RT t ∧ t = mkL ts := by
  unfold lstT at h2
  split at h2
  · rename_i hn
    injection h2 with h2
    subst h2
    refine ⟨⟨mkL_wf (wfVL_all h), ?_, ?_⟩, rfl⟩
    · unfold mkL; rw [szV_nd]; omega
    · unfold mkL; rw [dpV]; omega
  · cases h2
theorem do2T_rt {kind : Int} {a b t : Vt} (ha : RT a) (hb : RT b) (h : do2T kind a b = some t) : RT t := by
  unfold do2T at h
  split at h
  · split at h
    · exact (numT_rt h).1
    · cases h
  split at h
  · split at h
    · exact (numT_rt h).1
    · cases h
  split at h
  · split at h
    · exact (numT_rt h).1
    · cases h
  split at h
  · split at h
    · exact (txtT_rt h).1
    · split at h
      · refine (lstT_rt (fun u hu => ?_) h).1
        rcases List.mem_append.1 hu with e | e
        · exact ha.parts u e
        · exact hb.parts u e
      · cases h
  split at h
  · split at h
    · exact ha.parts t (List.mem_of_getElem? h)
    · cases h
  split at h
  · exact (numT_rt h).1
  · exact (numT_rt h).1
theorem doT_rt {kind : Int} {ts : List Vt} {t : Vt} (h : ∀ u ∈ ts, RT u) (h2 : doT kind ts = some t) : RT t := by
  unfold doT at h2
  split at h2
  · exact (lstT_rt h h2).1
  · split at h2
    · unfold do1T at h2
      split at h2
      · exact (numT_rt h2).1
      · split at h2
        · exact (numT_rt h2).1
        · cases h2
    · exact do2T_rt (h _ (by simp)) (h _ (by simp)) h2
    · cases h2
end Go.Proofs.YtahcllncjpaijabDoor
