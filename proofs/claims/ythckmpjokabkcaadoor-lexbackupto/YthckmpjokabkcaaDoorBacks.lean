/- The walk of the law LexBack: it answers true for tokens and a text of some size, the keywords, the marks and the powers of ten lying in their variables. -/
import Derived.Test.YthckmpjokabkcaaDoorWorks
import Derived.Test.YthckmpjokabkcaaDoorNow
import Derived.Test.YthckmpjokabkcaaDoorBack2
import Derived.Test.YthckmpjokabkcaaDoorLay2
import Derived.Test.YthckmpjokabkcaaDoorUnq5
namespace Go.Proofs.YthckmpjokabkcaaDoor
open Go.RowKit

theorem unq_quo (s : List UInt8) : unqT (quo s) = s ∧ unqB (quo s) = true := by
  have hq : qa (quo s) 0 = (s, (quo s).length, true) := by
    have e : (quo s).drop (0 + 1) = s.flatMap qB ++ 34 :: [] := rfl
    unfold qa
    rw [e, uq_quo s []]
    simp [quo]; omega
  have h := unq_t (l := quo s) ⟨rfl, by rw [hq], by rw [hq]⟩
  rw [hq] at h
  exact h
theorem quo_unq {l : List UInt8} (h : unqB l = true) : quo (unqT l) = l ∧ (unqT l).length ≤ l.length := by
  have hc : l.head? = some 34 ∧ (qa l 0).2.2 = true ∧ (qa l 0).2.1 = l.length := by
    by_cases hc : l.head? = some 34 ∧ (qa l 0).2.2 = true ∧ (qa l 0).2.1 = l.length
    · exact hc
    · rw [(unq_f hc).2] at h; cases h
  obtain ⟨h1, h2, h3⟩ := hc
  have ht := (unq_t ⟨h1, h2, h3⟩).1
  cases l with
  | nil => cases h1
  | cons c r =>
    simp at h1
    subst h1
    unfold qa at h2 h3 ht
    rw [show List.drop (0 + 1) (34 :: r) = r from rfl] at h2 h3 ht
    cases hu : uq r with
    | none => rw [hu] at h2; cases h2
    | some x =>
      obtain ⟨t, m⟩ := x
      rw [hu] at h3 ht
      simp only at h3 ht
      have hm : m = r.length := by simp at h3; omega
      have hq := quo_of_uq r t m hu
      rw [hm, List.take_length] at hq
      rw [ht]
      have e : quo t = 34 :: r := by rw [hq]; rfl
      refine ⟨e, ?_⟩
      rw [← e]
      have hl : t.length ≤ (t.flatMap qB).length := by
        clear hq e ht hu h3 h2 h
        induction t with
        | nil => simp
        | cons a t ih =>
          have := qB_len1 a
          rw [List.flatMap_cons, List.length_append, List.length_cons]; omega
      unfold quo; rw [List.length_append, List.length_append]; simp only [List.length_cons, List.length_nil]; omega
theorem tkRes_one {l : List UInt8} {T : List Tok} (h : tkRes l = (T, 0, 0)) : T.length ≤ 8192 := by have := tkRes_len l; rw [h] at this; exact this
theorem layRes_0 {l : List Tok} (h : (layRes l).2 = 0) : l.length ≤ 8192 ∧ (∀ t ∈ l, told t = true) ∧ (layRes l).1 = layL l := by
  unfold layRes at h ⊢
  split at h
  · simp at h
  · rename_i h1
    split at h
    · rename_i h2
      rw [if_neg h1, if_pos h2]
      exact ⟨by omega, List.all_eq_true.1 h2, rfl⟩
    · simp at h
theorem zt_np {M L : List Tok} (h : M.map np = L.map np) : M.map zt = L.map zt := by
  have e : ∀ l : List Tok, l.map zt = (l.map np).map fun x => (⟨x.1, 0, x.2.1, x.2.2⟩ : Tok) := by
    intro l; rw [List.map_map]; rfl
  rw [e, e, h]
theorem lay_arg {l : List Tok} {v : Value} {w : World} (hs : ∀ t ∈ l, t.text.length ≤ maxLen) (hmax : l.length ≤ maxLen) (hv : ArgT w v l) (hk : KeysAt w) (hm : MarksAt w) (hp : PowBelow w.heap.size w) :
    Calls Tryd.prog 17 #[v] w fun e w' => e = .returned (.tuple #[.string ⟨(layRes l).1.toArray⟩, .int .i64 (layRes l).2]) ∧ Below w.heap.size w w' := by
  rcases hv with ⟨rfl, rfl⟩ | ⟨a, c, rfl, h⟩
  · exact lay_any [] none 0 w hs hmax (Or.inl rfl) hk hm hp
  · refine lay_any l (some a) c w hs hmax ?_ hk hm hp
    rcases h with h | ⟨g, o, rfl, hg, hT⟩
    · exact Or.inl h
    · exact Or.inr ⟨g, o, rfl, hg, hT⟩
/-- The second half of the law: quotes there and back. -/
theorem tokensZ2 {M L : List Tok} (h : M.map zt = L.map zt) (hl : L.length ≤ 100000) {w : World} {b1 b2 : Nat} {v1 v2 : Value} (h1 : OwnT w b1 v1 (M.map zt)) (h2 : OwnT w b2 v2 (L.map zt)) :
    Calls Tryd.prog 10 #[v1, v2] w fun e w' => e = .returned (.bool true) ∧ ∃ n, w' = w.drewN n := by
  rw [h] at h1
  by_cases hn : L.map zt = []
  · rw [hn] at h1 h2
    obtain ⟨a1, c1, rfl⟩ := h1.form
    obtain ⟨a2, c2, rfl⟩ := h2.form
    refine (tokensNil_any _ _ _ _ _).mono ?_
    rintro e w' ⟨rfl, rfl⟩
    exact ⟨rfl, 0, rfl⟩
  · obtain ⟨g1, c1, rfl, _, _⟩ := h1.block hn
    obtain ⟨g2, c2, rfl, _, _⟩ := h2.block hn
    exact tokensEq_any (L.map zt) g1 0 c1 g2 0 c2 w (by simpa using hl) h1.at h2.at
theorem nowhere_row {L : List Tok} {w : World} {b : Nat} {v : Value} (hl : L.length ≤ 100000) (h : OwnT w b v L) :
    Calls Tryd.prog 20 #[v] w fun e w' => ∃ v', e = .returned v' ∧ OwnT w' w.heap.size v' (L.map zt) ∧ Below w.heap.size w w' := by
  rcases h.2 with ⟨rfl, h0⟩ | ⟨g, cap, cur, rfl, hb, hc, _⟩
  · have : L = [] := List.length_eq_zero_iff.1 h0
    subst this
    exact nowhere_none w
  · refine nowhere_some L g 0 cap w (by omega) h.at ?_
    by_cases hlt : g < w.heap.size
    · exact hlt
    · rw [Array.getElem?_eq_none (by omega)] at hc; cases hc

set_option maxRecDepth 100000 in
set_option maxHeartbeats 8000000 in
theorem lexBack_any (l : List Tok) (v : Value) (s : ByteArray) (w : World) (hs : s.size ≤ 1048576) (hl : l.length ≤ 1048576) (ht : ∀ t ∈ l, t.text.length ≤ 1048576) (hv : ArgT w v l) (hk : KeysAt w) (hm : MarksAt w) (hp : PowBelow w.heap.size w) :
    Calls Tryd.prog 6 #[v, .string s] w fun e w' => e = .returned (.bool true) ∧ Below w.heap.size w w' := by
  have WK := works_any w hk hm
  have LA := fun w1 (hb : Below w.heap.size w w1) => lay_arg (w := w1) (fun t h => Nat.le_trans (ht t h) (by unfold maxLen; omega)) (by unfold maxLen; omega) (hv.below hb) (KeysAt.below hk hb) (MarksAt.below hm hb) (Lib.tabBelow_of_tabIs (hp w1 hb))
  have HLA : Hid _ := LA
  have UQ : ∀ (x : ByteArray) w1, x.size ≤ 140737488351232 → Calls Tryd.prog 21 #[.string x] w1 fun e w' => e = .returned (.tuple #[.string ⟨(unqT x.data.toList).toArray⟩, .bool (unqB x.data.toList)]) ∧ Below w1.heap.size w1 w' := fun x w1 h => unquote_any x w1 h
  have QU : ∀ (x : ByteArray) w1, 4 * x.size + 2 ≤ 140737488355328 → Calls Tryd.prog 22 #[.string x] w1 fun e w' => e = .returned (.string ⟨(quo x.data.toList).toArray⟩) ∧ Below w1.heap.size w1 w' := fun x w1 h => quote_any x w1 h
  have HQ1 : Hid (∀ w1, Calls Tryd.prog 22 #[.string s] w1 fun e w' => e = .returned (.string ⟨(quo s.data.toList).toArray⟩) ∧ Below w1.heap.size w1 w') := fun w1 => QU s w1 (by omega)
  have HU1 : Hid (∀ w1, Calls Tryd.prog 21 #[.string ⟨(quo s.data.toList).toArray⟩] w1 fun e w' => e = .returned (.tuple #[.string s, .bool true]) ∧ Below w1.heap.size w1 w') := by
    intro w1
    have hz : (ByteArray.mk (quo s.data.toList).toArray).size ≤ 140737488351232 := by
      have h1 := quo_len s.data.toList
      have h2 : s.data.toList.length = s.size := by simp
      have h3 : (ByteArray.mk (quo s.data.toList).toArray).size = (quo s.data.toList).length := by simp [ByteArray.size]
      omega
    have := UQ ⟨(quo s.data.toList).toArray⟩ w1 hz
    rw [show (ByteArray.mk (quo s.data.toList).toArray).data.toList = quo s.data.toList by simp, (unq_quo s.data.toList).1, (unq_quo s.data.toList).2, ← mk_bytes s] at this
    exact this
  obtain ⟨U, hU⟩ : ∃ U : ByteArray, U = ⟨(unqT s.data.toList).toArray⟩ := ⟨_, rfl⟩
  have HU2 : Hid (∀ w1, Calls Tryd.prog 21 #[.string s] w1 fun e w' => e = .returned (.tuple #[.string U, .bool (unqB s.data.toList)]) ∧ Below w1.heap.size w1 w') := fun w1 => by rw [hU]; exact UQ s w1 (by omega)
  have HQ3 : Hid (unqB s.data.toList = true → ∀ w1, Calls Tryd.prog 22 #[.string U] w1 fun e w' => e = .returned (.string s) ∧ Below w1.heap.size w1 w') := by
    intro hb w1
    have h2 := quo_unq hb
    have h3 : s.data.toList.length = s.size := by simp
    have h4 : U.size = (unqT s.data.toList).length := by rw [hU]; simp [ByteArray.size]
    have := QU U w1 (by omega)
    rw [hU, show (ByteArray.mk (unqT s.data.toList).toArray).data.toList = unqT s.data.toList by simp, h2.1, ← mk_bytes s] at this
    rw [hU]
    exact this
  have HLB : Hid _ := @lay_back l
  have HL0 : Hid _ := @layRes_0 l
  have HV : Hid _ := hv
  have HK : Hid _ := hk
  have HM : Hid _ := hm
  obtain ⟨R, hR⟩ : ∃ R, R = layRes l := ⟨_, rfl⟩
  rw [← hR] at HLA HL0
  clear hR LA UQ QU hU hv hk hm hp ht
  obtain ⟨T, c⟩ := R
  generalize unqB s.data.toList = ub at *
  cases ub
  · clear HQ3
    by_cases hc : c = 0
    · subst hc
      obtain ⟨hcnt, htold, hTl⟩ := HL0.out rfl
      simp only at hTl
      subst hTl
      have hsz : (ByteArray.mk (layL l).toArray).size = (layL l).length := by simp [ByteArray.size]
      by_cases hlong : (layL l).length ≤ 65536
      · obtain ⟨M, hM, hMn⟩ := HLB.out htold hcnt hlong
        have hMl : M.length = l.length := by have := congrArg List.length hMn; simpa using this
        have HZ : Hid _ := zt_np hMn
        have T2 : ∀ w1, KeysAt w1 → MarksAt w1 → Calls Tryd.prog 8 #[.string ⟨(layL l).toArray⟩] w1 fun e w' => ∃ v, e = .returned (.tuple #[v, .agg #[.int .i64 0, .int .i64 0]]) ∧ OwnT w' (w1.heap.size + 1) v M ∧ Below w1.heap.size w1 w' := by
          intro w1 hk1 hm1
          have := tokens_any ⟨(layL l).toArray⟩ w1 (by unfold maxLen; omega) hk1 hm1
          rw [show (ByteArray.mk (layL l).toArray).data.toList = layL l by simp, hM] at this
          exact this
        have HT2 : Hid _ := T2
        have hlong' : ((ByteArray.mk (layL l).toArray).size : Int) ≤ 65536 := by omega
        clear T2 hM hMn HLB HL0
        generalize ByteArray.mk (layL l).toArray = TB at *
        go_enter Tryd.func6, Tryd.ntmps6
        go_wp2_with fail
        refine WK.mono ?_
        rintro e w1 ⟨rfl, hb1⟩
        have z1 := hb1.size
        go_wp2_with fail
        refine (HLA.out _ hb1).mono ?_
        rintro e w2 ⟨rfl, hb2⟩
        have z2 := hb2.size
        have b2 : Hid (Below w.heap.size w w2) := hb1.trans (hb2.mono (by omega))
        go_wp2_with fail
        refine (HT2.out _ (KeysAt.below HK.out b2.out) (MarksAt.below HM.out b2.out)).mono ?_
        rintro e w3 ⟨v3, rfl, ho3, hb3⟩
        have z3 := hb3.size
        have bF : Hid (Below w3.heap.size w3 (w3.alloc (.cells #[.int .i64 0, .int .i64 0] 25))) := (Below.refl _ _).alloc (Nat.le_refl _) _
        have b3 : Hid (Below w.heap.size w (w3.alloc (.cells #[.int .i64 0, .int .i64 0] 25))) := (b2.out.trans (hb3.mono (by omega))).trans (bF.out.mono (by omega))
        have o3 : Hid (OwnT (w3.alloc (.cells #[.int .i64 0, .int .i64 0] 25)) (w2.heap.size + 1) v3 M) := ho3.below bF.out
        clear ho3
        go_wp2_with fail
        refine (nowhere_row (by omega) o3.out).mono ?_
        rintro e w4 ⟨v4, rfl, ho4, hb4⟩
        have z4 := hb4.size
        simp at z4
        have b4 : Hid (Below w.heap.size w w4) := b3.out.trans (hb4.mono (by simp; omega))
        have o4 : Hid (OwnT w4 _ v4 (M.map zt)) := ho4
        clear ho4
        go_wp2_with fail
        refine (nowhere_arg (l := l) (by omega) (ArgT.below HV.out b4.out)).mono ?_
        rintro e w5 ⟨v5, rfl, ho5, hb5⟩
        have z5 := hb5.size
        have TE := tokensZ2 HZ.out (by omega) (o4.out.below hb5) ho5
        clear ho5
        go_wp2_with fail
        refine TE.mono ?_
        rintro e w6 ⟨rfl, n6, rfl⟩
        have HBB : Hid (Below w.heap.size w (w5.drewN n6)) := below_drewN (b4.out.trans (hb5.mono (by omega))) n6
        clear TE
        go_wp2_with fail
        refine (HQ1.out _).mono ?_
        rintro e w7 ⟨rfl, hb7⟩
        go_wp2_with fail
        refine (HU1.out _).mono ?_
        rintro e w8 ⟨rfl, hb8⟩
        go_wp2_with fail
        refine (HU2.out _).mono ?_
        rintro e w9 ⟨rfl, hb9⟩
        go_wp2
        go_ret
        have z7 := hb7.size
        have z8 := hb8.size
        have zb := HBB.out.size
        exact ⟨rfl, ((HBB.out.trans (hb7.mono (by omega))).trans (hb8.mono (by omega))).trans (hb9.mono (by omega))⟩
      · have hlong' : (65536 : Int) < ((ByteArray.mk (layL l).toArray).size : Int) := by omega
        clear HLB HL0
        generalize ByteArray.mk (layL l).toArray = TB at *
        go_enter Tryd.func6, Tryd.ntmps6
        go_wp2_with fail
        refine WK.mono ?_
        rintro e w1 ⟨rfl, hb1⟩
        have z1 := hb1.size
        go_wp2_with fail
        refine (HLA.out _ hb1).mono ?_
        rintro e w2 ⟨rfl, hb2⟩
        have z2 := hb2.size
        have HBB : Hid (Below w.heap.size w w2) := hb1.trans (hb2.mono (by omega))
        go_wp2_with fail
        refine (HQ1.out _).mono ?_
        rintro e w7 ⟨rfl, hb7⟩
        go_wp2_with fail
        refine (HU1.out _).mono ?_
        rintro e w8 ⟨rfl, hb8⟩
        go_wp2_with fail
        refine (HU2.out _).mono ?_
        rintro e w9 ⟨rfl, hb9⟩
        go_wp2
        go_ret
        have z7 := hb7.size
        have z8 := hb8.size
        have zb := HBB.out.size
        exact ⟨rfl, ((HBB.out.trans (hb7.mono (by omega))).trans (hb8.mono (by omega))).trans (hb9.mono (by omega))⟩
    · have hc' : (c == 0) = false := by simpa using hc
      clear HLB HL0
      go_enter Tryd.func6, Tryd.ntmps6
      go_wp2_with fail
      refine WK.mono ?_
      rintro e w1 ⟨rfl, hb1⟩
      have z1 := hb1.size
      go_wp2_with fail
      refine (HLA.out _ hb1).mono ?_
      rintro e w2 ⟨rfl, hb2⟩
      have z2 := hb2.size
      have HBB : Hid (Below w.heap.size w w2) := hb1.trans (hb2.mono (by omega))
      go_wp2_with fail
      refine (HQ1.out _).mono ?_
      rintro e w7 ⟨rfl, hb7⟩
      go_wp2_with fail
      refine (HU1.out _).mono ?_
      rintro e w8 ⟨rfl, hb8⟩
      go_wp2_with fail
      refine (HU2.out _).mono ?_
      rintro e w9 ⟨rfl, hb9⟩
      go_wp2
      go_ret
      have z7 := hb7.size
      have z8 := hb8.size
      have zb := HBB.out.size
      exact ⟨rfl, ((HBB.out.trans (hb7.mono (by omega))).trans (hb8.mono (by omega))).trans (hb9.mono (by omega))⟩
  · have HQ2 : Hid _ := HQ3.out rfl
    clear HQ3
    by_cases hc : c = 0
    · subst hc
      obtain ⟨hcnt, htold, hTl⟩ := HL0.out rfl
      simp only at hTl
      subst hTl
      have hsz : (ByteArray.mk (layL l).toArray).size = (layL l).length := by simp [ByteArray.size]
      by_cases hlong : (layL l).length ≤ 65536
      · obtain ⟨M, hM, hMn⟩ := HLB.out htold hcnt hlong
        have hMl : M.length = l.length := by have := congrArg List.length hMn; simpa using this
        have HZ : Hid _ := zt_np hMn
        have T2 : ∀ w1, KeysAt w1 → MarksAt w1 → Calls Tryd.prog 8 #[.string ⟨(layL l).toArray⟩] w1 fun e w' => ∃ v, e = .returned (.tuple #[v, .agg #[.int .i64 0, .int .i64 0]]) ∧ OwnT w' (w1.heap.size + 1) v M ∧ Below w1.heap.size w1 w' := by
          intro w1 hk1 hm1
          have := tokens_any ⟨(layL l).toArray⟩ w1 (by unfold maxLen; omega) hk1 hm1
          rw [show (ByteArray.mk (layL l).toArray).data.toList = layL l by simp, hM] at this
          exact this
        have HT2 : Hid _ := T2
        have hlong' : ((ByteArray.mk (layL l).toArray).size : Int) ≤ 65536 := by omega
        clear T2 hM hMn HLB HL0
        generalize ByteArray.mk (layL l).toArray = TB at *
        go_enter Tryd.func6, Tryd.ntmps6
        go_wp2_with fail
        refine WK.mono ?_
        rintro e w1 ⟨rfl, hb1⟩
        have z1 := hb1.size
        go_wp2_with fail
        refine (HLA.out _ hb1).mono ?_
        rintro e w2 ⟨rfl, hb2⟩
        have z2 := hb2.size
        have b2 : Hid (Below w.heap.size w w2) := hb1.trans (hb2.mono (by omega))
        go_wp2_with fail
        refine (HT2.out _ (KeysAt.below HK.out b2.out) (MarksAt.below HM.out b2.out)).mono ?_
        rintro e w3 ⟨v3, rfl, ho3, hb3⟩
        have z3 := hb3.size
        have bF : Hid (Below w3.heap.size w3 (w3.alloc (.cells #[.int .i64 0, .int .i64 0] 25))) := (Below.refl _ _).alloc (Nat.le_refl _) _
        have b3 : Hid (Below w.heap.size w (w3.alloc (.cells #[.int .i64 0, .int .i64 0] 25))) := (b2.out.trans (hb3.mono (by omega))).trans (bF.out.mono (by omega))
        have o3 : Hid (OwnT (w3.alloc (.cells #[.int .i64 0, .int .i64 0] 25)) (w2.heap.size + 1) v3 M) := ho3.below bF.out
        clear ho3
        go_wp2_with fail
        refine (nowhere_row (by omega) o3.out).mono ?_
        rintro e w4 ⟨v4, rfl, ho4, hb4⟩
        have z4 := hb4.size
        simp at z4
        have b4 : Hid (Below w.heap.size w w4) := b3.out.trans (hb4.mono (by simp; omega))
        have o4 : Hid (OwnT w4 _ v4 (M.map zt)) := ho4
        clear ho4
        go_wp2_with fail
        refine (nowhere_arg (l := l) (by omega) (ArgT.below HV.out b4.out)).mono ?_
        rintro e w5 ⟨v5, rfl, ho5, hb5⟩
        have z5 := hb5.size
        have TE := tokensZ2 HZ.out (by omega) (o4.out.below hb5) ho5
        clear ho5
        go_wp2_with fail
        refine TE.mono ?_
        rintro e w6 ⟨rfl, n6, rfl⟩
        have HBB : Hid (Below w.heap.size w (w5.drewN n6)) := below_drewN (b4.out.trans (hb5.mono (by omega))) n6
        clear TE
        go_wp2_with fail
        refine (HQ1.out _).mono ?_
        rintro e w7 ⟨rfl, hb7⟩
        go_wp2_with fail
        refine (HU1.out _).mono ?_
        rintro e w8 ⟨rfl, hb8⟩
        go_wp2_with fail
        refine (HU2.out _).mono ?_
        rintro e w9 ⟨rfl, hb9⟩
        go_wp2_with fail
        refine (HQ2.out _).mono ?_
        rintro e w10 ⟨rfl, hb10⟩
        go_wp2
        go_ret
        have z7 := hb7.size
        have z8 := hb8.size
        have z9 := hb9.size
        have zb := HBB.out.size
        exact ⟨rfl, (((HBB.out.trans (hb7.mono (by omega))).trans (hb8.mono (by omega))).trans (hb9.mono (by omega))).trans (hb10.mono (by omega))⟩
      · have hlong' : (65536 : Int) < ((ByteArray.mk (layL l).toArray).size : Int) := by omega
        clear HLB HL0
        generalize ByteArray.mk (layL l).toArray = TB at *
        go_enter Tryd.func6, Tryd.ntmps6
        go_wp2_with fail
        refine WK.mono ?_
        rintro e w1 ⟨rfl, hb1⟩
        have z1 := hb1.size
        go_wp2_with fail
        refine (HLA.out _ hb1).mono ?_
        rintro e w2 ⟨rfl, hb2⟩
        have z2 := hb2.size
        have HBB : Hid (Below w.heap.size w w2) := hb1.trans (hb2.mono (by omega))
        go_wp2_with fail
        refine (HQ1.out _).mono ?_
        rintro e w7 ⟨rfl, hb7⟩
        go_wp2_with fail
        refine (HU1.out _).mono ?_
        rintro e w8 ⟨rfl, hb8⟩
        go_wp2_with fail
        refine (HU2.out _).mono ?_
        rintro e w9 ⟨rfl, hb9⟩
        go_wp2_with fail
        refine (HQ2.out _).mono ?_
        rintro e w10 ⟨rfl, hb10⟩
        go_wp2
        go_ret
        have z7 := hb7.size
        have z8 := hb8.size
        have z9 := hb9.size
        have zb := HBB.out.size
        exact ⟨rfl, (((HBB.out.trans (hb7.mono (by omega))).trans (hb8.mono (by omega))).trans (hb9.mono (by omega))).trans (hb10.mono (by omega))⟩
    · have hc' : (c == 0) = false := by simpa using hc
      clear HLB HL0
      go_enter Tryd.func6, Tryd.ntmps6
      go_wp2_with fail
      refine WK.mono ?_
      rintro e w1 ⟨rfl, hb1⟩
      have z1 := hb1.size
      go_wp2_with fail
      refine (HLA.out _ hb1).mono ?_
      rintro e w2 ⟨rfl, hb2⟩
      have z2 := hb2.size
      have HBB : Hid (Below w.heap.size w w2) := hb1.trans (hb2.mono (by omega))
      go_wp2_with fail
      refine (HQ1.out _).mono ?_
      rintro e w7 ⟨rfl, hb7⟩
      go_wp2_with fail
      refine (HU1.out _).mono ?_
      rintro e w8 ⟨rfl, hb8⟩
      go_wp2_with fail
      refine (HU2.out _).mono ?_
      rintro e w9 ⟨rfl, hb9⟩
      go_wp2_with fail
      refine (HQ2.out _).mono ?_
      rintro e w10 ⟨rfl, hb10⟩
      go_wp2
      go_ret
      have z7 := hb7.size
      have z8 := hb8.size
      have z9 := hb9.size
      have zb := HBB.out.size
      exact ⟨rfl, (((HBB.out.trans (hb7.mono (by omega))).trans (hb8.mono (by omega))).trans (hb9.mono (by omega))).trans (hb10.mono (by omega))⟩
end Go.Proofs.YthckmpjokabkcaaDoor
