/- The walk of the law LexBegins: it answers true for every text and number, the keywords and the marks lying in their variables. -/
import Derived.Test.YthckmpjokabkcabDoorWorks
import Derived.Test.YthckmpjokabkcabDoorTake
namespace Go.Proofs.YthckmpjokabkcabDoor
open Go.RowKit

theorem tkRes_fault (l : List UInt8) : ((tkRes l).2.1 = 0 ∧ (tkRes l).2.2 = 0) ∨ ((tkRes l).2.2 ≠ 0 ∧ (tkRes l).1 = []) := by
  unfold tkRes
  split
  · exact Or.inr ⟨by simp, rfl⟩
  · split
    · rename_i h; exact Or.inr ⟨h, rfl⟩
    · exact Or.inl ⟨rfl, rfl⟩
theorem tkRes_pos {l : List UInt8} {t : Tok} (h : t ∈ (tkRes l).1) : 0 ≤ t.pos ∧ t.pos < (l.length : Int) := by
  unfold tkRes at h
  split at h
  · simp at h
  · split at h
    · simp at h
    · have := tkGo_pos l _ _ _ t h; omega
theorem OwnT.cap {w : World} {base g cap : Nat} {l : List Tok} (h : OwnT w base (.slice (some ⟨g, 0, none⟩) l.length cap) l) : l.length ≤ cap := by
  rcases h.2 with ⟨h1, _⟩ | ⟨g', cap', cur, h1, _, _, h2, _⟩
  · cases h1
  · simp only [Value.slice.injEq, Option.some.injEq, Addr.mk.injEq, and_true, true_and] at h1
    omega
theorem TokAt.take {w : World} {g o : Nat} {l : List Tok} (h : TokAt w g o l) (k : Nat) : TokAt w g o (l.take k) := by
  intro j hj
  have hj2 : j < l.length := by simp at hj; omega
  have e : (l.take k)[j] = l[j] := by simp
  rw [e]; exact h j hj2

theorem idx_of (n : Int) (m : Nat) (hm : 0 < m) : ∃ k : Nat, (IntKind.u64.wrap n).tmod (m : Int) = (k : Int) ∧ k < m := by
  have h0 : 0 ≤ IntKind.u64.wrap n := by simp [IntKind.wrap, IntKind.signed, IntKind.bits]; omega
  refine ⟨((IntKind.u64.wrap n).tmod (m : Int)).toNat, ?_, ?_⟩
  · have : 0 ≤ (IntKind.u64.wrap n).tmod (m : Int) := Int.tmod_nonneg _ h0
    omega
  · have : (IntKind.u64.wrap n).tmod (m : Int) < (m : Int) := Int.tmod_lt_of_pos _ (by omega)
    omega

set_option maxRecDepth 100000 in
set_option maxHeartbeats 8000000 in
theorem lexBegins_any (s : ByteArray) (n : Int) (w : World) (hmax : s.size ≤ maxLen) (hk : KeysAt w) (hm : MarksAt w) :
    Calls Tryd.prog 3 #[.string s, .int .i64 n] w fun e w' => e = .returned (.bool true) ∧ Below w.heap.size w w' := by
  have WK := works_any w hk hm
  have TA := fun w1 hk1 hm1 => tokens_any s w1 hmax hk1 hm1
  have HTA : Hid _ := TA
  have HK : Hid _ := hk
  have HM : Hid _ := hm
  have HF : Hid _ := tkRes_fault s.data.toList
  have HP : Hid _ := @tkRes_pos s.data.toList
  have HTK : Hid _ := @tkRes_take s.data.toList
  have hlen := tkRes_len s.data.toList
  obtain ⟨X, hX⟩ : ∃ X, X = tkRes s.data.toList := ⟨_, rfl⟩
  rw [← hX] at HTA HF HP HTK hlen
  clear hX TA hk hm
  obtain ⟨L, fa, fc⟩ := X
  simp only at HTA HF HP HTK hlen
  go_enter Tryd.func3, Tryd.ntmps3
  go_wp2_with fail
  refine WK.mono ?_
  rintro e w1 ⟨rfl, hb1⟩
  clear WK
  have hz1 := hb1.size
  go_wp2_with fail
  refine (HTA.out _ (KeysAt.below HK.out hb1) (MarksAt.below HM.out hb1)).mono ?_
  rintro e w2 ⟨v2, rfl, ho2, hb2⟩
  have hz2 := hb2.size
  have bel2 : Hid (Below w.heap.size w w2) := hb1.trans (hb2.mono (by omega))
  rcases HF.out with ⟨f0, f1⟩ | ⟨f1, f2⟩
  · subst f0 f1
    by_cases hne : L = []
    · subst hne
      obtain ⟨a2, c2, rfl⟩ := ho2.form
      clear HTK HP HTA
      go_wp2
      go_ret
      exact ⟨rfl, bel2.out.alloc (by omega) _⟩
    · obtain ⟨g2, c2, rfl, hg2, hg2'⟩ := ho2.block hne
      have hl0 : 0 < L.length := by
        rcases Nat.eq_zero_or_pos L.length with h | h
        · exact absurd (List.length_eq_zero_iff.1 h) hne
        · exact h
      have t2 : Hid (TokAt w2 g2 0 L) := ho2.at
      have hlb : ((L.length : Int) == 0) = false := by simp; omega
      have hcap := ho2.cap
      obtain ⟨k, hk0, hkl⟩ : ∃ k : Nat, (IntKind.u64.wrap n).tmod (L.length : Int) = (k : Int) ∧ k < L.length := idx_of n L.length hl0
      have hkl' : (k : Int) < (L.length : Int) := by omega
      have hkc : (k : Int) ≤ (c2 : Int) := by omega
      obtain ⟨hp0, hp1⟩ := HP.out (List.getElem_mem hkl)
      obtain ⟨q, hq⟩ : ∃ q : Nat, L[k].pos = (q : Int) := ⟨L[k].pos.toNat, by omega⟩
      have hsl : s.data.toList.length = s.size := by simp
      have hqs : q < s.size := by omega
      have HRES := HTK.out rfl hkl hq (by omega)
      have a1 : w2.cell? ⟨g2, k * 4 + 1, none⟩ = some (.int .i64 (q : Int)) := by
        have := (t2.out k hkl).2.1
        rw [hq] at this
        simpa using this
      have hex : (s.extract 0 q).data.toList = s.data.toList.take q := by rw [extract_toList]; simp
      have hes : (s.extract 0 q).size ≤ maxLen := by rw [ByteArray.size_extract]; unfold maxLen at hmax ⊢; omega
      have T2 : ∀ w1, KeysAt w1 → MarksAt w1 → Calls Tryd.prog 5 #[.string (s.extract 0 q)] w1 fun e w' => ∃ v, e = .returned (.tuple #[v, .agg #[.int .i64 0, .int .i64 0]]) ∧ OwnT w' (w1.heap.size + 1) v (L.take k) ∧ Below w1.heap.size w1 w' := by
        intro w1 hk1 hm1
        have := tokens_any (s.extract 0 q) w1 hes hk1 hm1
        rw [hex, HRES] at this
        exact this
      have HT2 : Hid _ := T2
      have hbF : Below w2.heap.size w2 (w2.alloc (.cells #[.int .i64 0, .int .i64 0] 26)) := (Below.refl _ _).alloc (Nat.le_refl _) _
      have i3 : (q : Int) ≤ (s.size : Int) := by omega
      clear hne T2 HRES hex hes HTK HP hq hp0 hp1 HTA
      go_wp2_with fail
      refine (HT2.out _ (KeysAt.below HK.out (bel2.out.trans (hbF.mono (by omega)))) (MarksAt.below HM.out (bel2.out.trans (hbF.mono (by omega))))).mono ?_
      rintro e w5 ⟨v5, rfl, ho5, hb5⟩
      have hz5 := hb5.size
      simp at hz5
      have q0 := (oldCells hb5).1 w2.heap.size 0 (by simp)
      have q1 := (oldCells hb5).1 w2.heap.size 1 (by simp)
      have q2 := (oldCells hb5).2 w2.heap.size 0 (by simp)
      have q3 := (oldCells hb5).2 w2.heap.size 1 (by simp)
      have t5 : Hid (TokAt w5 g2 0 (L.take k)) := ((t2.out.below hbF hg2').below hb5 (by simp; omega)).take k
      have hlk : (L.take k).length = k := by simp; omega
      clear a1
      by_cases hk00 : k = 0
      · subst hk00
        obtain ⟨a5, c5, rfl⟩ := ho5.form
        rw [hlk]
        go_wp2_with fail
        refine (tokensNil_any _ _ _ _ _).mono ?_
        rintro e w6 ⟨rfl, rfl⟩
        go_wp2
        go_ret
        exact ⟨rfl, (((bel2.out.trans (hbF.mono (by omega))).trans (hb5.mono (by simp; omega))).setCell (by simp; omega) _).setCell (by simp; omega) _⟩
      · obtain ⟨g5, c5, rfl, hg5, hg5'⟩ := ho5.block (by intro h; rw [h] at hlk; simp at hlk; omega)
        simp at hg5
        have t6 : Hid (TokAt w5 g5 0 (L.take k)) := ho5.at
        rw [hlk]
        have n5 : w2.heap.size ≠ g5 := by omega
        have n2 : w2.heap.size ≠ g2 := by omega
        have TE := fun (u0 u1 : Value) => tokensEq_any (L.take k) g5 0 c5 g2 0 c2 ((w5.setCell ⟨w2.heap.size, 0, none⟩ u0).setCell ⟨w2.heap.size, 1, none⟩ u1) (by omega) ((t6.out.setCell n5 _).setCell n5 _) ((t5.out.setCell n2 _).setCell n2 _)
        rw [hlk] at TE
        have HTE : Hid _ := TE
        clear TE
        go_wp2_with fail
        refine (HTE.out _ _).mono ?_
        rintro e w6 ⟨rfl, n6, rfl⟩
        go_wp2
        go_ret
        exact ⟨rfl, below_drewN ((((bel2.out.trans (hbF.mono (by omega))).trans (hb5.mono (by simp; omega))).setCell (by simp; omega) _).setCell (by simp; omega) _) n6⟩
  · subst f2
    obtain ⟨a2, c2, rfl⟩ := ho2.form
    have f1' : (fc == 0) = false := by simpa using f1
    clear HTK HP HTA
    go_wp2
    go_ret
    exact ⟨rfl, bel2.out.alloc (by omega) _⟩
end Go.Proofs.YthckmpjokabkcabDoor
