/- Failures: the reference's reader: parse for all, Parse. -/
import Derived.Test.YtaleagkhblokgaaDoorNx5
namespace Go.Proofs.YtaleagkhblokgaaDoor
open Go.RowKit

theorem ne_k {H : ByteArray} {W : List UInt8} (h : kOf H.data.toList ≠ kOf W) : (H.toList == W) = false := by
  rw [beq_eq_false_iff_ne, ByteArray.toList_eq]
  exact fun e => h (by rw [e])
theorem litH {H lit : ByteArray} {j : Int} (e : kOf H.data.toList = j) (hw : (frow (kOf H.data.toList)).word.data.toList = H.data.toList) (hl : (frow j).word.data.toList = lit.data.toList) : H = lit := bytes_ext (by rw [← hw, e, hl])
/-- Its texts are short. -/
def Tz (T : RpT) : Prop := ∀ s l r, T s = some (l, r) → ∀ c ∈ l, c.text.size ≤ s.length
theorem quo_ge : ∀ t : List UInt8, t.length ≤ (t.flatMap qB).length
  | [] => by simp
  | c :: r => by have := quo_ge r; have := qB_len1 c; simp only [List.flatMap_cons, List.length_append, List.length_cons]; omega
theorem rpt_size {s : List UInt8} {t : ByteArray} {r : List UInt8} (h : rpt s = some (t, r)) : t.size ≤ s.length := by
  have h1 := congrArg List.length (rpt_back h)
  have h2 := quo_ge t.data.toList
  rw [bsz] at h2
  unfold quo at h1
  simp only [List.length_append, List.length_singleton] at h1
  omega
theorem word_size (q : List UInt8) (n : Nat) : (⟨(q.take n).toArray⟩ : ByteArray).size ≤ q.length := by
  show (q.take n).toArray.size ≤ _
  simp; omega
theorem empty_size : ByteArray.empty.size = 0 := rfl
theorem rpL_size {T : RpT} (hT : Tz T) (hL : Ln T) : ∀ (m : Nat) (out : List Cr) (n : Nat) (s : List UInt8) (l : List Cr) (r : List UInt8) (B : Nat), s.length ≤ B → (∀ c ∈ out, c.text.size ≤ B) → rpL T m out n s = some (l, r) → ∀ c ∈ l, c.text.size ≤ B
  | 0, out, n, s, l, r, B, _, _, h => by rw [rpL] at h; cases h
  | m + 1, out, n, s, l, r, B, hs, ho, h => by
    rw [rpL] at h
    split at h
    · obtain ⟨⟨l1, r1⟩, hy, h⟩ := Option.bind_eq_some_iff.1 h
      have h0 := hT _ _ _ hy
      have h00 := hL _ _ _ hy
      have ho2 : ∀ c ∈ out ++ l1, c.text.size ≤ B := fun c hc => by
        rcases List.mem_append.1 hc with hc | hc
        · exact ho c hc
        · exact Nat.le_trans (h0 c hc) hs
      dsimp only at h
      cases h1 : strip [41] r1 with
      | some u =>
        rw [h1] at h
        injection h with h; injection h with h2 h3
        subst h2 h3
        intro c hc
        rcases List.mem_append.1 hc with hc | hc
        · exact ho2 c hc
        · rw [List.mem_singleton.1 hc]; exact Nat.zero_le _
      | none =>
        rw [h1] at h
        dsimp only at h
        cases h2 : strip [59, 32] r1 with
        | none => rw [h2] at h; cases h
        | some u =>
          rw [h2] at h
          have := strip_len h2
          exact rpL_size hT hL m _ _ _ _ _ B (by simp at this; omega) ho2 h
    · cases h
theorem rpR_size {T : RpT} (hT : Tz T) {k : Int} {q : List UInt8} {l : List Cr} {r : List UInt8} (h : rpR T k q = some (l, r)) : ∀ c ∈ l, c.text.size ≤ q.length := by
  unfold rpR at h
  split at h
  · obtain ⟨⟨t, u⟩, hz, h⟩ := Option.map_eq_some_iff.1 h
    injection h with h1 h2
    subst h1 h2
    intro c hc
    rw [List.mem_singleton.1 hc]; exact rpt_size hz
  · split at h
    · injection h with h; injection h with h1 h2
      subst h1 h2
      intro c hc
      rw [List.mem_singleton.1 hc]; exact word_size _ _
    · split at h
      · obtain ⟨⟨t, u⟩, hz, g⟩ := Option.bind_eq_some_iff.1 h
        have h0 := rpt_size hz
        have h00 := rpt_len hz
        try dsimp only at g
        cases hs : strip [58, 32] u with
        | none =>
          rw [hs] at g
          injection g with g; injection g with h1 h2
          subst h1 h2
          intro c hc
          rw [List.mem_singleton.1 hc]; exact h0
        | some v =>
          rw [hs] at g
          obtain ⟨⟨l1, r1⟩, hy, g⟩ := Option.map_eq_some_iff.1 g
          injection g with h1 h2
          subst h1 h2
          have h4 := strip_len hs
          intro c hc
          rcases List.mem_append.1 hc with hc | hc
          · have := hT _ _ _ hy c hc; omega
          · rw [List.mem_singleton.1 hc]; exact h0
      · split at h
        · obtain ⟨u, hs, g⟩ := Option.bind_eq_some_iff.1 h
          obtain ⟨⟨l1, r1⟩, hy, g⟩ := Option.map_eq_some_iff.1 g
          injection g with h1 h2
          subst h1 h2
          have h4 := strip_len hs
          rw [List.length_drop] at h4
          intro c hc
          rcases List.mem_append.1 hc with hc | hc
          · have := hT _ _ _ hy c hc; omega
          · rw [List.mem_singleton.1 hc]; exact word_size _ _
        · cases h
theorem rp_size : ∀ (f : Nat), Tz (rp f)
  | 0, s, l, r, h => by rw [rp] at h; cases h
  | f + 1, s, l, r, h => by
    rw [rp] at h
    unfold rpK at h
    split at h
    · injection h with h; injection h with h1 h2
      subst h1 h2
      intro c hc
      rw [List.mem_singleton.1 hc]; exact Nat.zero_le _
    · split at h
      · unfold rpJ at h
        obtain ⟨u, hu, h⟩ := Option.bind_eq_some_iff.1 h
        have h4 := strip_len hu
        rw [List.length_drop] at h4
        exact rpL_size (rp_size f) (rp_len f) _ _ _ _ _ _ _ (by omega) (fun c hc => by cases hc) h
      · obtain ⟨q, hq, h⟩ := Option.bind_eq_some_iff.1 h
        have h4 := strip_len hq
        rw [List.length_drop] at h4
        intro c hc
        have := rpR_size (rp_size f) h c hc
        omega
set_option maxHeartbeats 4000000 in
set_option maxRecDepth 100000 in
theorem rparse_zero (s : ByteArray) (a : Nat) (w : World) : Calls Tryd.prog 51 #[.string s, .int .i64 a, .int .i64 1025] w fun e w' => PO (rp 0 (s.data.toList.drop a)) s (0 + 1) w e w' := by
  have HF : Hid (rp 0 (s.data.toList.drop a) = none) := by show _ = _; rw [rp]
  go_enter Tryd.func51, Tryd.ntmps51
  go_wp2_with fail
  go_ret3
  exact PO.no (Below.refl _ _) HF.out
theorem rparse_all (s : ByteArray) (hs : s.size ≤ 65536) : ∀ (f : Nat), f ≤ 1025 → ∀ (a : Nat) (d : Int) (w : World), a ≤ s.size → d + f = 1025 → Calls Tryd.prog 51 #[.string s, .int .i64 a, .int .i64 d] w fun e w' => PO (rp f (s.data.toList.drop a)) s (f + 1) w e w'
  | 0, _, a, d, w, _, hd => by
    obtain rfl : d = 1025 := by simpa using hd
    exact rparse_zero s a w
  | f + 1, hf, a, d, w, ha, hd => by
    have PA := rparse_all s hs f (by omega)
    have hsl := bsz s
    have WD := rword_any s a w ha (by omega)
    obtain ⟨n1, hn1⟩ : ∃ n1, n1 = ptLen (s.data.toList.drop a) := ⟨_, rfl⟩
    have hpl := ptLen_le (s.data.toList.drop a)
    rw [← hn1, List.length_drop, hsl] at hpl
    rw [← hn1] at WD
    have hHd := ext_mid s a n1
    obtain ⟨H, hH0⟩ : ∃ H, H = s.extract a (a + n1) := ⟨_, rfl⟩
    rw [← hH0] at WD hHd
    obtain ⟨b, hb0⟩ : ∃ b, b = a + n1 := ⟨_, rfl⟩
    rw [← hb0] at WD
    have hb : b ≤ s.size := by omega
    obtain ⟨A, hA⟩ : ∃ A, A = rp (f + 1) (s.data.toList.drop a) := ⟨_, rfl⟩
    rw [← hA]
    rw [rp, ← hn1, ← hHd, List.drop_drop, ← hb0] at hA
    have hHl := congrArg List.length hHd
    rw [List.length_take] at hHl
    rcases kOf_cases H.data.toList with h0 | ⟨hk, hw⟩
    · rw [h0] at hA
      by_cases hlt : b < s.size
      · by_cases hsp : (s[b].toNat : Int) = 32
        · refine rparse_k0 s f hs (by omega) H b a d w ha hd WD hb A (ne_k (by rw [h0]; decide)) (ne_k (by rw [h0]; decide)) (ne_k (by rw [h0]; decide)) (ne_k (by rw [h0]; decide)) (ne_k (by rw [h0]; decide)) (ne_k (by rw [h0]; decide)) (ne_k (by rw [h0]; decide)) (ne_k (by rw [h0]; decide)) (ne_k (by rw [h0]; decide)) (ne_k (by rw [h0]; decide)) (ne_k (by rw [h0]; decide)) hlt hsp ?_
          have hR : s.data.toList.drop b = 32 :: s.data.toList.drop (b + 1) := by rw [drop_cons' s b hlt, u8_eq (n := 32) (by omega) hsp]; rfl
          rw [hA, rpK_R _ (by decide) (by decide) hR]; unfold rpR; rw [if_neg (by decide), if_neg (by decide), if_neg (by decide), if_neg (by decide)]
        · refine rparse_nosp s f hs (by omega) H b a d w ha hd WD hb A (ne_k (by rw [h0]; decide)) (ne_k (by rw [h0]; decide)) (ne_k (by rw [h0]; decide)) (ne_k (by rw [h0]; decide)) hlt hsp ?_
          rw [hA]; refine rpK_no _ (by decide) (by decide) ?_
          rw [drop_cons' s b hlt]; simp only [List.head?_cons]; intro h; injection h with h; exact hsp (by rw [h]; rfl)
      · refine rparse_end s f hs (by omega) H b a d w ha hd WD hb A (ne_k (by rw [h0]; decide)) (ne_k (by rw [h0]; decide)) (ne_k (by rw [h0]; decide)) (ne_k (by rw [h0]; decide)) (by omega) ?_
        rw [hA]; refine rpK_no _ (by decide) (by decide) ?_
        rw [List.drop_of_length_le (by omega)]; simp
    · rcases isK_cases hk with e | e | e | e | e | e | e | e | e | e | e
      · have hH : H = ⟨#[102, 97, 105, 108]⟩ := litH e hw (by decide)
        have hb1 : 1 ≤ b := by
          have : H.data.toList.length = 4 := by rw [hH]; rfl
          omega
        rw [e] at hA
        by_cases hlt : b < s.size
        · by_cases hsp : (s[b].toNat : Int) = 32
          · exact rparse_k1 s f hs (by omega) H b a d w ha hd WD hb hb1 A hH hlt hsp hA
          · refine rparse_nosp s f hs (by omega) H b a d w ha hd WD hb A (ne_k (by rw [e]; decide)) (ne_k (by rw [e]; decide)) (ne_k (by rw [e]; decide)) (ne_k (by rw [e]; decide)) hlt hsp ?_
            rw [hA]; refine rpK_no _ (by decide) (by decide) ?_
            rw [drop_cons' s b hlt]; simp only [List.head?_cons]; intro h; injection h with h; exact hsp (by rw [h]; rfl)
        · refine rparse_end s f hs (by omega) H b a d w ha hd WD hb A (ne_k (by rw [e]; decide)) (ne_k (by rw [e]; decide)) (ne_k (by rw [e]; decide)) (ne_k (by rw [e]; decide)) (by omega) ?_
          rw [hA]; refine rpK_no _ (by decide) (by decide) ?_
          rw [List.drop_of_length_le (by omega)]; simp
      · have hH : H = ⟨#[112, 97, 110, 105, 99]⟩ := litH e hw (by decide)
        have hb1 : 1 ≤ b := by
          have : H.data.toList.length = 5 := by rw [hH]; rfl
          omega
        rw [e] at hA
        by_cases hlt : b < s.size
        · by_cases hsp : (s[b].toNat : Int) = 32
          · exact rparse_k2 s f hs (by omega) H b a d w ha hd WD hb hb1 A hH hlt hsp hA
          · refine rparse_nosp s f hs (by omega) H b a d w ha hd WD hb A (ne_k (by rw [e]; decide)) (ne_k (by rw [e]; decide)) (ne_k (by rw [e]; decide)) (ne_k (by rw [e]; decide)) hlt hsp ?_
            rw [hA]; refine rpK_no _ (by decide) (by decide) ?_
            rw [drop_cons' s b hlt]; simp only [List.head?_cons]; intro h; injection h with h; exact hsp (by rw [h]; rfl)
        · refine rparse_end s f hs (by omega) H b a d w ha hd WD hb A (ne_k (by rw [e]; decide)) (ne_k (by rw [e]; decide)) (ne_k (by rw [e]; decide)) (ne_k (by rw [e]; decide)) (by omega) ?_
          rw [hA]; refine rpK_no _ (by decide) (by decide) ?_
          rw [List.drop_of_length_le (by omega)]; simp
      · have hH : H = ⟨#[118, 97, 108, 117, 101]⟩ := litH e hw (by decide)
        have hb1 : 1 ≤ b := by
          have : H.data.toList.length = 5 := by rw [hH]; rfl
          omega
        rw [e] at hA
        by_cases hlt : b < s.size
        · by_cases hsp : (s[b].toNat : Int) = 32
          · exact rparse_k3 s f hs (by omega) H b a d w ha hd WD hb hb1 A hH hlt hsp hA
          · refine rparse_nosp s f hs (by omega) H b a d w ha hd WD hb A (ne_k (by rw [e]; decide)) (ne_k (by rw [e]; decide)) (ne_k (by rw [e]; decide)) (ne_k (by rw [e]; decide)) hlt hsp ?_
            rw [hA]; refine rpK_no _ (by decide) (by decide) ?_
            rw [drop_cons' s b hlt]; simp only [List.head?_cons]; intro h; injection h with h; exact hsp (by rw [h]; rfl)
        · refine rparse_end s f hs (by omega) H b a d w ha hd WD hb A (ne_k (by rw [e]; decide)) (ne_k (by rw [e]; decide)) (ne_k (by rw [e]; decide)) (ne_k (by rw [e]; decide)) (by omega) ?_
          rw [hA]; refine rpK_no _ (by decide) (by decide) ?_
          rw [List.drop_of_length_le (by omega)]; simp
      · have hH : H = ⟨#[110, 111, 110, 101]⟩ := litH e hw (by decide)
        have hb1 : 1 ≤ b := by
          have : H.data.toList.length = 4 := by rw [hH]; rfl
          omega
        rw [e] at hA
        by_cases hlt : b < s.size
        · by_cases hsp : (s[b].toNat : Int) = 32
          · exact rparse_k4 s f hs (by omega) H b a d w ha hd WD hb hb1 A hH hlt hsp hA
          · refine rparse_nosp s f hs (by omega) H b a d w ha hd WD hb A (ne_k (by rw [e]; decide)) (ne_k (by rw [e]; decide)) (ne_k (by rw [e]; decide)) (ne_k (by rw [e]; decide)) hlt hsp ?_
            rw [hA]; refine rpK_no _ (by decide) (by decide) ?_
            rw [drop_cons' s b hlt]; simp only [List.head?_cons]; intro h; injection h with h; exact hsp (by rw [h]; rfl)
        · refine rparse_end s f hs (by omega) H b a d w ha hd WD hb A (ne_k (by rw [e]; decide)) (ne_k (by rw [e]; decide)) (ne_k (by rw [e]; decide)) (ne_k (by rw [e]; decide)) (by omega) ?_
          rw [hA]; refine rpK_no _ (by decide) (by decide) ?_
          rw [List.drop_of_length_le (by omega)]; simp
      · have hH : H = ⟨#[99, 121, 99, 108, 101]⟩ := litH e hw (by decide)
        have hb1 : 1 ≤ b := by
          have : H.data.toList.length = 5 := by rw [hH]; rfl
          omega
        rw [e] at hA
        by_cases hlt : b < s.size
        · by_cases hsp : (s[b].toNat : Int) = 32
          · exact rparse_k5 s f hs (by omega) H b a d w ha hd WD hb hb1 A hH hlt hsp hA
          · refine rparse_nosp s f hs (by omega) H b a d w ha hd WD hb A (ne_k (by rw [e]; decide)) (ne_k (by rw [e]; decide)) (ne_k (by rw [e]; decide)) (ne_k (by rw [e]; decide)) hlt hsp ?_
            rw [hA]; refine rpK_no _ (by decide) (by decide) ?_
            rw [drop_cons' s b hlt]; simp only [List.head?_cons]; intro h; injection h with h; exact hsp (by rw [h]; rfl)
        · refine rparse_end s f hs (by omega) H b a d w ha hd WD hb A (ne_k (by rw [e]; decide)) (ne_k (by rw [e]; decide)) (ne_k (by rw [e]; decide)) (ne_k (by rw [e]; decide)) (by omega) ?_
          rw [hA]; refine rpK_no _ (by decide) (by decide) ?_
          rw [List.drop_of_length_le (by omega)]; simp
      · have hH : H = ⟨#[100, 101, 112, 116, 104]⟩ := litH e hw (by decide)
        have hb1 : 1 ≤ b := by
          have : H.data.toList.length = 5 := by rw [hH]; rfl
          omega
        rw [e] at hA
        exact rparse_k6 s f hs (by omega) H b a d w ha hd WD hb hb1 A hH hA
      · have hH : H = ⟨#[99, 108, 111, 115, 101, 100]⟩ := litH e hw (by decide)
        have hb1 : 1 ≤ b := by
          have : H.data.toList.length = 6 := by rw [hH]; rfl
          omega
        rw [e] at hA
        exact rparse_k7 s f hs (by omega) H b a d w ha hd WD hb hb1 A hH hA
      · have hH : H = ⟨#[116, 111, 107, 101, 110]⟩ := litH e hw (by decide)
        have hb1 : 1 ≤ b := by
          have : H.data.toList.length = 5 := by rw [hH]; rfl
          omega
        rw [e] at hA
        by_cases hlt : b < s.size
        · by_cases hsp : (s[b].toNat : Int) = 32
          · exact rparse_k8 s f hs (by omega) H b a d w ha hd WD hb hb1 A hH hlt hsp PA hA
          · refine rparse_nosp s f hs (by omega) H b a d w ha hd WD hb A (ne_k (by rw [e]; decide)) (ne_k (by rw [e]; decide)) (ne_k (by rw [e]; decide)) (ne_k (by rw [e]; decide)) hlt hsp ?_
            rw [hA]; refine rpK_no _ (by decide) (by decide) ?_
            rw [drop_cons' s b hlt]; simp only [List.head?_cons]; intro h; injection h with h; exact hsp (by rw [h]; rfl)
        · refine rparse_end s f hs (by omega) H b a d w ha hd WD hb A (ne_k (by rw [e]; decide)) (ne_k (by rw [e]; decide)) (ne_k (by rw [e]; decide)) (ne_k (by rw [e]; decide)) (by omega) ?_
          rw [hA]; refine rpK_no _ (by decide) (by decide) ?_
          rw [List.drop_of_length_le (by omega)]; simp
      · have hH : H = ⟨#[99, 101, 108, 108]⟩ := litH e hw (by decide)
        have hb1 : 1 ≤ b := by
          have : H.data.toList.length = 4 := by rw [hH]; rfl
          omega
        rw [e] at hA
        by_cases hlt : b < s.size
        · by_cases hsp : (s[b].toNat : Int) = 32
          · exact rparse_k9 s f hs (by omega) H b a d w ha hd WD hb hb1 A hH hlt hsp PA hA
          · refine rparse_nosp s f hs (by omega) H b a d w ha hd WD hb A (ne_k (by rw [e]; decide)) (ne_k (by rw [e]; decide)) (ne_k (by rw [e]; decide)) (ne_k (by rw [e]; decide)) hlt hsp ?_
            rw [hA]; refine rpK_no _ (by decide) (by decide) ?_
            rw [drop_cons' s b hlt]; simp only [List.head?_cons]; intro h; injection h with h; exact hsp (by rw [h]; rfl)
        · refine rparse_end s f hs (by omega) H b a d w ha hd WD hb A (ne_k (by rw [e]; decide)) (ne_k (by rw [e]; decide)) (ne_k (by rw [e]; decide)) (ne_k (by rw [e]; decide)) (by omega) ?_
          rw [hA]; refine rpK_no _ (by decide) (by decide) ?_
          rw [List.drop_of_length_le (by omega)]; simp
      · have hH : H = ⟨#[106, 111, 105, 110]⟩ := litH e hw (by decide)
        have hb1 : 1 ≤ b := by
          have : H.data.toList.length = 4 := by rw [hH]; rfl
          omega
        rw [e] at hA
        exact rparse_k10 s f hs (by omega) H b a d w ha hd WD hb hb1 A hH PA hA
      · have hH : H = ⟨#[108, 111, 110, 103]⟩ := litH e hw (by decide)
        have hb1 : 1 ≤ b := by
          have : H.data.toList.length = 4 := by rw [hH]; rfl
          omega
        rw [e] at hA
        exact rparse_k11 s f hs (by omega) H b a d w ha hd WD hb hb1 A hH hA
/-- The answer of the reference's Parse. -/
def RfO (s : List UInt8) (w : World) (e : Ending) (w' : World) : Prop := Below w.heap.size w w' ∧ ∃ p cap, e = .returned (.tuple #[.slice p (psL s).length cap, .int .i64 (psE s)]) ∧ CS w' (.slice p (psL s).length cap) (psL s)
theorem RfO.no {s : List UInt8} {w w' : World} {x : Int} (hb : Below w.heap.size w w') (h1 : psL s = []) (h2 : psE s = x) : RfO s w (.returned (.tuple #[.slice none 0 0, .int .i64 x])) w' := by
  refine ⟨hb, none, 0, by rw [h1, h2]; rfl, ?_⟩
  rw [h1]; exact (ownC_nil w' w.heap.size).cs
set_option maxHeartbeats 4000000 in
theorem rParse_any (s : ByteArray) (w : World) (hm : s.size ≤ maxLen) :
    Calls Tryd.prog 29 #[.string s] w fun e w' => RfO s.data.toList w e w' := by
  have hsl := bsz s
  by_cases hs : s.size ≤ 65536
  · have PA := rparse_all s hs 1025 (Nat.le_refl _) 0 0 w (Nat.zero_le _) (by rfl)
    rw [List.drop_zero] at PA
    obtain ⟨L, hL⟩ : ∃ L, L = s.data.toList := ⟨_, rfl⟩
    rw [← hL] at PA hsl ⊢
    have hnone : rfA L = none → psL L = [] ∧ psE L = 2 := fun h => ⟨(rfA_none (by omega) h).2, (rfA_none (by omega) h).1⟩
    have hsome : ∀ l, rfA L = some l → psL L = l ∧ psE L = 0 := fun l h => ⟨(rfA_some (by omega) h).2, (rfA_some (by omega) h).1⟩
    go_enter Tryd.func29, Tryd.ntmps29
    go_wp2_with fail
    refine PA.mono ?_
    rintro e w1 ⟨hb1, ⟨l, r, p, c, h1, h2, h3, h4, h5, rfl⟩ | ⟨h1, l, p, c, m, h2, h3, h5, rfl⟩⟩
    · have B1 : Hid (Below w.heap.size w w1) := hb1
      by_cases hr : r = []
      · subst hr
        have hz : s.size - ([] : List UInt8).length = s.size := by simp
        rw [hz]
        have hsz := rp_size 1025 _ _ _ h1
        have CK := rcheck_any (.slice p l.length c) l w1 h5.cs (fun c hc => by have := hsz c hc; omega) (by simp at h2; omega)
        by_cases hc : chk l = 0
        · have HF : Hid (psL L = l ∧ psE L = 0) := hsome l (by unfold rfA; rw [h1]; simp only [if_pos hc])
          have O1 : Hid (OwnC w1 w.heap.size (.slice p l.length c) l) := h5
          rw [hc] at CK
          clear hb1 h1 h4 h5 hnone hsome PA hc hsz hL hz
          go_wp2_with fail
          refine CK.mono ?_
          rintro e w2 ⟨rfl, hb2⟩
          have B2 : Hid (Below w1.heap.size w1 w2) := hb2
          clear hb2 CK
          go_wp2_with fail
          go_ret2
          refine ⟨B1.out.trans (B2.out.mono B1.out.size), p, c, ?_, ?_⟩
          · rw [HF.out.1, HF.out.2]; rfl
          · rw [HF.out.1]; exact (O1.out.below B2.out).cs
        · have HF : Hid (psL L = [] ∧ psE L = 2) := hnone (by unfold rfA; rw [h1]; simp only [if_neg hc])
          obtain ⟨x, hx⟩ : ∃ x, x = chk l := ⟨_, rfl⟩
          rw [← hx] at hc CK
          have hxn : (x == 0) = false := by simpa using hc
          have hxm : (x != 0) = true := by simpa using hc
          clear hb1 h1 h4 h5 hnone hsome PA hsz hL hz hx
          go_wp2_with fail
          refine CK.mono ?_
          rintro e w2 ⟨rfl, hb2⟩
          have B2 : Hid (Below w1.heap.size w1 w2) := hb2
          clear hb2 CK
          go_wp2_with fail
          go_ret2
          exact RfO.no (B1.out.trans (B2.out.mono B1.out.size)) HF.out.1 HF.out.2
      · have HF : Hid (psL L = [] ∧ psE L = 2) := hnone (by
          unfold rfA; rw [h1]
          cases r with
          | nil => exact absurd rfl hr
          | cons c t => rfl)
        have hrl : 0 < r.length := by cases r with
          | nil => exact absurd rfl hr
          | cons c t => simp
        obtain ⟨nx, hnx⟩ : ∃ nx, nx = s.size - r.length := ⟨_, rfl⟩
        have hne : ((nx : Int) != (s.size : Int)) = true := by simp; omega
        have hne2 : ¬ (nx = s.size) := by omega
        rw [← hnx]
        clear hb1 h1 h4 h5 hnone hsome PA hL hr hnx hrl
        go_wp2_with fail
        go_ret2
        exact RfO.no B1.out HF.out.1 HF.out.2
    · have B1 : Hid (Below w.heap.size w w1) := hb1
      have HF : Hid (psL L = [] ∧ psE L = 2) := hnone (by unfold rfA; rw [h1])
      clear hb1 h1 h5 hnone hsome PA hL
      go_wp2_with fail
      go_ret2
      exact RfO.no B1.out HF.out.1 HF.out.2
  · have HF : Hid (psL s.data.toList = [] ∧ psE s.data.toList = 3) := ⟨by unfold psL; rw [if_pos (by omega)], by unfold psE; rw [if_pos (by omega)]⟩
    have hs2 : (s.size : Int) > 65536 := by omega
    go_enter Tryd.func29, Tryd.ntmps29
    go_wp2_with fail
    go_ret2
    exact RfO.no (Below.refl _ _) HF.out.1 HF.out.2
end Go.Proofs.YtaleagkhblokgaaDoor
