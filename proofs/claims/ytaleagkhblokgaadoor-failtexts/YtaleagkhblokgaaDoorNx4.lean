/- Failures: the reference's reader: a list in brackets. -/
import Derived.Test.YtaleagkhblokgaaDoorNx3
import Derived.Test.YtaleagkhblokgaaDoorHx4
namespace Go.Proofs.YtaleagkhblokgaaDoor
open Go.RowKit

def Ln (T : RpT) : Prop := ∀ s l r, T s = some (l, r) → l.length + r.length ≤ s.length
theorem rpL_len {T : RpT} (hT : Ln T) : ∀ (m : Nat) (out : List Cr) (n : Nat) (s : List UInt8) (l : List Cr) (r : List UInt8), rpL T m out n s = some (l, r) → l.length + r.length ≤ out.length + s.length
  | 0, out, n, s, l, r, h => by rw [rpL] at h; cases h
  | m + 1, out, n, s, l, r, h => by
    rw [rpL] at h
    split at h
    · obtain ⟨⟨l1, r1⟩, hy, h⟩ := Option.bind_eq_some_iff.1 h
      have h0 := hT _ _ _ hy
      dsimp only at h
      cases h1 : strip [41] r1 with
      | some u =>
        rw [h1] at h
        injection h with h; injection h with h2 h3
        subst h2 h3
        have := congrArg List.length (strip_eq h1)
        simp at this ⊢; omega
      | none =>
        rw [h1] at h
        dsimp only at h
        cases h2 : strip [59, 32] r1 with
        | none => rw [h2] at h; cases h
        | some u =>
          rw [h2] at h
          have h3 := rpL_len hT m _ _ _ _ _ h
          have := congrArg List.length (strip_eq h2)
          simp at this h3; omega
    · cases h
theorem rpt_len {s : List UInt8} {t : ByteArray} {r : List UInt8} (h : rpt s = some (t, r)) : r.length ≤ s.length := by
  have := congrArg List.length (rpt_back h)
  simp at this; omega
theorem strip_len {p s u : List UInt8} (h : strip p s = some u) : u.length + p.length = s.length := by
  have := congrArg List.length (strip_eq h)
  simp at this; omega
theorem rpR_len {T : RpT} (hT : Ln T) {k : Int} {q : List UInt8} {l : List Cr} {r : List UInt8} (h : rpR T k q = some (l, r)) : l.length + r.length ≤ q.length + 1 := by
  unfold rpR at h
  split at h
  · obtain ⟨⟨t, u⟩, hz, h⟩ := Option.map_eq_some_iff.1 h
    injection h with h1 h2
    subst h1 h2
    have := rpt_len hz
    simp; omega
  · split at h
    · injection h with h; injection h with h1 h2
      subst h1 h2
      simp; omega
    · split at h
      · obtain ⟨⟨t, u⟩, hz, g⟩ := Option.bind_eq_some_iff.1 h
        have h0 := rpt_len hz
        try dsimp only at g
        cases hs : strip [58, 32] u with
        | none =>
          rw [hs] at g
          injection g with g; injection g with h1 h2
          subst h1 h2
          simp; omega
        | some v =>
          rw [hs] at g
          obtain ⟨⟨l1, r1⟩, hy, g⟩ := Option.map_eq_some_iff.1 g
          injection g with h1 h2
          subst h1 h2
          have := strip_len hs
          have := hT _ _ _ hy
          simp at *; omega
      · split at h
        · obtain ⟨u, hs, g⟩ := Option.bind_eq_some_iff.1 h
          obtain ⟨⟨l1, r1⟩, hy, g⟩ := Option.map_eq_some_iff.1 g
          injection g with h1 h2
          subst h1 h2
          have := strip_len hs
          have := hT _ _ _ hy
          simp at *; omega
        · cases h
theorem rp_len : ∀ (f : Nat), Ln (rp f)
  | 0, s, l, r, h => by rw [rp] at h; cases h
  | f + 1, s, l, r, h => by
    have hb := rp_back (f + 1) s l r h
    rw [rp] at h
    have hsz := List.take_append_drop (ptLen s) s
    rcases kOf_cases (s.take (ptLen s)) with h0 | ⟨hk, hw⟩
    · rw [h0] at h
      unfold rpK at h
      rw [if_neg (by decide), if_neg (by decide)] at h
      obtain ⟨q, _, h⟩ := Option.bind_eq_some_iff.1 h
      unfold rpR at h
      rw [if_neg (by decide), if_neg (by decide), if_neg (by decide), if_neg (by decide)] at h
      cases h
    · have hw1 : 1 ≤ (s.take (ptLen s)).length := by
        rw [← hw]
        rcases isK_cases hk with e | e | e | e | e | e | e | e | e | e | e <;> rw [e] <;> decide
      have hsl := congrArg List.length hsz
      rw [List.length_append] at hsl
      suffices l.length + r.length ≤ (s.drop (ptLen s)).length + 1 by omega
      unfold rpK at h
      split at h
      · injection h with h; injection h with h1 h2
        subst h1 h2
        simp; omega
      · split at h
        · unfold rpJ at h
          obtain ⟨u, hu, h⟩ := Option.bind_eq_some_iff.1 h
          have := rpL_len (rp_len f) _ _ _ _ _ _ h
          have := strip_len hu
          simp at *; omega
        · obtain ⟨q, hq, h⟩ := Option.bind_eq_some_iff.1 h
          have := rpR_len (rp_len f) h
          have := strip_len hq
          simp at *; omega
/-- The answer of the reference's readers. -/
def PO (A : Option (List Cr × List UInt8)) (s : ByteArray) (b : Nat) (w : World) (e : Ending) (w' : World) : Prop := Below w.heap.size w w' ∧
  ((∃ l r p cap, A = some (l, r) ∧ l.length + r.length ≤ s.size ∧ 1 ≤ l.length ∧ s.data.toList.drop (s.size - r.length) = r ∧ OwnC w' w.heap.size (.slice p l.length cap) l ∧ e = .returned (.tuple #[.slice p l.length cap, .int .i64 (s.size - r.length : Nat), .bool true])) ∨
   (A = none ∧ ∃ (l : List Cr) (p : Option Addr) (cap m : Nat), l.length ≤ b ∧ m ≤ 200000 ∧ OwnC w' w.heap.size (.slice p l.length cap) l ∧ e = .returned (.tuple #[.slice p l.length cap, .int .i64 m, .bool false])))
theorem ownC_nil (w : World) (base : Nat) : OwnC w base (.slice none 0 0) [] := ⟨by simp, Or.inl ⟨rfl, rfl⟩⟩
theorem PO.no {A : Option (List Cr × List UInt8)} {s : ByteArray} {b : Nat} {w w' : World} (hb : Below w.heap.size w w') (h : A = none) : PO A s b w (.returned (.tuple #[.slice none 0 0, .int .i64 0, .bool false])) w' :=
  ⟨hb, Or.inr ⟨h, [], none, 0, 0, Nat.zero_le _, Nat.zero_le _, ownC_nil _ _, rfl⟩⟩
theorem ret_po {v : Value} {a b : Int} {p : Bool} (h : a = b) : Ending.returned (.tuple #[v, .int .i64 a, .bool p]) = .returned (.tuple #[v, .int .i64 b, .bool p]) := by rw [h]
theorem ret_pv {v v' : Value} {a b : Int} {p : Bool} (hv : v = v') (h : a = b) : Ending.returned (.tuple #[v, .int .i64 a, .bool p]) = .returned (.tuple #[v', .int .i64 b, .bool p]) := by rw [h, hv]
/-- What a reader's rest is. -/
theorem drop_rest {s : ByteArray} {a : Nat} {l r : List UInt8} (h : s.data.toList.drop a = l ++ r) (ha : a ≤ s.size) : s.data.toList.drop (s.size - r.length) = r := by
  have hl := congrArg List.length h
  rw [List.length_drop, bsz, List.length_append] at hl
  have : s.data.toList.drop (s.size - r.length) = (s.data.toList.drop a).drop (l.length) := by rw [List.drop_drop]; congr 1; omega
  rw [this, h]; simp
theorem strip_if (p s : List UInt8) : strip p s = if Lib.hasPrefix s p = true then some (s.drop p.length) else none := rfl
/-- The loop of a list in brackets. -/
structure JR (s : ByteArray) (f : Nat) (A : Option (List Cr × List UInt8)) (w wk : World) (va : Value) (out : List Cr) (n k : Nat) : Prop where
  bl : Below w.heap.size w wk
  ow : OwnC wk w.heap.size va out
  eq : ∃ m, 1025 ≤ m + out.length ∧ rpL (rp f) m out n (s.data.toList.drop k) = A
  le : out.length ≤ k
  nn : n ≤ out.length
set_option maxHeartbeats 8000000 in
theorem rjoined_step (s : ByteArray) (f : Nat) (hs : s.size ≤ 65536) (hf : f ≤ 1024) (PA : ∀ (a : Nat) (d : Int) (w : World), a ≤ s.size → d + f = 1025 → Calls Tryd.prog 51 #[.string s, .int .i64 a, .int .i64 d] w fun e w' => PO (rp f (s.data.toList.drop a)) s (f + 1) w e w') (a : Nat) (d : Int) (w : World) (ha : a ≤ s.size) (hd : d + (f + 1 : Nat) = 1025) :
    Calls Tryd.prog 67 #[.string s, .int .i64 a, .int .i64 d] w fun e w' => PO (rpJ (rp f) (s.data.toList.drop a)) s 0 w e w' := by
  have hsl := bsz s
  have hd0 : 0 ≤ d ∧ d ≤ 1024 := by omega
  have hd1 : d + 1 + f = 1025 := by omega
  have BG := fun (p : ByteArray) (b : Nat) (w' : World) (hb : b ≤ s.size) (hp : p.size ≤ 10) => rbegin_any s p b w' hb (by omega) hp
  obtain ⟨A, hA⟩ : ∃ A, A = rpJ (rp f) (s.data.toList.drop a) := ⟨_, rfl⟩
  rw [← hA]
  have B0 := BG ⟨#[40]⟩ a w ha (by decide)
  have HA : Hid (A = rpJ (rp f) (s.data.toList.drop a)) := hA
  clear hA
  by_cases hp : Lib.hasPrefix (s.data.toList.drop a) [40] = true
  · have e40 : (⟨#[40]⟩ : ByteArray).data.toList = [40] := rfl
    rw [e40, hp] at B0
    have hA1 : A = rpL (rp f) 1025 [] 0 (s.data.toList.drop (a + 1)) := by
      rw [HA.out]; unfold rpJ; rw [strip_if, if_pos hp, Option.bind_some, List.drop_drop]; rfl
    have hlt : a < s.size := by
      have h1 : strip [40] (s.data.toList.drop a) = some ((s.data.toList.drop a).drop 1) := by rw [strip_if, if_pos hp]; rfl
      have := strip_len h1
      simp only [List.length_drop, hsl, List.length_cons, List.length_nil] at this
      omega
    have R0 : Hid (JR s f A w (w.alloc (.cells #[] 55)) (.slice (some ⟨w.heap.size, 0, none⟩) 0 0) [] 0 (a + 1)) := ⟨(Below.refl _ _).alloc (Nat.le_refl _) _, ownC_empty w, ⟨1025, by simp, hA1.symm⟩, by simp, by simp⟩
    clear HA hA1 hp
    go_enter Tryd.func67, Tryd.ntmps67
    go_wp2_with fail
    refine B0.mono ?_
    rintro e w1 ⟨rfl, hw1⟩
    rw [hw1]
    clear hw1
    clear B0
    go_wp2_with fail
    go_loopw [9, 10, 1] (fun va vn vk wl => ∃ (k n cp : Nat) (po : Option Addr) (out : List Cr) (wk : World), k ≤ s.size ∧ vk = .int .i64 k ∧ vn = .int .i64 n ∧ va = .slice po out.length cp ∧ wk = wl ∧ Hid (JR s f A w wk (.slice po out.length cp) out n k)) (fun _ _ vk _ => s.size - (intOf vk).toNat)
    case atStart => exact ⟨a + 1, 0, _, _, [], _, by omega, by go_num, rfl, rfl, rfl, R0⟩
    case round =>
      obtain ⟨k, n, cp, po, out, wr, hk, rfl, rfl, rfl, rfl, HR⟩ := hrel
      clear R0
      by_cases hlt2 : out.length ≤ 1024
      · have HP := PA k (d + 1) wr hk hd1
        have OW : Hid (OwnC wr w.heap.size (.slice po out.length cp) out) := HR.out.ow
        have BW : Hid (Below w.heap.size w wr) := HR.out.bl
        have HE : Hid (∃ m, 1025 ≤ m + 1 + out.length ∧ rpL (rp f) (m + 1) out n (s.data.toList.drop k) = A) := by
          obtain ⟨m, hm1, hm2⟩ := HR.out.eq
          obtain ⟨m, rfl⟩ : ∃ m', m = m' + 1 := ⟨m - 1, by omega⟩
          exact ⟨m, hm1, hm2⟩
        have hle := HR.out.le
        have hnn := HR.out.nn
        clear HR
        go_wp2_with fail
        refine HP.mono ?_
        rintro e w1 ⟨hb1, ⟨l1, r1, p1, c1, hA, hlen, hl1, hdr, ho1, rfl⟩ | ⟨hA, l1, p1, c1, m1, hl1, hm1, ho1, rfl⟩⟩
        · have hle2 := rp_len f _ _ _ hA
          rw [List.length_drop, hsl] at hle2
          obtain ⟨m, hm1, hm2⟩ := HE.out
          rw [rpL, if_pos hlt2, hA, Option.bind_some] at hm2
          dsimp only at hm2
          obtain ⟨o2, ho2⟩ : ∃ o2, o2 = out ++ l1 := ⟨_, rfl⟩
          have ho2l : o2.length = out.length + l1.length := by rw [ho2, List.length_append]
          rw [← ho2] at hm2
          obtain ⟨nx, hnx⟩ : ∃ nx, nx = s.size - r1.length := ⟨_, rfl⟩
          rw [← hnx] at hdr
          have G1 : ∀ w', Calls Tryd.prog 69 #[.string s, .int .i64 nx, .string ⟨#[41]⟩] w' fun e w'' => e = .returned (.bool (Lib.hasPrefix r1 [41])) ∧ w'' = w' := fun w' => by
            have := BG ⟨#[41]⟩ nx w' (by omega) (by decide)
            rw [hdr] at this; exact this
          have G2 : ∀ w', Calls Tryd.prog 69 #[.string s, .int .i64 nx, .string ⟨#[59, 32]⟩] w' fun e w'' => e = .returned (.bool (Lib.hasPrefix r1 [59, 32])) ∧ w'' = w' := fun w' => by
            have := BG ⟨#[59, 32]⟩ nx w' (by omega) (by decide)
            rw [hdr] at this; exact this
          have OW1 : Hid (OwnC w1 w.heap.size (.slice po out.length cp) out) := OW.out.below hb1
          have CS1 : Hid (CS w1 (.slice p1 l1.length c1) l1) := ho1.cs
          have BW1 : Hid (Below w.heap.size w w1) := BW.out.trans (hb1.mono BW.out.size)
          have LN1 : Hid ((out.length + l1.length) * 32 ≤ 140737488355328) := by show _ ≤ _; omega
          have HO2 : Hid (o2 = out ++ l1) := ho2
          have HM : Hid ((match strip [41] r1 with
            | some u => some (o2 ++ [⟨10, (n + 1 : Nat), ByteArray.empty⟩], u)
            | none => match strip [59, 32] r1 with
              | some u => rpL (rp f) m o2 (n + 1) u
              | none => none) = A) := hm2
          rw [← hnx]
          have HNX : Hid (nx = s.size - r1.length) := hnx
          have HOL : Hid (o2.length = out.length + l1.length) := ho2l
          have hnb : nx ≤ s.size := by omega
          have ho2b : o2.length ≤ 70000 := by omega
          clear hnx ho2l
          clear OW BW HE hb1 hA ho1 hm2 ho2 HP
          cases h41 : Lib.hasPrefix r1 [41] with
          | true =>
            go_wp2_with (at_builtin; refine append_crs rfl (.tmp 35) (.tmp 36) 23 rfl w.heap.size Tryd.underlying23 info_cr _ (.slice po out.length cp) (.slice p1 l1.length c1) out l1 rfl rfl OW1.out CS1.out LN1.out BW1.out.size ?_; intro v5 w5 ho5 hb5; rw [← HO2.out] at ho5; obtain ⟨p5, c5, rfl⟩ := ho5.form; have O5 : Hid (OwnC w5 w.heap.size (.slice p5 o2.length c5) o2) := ho5; have B5 : Hid (Below w.heap.size w w5) := BW1.out.trans hb5; clear ho5 hb5)
            refine (G1 _).mono ?_
            rintro e w6 ⟨rfl, hw6⟩
            rw [h41, hw6]
            clear hw6
            have hA2 : A = some (o2 ++ [⟨10, (n + 1 : Nat), ByteArray.empty⟩], r1.drop 1) := by
              have := HM.out
              rw [strip_if, if_pos h41] at this
              exact this.symm
            have hr1 : (r1.drop 1).length + 1 = r1.length := by
              have h1 : strip [41] r1 = some (r1.drop 1) := by rw [strip_if, if_pos h41]; rfl
              exact strip_len h1
            have hdr2 : s.data.toList.drop (nx + 1) = r1.drop 1 := by rw [← hdr, List.drop_drop]
            have OX : Hid (OwnC (w5.alloc (.cells #[.int .i64 10, .int .i64 (n + 1 : Nat), .string ByteArray.empty] 55)) w.heap.size (.slice p5 o2.length c5) o2) := O5.out.below ((Below.refl _ _).alloc (Nat.le_refl _) _)
            have CX : Hid (CS (w5.alloc (.cells #[.int .i64 10, .int .i64 (n + 1 : Nat), .string ByteArray.empty] 55)) (.slice (some ⟨w5.heap.size, 0, none⟩) 1 1) [⟨10, (n + 1 : Nat), ByteArray.empty⟩]) := (ownC_one w5 10 (n + 1 : Nat) ByteArray.empty).cs
            have BX : Hid (Below w.heap.size w (w5.alloc (.cells #[.int .i64 10, .int .i64 (n + 1 : Nat), .string ByteArray.empty] 55))) := B5.out.alloc B5.out.size _
            have LX : Hid ((o2.length + [(⟨10, (n + 1 : Nat), ByteArray.empty⟩ : Cr)].length) * 32 ≤ 140737488355328) := by show _ ≤ _; simp; omega
            have HF : Hid (A = some (o2 ++ [⟨10, (n + 1 : Nat), ByteArray.empty⟩], r1.drop 1) ∧ (r1.drop 1).length + 1 = r1.length ∧ s.data.toList.drop (nx + 1) = r1.drop 1) := ⟨hA2, hr1, hdr2⟩
            clear hA2 hr1 hdr2 HM G1 G2 h41 hdr
            go_wp2_with (at_builtin; refine append_crs rfl (.tmp 43) (.tmp 46) 23 rfl w.heap.size Tryd.underlying23 info_cr _ (.slice p5 o2.length c5) (.slice (some ⟨w5.heap.size, 0, none⟩) 1 1) o2 [⟨10, (n + 1 : Nat), ByteArray.empty⟩] rfl rfl OX.out CX.out LX.out BX.out.size ?_; intro v7 w7 ho7 hb7; obtain ⟨p7, c7, rfl⟩ := ho7.form; have O7 : Hid _ := ho7; have B7 : Hid (Below w.heap.size w w7) := BX.out.trans hb7; clear ho7 hb7)
            go_ret3
            have hnx := HNX.out
            have ho2l := HOL.out
            have h8 := HF.out.2.1
            refine ⟨B7.out, Or.inl ⟨_, _, p7, c7, HF.out.1, by simp at h8 ⊢; omega, by simp, by rw [show s.size - (r1.drop 1).length = nx + 1 by omega]; exact HF.out.2.2, O7.out, ret_pv (by rw [List.length_append]; rfl) (by omega)⟩⟩
          | false =>
            cases h59 : Lib.hasPrefix r1 [59, 32] with
            | true =>
              go_wp2_with (at_builtin; refine append_crs rfl (.tmp 35) (.tmp 36) 23 rfl w.heap.size Tryd.underlying23 info_cr _ (.slice po out.length cp) (.slice p1 l1.length c1) out l1 rfl rfl OW1.out CS1.out LN1.out BW1.out.size ?_; intro v5 w5 ho5 hb5; rw [← HO2.out] at ho5; obtain ⟨p5, c5, rfl⟩ := ho5.form; have O5 : Hid (OwnC w5 w.heap.size (.slice p5 o2.length c5) o2) := ho5; have B5 : Hid (Below w.heap.size w w5) := BW1.out.trans hb5; clear ho5 hb5)
              refine (G1 _).mono ?_
              rintro e w6 ⟨rfl, hw6⟩
              rw [h41, hw6]
              clear hw6
              go_wp2_with fail
              refine (G2 _).mono ?_
              rintro e w7 ⟨rfl, hw7⟩
              rw [h59, hw7]
              clear hw7
              have hr1 : (r1.drop 2).length + 2 = r1.length := by
                have h1 : strip [59, 32] r1 = some (r1.drop 2) := by rw [strip_if, if_pos h59]; rfl
                exact strip_len h1
              have hnx := HNX.out
              have ho2l := HOL.out
              have NX : Hid (JR s f A w w5 (.slice p5 o2.length c5) o2 (n + 1) (nx + 2)) := ⟨B5.out, O5.out, ⟨m, by omega, by
                have := HM.out
                rw [strip_if, if_neg (by rw [h41]; simp), strip_if, if_pos h59] at this
                rw [← this, ← hdr, List.drop_drop]; rfl⟩, by omega, by omega⟩
              have hn2 : nx + 2 ≤ s.size := by omega
              have hn3 : k < nx + 2 := by omega
              clear hr1 HM G1 G2 h41 h59 hdr O5 B5 hnx ho2l
              go_wp2
              go_roundw
              case rel => exact ⟨nx + 2, n + 1, c5, p5, o2, _, hn2, by go_num, by go_num, rfl, rfl, NX⟩
              case measure => simp [intOf]; omega
            | false =>
              go_wp2_with (at_builtin; refine append_crs rfl (.tmp 35) (.tmp 36) 23 rfl w.heap.size Tryd.underlying23 info_cr _ (.slice po out.length cp) (.slice p1 l1.length c1) out l1 rfl rfl OW1.out CS1.out LN1.out BW1.out.size ?_; intro v5 w5 ho5 hb5; rw [← HO2.out] at ho5; obtain ⟨p5, c5, rfl⟩ := ho5.form; have O5 : Hid (OwnC w5 w.heap.size (.slice p5 o2.length c5) o2) := ho5; have B5 : Hid (Below w.heap.size w w5) := BW1.out.trans hb5; clear ho5 hb5)
              refine (G1 _).mono ?_
              rintro e w6 ⟨rfl, hw6⟩
              rw [h41, hw6]
              clear hw6
              go_wp2_with fail
              refine (G2 _).mono ?_
              rintro e w7 ⟨rfl, hw7⟩
              rw [h59, hw7]
              clear hw7
              have HN : Hid (A = none) := by
                have := HM.out
                rw [strip_if, if_neg (by rw [h41]; simp), strip_if, if_neg (by rw [h59]; simp)] at this
                exact this.symm
              clear HM G1 G2 h41 h59 hdr O5
              go_wp2
              go_ret3
              exact PO.no B5.out HN.out
        · have HN : Hid (A = none) := by
            obtain ⟨m, hm1, hm2⟩ := HE.out
            show A = none
            rw [← hm2, rpL, if_pos hlt2, hA]; rfl
          have BW1 : Hid (Below w.heap.size w w1) := BW.out.trans (hb1.mono BW.out.size)
          clear HE OW BW hb1 hA ho1 HP
          go_wp2
          go_ret3
          exact PO.no BW1.out HN.out
      · have HN : Hid (A = none) := by
          obtain ⟨m, hm1, hm2⟩ := HR.out.eq
          show A = none
          rw [← hm2]
          cases m with
          | zero => rw [rpL]
          | succ m => rw [rpL, if_neg hlt2]
        have BW : Hid (Below w.heap.size w wr) := HR.out.bl
        clear HR
        go_wp2
        go_ret3
        exact PO.no BW.out HN.out
  · have hp' : Lib.hasPrefix (s.data.toList.drop a) [40] = false := by simpa using hp
    have e40 : (⟨#[40]⟩ : ByteArray).data.toList = [40] := rfl
    rw [e40, hp'] at B0
    have HN : Hid (A = none) := by
      show A = none
      rw [HA.out]; unfold rpJ; rw [strip_if, if_neg hp]; rfl
    clear HA hp hp'
    go_enter Tryd.func67, Tryd.ntmps67
    go_wp2_with fail
    refine B0.mono ?_
    rintro e w1 ⟨rfl, hw1⟩
    rw [hw1]
    clear hw1
    go_wp2
    go_ret3
    exact PO.no (Below.refl _ _) HN.out
end Go.Proofs.YtaleagkhblokgaaDoor
