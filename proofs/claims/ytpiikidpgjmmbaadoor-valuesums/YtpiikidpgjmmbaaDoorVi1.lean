/- Sums, joins, sizes, items of values, plain; of the laws do, size. -/
import Derived.Test.YtpiikidpgjmmbaaDoorVh3
import Derived.Test.YtpiikidpgjmmbaaDoorVi0
namespace Go.Proofs.YtpiikidpgjmmbaaDoor
open Go.RowKit

def tN (n : Int) : Vt := .nd 1 n ByteArray.empty []
theorem numT_tN {n : Int} (h : -9007199254740992 ≤ n ∧ n ≤ 9007199254740992) : numT n = some (tN n) := by unfold numT; rw [if_pos h]; rfl
theorem tN_rt {n : Int} (h : -9007199254740992 ≤ n ∧ n ≤ 9007199254740992) : RT (tN n) := (numT_rt (numT_tN h)).1
theorem numT_some {n : Int} {t : Vt} (h : numT n = some t) : t = tN n := (numT_rt h).2
theorem doO_two {k : Int} {s t : Vt} (hs : RT s) (ht : RT t) (h6 : 6 ≤ k) (h13 : k ≤ 13) (h11 : k ≠ 11) : doO k [flV s, flV t] = do2T k s t := by
  have de : doE k ([s, t].map flV) = 0 := by
    show doE k [flV s, flV t] = 0
    unfold doE
    rw [if_neg (by omega), if_neg (by simp), if_neg (by simp; omega)]
    rw [firstE, if_pos hs.chk, firstE, if_pos ht.chk, firstE]
  have := doO_ok (ts := [s, t]) (fun u hu => by simp at hu; rcases hu with rfl | rfl; exact hs; exact ht) de
  refine Eq.trans this ?_
  unfold doT
  rw [if_neg (by omega)]
theorem doO_one {t : Vt} (ht : RT t) : doO 11 [flV t] = do1T t := by
  have de : doE 11 ([t].map flV) = 0 := by
    show doE 11 [flV t] = 0
    unfold doE
    rw [if_neg (by omega), if_neg (by simp), if_neg (by simp)]
    rw [firstE, if_pos ht.chk, firstE]
  have := doO_ok (ts := [t]) (fun u hu => by simp at hu; rw [hu]; exact ht) de
  refine Eq.trans this ?_
  rfl
theorem add_turn (n m : Int) : do2T 6 (tN n) (tN m) = do2T 6 (tN m) (tN n) := by simp [do2T, tN, Vt.k, Vt.i, Int.add_comm]
theorem mul_turn (n m : Int) : do2T 8 (tN n) (tN m) = do2T 8 (tN m) (tN n) := by simp [do2T, tN, Vt.k, Vt.i, Int.mul_comm]
theorem sub_is (n m : Int) : do2T 7 (tN n) (tN m) = numT (n - m) := by simp [do2T, tN, Vt.k, Vt.i]
theorem add_is (n m : Int) : do2T 6 (tN n) (tN m) = numT (n + m) := by simp [do2T, tN, Vt.k, Vt.i]
theorem join_is (a b : Vt) : do2T 9 a b = if a.k = 2 ∧ b.k = 2 then txtT (a.tx ++ b.tx) else if a.k = 3 ∧ b.k = 3 then lstT (a.ps ++ b.ps) else none := by simp [do2T]
theorem txtT_some {s : ByteArray} {t : Vt} (h : txtT s = some t) : t = .nd 2 0 s [] := (txtT_rt h).2
theorem lstT_some {ts : List Vt} {t : Vt} (h : lstT ts = some t) : t = mkL ts := by
  unfold lstT at h
  split at h
  · injection h with h; exact h.symm
  · cases h
theorem join_some {a b x : Vt} (h : do2T 9 a b = some x) : (a.k = 2 ∧ b.k = 2 ∧ x.k = 2 ∧ x.tx = a.tx ++ b.tx) ∨ (a.k = 3 ∧ b.k = 3 ∧ x.k = 3 ∧ x.ps = a.ps ++ b.ps) := by
  rw [join_is] at h
  split at h
  · rename_i hk
    have := txtT_some h
    subst this
    exact Or.inl ⟨hk.1, hk.2, rfl, rfl⟩
  · split at h
    · rename_i hk
      have := lstT_some h
      subst this
      exact Or.inr ⟨hk.1, hk.2, rfl, rfl⟩
    · cases h
theorem join_three {a b c x y : Vt} (h1 : do2T 9 a b = some x) (h2 : do2T 9 b c = some y) : do2T 9 a y = do2T 9 x c := by
  rw [join_is, join_is]
  rcases join_some h1 with ⟨a1, a2, a3, a4⟩ | ⟨a1, a2, a3, a4⟩ <;> rcases join_some h2 with ⟨b1, b2, b3, b4⟩ | ⟨b1, b2, b3, b4⟩
  · rw [if_pos ⟨a1, b3⟩, if_pos ⟨a3, b2⟩, a4, b4, ByteArray.append_assoc]
  · omega
  · omega
  · rw [if_neg (by omega), if_pos ⟨a1, b3⟩, if_neg (by omega), if_pos ⟨a3, b2⟩, a4, b4, List.append_assoc]
theorem len_le_sz (ps : List Vt) : ps.length ≤ szVL ps := by
  induction ps with
  | nil => simp
  | cons t r ih =>
    have e : szVL (t :: r) = szV t + szVL r := by unfold szVL; rw [flVL, List.length_append]; rfl
    have : 0 < szV t := by obtain ⟨k, i, tx, ps⟩ := t; unfold szV; rw [flV]; simp
    rw [List.length_cons, e]; omega
theorem size_of {a : Vt} (ha : RT a) (h : a.k = 2 ∨ a.k = 3) : ∃ s : Nat, s ≤ 4096 ∧ do1T a = some (tN s) ∧ (a.k = 2 → s = a.tx.size) ∧ (a.k = 3 → s = a.ps.length) := by
  obtain ⟨k, i, tx, ps⟩ := a
  have hw := ha.wf
  rw [wfV] at hw
  have hb := atB_is hw.1
  have hsz := ha.sz
  rcases h with h | h
  · have h : k = 2 := h
    subst h
    have h4 : tx.size ≤ 4096 := by rcases hb with ⟨e, _⟩ | ⟨_, e⟩ | e <;> omega
    refine ⟨tx.size, h4, ?_, fun _ => rfl, fun e => absurd e (by show ¬ ((2 : Int) = 3); omega)⟩
    unfold do1T
    rw [if_pos (show (Vt.nd 2 i tx ps).k = 2 from rfl)]
    exact numT_tN ⟨by show _ ≤ ((tx.size : Nat) : Int); omega, by show ((tx.size : Nat) : Int) ≤ _; omega⟩
  · have h : k = 3 := h
    subst h
    have h4 : ps.length ≤ 4096 := by
      have := len_le_sz ps
      have e2 : szV (.nd 3 i tx ps) = szVL ps + 1 := by unfold szV szVL; rw [flV]; simp
      omega
    refine ⟨ps.length, h4, ?_, fun e => absurd e (by show ¬ ((3 : Int) = 2); omega), fun _ => rfl⟩
    unfold do1T
    rw [if_neg (by show ¬ ((3 : Int) = 2); omega), if_pos (show (Vt.nd 3 i tx ps).k = 3 from rfl)]
    exact numT_tN ⟨by show _ ≤ ((ps.length : Nat) : Int); omega, by show ((ps.length : Nat) : Int) ≤ _; omega⟩
theorem item_is (a : Vt) (i : Nat) : do2T 10 a (tN i) = if a.k = 3 then a.ps[i]? else none := by
  have e : (tN (i : Int)).k = 1 := rfl
  have e2 : (tN (i : Int)).i = i := rfl
  unfold do2T
  rw [if_neg (by decide), if_neg (by decide), if_neg (by decide), if_neg (by decide), if_pos rfl, e2]
  by_cases h : a.k = 3
  · rw [if_pos ⟨h, e, by omega⟩, if_pos h]; simp
  · rw [if_neg (fun c => h c.1), if_neg h]
/-- What a join's sizes and items are. -/
theorem join_parts {a b x : Vt} (ha : RT a) (hb : RT b) (hx : RT x) (h : do2T 9 a b = some x) : ∃ s t : Nat, s ≤ 4096 ∧ t ≤ 4096 ∧ do1T a = some (tN s) ∧ do1T b = some (tN t) ∧ do1T x = some (tN ((s : Int) + (t : Int))) ∧ (∀ i : Nat, i < s → do2T 10 a (tN i) = do2T 10 x (tN i)) ∧ (∀ i : Nat, s ≤ i → do2T 10 b (tN ((i - s : Nat) : Int)) = do2T 10 x (tN i)) := by
  rcases join_some h with ⟨a1, a2, a3, a4⟩ | ⟨a1, a2, a3, a4⟩
  · obtain ⟨s, s1, s2, s3, _⟩ := size_of ha (Or.inl a1)
    obtain ⟨t, t1, t2, t3, _⟩ := size_of hb (Or.inl a2)
    obtain ⟨u, u1, u2, u3, _⟩ := size_of hx (Or.inl a3)
    have e : u = s + t := by rw [u3 a3, s3 a1, t3 a2, a4]; simp
    subst e
    refine ⟨s, t, s1, t1, s2, t2, ?_, fun i _ => ?_, fun i _ => ?_⟩
    · rw [u2]; rfl
    · rw [item_is, item_is, if_neg (by omega), if_neg (by omega)]
    · rw [item_is, item_is, if_neg (by omega), if_neg (by omega)]
  · obtain ⟨s, s1, s2, _, s3⟩ := size_of ha (Or.inr a1)
    obtain ⟨t, t1, t2, _, t3⟩ := size_of hb (Or.inr a2)
    obtain ⟨u, u1, u2, _, u3⟩ := size_of hx (Or.inr a3)
    have e : u = s + t := by rw [u3 a3, s3 a1, t3 a2, a4]; simp
    subst e
    have s4 := s3 a1
    refine ⟨s, t, s1, t1, s2, t2, ?_, fun i hi => ?_, fun i hi => ?_⟩
    · rw [u2]; rfl
    · rw [item_is, item_is, if_pos a1, if_pos a3, a4, List.getElem?_append_left (by omega)]
    · rw [item_is, item_is, if_pos a2, if_pos a3, a4, List.getElem?_append_right (by omega), s4]
theorem AT_rt {t : Vt} (h : RT t) : AT (flV t) := by
  intro c hc
  have := flV_atB t h.wf c hc
  obtain ⟨k, n, i, tx⟩ := c
  have hb := atB_def k n i tx ▸ this
  show tx.size ≤ maxLen
  unfold maxLen
  split at hb
  · simp only [Bool.and_eq_true, decide_eq_true_eq] at hb; omega
  · split at hb
    · simp only [Bool.and_eq_true, decide_eq_true_eq] at hb; omega
    · split at hb
      · simp only [Bool.and_eq_true, decide_eq_true_eq] at hb; omega
      · cases hb
set_option maxHeartbeats 8000000 in
theorem ldo_any (k : Int) (v1 v2 : Value) (s t : Vt) (w : World) (h1 : AS w v1 (flV s)) (h2 : AS w v2 (flV t)) (hs : RT s) (ht : RT t) (h6 : 6 ≤ k) (h13 : k ≤ 13) (h11 : k ≠ 11) :
    Calls Tryd.prog 23 #[.int .i64 k, v1, v2] w fun e w' => ∃ p m c, e = .returned (.tuple #[.slice p m c, .bool (do2T k s t).isSome]) ∧ AS w' (.slice p m c) (outL (do2T k s t)) ∧ Below w.heap.size w w' := by
  have s1 := hs.sz
  have s2 := ht.sz
  obtain ⟨q1, c1, rfl⟩ := h1.form
  obtain ⟨q2, c2, rfl⟩ := h2.form
  have de : doE k [flV s, flV t] = 0 := by
    unfold doE
    rw [if_neg (by omega), if_neg (by simp), if_neg (by simp; omega)]
    rw [firstE, if_pos hs.chk, firstE, if_pos ht.chk, firstE]
  have DO : Hid (Calls Tryd.prog 8 #[.int .i64 k, .slice (some ⟨w.heap.size, 0, none⟩) 2 2] (w.alloc (.cells #[.slice q1 (flV s).length c1, .slice q2 (flV t).length c2] 25)) fun e w' => ∃ p m c, e = .returned (.tuple #[.slice p m c, .bool (do2T k s t).isSome, .int .i64 0]) ∧ AS w' (.slice p m c) (outL (do2T k s t)) ∧ Below w.heap.size w w') := by
    have n1 : (flV s).length * 40 ≤ 140737488355328 := by have : (flV s).length = szV s := rfl; omega
    have n2 : (flV t).length * 40 ≤ 140737488355328 := by have : (flV t).length = szV t := rfl; omega
    have := vdo_any k _ _ _ (pair_vr h1 h2) (pair_vt n1 n2 (AT_rt hs) (AT_rt ht))
    refine Calls.mono this ?_
    rintro e w' ⟨p, c, he, ho, hb⟩
    have e1 : doO k (aL [(⟨flV s, q1, c1⟩ : Vx), ⟨flV t, q2, c2⟩]) = _ := doO_two hs ht h6 h13 h11
    have e2 : doE k (aL [(⟨flV s, q1, c1⟩ : Vx), ⟨flV t, q2, c2⟩]) = _ := de
    rw [e1, e2] at he
    rw [e1] at ho
    exact ⟨p, _, c, he, ho.gs KA_ok.len, ((Below.refl _ _).alloc (Nat.le_refl _) _).trans (hb.mono (by simp))⟩
  generalize do2T k s t = r at *
  generalize (flV s).length = m1 at *
  generalize (flV t).length = m2 at *
  clear h1 h2 hs ht de s1 s2 h6 h13 h11
  generalize hbb : r.isSome = b at *
  clear hbb
  cases b
  all_goals
    go_enter Tryd.func23, Tryd.ntmps23
    go_wp2_with fail
    refine Calls.mono DO.out ?_
    rintro e w1 ⟨p, m, c, rfl, ha1, hb1⟩
    have A1 : Hid _ := ha1
    have B1 : Hid (Below w.heap.size w w1) := hb1
    clear ha1 hb1 DO
    go_wp2_with fail
    refine bodyPost_ret (v := .tuple #[.slice p m c, .bool _]) (by simp [results, Tryd.results23, go_sem]) rfl ⟨p, m, c, rfl, A1.out, B1.out⟩
theorem one_vr {w : World} {q1 : Option Addr} {c1 : Nat} {l1 : List Atm} (h1 : AS w (.slice q1 l1.length c1) l1) : VR (w.alloc (.cells #[.slice q1 l1.length c1] 25)) (.slice (some ⟨w.heap.size, 0, none⟩) 1 1) [⟨l1, q1, c1⟩] := by
  have b : Below w.heap.size w (w.alloc (.cells #[.slice q1 l1.length c1] 25)) := (Below.refl _ _).alloc (Nat.le_refl _) _
  refine ⟨(OwnG.lit KV w [⟨l1, q1, c1⟩] _ rfl rfl (by show 1 ≤ maxLen; unfold maxLen; omega)).gs KV_ok.len, fun x hx => ?_⟩
  simp at hx
  subst hx
  exact h1.below b
theorem one_vt {q1 : Option Addr} {c1 : Nat} {l1 : List Atm} (n1 : l1.length * 40 ≤ 140737488355328) (t1 : AT l1) : VT [(⟨l1, q1, c1⟩ : Vx)] := by
  refine ⟨by simp, fun x hx => ?_, fun x hx => ?_⟩
  · simp at hx; subst hx; exact n1
  · simp at hx; subst hx; exact t1
set_option maxHeartbeats 8000000 in
theorem lsize_any (v : Value) (t : Vt) (n : Int) (w : World) (h : AS w v (flV t)) (hr : RT t) (hn : do1T t = some (tN n)) :
    Calls Tryd.prog 25 #[v] w fun e w' => e = .returned (.tuple #[.int .i64 n, .bool true]) ∧ Below w.heap.size w w' := by
  have s1 := hr.sz
  obtain ⟨q1, c1, rfl⟩ := h.form
  have de : doE 11 [flV t] = 0 := by
    unfold doE
    rw [if_neg (by omega), if_neg (by simp), if_neg (by simp)]
    rw [firstE, if_pos hr.chk, firstE]
  have DO : Hid (Calls Tryd.prog 8 #[.int .i64 11, .slice (some ⟨w.heap.size, 0, none⟩) 1 1] (w.alloc (.cells #[.slice q1 (flV t).length c1] 25)) fun e w' => ∃ X o c, e = .returned (.tuple #[.slice (some ⟨X, o, none⟩) 1 c, .bool true, .int .i64 0]) ∧ w'.cell? ⟨X, o + 2, none⟩ = some (.int .i64 n) ∧ Below w.heap.size w w') := by
    have n1 : (flV t).length * 40 ≤ 140737488355328 := by have : (flV t).length = szV t := rfl; omega
    have := vdo_any 11 _ _ _ (one_vr h) (one_vt n1 (AT_rt hr))
    refine Calls.mono this ?_
    rintro e w' ⟨p, c, he, ho, hb⟩
    have e1 : doO 11 (aL [(⟨flV t, q1, c1⟩ : Vx)]) = _ := (doO_one hr).trans hn
    have e2 : doE 11 (aL [(⟨flV t, q1, c1⟩ : Vx)]) = _ := de
    rw [e1, e2] at he
    rw [e1] at ho
    have ho' : OwnG KA w' (w.alloc (.cells #[.slice q1 (flV t).length c1] 25)).heap.size (.slice p 1 c) [nA n] := ho
    obtain ⟨X, o, e3, _, _, hc, _⟩ := (ho'.gs KA_ok.len).atA (k := 0) (by simp)
    subst e3
    exact ⟨X, o, c, he, by simpa [nA] using hc, ((Below.refl _ _).alloc (Nat.le_refl _) _).trans (hb.mono (by simp))⟩
  generalize (flV t).length = m1 at *
  clear h hr de s1 hn
  go_enter Tryd.func25, Tryd.ntmps25
  go_wp2_with fail
  refine Calls.mono DO.out ?_
  rintro e w1 ⟨X, o, c, rfl, hc1, hb1⟩
  have B1 : Hid (Below w.heap.size w w1) := hb1
  clear hb1 DO
  go_wp2_with fail
  refine bodyPost_ret (v := .tuple #[.int .i64 n, .bool true]) (by simp [results, Tryd.results25, go_sem]) rfl ⟨rfl, B1.out⟩
theorem lwhole2_any (n : Int) (w : World) : Calls Tryd.prog 24 #[.int .i64 n] w fun e w' => ∃ p c, e = .returned (.slice p 1 c) ∧ AS w' (.slice p 1 c) (flV (tN n)) ∧ Below w.heap.size w w' := by
  refine Calls.mono (lwhole_any n w) ?_
  rintro e w' ⟨rfl, rfl⟩
  exact ⟨_, 1, rfl, lit_as w (nA n), (Below.refl _ _).alloc (Nat.le_refl _) _⟩
end Go.Proofs.YtpiikidpgjmmbaaDoor
