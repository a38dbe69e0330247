/- Plain mathematics of what quoted texts stand for. No condition. -/
import Derived.Test.YtaleagkhblokgaaDoorJx3
import Derived.Test.YtaleagkhblokgaaDoorQuote
namespace Go.Proofs.YtaleagkhblokgaaDoor
open Go.RowKit

theorem tell_all (ws : World) (vf : Value) (g : Nat) (l : List Cr) (A : List (Int × List Int)) (h : PS ws vf g l A) : ∀ n, TellsAt ws vf g l A n
  | 0 => fun t j wk tv bs hsz => by obtain ⟨k, tx, ps⟩ := t; rw [szF] at hsz; omega
  | n + 1 => tell_step ws vf g l A h n (tell_all ws vf g l A h n)
theorem frow_short (k : Int) : (frow k).word.size ≤ 6 ∧ (frow k).op.size ≤ 2 ∧ (frow k).bt.size ≤ 2 ∧ (frow k).en.size ≤ 1 := by
  have hz : ∀ r ∈ frows, r.word.size ≤ 6 ∧ r.op.size ≤ 2 ∧ r.bt.size ≤ 2 ∧ r.en.size ≤ 1 := by decide
  unfold frow
  rw [List.getD_eq_getElem?_getD]
  by_cases h : k.toNat < frows.length
  · rw [List.getElem?_eq_getElem h]; exact hz _ (List.getElem_mem h)
  · rw [List.getElem?_eq_none (by omega)]; decide
theorem txtF_len (x : Int) (t : ByteArray) : (txtF x t).length ≤ 4 * t.size + 3 := by
  have h1 := qBs_len t.data.toList
  have e : t.data.toList.length = t.size := by simp
  unfold txtF
  split
  · simp
  · split
    · unfold quo; simp at h1 ⊢; omega
    · simp; omega
mutual
theorem prF_len : ∀ (t : Ft), (∀ c ∈ flat t, c.text.size ≤ 4096) → (prF t).length + 2 ≤ 17000 * (flat t).length
  | .nd k tx ps, h => by
    rw [flat] at h
    have h1 := txtF_len (frow k).text tx
    have h2 := h ⟨k, ps.length, tx⟩ (by simp)
    have h3 := prL_len ps (frow k).bt true (fun c hc => h c (by simp [hc])) (frow_short k).2.2.1
    have h4 := frow_short k
    simp only at h2
    rw [prF, flat]
    simp only [List.length_append, List.length_singleton]
    split
    · simp; omega
    · simp; omega
theorem prL_len : ∀ (ps : List Ft) (b : ByteArray) (f : Bool), (∀ c ∈ flatL ps, c.text.size ≤ 4096) → b.size ≤ 2 → (prL b f ps).length ≤ 17000 * (flatL ps).length
  | [], b, f, _, _ => by simp [prL]
  | t :: r, b, f, h, hb => by
    rw [flatL] at h
    have h1 := prF_len t (fun c hc => h c (by simp [hc]))
    have h2 := prL_len r b false (fun c hc => h c (by simp [hc])) hb
    rw [prL, flatL]
    simp only [List.length_append]
    split
    · simp; omega
    · simp; omega
end
theorem walk_ok : ∀ (l : List Cr) (s t : Int), walkC s l = some t → ∀ c ∈ l, crB c = true
  | [], s, t, _, c, hc => by cases hc
  | d :: r, s, t, h, c, hc => by
    obtain ⟨⟨hcb, _⟩, hwn⟩ := walk_step h
    rcases List.mem_cons.1 hc with rfl | hc
    · exact hcb
    · exact walk_ok r _ t hwn c hc
theorem chk_crB {l : List Cr} (h : chk l = 0) : ∀ c ∈ l, crB c = true := walk_ok l 0 1 (chk_ok h).2
/-- The text of a list of cracks. -/
def prV (l : List Cr) : List UInt8 := if chk l = 0 then prF (treeOf l) else []
theorem prV_len (l : List Cr) : (prV l).length ≤ 17500000 := by
  unfold prV
  split
  · rename_i h
    have := prF_len (treeOf l) (by rw [flat_tree h]; exact fun c hc => crB_text (chk_crB h c hc))
    rw [flat_tree h] at this
    have := (chk_ok h).1
    omega
  · simp
set_option maxHeartbeats 4000000 in
set_option maxRecDepth 100000 in
theorem print_any (v : Value) (l : List Cr) (w : World) (h : CS w v l) (ht : ∀ c ∈ l, c.text.size ≤ maxLen) (hlm : l.length ≤ 1000000000000000) (hv : FV w) :
    Calls Tryd.prog 26 #[v] w fun e w' => e = .returned (.tuple #[.string ⟨(prV l).toArray⟩, .int .i64 (chk l)]) ∧ Below w.heap.size w w' := by
  have CK := check_any v l w h ht hv hlm
  by_cases hc : chk l = 0
  · rw [hc] at CK ⊢
    have hl := (chk_ok hc).1
    have WH : Hid (∀ w', Below w.heap.size w w' → _) := fun w' b => wholes_any v l w' (h.below b) hc
    have TA : Hid (∀ wk w', Below w.heap.size w wk → Below wk.heap.size wk w' → ∀ g, (∀ j, j < l.length → WC w' g j (.slice none 0 0) ((whS 0 [] [] l).getD j (0, []))) → PS w' v g l (whA l)) := fun wk w' b1 b2 g hw => ⟨(hv.below b1).below b2, (h.below b1).below b2, chk_crB hc, whA_len l, hl, fun j hj => by
      obtain ⟨vp, c0, c1, hi, _⟩ := hw j hj
      exact ⟨vp, c1, hi⟩⟩
    have HAT : Hid (AtT l (whA l) (treeOf l) (l.length - 1)) := tree_at hc
    have HP : Hid (prV l = prF (treeOf l)) := by show _ = _; unfold prV; rw [if_pos hc]
    have HPL : Hid ((prV l).length ≤ 17500000) := prV_len l
    have hl0 := (whA_all hc).1
    obtain ⟨N, hN⟩ : ∃ N, N = l.length - 1 := ⟨_, rfl⟩
    have hNi : (l.length : Int) - 1 = (N : Int) := by omega
    rw [← hN] at HAT
    obtain ⟨p, cap, rfl⟩ := h.form
    generalize prV l = F at *
    clear h ht hv hc hN
    go_enter Tryd.func26, Tryd.ntmps26
    go_wp2_with fail
    refine CK.mono ?_
    rintro e w1 ⟨rfl, hb1⟩
    have B1 : Hid (Below w.heap.size w w1) := hb1
    clear hb1 CK
    go_wp2_with fail
    refine (WH.out _ B1.out).mono ?_
    rintro e ws ⟨rfl, hb3, hwb, hwc⟩
    have PSS : Hid (PS ws (.slice p l.length cap) w1.heap.size l (whA l)) := TA.out _ _ B1.out hb3 _ hwc
    have B3 : Hid (Below w.heap.size w ws) := B1.out.trans (hb3.mono B1.out.size)
    obtain ⟨g, hg⟩ : ∃ g, g = w1.heap.size := ⟨_, rfl⟩
    rw [← hg] at PSS ⊢
    clear hb3 hwb hwc WH TA hg B1
    have P0 : Hid (PR ws.heap.size (ws.alloc (.cells #[.slice p l.length cap, .slice (some ⟨g, 0, none⟩) l.length l.length, .slice none 0 0] 73)) (.slice p l.length cap) (.slice (some ⟨g, 0, none⟩) l.length l.length) (.slice none 0 0) []) := ⟨heap_alloc_new _ _, own_nil _ _⟩
    have BA : Hid (Below ws.heap.size ws (ws.alloc (.cells #[.slice p l.length cap, .slice (some ⟨g, 0, none⟩) l.length l.length, .slice none 0 0] 73))) := (Below.refl _ _).alloc (Nat.le_refl _) _
    have TL : Hid (Calls Tryd.prog 46 #[.pointer (some ⟨ws.heap.size, 0, none⟩), .int .i64 N] (ws.alloc (.cells #[.slice p l.length cap, .slice (some ⟨g, 0, none⟩) l.length l.length, .slice none 0 0] 73)) fun e w' => e = .returned (.tuple #[]) ∧ Told ws.heap.size (ws.alloc (.cells #[.slice p l.length cap, .slice (some ⟨g, 0, none⟩) l.length l.length, .slice none 0 0] 73)) w' (.slice p l.length cap) (.slice (some ⟨g, 0, none⟩) l.length l.length) F) := by
      have := tell_all ws _ g l (whA l) PSS.out (szF (treeOf l)) (treeOf l) N _ _ [] (Nat.le_refl _) HAT.out P0.out BA.out (by have h1 := HPL.out; rw [HP.out] at h1; simp; omega)
      rw [List.nil_append, ← HP.out] at this
      exact this
    go_wp2_with fail
    refine Calls.mono TL.out ?_
    rintro e w5 ⟨rfl, tv, hp5, hk5⟩
    have P5 : Hid (PR ws.heap.size w5 (.slice p l.length cap) (.slice (some ⟨g, 0, none⟩) l.length l.length) tv F) := hp5
    have B5 : Hid (Below w.heap.size w w5) := B3.out.trans ((BA.out.trans (hk5.below P0.out.lt)).mono B3.out.size)
    have c2 := hp5.c2
    clear hp5 hk5
    go_wp2_with (refine wpList_own_string rfl (.tmp 20) 71 9 rfl (ws.heap.size + 1) _ F rfl P5.out.ow Tryd.underlying71 Tryd.underlying5 Tryd.underlying9 ?_)
    go_ret2
    exact ⟨rfl, B5.out⟩
  · have e2 : prV l = [] := by unfold prV; rw [if_neg hc]
    rw [e2]
    clear h ht hv e2
    generalize chk l = c at *
    have h1 : (c == 0) = false := by simpa using hc
    have h2 : (c != 0) = true := by simpa using hc
    go_enter Tryd.func26, Tryd.ntmps26
    go_wp2_with fail
    refine CK.mono ?_
    rintro e w1 ⟨rfl, hb1⟩
    have B1 : Hid (Below w.heap.size w w1) := hb1
    clear hb1 CK
    go_wp2_with fail
    go_ret2
    exact ⟨rfl, B1.out⟩
end Go.Proofs.YtaleagkhblokgaaDoor
namespace Go.Proofs.YtaleagkhblokgaaDoor

/-- The value of a digit to the base 16; -1: it is none. -/
def hexV (c : UInt8) : Int := if 48 ≤ (c.toNat : Int) ∧ (c.toNat : Int) ≤ 57 then (c.toNat : Int) - 48 else if 97 ≤ (c.toNat : Int) ∧ (c.toNat : Int) ≤ 102 then (c.toNat : Int) - 87 else -1
def plU (c : UInt8) : Bool := plB (c.toNat : Int)
/-- The byte of two digits to the base 16, if that is its one form. -/
def hexB (e f : UInt8) : Option UInt8 :=
  if 0 ≤ hexV e ∧ 0 ≤ hexV f then (if (32 ≤ 16 * hexV e + hexV f ∧ 16 * hexV e + hexV f ≤ 126) ∨ 16 * hexV e + hexV f = 10 then none else some (UInt8.ofNat (16 * hexV e + hexV f).toNat)) else none
theorem hexB_def (e f : UInt8) : hexB e f = if 0 ≤ hexV e ∧ 0 ≤ hexV f then (if (32 ≤ 16 * hexV e + hexV f ∧ 16 * hexV e + hexV f ≤ 126) ∨ 16 * hexV e + hexV f = 10 then none else some (UInt8.ofNat (16 * hexV e + hexV f).toNat)) else none := rfl
/-- The byte that the beginning stands for within quotes, and how many bytes say so. -/
def ub : List UInt8 → Option (UInt8 × Nat)
  | [] => none
  | c :: r => if plU c then some (c, 1) else if c ≠ 92 then none else match r with
    | [] => none
    | d :: r2 => if d = 34 ∨ d = 92 then some (d, 2) else if d = 110 then some (10, 2) else if d = 120 then (match r2 with
        | e :: f :: _ => (hexB e f).map fun b => (b, 4)
        | _ => none) else none
theorem ub_len : ∀ (l : List UInt8) (b : UInt8) (n : Nat), ub l = some (b, n) → 1 ≤ n ∧ n ≤ l.length := by
  intro l b n h
  unfold ub at h
  split at h
  · cases h
  · rename_i c r
    split at h
    · cases h; simp
    · split at h
      · cases h
      · split at h
        · cases h
        · split at h
          · cases h; simp
          · split at h
            · cases h; simp
            · split at h
              · split at h
                · rw [Option.map_eq_some_iff] at h
                  obtain ⟨_, _, h⟩ := h
                  cases h; simp
                · cases h
              · cases h
/-- What the text behind a first quote stands for, and how many bytes it has with its last quote. -/
def uq : List UInt8 → Option (List UInt8 × Nat)
  | [] => none
  | c :: r => if c = 34 then some ([], 1) else match ub (c :: r) with
    | none => none
    | some (b, n) => (uq (r.drop (n - 1))).map fun x => (b :: x.1, x.2 + n)
termination_by l => l.length
decreasing_by simp; omega
theorem uq_nil : uq [] = none := by rw [uq]
theorem uq_quote (r : List UInt8) : uq (34 :: r) = some ([], 1) := by rw [uq]; simp
theorem uq_none {c : UInt8} {r : List UInt8} (hc : c ≠ 34) (h : ub (c :: r) = none) : uq (c :: r) = none := by rw [uq, if_neg hc, h]
theorem uq_some {c : UInt8} {r : List UInt8} {b : UInt8} {n : Nat} (hc : c ≠ 34) (h : ub (c :: r) = some (b, n)) : uq (c :: r) = (uq ((c :: r).drop n)).map fun x => (b :: x.1, x.2 + n) := by
  rw [uq, if_neg hc, h]
  have := (ub_len _ _ _ h).1
  obtain ⟨m, rfl⟩ : ∃ m, n = m + 1 := ⟨n - 1, by omega⟩
  rfl
theorem ub_quote (r : List UInt8) : ub (34 :: r) = none := by
  have : plU 34 = false := by decide
  simp [ub, this]
end Go.Proofs.YtaleagkhblokgaaDoor
