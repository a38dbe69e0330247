/- Values: rows of values; copies and comparisons; an answer written over. -/
import Derived.Test.YtbgeihgenckihaaDoorVa1
import Derived.Test.YtbgeihgenckihaaDoorVb9
import Derived.Deep.QuietTactic
import Derived.BigQuiet
namespace Go.Proofs.YtbgeihgenckihaaDoor
open Go.RowKit

/-- The first one's error. -/
def firstE : List (List Atm) → Int
  | [] => 0
  | a :: r => if chkV a = 0 then firstE r else chkV a
def allE (A : List (List Atm)) : Int := if 4096 < A.length then 3 else firstE A
/-- A right tree. -/
structure RT (t : Vt) : Prop where
  wf : wfV t
  sz : szV t ≤ 1024
  dp : dpV t ≤ 32
theorem RT.chk {t : Vt} (h : RT t) : chkV (flV t) = 0 := by
  rw [chkV_flat h.wf, if_neg (by have := h.sz; omega), if_neg (by have := h.dp; omega)]
theorem RT.of {l : List Atm} (h : chkV l = 0) : ∃ t, l = flV t ∧ RT t := by
  obtain ⟨t, h1, h2, h3, h4⟩ := chkV_tree h
  exact ⟨t, h1, h2, h3, h4⟩
theorem bV_flat {t : Vt} (h : wfV t) : bV [] (flV t) = some [t] := by
  have := bV_tree t [] [] h
  rw [List.append_nil, List.nil_append, bV] at this
  exact this
theorem flV_inj {s t : Vt} (hs : wfV s) (ht : wfV t) (h : flV s = flV t) : s = t := by
  have h1 := bV_flat hs
  rw [h, bV_flat ht] at h1
  injection h1 with h1
  injection h1 with h1
  exact h1.symm
theorem firstE_step {A : List (List Atm)} {k : Nat} (hk : k < A.length) (h0 : chkV A[k] = 0) (h : firstE A = firstE (A.drop k)) : firstE A = firstE (A.drop (k + 1)) := by
  rw [h, List.drop_eq_getElem_cons hk, firstE, if_pos h0]
theorem firstE_bad {A : List (List Atm)} {k : Nat} (hk : k < A.length) (h0 : chkV A[k] ≠ 0) (h : firstE A = firstE (A.drop k)) : firstE A = chkV A[k] := by
  rw [h, List.drop_eq_getElem_cons hk, firstE, if_neg h0]
theorem firstE_end {A : List (List Atm)} {k : Nat} (hk : ¬ k < A.length) (h : firstE A = firstE (A.drop k)) : firstE A = 0 := by
  rw [h, List.drop_eq_nil_of_le (by omega), firstE]
theorem firstE_zero : ∀ {A : List (List Atm)}, firstE A = 0 → ∀ a ∈ A, chkV a = 0
  | [], _, _, h => by cases h
  | a :: r, h, b, hb => by
    rw [firstE] at h
    by_cases h0 : chkV a = 0
    · rw [if_pos h0] at h
      rcases List.mem_cons.1 hb with e | e
      · subst e; exact h0
      · exact firstE_zero h b e
    · rw [if_neg h0] at h; exact absurd h h0
theorem allE_zero {A : List (List Atm)} (h : allE A = 0) : A.length ≤ 4096 ∧ firstE A = 0 := by
  unfold allE at h
  split at h
  · cases h
  · exact ⟨by omega, h⟩
theorem trees_of : ∀ {A : List (List Atm)}, (∀ a ∈ A, chkV a = 0) → ∃ ts : List Vt, A = ts.map flV ∧ ∀ t ∈ ts, RT t
  | [], _ => ⟨[], rfl, by simp⟩
  | a :: r, h => by
    obtain ⟨t, h1, h2⟩ := RT.of (h a (List.mem_cons_self ..))
    obtain ⟨ts, h3, h4⟩ := trees_of (A := r) (fun b hb => h b (List.mem_cons_of_mem _ hb))
    refine ⟨t :: ts, by rw [h1, h3]; rfl, fun u hu => ?_⟩
    rcases List.mem_cons.1 hu with e | e
    · subst e; exact h2
    · exact h4 u e
theorem flat_trees (ts : List Vt) : (ts.map flV).flatten = flVL ts := by
  rw [flVL_map, List.flatMap_def]
/-- The list of members. -/
def mkL (ts : List Vt) : Vt := .nd 3 0 ByteArray.empty ts
theorem mkL_wf {ts : List Vt} (h : wfVL ts) : wfV (mkL ts) := by
  unfold mkL
  rw [wfV]
  refine ⟨?_, h⟩
  simp [atB]
theorem wfVL_all {ts : List Vt} (h : ∀ t ∈ ts, RT t) : wfVL ts := (wfVL_iff ts).2 fun t ht => (h t ht).wf
/-- What comes of all, with the list's own atom behind. -/
def lstA (A : List (List Atm)) : List Atm := A.flatten ++ [⟨3, (A.length : Nat), 0, ByteArray.empty⟩]
theorem lstA_trees (ts : List Vt) : lstA (ts.map flV) = flV (mkL ts) := by
  unfold lstA mkL
  rw [flV, flat_trees, List.length_map]
theorem lstA_len (A : List (List Atm)) : (lstA A).length = A.flatten.length + 1 := by unfold lstA; simp
/-- Is the list of them right? -/
def lokB (A : List (List Atm)) : Bool := decide (A.flatten.length < 1024 ∧ depV (lstA A) ≤ 32)
theorem depV_lst {A : List (List Atm)} (h : ∀ a ∈ A, chkV a = 0) : depV (lstA A) ≠ 0 := by
  obtain ⟨ts, rfl, h2⟩ := trees_of h
  rw [lstA_trees, depV_flat (mkL_wf (wfVL_all h2))]
  have := dpV_pos (mkL ts)
  omega
theorem lokB_chk {A : List (List Atm)} (h : ∀ a ∈ A, chkV a = 0) : lokB A = decide (chkV (lstA A) = 0) := by
  have h0 := depV_lst h
  unfold lokB chkV
  rw [lstA_len]
  generalize A.flatten.length = n at *
  generalize depV (lstA A) = d at *
  by_cases h1 : n < 1024
  · rw [if_neg (by omega)]
    by_cases h2 : d ≤ 32
    · rw [if_neg (by omega)]; simp [h1, h2]
    · rw [if_pos (by omega)]; simp [h2]
  · rw [if_pos (by omega)]; simp [h1]
/-- What List answers. -/
def listE (A : List (List Atm)) : Int := if allE A = 0 then (if lokB A = true then 0 else 3) else allE A
def listL (A : List (List Atm)) : List Atm := if listE A = 0 then lstA A else []
/-- The members. -/
def memT (l : List Atm) : List Vt := match bV [] l with
  | some [t] => t.ps
  | _ => []
def kndV (l : List Atm) : Int := match bV [] l with
  | some [t] => t.k
  | _ => 0
/-- What Members answers. -/
def memE (l : List Atm) : Int := if chkV l = 0 then (if kndV l = 3 then 0 else 7) else chkV l
def memL (l : List Atm) : List (List Atm) := if memE l = 0 then (memT l).map flV else []
theorem memT_flat {t : Vt} (h : wfV t) : memT (flV t) = t.ps ∧ kndV (flV t) = t.k := by
  unfold memT kndV
  rw [bV_flat h]
  exact ⟨rfl, rfl⟩
theorem flV_last (t : Vt) : flV t = flVL t.ps ++ [⟨t.k, (t.ps.length : Nat), t.i, t.tx⟩] := by
  cases t; rw [flV]; rfl
theorem szV_ps (t : Vt) : szV t = szVL t.ps + 1 := by cases t; rw [szV_nd]; rfl
theorem RT.parts {t : Vt} (h : RT t) : ∀ u ∈ t.ps, RT u := by
  intro u hu
  obtain ⟨k, i, tx, ps⟩ := t
  have h1 := h.wf
  have h2 := h.sz
  have h3 := h.dp
  rw [wfV, wfVL_iff] at h1
  rw [szV_nd] at h2
  rw [dpV] at h3
  have hu : u ∈ ps := hu
  refine ⟨h1.2 u hu, ?_, (dpVL_le ps 32).1 (by omega) u hu⟩
  obtain ⟨a, b, rfl⟩ := List.append_of_mem hu
  rw [szVL_app, szVL_cons] at h2
  omega
/-- The atom that tells what a right value is. -/
theorem flV_get {t : Vt} (h : szV t - 1 < (flV t).length) : (flV t)[szV t - 1] = ⟨t.k, (t.ps.length : Nat), t.i, t.tx⟩ := by
  have e : szV t - 1 = (flVL t.ps).length := by rw [szV_ps]; rfl
  simp only [flV_last t, e]
  rw [List.getElem_append_right (Nat.le_refl _)]
  simp
/-- A part's atoms, cut out of its whole. -/
theorem flVL_cut (ps : List Vt) {j : Nat} (h : j < ps.length) (r : List Atm) : ((flVL ps ++ r).drop (szVL (ps.take j))).take (szV ps[j]) = flV ps[j] := by
  have e : ps = ps.take j ++ ps[j] :: ps.drop (j + 1) := by rw [← List.drop_eq_getElem_cons h, List.take_append_drop]
  have h1 : flVL ps = flVL (ps.take j) ++ (flV ps[j] ++ flVL (ps.drop (j + 1))) := by
    conv => lhs; rw [e]
    rw [flVL_app, flVL]
  rw [h1, List.append_assoc]
  have e2 : szVL (ps.take j) = (flVL (ps.take j)).length := rfl
  have e3 : szV ps[j] = (flV ps[j]).length := rfl
  rw [e2, List.drop_left' rfl, List.append_assoc, e3, List.take_left' rfl]
theorem memT_len {t : Vt} : t.ps.length ≤ szVL t.ps := by
  cases t with
  | nd k i tx ps =>
    show ps.length ≤ szVL ps
    clear k i tx
    induction ps with
    | nil => simp
    | cons u r ih => rw [szVL_cons, List.length_cons]; have := szV_pos u; omega
theorem szVL_take_succ (ps : List Vt) {j : Nat} (h : j < ps.length) : szVL (ps.take (j + 1)) = szVL (ps.take j) + szV ps[j] := by
  have e0 : ps.take (j + 1) = ps.take j ++ [ps[j]] := by rw [List.take_add_one, List.getElem?_eq_getElem h]; rfl
  rw [e0, szVL_app, szVL_one]
theorem szVL_take_le (ps : List Vt) (j : Nat) : szVL (ps.take j) ≤ szVL ps := by
  have : szVL ps = szVL (ps.take j) + szVL (ps.drop j) := by rw [← szVL_app, List.take_append_drop]
  omega
end Go.Proofs.YtbgeihgenckihaaDoor
namespace Go.Proofs.YtbgeihgenckihaaDoor
open Go.RowKit

/-- A value of a row, and where it lies. -/
structure Vx where
  a : List Atm
  q : Option Addr
  c : Nat
def Vx.v (x : Vx) : Value := .slice x.q x.a.length x.c
def KV : RK Vx := ⟨32, 1, 24, .slice none 0 0, fun x => [.slice x.q x.a.length x.c]⟩
theorem KV_ok : KV.Ok Tryd.prog :=
  ⟨fun _ => rfl, fun x u hu => by simp [KV] at hu; subst hu; rfl, rfl, by decide, by decide, info_parts' (by kernel_rfl)⟩
theorem GS.atV {w : World} {p : Option Addr} {n cap k : Nat} {l : List Vx} (h : GS KV w (.slice p n cap) l) (hk : k < l.length) : ∃ X o, p = some ⟨X, o, none⟩ ∧ w.cell? ⟨X, o + k, none⟩ = some (.slice l[k].q l[k].a.length l[k].c) := by
  obtain ⟨X, o, h1, _, h2⟩ := GS.at h hk
  have := h2 0 _ rfl
  rw [show KV.W = 1 from rfl, Nat.mul_one] at this
  exact ⟨X, o, h1, this⟩
/-- The slice reads as these values, and each one as its atoms. -/
structure VR (w : World) (v : Value) (L : List Vx) : Prop where
  gs : GS KV w v L
  av : ∀ x ∈ L, AS w x.v x.a
theorem VR.below {w w' : World} {v : Value} {L : List Vx} (h : VR w v L) (b : Below w.heap.size w w') : VR w' v L := ⟨h.gs.below b, fun x hx => (h.av x hx).below b⟩
/-- What any argument keeps to: lengths, and lengths of texts. -/
structure VT (L : List Vx) : Prop where
  n : L.length * 24 ≤ 140737488355328
  l : ∀ x ∈ L, x.a.length * 40 ≤ 140737488355328
  t : ∀ x ∈ L, AT x.a
def aL (L : List Vx) : List (List Atm) := L.map (·.a)
theorem aL_len (L : List Vx) : (aL L).length = L.length := List.length_map _
theorem aL_at {L : List Vx} {k : Nat} (h : k < L.length) : (aL L)[k]'(by rw [aL_len]; exact h) = L[k].a := by unfold aL; simp
theorem aL_get {L M : List Vx} (h : aL M = aL L) {k : Nat} (hk : k < L.length) (hk' : k < M.length) : M[k].a = L[k].a := by
  have := aL_at hk'
  rw [← this, ← aL_at hk]
  simp [h]
theorem VT.of {L M : List Vx} (h : VT L) (e : aL M = aL L) : VT M := by
  have hl : M.length = L.length := by rw [← aL_len M, e, aL_len]
  refine ⟨by rw [hl]; exact h.n, fun x hx => ?_, fun x hx => ?_⟩
  · have : x.a ∈ aL L := by rw [← e]; exact List.mem_map.2 ⟨x, hx, rfl⟩
    obtain ⟨y, hy, e2⟩ := List.mem_map.1 this
    rw [← e2]; exact h.l y hy
  · have : x.a ∈ aL L := by rw [← e]; exact List.mem_map.2 ⟨x, hx, rfl⟩
    obtain ⟨y, hy, e2⟩ := List.mem_map.1 this
    rw [← e2]; exact h.t y hy
set_option maxHeartbeats 2000000 in
theorem copyV_any (v : Value) (l : List Atm) (w : World) (h : AS w v l) (hl : l.length * 40 ≤ 140737488355328) :
    Calls Tryd.prog 37 #[v] w fun e w' => ∃ p cap, e = .returned (.slice p l.length cap) ∧ OwnG KA w' w.heap.size (.slice p l.length cap) l ∧ Below w.heap.size w w' := by
  have H0 : Hid (AS (w.alloc (.cells #[] 77)) v l) := h.below ((Below.refl _ _).alloc (Nat.le_refl _) _)
  have E0 : Hid (OwnG KA (w.alloc (.cells #[] 77)) w.heap.size (.slice (some ⟨w.heap.size, 0, none⟩) 0 0) []) := OwnG.empty KA w
  have HL : Hid ((([] : List Atm).length + l.length) * KA.B ≤ 140737488355328) := by show (([] : List Atm).length + l.length) * 40 ≤ 140737488355328; simpa using hl
  clear h
  go_enter Tryd.func37, Tryd.ntmps37
  go_wp2_with (at_builtin; refine append_gs KA KA_ok rfl (.tmp 3) (.tmp 4) 32 rfl w.heap.size Tryd.underlying32 _ _ v [] l rfl rfl E0.out H0.out HL.out (by simp) ?_; intro v8 w8 ho8 hb8 hk8)
  go_ret
  rw [List.nil_append] at ho8
  obtain ⟨p, cap, rfl, _⟩ := ho8.form
  exact ⟨p, cap, rfl, ho8, ((Below.refl _ _).alloc (Nat.le_refl _) _).trans hb8⟩
set_option maxHeartbeats 4000000 in
theorem sameV_same (w : World) (v1 v2 : Value) (l : List Atm) (h1 : AS w v1 l) (h2 : AS w v2 l) (hl : l.length ≤ 100000000000000000) :
    Calls Tryd.prog 41 #[v1, v2] w fun e w' => e = .returned (.bool true) ∧ Below w.heap.size w w' := by
  obtain ⟨p1, c1, rfl⟩ := h1.form
  obtain ⟨p2, c2, rfl⟩ := h2.form
  have A1 : Hid (AS w (.slice p1 l.length c1) l) := h1
  have A2 : Hid (AS w (.slice p2 l.length c2) l) := h2
  have DR : Hid (∀ n, Below w.heap.size w (w.drewN n)) := fun n => ⟨rfl, rfl, rfl, Nat.le_refl _, fun _ _ => rfl⟩
  clear h1 h2
  go_enter Tryd.func41, Tryd.ntmps41
  go_wp2
  go_loopw [5] (fun v5 wr => ∃ (k m : Nat), v5 = .int .i64 k ∧ k ≤ l.length ∧ wr = w.drewN m) (fun v5 _ => l.length - (intOf v5).toNat)
  case atStart => exact ⟨0, 0, rfl, Nat.zero_le _, rfl⟩
  case round =>
    obtain ⟨k, m, rfl, hk, rfl⟩ := hrel
    by_cases hlt : k < l.length
    · obtain ⟨X1, o1, e1, x1, x2, x3, x4⟩ := A1.out.atA hlt
      obtain rfl : p1 = some ⟨X1, o1, none⟩ := e1
      obtain ⟨X2, o2, e2, y1, y2, y3, y4⟩ := A2.out.atA hlt
      obtain rfl : p2 = some ⟨X2, o2, none⟩ := e2
      obtain ⟨f, hf⟩ : ∃ f, f = l[k] := ⟨_, rfl⟩
      rw [← hf] at x1 x2 x3 x4 y1 y2 y3 y4
      clear hf
      go_wp2
      go_quiet (fail)
      go_wp2
      all_goals
        go_roundw
        case rel => exact ⟨k + 1, _, by go_num, by omega, rfl⟩
        case measure => simp [intOf]; omega
    · go_wp2
      go_ret
      exact ⟨rfl, DR.out _⟩
end Go.Proofs.YtbgeihgenckihaaDoor
