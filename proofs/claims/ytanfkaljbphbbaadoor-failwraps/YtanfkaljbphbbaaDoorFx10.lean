/- Failures: the reference's Deep. -/
import Derived.Test.YtanfkaljbphbbaaDoorFx9
namespace Go.Proofs.YtanfkaljbphbbaaDoor
open Go.RowKit

def mxL : List Int → Int
  | [] => 0
  | a :: r => max a (mxL r)
/-- The depths of the wholes that are left. -/
def dpS : List Int → List Cr → List Int
  | S, [] => S
  | S, c :: r => dpS (S.take (S.length - c.n.toNat) ++ [mxL (S.drop (S.length - c.n.toNat)) + 1]) r
def deepV (l : List Cr) : Int := (dpS [] l).getD 0 0
theorem mxL_bd : ∀ (L : List Int) (B : Int), 0 ≤ B → (∀ x ∈ L, x ≤ B) → 0 ≤ mxL L ∧ mxL L ≤ B
  | [], B, h, _ => ⟨Int.le_refl _, h⟩
  | a :: r, B, h, hx => by
    have h1 := mxL_bd r B h (fun x hx2 => hx x (List.mem_cons_of_mem _ hx2))
    have h2 := hx a (List.mem_cons_self ..)
    rw [mxL]; omega
theorem mxL_drop {S : List Int} {q : Nat} (h : q < S.length) : mxL (S.drop q) = max (S.getD q 0) (mxL (S.drop (q + 1))) := by
  rw [List.drop_eq_getElem_cons h, mxL]; simp [h]
theorem walk_step {c : Cr} {r : List Cr} {s t : Int} (h : walkC s (c :: r) = some t) : (crB c = true ∧ c.n ≤ s) ∧ walkC (s + (1 - c.n)) r = some t := by
  rw [walkC] at h
  split at h
  · rename_i hc; exact ⟨hc, h⟩
  · cases h
theorem chk_ok {l : List Cr} (h : chk l = 0) : l.length ≤ 1024 ∧ walkC 0 l = some 1 := by
  unfold chk at h
  split at h
  · omega
  · split at h
    · rename_i h1 h2; exact ⟨by omega, h2⟩
    · omega
/-- How far the reference's Deep has come. -/
structure DI (w wk : World) (g cs : Nat) (S : List Int) (k : Nat) (l : List Cr) : Prop where
  s : OwnI wk w.heap.size (.slice (some ⟨g, 0, none⟩) S.length cs) S
  bl : Below w.heap.size w wk
  wl : walkC S.length (l.drop k) = some 1
  dp : dpS [] l = dpS S (l.drop k)
  bd : ∀ x ∈ S, 0 ≤ x ∧ x ≤ k
  ls : S.length ≤ k
theorem own_cell {w : World} {base g n cap : Nat} {S : List Int} (h : OwnI w base (.slice (some ⟨g, 0, none⟩) n cap) S) (hn : n = S.length) {j : Nat} (hj : j < S.length) : w.cell? ⟨g, j, none⟩ = some (.int .i64 (S.getD j 0)) := by
  subst hn
  rw [World.ownsRow.cellAt h j (by omega)]
  simp [iV, hj]
theorem own_cap {w : World} {base g n cap : Nat} {S : List Int} (h : OwnI w base (.slice (some ⟨g, 0, none⟩) n cap) S) : S.length ≤ cap := by
  rcases h.2 with ⟨e, _⟩ | ⟨g', cp, cur, e, _, _, hcp, _⟩
  · cases e
  · injection e with _ _ e; omega
theorem mem_getD {S : List Int} {j : Nat} (h : j < S.length) : S.getD j 0 ∈ S := by
  rw [List.getD_eq_getElem?_getD, List.getElem?_eq_getElem h]; exact List.getElem_mem h
set_option maxHeartbeats 8000000 in
set_option maxRecDepth 100000 in
theorem rdeep_ok (v : Value) (l : List Cr) (w : World) (h : CS w v l) (ht : ∀ c ∈ l, c.text.size ≤ maxLen) (hc : chk l = 0) :
    Calls Tryd.prog 11 #[v] w fun e w' => e = .returned (.tuple #[.int .i64 (deepV l), .int .i64 0]) ∧ Below w.heap.size w w' := by
  obtain ⟨hl, hw⟩ := chk_ok hc
  obtain ⟨p, cap, rfl⟩ := h.form
  have CK := rcheck_any _ l w h ht (by omega)
  rw [hc] at CK
  have HS : Hid (CS w (.slice p l.length cap) l) := h
  have HW : Hid (walkC 0 l = some 1) := hw
  have HD : Hid (deepV l = (dpS [] l).getD 0 0) := rfl
  generalize deepV l = dv at *
  clear h ht hc hw
  go_enter Tryd.func11, Tryd.ntmps11
  go_wp2_with (go_at_call 15; refine CK.mono ?_; rintro e w1 ⟨rfl, hb1⟩; have HB1 : Hid (Below w.heap.size w w1) := hb1; clear hb1)
  have D0 : Hid (DI w (w1.alloc (.cells #[] 3)) w1.heap.size 0 [] 0 l) := ⟨(ownI_empty w1).low HB1.out.size, HB1.out.alloc HB1.out.size _, HW.out, rfl, (fun x hx => by simp at hx), Nat.le_refl _⟩
  clear CK
  go_loopw [5, 6] (fun v5 v6 wr => ∃ (k g cs : Nat) (S : List Int) (wk : World), v6 = .int .i64 k ∧ v5 = .slice (some ⟨g, 0, none⟩) S.length cs ∧ wk = wr ∧ k ≤ l.length ∧ Hid (DI w wk g cs S k l)) (fun _ v6 _ => l.length - (intOf v6).toNat)
  case atStart => exact ⟨0, _, 0, [], _, rfl, rfl, rfl, Nat.zero_le _, D0⟩
  case round =>
    obtain ⟨k, g, cs, S, wr, rfl, rfl, rfl, hk, HI⟩ := hrel
    clear D0
    by_cases hlt : k < l.length
    · obtain ⟨X, o, e1, x1, x2, x3⟩ := (HS.out.below HI.out.bl).at hlt
      obtain rfl : p = some ⟨X, o, none⟩ := e1
      have hwl := HI.out.wl
      have hdp := HI.out.dp
      rw [drop_cr hlt] at hwl hdp
      obtain ⟨c, hcc⟩ : ∃ c, c = l[k] := ⟨_, rfl⟩
      rw [← hcc] at x1 x2 x3 hwl hdp
      obtain ⟨⟨hcb, hcn⟩, hwn⟩ := walk_step hwl
      obtain ⟨hn0, hn1⟩ := crB_n hcb
      obtain ⟨m, hm⟩ : ∃ m : Nat, c.n = m := ⟨c.n.toNat, by omega⟩
      have hmS : m ≤ S.length := by omega
      rw [hm] at x2
      have HWN : Hid (walkC (S.length - m + 1 : Nat) (l.drop (k + 1)) = some 1) := by
        show walkC _ _ = _
        rw [show ((S.length - m + 1 : Nat) : Int) = S.length + (1 - c.n) by omega]; exact hwn
      have HDN : Hid (dpS [] l = dpS (S.take (S.length - m) ++ [mxL (S.drop (S.length - m)) + 1]) (l.drop (k + 1))) := by
        show dpS [] l = _
        rw [hdp, dpS, show c.n.toNat = m by omega]
      have hcap : S.length ≤ cs := own_cap HI.out.s
      have hSk : S.length ≤ k := HI.out.ls
      have hkl : k ≤ 1024 := by omega
      clear hcc hwl hdp hcb hcn hwn hn0 hn1 hm
      go_wp2
      go_loop [5, 7, 8] (fun v5 v7 v8 => ∃ (j q : Nat), v8 = .int .i64 j ∧ v5 = .slice (some ⟨g, 0, none⟩) q cs ∧ q + j = S.length ∧ j ≤ m ∧ v7 = .int .i64 (mxL (S.drop q))) (fun _ _ v8 => m - (intOf v8).toNat)
      case atStart => exact ⟨0, S.length, rfl, rfl, rfl, Nat.zero_le _, by simp [mxL]⟩
      case round =>
        obtain ⟨j, q, rfl, rfl, hq, hj, rfl⟩ := hrel
        have bd := mxL_bd (S.drop q) k (by omega) (fun x hx => (HI.out.bd x (List.mem_of_mem_drop hx)).2)
        obtain ⟨bd1, bd2⟩ := bd
        by_cases hjm : j < m
        · obtain ⟨q', rfl⟩ : ∃ q', q = q' + 1 := ⟨q - 1, by omega⟩
          have cq := own_cell HI.out.s rfl (j := q') (by omega)
          have MD : Hid _ := mxL_drop (S := S) (q := q') (by omega)
          have be := HI.out.bd _ (mem_getD (S := S) (j := q') (by omega))
          generalize S.getD q' 0 = y at *
          generalize mxL (S.drop (q' + 1)) = z at *
          go_wp2
          go_round
          case rel => exact ⟨j + 1, q', by go_num, rfl, by omega, by omega, by rw [MD.out]; congr 1; split <;> omega⟩
          case measure => simp [intOf]; omega
        · have hqe : q = S.length - m := by omega
          obtain ⟨S0, hS0⟩ : ∃ S0, S0 = S.take q := ⟨_, rfl⟩
          have hS0l : S0.length = q := by rw [hS0]; simp; omega
          have C0 : Hid (OwnI wr w.heap.size (.slice (some ⟨g, 0, none⟩) q cs) S0) := by show OwnI _ _ _ _; rw [hS0]; exact HI.out.s.cut q (by omega)
          have LS : Hid (S0.length ≤ 100000) := by show S0.length ≤ 100000; omega
          have ZB : Hid (w.heap.size ≤ wr.heap.size) := HI.out.bl.size
          have NXT : Hid (∀ g1 c1 w6, OwnI w6 w.heap.size (.slice (some ⟨g1, 0, none⟩) (S0.length + 1) c1) (S0 ++ [mxL (S.drop q) + 1]) → Below w.heap.size wr w6 → DI w w6 g1 c1 (S0 ++ [mxL (S.drop q) + 1]) (k + 1) l) := fun g1 c1 w6 ho hb => by
            refine ⟨by rw [List.length_append]; exact ho, HI.out.bl.trans hb, ?_, ?_, ?_, by simp; omega⟩
            · have := HWN.out; rw [List.length_append, hS0l, hqe]; exact this
            · have := HDN.out; rw [← hqe, ← hS0] at this; exact this
            · intro x hx
              rw [List.mem_append, List.mem_singleton] at hx
              rcases hx with hx | hx
              · rw [hS0] at hx
                have := HI.out.bd x (List.mem_of_mem_take hx); omega
              · omega
          have hne : Hid ((S0 ++ [mxL (S.drop q) + 1]).length = S0.length + 1) := by show _ = _; simp
          generalize mxL (S.drop q) = z at *
          clear hS0 hS0l hqe
          go_wp2_with (at_builtin; refine append_int rfl (.tmp 43) (.tmp 46) 38 rfl w.heap.size Tryd.underlying38 info_int _ _ _ (.slice (some ⟨g, 0, none⟩) q cs) S0 (z + 1) _ rfl C0.out _ rfl rfl rfl LS.out ZB.out ?_; intro g1 c1 w6 ho6 hb6 hk6 hg6)
          go_roundw
          case rel => exact ⟨k + 1, g1, c1, S0 ++ [z + 1], _, by go_num, by rw [hne.out], rfl, by omega, NXT.out _ _ _ ho6 hb6⟩
          case measure => simp [intOf]; omega
    · have hwl := HI.out.wl
      have hdp := HI.out.dp
      rw [List.drop_eq_nil_of_le (by omega)] at hwl hdp
      rw [walkC] at hwl
      injection hwl with hS1
      have hS1n : S.length = 1 := by omega
      have c0 := own_cell HI.out.s rfl (j := 0) (by omega)
      have HR : Hid (dv = S.getD 0 0) := by show dv = _; rw [HD.out, hdp, dpS]
      rw [hS1n]
      obtain ⟨y, hy⟩ : ∃ y, y = S.getD 0 0 := ⟨_, rfl⟩
      rw [← hy] at c0 HR
      have HR2 : dv = y := HR.out
      subst HR2
      clear hdp hS1 hS1n HR hy HD
      go_wp2
      go_ret2
      exact ⟨rfl, HI.out.bl⟩
end Go.Proofs.YtanfkaljbphbbaaDoor
