/- Values: value.read of any tokens. -/
import Derived.Test.YtahcllncjpaijabDoorTok5
namespace Go.Proofs.YtahcllncjpaijabDoor
open Go.RowKit

/-- Rows of tokens. -/
def KT : RK L1.Tok := ⟨77, 4, 40, .agg #[.int .i64 0, .int .i64 0, .int .i64 0, .string ByteArray.empty], L1.tokC⟩
theorem KT_len : ∀ x, (KT.f x).length = KT.W := fun _ => rfl
theorem ownT_gs {w : World} {base : Nat} {v : Value} {l : List L1.Tok} (h : L1.OwnT w base v l) : GS KT w v l := OwnG.gs (K := KT) KT_len h
theorem GS.atT {w : World} {p : Option Addr} {n cap k : Nat} {l : List L1.Tok} (h : GS KT w (.slice p n cap) l) (hk : k < l.length) : ∃ X o, p = some ⟨X, o, none⟩ ∧ X < w.heap.size ∧ w.cell? ⟨X, o + k * 4, none⟩ = some (.int .i64 l[k].kind) ∧ w.cell? ⟨X, o + k * 4 + 1, none⟩ = some (.int .i64 l[k].pos) ∧ w.cell? ⟨X, o + k * 4 + 2, none⟩ = some (.int .i64 l[k].num) ∧ w.cell? ⟨X, o + k * 4 + 3, none⟩ = some (.string ⟨l[k].text.toArray⟩) := by
  obtain ⟨X, o, h1, h2, h3⟩ := GS.at h hk
  exact ⟨X, o, h1, h2, h3 0 _ rfl, h3 1 _ rfl, h3 2 _ rfl, h3 3 _ rfl⟩
/-- Bounds of where the reader stands behind k tokens. -/
structure RB (st : RdS) (k : Nat) : Prop where
  l : st.l.length ≤ k
  r : st.R.length ≤ k + 1
  n : st.R ≠ []
  m : ∀ y ∈ st.R, 0 ≤ y ∧ y ≤ (k : Int)
  s : st.sg = 1 ∨ st.sg = -1
theorem RB.start : RB ⟨[], [0], 1⟩ 0 := ⟨Nat.le_refl _, by simp, by simp, by simp, Or.inl rfl⟩
theorem bump_ne {R : List Int} (h : R ≠ []) : bump R ≠ [] := by
  cases R with
  | nil => exact absurd rfl h
  | cons a r => simp [bump]
theorem bump_bd {R : List Int} {k : Nat} (h : ∀ y ∈ R, 0 ≤ y ∧ y ≤ (k : Int)) : ∀ y ∈ bump R, 0 ≤ y ∧ y ≤ ((k + 1 : Nat) : Int) := by
  intro y hy
  cases R with
  | nil => simp [bump] at hy
  | cons a r =>
    rw [bump] at hy
    rcases List.mem_cons.1 hy with rfl | hy
    · have := h a (by simp); omega
    · have := h y (by simp [hy]); omega
theorem RB.next {st : RdS} {k : Nat} (h : RB st k) (a b : Int) (tx : List UInt8) : RB (rdS st a b tx) (k + 1) := by
  have hl := h.l
  have hr := h.r
  have hw : RB st (k + 1) := ⟨by omega, by omega, h.n, fun y hy => by have := h.m y hy; omega, h.s⟩
  unfold rdS
  split
  · exact ⟨by simp; omega, by rw [bump_len]; omega, bump_ne h.n, bump_bd h.m, Or.inl rfl⟩
  · split
    · exact ⟨by simp; omega, by rw [bump_len]; omega, bump_ne h.n, bump_bd h.m, h.s⟩
    · split
      · split
        · exact ⟨by simp; omega, by simp; omega, h.n, hw.m, Or.inr rfl⟩
        · split
          · refine ⟨by simp; omega, by simp; omega, by simp, fun y hy => ?_, h.s⟩
            rcases List.mem_cons.1 hy with rfl | hy
            · omega
            · exact hw.m y hy
          · split
            · rename_i hc
              have htl : st.R.tail ≠ [] := by
                intro e
                have h1 : st.R.tail.length = 0 := by rw [e]; rfl
                rw [List.length_tail] at h1
                omega
              refine ⟨by simp; omega, by rw [bump_len, List.length_tail]; omega, bump_ne htl, bump_bd (fun y hy => h.m y (List.mem_of_mem_tail hy)), h.s⟩
            · exact hw
      · exact hw
def toksL (T : List L1.Tok) (k : Nat) : List (Int × Int × List UInt8) := (T.take k).map L1.np
def rdK (T : List L1.Tok) (k : Nat) : RdS := rdG ⟨[], [0], 1⟩ (toksL T k)
theorem rdK_next {T : List L1.Tok} {k : Nat} (h : k < T.length) : rdK T (k + 1) = rdS (rdK T k) T[k].kind T[k].num T[k].text := by
  unfold rdK toksL
  rw [List.take_add_one, List.getElem?_eq_getElem h, List.map_append, rdG_app]
  rfl
theorem rdK_bd (T : List L1.Tok) : ∀ k, k ≤ T.length → RB (rdK T k) k
  | 0, _ => RB.start
  | k + 1, h => by rw [rdK_next (by omega)]; exact (rdK_bd T k (by omega)).next _ _ _
theorem rdK_all (T : List L1.Tok) : rdK T T.length = rdG ⟨[], [0], 1⟩ (T.map L1.np) := by unfold rdK toksL; rw [List.take_length]
/-- .. number, text or mark: one token read. -/
theorem rdS_int (st : RdS) (n : Int) (tx : List UInt8) : rdS st 4 n tx = ⟨st.l ++ [⟨1, 0, st.sg * n, ByteArray.empty⟩], bump st.R, 1⟩ := by unfold rdS; rw [if_pos rfl]
theorem rdS_text (st : RdS) (n : Int) (tx : List UInt8) : rdS st 5 n tx = ⟨st.l ++ [⟨2, 0, 0, ⟨tx.toArray⟩⟩], bump st.R, st.sg⟩ := by unfold rdS; rw [if_neg (by decide), if_pos rfl]
theorem rdS_mk (st : RdS) (n : Int) (tx : List UInt8) : rdS st 6 n tx = rdS st 6 0 tx := by simp [rdS]
theorem rdS_else {st : RdS} {k n : Int} {tx : List UInt8} (h4 : ¬ k = 4) (h5 : ¬ k = 5) (h6 : ¬ k = 6) : rdS st k n tx = st := by unfold rdS; rw [if_neg h4, if_neg h5, if_neg h6]
/-- The reader where it stands. -/
structure RQ (w wk : World) (B : Nat) (st : RdS) : Prop where
  rd : ∃ v m, RD wk w.heap.size B v m st.l st.R st.sg
  bl : Below w.heap.size w wk
end Go.Proofs.YtahcllncjpaijabDoor
namespace Go.Proofs.YtahcllncjpaijabDoor
open Go.RowKit

theorem own_zero (w : World) : OwnG KI (w.alloc (.cells #[.int .i64 0] 3)) w.heap.size (.slice (some ⟨w.heap.size, 0, none⟩) 1 1) [0] :=
  ⟨by simp [KI], Or.inr ⟨w.heap.size, 1, #[.int .i64 0], rfl, Nat.le_refl _, heap_alloc_new w _, Nat.le_refl _, by unfold maxLen; omega, by simp [KI], by simp [KI]⟩⟩
theorem RQ.start (w : World) : RQ w ((w.alloc (.cells #[.int .i64 0] 3)).alloc (.cells #[.slice none 0 0, .slice (some ⟨w.heap.size, 0, none⟩) 1 1, .int .i64 1] 81)) (w.heap.size + 1) ⟨[], [0], 1⟩ := by
  have b1 : Below w.heap.size w (w.alloc (.cells #[.int .i64 0] 3)) := (Below.refl _ _).alloc (Nat.le_refl _) _
  have e : w.heap.size + 1 = (w.alloc (.cells #[.int .i64 0] 3)).heap.size := by simp
  refine ⟨⟨.slice none 0 0, .slice (some ⟨w.heap.size, 0, none⟩) 1 1, ?_, by omega, OwnG.nil _ _ _, ?_⟩, b1.alloc (by simp) _⟩
  · rw [e]; exact heap_alloc_new _ _
  · exact (own_zero w).below ((Below.refl _ _).alloc (Nat.le_refl _) _)
theorem RQ.alloc {w wk : World} {B : Nat} {st : RdS} (h : RQ w wk B st) (o : Obj) : RQ w (wk.alloc o) B st := by
  obtain ⟨⟨v, m, h1⟩, h2⟩ := h
  exact ⟨⟨v, m, h1.below ((Below.refl _ _).alloc (Nat.le_refl _) o)⟩, h2.alloc h2.size o⟩
theorem RQ.addC {w wk : World} {B : Nat} {st : RdS} {K : Nat} (h : RQ w wk B st) (hb : RB st K) (hK : K ≤ 100000) (k n i : Int) (tx : ByteArray) :
    Calls Tryd.prog 34 #[.pointer (some ⟨B, 0, none⟩), .agg #[.int .i64 k, .int .i64 n, .int .i64 i, .string tx]] wk fun e w' => e = .returned (.tuple #[]) ∧ RQ w w' B ⟨st.l ++ [⟨k, n, i, tx⟩], bump st.R, st.sg⟩ := by
  obtain ⟨⟨v, m, h1⟩, h2⟩ := h
  obtain ⟨l, R, sg⟩ := st
  have b1 := hb.l
  have b2 := hb.r
  have b3 := hb.n
  have b4 := hb.m
  simp only at b1 b2 b3 b4 h1
  cases R with
  | nil => exact absurd rfl b3
  | cons x r =>
    rw [List.length_cons] at b2
    have := b4 x (by simp)
    refine (radd_any wk w.heap.size B v m l x r sg k n i tx h1 (by omega) (by omega) (by omega)).mono ?_
    rintro e w' ⟨rfl, v', m', h9, b9⟩
    exact ⟨rfl, ⟨v', m', h9⟩, h2.trans b9⟩
theorem RQ.markC {w wk : World} {B : Nat} {st : RdS} {K : Nat} (h : RQ w wk B st) (hb : RB st K) (hK : K ≤ 100000) (tx : ByteArray) :
    Calls Tryd.prog 35 #[.pointer (some ⟨B, 0, none⟩), .string tx] wk fun e w' => e = .returned (.tuple #[]) ∧ RQ w w' B (rdS st 6 0 tx.data.toList) := by
  obtain ⟨⟨v, m, h1⟩, h2⟩ := h
  obtain ⟨l, R, sg⟩ := st
  have b1 := hb.l
  have b2 := hb.r
  have b3 := hb.n
  have b4 := hb.m
  simp only at b1 b2 b3 b4 h1
  cases R with
  | nil => exact absurd rfl b3
  | cons x r =>
    rw [List.length_cons] at b2
    refine (rmark_any wk w.heap.size B v m l x r sg tx h1 (by omega) (by omega) (fun y hy => by have := b4 y hy; omega)).mono ?_
    rintro e w' ⟨rfl, v', m', h9, b9⟩
    exact ⟨rfl, ⟨v', m', h9⟩, h2.trans b9⟩
theorem RQ.sign {w wk : World} {B : Nat} {l : List Atm} {R : List Int} {sg : Int} (h : RQ w wk B ⟨l, R, sg⟩) : RQ w (wk.setCell ⟨B, 2, none⟩ (.int .i64 1)) B ⟨l, R, 1⟩ ∧ wk.cell? ⟨B, 2, none⟩ = some (.int .i64 sg) ∧ wk.frozen? ⟨B, 2, none⟩ = false := by
  obtain ⟨⟨v, m, h1⟩, h2⟩ := h
  exact ⟨⟨⟨v, m, h1.put2 1⟩, h2.setCell h1.bb _⟩, h1.c2, h1.fz 2⟩
theorem RQ.fin {w wk : World} {B : Nat} {st : RdS} (h : RQ w wk B st) : ∃ v, wk.cell? ⟨B, 0, none⟩ = some v ∧ OwnG KA wk w.heap.size v st.l := by
  obtain ⟨⟨v, m, h1⟩, _⟩ := h
  exact ⟨v, h1.c0, h1.oa⟩
set_option maxHeartbeats 8000000 in
set_option maxRecDepth 100000 in
theorem read_any (v : Value) (T : List L1.Tok) (w : World) (h : GS KT w v T) (hl : T.length ≤ 100000) (hN : ∀ t ∈ T, 0 ≤ t.num ∧ t.num ≤ 9007199254740992) :
    Calls Tryd.prog 17 #[v] w fun e w' => ∃ u, e = .returned u ∧ OwnG KA w' w.heap.size u (rdG ⟨[], [0], 1⟩ (T.map L1.np)).l ∧ Below w.heap.size w w' := by
  rw [← rdK_all]
  obtain ⟨p, cap, rfl⟩ := h.form
  have Q0 : Hid (RQ w _ _ (rdK T 0)) := RQ.start w
  have HG : Hid (GS KT w (.slice p T.length cap) T) := h
  clear h
  go_enter Tryd.func17, Tryd.ntmps17
  go_wp2_with fail
  obtain ⟨B, hB⟩ : ∃ B, B = w.heap.size + 1 := ⟨_, rfl⟩
  rw [← hB] at Q0
  simp only [← hB]
  clear hB
  go_loopw [10] (fun v10 wr => ∃ (k : Nat) (wk : World), v10 = .int .i64 k ∧ wk = wr ∧ k ≤ T.length ∧ Hid (RQ w wk B (rdK T k))) (fun v10 _ => T.length - (intOf v10).toNat)
  case atStart => exact ⟨0, _, rfl, rfl, Nat.zero_le _, Q0⟩
  case round =>
    obtain ⟨k, wr, rfl, rfl, hk, HQ⟩ := hrel
    clear Q0
    by_cases hlt : k < T.length
    · obtain ⟨X, o, e1, hX, x0, x1, x2, x3⟩ := (HG.out.below HQ.out.bl).atT hlt
      obtain rfl : p = some ⟨X, o, none⟩ := e1
      have HN : Hid (rdK T (k + 1) = rdS (rdK T k) T[k].kind T[k].num T[k].text) := rdK_next hlt
      have HB : Hid (RB (rdK T k) k) := rdK_bd T k (by omega)
      have hn := hN T[k] (List.getElem_mem _)
      obtain ⟨tk, htk⟩ : ∃ x, x = T[k].kind := ⟨_, rfl⟩
      obtain ⟨tp, htp⟩ : ∃ x, x = T[k].pos := ⟨_, rfl⟩
      obtain ⟨tn, htn⟩ : ∃ x, x = T[k].num := ⟨_, rfl⟩
      obtain ⟨tt, htt⟩ : ∃ x, x = T[k].text := ⟨_, rfl⟩
      rw [← htk, ← htn, ← htt] at HN
      rw [← htn] at hn x2
      rw [← htk] at x0
      rw [← htp] at x1
      rw [← htt] at x3
      clear htk htp htn htt
      have QA : Hid (RQ w (wr.alloc (.cells #[.int .i64 tk, .int .i64 tp, .int .i64 tn, .string ⟨tt.toArray⟩] 77)) B (rdK T k)) := HQ.out.alloc _
      have hk1 : k ≤ 100000 := by omega
      have y : ∀ j, (wr.alloc (.cells #[.int .i64 tk, .int .i64 tp, .int .i64 tn, .string ⟨tt.toArray⟩] 77)).cell? ⟨wr.heap.size, j, none⟩ = (#[.int .i64 tk, .int .i64 tp, .int .i64 tn, .string ⟨tt.toArray⟩] : Array Value)[j]? := fun j => cell_of_row _ _ _ _ _ _ (heap_alloc_new _ _)
      go_upto_region 5 with fail
      generalize hW : World.alloc _ _ = W at *
      have y0 : W.cell? ⟨wr.heap.size, 0, none⟩ = some (.int .i64 tk) := y 0
      have y2 : W.cell? ⟨wr.heap.size, 2, none⟩ = some (.int .i64 tn) := y 2
      have y3 : W.cell? ⟨wr.heap.size, 3, none⟩ = some (.string ⟨tt.toArray⟩) := y 3
      clear hW y x0 x1 x2 x3 HQ hX HG hN
      generalize wr.heap.size = bb at *
      generalize rdK T k = st at *
      obtain ⟨sl, sR, sg⟩ := st
      by_cases h4 : tk = 4
      · subst h4
        rw [rdS_int] at HN
        have c2 := QA.out.sign.2.1
        rcases HB.out.s with hs | hs
        · obtain rfl : sg = 1 := hs
          have AD : Hid (Calls Tryd.prog 34 #[.pointer (some ⟨B, 0, none⟩), .agg #[.int .i64 1, .int .i64 0, .int .i64 tn, .string ByteArray.empty]] W _) := QA.out.addC HB.out hk1 1 0 tn ByteArray.empty
          go_wp2_with (go_at_call 34; refine AD.out.mono ?_; rintro e w9 ⟨rfl, h9⟩; obtain ⟨s9, z9, f9⟩ := h9.sign; have S9 : Hid _ := s9; clear s9 h9)
          go_roundw
          case rel => exact ⟨k + 1, _, by go_num, rfl, hlt, by rw [HN.out]; have e := S9; simpa using e⟩
          case measure => simp [intOf]; omega
        · obtain rfl : sg = -1 := hs
          have AD : Hid (Calls Tryd.prog 34 #[.pointer (some ⟨B, 0, none⟩), .agg #[.int .i64 1, .int .i64 0, .int .i64 (-tn), .string ByteArray.empty]] W _) := QA.out.addC HB.out hk1 1 0 (-tn) ByteArray.empty
          go_wp2_with (go_at_call 34; refine AD.out.mono ?_; rintro e w9 ⟨rfl, h9⟩; obtain ⟨s9, z9, f9⟩ := h9.sign; have S9 : Hid _ := s9; clear s9 h9)
          go_roundw
          case rel => exact ⟨k + 1, _, by go_num, rfl, hlt, by rw [HN.out]; have e := S9; simpa using e⟩
          case measure => simp [intOf]; omega
      · by_cases h5 : tk = 5
        · subst h5
          rw [rdS_text] at HN
          have AD : Hid (Calls Tryd.prog 34 #[.pointer (some ⟨B, 0, none⟩), .agg #[.int .i64 2, .int .i64 0, .int .i64 0, .string ⟨tt.toArray⟩]] W _) := QA.out.addC HB.out hk1 2 0 0 ⟨tt.toArray⟩
          go_wp2_with (go_at_call 34; refine AD.out.mono ?_; rintro e w9 ⟨rfl, h9⟩; have S9 : Hid _ := h9; clear h9)
          go_roundw
          case rel => exact ⟨k + 1, _, by go_num, rfl, hlt, by rw [HN.out]; exact S9⟩
          case measure => simp [intOf]; omega
        · by_cases h6 : tk = 6
          · subst h6
            rw [rdS_mk] at HN
            have AD : Hid (Calls Tryd.prog 35 #[.pointer (some ⟨B, 0, none⟩), .string ⟨tt.toArray⟩] W _) := QA.out.markC HB.out hk1 ⟨tt.toArray⟩
            go_wp2_with (go_at_call 35; refine AD.out.mono ?_; rintro e w9 ⟨rfl, h9⟩; have S9 : Hid _ := h9; clear h9)
            go_roundw
            case rel => exact ⟨k + 1, _, by go_num, rfl, hlt, by rw [HN.out]; exact S9⟩
            case measure => simp [intOf]; omega
          · rw [rdS_else h4 h5 h6] at HN
            go_wp2_with fail
            go_roundw
            case rel => exact ⟨k + 1, _, by go_num, rfl, hlt, by rw [HN.out]; exact QA⟩
            case measure => simp [intOf]; omega
    · obtain rfl : k = T.length := by omega
      obtain ⟨u, c0, ou⟩ := HQ.out.fin
      have OU : Hid _ := ou
      have BL : Hid (Below w.heap.size w wr) := HQ.out.bl
      clear ou HQ HG hN
      go_wp2_with fail
      go_ret
      exact ⟨u, rfl, OU.out, BL.out⟩
end Go.Proofs.YtahcllncjpaijabDoor
