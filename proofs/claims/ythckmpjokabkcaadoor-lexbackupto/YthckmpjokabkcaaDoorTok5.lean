/- The walk of lex.Tokens: all tokens of a text, or the first fault. -/
import Derived.Test.YthckmpjokabkcaaDoorTok4
namespace Go.Proofs.YthckmpjokabkcaaDoor
open Go.RowKit

theorem rtV_code (r : RT) (n : Nat) (h : r.code ≠ 0) : rtV r n = .tuple #[.agg #[.int .i64 0, .int .i64 0, .int .i64 0, .string ⟨#[]⟩], .int .i64 0, .int .i64 r.code] := by simp [rtV, h, tokA]
theorem rtV_good (r : RT) (n : Nat) (h : r.code = 0) : rtV r n = .tuple #[.agg #[.int .i64 r.kind, .int .i64 n, .int .i64 r.num, .string ⟨r.text.toArray⟩], .int .i64 (n + r.len : Nat), .int .i64 0] := by simp [rtV, h, tokA]
/-- The block of the fault that is handed back. -/
def faultB : Obj := .cells #[.int .i64 0, .int .i64 0] 25
/-- Where the reading of all tokens stands. -/
def TRel (l : List UInt8) (X : List Tok × Int × Int) (p f : Nat) (done : List Tok) : Prop := X = (done ++ (tkGo l f p done.length).1, (tkGo l f p done.length).2)
theorem TRel.stop {l : List UInt8} {X : List Tok × Int × Int} {p f : Nat} {done : List Tok} (h : TRel l X p f done) (hp : l.length ≤ p) : X = (done, 0, 0) := by
  unfold TRel at h; rw [h]
  cases f with
  | zero => simp [tkGo]
  | succ f => simp only [tkGo]; rw [if_neg (by omega)]; simp
theorem TRel.many {l : List UInt8} {X : List Tok × Int × Int} {p f : Nat} {done : List Tok} (h : TRel l X p (f + 1) done) (hp : p < l.length) (hc : done.length = 8192) : X.2 = ((p : Int), 3) := by
  unfold TRel at h; rw [h]; simp only [tkGo]; rw [if_pos hp, if_pos hc]
theorem TRel.fault {l : List UInt8} {X : List Tok × Int × Int} {p f : Nat} {done : List Tok} (h : TRel l X p (f + 1) done) (hp : p < l.length) (hc : done.length ≠ 8192) (hr : (rt (l.drop p)).code ≠ 0) : X.2 = ((p : Int), (rt (l.drop p)).code) := by
  unfold TRel at h; rw [h]; simp only [tkGo]; rw [if_pos hp, if_neg hc, if_pos hr]
theorem TRel.step {l : List UInt8} {X : List Tok × Int × Int} {p f : Nat} {done : List Tok} (h : TRel l X p (f + 1) done) (hp : p < l.length) (hc : done.length ≠ 8192) (hr : (rt (l.drop p)).code = 0) :
    TRel l X (p + (rt (l.drop p)).len + pbGo false (l.drop (p + (rt (l.drop p)).len))) f (done ++ [⟨(rt (l.drop p)).kind, p, (rt (l.drop p)).num, (rt (l.drop p)).text⟩]) := by
  unfold TRel at h ⊢; rw [h]; simp only [tkGo]; rw [if_pos hp, if_neg hc, if_neg (by simp [hr])]
  simp
/-- What holds at the head of each round. -/
def TI (s : ByteArray) (base : Nat) (w0 : World) (X : List Tok × Int × Int) (v i : Value) (wr : World) : Prop :=
  ∃ (p f : Nat) (done : List Tok), p ≤ s.size ∧ i = .int .i64 p ∧ OwnT wr base v done ∧ done.length ≤ 8192 ∧ Below base w0 wr ∧ base ≤ wr.heap.size ∧ s.size + 1 ≤ p + f ∧ Hid (TRel s.data.toList X p f done)
theorem faultCells (w : World) {wr : World} (h : Below (w.heap.size + 1) (w.alloc faultB) wr) : wr.cell? ⟨w.heap.size, 0, none⟩ = some (.int .i64 0) ∧ wr.cell? ⟨w.heap.size, 1, none⟩ = some (.int .i64 0) ∧ wr.frozen? ⟨w.heap.size, 0, none⟩ = false ∧ wr.frozen? ⟨w.heap.size, 1, none⟩ = false := by
  have hb : ∀ o, wr.cell? ⟨w.heap.size, o, none⟩ = (w.alloc faultB).cell? ⟨w.heap.size, o, none⟩ := fun o => h.cell (p := ⟨w.heap.size, o, none⟩) (by simp)
  have hf : ∀ o, wr.frozen? ⟨w.heap.size, o, none⟩ = (w.alloc faultB).frozen? ⟨w.heap.size, o, none⟩ := fun o => h.frozen (p := ⟨w.heap.size, o, none⟩) (by simp)
  refine ⟨?_, ?_, ?_, ?_⟩
  · rw [hb, faultB, cell_of_row _ _ _ _ _ _ (heap_alloc_new w _)]; rfl
  · rw [hb, faultB, cell_of_row _ _ _ _ _ _ (heap_alloc_new w _)]; rfl
  · rw [hf, faultB]; exact frozen_of_row _ _ _ _ _ (heap_alloc_new w _)
  · rw [hf, faultB]; exact frozen_of_row _ _ _ _ _ (heap_alloc_new w _)
theorem OwnT.form {w : World} {base : Nat} {v : Value} {l : List Tok} (h : OwnT w base v l) : ∃ ao cap, v = .slice ao l.length cap := by
  rcases h.2 with ⟨rfl, h0⟩ | ⟨g, cap, cur, rfl, _⟩
  · exact ⟨none, 0, by rw [h0]⟩
  · exact ⟨_, _, rfl⟩
theorem ownT_setCell {w : World} {base : Nat} {v : Value} {l : List Tok} (h : OwnT w base v l) {a : Addr} (ha : a.block < base) (u : Value) : OwnT (w.setCell a u) base v l := ownsRow_setCell_below h ha u
theorem tkRes_f {l : List UInt8} (h : ¬ 65536 < l.length) (hc : (tkGo l (l.length + 1) (pbGo false l) 0).2.2 ≠ 0) : tkRes l = ([], (tkGo l (l.length + 1) (pbGo false l) 0).2) := by unfold tkRes; rw [if_neg h, if_pos hc]
theorem tkRes_t {l : List UInt8} (h : ¬ 65536 < l.length) (hc : (tkGo l (l.length + 1) (pbGo false l) 0).2.2 = 0) : tkRes l = ((tkGo l (l.length + 1) (pbGo false l) 0).1, 0, 0) := by unfold tkRes; rw [if_neg h, if_neg (by simp [hc])]

set_option maxHeartbeats 4000000 in
theorem tokens_any (s : ByteArray) (w : World) (hmax : s.size ≤ maxLen) (hk : KeysAt w) (hm : MarksAt w) :
    Calls Tryd.prog 8 #[.string s] w fun e w' => ∃ v, e = .returned (.tuple #[v, .agg #[.int .i64 (tkRes s.data.toList).2.1, .int .i64 (tkRes s.data.toList).2.2]]) ∧ OwnT w' (w.heap.size + 1) v (tkRes s.data.toList).1 ∧ Below w.heap.size w w' := by
  unfold maxLen at hmax
  by_cases hlong : 65536 < s.size
  · have HT : Hid (tkRes s.data.toList = ([], 0, 3)) := by show _ = _; unfold tkRes; rw [if_pos (by simpa using hlong)]
    obtain ⟨R, hR⟩ : ∃ R, R = tkRes s.data.toList := ⟨_, rfl⟩
    rw [← hR] at HT ⊢
    clear hR hk hm
    go_enter Tryd.func8, Tryd.ntmps8
    go_wp2
    refine bodyPost_ret (v := .tuple #[.slice none 0 0, .agg #[.int .i64 0, .int .i64 3]]) (by simp [results, Tryd.results8, go_sem]) rfl ⟨.slice none 0 0, by rw [HT.out], by rw [HT.out]; exact ownT_nil _ _, (Below.refl _ _).alloc (Nat.le_refl _) _⟩
  have hs : s.size ≤ 65536 := by omega
  have hl : s.data.toList.length = s.size := by simp
  obtain ⟨X, hX⟩ : ∃ X, X = tkGo s.data.toList (s.data.toList.length + 1) (pbGo false s.data.toList) 0 := ⟨_, rfl⟩
  have HTF : Hid (X.2.2 ≠ 0 → tkRes s.data.toList = ([], X.2)) := fun h => by rw [hX] at h ⊢; exact tkRes_f (by omega) h
  have HTT : Hid (X.2.2 = 0 → tkRes s.data.toList = (X.1, 0, 0)) := fun h => by rw [hX] at h ⊢; exact tkRes_t (by omega) h
  have HX : Hid (TRel s.data.toList X (0 + pbGo false (s.data.toList.drop 0)) (s.size + 1) []) := by
    show TRel _ _ _ _ _
    unfold TRel; rw [hX, hl, Nat.zero_add, List.drop_zero]; simp
  clear hX
  obtain ⟨R, hR⟩ : ∃ R, R = tkRes s.data.toList := ⟨_, rfl⟩
  rw [← hR] at HTF HTT ⊢
  clear hR
  have PB := fun n w1 hn => pastBlank_any s n w1 (by unfold maxLen; omega) hn
  have hp0 : 0 + pbGo false (s.data.toList.drop 0) ≤ s.size := by have := pbGo_le false (s.data.toList.drop 0); simp at this ⊢; omega
  have RT' : ∀ n w1, n < s.size → Below (w.heap.size + 1) (w.alloc faultB) w1 → Calls Tryd.prog 24 #[.string s, .int .i64 n] w1 fun e w' => e = .returned (rtV (rt (s.data.toList.drop n)) n) ∧ Below w1.heap.size w1 w' := fun n w1 hn hb =>
    readToken_any s n w1 hs hn ((hk.alloc faultB).below (hb.mono (by simp))) ((hm.alloc faultB).below (hb.mono (by simp)))
  clear hk hm
  have hF : w.alloc (.cells #[.int .i64 0, .int .i64 0] 25) = w.alloc faultB := rfl
  have hb0 : Below (w.heap.size + 1) (w.alloc faultB) (w.alloc (.cells #[.int .i64 0, .int .i64 0] 25)) := Below.refl _ _
  have HRT : Hid _ := RT'
  have HPB : Hid _ := PB
  clear RT' PB hF
  go_enter Tryd.func8, Tryd.ntmps8
  go_wp2_with (go_at_call 23; refine (HPB.out 0 _ (Nat.zero_le _)).mono ?_; rintro e w' ⟨rfl, rfl⟩)
  go_loopw [4, 5] (fun v i wr => TI s (w.heap.size + 1) (w.alloc faultB) X v i wr) (fun _ i _ => s.size - (intOf i).toNat)
  case atStart => exact ⟨0 + pbGo false (s.data.toList.drop 0), s.size + 1, [], hp0, by simp, ownT_nil _ _, by simp, hb0, by simp, by omega, HX⟩
  case round =>
    obtain ⟨p, f, done, hps, rfl, ho, hdl, hb, hz, hf, HR⟩ := hrel
    clear hb0 HX hp0
    obtain ⟨c0, c1, f0, f1⟩ := faultCells w hb
    by_cases hlt : p < s.size
    · obtain ⟨f', rfl⟩ : ∃ f', f = f' + 1 := ⟨f - 1, by omega⟩
      obtain ⟨ao, cv, rfl⟩ := ho.form
      by_cases hmany : done.length = 8192
      · have HX2 := HR.out.many (by rw [hl]; exact hlt) hmany
        have HR2 : Hid (R = ([], (p : Int), 3)) := by show _ = _; rw [HTF.out (by rw [HX2]; simp), HX2]
        have hmany' : ((done.length : Int) == 8192) = true := by simp; omega
        clear HX2 HR HTF HTT HRT HPB
        go_wp2
        refine bodyPost_ret (v := .tuple #[.slice none 0 0, .agg #[.int .i64 p, .int .i64 3]]) (by simp [results, Tryd.results8, go_sem, c0, c1]) rfl ⟨.slice none 0 0, by rw [HR2.out], by rw [HR2.out]; exact ownT_nil _ _, ?_⟩
        exact ((((Below.refl _ _).alloc (Nat.le_refl _) _).trans (hb.mono (by omega))).setCell (Nat.le_refl _) _).setCell (Nat.le_refl _) _
      · have hmany' : ((done.length : Int) == 8192) = false := by simp; omega
        have C := HRT.out p wr hlt hb
        by_cases hcode : (rt (s.data.toList.drop p)).code = 0
        · have hrl : 1 ≤ (rt (s.data.toList.drop p)).len ∧ (rt (s.data.toList.drop p)).len ≤ (s.data.toList.drop p).length := by
            have hd := drop_cons s p hlt
            rw [hd] at hcode ⊢
            exact rt_len hcode
          rw [rtV_good _ _ hcode] at C
          have HST : Hid (TRel s.data.toList X (p + (rt (s.data.toList.drop p)).len + pbGo false (s.data.toList.drop (p + (rt (s.data.toList.drop p)).len))) f' (done ++ [⟨(rt (s.data.toList.drop p)).kind, p, (rt (s.data.toList.drop p)).num, (rt (s.data.toList.drop p)).text⟩])) := HR.out.step (by rw [hl]; exact hlt) hmany hcode
          have hle : p + (rt (s.data.toList.drop p)).len ≤ s.size := by have := hrl.2; simp at this; omega
          have hge := hrl.1
          clear hrl hcode HR
          have PB2 := fun w1 => HPB.out (p + (rt (s.data.toList.drop p)).len) w1 hle
          have hpl := pbGo_le false (s.data.toList.drop (p + (rt (s.data.toList.drop p)).len))
          have hpl2 : p + (rt (s.data.toList.drop p)).len + pbGo false (s.data.toList.drop (p + (rt (s.data.toList.drop p)).len)) ≤ s.size := by simp at hpl; omega
          clear hpl
          obtain ⟨q, hq⟩ : ∃ q, q = p + (rt (s.data.toList.drop p)).len + pbGo false (s.data.toList.drop (p + (rt (s.data.toList.drop p)).len)) := ⟨_, rfl⟩
          rw [← hq] at hpl2 PB2 HST
          have hqp : p + 1 ≤ q := by omega
          clear hq
          generalize rt (s.data.toList.drop p) = RR at C HST hle hge PB2
          obtain ⟨rc, kd, nm, tx, ln⟩ := RR
          simp only at C HST hle hge PB2
          have HPB2 : Hid _ := PB2
          clear PB2 HPB HRT HTF HTT
          go_wp2_with (first
            | (go_at_call 24; refine C.mono ?_; rintro e w2 ⟨rfl, hb2⟩; obtain ⟨hc2, hf2⟩ := oldCells hb2; have hz2 := hb2.size)
            | (at_builtin; refine append_own_tok rfl (.tmp 36) (.tmp 38) 22 rfl (w.heap.size + 1) Tryd.underlying22 info_tok _ _ _ _ done ⟨kd, p, nm, tx⟩ _ rfl ((ho.below hb2).below ((Below.refl _ _).alloc (Nat.le_refl _) _)) (w2.heap.size + 1) (by simp) rfl rfl (by omega) (by simp; omega) ?_; intro v3 w3 ho3 hb3 hz3)
            | (go_at_call 23; refine (HPB2.out _).mono ?_; rintro e w' ⟨rfl, rfl⟩))
          go_roundw
          case rel =>
            refine ⟨q, f', done ++ [⟨kd, p, nm, tx⟩], hpl2, rfl, ho3, by simp; omega, ?_, by simp at hz3; omega, by omega, HST⟩
            exact ((hb.trans (hb2.mono hz)).alloc (by omega) _).trans hb3
          case measure => simp [intOf]; omega
        · have HX2 := HR.out.fault (by rw [hl]; exact hlt) hmany hcode
          have HR2 : Hid (R = ([], (p : Int), (rt (s.data.toList.drop p)).code)) := by show _ = _; rw [HTF.out (by rw [HX2]; exact hcode), HX2]
          rw [rtV_code _ _ hcode] at C
          clear HX2 HR HTF HTT HRT HPB
          generalize (rt (s.data.toList.drop p)).code = rc at C HR2 hcode
          have hcode1 : (rc == 0) = false := by simpa using hcode
          have hcode2 : (rc != 0) = true := by simpa using hcode
          have hwz : w.heap.size < wr.heap.size := by omega
          go_wp2_with (first
            | (go_at_call 24; refine C.mono ?_; rintro e w2 ⟨rfl, hb2⟩; have g0 := (oldCells hb2).1 w.heap.size 0 hwz; have g1 := (oldCells hb2).1 w.heap.size 1 hwz; have g2 := (oldCells hb2).2 w.heap.size 0 hwz; have g3 := (oldCells hb2).2 w.heap.size 1 hwz; have hz2 := hb2.size; have hwz2 : w.heap.size < w2.heap.size := by omega))
          refine bodyPost_ret (v := .tuple #[.slice none 0 0, .agg #[.int .i64 p, .int .i64 rc]]) (by simp [results, Tryd.results8, go_sem, c0, c1, g0, g1, hwz2]) rfl ⟨.slice none 0 0, by rw [HR2.out], by rw [HR2.out]; exact ownT_nil _ _, ?_⟩
          exact (((((Below.refl _ _).alloc (Nat.le_refl _) _).trans (hb.mono (by omega))).trans (hb2.mono (by omega))).setCell (Nat.le_refl _) _ |>.setCell (Nat.le_refl _) _).alloc (by simp; omega) _
    · have HX2 := HR.out.stop (by rw [hl]; omega)
      have HR2 : Hid (R = (done, 0, 0)) := by show _ = _; rw [HTT.out (by rw [HX2]), HX2]
      clear HX2 HR HTF HTT HRT HPB
      obtain ⟨ao, cv, rfl⟩ := ho.form
      go_wp2
      refine bodyPost_ret (v := .tuple #[.slice ao done.length cv, .agg #[.int .i64 0, .int .i64 0]]) (by simp [results, Tryd.results8, go_sem, c0, c1]) rfl ⟨_, by rw [HR2.out], ?_, ?_⟩
      · rw [HR2.out]
        exact ownT_setCell (ownT_setCell ho (by simp) _) (by simp) _
      · exact ((((Below.refl _ _).alloc (Nat.le_refl _) _).trans (hb.mono (by omega))).setCell (Nat.le_refl _) _).setCell (Nat.le_refl _) _
end Go.Proofs.YthckmpjokabkcaaDoor
