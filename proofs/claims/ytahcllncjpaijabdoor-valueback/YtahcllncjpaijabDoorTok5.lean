/- The walk of lex.Tokens: all tokens of a text, or the first fault. -/
import Derived.Test.YtahcllncjpaijabDoorVo2
import Derived.Test.YtahcllncjpaijabDoorVq3
import Derived.Test.YtahcllncjpaijabDoorTok4
namespace Go.Proofs.YtahcllncjpaijabDoor
open Go.RowKit

theorem rdS_mark (st : RdS) (tx : List UInt8) : rdS st 6 0 tx = if tx = [45] then ⟨st.l, st.R, -1⟩ else if tx = [91] then ⟨st.l, 0 :: st.R, st.sg⟩
     else if tx = [93] ∧ 1 < st.R.length then ⟨st.l ++ [⟨3, st.R.headD 0, 0, ByteArray.empty⟩], bump st.R.tail, st.sg⟩ else st := by unfold rdS; rw [if_neg (by decide), if_neg (by decide), if_pos rfl]
theorem str_of {s : ByteArray} {l : List UInt8} (h : s.data.toList = l) : s = ⟨l.toArray⟩ := by
  obtain ⟨⟨d⟩⟩ := s
  simp only at h
  subst h; rfl
set_option maxHeartbeats 4000000 in
set_option maxRecDepth 100000 in
theorem rmark_any (w : World) (base B : Nat) (v m : Value) (l : List Atm) (x : Int) (r : List Int) (sg : Int) (tx : ByteArray) (h : RD w base B v m l (x :: r) sg) (hl : l.length ≤ 1000000) (hr : r.length ≤ 1000000) (hx : ∀ y ∈ x :: r, 0 ≤ y ∧ y ≤ 1000000) :
    Calls Tryd.prog 35 #[.pointer (some ⟨B, 0, none⟩), .string tx] w fun e w' => e = .returned (.tuple #[]) ∧ ∃ v' m', RD w' base B v' m' (rdS ⟨l, x :: r, sg⟩ 6 0 tx.data.toList).l (rdS ⟨l, x :: r, sg⟩ 6 0 tx.data.toList).R (rdS ⟨l, x :: r, sg⟩ 6 0 tx.data.toList).sg ∧ Below base w w' := by
  obtain ⟨g, c, hm, hc, cg, fg⟩ := h.mem
  subst hm
  have c1 := h.c1
  rw [rdS_mark]
  have HB : Hid (base ≤ w.heap.size) := by have := h.lt; have := h.bb; show _ ≤ _; omega
  have H1 : Hid (RD w base B v (.slice (some ⟨g, 0, none⟩) (r.length + 1) c) l (x :: r) sg) := h
  have hw := h.lt
  by_cases h45 : tx.data.toList = [45]
  · rw [if_pos h45]
    obtain rfl := str_of h45
    have c2 := h.c2
    have f2 := h.fz 2
    have P2 : Hid _ := h.put2 (-1)
    have B2 : Hid (Below base w (w.setCell ⟨B, 2, none⟩ (.int .i64 (-1)))) := (Below.refl _ _).setCell h.bb _
    clear h h45
    go_enter Tryd.func35, Tryd.ntmps35
    go_wp2
    go_end0
    exact ⟨rfl, _, _, P2.out, B2.out⟩
  · rw [if_neg h45]
    have n45 : ¬ tx = ⟨#[45]⟩ := fun e => h45 (by rw [e])
    have n45' : (tx.toList == [45]) = false := by rw [ByteArray.toList_eq]; simpa using h45
    by_cases h91 : tx.data.toList = [91]
    · rw [if_pos h91]
      obtain rfl := str_of h91
      have LS : Hid (((x :: r).reverse.length + 1) * KI.B ≤ 140737488355328) := by show (_ + 1) * 8 ≤ _; simp; omega
      have OI : Hid (OwnG KI w base (.slice (some ⟨g, 0, none⟩) (r.length + 1) c) (x :: r).reverse) := h.oi
      have PU : Hid (∀ m1 w1, OwnG KI w1 base m1 ((x :: r).reverse ++ [0]) → Below base w w1 → (∀ j, j < w.heap.size → some j ≠ (Value.slice (some ⟨g, 0, none⟩) (r.length + 1) c).ownBlock → w1.heap[j]? = w.heap[j]?) → RD (w1.setCell ⟨B, 1, none⟩ m1) base B v m1 l (0 :: x :: r) sg ∧ Below base w (w1.setCell ⟨B, 1, none⟩ m1) ∧ w1.cell? ⟨B, 1, none⟩ = some (.slice (some ⟨g, 0, none⟩) (r.length + 1) c) ∧ w1.frozen? ⟨B, 1, none⟩ = false) := fun m1 w1 ho b k => h.put1 k (by rw [List.reverse_cons]; exact ho) b
      have HLN : Hid ((x :: r).reverse.length = r.length + 1) := by show _ = _; simp
      clear h h91 h45
      generalize (x :: r).reverse = RR at *
      go_enter Tryd.func35, Tryd.ntmps35
      go_wp2_with (at_builtin; refine append_g KI KI_ok rfl (.tmp 25) (.tmp 26) 59 rfl base Tryd.underlying59 _ _ _ (.slice (some ⟨g, 0, none⟩) (r.length + 1) c) RR 0 _ rfl OI.out _ rfl rfl rfl LS.out HB.out ?_; intro g8 c8 w8 o8 b8 k8 q8; obtain ⟨n1, n2, n3, n4⟩ := PU.out _ _ o8 b8 k8; have N1 : Hid _ := n1; have N2 : Hid _ := n2; clear n1 n2 o8 b8 q8 k8)
      go_end0
      exact ⟨rfl, _, _, N1.out, N2.out⟩
    · rw [if_neg h91]
      have n91 : ¬ tx = ⟨#[91]⟩ := fun e => h91 (by rw [e])
      have n91' : (tx.toList == [91]) = false := by rw [ByteArray.toList_eq]; simpa using h91
      by_cases h93 : tx.data.toList = [93] ∧ 1 < (x :: r).length
      · rw [if_pos h93]
        obtain rfl := str_of h93.1
        obtain ⟨y, r2, rfl⟩ : ∃ y r2, r = y :: r2 := by
          cases r with
          | nil => simp at h93
          | cons y r2 => exact ⟨y, r2, rfl⟩
        have f1 := h.fz 1
        have hcut : OwnG KI w base (.slice (some ⟨g, 0, none⟩) (y :: r2).length c) (y :: r2).reverse := by
          have := h.oi.cut KI_ok.len (y :: r2).length (by simp)
          rw [List.reverse_cons, List.take_left' (by simp)] at this
          exact this
        obtain ⟨p1, p2, _, _⟩ := h.put1 (R1 := y :: r2) (fun _ _ _ => rfl) hcut (Below.refl _ _)
        have P1 : Hid _ := p1
        have P2 : Hid _ := p2
        have hy := hx y (by simp)
        have hlen : (y :: r2).length = r2.length + 1 := rfl
        have AD : Hid (Calls Tryd.prog 34 #[.pointer (some ⟨B, 0, none⟩), .agg #[.int .i64 3, .int .i64 x, .int .i64 0, .string ByteArray.empty]] _ _) := radd_any _ base B v _ l y r2 sg 3 x 0 ByteArray.empty p1 hl (by rw [hlen] at hr; omega) hy
        clear h hcut p1 p2 h93 h45 h91
        have hx0 := (hx x (by simp)).1
        have hq0 : 0 < (y :: r2).length := by simp
        clear hlen hy hx
        generalize (y :: r2).length = q at *
        go_enter Tryd.func35, Tryd.ntmps35
        go_wp2_with (go_at_call 34; refine AD.out.mono ?_; rintro e w9 ⟨rfl, v9, m9, h9, b9⟩)
        go_end0
        exact ⟨rfl, v9, m9, h9, P2.out.trans b9⟩
      · rw [if_neg h93]
        clear h h45 h91
        by_cases h93' : tx.data.toList = [93]
        · obtain rfl := str_of h93'
          have hr0 : r = [] := by
            cases r with
            | nil => rfl
            | cons y r2 => exact absurd ⟨h93', by simp⟩ h93
          subst hr0
          clear h93 h93'
          go_enter Tryd.func35, Tryd.ntmps35
          go_wp2
          go_end0
          exact ⟨rfl, _, _, H1.out, Below.refl _ _⟩
        · have n93 : ¬ tx = ⟨#[93]⟩ := fun e => h93' (by rw [e])
          have n93' : (tx.toList == [93]) = false := by rw [ByteArray.toList_eq]; simpa using h93'
          clear h93 h93'
          go_enter Tryd.func35, Tryd.ntmps35
          go_wp2
          go_end0
          exact ⟨rfl, _, _, H1.out, Below.refl _ _⟩
end Go.Proofs.YtahcllncjpaijabDoor
namespace Go.Proofs.YtahcllncjpaijabDoor.L1
open Go.RowKit

theorem rtV_code (r : RT) (n : Nat) (h : r.code ≠ 0) : rtV r n = .tuple #[.agg #[.int .i64 0, .int .i64 0, .int .i64 0, .string ⟨#[]⟩], .int .i64 0, .int .i64 r.code] := by simp [rtV, h, tokA]
theorem rtV_good (r : RT) (n : Nat) (h : r.code = 0) : rtV r n = .tuple #[.agg #[.int .i64 r.kind, .int .i64 n, .int .i64 r.num, .string ⟨r.text.toArray⟩], .int .i64 (n + r.len : Nat), .int .i64 0] := by simp [rtV, h, tokA]
/-- The block of the fault that is handed back. -/
def faultB : Obj := .cells #[.int .i64 0, .int .i64 0] 48
/-- Where the reading of all tokens stands. -/
def TRel (l : List UInt8) (X : List Tok × Int × Int) (p f : Nat) (done : List Tok) : Prop := X = (done ++ (tkGo l f p done.length).1, (tkGo l f p done.length).2)
theorem TRel.stop {l : List UInt8} {X : List Tok × Int × Int} {p f : Nat} {done : List Tok} (h : TRel l X p f done) (hp : l.length ≤ p) : X = (done, 0, 0) := by
  unfold TRel at h; rw [h]
  cases f with
  | zero => simp [tkGo]
  | succ f => simp only [tkGo]; rw [if_neg (by omega)]; simp
theorem TRel.many {l : List UInt8} {X : List Tok × Int × Int} {p f : Nat} {done : List Tok} (h : TRel l X p (f + 1) done) (hp : p < l.length) (hc : done.length = 8192) : X.2 = ((p : Int), 3) := by
  unfold TRel at h; rw [h]; simp only [tkGo]; rw [if_pos hp, if_pos hc]
theorem TRel.fault {l : List UInt8} {X : List Tok × Int × Int} {p f : Nat} {done : List Tok} (h : TRel l X p (f + 1) done) (hp : p < l.length) (hc : done.length ≠ 8192) (hr : (rt (l.drop p)).code ≠ 0) : X.2 = ((p : Int), (rt (l.drop p)).code) := by
  unfold TRel at h; rw [h]; simp only [tkGo]; rw [if_pos hp, if_neg hc, if_pos hr]
theorem TRel.step {l : List UInt8} {X : List Tok × Int × Int} {p f : Nat} {done : List Tok} (h : TRel l X p (f + 1) done) (hp : p < l.length) (hc : done.length ≠ 8192) (hr : (rt (l.drop p)).code = 0) :
    TRel l X (p + (rt (l.drop p)).len + pbGo false (l.drop (p + (rt (l.drop p)).len))) f (done ++ [⟨(rt (l.drop p)).kind, p, (rt (l.drop p)).num, (rt (l.drop p)).text⟩]) := by
  unfold TRel at h ⊢; rw [h]; simp only [tkGo]; rw [if_pos hp, if_neg hc, if_neg (by simp [hr])]
  simp
/-- What holds at the head of each round. -/
def TI (s : ByteArray) (base : Nat) (w0 : World) (X : List Tok × Int × Int) (v i : Value) (wr : World) : Prop :=
  ∃ (p f : Nat) (done : List Tok), p ≤ s.size ∧ i = .int .i64 p ∧ OwnT wr base v done ∧ done.length ≤ 8192 ∧ Below base w0 wr ∧ base ≤ wr.heap.size ∧ s.size + 1 ≤ p + f ∧ Hid (TRel s.data.toList X p f done)
theorem faultCells (w : World) {wr : World} (h : Below (w.heap.size + 1) (w.alloc faultB) wr) : wr.cell? ⟨w.heap.size, 0, none⟩ = some (.int .i64 0) ∧ wr.cell? ⟨w.heap.size, 1, none⟩ = some (.int .i64 0) ∧ wr.frozen? ⟨w.heap.size, 0, none⟩ = false ∧ wr.frozen? ⟨w.heap.size, 1, none⟩ = false := by
  have hb : ∀ o, wr.cell? ⟨w.heap.size, o, none⟩ = (w.alloc faultB).cell? ⟨w.heap.size, o, none⟩ := fun o => h.cell (p := ⟨w.heap.size, o, none⟩) (by simp)
  have hf : ∀ o, wr.frozen? ⟨w.heap.size, o, none⟩ = (w.alloc faultB).frozen? ⟨w.heap.size, o, none⟩ := fun o => h.frozen (p := ⟨w.heap.size, o, none⟩) (by simp)
  refine ⟨?_, ?_, ?_, ?_⟩
  · rw [hb, faultB, cell_of_row _ _ _ _ _ _ (heap_alloc_new w _)]; rfl
  · rw [hb, faultB, cell_of_row _ _ _ _ _ _ (heap_alloc_new w _)]; rfl
  · rw [hf, faultB]; exact frozen_of_row _ _ _ _ _ (heap_alloc_new w _)
  · rw [hf, faultB]; exact frozen_of_row _ _ _ _ _ (heap_alloc_new w _)
theorem OwnT.form {w : World} {base : Nat} {v : Value} {l : List Tok} (h : OwnT w base v l) : ∃ ao cap, v = .slice ao l.length cap := by
  rcases h.2 with ⟨rfl, h0⟩ | ⟨g, cap, cur, rfl, _⟩
  · exact ⟨none, 0, by rw [h0]⟩
  · exact ⟨_, _, rfl⟩
theorem ownT_setCell {w : World} {base : Nat} {v : Value} {l : List Tok} (h : OwnT w base v l) {a : Addr} (ha : a.block < base) (u : Value) : OwnT (w.setCell a u) base v l := ownsRow_setCell_below h ha u
theorem tkRes_f {l : List UInt8} (h : ¬ 65536 < l.length) (hc : (tkGo l (l.length + 1) (pbGo false l) 0).2.2 ≠ 0) : tkRes l = ([], (tkGo l (l.length + 1) (pbGo false l) 0).2) := by unfold tkRes; rw [if_neg h, if_pos hc]
theorem tkRes_t {l : List UInt8} (h : ¬ 65536 < l.length) (hc : (tkGo l (l.length + 1) (pbGo false l) 0).2.2 = 0) : tkRes l = ((tkGo l (l.length + 1) (pbGo false l) 0).1, 0, 0) := by unfold tkRes; rw [if_neg h, if_neg (by simp [hc])]

set_option maxHeartbeats 4000000 in
theorem tokens_any (s : ByteArray) (w : World) (hmax : s.size ≤ maxLen) (hk : KeysAt w) (hm : MarksAt w) :
    Calls Tryd.prog 16 #[.string s] w fun e w' => ∃ v, e = .returned (.tuple #[v, .agg #[.int .i64 (tkRes s.data.toList).2.1, .int .i64 (tkRes s.data.toList).2.2]]) ∧ OwnT w' (w.heap.size + 1) v (tkRes s.data.toList).1 ∧ Below w.heap.size w w' := by
  unfold maxLen at hmax
  by_cases hlong : 65536 < s.size
  · have HT : Hid (tkRes s.data.toList = ([], 0, 3)) := by show _ = _; unfold tkRes; rw [if_pos (by simpa using hlong)]
    obtain ⟨R, hR⟩ : ∃ R, R = tkRes s.data.toList := ⟨_, rfl⟩
    rw [← hR] at HT ⊢
    clear hR hk hm
    go_enter Tryd.func16, Tryd.ntmps16
    go_wp2
    refine bodyPost_ret (v := .tuple #[.slice none 0 0, .agg #[.int .i64 0, .int .i64 3]]) (by simp [results, Tryd.results16, go_sem]) rfl ⟨.slice none 0 0, by rw [HT.out], by rw [HT.out]; exact ownT_nil _ _, (Below.refl _ _).alloc (Nat.le_refl _) _⟩
  have hs : s.size ≤ 65536 := by omega
  have hl : s.data.toList.length = s.size := by simp
  obtain ⟨X, hX⟩ : ∃ X, X = tkGo s.data.toList (s.data.toList.length + 1) (pbGo false s.data.toList) 0 := ⟨_, rfl⟩
  have HTF : Hid (X.2.2 ≠ 0 → tkRes s.data.toList = ([], X.2)) := fun h => by rw [hX] at h ⊢; exact tkRes_f (by omega) h
  have HTT : Hid (X.2.2 = 0 → tkRes s.data.toList = (X.1, 0, 0)) := fun h => by rw [hX] at h ⊢; exact tkRes_t (by omega) h
  have HX : Hid (TRel s.data.toList X (0 + pbGo false (s.data.toList.drop 0)) (s.size + 1) []) := by
    show TRel _ _ _ _ _
    unfold TRel; rw [hX, hl, Nat.zero_add, List.drop_zero]; simp
  clear hX
  obtain ⟨R, hR⟩ : ∃ R, R = tkRes s.data.toList := ⟨_, rfl⟩
  rw [← hR] at HTF HTT ⊢
  clear hR
  have PB := fun n w1 hn => pastBlank_any s n w1 (by unfold maxLen; omega) hn
  have hp0 : 0 + pbGo false (s.data.toList.drop 0) ≤ s.size := by have := pbGo_le false (s.data.toList.drop 0); simp at this ⊢; omega
  have RT' : ∀ n w1, n < s.size → Below (w.heap.size + 1) (w.alloc faultB) w1 → Calls Tryd.prog 33 #[.string s, .int .i64 n] w1 fun e w' => e = .returned (rtV (rt (s.data.toList.drop n)) n) ∧ Below w1.heap.size w1 w' := fun n w1 hn hb =>
    readToken_any s n w1 hs hn ((hk.alloc faultB).below (hb.mono (by simp))) ((hm.alloc faultB).below (hb.mono (by simp)))
  clear hk hm
  have hF : w.alloc (.cells #[.int .i64 0, .int .i64 0] 48) = w.alloc faultB := rfl
  have hb0 : Below (w.heap.size + 1) (w.alloc faultB) (w.alloc (.cells #[.int .i64 0, .int .i64 0] 48)) := Below.refl _ _
  have HRT : Hid _ := RT'
  have HPB : Hid _ := PB
  clear RT' PB hF
  go_enter Tryd.func16, Tryd.ntmps16
  go_wp2_with (go_at_call 32; refine (HPB.out 0 _ (Nat.zero_le _)).mono ?_; rintro e w' ⟨rfl, rfl⟩)
  go_loopw [4, 5] (fun v i wr => TI s (w.heap.size + 1) (w.alloc faultB) X v i wr) (fun _ i _ => s.size - (intOf i).toNat)
  case atStart => exact ⟨0 + pbGo false (s.data.toList.drop 0), s.size + 1, [], hp0, by simp, ownT_nil _ _, by simp, hb0, by simp, by omega, HX⟩
  case round =>
    obtain ⟨p, f, done, hps, rfl, ho, hdl, hb, hz, hf, HR⟩ := hrel
    clear hb0 HX hp0
    obtain ⟨c0, c1, f0, f1⟩ := faultCells w hb
    by_cases hlt : p < s.size
    · obtain ⟨f', rfl⟩ : ∃ f', f = f' + 1 := ⟨f - 1, by omega⟩
      obtain ⟨ao, cv, rfl⟩ := ho.form
      by_cases hmany : done.length = 8192
      · have HX2 := HR.out.many (by rw [hl]; exact hlt) hmany
        have HR2 : Hid (R = ([], (p : Int), 3)) := by show _ = _; rw [HTF.out (by rw [HX2]; simp), HX2]
        have hmany' : ((done.length : Int) == 8192) = true := by simp; omega
        clear HX2 HR HTF HTT HRT HPB
        go_wp2
        refine bodyPost_ret (v := .tuple #[.slice none 0 0, .agg #[.int .i64 p, .int .i64 3]]) (by simp [results, Tryd.results16, go_sem, c0, c1]) rfl ⟨.slice none 0 0, by rw [HR2.out], by rw [HR2.out]; exact ownT_nil _ _, ?_⟩
        exact ((((Below.refl _ _).alloc (Nat.le_refl _) _).trans (hb.mono (by omega))).setCell (Nat.le_refl _) _).setCell (Nat.le_refl _) _
      · have hmany' : ((done.length : Int) == 8192) = false := by simp; omega
        have C := HRT.out p wr hlt hb
        by_cases hcode : (rt (s.data.toList.drop p)).code = 0
        · have hrl : 1 ≤ (rt (s.data.toList.drop p)).len ∧ (rt (s.data.toList.drop p)).len ≤ (s.data.toList.drop p).length := by
            have hd := drop_cons s p hlt
            rw [hd] at hcode ⊢
            exact rt_len hcode
          rw [rtV_good _ _ hcode] at C
          have HST : Hid (TRel s.data.toList X (p + (rt (s.data.toList.drop p)).len + pbGo false (s.data.toList.drop (p + (rt (s.data.toList.drop p)).len))) f' (done ++ [⟨(rt (s.data.toList.drop p)).kind, p, (rt (s.data.toList.drop p)).num, (rt (s.data.toList.drop p)).text⟩])) := HR.out.step (by rw [hl]; exact hlt) hmany hcode
          have hle : p + (rt (s.data.toList.drop p)).len ≤ s.size := by have := hrl.2; simp at this; omega
          have hge := hrl.1
          clear hrl hcode HR
          have PB2 := fun w1 => HPB.out (p + (rt (s.data.toList.drop p)).len) w1 hle
          have hpl := pbGo_le false (s.data.toList.drop (p + (rt (s.data.toList.drop p)).len))
          have hpl2 : p + (rt (s.data.toList.drop p)).len + pbGo false (s.data.toList.drop (p + (rt (s.data.toList.drop p)).len)) ≤ s.size := by simp at hpl; omega
          clear hpl
          obtain ⟨q, hq⟩ : ∃ q, q = p + (rt (s.data.toList.drop p)).len + pbGo false (s.data.toList.drop (p + (rt (s.data.toList.drop p)).len)) := ⟨_, rfl⟩
          rw [← hq] at hpl2 PB2 HST
          have hqp : p + 1 ≤ q := by omega
          clear hq
          generalize rt (s.data.toList.drop p) = RR at C HST hle hge PB2
          obtain ⟨rc, kd, nm, tx, ln⟩ := RR
          simp only at C HST hle hge PB2
          have HPB2 : Hid _ := PB2
          clear PB2 HPB HRT HTF HTT
          go_wp2_with (first
            | (go_at_call 33; refine C.mono ?_; rintro e w2 ⟨rfl, hb2⟩; obtain ⟨hc2, hf2⟩ := oldCells hb2; have hz2 := hb2.size)
            | (at_builtin; refine append_own_tok rfl (.tmp 36) (.tmp 38) 46 rfl (w.heap.size + 1) Tryd.underlying46 info_tok _ _ _ _ done ⟨kd, p, nm, tx⟩ _ rfl ((ho.below hb2).below ((Below.refl _ _).alloc (Nat.le_refl _) _)) (w2.heap.size + 1) (by simp) rfl rfl (by omega) (by simp; omega) ?_; intro v3 w3 ho3 hb3 hz3)
            | (go_at_call 32; refine (HPB2.out _).mono ?_; rintro e w' ⟨rfl, rfl⟩))
          go_roundw
          case rel =>
            refine ⟨q, f', done ++ [⟨kd, p, nm, tx⟩], hpl2, rfl, ho3, by simp; omega, ?_, by simp at hz3; omega, by omega, HST⟩
            exact ((hb.trans (hb2.mono hz)).alloc (by omega) _).trans hb3
          case measure => simp [intOf]; omega
        · have HX2 := HR.out.fault (by rw [hl]; exact hlt) hmany hcode
          have HR2 : Hid (R = ([], (p : Int), (rt (s.data.toList.drop p)).code)) := by show _ = _; rw [HTF.out (by rw [HX2]; exact hcode), HX2]
          rw [rtV_code _ _ hcode] at C
          clear HX2 HR HTF HTT HRT HPB
          generalize (rt (s.data.toList.drop p)).code = rc at C HR2 hcode
          have hcode1 : (rc == 0) = false := by simpa using hcode
          have hcode2 : (rc != 0) = true := by simpa using hcode
          have hwz : w.heap.size < wr.heap.size := by omega
          go_wp2_with (first
            | (go_at_call 33; refine C.mono ?_; rintro e w2 ⟨rfl, hb2⟩; have g0 := (oldCells hb2).1 w.heap.size 0 hwz; have g1 := (oldCells hb2).1 w.heap.size 1 hwz; have g2 := (oldCells hb2).2 w.heap.size 0 hwz; have g3 := (oldCells hb2).2 w.heap.size 1 hwz; have hz2 := hb2.size; have hwz2 : w.heap.size < w2.heap.size := by omega))
          refine bodyPost_ret (v := .tuple #[.slice none 0 0, .agg #[.int .i64 p, .int .i64 rc]]) (by simp [results, Tryd.results16, go_sem, c0, c1, g0, g1, hwz2]) rfl ⟨.slice none 0 0, by rw [HR2.out], by rw [HR2.out]; exact ownT_nil _ _, ?_⟩
          exact (((((Below.refl _ _).alloc (Nat.le_refl _) _).trans (hb.mono (by omega))).trans (hb2.mono (by omega))).setCell (Nat.le_refl _) _ |>.setCell (Nat.le_refl _) _).alloc (by simp; omega) _
    · have HX2 := HR.out.stop (by rw [hl]; omega)
      have HR2 : Hid (R = (done, 0, 0)) := by show _ = _; rw [HTT.out (by rw [HX2]), HX2]
      clear HX2 HR HTF HTT HRT HPB
      obtain ⟨ao, cv, rfl⟩ := ho.form
      go_wp2
      refine bodyPost_ret (v := .tuple #[.slice ao done.length cv, .agg #[.int .i64 0, .int .i64 0]]) (by simp [results, Tryd.results16, go_sem, c0, c1]) rfl ⟨_, by rw [HR2.out], ?_, ?_⟩
      · rw [HR2.out]
        exact ownT_setCell (ownT_setCell ho (by simp) _) (by simp) _
      · exact ((((Below.refl _ _).alloc (Nat.le_refl _) _).trans (hb.mono (by omega))).setCell (Nat.le_refl _) _).setCell (Nat.le_refl _) _
end Go.Proofs.YtahcllncjpaijabDoor.L1
