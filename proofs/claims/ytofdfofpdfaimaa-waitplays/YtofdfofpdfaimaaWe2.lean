/- Waiting: works. -/
import Derived.Test.YtofdfofpdfaimaaWe1
namespace Go.Proofs.Ytofdfofpdfaimaa
open Go.RowKit Go.Maps

def xa : Wt := ⟨1, 0, ⟨#[97]⟩, ⟨#[]⟩⟩
def xb : Wt := ⟨2, 0, ⟨#[98]⟩, ⟨#[116]⟩⟩
def xc : Wt := ⟨3, 1, ⟨#[97]⟩, ⟨#[116]⟩⟩
def L1 : List Wc := [⟨xa, 0⟩]
def L2 : List Wc := [⟨xa, 0⟩, ⟨xb, 1⟩]
def L3 : List Wc := [⟨xa, 0⟩, ⟨xb, 1⟩, ⟨xc, 2⟩]
theorem j1 : joinE [] xa = 0 := by decide +kernel
theorem j2 : joinE L1 xb = 0 := by decide +kernel
theorem j3 : joinE L2 xc = 0 := by decide +kernel
theorem jl {L : List Wc} {c : Nat} {x : Wt} (h : joinE L x = 0) : joinL L c x = L ++ [⟨x, c⟩] ∧ joinC L c x = c + 1 := by
  unfold joinL joinC
  rw [h]; exact ⟨rfl, rfl⟩
theorem cn3 : cnL L3 ⟨#[116]⟩ = [⟨xb, 1⟩, ⟨xc, 2⟩] := by
  have e1 : decide (xa.tok = (⟨#[116]⟩ : ByteArray)) = false := by decide +kernel
  have e2 : decide (xb.tok = (⟨#[116]⟩ : ByteArray)) = true := by decide +kernel
  have e3 : decide (xc.tok = (⟨#[116]⟩ : ByteArray)) = true := by decide +kernel
  unfold cnL L3
  simp only [List.filter_cons, e1, e2, e3]; rfl
theorem nc3 : ncL L3 ⟨#[116]⟩ = [⟨xa, 0⟩] := by
  have e1 : decide (xa.tok = (⟨#[116]⟩ : ByteArray)) = false := by decide +kernel
  have e2 : decide (xb.tok = (⟨#[116]⟩ : ByteArray)) = true := by decide +kernel
  have e3 : decide (xc.tok = (⟨#[116]⟩ : ByteArray)) = true := by decide +kernel
  unfold ncL L3
  simp only [List.filter_cons, e1, e2, e3]; rfl
theorem srt3 : Srt [⟨#[97]⟩, ⟨#[98]⟩] (fun s => !(qK L3 s).isEmpty) := by
  refine ⟨by simp [List.pairwise_cons]; decide, fun s => ?_⟩
  unfold qK L3 xa xb xc
  simp only [List.filter_cons, List.filter_nil]
  by_cases h1 : (⟨#[97]⟩ : ByteArray) = s
  · subst h1; simp
  · by_cases h2 : (⟨#[98]⟩ : ByteArray) = s
    · subst h2; simp
    · simp [h1, h2]
      exact ⟨fun e => h1 e.symm, fun e => h2 e.symm⟩
theorem ks2 (w : World) : GS KS (w.alloc (.cells #[.string ⟨#[97]⟩, .string ⟨#[98]⟩] 9)) (.slice (some ⟨w.heap.size, 0, none⟩) 2 2) [⟨#[97]⟩, ⟨#[98]⟩] := by
  refine Or.inr ⟨w.heap.size, 0, 2, rfl, by simp, by decide, fun k hk j u hu => ?_⟩
  have hb := heap_alloc_new w (.cells #[.string ⟨#[97]⟩, .string ⟨#[98]⟩] 9)
  match k, hk, j, hu with
  | 0, _, 0, hu => injection hu with hu; subst hu; exact cell_of_row _ _ _ _ _ _ hb
  | 1, _, 0, hu => injection hu with hu; subst hu; exact cell_of_row _ _ _ _ _ _ hb
theorem join_rq (x : Wt) (wk : World) (base r m : Nat) (L : List Wc) (c : Nat) (h : ∃ f, RX wk base r m L c f) (hk : x.key.size ≤ maxLen) (hs : x.tok.size ≤ maxLen) (hc : c ≤ 1000000000000000000) : Calls Try.prog 11 #[.pointer (some ⟨r, 0, none⟩), .int .i64 x.task, .string x.key, .string x.tok, .int .i64 x.kind] wk fun e w' => e = .returned (.int .i64 (joinE L x)) ∧ RQ base r m wk (joinL L c x) (joinC L c x) w' := by
  obtain ⟨f, hf⟩ := h
  exact (join_any x wk base r m L c f hf hk hs hc).mono (fun _ _ ⟨h1, h2⟩ => ⟨h1, hf.rq h2⟩)
set_option maxHeartbeats 8000000 in
set_option maxRecDepth 100000 in
theorem works_any (w : World) : Calls Try.prog 20 #[] w fun e w' => e = .returned (.bool true) ∧ Below w.heap.size w w' := by
  have NW := hid (new_any w)
  have J1 : Hid (∀ wk base r m, (∃ f, RX wk base r m [] 0 f) → Calls Try.prog 11 #[.pointer (some ⟨r, 0, none⟩), .int .i64 1, .string ⟨#[97]⟩, .string ⟨#[]⟩, .int .i64 0] wk fun e w' => e = .returned (.int .i64 0) ∧ RQ base r m wk L1 1 w') := fun wk base r m h => by
    refine (join_rq xa wk base r m [] 0 h (by decide) (by decide) (by decide)).mono ?_
    rintro e w' ⟨rfl, h2⟩
    rw [(jl j1).1, (jl j1).2] at h2
    exact ⟨by rw [j1], h2⟩
  have J2 : Hid (∀ wk base r m, (∃ f, RX wk base r m L1 1 f) → Calls Try.prog 11 #[.pointer (some ⟨r, 0, none⟩), .int .i64 2, .string ⟨#[98]⟩, .string ⟨#[116]⟩, .int .i64 0] wk fun e w' => e = .returned (.int .i64 0) ∧ RQ base r m wk L2 2 w') := fun wk base r m h => by
    refine (join_rq xb wk base r m L1 1 h (by decide) (by decide) (by decide)).mono ?_
    rintro e w' ⟨rfl, h2⟩
    rw [(jl j2).1, (jl j2).2] at h2
    exact ⟨by rw [j2], h2⟩
  have J3 : Hid (∀ wk base r m, (∃ f, RX wk base r m L2 2 f) → Calls Try.prog 11 #[.pointer (some ⟨r, 0, none⟩), .int .i64 3, .string ⟨#[97]⟩, .string ⟨#[116]⟩, .int .i64 1] wk fun e w' => e = .returned (.int .i64 0) ∧ RQ base r m wk L3 3 w') := fun wk base r m h => by
    refine (join_rq xc wk base r m L2 2 h (by decide) (by decide) (by decide)).mono ?_
    rintro e w' ⟨rfl, h2⟩
    rw [(jl j3).1, (jl j3).2] at h2
    exact ⟨by rw [j3], h2⟩
  have KY : Hid (∀ wk base r m, (∃ f, RX wk base r m L3 3 f) → Calls Try.prog 26 #[.pointer (some ⟨r, 0, none⟩)] wk fun e w' => ∃ q cc, e = .returned (.slice q 2 cc) ∧ GS KS w' (.slice q 2 cc) [⟨#[97]⟩, ⟨#[98]⟩] ∧ RQ base r m wk L3 3 w') := fun wk base r m ⟨f, h⟩ => by
    refine (keys_any wk base r m L3 3 f h).mono ?_
    rintro e w' ⟨q, cc, T, rfl, ho, hs, hb⟩
    obtain rfl := hs.uniq srt3
    exact ⟨q, cc, rfl, ho.gs KS_ok.len, h.rqb hb⟩
  have CA0 : Hid (∀ wk base r m, (∃ f, RX wk base r m L3 3 f) → Calls Try.prog 36 #[.pointer (some ⟨r, 0, none⟩), .string ⟨#[116]⟩] wk fun e w' => ∃ g cc, e = .returned (.slice (some ⟨g, 0, none⟩) 2 cc) ∧ w'.cell? ⟨g, 0, none⟩ = some (.int .i64 2) ∧ w'.cell? ⟨g, 4, none⟩ = some (.int .i64 3) ∧ RQ base r m wk [⟨xa, 0⟩] 3 w') := fun wk base r m ⟨f, h⟩ => by
    refine (cancel_ok ⟨#[116]⟩ wk base r m L3 3 f h (by decide)).mono ?_
    rintro e w' ⟨⟨p, cc, rfl, ho⟩, hr⟩
    rw [nc3] at hr
    rw [cn3] at ho
    rw [cn3]
    obtain ⟨X, o, e1, x0, _⟩ := (ho.gs KW_ok.len).atW (k := 0) (by decide)
    obtain ⟨X', o', e2, y0, _⟩ := (ho.gs KW_ok.len).atW (k := 1) (by decide)
    rcases ho.2 with ⟨e3, _⟩ | ⟨g, cap, cur, e3, _⟩
    · injection e3 with e3 _ _
      rw [e1] at e3; cases e3
    · injection e3 with e3 _ _
      subst e3
      injection e1 with e1
      injection e1 with a1 a2 _
      injection e2 with e2
      injection e2 with b1 b2 _
      subst a1 a2 b1 b2
      exact ⟨g, cc, rfl, x0, y0, h.rq hr⟩
  have LN : Hid (∀ wk base r m, (∃ f, RX wk base r m [⟨xa, 0⟩] 3 f) → Calls Try.prog 23 #[.pointer (some ⟨r, 0, none⟩)] wk fun e w' => e = .returned (.int .i64 1) ∧ Below wk.heap.size wk w') := fun wk base r m ⟨f, h⟩ => len_any wk base r m _ 3 f h
  have ST := hid (fun w1 u1 u2 m h1 h2 h3 => sameTextsG w1 u1 u2 m h1 h2 h3)
  go_enter Try.func20, Try.ntmps20
  go_wp2_with fail
  refine Calls.mono NW.out ?_
  rintro e w1 ⟨rfl, hx1, hb1⟩
  have X1 : Hid (∃ f, RX w1 w.heap.size (w.heap.size + 1) w.heap.size [] 0 f) := ⟨_, hx1⟩
  have B1 := hid hb1
  clear hx1 hb1 NW
  generalize w.heap.size + 1 = r at *
  go_wp2_with fail
  refine Calls.mono (J1.out _ _ _ _ X1.out) ?_
  rintro e w2 ⟨rfl, q2⟩
  have X2 := hid q2.rx
  have B2 := hid (B1.out.trans q2.bl)
  clear q2 X1 B1 J1
  go_wp2_with fail
  refine Calls.mono (J2.out _ _ _ _ X2.out) ?_
  rintro e w3 ⟨rfl, q3⟩
  have X3 := hid q3.rx
  have B3 := hid (B2.out.trans q3.bl)
  clear q3 X2 B2 J2
  go_wp2_with fail
  refine Calls.mono (J3.out _ _ _ _ X3.out) ?_
  rintro e w4 ⟨rfl, q4⟩
  have X4 := hid q4.rx
  have B4 := hid (B3.out.trans q4.bl)
  clear q4 X3 B3 J3
  go_wp2_with fail
  refine Calls.mono (KY.out _ _ _ _ X4.out) ?_
  rintro e w5 ⟨q5, c5, rfl, hg5, rq5⟩
  have X5 := hid rq5.rx
  have B5 := hid (B4.out.trans rq5.bl)
  have G5 := hid (hg5.below (bal w5 (.cells #[.string ⟨#[97]⟩, .string ⟨#[98]⟩] 9)))
  have K5 := hid (ks2 w5)
  clear rq5 X4 B4 KY hg5
  have X6 : Hid (∀ ob n, ∃ f, RX ((w5.alloc ob).drewN n) w.heap.size r w.heap.size L3 3 f) := fun ob n => by
    obtain ⟨f, h⟩ := X5.out
    exact ⟨f, h.below (bl3 (bal _ _) (drew_below _ n))⟩
  have B6 := hid (fun ob n => bl3 B5.out (bl3 (bal w5 ob) (drew_below _ n)))
  clear X5 B5
  go_wp2_with fail
  refine Calls.mono (ST.out _ _ _ _ G5.out K5.out (by decide)) ?_
  rintro e w6 ⟨rfl, n6, hw6⟩
  have X7 : Hid (∃ f, RX w6 w.heap.size r w.heap.size L3 3 f) := by rw [hw6]; exact X6.out _ _
  have B7 : Hid (Below w.heap.size w w6) := by rw [hw6]; exact B6.out _ _
  clear hw6 X6 B6 ST G5 K5
  go_wp2_with fail
  refine Calls.mono (CA0.out _ _ _ _ X7.out) ?_
  rintro e w8 ⟨g8, c8, rfl, y0, y1, q8⟩
  have X8 := hid q8.rx
  have B8 := hid (B7.out.trans q8.bl)
  clear q8 X7 B7 CA0
  go_wp2_with fail
  refine Calls.mono (LN.out _ _ _ _ X8.out) ?_
  rintro e w9 ⟨rfl, hb9⟩
  have B9 := hid (bl3 B8.out (hb9.mono (Nat.le_refl _)))
  clear hb9 X8 B8 LN
  go_wp2_with fail
  go_ret
  exact ⟨rfl, B9.out⟩
end Go.Proofs.Ytofdfofpdfaimaa
