/- Waiting: what the law WaitSums leans on. -/
import Derived.Test.YtpfpghngeblelaaWf1
namespace Go.Proofs.Ytpfpghngeblelaa
open Go.RowKit Go.Maps

/-- A slice's three parts. -/
structure Sl where
  p : Option Addr
  n : Nat
  c : Nat
def slV (s : Sl) : Value := .slice s.p s.n s.c
def KL : RK Sl := ⟨25, 1, 24, .slice none 0 0, fun s => [.slice s.p s.n s.c]⟩
theorem KL_ok : KL.Ok Try.prog :=
  ⟨fun _ => rfl, fun x u hu => by simp [KL] at hu; subst hu; rfl, rfl, by decide, by decide, info_parts' (by kernel_rfl)⟩
theorem GS.atL {w : World} {p : Option Addr} {n cap k : Nat} {l : List Sl} (h : GS KL w (.slice p n cap) l) (hk : k < l.length) : ∃ X o, p = some ⟨X, o, none⟩ ∧ w.cell? ⟨X, o + k, none⟩ = some (.slice l[k].p l[k].n l[k].c) := by
  obtain ⟨X, o, h1, _, h2⟩ := GS.at h hk
  have := h2 0 _ rfl
  rw [show KL.W = 1 from rfl, Nat.mul_one] at this
  exact ⟨X, o, h1, this⟩
/-- How many wait for the first k keys. -/
def cN (L : List Wc) (T : List ByteArray) (k : Nat) : Nat := (L.filter fun x => pK T k x.w.key).length
theorem cN_zero (L : List Wc) (T : List ByteArray) : cN L T 0 = 0 := by unfold cN; rw [pK_zero]; simp
theorem cN_next (L : List Wc) {T : List ByteArray} {p : ByteArray → Bool} (h : Srt T p) {k : Nat} (hk : k < T.length) : cN L T (k + 1) = cN L T k + (qK L T[k]).length := by
  have hn := pK_not h hk
  unfold cN qK
  rw [pK_next T hk]
  have := (filter_or (fun x : Wc => pK T k x.w.key) (fun x => decide (x.w.key = T[k])) L (fun x _ => ?_)).length_eq
  · rw [List.length_append] at this; exact this.symm
  · rintro ⟨h1, h2⟩
    have h3 : x.w.key = T[k] := by simpa using h2
    rw [h3, hn] at h1
    cases h1
theorem pK_all {L : List Wc} {T : List ByteArray} (h : Srt T (fun s => !(qK L s).isEmpty)) : ∀ x ∈ L, pK T T.length x.w.key = true := fun x hx => by
  unfold pK
  rw [List.take_length, List.any_eq_true]
  refine ⟨x.w.key, (h.mem _).2 ?_, by simp⟩
  cases hq : qK L x.w.key with
  | nil => exact absurd (qK_mem.2 ⟨hx, rfl⟩) (by rw [hq]; simp)
  | cons => rfl
theorem cN_all {L : List Wc} {T : List ByteArray} (h : Srt T (fun s => !(qK L s).isEmpty)) : cN L T T.length = L.length := by
  unfold cN
  rw [List.filter_eq_self.2 (fun x hx => pK_all h x hx)]
theorem cN_le (L : List Wc) (T : List ByteArray) (k : Nat) : cN L T k ≤ L.length := List.length_filter_le _ _
theorem srt_len {L : List Wc} {c : Nat} (hr : RI L c) {T : List ByteArray} (h : Srt T (fun s => !(qK L s).isEmpty)) : T.length ≤ 128 := by
  have hn : T.Nodup := h.up.imp fun {a b} hlt e => by subst e; exact List.lt_irrefl _ hlt
  have := sub_len (m := L.map fun x => x.w.key) hn (fun s hs => by
    have h1 := (h.mem s).1 hs
    cases hq : qK L s with
    | nil => rw [hq] at h1; cases h1
    | cons x t =>
      have : x ∈ qK L s := by rw [hq]; simp
      obtain ⟨h1, h2⟩ := qK_mem.1 this
      exact List.mem_map.2 ⟨x, h1, h2⟩)
  have h3 := hr.len
  simp at this
  omega
theorem srt_key {L : List Wc} {c : Nat} (hr : RI L c) {T : List ByteArray} (h : Srt T (fun s => !(qK L s).isEmpty)) {k : Nat} (hk : k < T.length) : T[k].size ≤ maxLen := by
  have h1 := (h.mem T[k]).1 (List.getElem_mem hk)
  cases hq : qK L T[k] with
  | nil => rw [hq] at h1; cases h1
  | cons x t =>
    have : x ∈ qK L T[k] := by rw [hq]; simp
    obtain ⟨h1, h2⟩ := qK_mem.1 this
    have := (hr.ok x h1).2.1
    rw [h2] at this
    unfold maxLen; omega
/-- The rows that were told so far. -/
structure BF (w3 wk : World) (L : List Wc) (T : List ByteArray) (k : Nat) (vb : Value) (bs : List Sl) : Prop where
  bl : Below w3.heap.size w3 wk
  ow : OwnG KL wk w3.heap.size vb bs
  ln : bs.length = k
  rd : ∀ j (h1 : j < bs.length) (h2 : j < T.length), OwnG KW wk w3.heap.size (.slice bs[j].p bs[j].n bs[j].c) ((qK L T[j]).map fun x => x.w)
theorem BF.below {w3 wk w2 : World} {L : List Wc} {T : List ByteArray} {k : Nat} {vb : Value} {bs : List Sl} (h : BF w3 wk L T k vb bs) (b : Below wk.heap.size wk w2) : BF w3 w2 L T k vb bs :=
  ⟨bl3 h.bl b, h.ow.below b, h.ln, fun j h1 h2 => (h.rd j h1 h2).below b⟩
theorem BF.push {w3 w4 w5 : World} {L : List Wc} {T : List ByteArray} {k : Nat} {vb : Value} {bs : List Sl} (h : BF w3 w4 L T k vb bs) (hk : k < T.length) {s : Sl} (os : OwnG KW w4 w3.heap.size (.slice s.p s.n s.c) ((qK L T[k]).map fun x => x.w)) {g n c : Nat}
    (o : OwnG KL w5 w3.heap.size (.slice (some ⟨g, 0, none⟩) n c) (bs ++ [s])) (b : Below w3.heap.size w4 w5) (kp : ∀ k, k < w4.heap.size → some k ≠ vb.ownBlock → w5.heap[k]? = w4.heap[k]?) : BF w3 w5 L T (k + 1) (.slice (some ⟨g, 0, none⟩) n c) (bs ++ [s]) := by
  have keep : ∀ {u : Value} {l : List Wt}, OwnG KW w4 w3.heap.size u l → OwnG KW w5 w3.heap.size u l := fun hu => hu.far (fun x hx => kp x (hu.lt hx).2 (fun e => h.ow.apart hu (by decide) hx e.symm))
  refine ⟨h.bl.trans b, o, by rw [List.length_append, h.ln]; rfl, fun j h1 h2 => ?_⟩
  by_cases hj : j < bs.length
  · rw [List.getElem_append_left hj]; exact keep (h.rd j hj h2)
  · have hjk : j = k := by rw [List.length_append] at h1; have := h.ln; simp at h1; omega
    subst hjk
    rw [List.getElem_append_right (by omega)]
    have e : j - bs.length = 0 := by have := h.ln; omega
    simp only [e, List.getElem_cons_zero]
    exact keep os
theorem BF.kp {w3 wk w2 : World} {L : List Wc} {T : List ByteArray} {k : Nat} {vb : Value} {bs : List Sl} (h : BF w3 wk L T k vb bs) (q : Kp wk w2) : OwnG KL w2 w3.heap.size vb bs ∧ ∀ j (h1 : j < bs.length) (h2 : j < T.length), OwnG KW w2 w3.heap.size (.slice bs[j].p bs[j].n bs[j].c) ((qK L T[j]).map fun x => x.w) :=
  ⟨h.ow.kp q (by decide) (by decide), fun j h1 h2 => (h.rd j h1 h2).kp q (by decide) (by decide)⟩
/-- Whom a queue's task names. -/
theorem find_q {wk : World} {b r m : Nat} {L : List Wc} {c : Nat} {f : ByteArray → Option Value} (h : RX wk b r m L c f) {s : ByteArray} {k : Nat} (hk : k < (qK L s).length) :
    Calls Try.prog 25 #[.pointer (some ⟨r, 0, none⟩), .int .i64 (qK L s)[k].w.task] wk fun e w' => e = .returned (.tuple #[.agg #[.int .i64 (qK L s)[k].w.task, .int .i64 (qK L s)[k].w.kind, .string (qK L s)[k].w.key, .string (qK L s)[k].w.tok], .int .i64 k, .int .i64 0]) ∧ Below wk.heap.size wk w' := by
  have hm : (qK L s)[k] ∈ qK L s := List.getElem_mem hk
  obtain ⟨h1, h2⟩ := qK_mem.1 hm
  obtain ⟨e1, e2, e3⟩ := fd_hit h.ri h1
  have h3 := idxT_hit (qK L s) 0 k _ (List.getElem?_eq_getElem hk) (h.ri.tk.sublist List.filter_sublist)
  rw [h2, h3] at e2
  have := find_any (qK L s)[k].w.task wk b r m L c f h
  rw [e1, e2, e3, Int.zero_add] at this
  exact this
/-- A member of a row that was told: its cells, its key, what Find says of it. -/
theorem find_row {wk : World} {b r m : Nat} {L : List Wc} {c : Nat} {f : ByteArray → Option Value} (h : RX wk b r m L c f) {s : ByteArray} {p : Option Addr} {n cc j : Nat} (o : GS KW wk (.slice p n cc) ((qK L s).map fun x => x.w)) (hj : j < (qK L s).length) :
    ∃ X oo, ∃ y : Wt, p = some ⟨X, oo, none⟩ ∧ X < wk.heap.size ∧ y.key = s ∧ (wk.cell? ⟨X, oo + j * 4, none⟩ = some (.int .i64 y.task) ∧ wk.cell? ⟨X, oo + j * 4 + 1, none⟩ = some (.int .i64 y.kind) ∧ wk.cell? ⟨X, oo + j * 4 + 2, none⟩ = some (.string y.key) ∧ wk.cell? ⟨X, oo + j * 4 + 3, none⟩ = some (.string y.tok)) ∧
      Calls Try.prog 25 #[.pointer (some ⟨r, 0, none⟩), .int .i64 y.task] wk fun e w' => e = .returned (.tuple #[.agg #[.int .i64 y.task, .int .i64 y.kind, .string y.key, .string y.tok], .int .i64 j, .int .i64 0]) ∧ Below wk.heap.size wk w' := by
  obtain ⟨X, oo, e1, x0, x1, x2, x3⟩ := o.atW (k := j) (by simpa using hj)
  simp only [List.getElem_map] at x0 x1 x2 x3
  subst e1
  exact ⟨X, oo, (qK L s)[j].w, rfl, o.ltX (k := j) (by simpa using hj), (qK_mem.1 (List.getElem_mem hj)).2, ⟨x0, x1, x2, x3⟩, find_q h hj⟩
/-- A room whose key was woken, and what was told ahead. -/
structure SW (w w3 wk : World) (b r m : Nat) (L : List Wc) (key : ByteArray) (c : Nat) (T : List ByteArray) (vt vb : Value) (bs : List Sl) : Prop where
  rx : ∃ f, RX wk b r m (outL L (qK L key)) c f
  ot : OwnG KS wk w.heap.size vt T
  ow : OwnG KL wk w3.heap.size vb bs
  rd : ∀ j (h1 : j < bs.length) (h2 : j < T.length), OwnG KW wk w3.heap.size (.slice bs[j].p bs[j].n bs[j].c) ((qK L T[j]).map fun x => x.w)
  bl : Below w.heap.size w wk
theorem SW.below {w w3 wk w2 : World} {b r m : Nat} {L : List Wc} {key : ByteArray} {c : Nat} {T : List ByteArray} {vt vb : Value} {bs : List Sl} (h : SW w w3 wk b r m L key c T vt vb bs) (k : Below wk.heap.size wk w2) : SW w w3 w2 b r m L key c T vt vb bs :=
  ⟨by obtain ⟨f, hf⟩ := h.rx; exact ⟨f, hf.below k⟩, h.ot.below k, h.ow.below k, fun j h1 h2 => (h.rd j h1 h2).below k, bl3 h.bl k⟩
/-- A key that was not woken: its queue is told as before. -/
theorem SW.same {w w3 wk : World} {b r m : Nat} {L : List Wc} {key : ByteArray} {c : Nat} {T : List ByteArray} {vt vb : Value} {bs : List Sl} (h : SW w w3 wk b r m L key c T vt vb bs) (hr : RI L c) {j : Nat} (h1 : j < bs.length) (h2 : j < T.length) (hs : T[j] ≠ key) (hz : T[j].size ≤ maxLen) :
    Calls Try.prog 22 #[.pointer (some ⟨r, 0, none⟩), .string T[j]] wk fun e wa => ∃ pa na ca, e = .returned (.slice pa na ca) ∧ SW w w3 wa b r m L key c T vt vb bs ∧
      Calls Try.prog 17 #[.slice pa na ca, .slice bs[j].p bs[j].n bs[j].c] wa fun e wb => e = .returned (.bool true) ∧ SW w w3 wb b r m L key c T vt vb bs := by
  obtain ⟨f, hf⟩ := h.rx
  refine (queue_any T[j] wk b r m _ c f hf hz).mono ?_
  rintro e wa ⟨pa, ca, rfl, oa, ba⟩
  have ha := h.below ba
  have hq : qK (outL L (qK L key)) T[j] = qK L T[j] := by
    have h3 := (outL_queue hr (fun _ _ => true) key).2 T[j] hs
    rw [gnL_all] at h3
    exact h3
  rw [hq] at oa
  rw [hq]
  refine ⟨pa, _, ca, rfl, ha, (waiters_same wa _ _ _ (oa.gs KW_ok.len) ((ha.rd j h1 h2).gs KW_ok.len) ?_).mono ?_⟩
  · have h3 := qK_len L T[j]
    have h4 := hr.len
    simp; omega
  · rintro e wb ⟨rfl, nb, rfl⟩
    exact ⟨rfl, ha.below (drew_below _ nb)⟩
end Go.Proofs.Ytpfpghngeblelaa
