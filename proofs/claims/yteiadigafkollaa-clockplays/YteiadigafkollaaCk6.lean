/- The clock's After, Every, Stop, Move, Next. -/
import Derived.Test.YteiadigafkollaaCk5
namespace Go.Proofs.Yteiadigafkollaa
open Go.RowKit Go.Sort Go.Shelf

set_option maxHeartbeats 1000000 in
theorem after_any (w : World) (b : Nat) (xo : Option Nat) (now given : Int) (L : List Tm) (h : CL w b xo now given L) (hg : given ≤ 1000000000000000000) (x : Int) :
    Calls Try.prog 21 #[.pointer (some ⟨b, 0, none⟩), .int .i64 x] w fun e w' => if 0 ≤ x ∧ x ≤ 1099511627776 - now then SetR w w' b xo now given (now + x) 0 L e else e = .returned (.tuple #[.int .i64 0, .int .i64 1]) ∧ w' = w := by
  obtain ⟨d, hk, hp, hh, ho⟩ := h
  obtain ⟨hn1, hn2⟩ := ho.now0
  have I := mayPass_any w b xo now given d hk ho.now0 x
  have c0 := hk.c0
  by_cases hr : 0 ≤ x ∧ x ≤ 1099511627776 - now
  · have SS := set_any w b xo now given L ⟨d, hk, hp, hh, ho⟩ hg (now + x) 0 (by omega) (by omega)
    rw [decide_eq_true hr] at I
    simp only [if_pos hr]
    obtain ⟨hr1, hr2⟩ := hr
    clear hk ho
    go_enter Try.func21, Try.ntmps21
    go_wp2_with (go_at_call 34; refine I.mono ?_; rintro e w' ⟨rfl, rfl⟩)
    refine SS.mono ?_
    rintro e w' ⟨xo', g', L', h1, h2, h3, ⟨h4, rfl, h5⟩ | ⟨h4, rfl, h5⟩⟩
    · have F : Hid (SetR _ w' b xo now given (now + x) (0) L (.returned (.tuple #[.int .i64 0, .int .i64 3]))) := ⟨xo', g', L', h1, h2, h3, Or.inl ⟨h4, rfl, h5⟩⟩
      clear h1 h2 h3 h5
      go_wp2
      go_ret2
      exact F.out
    · have F : Hid (SetR _ w' b xo now given (now + x) (0) L (.returned (.tuple #[.int .i64 (given + 1), .int .i64 0]))) := ⟨xo', g', L', h1, h2, h3, Or.inr ⟨h4, rfl, h5⟩⟩
      clear h1 h2 h3 h5
      go_wp2
      go_ret2
      exact F.out
  · rw [decide_eq_false hr] at I
    simp only [if_neg hr]
    clear hk ho hr
    go_enter Try.func21, Try.ntmps21
    go_wp2_with (go_at_call 34; refine I.mono ?_; rintro e w' ⟨rfl, rfl⟩)
    go_ret2
    exact ⟨rfl, rfl⟩
set_option maxHeartbeats 2000000 in
theorem every_any (w : World) (b : Nat) (xo : Option Nat) (now given : Int) (L : List Tm) (h : CL w b xo now given L) (hg : given ≤ 1000000000000000000) (x y : Int) :
    Calls Try.prog 25 #[.pointer (some ⟨b, 0, none⟩), .int .i64 x, .int .i64 y] w fun e w' => if (now ≤ x ∧ x ≤ 1099511627776) ∧ 1 ≤ y ∧ y ≤ 1099511627776 then SetR w w' b xo now given x y L e else e = .returned (.tuple #[.int .i64 0, .int .i64 1]) ∧ w' = w := by
  obtain ⟨d, hk, hp, hh, ho⟩ := h
  have I := isAhead_any w b xo now given d hk x
  by_cases hr : now ≤ x ∧ x ≤ 1099511627776
  · rw [decide_eq_true hr] at I
    by_cases h1 : y < 1
    · simp only [if_neg (show ¬ ((now ≤ x ∧ x ≤ 1099511627776) ∧ 1 ≤ y ∧ y ≤ 1099511627776) by omega)]
      clear hk ho hr
      go_enter Try.func25, Try.ntmps25
      go_wp2_with (go_at_call 41; refine I.mono ?_; rintro e w' ⟨rfl, rfl⟩)
      go_ret2
      exact ⟨rfl, rfl⟩
    · have h1d : decide (y < 1) = false := by simpa using h1
      by_cases h2 : 1099511627776 < y
      · simp only [if_neg (show ¬ ((now ≤ x ∧ x ≤ 1099511627776) ∧ 1 ≤ y ∧ y ≤ 1099511627776) by omega)]
        clear hk ho hr
        go_enter Try.func25, Try.ntmps25
        go_wp2_with (go_at_call 41; refine I.mono ?_; rintro e w' ⟨rfl, rfl⟩)
        go_ret2
        exact ⟨rfl, rfl⟩
      · have h2d : decide (1099511627776 < y) = false := by simpa using h2
        have SS := set_any w b xo now given L ⟨d, hk, hp, hh, ho⟩ hg x y hr (by omega)
        simp only [if_pos (show (now ≤ x ∧ x ≤ 1099511627776) ∧ 1 ≤ y ∧ y ≤ 1099511627776 by omega)]
        clear hk ho hr
        go_enter Try.func25, Try.ntmps25
        go_wp2_with (go_at_call 41; refine I.mono ?_; rintro e w' ⟨rfl, rfl⟩)
        refine SS.mono ?_
        rintro e w' ⟨xo', g', L', h1, h2, h3, ⟨h4, rfl, h5⟩ | ⟨h4, rfl, h5⟩⟩
        · have F : Hid (SetR _ w' b xo now given (x) (y) L (.returned (.tuple #[.int .i64 0, .int .i64 3]))) := ⟨xo', g', L', h1, h2, h3, Or.inl ⟨h4, rfl, h5⟩⟩
          clear h1 h2 h3 h5
          go_wp2
          go_ret2
          exact F.out
        · have F : Hid (SetR _ w' b xo now given (x) (y) L (.returned (.tuple #[.int .i64 (given + 1), .int .i64 0]))) := ⟨xo', g', L', h1, h2, h3, Or.inr ⟨h4, rfl, h5⟩⟩
          clear h1 h2 h3 h5
          go_wp2
          go_ret2
          exact F.out
  · rw [decide_eq_false hr] at I
    simp only [if_neg (show ¬ ((now ≤ x ∧ x ≤ 1099511627776) ∧ 1 ≤ y ∧ y ≤ 1099511627776) by omega)]
    clear hk ho hr
    go_enter Try.func25, Try.ntmps25
    go_wp2_with (go_at_call 41; refine I.mono ?_; rintro e w' ⟨rfl, rfl⟩)
    go_ret2
    exact ⟨rfl, rfl⟩

theorem plc_spec (n : Int) : ∀ (l : List Tm) (k : Nat), (plc n k l = -1 ∧ ∀ t ∈ l, t.num ≠ n) ∨ ∃ i, ∃ h : i < l.length, plc n k l = ((k + i : Nat) : Int) ∧ l[i].num = n
  | [], k => Or.inl ⟨rfl, fun t h => by simp at h⟩
  | t :: r, k => by
    by_cases hn : t.num = n
    · exact Or.inr ⟨0, by simp, by rw [plc, if_pos hn]; rfl, hn⟩
    · rcases plc_spec n r (k + 1) with ⟨h1, h2⟩ | ⟨i, hi, h1, h2⟩
      · refine Or.inl ⟨by rw [plc, if_neg hn]; exact h1, fun x hx => ?_⟩
        rcases List.mem_cons.1 hx with rfl | hx
        · exact hn
        · exact h2 x hx
      · exact Or.inr ⟨i + 1, by simp; omega, by rw [plc, if_neg hn, h1]; congr 1; omega, by simpa using h2⟩
theorem plc_arr (n : Int) (d : Array Tm) : (plc n 0 d.toList = -1 ∧ ∀ t ∈ d.toList, t.num ≠ n) ∨ ∃ i, i < d.size ∧ plc n 0 d.toList = (i : Int) ∧ d[i]!.num = n := by
  rcases plc_spec n d.toList 0 with h | ⟨i, hi, h1, h2⟩
  · exact Or.inl h
  · have hi2 : i < d.size := by simpa using hi
    exact Or.inr ⟨i, hi2, by rw [h1]; simp, by rw [get!_list d i hi2]; exact h2⟩
theorem del_len {n : Int} {L : List Tm} : (del n L).length ≤ L.length := List.length_filter_le _ _
theorem mem_del {n : Int} {L : List Tm} {x : Tm} : x ∈ del n L ↔ x ∈ L ∧ x.num ≠ n := by unfold del; rw [List.mem_filter]; simp
theorem Ok.del {now given : Int} {L : List Tm} (h : Ok now given L) (n : Int) : Ok now given (del n L) :=
  ⟨h.srt.del, fun t ht => h.rng t (mem_del.1 ht).1, Nat.le_trans del_len h.len, h.now0, h.giv⟩
theorem CK.xq {w : World} {b : Nat} {xo : Option Nat} {now given : Int} {d : Array Tm} (h : CK w b xo now given d) (hd : 0 < d.size) : ∃ X cap, xo = some X ∧ QAt w b 2 X cap d := by
  rcases h.q with h | ⟨_, rfl, _⟩
  · exact h
  · simp at hd
/-- remove, of the clock's queue. -/
theorem ck_remove {w : World} {b : Nat} {xo : Option Nat} {now given : Int} {d : Array Tm} (h : CK w b xo now given d) (hl : d.size ≤ 100000) (i : Nat) (hi : i < d.size) :
    Calls Try.prog 40 #[.pointer (some ⟨b, 2, none⟩), .int .i64 i] w fun e w' => e = .returned (.tuple #[]) ∧ CK w' b xo now given (hRem i d) ∧ KC b xo w w' := by
  obtain ⟨X, cap, rfl, q⟩ := h.xq (by omega)
  exact (qremove_any w b 2 X cap d q (by omega) i hi i rfl).mono fun e w' ⟨he, hq, hk⟩ => ⟨he, h.of_q hq hk, KC.of_q hk⟩
theorem ck_move {w : World} {b : Nat} {xo : Option Nat} {now given : Int} {d : Array Tm} (h : CK w b xo now given d) (hl : d.size ≤ 100000) (i : Nat) (hi : i < d.size) (x : Int) :
    Calls Try.prog 42 #[.pointer (some ⟨b, 2, none⟩), .int .i64 i, .int .i64 x] w fun e w' => e = .returned (.tuple #[]) ∧ CK w' b xo now given (hFix d.size i (d.setIfInBounds i ⟨d[i]!.num, x, d[i]!.ev⟩)) ∧ KC b xo w w' := by
  obtain ⟨X, cap, rfl, q⟩ := h.xq (by omega)
  exact (qmove_any w b 2 X cap d q (by omega) i hi i x rfl).mono fun e w' ⟨he, hq, hk⟩ => ⟨he, h.of_q hq hk, KC.of_q hk⟩
/-- What a clock is behind a removal. -/
theorem cl_remove {w : World} {b : Nat} {xo : Option Nat} {now given : Int} {d : Array Tm} {L : List Tm} {i : Nat} (hc : CK w b xo now given (hRem i d)) (hp : d.toList.Perm L) (hh : Heap tlt d.size d) (ho : Ok now given L) (hi : i < d.size) : CL w b xo now given (del d[i]!.num L) := by
  obtain ⟨r1, r2⟩ := rem_ok hh hi
  exact ⟨_, hc, del_of ho.srt.num (hp.symm.trans r2), r1, ho.del _⟩
theorem cl_move {w : World} {b : Nat} {xo : Option Nat} {now given : Int} {d : Array Tm} {L : List Tm} {i : Nat} {x : Int} (hc : CK w b xo now given (hFix d.size i (d.setIfInBounds i ⟨d[i]!.num, x, d[i]!.ev⟩))) (hp : d.toList.Perm L) (hh : Heap tlt d.size d) (ho : Ok now given L) (hi : i < d.size) (hx : now ≤ x ∧ x ≤ 1099511627776) : CL w b xo now given (ins ⟨d[i]!.num, x, d[i]!.ev⟩ (del d[i]!.num L)) := by
  obtain ⟨r1, r, r2, r3⟩ := mov_ok hh hi ⟨d[i]!.num, x, d[i]!.ev⟩
  have hd := del_of ho.srt.num (hp.symm.trans r2)
  have hm := ho.rng _ (hp.mem_iff.1 (get_mem hi))
  refine ⟨_, hc, r3.trans ((hd.cons _).trans (ins_perm _ _).symm), r1, ⟨ho.srt.del.ins (fun t ht => (mem_del.1 ht).2), fun t ht => ?_, ?_, ho.now0, ho.giv⟩⟩
  · rcases mem_ins.1 ht with rfl | ht
    · simp only; omega
    · exact ho.rng t (mem_del.1 ht).1
  · rw [ins_len]
    have e1 := hd.length_eq
    have e2 := (hp.symm.trans r2).length_eq
    have := ho.len
    simp at e2
    omega
def StopR (w w' : World) (b : Nat) (xo : Option Nat) (now given n : Int) (L : List Tm) (e : Ending) : Prop :=
  KC b xo w w' ∧ (((∀ t ∈ L, t.num ≠ n) ∧ e = .returned (.int .i64 4) ∧ CL w' b xo now given L) ∨ ((∃ t ∈ L, t.num = n) ∧ e = .returned (.int .i64 0) ∧ CL w' b xo now given (del n L)))
set_option maxHeartbeats 2000000 in
theorem stop_any (w : World) (b : Nat) (xo : Option Nat) (now given : Int) (L : List Tm) (h : CL w b xo now given L) (n : Int) :
    Calls Try.prog 22 #[.pointer (some ⟨b, 0, none⟩), .int .i64 n] w fun e w' => StopR w w' b xo now given n L e := by
  obtain ⟨d, hk, hp, hh, ho⟩ := h
  obtain ⟨v, hv, hsl⟩ := hk.sl
  have P := place_any w v d hsl n
  have hsz : d.size = L.length := by have := hp.length_eq; simpa using this
  have hlen := ho.len
  rcases plc_arr n d with ⟨e1, e2⟩ | ⟨i, hi, e1, e2⟩
  · rw [e1] at P
    have FIN : Hid (∀ w', Below w.heap.size w w' → StopR w w' b xo now given n L (.returned (.int .i64 4))) := fun w' hb => ⟨KC.of_below hb, Or.inl ⟨fun t ht => e2 t (hp.mem_iff.2 ht), rfl, ⟨d, hk.below hb, hp, hh, ho⟩⟩⟩
    clear hk hsl e1 e2
    go_enter Try.func22, Try.ntmps22
    go_wp2_with (go_at_call 39; refine P.mono ?_; rintro e w' ⟨rfl, hb⟩)
    go_ret
    exact FIN.out _ hb
  · rw [e1] at P
    have R : ∀ w', Below w.heap.size w w' → Calls Try.prog 40 #[.pointer (some ⟨b, 2, none⟩), .int .i64 i] w' fun e w2 => e = .returned (.tuple #[]) ∧ StopR w w2 b xo now given n L (.returned (.int .i64 0)) := fun w' hb =>
      (ck_remove (hk.below hb) (by omega) i hi).mono fun e w2 ⟨he, hc, hkc⟩ => ⟨he, (KC.of_below hb).trans hkc (NX.refl _ _), Or.inr ⟨⟨d[i]!, hp.mem_iff.1 (get_mem hi), e2⟩, rfl, by rw [← e2]; exact cl_remove hc hp hh ho hi⟩⟩
    have hi0 : ¬ (i : Int) < 0 := by omega
    clear hk hsl e1 e2
    go_enter Try.func22, Try.ntmps22
    go_wp2_with (first | (go_at_call 39; refine P.mono ?_; rintro e w' ⟨rfl, hb⟩) | (go_at_call 40; refine (R _ hb).mono ?_; rintro e w2 ⟨rfl, hst⟩))
    go_ret
    exact hst
def MoveR (w w' : World) (b : Nat) (xo : Option Nat) (now given n x : Int) (L : List Tm) (e : Ending) : Prop :=
  KC b xo w w' ∧ (((∀ t ∈ L, t.num ≠ n) ∧ e = .returned (.int .i64 4) ∧ CL w' b xo now given L) ∨ ((∃ t ∈ L, t.num = n) ∧ ¬ (now ≤ x ∧ x ≤ 1099511627776) ∧ e = .returned (.int .i64 1) ∧ CL w' b xo now given L) ∨ ((now ≤ x ∧ x ≤ 1099511627776) ∧ e = .returned (.int .i64 0) ∧ ∃ t ∈ L, t.num = n ∧ CL w' b xo now given (ins ⟨n, x, t.ev⟩ (del n L))))
set_option maxHeartbeats 2000000 in
theorem move_any (w : World) (b : Nat) (xo : Option Nat) (now given : Int) (L : List Tm) (h : CL w b xo now given L) (n x : Int) :
    Calls Try.prog 23 #[.pointer (some ⟨b, 0, none⟩), .int .i64 n, .int .i64 x] w fun e w' => MoveR w w' b xo now given n x L e := by
  obtain ⟨d, hk, hp, hh, ho⟩ := h
  obtain ⟨v, hv, hsl⟩ := hk.sl
  have P := place_any w v d hsl n
  have hsz : d.size = L.length := by have := hp.length_eq; simpa using this
  have hlen := ho.len
  rcases plc_arr n d with ⟨e1, e2⟩ | ⟨i, hi, e1, e2⟩
  · rw [e1] at P
    have FIN : Hid (∀ w', Below w.heap.size w w' → MoveR w w' b xo now given n x L (.returned (.int .i64 4))) := fun w' hb => ⟨KC.of_below hb, Or.inl ⟨fun t ht => e2 t (hp.mem_iff.2 ht), rfl, ⟨d, hk.below hb, hp, hh, ho⟩⟩⟩
    clear hk hsl e1 e2
    go_enter Try.func23, Try.ntmps23
    go_wp2_with (go_at_call 39; refine P.mono ?_; rintro e w' ⟨rfl, hb⟩)
    go_ret
    exact FIN.out _ hb
  · rw [e1] at P
    have hi0 : ¬ (i : Int) < 0 := by omega
    have I : ∀ w', Below w.heap.size w w' → Calls Try.prog 41 #[.pointer (some ⟨b, 0, none⟩), .int .i64 x] w' fun e w2 => e = .returned (.bool (decide (now ≤ x ∧ x ≤ 1099511627776))) ∧ w2 = w' := fun w' hb => isAhead_any w' b xo now given d (hk.below hb) x
    by_cases hr : now ≤ x ∧ x ≤ 1099511627776
    · rw [decide_eq_true hr] at I
      have R : ∀ w', Below w.heap.size w w' → Calls Try.prog 42 #[.pointer (some ⟨b, 2, none⟩), .int .i64 i, .int .i64 x] w' fun e w2 => e = .returned (.tuple #[]) ∧ MoveR w w2 b xo now given n x L (.returned (.int .i64 0)) := fun w' hb =>
        (ck_move (hk.below hb) (by omega) i hi x).mono fun e w2 ⟨he, hc, hkc⟩ => ⟨he, (KC.of_below hb).trans hkc (NX.refl _ _), Or.inr (Or.inr ⟨hr, rfl, d[i]!, hp.mem_iff.1 (get_mem hi), e2, by have := cl_move hc hp hh ho hi hr; rw [e2] at this; exact this⟩)⟩
      clear hk hsl e1 e2 hr
      go_enter Try.func23, Try.ntmps23
      go_wp2_with (first | (go_at_call 39; refine P.mono ?_; rintro e w' ⟨rfl, hb⟩) | (go_at_call 41; refine (I _ hb).mono ?_; rintro e w3 ⟨rfl, rfl⟩) | (go_at_call 42; refine (R _ hb).mono ?_; rintro e w2 ⟨rfl, hst⟩))
      go_ret
      exact hst
    · rw [decide_eq_false hr] at I
      have FIN : Hid (∀ w', Below w.heap.size w w' → MoveR w w' b xo now given n x L (.returned (.int .i64 1))) := fun w' hb => ⟨KC.of_below hb, Or.inr (Or.inl ⟨⟨d[i]!, hp.mem_iff.1 (get_mem hi), e2⟩, hr, rfl, ⟨d, hk.below hb, hp, hh, ho⟩⟩)⟩
      clear hk hsl e1 e2 hr
      go_enter Try.func23, Try.ntmps23
      go_wp2_with (first | (go_at_call 39; refine P.mono ?_; rintro e w' ⟨rfl, hb⟩) | (go_at_call 41; refine (I _ hb).mono ?_; rintro e w3 ⟨rfl, rfl⟩))
      go_ret
      exact FIN.out _ hb
/-- The front of the heap is the first one. -/
theorem front_eq {d : Array Tm} {x : Tm} {L : List Tm} (hp : d.toList.Perm (x :: L)) (hh : Heap tlt d.size d) (hs : Srt (x :: L)) : 0 < d.size ∧ d[0]! = x := by
  have h0 : 0 < d.size := by have := hp.length_eq; simp at this; omega
  refine ⟨h0, ?_⟩
  have hm := hp.mem_iff.1 (get_mem h0)
  rcases List.mem_cons.1 hm with e | hm
  · exact e
  · exfalso
    have h1 := (List.pairwise_cons.1 hs.ord).1 _ hm
    have hx : x ∈ d.toList := hp.mem_iff.2 (List.mem_cons_self ..)
    obtain ⟨k, hk, e⟩ := List.getElem_of_mem hx
    have hk2 : k < d.size := by simpa using hk
    have h2 := heap_front tlt_swo d.size d hh k hk2
    rw [get!_list d k hk2, e] at h2
    rw [h1] at h2; cases h2
def nextV : List Tm → Array Value
  | [] => #[.int .i64 0, .bool false]
  | t :: _ => #[.int .i64 t.tm, .bool true]
set_option maxHeartbeats 2000000 in
theorem next_any (w : World) (b : Nat) (xo : Option Nat) (now given : Int) (L : List Tm) (h : CL w b xo now given L) :
    Calls Try.prog 20 #[.pointer (some ⟨b, 0, none⟩)] w fun e w' => e = .returned (.tuple (nextV L)) ∧ w' = w := by
  obtain ⟨d, hk, hp, hh, ho⟩ := h
  cases L with
  | nil =>
    have hd : d.size = 0 := by have := hp.length_eq; simpa using this
    obtain ⟨v, hv, hsl⟩ := hk.sl
    obtain ⟨p, cap, rfl, _, _⟩ := hsl.form
    rw [hd] at hv
    clear hk hsl
    go_enter Try.func20, Try.ntmps20
    go_wp2
    go_ret2
    exact ⟨rfl, rfl⟩
  | cons x L =>
    obtain ⟨h0, hx⟩ := front_eq hp hh ho.srt
    obtain ⟨X, cap, rfl, q⟩ := hk.xq h0
    obtain ⟨c1, c2, c3⟩ := q.row.cells h0
    rw [hx] at c2
    have hv := q.head
    have hne : ((d.size : Int) == 0) = false := by rw [beq_eq_false_iff_ne]; omega
    have hb := q.row.bound
    unfold maxLen at hb
    obtain ⟨hb1, hb2⟩ := hb
    clear hk q hh hx
    go_enter Try.func20, Try.ntmps20
    go_wp2
    go_ret2
    exact ⟨rfl, rfl⟩
end Go.Proofs.Yteiadigafkollaa
