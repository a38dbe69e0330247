/- Waiting, the document's side: task, name, at, Join. -/
import Derived.Test.YtofdfofpdfaimaaWr1
import Derived.Deep.Cut
namespace Go.Proofs.Ytofdfofpdfaimaa
open Go.RowKit Go.Maps

set_option maxHeartbeats 1000000 in
theorem rtask_any (t : Int) (w : World) : Calls Try.prog 40 #[.int .i64 t] w fun e w' => e = .returned (.bool (taskB t)) ∧ w' = w := by
  have H : Hid (taskB t = decide (0 ≤ t ∧ t < 128)) := rfl
  generalize taskB t = r at *
  by_cases h1 : 0 ≤ t
  · by_cases h2 : t < 128
    · go_enter Try.func40, Try.ntmps40
      go_wp2
      go_ret
      exact ⟨ret_bool (by rw [H.out]; simp [h1, h2]), rfl⟩
    · go_enter Try.func40, Try.ntmps40
      go_wp2
      go_ret
      exact ⟨ret_bool (by rw [H.out]; simp [h2]), rfl⟩
  · go_enter Try.func40, Try.ntmps40
    go_wp2
    go_ret
    exact ⟨ret_bool (by rw [H.out]; simp; omega), rfl⟩
set_option maxHeartbeats 2000000 in
theorem rname_any (s : ByteArray) (w : World) (hs : s.size ≤ maxLen) : Calls Try.prog 41 #[.string s] w fun e w' => e = .returned (.bool (tokB s)) ∧ w' = w := by
  have WD := hid (word_any s w hs)
  have HT : Hid (tokB s = (decide (s.size = 0) || (decide (s.size ≤ 24) && wordB s.data.toList))) := by
    show _ = _
    unfold tokB localB
    simp
  unfold maxLen at hs
  generalize tokB s = r at *
  by_cases h0 : s.size = 0
  · obtain rfl := bytes_nil h0
    clear WD
    go_enter Try.func41, Try.ntmps41
    go_wp2
    go_ret
    exact ⟨ret_bool (by rw [HT.out]; simp), rfl⟩
  · obtain ⟨z1, z2⟩ := bytes_ne (show 0 < s.size by omega)
    have z3 : (s.toList == []) = false := by simpa using z1
    by_cases h1 : s.size ≤ 24
    · have h2 : (s.size : Int) ≤ 24 := by omega
      go_enter Try.func41, Try.ntmps41
      go_wp2_with (go_at_call 59; refine WD.out.mono ?_; rintro e w2 ⟨rfl, hw2⟩; rw [hw2]; clear hw2)
      go_ret
      exact ⟨ret_bool (by rw [HT.out]; simp [h0, h1]), rfl⟩
    · have h2 : ¬ (s.size : Int) ≤ 24 := by omega
      clear WD
      go_enter Try.func41, Try.ntmps41
      go_wp2
      go_ret
      exact ⟨ret_bool (by rw [HT.out]; simp [h0, h1]), rfl⟩
/-- Where a task stands among all, from place k on. -/
def atT : List Wt → Int → Int → Int
  | [], _, _ => -1
  | x :: l, t, k => if x.task = t then k else atT l t (k + 1)
theorem atT_none : ∀ (l : List Wt) (t k : Int), (∀ x ∈ l, x.task ≠ t) → atT l t k = -1
  | [], _, _, _ => rfl
  | x :: l, t, k, h => by rw [atT, if_neg (h x (by simp)), atT_none l t (k + 1) (fun y hy => h y (by simp [hy]))]
set_option maxHeartbeats 4000000 in
theorem rat_any (v : Value) (M : List Wt) (t : Int) (w : World) (h : GS KW w v M) (hl : M.length ≤ 1000000) : Calls Try.prog 42 #[.agg #[v], .int .i64 t] w fun e w' => e = .returned (.int .i64 (atT M t 0)) ∧ Below w.heap.size w w' := by
  obtain ⟨p, cap, rfl⟩ := h.form
  have HS := hid (h.below (bal w (.cells #[.slice p M.length cap] 27)))
  have B0 := hid (bal w (.cells #[.slice p M.length cap] 27))
  obtain ⟨R, hR⟩ : ∃ R, R = atT M t 0 := ⟨_, rfl⟩
  rw [← hR]
  have HR := hid hR
  obtain ⟨n, hn⟩ : ∃ n, n = M.length := ⟨_, rfl⟩
  have HN := hid hn
  rw [← hn] at HS
  rw [← hn]
  have hl2 : n ≤ 1000000 := by omega
  clear h hR hn B0
  go_enter Try.func42, Try.ntmps42
  go_wp2
  go_loop [5] (fun i => ∃ k : Nat, k ≤ n ∧ i = .int .i64 k ∧ Hid (R = atT (M.drop k) t k)) (fun i => n - (intOf i).toNat)
  case atStart => exact ⟨0, Nat.zero_le _, rfl, by show _ = _; rw [HR.out]; simp⟩
  case round =>
    obtain ⟨k, hk, rfl, HK⟩ := hrel
    clear HR
    by_cases hlt : k < n
    · have hkl : k < M.length := by rw [← HN.out]; exact hlt
      obtain ⟨X, o, e1, x0, x1, x2, x3⟩ := HS.out.atW hkl
      obtain rfl : p = some ⟨X, o, none⟩ := e1
      have zx := HS.out.ltX hkl
      have HJ : Hid (R = if M[k].task = t then (k : Int) else atT (M.drop (k + 1)) t ((k : Int) + 1)) := by
        show _ = _
        rw [HK.out, List.drop_eq_getElem_cons hkl, atT]
      clear HK x1 x2 x3
      generalize M[k] = y at *
      by_cases ht : y.task = t
      · rw [if_pos ht] at HJ
        subst ht
        go_wp2
        go_ret
        exact ⟨ret_i HJ.out.symm, bal _ _⟩
      · rw [if_neg ht] at HJ
        have b1 : (y.task == t) = false := by simpa using ht
        go_wp2
        go_round
        case rel => exact ⟨k + 1, by omega, by go_num, by show _ = _; rw [HJ.out]; simp⟩
        case measure => simp [intOf]; omega
    · have FIN : Hid (R = -1) := by show _ = _; rw [HK.out, List.drop_eq_nil_of_le (by have := HN.out; omega)]; rfl
      clear HK
      go_wp2
      go_ret
      exact ⟨ret_i FIN.out.symm, bal _ _⟩
/-- Join's boxes: the room, the waiter, the answer. -/
structure J3 (w : World) (v : Value) (x : Wt) (w' : World) : Prop where
  b0 : w'.heap[w.heap.size]? = some (.cells #[v] 27)
  b1 : w'.heap[w.heap.size + 1]? = some (.cells #[.int .i64 x.task, .int .i64 x.kind, .string x.key, .string x.tok] 30)
  b2 : w'.heap[w.heap.size + 1 + 1]? = some (.cells #[.slice none 0 0] 27)
  bl : Below w.heap.size w w'
theorem J3.below {w w1 w2 : World} {v : Value} {x : Wt} (h : J3 w v x w1) (k : Below w1.heap.size w1 w2) : J3 w v x w2 :=
  ⟨(k.block _ (lt_of_heap h.b0)).trans h.b0, (k.block _ (lt_of_heap h.b1)).trans h.b1, (k.block _ (lt_of_heap h.b2)).trans h.b2, bl3 h.bl k⟩
theorem J3.new (w : World) (v : Value) (x : Wt) : J3 w v x (((w.alloc (.cells #[v] 27)).alloc (.cells #[.int .i64 x.task, .int .i64 x.kind, .string x.key, .string x.tok] 30)).alloc (.cells #[.slice none 0 0] 27)) := by
  have z : ∀ (W : World) (o : Obj), (W.alloc o).heap.size = W.heap.size + 1 := fun W o => by simp
  refine ⟨?_, ?_, ?_, bl3 (bal _ _) (bl3 (bal _ _) (bal _ _))⟩
  · rw [Below.heap_alloc _ _ _ (by simp; omega), Below.heap_alloc _ _ _ (by simp)]; exact heap_alloc_new _ _
  · rw [Below.heap_alloc _ _ _ (by simp)]
    have := heap_alloc_new (w.alloc (.cells #[v] 27)) (.cells #[.int .i64 x.task, .int .i64 x.kind, .string x.key, .string x.tok] 30)
    rw [z] at this; exact this
  · have := heap_alloc_new ((w.alloc (.cells #[v] 27)).alloc (.cells #[.int .i64 x.task, .int .i64 x.kind, .string x.key, .string x.tok] 30)) (.cells #[.slice none 0 0] 27)
    rw [z, z] at this; exact this
theorem J3.cells {w w1 : World} {v : Value} {x : Wt} (h : J3 w v x w1) : w1.cell? ⟨w.heap.size, 0, none⟩ = some v ∧ (w1.cell? ⟨w.heap.size + 1, 0, none⟩ = some (.int .i64 x.task) ∧ w1.cell? ⟨w.heap.size + 1, 1, none⟩ = some (.int .i64 x.kind) ∧ w1.cell? ⟨w.heap.size + 1, 2, none⟩ = some (.string x.key) ∧ w1.cell? ⟨w.heap.size + 1, 3, none⟩ = some (.string x.tok)) ∧ w1.cell? ⟨w.heap.size + 1 + 1, 0, none⟩ = some (.slice none 0 0) ∧ ∀ o, w1.frozen? ⟨w.heap.size + 1 + 1, o, none⟩ = false := by
  obtain ⟨a0, a1, a2, a3, _⟩ := cells4 h.b1
  exact ⟨box1 h.b0, ⟨a0, a1, a2, a3⟩, box1 h.b2, fun o => by simp [World.frozen?, h.b2]⟩
set_option maxHeartbeats 8000000 in
set_option maxRecDepth 100000 in
theorem rjoin_ok (v : Value) (M : List Wt) (x : Wt) (w : World) (h : GS KW w v M) (hl : M.length < 128) (hc : chkE x = 0) (hs : x.tok.size ≤ maxLen) (hn : ∀ y ∈ M, y.task ≠ x.task) : Calls Try.prog 14 #[.agg #[v], .agg #[.int .i64 x.task, .int .i64 x.kind, .string x.key, .string x.tok]] w fun e w' => ∃ v', e = .returned (.tuple #[.agg #[v'], .int .i64 0]) ∧ OwnG KW w' w.heap.size v' (M ++ [x]) ∧ Below w.heap.size w w' := by
  have TS := hid (fun w' => rtask_any x.task w')
  have NM := hid (fun w' => rname_any x.tok w' hs)
  have AT := hid (fun w' (hb : Below w.heap.size w w') => rat_any v M x.task w' (h.below hb) (by omega))
  rw [atT_none M x.task 0 hn] at AT
  have HS := hid h
  have J0 := hid (J3.new w v x)
  have hch : taskB x.task = true ∧ x.key.size ≤ 4096 ∧ tokB x.tok = true ∧ 0 ≤ x.kind ∧ x.kind ≤ 7 := by
    unfold chkE at hc
    split at hc
    · cases hc
    · rename_i h1
      split at hc
      · cases hc
      · split at hc
        · cases hc
        · split at hc
          · cases hc
          · rename_i h2 h3 h4
            exact ⟨by simpa using h1, by omega, by simpa using h3, by omega, by omega⟩
  obtain ⟨q1, q2, q3, q4, q5⟩ := hch
  rw [q1] at TS
  rw [q3] at NM
  have q2' : ¬ (4096 : Int) < (x.key.size : Int) := by omega
  have LL : Hid (M.length < 128) := hl
  obtain ⟨p, cap, rfl⟩ := h.form
  obtain ⟨n, hnn⟩ : ∃ n, n = M.length := ⟨_, rfl⟩
  have HN := hid hnn
  rw [← hnn] at HS AT J0 LL
  rw [← hnn]
  have hn3 : ¬ (128 : Int) ≤ (n : Int) := by have := LL.out; omega
  clear h hl hc hs hn hnn q1 q3
  go_enter Try.func14, Try.ntmps14
  go_upto_region 13 with (first | (go_at_call 40; refine (TS.out _).mono ?_; rintro e w2 ⟨rfl, hw⟩; rw [hw]; clear hw) | (go_at_call 41; refine (NM.out _).mono ?_; rintro e w2 ⟨rfl, hw⟩; rw [hw]; clear hw) | (go_at_call 42; refine (AT.out _ J0.out.bl).mono ?_; rintro e w6 ⟨rfl, hb⟩; have J6 := hid (J0.out.below hb); obtain ⟨k0, ⟨k1, k2, k3, k4⟩, k5, k6⟩ := J6.out.cells; clear hb))
  obtain ⟨co, hco⟩ : ∃ co, co = Obj.cells #[.int .i64 x.task, .int .i64 x.kind, .string x.key, .string x.tok] 30 := ⟨_, rfl⟩
  have A0 := ap_of KW w6 co (.slice p n cap) M (HS.out.below J6.out.bl)
  rw [hco] at A0
  have AP0 : Hid (AP KW w6 (.cells #[] 30) (.cells #[.int .i64 x.task, .int .i64 x.kind, .string x.key, .string x.tok] 30) (.slice p n cap) M) := A0
  clear hco A0
  have JC3 : Hid (∀ W, Below w6.heap.size w6 W → W.cell? ⟨w.heap.size, 0, none⟩ = some (.slice p n cap) ∧ (W.cell? ⟨w.heap.size + 1, 0, none⟩ = some (.int .i64 x.task) ∧ W.cell? ⟨w.heap.size + 1, 1, none⟩ = some (.int .i64 x.kind) ∧ W.cell? ⟨w.heap.size + 1, 2, none⟩ = some (.string x.key) ∧ W.cell? ⟨w.heap.size + 1, 3, none⟩ = some (.string x.tok)) ∧ W.cell? ⟨w.heap.size + 1 + 1, 0, none⟩ = some (.slice none 0 0) ∧ ∀ o, W.frozen? ⟨w.heap.size + 1 + 1, o, none⟩ = false) := fun W hb => (J6.out.below hb).cells
  have L1 : Hid ((([] : List Wt).length + M.length) * KW.B ≤ 140737488355328) := by
    have h1 := LL.out
    have h2 := HN.out
    show (0 + M.length) * 48 ≤ _
    omega
  have L2 : Hid ((M.length + 1) * KW.B ≤ 140737488355328) := by
    have h1 := LL.out
    have h2 := HN.out
    show (M.length + 1) * 48 ≤ _
    omega
  have N1 : Hid (some (w6.heap.size + 1) ≠ (Value.slice (some ⟨w6.heap.size, 0, none⟩) 0 0).ownBlock) := by intro q; injection q with q; have q : w6.heap.size + 1 = w6.heap.size := q; omega
  have N2 : Hid (some w6.heap.size ≠ (Value.slice (some ⟨w6.heap.size + 1, 0, none⟩) 0 0).ownBlock) := by intro q; injection q with q; have q : w6.heap.size = w6.heap.size + 1 := q; omega
  clear TS NM AT J0 k1 k2 k3 k4 k5 k6 k0
  obtain ⟨k0, ⟨k1, k2, k3, k4⟩, k5, k6⟩ := J6.out.cells
  have ne1 : ¬ w.heap.size + 1 + 1 = w.heap.size := by omega
  have ne2 : ¬ w.heap.size = w.heap.size + 1 + 1 := by omega
  go_region_held3 (fun w' => w'.cell? ⟨w.heap.size, 0, none⟩ = some (.slice p n cap) ∧ w'.cell? ⟨w.heap.size + 1, 0, none⟩ = some (.int .i64 x.task) ∧ w'.cell? ⟨w.heap.size + 1, 1, none⟩ = some (.int .i64 x.kind) ∧ w'.cell? ⟨w.heap.size + 1, 2, none⟩ = some (.string x.key) ∧ w'.cell? ⟨w.heap.size + 1, 3, none⟩ = some (.string x.tok)) (first | go_keep | (go_split_ands; refine ⟨?_, ?_, ?_, ?_, ?_⟩ <;> first | go_keep | (rw [World.cell?_setCell_other] <;> simp_all)))
    (first
      | (refine step_append_g KW KW_ok (by rfl) (.tmp 50) (.tmp 52) 25 (by rfl) w6.heap.size Try.underlying25 w8 _ _ _ HC.out (.slice p8 M.length c8) M x _ (by rfl) O8.out (by rfl) (by rfl) L2.out B8.out.size ?_; intro g9 c9 w9 o9 b9 _ _; have O9 := hid o9; have B9 : Hid (Below w6.heap.size w6 w9) := B8.out.trans b9; obtain ⟨u0, ⟨u1, u2, u3, u4⟩, u5, u6⟩ := JC3.out _ B9.out; have h9 := (J6.out.below B9.out).b2; clear o9 b9)
      | (refine step_append_g KW KW_ok (by rfl) (.tmp 50) (.tmp 52) 25 (by rfl) w6.heap.size Try.underlying25 _ _ _ _ (heap_alloc_new w8 _) (.slice p8 M.length c8) M x _ (by rfl) (O8.out.below (bal w8 _)) (by rfl) (by rfl) L2.out (Nat.le_trans B8.out.size (bal w8 _).size) ?_; intro g9 c9 w9 o9 b9 _ _; have O9 := hid o9; have B9 : Hid (Below w6.heap.size w6 w9) := (bl3 B8.out (bal w8 _)).trans b9; obtain ⟨u0, ⟨u1, u2, u3, u4⟩, u5, u6⟩ := JC3.out _ B9.out; have h9 := (J6.out.below B9.out).b2; clear o9 b9)
      | (refine step_append_any KW KW_ok (by rfl) (.tmp 47) (.tmp 49) 25 (by rfl) w6.heap.size Try.underlying25 _ (.slice (some ⟨w6.heap.size, 0, none⟩) 0 0) (.slice p n cap) [] M (by rfl) AP0.out.a1.1 (by rfl) AP0.out.a1.2.1 L1.out AP0.out.a1.2.2.2 ?_; intro v8 w8 o8 b8 q8; rw [List.nil_append] at o8; obtain ⟨p8, c8, hv8, _⟩ := o8.form; subst hv8; have O8 := hid o8; have B8 : Hid (Below w6.heap.size w6 w8) := AP0.out.a1.2.2.1.trans b8; obtain ⟨y0, ⟨y1, y2, y3, y4⟩, y5, y6⟩ := JC3.out _ B8.out; skip; clear o8 b8 q8)
      | (refine step_append_any KW KW_ok (by rfl) (.tmp 47) (.tmp 49) 25 (by rfl) w6.heap.size Try.underlying25 _ (.slice (some ⟨w6.heap.size, 0, none⟩) 0 0) (.slice p n cap) [] M (by rfl) AP0.out.a2.1 (by rfl) AP0.out.a2.2.1 L1.out AP0.out.a2.2.2.2.1 ?_; intro v8 w8 o8 b8 q8; rw [List.nil_append] at o8; obtain ⟨p8, c8, hv8, _⟩ := o8.form; subst hv8; have O8 := hid o8; have B8 : Hid (Below w6.heap.size w6 w8) := AP0.out.a2.2.2.1.trans b8; obtain ⟨y0, ⟨y1, y2, y3, y4⟩, y5, y6⟩ := JC3.out _ B8.out; have HC := hid ((q8 _ (lt_of_heap AP0.out.a2.2.2.2.2) N1.out).trans AP0.out.a2.2.2.2.2); clear o8 b8 q8)
      | (refine step_append_any KW KW_ok (by rfl) (.tmp 47) (.tmp 49) 25 (by rfl) w6.heap.size Try.underlying25 _ (.slice (some ⟨w6.heap.size + 1, 0, none⟩) 0 0) (.slice p n cap) [] M (by rfl) AP0.out.a3.1 (by rfl) AP0.out.a3.2.1 L1.out AP0.out.a3.2.2.2.1 ?_; intro v8 w8 o8 b8 q8; rw [List.nil_append] at o8; obtain ⟨p8, c8, hv8, _⟩ := o8.form; subst hv8; have O8 := hid o8; have B8 : Hid (Below w6.heap.size w6 w8) := AP0.out.a3.2.2.1.trans b8; obtain ⟨y0, ⟨y1, y2, y3, y4⟩, y5, y6⟩ := JC3.out _ B8.out; have HC := hid ((q8 _ (lt_of_heap AP0.out.a3.2.2.2.2) N2.out).trans AP0.out.a3.2.2.2.2); clear o8 b8 q8))
  all_goals
    have hz := heap_setCell_same w9 (w.heap.size + 1 + 1) 0 _ _ (.slice (some ⟨g9, 0, none⟩) (M.length + 1) c9) h9
    have BZ : Hid (Below w.heap.size w (w9.setCell ⟨w.heap.size + 1 + 1, 0, none⟩ (.slice (some ⟨g9, 0, none⟩) (M.length + 1) c9))) := (bl3 J6.out.bl B9.out).setCell (p := ⟨w.heap.size + 1 + 1, 0, none⟩) (show w.heap.size ≤ w.heap.size + 1 + 1 by omega) _
    have OZ : Hid (OwnG KW (w9.setCell ⟨w.heap.size + 1 + 1, 0, none⟩ (.slice (some ⟨g9, 0, none⟩) (M.length + 1) c9)) w6.heap.size (.slice (some ⟨g9, 0, none⟩) (M.length + 1) c9) (M ++ [x])) := O9.out.far (fun g hg => Below.heap_setCell _ _ _ _ (fun e => O9.out.notat h9 (by decide) (by have e2 : g = w.heap.size + 1 + 1 := e; rw [e2] at hg; exact hg)))
    have hc9 := box1 hz
    go_wp2_with fail
    exact bodyPost_ret (v := .tuple #[.agg #[.slice (some ⟨g9, 0, none⟩) (M.length + 1) c9], .int .i64 0]) (by simp [results, Try.results14, go_sem, hc9]) rfl ⟨_, rfl, OZ.out.low J6.out.bl.size, BZ.out⟩
end Go.Proofs.Ytofdfofpdfaimaa
