/- Waiting: filled. -/
import Derived.Test.YtofdfofpdfaimaaWe2
namespace Go.Proofs.Ytofdfofpdfaimaa
open Go.RowKit Go.Maps

/-- A call of the statements'. -/
structure Ac where
  k : Int
  x : Wt
  n : Int
def acL (a : Ac) : List Value := [.int .i64 a.k, .int .i64 a.x.task, .int .i64 a.x.kind, .string a.x.key, .string a.x.tok, .int .i64 a.n]
def KA : RK Ac := ⟨32, 6, 64, .agg #[.int .i64 0, .int .i64 0, .int .i64 0, .string ByteArray.empty, .string ByteArray.empty, .int .i64 0], acL⟩
def acOk (a : Ac) : Prop := a.x.key.size ≤ maxLen ∧ a.x.tok.size ≤ maxLen
theorem GS.atA {w : World} {p : Option Addr} {n cap k : Nat} {l : List Ac} (h : GS KA w (.slice p n cap) l) (hk : k < l.length) : ∃ X o, p = some ⟨X, o, none⟩ ∧ w.cell? ⟨X, o + k * 6, none⟩ = some (.int .i64 l[k].k) ∧ w.cell? ⟨X, o + k * 6 + 1, none⟩ = some (.int .i64 l[k].x.task) ∧ w.cell? ⟨X, o + k * 6 + 2, none⟩ = some (.int .i64 l[k].x.kind) ∧ w.cell? ⟨X, o + k * 6 + 3, none⟩ = some (.string l[k].x.key) ∧ w.cell? ⟨X, o + k * 6 + 4, none⟩ = some (.string l[k].x.tok) ∧ w.cell? ⟨X, o + k * 6 + 5, none⟩ = some (.int .i64 l[k].n) := by
  obtain ⟨X, o, h1, _, h2⟩ := GS.at h hk
  exact ⟨X, o, h1, h2 0 _ rfl, h2 1 _ rfl, h2 2 _ rfl, h2 3 _ rfl, h2 4 _ rfl, h2 5 _ rfl⟩
/-- A room behind joins. -/
def fillS (l : List Ac) : List Wc × Nat := l.foldl (fun s a => (joinL s.1 s.2 a.x, joinC s.1 s.2 a.x)) ([], 0)
theorem fillS_app (l : List Ac) (a : Ac) : fillS (l ++ [a]) = (joinL (fillS l).1 (fillS l).2 a.x, joinC (fillS l).1 (fillS l).2 a.x) := by unfold fillS; rw [List.foldl_append]; rfl
theorem joinC_le (L : List Wc) (c : Nat) (x : Wt) : joinC L c x ≤ c + 1 := by unfold joinC; split <;> omega
/-- filled, under way. -/
structure FL (w wk : World) (r m : Nat) (L : List Wc) (c : Nat) (v : Value) : Prop where
  rx : ∃ f, RX wk w.heap.size r m L c f
  ow : OwnG KW wk w.heap.size v (L.map fun x => x.w)
  bl : Below w.heap.size w wk
theorem FL.turn {w wk w2 : World} {r m : Nat} {L L' : List Wc} {c c' : Nat} {v : Value} (h : FL w wk r m L c v) (q : RQ w.heap.size r m wk L' c' w2) : (∃ f, RX w2 w.heap.size r m L' c' f) ∧ OwnG KW w2 w.heap.size v (L.map fun x => x.w) ∧ Below w.heap.size w w2 :=
  ⟨q.rx, h.ow.kp q.kp (by decide) (by decide), h.bl.trans q.bl⟩
theorem FL.push {w w2 w3 : World} {r m : Nat} {M : List Wt} {L' : List Wc} {c : Nat} {v : Value} {g n cp : Nat} {x : Wt} (rx : ∃ f, RX w2 w.heap.size r m L' c f) (ow : OwnG KW w2 w.heap.size v M) (bl : Below w.heap.size w w2) (e : L'.map (fun x => x.w) = M ++ [x])
    (o : OwnG KW w3 w.heap.size (.slice (some ⟨g, 0, none⟩) n cp) (M ++ [x])) (b : Below w.heap.size w2 w3) (k : ∀ k, k < w2.heap.size → some k ≠ v.ownBlock → w3.heap[k]? = w2.heap[k]?) : FL w w3 r m L' c (.slice (some ⟨g, 0, none⟩) n cp) := by
  obtain ⟨f, hf⟩ := rx
  refine ⟨⟨f, hf.keep (fun y hy => k y (hf.lt hy).2 (fun e => hf.notown ow (by decide) (by decide) y e.symm hy))⟩, by rw [e]; exact o, bl.trans b⟩
set_option maxHeartbeats 8000000 in
set_option maxRecDepth 100000 in
theorem filled_any (v : Value) (l : List Ac) (w : World) (h : GS KA w v l) (hok : ∀ a ∈ l, acOk a) (hl : l.length ≤ 1000000000000000) : Calls Try.prog 21 #[v] w fun e w' => ∃ p cc, e = .returned (.tuple #[.pointer (some ⟨w.heap.size + 1, 0, none⟩), .slice p (fillS l).1.length cc]) ∧ FL w w' (w.heap.size + 1) w.heap.size (fillS l).1 (fillS l).2 (.slice p (fillS l).1.length cc) := by
  obtain ⟨p, cap, rfl⟩ := h.form
  have HS := hid h
  have NW := new_any w
  obtain ⟨r, hr⟩ : ∃ r, r = w.heap.size + 1 := ⟨_, rfl⟩
  rw [← hr] at NW
  rw [← hr]
  replace NW := hid NW
  have OK := hid hok
  obtain ⟨n, hn⟩ : ∃ n, n = l.length := ⟨_, rfl⟩
  have HN := hid hn
  rw [← hn]
  rw [← hn] at HS
  have hl2 : n ≤ 1000000000000000 := by omega
  clear h hn hok hr
  go_enter Try.func21, Try.ntmps21
  go_wp2_with (go_at_call 7; refine NW.out.mono ?_; rintro e w1 ⟨rfl, hx1, hb1⟩; have X1 : Hid (∃ f, RX w1 w.heap.size r w.heap.size [] 0 f) := ⟨_, hx1⟩; have B1 := hid hb1; clear hx1 hb1 NW)
  have F0 : Hid (FL w (w1.alloc (.cells #[] 30)) r w.heap.size (fillS (l.take 0)).1 (fillS (l.take 0)).2 (.slice (some ⟨w1.heap.size, 0, none⟩) 0 0)) := by
    obtain ⟨f, hf⟩ := X1.out
    exact ⟨⟨f, hf.below (bal _ _)⟩, (OwnG.empty KW w1).low B1.out.size, bl3 B1.out (bal _ _)⟩
  clear X1 B1
  go_loopw [5, 6] (fun v5 v6 wr => ∃ (k : Nat) (vg : Value) (wk : World), v6 = .int .i64 k ∧ vg = v5 ∧ wk = wr ∧ k ≤ n ∧ (fillS (l.take k)).2 ≤ k ∧ Hid (FL w wk r w.heap.size (fillS (l.take k)).1 (fillS (l.take k)).2 vg)) (fun _ v6 _ => n - (intOf v6).toNat)
  case atStart => exact ⟨0, _, _, rfl, rfl, rfl, Nat.zero_le _, by simp [fillS], F0⟩
  case round =>
    obtain ⟨k, vg, wr, rfl, rfl, rfl, hk, hck, HF⟩ := hrel
    clear F0
    by_cases hlt : k < n
    · have hkl : k < l.length := by rw [← HN.out]; exact hlt
      obtain ⟨X, o, e1, x0, x1, x2, x3, x4, x5⟩ := (HS.out.below HF.out.bl).atA hkl
      obtain rfl : p = some ⟨X, o, none⟩ := e1
      have zx : X < wr.heap.size := (HS.out.below HF.out.bl).ltX hkl
      have ok := OK.out l[k] (List.getElem_mem hkl)
      have FS : Hid (fillS (l.take (k + 1)) = (joinL (fillS (l.take k)).1 (fillS (l.take k)).2 l[k].x, joinC (fillS (l.take k)).1 (fillS (l.take k)).2 l[k].x)) := by
        show _ = _
        rw [List.take_succ_eq_append_getElem hkl, fillS_app]
      have J0 := hid (fun wk hr => join_rq l[k].x wk w.heap.size r w.heap.size (fillS (l.take k)).1 (fillS (l.take k)).2 hr ok.1 ok.2 (by omega))
      have CB := joinC_le (fillS (l.take k)).1 (fillS (l.take k)).2 l[k].x
      have ML : Hid ((fillS (l.take k)).1.length ≤ 128) := by
        obtain ⟨f, hf⟩ := HF.out.rx
        exact hf.ri.len
      have NS : Hid (joinE (fillS (l.take k)).1 l[k].x = 0 → joinL (fillS (l.take k)).1 (fillS (l.take k)).2 l[k].x = (fillS (l.take k)).1 ++ [⟨l[k].x, (fillS (l.take k)).2⟩]) := fun e => (jl e).1
      have NO : Hid (joinE (fillS (l.take k)).1 l[k].x ≠ 0 → joinL (fillS (l.take k)).1 (fillS (l.take k)).2 l[k].x = (fillS (l.take k)).1) := fun e => by unfold joinL; rw [if_neg e]
      generalize l[k] = a at *
      generalize joinL (fillS (l.take k)).1 (fillS (l.take k)).2 a.x = L2 at *
      generalize joinC (fillS (l.take k)).1 (fillS (l.take k)).2 a.x = c2 at *
      generalize joinE (fillS (l.take k)).1 a.x = je at *
      generalize (fillS (l.take k)).1 = L1 at *
      generalize (fillS (l.take k)).2 = c1 at *
      clear ok hkl
      go_upto_region 7 with fail
      obtain ⟨ob, hob⟩ : ∃ ob, ob = Obj.cells #[.int .i64 a.x.task, .int .i64 a.x.kind, .string a.x.key, .string a.x.tok] 30 := ⟨_, rfl⟩
      rw [← hob]
      have F2 : Hid (FL w (wr.alloc ob) r w.heap.size L1 c1 vg) := by
        obtain ⟨f, hf⟩ := HF.out.rx
        exact ⟨⟨f, hf.below (bal _ _)⟩, HF.out.ow.below (bal _ _), bl3 HF.out.bl (bal _ _)⟩
      have H2 : Hid ((wr.alloc ob).heap[wr.heap.size]? = some (.cells #[.int .i64 a.x.task, .int .i64 a.x.kind, .string a.x.key, .string a.x.tok] 30)) := (heap_alloc_new wr ob).trans (congrArg some hob)
      generalize wr.alloc ob = w2 at *
      generalize wr.heap.size = Y at *
      obtain ⟨t0, t1, t2, t3, _⟩ := cells4 H2.out
      have J2 := hid (J0.out w2 F2.out.rx)
      clear hob HF J0
      by_cases hje : je = 0
      · have e2 := NS.out hje
        subst hje
        go_wp2_with fail
        refine Calls.mono J2.out ?_
        rintro e w3 ⟨rfl, q3⟩
        obtain ⟨x3, o3, b3⟩ := F2.out.turn q3
        have h3 := (q3.kp _ _ _ H2.out (by decide) (by decide)).trans H2.out
        obtain ⟨s0, s1, s2, s3, _⟩ := cells4 h3
        have X3 := hid x3
        have O3 := hid o3
        have B3 := hid b3
        have Z3 : Hid (w.heap.size ≤ w3.heap.size) := b3.size
        have LN : Hid (((L1.map fun x => x.w).length + 1) * KW.B ≤ 140737488355328) := by
          have := ML.out
          show ((L1.map fun x => x.w).length + 1) * 48 ≤ _
          simp; omega
        have E2 : Hid (L2.map (fun x => x.w) = L1.map (fun x => x.w) ++ [a.x]) := by show _ = _; rw [e2, List.map_append]; rfl
        clear o3 F2
        generalize L1.map (fun x => x.w) = M1 at *
        clear x3 b3 q3 h3 J2 t0 t1 t2 t3 e2 NS NO
        go_wp2_with (at_builtin; refine append_g KW KW_ok rfl (.tmp 32) (.tmp 34) 25 rfl w.heap.size Try.underlying25 _ _ _ vg M1 a.x _ rfl O3.out _ rfl rfl rfl LN.out Z3.out ?_; intro g4 c4 w4 ho4 hb4 hk4 hg4)
        have F4 := hid (FL.push X3.out O3.out B3.out E2.out ho4 hb4 hk4)
        clear ho4 hb4 hk4 hg4
        go_roundw
        case rel => exact ⟨k + 1, _, _, by go_num, rfl, rfl, by omega, by rw [FS.out]; show c2 ≤ _; omega, by rw [FS.out]; exact F4⟩
        case measure => simp [intOf]; omega
      · have e2 := NO.out hje
        have b1 : (je == 0) = false := by simpa using hje
        have b2 : ¬ je = 0 := hje
        clear hje
        go_wp2_with fail
        refine Calls.mono J2.out ?_
        rintro e w3 ⟨rfl, q3⟩
        obtain ⟨x3, o3, b3⟩ := F2.out.turn q3
        have F4 : Hid (FL w w3 r w.heap.size L2 c2 vg) := ⟨x3, by rw [e2]; exact o3, b3⟩
        clear x3 o3 b3 q3 J2 t0 t1 t2 t3 e2 NS NO F2
        go_wp2_with fail
        go_roundw
        case rel => exact ⟨k + 1, _, _, by go_num, rfl, rfl, by omega, by rw [FS.out]; show c2 ≤ _; omega, by rw [FS.out]; exact F4⟩
        case measure => simp [intOf]; omega
    · obtain rfl : k = n := by omega
      rw [List.take_of_length_le (by have := HN.out; omega)] at HF
      obtain ⟨pv, cv, hvg, _⟩ := HF.out.ow.form
      rw [List.length_map] at hvg
      subst hvg
      go_wp2_with fail
      go_ret2
      exact ⟨_, _, rfl, HF.out⟩
end Go.Proofs.Ytofdfofpdfaimaa
