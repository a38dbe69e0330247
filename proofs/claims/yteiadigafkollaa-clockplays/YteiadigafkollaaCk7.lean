/- The clock's Pending and Clone. -/
import Derived.Test.YteiadigafkollaaCk6
import Derived.Test.YteiadigafkollaaSt10
namespace Go.Proofs.Yteiadigafkollaa
open Go.RowKit Go.Sort Go.Shelf

set_option maxHeartbeats 2000000 in
set_option maxRecDepth 100000 in
theorem sort_nil (w : World) (qb : Nat) (h : w.cell? ⟨qb, 0, none⟩ = some (.slice none 0 0)) :
    Calls Try.prog 37 #[.iface 74 (.pointer (some ⟨qb, 0, none⟩))] w fun e w' => e = .returned (.tuple #[]) ∧ w' = w := by
  have eN := ent_len
  have mN := inv_len h
  go_enter Try.func37, Try.ntmps37
  go_wp2_with (go_at_fn 91; refine (len_any _ _ _ _).mono ?_; rintro e w' ⟨rfl, rfl⟩)
  first | go_end0 | ((try simp only [Exit.inBlock, Exit.then]); refine bodyPost_ret (results_none rfl _ _ _) rfl ?_)
  exact ⟨rfl, rfl⟩
/-- A row of the call's own, or nil: these timers. -/
def PL (w : World) (base : Nat) (v : Value) (L : List Tm) : Prop := (v = .slice none 0 0 ∧ L = []) ∨ ∃ g c d, v = .slice (some ⟨g, 0, none⟩) L.length c ∧ base ≤ g ∧ Row w g c d ∧ d.toList = L
theorem PL.below {w w' : World} {base : Nat} {v : Value} {L : List Tm} (h : PL w base v L) (k : Below w.heap.size w w') : PL w' base v L := by
  rcases h with h | ⟨g, c, d, hv, hb, hr, hd⟩
  · exact Or.inl h
  · exact Or.inr ⟨g, c, d, hv, hb, hr.keep (k.block g hr.lt), hd⟩
theorem pending_sorted {d d' : Array Tm} {L : List Tm} (hp : d.toList.Perm L) (hs : Srt L) (h1 : d'.toList.Perm d.toList) (h2 : SortedIn tlt 0 d.size d') : d'.toList = L := by
  have hn : d'.toList.Pairwise fun a b => a.num ≠ b.num := num_perm (h1.trans hp).symm hs.num
  refine sorted_one _ _ (h1.trans hp) ?_ hs.ord
  rw [List.pairwise_iff_getElem]
  intro i j hi hj hij
  have hs2 : d'.size = d.size := by have := h1.length_eq; simpa using this
  have hi2 : i < d'.size := by simpa using hi
  have hj2 : j < d'.size := by simpa using hj
  have e := h2 i j (Nat.zero_le _) hij (by omega)
  rw [get!_list d' i hi2, get!_list d' j hj2] at e
  exact tlt_total ((List.pairwise_iff_getElem.1 hn i j hi hj hij).symm) e
set_option maxHeartbeats 4000000 in
set_option maxRecDepth 100000 in
theorem pending_any (w : World) (b : Nat) (xo : Option Nat) (now given : Int) (L : List Tm) (h : CL w b xo now given L) :
    Calls Try.prog 19 #[.pointer (some ⟨b, 0, none⟩)] w fun e w' => ∃ v, e = .returned v ∧ PL w' w.heap.size v L ∧ Below w.heap.size w w' := by
  obtain ⟨d, hk, hp, hh, ho⟩ := h
  obtain ⟨v, hv, hsl⟩ := hk.sl
  have hsz : d.size = L.length := by have := hp.length_eq; simpa using this
  have hlen := ho.len
  have C := clone_any w v d hsl (by omega)
  have HZ : Hid (d.size = L.length) := hsz
  clear hk hsl hsz
  go_enter Try.func19, Try.ntmps19
  go_wp2_with fail
  refine C.mono ?_
  rintro e w1 ⟨v', rfl, hb1, ⟨rfl, rfl⟩ | ⟨g, c, rfl, hg, hr⟩⟩
  · have hL : L = [] := by have := HZ.out; simpa using this.symm
    subst hL
    have hb2 : Hid (Below w.heap.size w (w1.alloc (.cells #[.slice none 0 0] 58))) := hb1.alloc (by have := hb1.size; omega) _
    have SN := sort_nil (w1.alloc (.cells #[.slice none 0 0] 58)) w1.heap.size (by rw [cell_of_row _ _ _ _ _ _ (heap_alloc_new w1 _)]; rfl)
    clear C hb1
    go_wp2_with (go_at_call 37; refine SN.mono ?_; rintro e w' ⟨rfl, rfl⟩)
    go_ret
    exact ⟨_, rfl, Or.inl ⟨rfl, rfl⟩, hb2.out⟩
  · have hgl := hr.lt
    have hs1 : (w1.alloc (.cells #[.slice (some ⟨g, 0, none⟩) d.size c] 58)).heap.size = w1.heap.size + 1 := by show (w1.heap.push _).size = _; simp
    have Q : QAt (w1.alloc (.cells #[.slice (some ⟨g, 0, none⟩) d.size c] 58)) w1.heap.size 0 g c d := by
      refine ⟨by rw [cell_of_row _ _ _ _ _ _ (heap_alloc_new w1 _)]; rfl, by simp, hr.keep (Below.heap_alloc w1 _ g hgl), by omega, by omega⟩
    have hb2 : Hid (Below w.heap.size w (w1.alloc (.cells #[.slice (some ⟨g, 0, none⟩) d.size c] 58))) := hb1.alloc (by have := hb1.size; omega) _
    have S := (sort_q _ _ _ _ _ _ Q (by have := HZ.out; omega)).mono (R' := fun e w' => e = .returned (.tuple #[]) ∧ w'.cell? ⟨w1.heap.size, 0, none⟩ = some (.slice (some ⟨g, 0, none⟩) d.size c) ∧ PL w' w.heap.size (.slice (some ⟨g, 0, none⟩) d.size c) L ∧ Below w.heap.size w w') (by
      rintro e w' ⟨rfl, d', h1, h2, q, k⟩
      have hs2 : d'.size = d.size := by have := h1.length_eq; simpa using this
      have e2 := q.head
      rw [hs2] at e2
      refine ⟨rfl, e2, Or.inr ⟨g, c, d', by rw [HZ.out], hg, q.row, pending_sorted hp ho.srt h1 h2⟩, hb2.out.trans (k.below hg (by have := hb1.size; omega))⟩)
    clear C hb1 hr Q hb2
    go_wp2_with (go_at_call 37; refine S.mono ?_; rintro e w' ⟨rfl, hc', hpl, hbb⟩)
    go_ret
    exact ⟨_, rfl, hpl, hbb⟩
/-- What slices.Clone gives. -/
def CR (w w' : World) (v' : Value) (d : Array Tm) : Prop := (v' = .slice none 0 0 ∧ d = #[]) ∨ ∃ g c, v' = .slice (some ⟨g, 0, none⟩) d.size c ∧ w.heap.size ≤ g ∧ Row w' g c d
set_option maxHeartbeats 4000000 in
set_option maxRecDepth 100000 in
theorem cclone_any (w : World) (b : Nat) (xo : Option Nat) (now given : Int) (L : List Tm) (h : CL w b xo now given L) :
    Calls Try.prog 14 #[.pointer (some ⟨b, 0, none⟩)] w fun e w' => ∃ b' xo', e = .returned (.pointer (some ⟨b', 0, none⟩)) ∧ CL w' b' xo' now given L ∧ w.heap.size ≤ b' ∧ (∀ X, xo' = some X → w.heap.size ≤ X) ∧ Below w.heap.size w w' := by
  obtain ⟨d, hk, hp, hh, ho⟩ := h
  obtain ⟨v, hv, hsl⟩ := hk.sl
  have hsz : d.size = L.length := by have := hp.length_eq; simpa using this
  have hlen := ho.len
  have C : ∀ w1, Below w.heap.size w w1 → w1.heap.size = w.heap.size → Calls Try.prog 33 #[v] w1 fun e w' => ∃ p n c, e = .returned (.slice p n c) ∧ Below w.heap.size w w' ∧ CR w w' (.slice p n c) d := fun w1 hb1 hs1 =>
    (clone_any w1 v d (hsl.below hb1) (by omega)).mono fun e w' ⟨v', he, hb, hx⟩ => by
      rw [hs1] at hx
      have hb2 := hb1.trans (hb.mono (by omega))
      rcases hx with ⟨rfl, hd⟩ | ⟨g, c, rfl, h1⟩
      · exact ⟨none, 0, 0, he, hb2, Or.inl ⟨rfl, hd⟩⟩
      · exact ⟨_, _, _, he, hb2, Or.inr ⟨g, c, rfl, h1⟩⟩
  have c0 := hk.c0
  have c1 := hk.c1
  have FIN : Hid (∀ w' v', Below w.heap.size w w' → CR w w' v' d → ∃ b' xo', Ending.returned (.pointer (some ⟨w'.heap.size, 0, none⟩)) = .returned (.pointer (some ⟨b', 0, none⟩)) ∧ CL (w'.alloc (.cells #[.int .i64 now, .int .i64 given, v'] 60)) b' xo' now given L ∧ w.heap.size ≤ b' ∧ (∀ X, xo' = some X → w.heap.size ≤ X) ∧ Below w.heap.size w (w'.alloc (.cells #[.int .i64 now, .int .i64 given, v'] 60))) := by
    intro w' v' hb hx
    have hbs := hb.size
    have hs1 : (w'.alloc (.cells #[.int .i64 now, .int .i64 given, v'] 60)).heap.size = w'.heap.size + 1 := by show (w'.heap.push _).size = _; simp
    have cell : ∀ o, (w'.alloc (.cells #[.int .i64 now, .int .i64 given, v'] 60)).cell? ⟨w'.heap.size, o, none⟩ = #[.int .i64 now, .int .i64 given, v'][o]? := fun o => cell_of_row _ _ _ _ _ _ (heap_alloc_new w' _)
    have hb2 : Below w.heap.size w (w'.alloc (.cells #[.int .i64 now, .int .i64 given, v'] 60)) := hb.alloc hbs _
    rcases hx with ⟨rfl, rfl⟩ | ⟨g, c, rfl, hg, hr⟩
    · exact ⟨w'.heap.size, none, rfl, ⟨#[], ⟨by rw [cell]; rfl, by rw [cell]; rfl, fun o => by simp, by omega, Or.inr ⟨rfl, rfl, by rw [cell]; rfl⟩⟩, hp, hh, ho⟩, hbs, (fun X e => by cases e), hb2⟩
    · refine ⟨w'.heap.size, some g, rfl, ⟨d, ⟨by rw [cell]; rfl, by rw [cell]; rfl, fun o => by simp, by omega, Or.inl ⟨g, c, rfl, ⟨by rw [cell]; rfl, by simp, hr.keep (Below.heap_alloc w' _ g hr.lt), by have := hr.lt; omega, by omega⟩⟩⟩, hp, hh, ho⟩, hbs, (fun X e => by injection e with e; omega), hb2⟩
  have CC : Hid (∀ w', Below w.heap.size w w' → w'.cell? ⟨b, 0, none⟩ = some (.int .i64 now) ∧ w'.cell? ⟨b, 1, none⟩ = some (.int .i64 given)) := fun w' hb => ⟨(hb.cell (p := ⟨b, 0, none⟩) hk.lt).trans c0, (hb.cell (p := ⟨b, 1, none⟩) hk.lt).trans c1⟩
  clear hk hsl hsz
  go_enter Try.func14, Try.ntmps14
  go_wp2
  go_region_with (go_at_call 33; refine (C w.drew ((Below.refl w.heap.size w).drew) rfl).mono ?_; rintro e w1 ⟨p, n, c, rfl, hb1, hx1⟩; have d0 := (CC.out _ hb1).1; have d1 := (CC.out _ hb1).2)
  all_goals
    go_wp2
    go_ret
    exact FIN.out _ _ hb1 hx1
end Go.Proofs.Yteiadigafkollaa
