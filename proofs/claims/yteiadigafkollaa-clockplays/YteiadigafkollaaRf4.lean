/- The reference's set, At, After, Every. -/
import Derived.Test.YteiadigafkollaaRf3
namespace Go.Proofs.Yteiadigafkollaa
open Go.RowKit Go.Sort Go.Shelf

/-- Two boxes behind a call that turns nothing old. -/
theorem two_boxes {w w' : World} {cs1 cs2 : Array Value} {t1 t2 : TypeId} (hb : Below ((w.alloc (.cells cs1 t1)).alloc (.cells cs2 t2)).heap.size ((w.alloc (.cells cs1 t1)).alloc (.cells cs2 t2)) w') :
    (∀ o, w'.cell? ⟨w.heap.size, o, none⟩ = cs1[o]?) ∧ (∀ o, w'.cell? ⟨w.heap.size + 1, o, none⟩ = cs2[o]?) ∧ (∀ o, w'.frozen? ⟨w.heap.size, o, none⟩ = false) ∧ (∀ o, w'.frozen? ⟨w.heap.size + 1, o, none⟩ = false) ∧ w.heap.size + 2 ≤ w'.heap.size ∧ Below w.heap.size w w' := by
  have hs := hb.size
  have h1 : w'.heap[w.heap.size]? = some (.cells cs1 t1) := by
    rw [hb.block _ (by simp; omega), Below.heap_alloc _ _ _ (by simp)]; exact heap_alloc_new w _
  have h2 : w'.heap[w.heap.size + 1]? = some (.cells cs2 t2) := by
    rw [hb.block _ (by simp)]
    have := heap_alloc_new (w.alloc (.cells cs1 t1)) (.cells cs2 t2)
    simpa using this
  refine ⟨fun o => cell_of_row _ _ _ _ _ _ h1, fun o => cell_of_row _ _ _ _ _ _ h2, fun o => frozen_of_row h1, fun o => frozen_of_row h2, by simpa using hs, ?_⟩
  exact (((Below.refl _ _).alloc (Nat.le_refl _) _).alloc (by simp) _).trans (hb.mono (by simp; omega))
theorem rs_two {w : World} {v : Value} {L : List Tm} (h : RS w v L) (o1 o2 : Obj) : RS ((w.alloc o1).alloc o2) v L := h.below (((Below.refl _ _).alloc (Nat.le_refl _) _).alloc (by simp) _)
theorem OwnT.sets {w : World} {base : Nat} {v : Value} {l : List Tm} (h : OwnT w base v l) (a : Addr) (u : Value) (ha : a.block < base) : OwnT (w.setCell a u) base v l :=
  h.far (fun g hg => Below.heap_setCell _ _ _ _ (fun e => by
    obtain ⟨p, cap, rfl⟩ := h.form
    cases p with
    | none => simp [Value.ownBlock] at hg
    | some a2 => have h3 := h.newB a2 _ _ rfl; simp [Value.ownBlock] at hg; omega))
theorem far_set {w : World} {qb qo b o : Nat} {v : Value} (h : b ≠ qb) : (w.setCell ⟨qb, qo, none⟩ v).cell? ⟨b, o, none⟩ = w.cell? ⟨b, o, none⟩ := World.cell?_setCell_other _ _ _ _ (by intro e; injection e with e1 _ _; exact h e1.symm)
/-- What the reference's set answers. -/
def RSet (w w' : World) (time made at' ev : Int) (p : Option Addr) (cap : Nat) (L : List Tm) (e : Ending) : Prop :=
  Below w.heap.size w w' ∧ ((1024 ≤ L.length ∧ e = .returned (.tuple #[.agg #[.int .i64 time, .int .i64 made, .slice p L.length cap], .int .i64 0, .int .i64 3])) ∨ (L.length < 1024 ∧ ∃ p' cap', e = .returned (.tuple #[.agg #[.int .i64 time, .int .i64 (made + 1), .slice p' (L.length + 1) cap'], .int .i64 (made + 1), .int .i64 0]) ∧ OwnT w' w.heap.size (.slice p' (L.length + 1) cap') (ins ⟨made + 1, at', ev⟩ L)))
set_option maxHeartbeats 8000000 in
set_option maxRecDepth 100000 in
theorem rset_any (w : World) (time made at' ev : Int) (p : Option Addr) (cap : Nat) (L : List Tm) (h : RS w (.slice p L.length cap) L) (hl : L.length ≤ 1024) (hm : 0 ≤ made ∧ made ≤ 1000000000000000000) :
    Calls Try.prog 43 #[.agg #[.int .i64 time, .int .i64 made, .slice p L.length cap], .int .i64 at', .int .i64 ev] w fun e w' => RSet w w' time made at' ev p cap L e := by
  have HR : Hid (RS w (.slice p L.length cap) L) := h
  obtain ⟨hm0, hm1⟩ := hm
  clear h
  by_cases hf : 1024 ≤ L.length
  · have hf2 : (1024 : Int) ≤ L.length := by omega
    go_enter Try.func43, Try.ntmps43
    go_wp2
    exact bodyPost_ret (v := .tuple #[.agg #[.int .i64 time, .int .i64 made, .slice p L.length cap], .int .i64 0, .int .i64 3]) (by simp [results, Try.results43, go_sem]) rfl ⟨((Below.refl _ _).alloc (Nat.le_refl _) _).alloc (by simp) _, Or.inl ⟨hf, rfl⟩⟩
  · have hf2 : ¬ (1024 : Int) ≤ L.length := by omega
    go_enter Try.func43, Try.ntmps43
    go_wp2_with fail
    refine (laid_any _ _ L ⟨made + 1, at', ev⟩ (rs_two HR.out _ _) (by omega)).mono ?_
    rintro e w5 ⟨p5, c5, rfl, ho5, hb5⟩
    obtain ⟨q1, q2, q3, q4, q5, q6⟩ := two_boxes hb5
    have HO5 : Hid (OwnT w5 (w.heap.size + 2) (.slice p5 (L.length + 1) c5) (ins ⟨made + 1, at', ev⟩ L)) := by show OwnT _ _ _ _; simpa using ho5
    have HB5 : Hid (Below w.heap.size w w5) := q6
    have c10 : w5.cell? ⟨w.heap.size, 0, none⟩ = some (.int .i64 time) := q1 0
    have c11 : w5.cell? ⟨w.heap.size, 1, none⟩ = some (.int .i64 (made + 1)) := q1 1
    have c12 : w5.cell? ⟨w.heap.size, 2, none⟩ = some (.slice p L.length cap) := q1 2
    have c20 : w5.cell? ⟨w.heap.size + 1, 0, none⟩ = some (.int .i64 0) := q2 0
    have c21 : w5.cell? ⟨w.heap.size + 1, 1, none⟩ = some (.int .i64 0) := q2 1
    have c22 : w5.cell? ⟨w.heap.size + 1, 2, none⟩ = some (.slice none 0 0) := q2 2
    clear ho5 hb5 q1 q2 q6
    have SS : Hid _ := set3 (w := w5.setCell ⟨w.heap.size, 2, none⟩ (.slice p5 (L.length + 1) c5)) (B := w.heap.size + 1) (a' := .int .i64 time) (b' := .int .i64 (made + 1)) (c' := .slice p5 (L.length + 1) c5) (by rw [far_set (by omega)]; exact c20) (by rw [far_set (by omega)]; exact c21) (by rw [far_set (by omega)]; exact c22)
    have FB : Hid (Below w.heap.size w ((((w5.setCell ⟨w.heap.size, 2, none⟩ (.slice p5 (L.length + 1) c5)).setCell ⟨w.heap.size + 1, 0, none⟩ (.int .i64 time)).setCell ⟨w.heap.size + 1, 1, none⟩ (.int .i64 (made + 1))).setCell ⟨w.heap.size + 1, 2, none⟩ (.slice p5 (L.length + 1) c5)).drew) := ((((HB5.out.setCell (Nat.le_refl _) _).setCell (by simp) _).setCell (by simp) _).setCell (by simp) _).drew
    have FO : Hid (OwnT ((((w5.setCell ⟨w.heap.size, 2, none⟩ (.slice p5 (L.length + 1) c5)).setCell ⟨w.heap.size + 1, 0, none⟩ (.int .i64 time)).setCell ⟨w.heap.size + 1, 1, none⟩ (.int .i64 (made + 1))).setCell ⟨w.heap.size + 1, 2, none⟩ (.slice p5 (L.length + 1) c5)).drew (w.heap.size + 2) (.slice p5 (L.length + 1) c5) (ins ⟨made + 1, at', ev⟩ L)) := ((((HO5.out.sets ⟨w.heap.size, 2, none⟩ _ (by simp)).sets ⟨w.heap.size + 1, 0, none⟩ _ (by simp)).sets ⟨w.heap.size + 1, 1, none⟩ _ (by simp)).sets ⟨w.heap.size + 1, 2, none⟩ _ (by simp))
    go_wp2
    go_region
    all_goals
      go_wp2
      exact bodyPost_ret (v := .tuple #[.agg #[.int .i64 time, .int .i64 (made + 1), .slice p5 (L.length + 1) c5], .int .i64 (made + 1), .int .i64 0]) (by simp [results, Try.results43, go_sem, SS.out.1, SS.out.2.1, SS.out.2.2]) rfl ⟨FB.out, Or.inr ⟨by omega, p5, c5, rfl, FO.out.lower (by omega)⟩⟩
set_option maxHeartbeats 8000000 in
set_option maxRecDepth 100000 in
theorem rat_any (w : World) (time made at' : Int) (p : Option Addr) (cap : Nat) (L : List Tm) (h : RS w (.slice p L.length cap) L) (hl : L.length ≤ 1024) (hm : 0 ≤ made ∧ made ≤ 1000000000000000000) :
    Calls Try.prog 26 #[.agg #[.int .i64 time, .int .i64 made, .slice p L.length cap], .int .i64 at'] w fun e w' => if time ≤ at' ∧ at' ≤ 1099511627776 then RSet w w' time made at' 0 p cap L e else e = .returned (.tuple #[.agg #[.int .i64 time, .int .i64 made, .slice p L.length cap], .int .i64 0, .int .i64 1]) ∧ Below w.heap.size w w' := by
  have HR : Hid (RS w (.slice p L.length cap) L) := h
  clear h
  by_cases hr : time ≤ at' ∧ at' ≤ 1099511627776
  · simp only [if_pos hr]
    obtain ⟨hr1, hr2⟩ := hr
    have g1 : ¬ at' < time := by omega
    have g2 : ¬ at' > 1099511627776 := by omega
    go_enter Try.func26, Try.ntmps26
    go_wp2_with fail
    refine (rset_any _ time made at' 0 p cap L (rs_two HR.out _ _) hl hm).mono ?_
    rintro e w5 ⟨hb5, ⟨h4, rfl⟩ | ⟨h4, p5, c5, rfl, ho5⟩⟩
    · obtain ⟨q1, q2, q3, q4, q5, q6⟩ := two_boxes hb5
      have c20 : w5.cell? ⟨w.heap.size + 1, 0, none⟩ = some (.int .i64 0) := q2 0
      have c21 : w5.cell? ⟨w.heap.size + 1, 1, none⟩ = some (.int .i64 0) := q2 1
      have c22 : w5.cell? ⟨w.heap.size + 1, 2, none⟩ = some (.slice none 0 0) := q2 2
      have SS : Hid _ := set3 (a' := .int .i64 time) (b' := .int .i64 made) (c' := .slice p L.length cap) c20 c21 c22
      have FB : Hid (Below w.heap.size w (((w5.setCell ⟨w.heap.size + 1, 0, none⟩ (.int .i64 time)).setCell ⟨w.heap.size + 1, 1, none⟩ (.int .i64 made)).setCell ⟨w.heap.size + 1, 2, none⟩ (.slice p L.length cap))) := ((q6.setCell (by simp) _).setCell (by simp) _).setCell (by simp) _
      clear hb5 q1 q2 q3 q6
      go_wp2
      exact bodyPost_ret (v := .tuple #[.agg #[.int .i64 time, .int .i64 made, .slice p L.length cap], .int .i64 0, .int .i64 3]) (by simp [results, Try.results26, go_sem, SS.out.1, SS.out.2.1, SS.out.2.2]) rfl ⟨FB.out, Or.inl ⟨h4, rfl⟩⟩
    · obtain ⟨q1, q2, q3, q4, q5, q6⟩ := two_boxes hb5
      have c20 : w5.cell? ⟨w.heap.size + 1, 0, none⟩ = some (.int .i64 0) := q2 0
      have c21 : w5.cell? ⟨w.heap.size + 1, 1, none⟩ = some (.int .i64 0) := q2 1
      have c22 : w5.cell? ⟨w.heap.size + 1, 2, none⟩ = some (.slice none 0 0) := q2 2
      have SS : Hid _ := set3 (a' := .int .i64 time) (b' := .int .i64 (made + 1)) (c' := .slice p5 (L.length + 1) c5) c20 c21 c22
      have FB : Hid (Below w.heap.size w (((w5.setCell ⟨w.heap.size + 1, 0, none⟩ (.int .i64 time)).setCell ⟨w.heap.size + 1, 1, none⟩ (.int .i64 (made + 1))).setCell ⟨w.heap.size + 1, 2, none⟩ (.slice p5 (L.length + 1) c5))) := ((q6.setCell (by simp) _).setCell (by simp) _).setCell (by simp) _
      have HO5 : Hid (OwnT w5 (w.heap.size + 2) (.slice p5 (L.length + 1) c5) (ins ⟨made + 1, at', 0⟩ L)) := by show OwnT _ _ _ _; simpa using ho5
      have FO : Hid (OwnT (((w5.setCell ⟨w.heap.size + 1, 0, none⟩ (.int .i64 time)).setCell ⟨w.heap.size + 1, 1, none⟩ (.int .i64 (made + 1))).setCell ⟨w.heap.size + 1, 2, none⟩ (.slice p5 (L.length + 1) c5)) (w.heap.size + 2) (.slice p5 (L.length + 1) c5) (ins ⟨made + 1, at', 0⟩ L)) := ((HO5.out.sets ⟨w.heap.size + 1, 0, none⟩ _ (by simp)).sets ⟨w.heap.size + 1, 1, none⟩ _ (by simp)).sets ⟨w.heap.size + 1, 2, none⟩ _ (by simp)
      clear ho5
      clear hb5 q1 q2 q3 q6
      go_wp2
      exact bodyPost_ret (v := .tuple #[.agg #[.int .i64 time, .int .i64 (made + 1), .slice p5 (L.length + 1) c5], .int .i64 (made + 1), .int .i64 0]) (by simp [results, Try.results26, go_sem, SS.out.1, SS.out.2.1, SS.out.2.2]) rfl ⟨FB.out, Or.inr ⟨h4, p5, c5, rfl, FO.out.lower (by omega)⟩⟩
  · simp only [if_neg hr]
    by_cases hr1 : at' < time
    · clear hr
      go_enter Try.func26, Try.ntmps26
      go_wp2
      exact bodyPost_ret (v := .tuple #[.agg #[.int .i64 time, .int .i64 made, .slice p L.length cap], .int .i64 0, .int .i64 1]) (by simp [results, Try.results26, go_sem]) rfl ⟨rfl, ((Below.refl _ _).alloc (Nat.le_refl _) _).alloc (by simp) _⟩
    · have hr2 : at' > 1099511627776 := by omega
      clear hr
      go_enter Try.func26, Try.ntmps26
      go_wp2
      exact bodyPost_ret (v := .tuple #[.agg #[.int .i64 time, .int .i64 made, .slice p L.length cap], .int .i64 0, .int .i64 1]) (by simp [results, Try.results26, go_sem]) rfl ⟨rfl, ((Below.refl _ _).alloc (Nat.le_refl _) _).alloc (by simp) _⟩
set_option maxHeartbeats 8000000 in
set_option maxRecDepth 100000 in
theorem rafter_any (w : World) (time made x : Int) (p : Option Addr) (cap : Nat) (L : List Tm) (h : RS w (.slice p L.length cap) L) (hl : L.length ≤ 1024) (hm : 0 ≤ made ∧ made ≤ 1000000000000000000) (ht : 0 ≤ time ∧ time ≤ 1099511627776) :
    Calls Try.prog 27 #[.agg #[.int .i64 time, .int .i64 made, .slice p L.length cap], .int .i64 x] w fun e w' => if 0 ≤ x ∧ x ≤ 1099511627776 - time then RSet w w' time made (time + x) 0 p cap L e else e = .returned (.tuple #[.agg #[.int .i64 time, .int .i64 made, .slice p L.length cap], .int .i64 0, .int .i64 1]) ∧ Below w.heap.size w w' := by
  have HR : Hid (RS w (.slice p L.length cap) L) := h
  clear h
  by_cases hr : 0 ≤ x ∧ x ≤ 1099511627776 - time
  · simp only [if_pos hr]
    obtain ⟨hr1, hr2⟩ := hr
    obtain ⟨ht1, ht2⟩ := ht
    have g1 : ¬ x < 0 := by omega
    have g2 : ¬ x > 1099511627776 - time := by omega
    go_enter Try.func27, Try.ntmps27
    go_wp2_with fail
    refine (rset_any _ time made (time + x) 0 p cap L (rs_two HR.out _ _) hl hm).mono ?_
    rintro e w5 ⟨hb5, ⟨h4, rfl⟩ | ⟨h4, p5, c5, rfl, ho5⟩⟩
    · obtain ⟨q1, q2, q3, q4, q5, q6⟩ := two_boxes hb5
      have c20 : w5.cell? ⟨w.heap.size + 1, 0, none⟩ = some (.int .i64 0) := q2 0
      have c21 : w5.cell? ⟨w.heap.size + 1, 1, none⟩ = some (.int .i64 0) := q2 1
      have c22 : w5.cell? ⟨w.heap.size + 1, 2, none⟩ = some (.slice none 0 0) := q2 2
      have SS : Hid _ := set3 (a' := .int .i64 time) (b' := .int .i64 made) (c' := .slice p L.length cap) c20 c21 c22
      have FB : Hid (Below w.heap.size w (((w5.setCell ⟨w.heap.size + 1, 0, none⟩ (.int .i64 time)).setCell ⟨w.heap.size + 1, 1, none⟩ (.int .i64 made)).setCell ⟨w.heap.size + 1, 2, none⟩ (.slice p L.length cap))) := ((q6.setCell (by simp) _).setCell (by simp) _).setCell (by simp) _
      clear hb5 q1 q2 q3 q6
      go_wp2
      exact bodyPost_ret (v := .tuple #[.agg #[.int .i64 time, .int .i64 made, .slice p L.length cap], .int .i64 0, .int .i64 3]) (by simp [results, Try.results27, go_sem, SS.out.1, SS.out.2.1, SS.out.2.2]) rfl ⟨FB.out, Or.inl ⟨h4, rfl⟩⟩
    · obtain ⟨q1, q2, q3, q4, q5, q6⟩ := two_boxes hb5
      have c20 : w5.cell? ⟨w.heap.size + 1, 0, none⟩ = some (.int .i64 0) := q2 0
      have c21 : w5.cell? ⟨w.heap.size + 1, 1, none⟩ = some (.int .i64 0) := q2 1
      have c22 : w5.cell? ⟨w.heap.size + 1, 2, none⟩ = some (.slice none 0 0) := q2 2
      have SS : Hid _ := set3 (a' := .int .i64 time) (b' := .int .i64 (made + 1)) (c' := .slice p5 (L.length + 1) c5) c20 c21 c22
      have FB : Hid (Below w.heap.size w (((w5.setCell ⟨w.heap.size + 1, 0, none⟩ (.int .i64 time)).setCell ⟨w.heap.size + 1, 1, none⟩ (.int .i64 (made + 1))).setCell ⟨w.heap.size + 1, 2, none⟩ (.slice p5 (L.length + 1) c5))) := ((q6.setCell (by simp) _).setCell (by simp) _).setCell (by simp) _
      have HO5 : Hid (OwnT w5 (w.heap.size + 2) (.slice p5 (L.length + 1) c5) (ins ⟨made + 1, time + x, 0⟩ L)) := by show OwnT _ _ _ _; simpa using ho5
      have FO : Hid (OwnT (((w5.setCell ⟨w.heap.size + 1, 0, none⟩ (.int .i64 time)).setCell ⟨w.heap.size + 1, 1, none⟩ (.int .i64 (made + 1))).setCell ⟨w.heap.size + 1, 2, none⟩ (.slice p5 (L.length + 1) c5)) (w.heap.size + 2) (.slice p5 (L.length + 1) c5) (ins ⟨made + 1, time + x, 0⟩ L)) := ((HO5.out.sets ⟨w.heap.size + 1, 0, none⟩ _ (by simp)).sets ⟨w.heap.size + 1, 1, none⟩ _ (by simp)).sets ⟨w.heap.size + 1, 2, none⟩ _ (by simp)
      clear ho5
      clear hb5 q1 q2 q3 q6
      go_wp2
      exact bodyPost_ret (v := .tuple #[.agg #[.int .i64 time, .int .i64 (made + 1), .slice p5 (L.length + 1) c5], .int .i64 (made + 1), .int .i64 0]) (by simp [results, Try.results27, go_sem, SS.out.1, SS.out.2.1, SS.out.2.2]) rfl ⟨FB.out, Or.inr ⟨h4, p5, c5, rfl, FO.out.lower (by omega)⟩⟩
  · simp only [if_neg hr]
    obtain ⟨ht1, ht2⟩ := ht
    by_cases hr1 : x < 0
    · clear hr
      go_enter Try.func27, Try.ntmps27
      go_wp2
      exact bodyPost_ret (v := .tuple #[.agg #[.int .i64 time, .int .i64 made, .slice p L.length cap], .int .i64 0, .int .i64 1]) (by simp [results, Try.results27, go_sem]) rfl ⟨rfl, ((Below.refl _ _).alloc (Nat.le_refl _) _).alloc (by simp) _⟩
    · have hr2 : x > 1099511627776 - time := by omega
      clear hr
      go_enter Try.func27, Try.ntmps27
      go_wp2
      exact bodyPost_ret (v := .tuple #[.agg #[.int .i64 time, .int .i64 made, .slice p L.length cap], .int .i64 0, .int .i64 1]) (by simp [results, Try.results27, go_sem]) rfl ⟨rfl, ((Below.refl _ _).alloc (Nat.le_refl _) _).alloc (by simp) _⟩
set_option maxHeartbeats 8000000 in
set_option maxRecDepth 100000 in
theorem revery_any (w : World) (time made x y : Int) (p : Option Addr) (cap : Nat) (L : List Tm) (h : RS w (.slice p L.length cap) L) (hl : L.length ≤ 1024) (hm : 0 ≤ made ∧ made ≤ 1000000000000000000) :
    Calls Try.prog 28 #[.agg #[.int .i64 time, .int .i64 made, .slice p L.length cap], .int .i64 x, .int .i64 y] w fun e w' => if (time ≤ x ∧ x ≤ 1099511627776) ∧ 1 ≤ y ∧ y ≤ 1099511627776 then RSet w w' time made x y p cap L e else e = .returned (.tuple #[.agg #[.int .i64 time, .int .i64 made, .slice p L.length cap], .int .i64 0, .int .i64 1]) ∧ Below w.heap.size w w' := by
  have HR : Hid (RS w (.slice p L.length cap) L) := h
  clear h
  by_cases hr : (time ≤ x ∧ x ≤ 1099511627776) ∧ 1 ≤ y ∧ y ≤ 1099511627776
  · simp only [if_pos hr]
    obtain ⟨⟨hr1, hr2⟩, hr3, hr4⟩ := hr
    have g1 : ¬ x < time := by omega
    have g2 : ¬ x > 1099511627776 := by omega
    have g3 : ¬ y < 1 := by omega
    have g4 : ¬ y > 1099511627776 := by omega
    go_enter Try.func28, Try.ntmps28
    go_wp2_with fail
    refine (rset_any _ time made x y p cap L (rs_two HR.out _ _) hl hm).mono ?_
    rintro e w5 ⟨hb5, ⟨h4, rfl⟩ | ⟨h4, p5, c5, rfl, ho5⟩⟩
    · obtain ⟨q1, q2, q3, q4, q5, q6⟩ := two_boxes hb5
      have c20 : w5.cell? ⟨w.heap.size + 1, 0, none⟩ = some (.int .i64 0) := q2 0
      have c21 : w5.cell? ⟨w.heap.size + 1, 1, none⟩ = some (.int .i64 0) := q2 1
      have c22 : w5.cell? ⟨w.heap.size + 1, 2, none⟩ = some (.slice none 0 0) := q2 2
      have SS : Hid _ := set3 (a' := .int .i64 time) (b' := .int .i64 made) (c' := .slice p L.length cap) c20 c21 c22
      have FB : Hid (Below w.heap.size w (((w5.setCell ⟨w.heap.size + 1, 0, none⟩ (.int .i64 time)).setCell ⟨w.heap.size + 1, 1, none⟩ (.int .i64 made)).setCell ⟨w.heap.size + 1, 2, none⟩ (.slice p L.length cap))) := ((q6.setCell (by simp) _).setCell (by simp) _).setCell (by simp) _
      clear hb5 q1 q2 q3 q6
      go_wp2
      exact bodyPost_ret (v := .tuple #[.agg #[.int .i64 time, .int .i64 made, .slice p L.length cap], .int .i64 0, .int .i64 3]) (by simp [results, Try.results28, go_sem, SS.out.1, SS.out.2.1, SS.out.2.2]) rfl ⟨FB.out, Or.inl ⟨h4, rfl⟩⟩
    · obtain ⟨q1, q2, q3, q4, q5, q6⟩ := two_boxes hb5
      have c20 : w5.cell? ⟨w.heap.size + 1, 0, none⟩ = some (.int .i64 0) := q2 0
      have c21 : w5.cell? ⟨w.heap.size + 1, 1, none⟩ = some (.int .i64 0) := q2 1
      have c22 : w5.cell? ⟨w.heap.size + 1, 2, none⟩ = some (.slice none 0 0) := q2 2
      have SS : Hid _ := set3 (a' := .int .i64 time) (b' := .int .i64 (made + 1)) (c' := .slice p5 (L.length + 1) c5) c20 c21 c22
      have FB : Hid (Below w.heap.size w (((w5.setCell ⟨w.heap.size + 1, 0, none⟩ (.int .i64 time)).setCell ⟨w.heap.size + 1, 1, none⟩ (.int .i64 (made + 1))).setCell ⟨w.heap.size + 1, 2, none⟩ (.slice p5 (L.length + 1) c5))) := ((q6.setCell (by simp) _).setCell (by simp) _).setCell (by simp) _
      have HO5 : Hid (OwnT w5 (w.heap.size + 2) (.slice p5 (L.length + 1) c5) (ins ⟨made + 1, x, y⟩ L)) := by show OwnT _ _ _ _; simpa using ho5
      have FO : Hid (OwnT (((w5.setCell ⟨w.heap.size + 1, 0, none⟩ (.int .i64 time)).setCell ⟨w.heap.size + 1, 1, none⟩ (.int .i64 (made + 1))).setCell ⟨w.heap.size + 1, 2, none⟩ (.slice p5 (L.length + 1) c5)) (w.heap.size + 2) (.slice p5 (L.length + 1) c5) (ins ⟨made + 1, x, y⟩ L)) := ((HO5.out.sets ⟨w.heap.size + 1, 0, none⟩ _ (by simp)).sets ⟨w.heap.size + 1, 1, none⟩ _ (by simp)).sets ⟨w.heap.size + 1, 2, none⟩ _ (by simp)
      clear ho5
      clear hb5 q1 q2 q3 q6
      go_wp2
      exact bodyPost_ret (v := .tuple #[.agg #[.int .i64 time, .int .i64 (made + 1), .slice p5 (L.length + 1) c5], .int .i64 (made + 1), .int .i64 0]) (by simp [results, Try.results28, go_sem, SS.out.1, SS.out.2.1, SS.out.2.2]) rfl ⟨FB.out, Or.inr ⟨h4, p5, c5, rfl, FO.out.lower (by omega)⟩⟩
  · simp only [if_neg hr]
    have hc : x < time ∨ (¬ x < time ∧ x > 1099511627776) ∨ (¬ x < time ∧ ¬ x > 1099511627776 ∧ y < 1) ∨ (¬ x < time ∧ ¬ x > 1099511627776 ∧ ¬ y < 1 ∧ y > 1099511627776) := by omega
    rcases hc with h1 | ⟨h1, h2⟩ | ⟨h1, h2, h3⟩ | ⟨h1, h2, h3, h4⟩
    · clear hr
      go_enter Try.func28, Try.ntmps28
      go_wp2
      exact bodyPost_ret (v := .tuple #[.agg #[.int .i64 time, .int .i64 made, .slice p L.length cap], .int .i64 0, .int .i64 1]) (by simp [results, Try.results28, go_sem]) rfl ⟨rfl, ((Below.refl _ _).alloc (Nat.le_refl _) _).alloc (by simp) _⟩
    · clear hr
      go_enter Try.func28, Try.ntmps28
      go_wp2
      exact bodyPost_ret (v := .tuple #[.agg #[.int .i64 time, .int .i64 made, .slice p L.length cap], .int .i64 0, .int .i64 1]) (by simp [results, Try.results28, go_sem]) rfl ⟨rfl, ((Below.refl _ _).alloc (Nat.le_refl _) _).alloc (by simp) _⟩
    · clear hr
      go_enter Try.func28, Try.ntmps28
      go_wp2
      exact bodyPost_ret (v := .tuple #[.agg #[.int .i64 time, .int .i64 made, .slice p L.length cap], .int .i64 0, .int .i64 1]) (by simp [results, Try.results28, go_sem]) rfl ⟨rfl, ((Below.refl _ _).alloc (Nat.le_refl _) _).alloc (by simp) _⟩
    · clear hr
      go_enter Try.func28, Try.ntmps28
      go_wp2
      exact bodyPost_ret (v := .tuple #[.agg #[.int .i64 time, .int .i64 made, .slice p L.length cap], .int .i64 0, .int .i64 1]) (by simp [results, Try.results28, go_sem]) rfl ⟨rfl, ((Below.refl _ _).alloc (Nat.le_refl _) _).alloc (by simp) _⟩
end Go.Proofs.Yteiadigafkollaa
