/- The reference's Stop, Move, Next. -/
import Derived.Test.YteiadigafkollaaRf4
namespace Go.Proofs.Yteiadigafkollaa
open Go.RowKit Go.Sort Go.Shelf

theorem WasI.end {n : Int} {L : List Tm} {was : Tm} {ok : Bool} (h : WasI n L L.length was ok) : (ok = true ∧ was ∈ L ∧ was.num = n) ∨ (ok = false ∧ ∀ x ∈ L, x.num ≠ n) := by
  rcases h with h | ⟨h1, h2⟩
  · exact Or.inl h
  · rw [List.take_length] at h2; exact Or.inr ⟨h1, h2⟩
theorem alloc_cell (w : World) (ob : Obj) {b o : Nat} (h : b < w.heap.size) : (w.alloc ob).cell? ⟨b, o, none⟩ = w.cell? ⟨b, o, none⟩ := ((Below.refl w.heap.size w).alloc (Nat.le_refl _) ob).cell (p := ⟨b, o, none⟩) h
theorem below_alloc (w : World) (ob : Obj) : Below w.heap.size w (w.alloc ob) := (Below.refl _ _).alloc (Nat.le_refl _) ob
def RStop (w w' : World) (time made n : Int) (p : Option Addr) (cap : Nat) (L : List Tm) (e : Ending) : Prop :=
  Below w.heap.size w w' ∧ (((∀ t ∈ L, t.num ≠ n) ∧ e = .returned (.tuple #[.agg #[.int .i64 time, .int .i64 made, .slice p L.length cap], .int .i64 4])) ∨ ((∃ t ∈ L, t.num = n) ∧ ∃ p' cap', e = .returned (.tuple #[.agg #[.int .i64 time, .int .i64 made, .slice p' (del n L).length cap'], .int .i64 0]) ∧ OwnT w' w.heap.size (.slice p' (del n L).length cap') (del n L)))
theorem RS.head {w : World} {p : Option Addr} {n cap : Nat} {t : Tm} {r : List Tm} (h : RS w (.slice p n cap) (t :: r)) : ∃ X o, p = some ⟨X, o, none⟩ ∧ w.cell? ⟨X, o, none⟩ = some (.int .i64 t.num) ∧ w.cell? ⟨X, o + 1, none⟩ = some (.int .i64 t.tm) ∧ w.cell? ⟨X, o + 2, none⟩ = some (.int .i64 t.ev) := by
  obtain ⟨X, o, e, x1, x2, x3⟩ := h.at (k := 0) (by simp)
  exact ⟨X, o, e, by simpa using x1, by simpa using x2, by simpa using x3⟩
set_option maxHeartbeats 8000000 in
theorem rnext_any (w : World) (time made : Int) (p : Option Addr) (cap : Nat) (L : List Tm) (h : RS w (.slice p L.length cap) L) (hl : L.length ≤ 1024) :
    Calls Try.prog 32 #[.agg #[.int .i64 time, .int .i64 made, .slice p L.length cap]] w fun e w' => e = .returned (.tuple (nextV L)) ∧ Below w.heap.size w w' := by
  cases L with
  | nil =>
    clear h
    go_enter Try.func32, Try.ntmps32
    go_wp2
    go_ret2
    exact ⟨rfl, (Below.refl _ _).alloc (Nat.le_refl _) _⟩
  | cons t r =>
    obtain ⟨X, o, rfl, x1, x2, x3⟩ := h.head
    have hX : X < w.heap.size := block_lt_of_cell x1
    have z2 : ∀ ob, (w.alloc ob).cell? ⟨X, o + 1, none⟩ = some (.int .i64 t.tm) := fun ob => by rw [alloc_cell _ _ hX]; exact x2
    have hlen : (((t :: r).length : Int) == 0) = false := by simp; omega
    have hpos : 0 < (t :: r).length := by simp
    obtain ⟨N, hN⟩ : ∃ N, N = (t :: r).length := ⟨_, rfl⟩
    rw [← hN] at hlen hpos hl ⊢
    clear hN h x1 x2 x3
    go_enter Try.func32, Try.ntmps32
    go_wp2
    go_ret2
    exact ⟨rfl, (Below.refl _ _).alloc (Nat.le_refl _) _⟩
set_option maxHeartbeats 8000000 in
set_option maxRecDepth 100000 in
theorem rstop_any (w : World) (time made n : Int) (p : Option Addr) (cap : Nat) (L : List Tm) (h : RS w (.slice p L.length cap) L) (hl : L.length ≤ 1024) :
    Calls Try.prog 29 #[.agg #[.int .i64 time, .int .i64 made, .slice p L.length cap], .int .i64 n] w fun e w' => RStop w w' time made n p cap L e := by
  have HR : Hid (RS w (.slice p L.length cap) L) := h
  clear h
  go_enter Try.func29, Try.ntmps29
  go_wp2_with fail
  refine (without_any _ _ L n (rs_two HR.out _ _) (by omega)).mono ?_
  rintro e w5 ⟨p5, c5, t, ok, rfl, ho5, hb5, hw5⟩
  obtain ⟨q1, q2, q3, q4, q5, q6⟩ := two_boxes hb5
  have c10 : w5.cell? ⟨w.heap.size, 0, none⟩ = some (.int .i64 time) := q1 0
  have c11 : w5.cell? ⟨w.heap.size, 1, none⟩ = some (.int .i64 made) := q1 1
  have c12 : w5.cell? ⟨w.heap.size, 2, none⟩ = some (.slice p L.length cap) := q1 2
  have c20 : w5.cell? ⟨w.heap.size + 1, 0, none⟩ = some (.int .i64 0) := q2 0
  have c21 : w5.cell? ⟨w.heap.size + 1, 1, none⟩ = some (.int .i64 0) := q2 1
  have c22 : w5.cell? ⟨w.heap.size + 1, 2, none⟩ = some (.slice none 0 0) := q2 2
  have hz1 : w.heap.size < w5.heap.size := by omega
  have hz2 : w.heap.size + 1 < w5.heap.size := by omega
  have HB5 : Hid (Below w.heap.size w w5) := q6
  have HO5 : Hid (OwnT w5 (w.heap.size + 2) (.slice p5 (del n L).length c5) (del n L)) := by show OwnT _ _ _ _; simpa using ho5
  clear ho5 hb5 q1 q2 q6
  rcases hw5.end with ⟨rfl, h1, h2⟩ | ⟨rfl, h1⟩
  · have HI : Hid (∃ t ∈ L, t.num = n) := ⟨t, h1, h2⟩
    clear hw5 h1 h2
    have SS := set3 (w := (w5.setCell ⟨w.heap.size, 2, none⟩ (.slice p5 (del n L).length c5))) (B := w.heap.size + 1) (a' := .int .i64 time) (b' := .int .i64 made) (c' := .slice p5 (del n L).length c5) (by rw [far_set (by omega)]; exact c20) (by rw [far_set (by omega)]; exact c21) (by rw [far_set (by omega)]; exact c22)
    have hsz : w.heap.size + 1 < ((((w5.setCell ⟨w.heap.size, 2, none⟩ (.slice p5 (del n L).length c5)).setCell ⟨w.heap.size + 1, 0, none⟩ (.int .i64 time)).setCell ⟨w.heap.size + 1, 1, none⟩ (.int .i64 made)).setCell ⟨w.heap.size + 1, 2, none⟩ (.slice p5 (del n L).length c5)).heap.size := by simp [World.setCell]; omega
    have SA : Hid (∀ ob o, (((((w5.setCell ⟨w.heap.size, 2, none⟩ (.slice p5 (del n L).length c5)).setCell ⟨w.heap.size + 1, 0, none⟩ (.int .i64 time)).setCell ⟨w.heap.size + 1, 1, none⟩ (.int .i64 made)).setCell ⟨w.heap.size + 1, 2, none⟩ (.slice p5 (del n L).length c5)).alloc ob).cell? ⟨w.heap.size + 1, o, none⟩ = ((((w5.setCell ⟨w.heap.size, 2, none⟩ (.slice p5 (del n L).length c5)).setCell ⟨w.heap.size + 1, 0, none⟩ (.int .i64 time)).setCell ⟨w.heap.size + 1, 1, none⟩ (.int .i64 made)).setCell ⟨w.heap.size + 1, 2, none⟩ (.slice p5 (del n L).length c5)).cell? ⟨w.heap.size + 1, o, none⟩) := fun ob o => alloc_cell _ ob hsz
    have SO : Hid _ := SS
    have FB : Hid (Below w.heap.size w ((((w5.setCell ⟨w.heap.size, 2, none⟩ (.slice p5 (del n L).length c5)).setCell ⟨w.heap.size + 1, 0, none⟩ (.int .i64 time)).setCell ⟨w.heap.size + 1, 1, none⟩ (.int .i64 made)).setCell ⟨w.heap.size + 1, 2, none⟩ (.slice p5 (del n L).length c5))) := ((((HB5.out.setCell (Nat.le_refl _) _).setCell (by simp) _).setCell (by simp) _).setCell (by simp) _)
    have FC : Hid (∀ ob, Below w.heap.size w (((((w5.setCell ⟨w.heap.size, 2, none⟩ (.slice p5 (del n L).length c5)).setCell ⟨w.heap.size + 1, 0, none⟩ (.int .i64 time)).setCell ⟨w.heap.size + 1, 1, none⟩ (.int .i64 made)).setCell ⟨w.heap.size + 1, 2, none⟩ (.slice p5 (del n L).length c5)).alloc ob)) := fun ob => FB.out.alloc FB.out.size ob
    have FO : Hid (∀ ob, OwnT (((((w5.setCell ⟨w.heap.size, 2, none⟩ (.slice p5 (del n L).length c5)).setCell ⟨w.heap.size + 1, 0, none⟩ (.int .i64 time)).setCell ⟨w.heap.size + 1, 1, none⟩ (.int .i64 made)).setCell ⟨w.heap.size + 1, 2, none⟩ (.slice p5 (del n L).length c5)).alloc ob) (w.heap.size + 2) (.slice p5 (del n L).length c5) (del n L)) := fun ob => ((((HO5.out.sets ⟨w.heap.size, 2, none⟩ _ (by simp)).sets ⟨w.heap.size + 1, 0, none⟩ _ (by simp)).sets ⟨w.heap.size + 1, 1, none⟩ _ (by simp)).sets ⟨w.heap.size + 1, 2, none⟩ _ (by simp)).below (below_alloc _ ob)
    clear SS hsz
    go_wp2
    exact bodyPost_ret (v := .tuple #[.agg #[.int .i64 time, .int .i64 made, .slice p5 (del n L).length c5], .int .i64 0]) (by simp [results, Try.results29, go_sem, SA.out, SO.out.1, SO.out.2.1, SO.out.2.2]) rfl ⟨FC.out _, Or.inr ⟨HI.out, p5, c5, rfl, (FO.out _).lower (by omega)⟩⟩
  · have HI : Hid (∀ t ∈ L, t.num ≠ n) := h1
    clear hw5 h1
    have SS := set3 (w := w5) (B := w.heap.size + 1) (a' := .int .i64 time) (b' := .int .i64 made) (c' := .slice p L.length cap) (c20) (c21) (c22)
    have hsz : w.heap.size + 1 < (((w5.setCell ⟨w.heap.size + 1, 0, none⟩ (.int .i64 time)).setCell ⟨w.heap.size + 1, 1, none⟩ (.int .i64 made)).setCell ⟨w.heap.size + 1, 2, none⟩ (.slice p L.length cap)).heap.size := by simp [World.setCell]; omega
    have SA : Hid (∀ ob o, ((((w5.setCell ⟨w.heap.size + 1, 0, none⟩ (.int .i64 time)).setCell ⟨w.heap.size + 1, 1, none⟩ (.int .i64 made)).setCell ⟨w.heap.size + 1, 2, none⟩ (.slice p L.length cap)).alloc ob).cell? ⟨w.heap.size + 1, o, none⟩ = (((w5.setCell ⟨w.heap.size + 1, 0, none⟩ (.int .i64 time)).setCell ⟨w.heap.size + 1, 1, none⟩ (.int .i64 made)).setCell ⟨w.heap.size + 1, 2, none⟩ (.slice p L.length cap)).cell? ⟨w.heap.size + 1, o, none⟩) := fun ob o => alloc_cell _ ob hsz
    have SO : Hid _ := SS
    have FB : Hid (Below w.heap.size w (((w5.setCell ⟨w.heap.size + 1, 0, none⟩ (.int .i64 time)).setCell ⟨w.heap.size + 1, 1, none⟩ (.int .i64 made)).setCell ⟨w.heap.size + 1, 2, none⟩ (.slice p L.length cap))) := (((HB5.out.setCell (by simp) _).setCell (by simp) _).setCell (by simp) _)
    have FC : Hid (∀ ob, Below w.heap.size w ((((w5.setCell ⟨w.heap.size + 1, 0, none⟩ (.int .i64 time)).setCell ⟨w.heap.size + 1, 1, none⟩ (.int .i64 made)).setCell ⟨w.heap.size + 1, 2, none⟩ (.slice p L.length cap)).alloc ob)) := fun ob => FB.out.alloc FB.out.size ob
    clear SS hsz
    go_wp2
    exact bodyPost_ret (v := .tuple #[.agg #[.int .i64 time, .int .i64 made, .slice p L.length cap], .int .i64 4]) (by simp [results, Try.results29, go_sem, SA.out, SO.out.1, SO.out.2.1, SO.out.2.2]) rfl ⟨FC.out _, Or.inl ⟨HI.out, rfl⟩⟩
def RMove (w w' : World) (time made n x : Int) (p : Option Addr) (cap : Nat) (L : List Tm) (e : Ending) : Prop :=
  Below w.heap.size w w' ∧ (((∀ t ∈ L, t.num ≠ n) ∧ e = .returned (.tuple #[.agg #[.int .i64 time, .int .i64 made, .slice p L.length cap], .int .i64 4])) ∨ ((∃ t ∈ L, t.num = n) ∧ ¬ (time ≤ x ∧ x ≤ 1099511627776) ∧ e = .returned (.tuple #[.agg #[.int .i64 time, .int .i64 made, .slice p L.length cap], .int .i64 1])) ∨ ((time ≤ x ∧ x ≤ 1099511627776) ∧ ∃ t ∈ L, t.num = n ∧ ∃ p' cap', e = .returned (.tuple #[.agg #[.int .i64 time, .int .i64 made, .slice p' ((del n L).length + 1) cap'], .int .i64 0]) ∧ OwnT w' w.heap.size (.slice p' ((del n L).length + 1) cap') (ins ⟨n, x, t.ev⟩ (del n L))))
set_option maxHeartbeats 8000000 in
set_option maxRecDepth 100000 in
theorem rmove_any (w : World) (time made n x : Int) (p : Option Addr) (cap : Nat) (L : List Tm) (h : RS w (.slice p L.length cap) L) (hl : L.length ≤ 1024) :
    Calls Try.prog 30 #[.agg #[.int .i64 time, .int .i64 made, .slice p L.length cap], .int .i64 n, .int .i64 x] w fun e w' => RMove w w' time made n x p cap L e := by
  have HR : Hid (RS w (.slice p L.length cap) L) := h
  clear h
  go_enter Try.func30, Try.ntmps30
  go_wp2_with fail
  refine (without_any _ _ L n (rs_two HR.out _ _) (by omega)).mono ?_
  rintro e w5 ⟨p5, c5, t, ok, rfl, ho5, hb5, hw5⟩
  obtain ⟨q1, q2, q3, q4, q5, q6⟩ := two_boxes hb5
  have c10 : w5.cell? ⟨w.heap.size, 0, none⟩ = some (.int .i64 time) := q1 0
  have c11 : w5.cell? ⟨w.heap.size, 1, none⟩ = some (.int .i64 made) := q1 1
  have c12 : w5.cell? ⟨w.heap.size, 2, none⟩ = some (.slice p L.length cap) := q1 2
  have c20 : w5.cell? ⟨w.heap.size + 1, 0, none⟩ = some (.int .i64 0) := q2 0
  have c21 : w5.cell? ⟨w.heap.size + 1, 1, none⟩ = some (.int .i64 0) := q2 1
  have c22 : w5.cell? ⟨w.heap.size + 1, 2, none⟩ = some (.slice none 0 0) := q2 2
  have hz1 : w.heap.size < w5.heap.size := by omega
  have hz2 : w.heap.size + 1 < w5.heap.size := by omega
  have HB5 : Hid (Below w.heap.size w w5) := q6
  have HO5 : Hid (OwnT w5 (w.heap.size + 2) (.slice p5 (del n L).length c5) (del n L)) := by show OwnT _ _ _ _; simpa using ho5
  clear ho5 hb5 q1 q2 q6
  rcases hw5.end with ⟨rfl, h1, h2⟩ | ⟨rfl, h1⟩
  · have HI : Hid (t ∈ L ∧ t.num = n) := ⟨h1, h2⟩
    clear hw5 h1
    by_cases hr : time ≤ x ∧ x ≤ 1099511627776
    · obtain ⟨hr1, hr2⟩ := hr
      have g1 : ¬ x < time := by omega
      have g2 : ¬ x > 1099511627776 := by omega
      have HRg : Hid (time ≤ x ∧ x ≤ 1099511627776) := ⟨hr1, hr2⟩
      subst h2
      go_wp2_with fail
      refine (laid_any _ _ (del t.num L) ⟨t.num, x, t.ev⟩ (HO5.out.rs.below (below_alloc _ _)) (by have := del_len (n := t.num) (L := L); omega)).mono ?_
      rintro e w6 ⟨p6, c6, rfl, ho6, hb6⟩
      have hs6 : w5.heap.size + 1 ≤ w6.heap.size := by have := hb6.size; simpa using this
      have K6 : ∀ b o, b < w5.heap.size → w6.cell? ⟨b, o, none⟩ = w5.cell? ⟨b, o, none⟩ := fun b o hb => (hb6.cell (p := ⟨b, o, none⟩) (by simp; omega)).trans (alloc_cell _ _ hb)
      have F6 : ∀ b o, b < w5.heap.size → w6.frozen? ⟨b, o, none⟩ = w5.frozen? ⟨b, o, none⟩ := fun b o hb => (hb6.frozen (p := ⟨b, o, none⟩) (by simp; omega)).trans ((below_alloc w5 _).frozen (p := ⟨b, o, none⟩) hb)
      have d10 := (K6 w.heap.size 0 hz1).trans c10
      have d11 := (K6 w.heap.size 1 hz1).trans c11
      have d12 := (K6 w.heap.size 2 hz1).trans c12
      have d20 := (K6 (w.heap.size + 1) 0 hz2).trans c20
      have d21 := (K6 (w.heap.size + 1) 1 hz2).trans c21
      have d22 := (K6 (w.heap.size + 1) 2 hz2).trans c22
      have r3 : ∀ o, w6.frozen? ⟨w.heap.size, o, none⟩ = false := fun o => (F6 _ o hz1).trans (q3 o)
      have r4 : ∀ o, w6.frozen? ⟨w.heap.size + 1, o, none⟩ = false := fun o => (F6 _ o hz2).trans (q4 o)
      have SS : Hid _ := set3 (w := w6.setCell ⟨w.heap.size, 2, none⟩ (.slice p6 ((del t.num L).length + 1) c6)) (B := w.heap.size + 1) (a' := .int .i64 time) (b' := .int .i64 made) (c' := .slice p6 ((del t.num L).length + 1) c6) (by rw [far_set (by omega)]; exact d20) (by rw [far_set (by omega)]; exact d21) (by rw [far_set (by omega)]; exact d22)
      have HB6 : Below w.heap.size w w6 := (HB5.out.alloc HB5.out.size _).trans (hb6.mono (by simp; omega))
      have FB : Hid (Below w.heap.size w ((((w6.setCell ⟨w.heap.size, 2, none⟩ (.slice p6 ((del t.num L).length + 1) c6)).setCell ⟨w.heap.size + 1, 0, none⟩ (.int .i64 time)).setCell ⟨w.heap.size + 1, 1, none⟩ (.int .i64 made)).setCell ⟨w.heap.size + 1, 2, none⟩ (.slice p6 ((del t.num L).length + 1) c6))) := ((((HB6.setCell (Nat.le_refl _) _).setCell (by simp) _).setCell (by simp) _).setCell (by simp) _)
      have HO6 : OwnT w6 (w.heap.size + 2) (.slice p6 ((del t.num L).length + 1) c6) (ins ⟨t.num, x, t.ev⟩ (del t.num L)) := ho6.lower (by simp; omega)
      have FO : Hid (OwnT ((((w6.setCell ⟨w.heap.size, 2, none⟩ (.slice p6 ((del t.num L).length + 1) c6)).setCell ⟨w.heap.size + 1, 0, none⟩ (.int .i64 time)).setCell ⟨w.heap.size + 1, 1, none⟩ (.int .i64 made)).setCell ⟨w.heap.size + 1, 2, none⟩ (.slice p6 ((del t.num L).length + 1) c6)) (w.heap.size + 2) (.slice p6 ((del t.num L).length + 1) c6) (ins ⟨t.num, x, t.ev⟩ (del t.num L))) := ((((HO6.sets ⟨w.heap.size, 2, none⟩ _ (by simp)).sets ⟨w.heap.size + 1, 0, none⟩ _ (by simp)).sets ⟨w.heap.size + 1, 1, none⟩ _ (by simp)).sets ⟨w.heap.size + 1, 2, none⟩ _ (by simp))
      clear hb6 ho6 K6 F6 HB6 HO6
      go_wp2
      exact bodyPost_ret (v := .tuple #[.agg #[.int .i64 time, .int .i64 made, .slice p6 ((del t.num L).length + 1) c6], .int .i64 0]) (by simp [results, Try.results30, go_sem, SS.out.1, SS.out.2.1, SS.out.2.2]) rfl ⟨FB.out, Or.inr (Or.inr ⟨HRg.out, t, HI.out.1, rfl, p6, c6, rfl, FO.out.lower (by omega)⟩)⟩
    · have HRg : Hid (¬ (time ≤ x ∧ x ≤ 1099511627776)) := hr
      clear h2
      by_cases hr1 : x < time
      · clear hr
        have SS := set3 (w := w5) (B := w.heap.size + 1) (a' := .int .i64 time) (b' := .int .i64 made) (c' := .slice p L.length cap) (c20) (c21) (c22)
        have hsz : w.heap.size + 1 < (((w5.setCell ⟨w.heap.size + 1, 0, none⟩ (.int .i64 time)).setCell ⟨w.heap.size + 1, 1, none⟩ (.int .i64 made)).setCell ⟨w.heap.size + 1, 2, none⟩ (.slice p L.length cap)).heap.size := by simp [World.setCell]; omega
        have SA : Hid (∀ ob o, ((((w5.setCell ⟨w.heap.size + 1, 0, none⟩ (.int .i64 time)).setCell ⟨w.heap.size + 1, 1, none⟩ (.int .i64 made)).setCell ⟨w.heap.size + 1, 2, none⟩ (.slice p L.length cap)).alloc ob).cell? ⟨w.heap.size + 1, o, none⟩ = (((w5.setCell ⟨w.heap.size + 1, 0, none⟩ (.int .i64 time)).setCell ⟨w.heap.size + 1, 1, none⟩ (.int .i64 made)).setCell ⟨w.heap.size + 1, 2, none⟩ (.slice p L.length cap)).cell? ⟨w.heap.size + 1, o, none⟩) := fun ob o => alloc_cell _ ob hsz
        have SO : Hid _ := SS
        have FB : Hid (Below w.heap.size w (((w5.setCell ⟨w.heap.size + 1, 0, none⟩ (.int .i64 time)).setCell ⟨w.heap.size + 1, 1, none⟩ (.int .i64 made)).setCell ⟨w.heap.size + 1, 2, none⟩ (.slice p L.length cap))) := (((HB5.out.setCell (by simp) _).setCell (by simp) _).setCell (by simp) _)
        have FC : Hid (∀ ob, Below w.heap.size w ((((w5.setCell ⟨w.heap.size + 1, 0, none⟩ (.int .i64 time)).setCell ⟨w.heap.size + 1, 1, none⟩ (.int .i64 made)).setCell ⟨w.heap.size + 1, 2, none⟩ (.slice p L.length cap)).alloc ob)) := fun ob => FB.out.alloc FB.out.size ob
        clear SS hsz
        go_wp2
        exact bodyPost_ret (v := .tuple #[.agg #[.int .i64 time, .int .i64 made, .slice p L.length cap], .int .i64 1]) (by simp [results, Try.results30, go_sem, SA.out, SO.out.1, SO.out.2.1, SO.out.2.2]) rfl ⟨FC.out _, Or.inr (Or.inl ⟨⟨t, HI.out⟩, HRg.out, rfl⟩)⟩
      · have hr2 : x > 1099511627776 := by omega
        clear hr
        have SS := set3 (w := w5) (B := w.heap.size + 1) (a' := .int .i64 time) (b' := .int .i64 made) (c' := .slice p L.length cap) (c20) (c21) (c22)
        have hsz : w.heap.size + 1 < (((w5.setCell ⟨w.heap.size + 1, 0, none⟩ (.int .i64 time)).setCell ⟨w.heap.size + 1, 1, none⟩ (.int .i64 made)).setCell ⟨w.heap.size + 1, 2, none⟩ (.slice p L.length cap)).heap.size := by simp [World.setCell]; omega
        have SA : Hid (∀ ob o, ((((w5.setCell ⟨w.heap.size + 1, 0, none⟩ (.int .i64 time)).setCell ⟨w.heap.size + 1, 1, none⟩ (.int .i64 made)).setCell ⟨w.heap.size + 1, 2, none⟩ (.slice p L.length cap)).alloc ob).cell? ⟨w.heap.size + 1, o, none⟩ = (((w5.setCell ⟨w.heap.size + 1, 0, none⟩ (.int .i64 time)).setCell ⟨w.heap.size + 1, 1, none⟩ (.int .i64 made)).setCell ⟨w.heap.size + 1, 2, none⟩ (.slice p L.length cap)).cell? ⟨w.heap.size + 1, o, none⟩) := fun ob o => alloc_cell _ ob hsz
        have SO : Hid _ := SS
        have FB : Hid (Below w.heap.size w (((w5.setCell ⟨w.heap.size + 1, 0, none⟩ (.int .i64 time)).setCell ⟨w.heap.size + 1, 1, none⟩ (.int .i64 made)).setCell ⟨w.heap.size + 1, 2, none⟩ (.slice p L.length cap))) := (((HB5.out.setCell (by simp) _).setCell (by simp) _).setCell (by simp) _)
        have FC : Hid (∀ ob, Below w.heap.size w ((((w5.setCell ⟨w.heap.size + 1, 0, none⟩ (.int .i64 time)).setCell ⟨w.heap.size + 1, 1, none⟩ (.int .i64 made)).setCell ⟨w.heap.size + 1, 2, none⟩ (.slice p L.length cap)).alloc ob)) := fun ob => FB.out.alloc FB.out.size ob
        clear SS hsz
        go_wp2
        exact bodyPost_ret (v := .tuple #[.agg #[.int .i64 time, .int .i64 made, .slice p L.length cap], .int .i64 1]) (by simp [results, Try.results30, go_sem, SA.out, SO.out.1, SO.out.2.1, SO.out.2.2]) rfl ⟨FC.out _, Or.inr (Or.inl ⟨⟨t, HI.out⟩, HRg.out, rfl⟩)⟩
  · have HI : Hid (∀ t ∈ L, t.num ≠ n) := h1
    clear hw5 h1
    have SS := set3 (w := w5) (B := w.heap.size + 1) (a' := .int .i64 time) (b' := .int .i64 made) (c' := .slice p L.length cap) (c20) (c21) (c22)
    have hsz : w.heap.size + 1 < (((w5.setCell ⟨w.heap.size + 1, 0, none⟩ (.int .i64 time)).setCell ⟨w.heap.size + 1, 1, none⟩ (.int .i64 made)).setCell ⟨w.heap.size + 1, 2, none⟩ (.slice p L.length cap)).heap.size := by simp [World.setCell]; omega
    have SA : Hid (∀ ob o, ((((w5.setCell ⟨w.heap.size + 1, 0, none⟩ (.int .i64 time)).setCell ⟨w.heap.size + 1, 1, none⟩ (.int .i64 made)).setCell ⟨w.heap.size + 1, 2, none⟩ (.slice p L.length cap)).alloc ob).cell? ⟨w.heap.size + 1, o, none⟩ = (((w5.setCell ⟨w.heap.size + 1, 0, none⟩ (.int .i64 time)).setCell ⟨w.heap.size + 1, 1, none⟩ (.int .i64 made)).setCell ⟨w.heap.size + 1, 2, none⟩ (.slice p L.length cap)).cell? ⟨w.heap.size + 1, o, none⟩) := fun ob o => alloc_cell _ ob hsz
    have SO : Hid _ := SS
    have FB : Hid (Below w.heap.size w (((w5.setCell ⟨w.heap.size + 1, 0, none⟩ (.int .i64 time)).setCell ⟨w.heap.size + 1, 1, none⟩ (.int .i64 made)).setCell ⟨w.heap.size + 1, 2, none⟩ (.slice p L.length cap))) := (((HB5.out.setCell (by simp) _).setCell (by simp) _).setCell (by simp) _)
    have FC : Hid (∀ ob, Below w.heap.size w ((((w5.setCell ⟨w.heap.size + 1, 0, none⟩ (.int .i64 time)).setCell ⟨w.heap.size + 1, 1, none⟩ (.int .i64 made)).setCell ⟨w.heap.size + 1, 2, none⟩ (.slice p L.length cap)).alloc ob)) := fun ob => FB.out.alloc FB.out.size ob
    clear SS hsz
    go_wp2
    exact bodyPost_ret (v := .tuple #[.agg #[.int .i64 time, .int .i64 made, .slice p L.length cap], .int .i64 4]) (by simp [results, Try.results30, go_sem, SA.out, SO.out.1, SO.out.2.1, SO.out.2.2]) rfl ⟨FC.out _, Or.inl ⟨HI.out, rfl⟩⟩
end Go.Proofs.Yteiadigafkollaa
