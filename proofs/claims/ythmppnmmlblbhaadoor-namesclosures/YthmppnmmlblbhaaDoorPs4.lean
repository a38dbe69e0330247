/- Names: addAll, addBoth. -/
import Derived.Test.YthmppnmmlblbhaaDoorPs2
import Derived.Sort.MapsRangeIn
namespace Go.Proofs.YthmppnmmlblbhaaDoor
open Go.RowKit Go.Maps

theorem key_inv {s : ByteArray} {kl : Lit} (h : keyOf Tryd.prog 9 (.string s) = some kl) : s.size ≤ maxLen ∧ kl = kS s := by
  by_cases hs : s.size ≤ maxLen
  · rw [key_mk hs] at h; exact ⟨hs, (Option.some.inj h).symm⟩
  · exfalso
    simp [keyOf, Tryd.underlying9, mapKey] at h
    omega
/-- A loop over a set is under way: which are still to come, and how many. -/
def RG (w : World) (b r n : Nat) (p left : ByteArray → Bool) (cnt : Nat) : Prop := ∃ (D : DataW Unit) (lf : Lit → Bool), w.ranges Tryd.prog 9 unitElem b r n D lf cnt ∧ (∀ s, Maps.has D (kS s) = p s) ∧ ∀ s, lf (kS s) = left s
theorem RG.far {w w' : World} {b r n : Nat} {p left : ByteArray → Bool} {cnt : Nat} (h : RG w b r n p left cnt) (kb : w'.heap[b]? = w.heap[b]?) (kr : w'.heap[r]? = w.heap[r]?) : RG w' b r n p left cnt := by
  obtain ⟨D, lf, ⟨es, clock, since, seen, c0, hb, F, hs, hD, hr, rest⟩, h2⟩ := h
  exact ⟨D, lf, ⟨es, clock, since, seen, c0, kb.trans hb, F, hs, hD, kr.trans hr, rest⟩, h2⟩
theorem RG.left_eq {w : World} {b r n : Nat} {p left : ByteArray → Bool} {cnt : Nat} (h : RG w b r n p left cnt) : w.rangeLeft b r = cnt := by
  obtain ⟨D, lf, h1, _⟩ := h
  exact h1.left_eq
theorem RG.lt {w : World} {b r n : Nat} {p left : ByteArray → Bool} {cnt : Nat} (h : RG w b r n p left cnt) : b < w.heap.size ∧ r < w.heap.size := by
  obtain ⟨D, lf, h1, _⟩ := h
  exact ⟨h1.owns.lt, h1.lt⟩
theorem same_kS (s x : ByteArray) : (kS s).sameKey (kS x) = decide (s = x) := by
  by_cases e : s = x
  · subst e; rw [WideAt.sameKey_self (kS_key _)]; simp
  · rw [sameKey_ne (fun h => e (kS_inj.1 h))]; simp [e]
section
variable {P : Program} {w : World} {ops : Array Oper} {rest : List Oper} {o : Oper} {a : Act} {Q : Exit → Act → World → Prop}
theorem range_set (hg : o.guard = none) (m : Operand) (hop : o.op = Op.range 66 m) (b n : Nat) (p : ByteArray → Bool)
    (hm : a.eval m = .map (some b)) (h : SA w b n p)
    (hK : ∀ w' cnt, RG w' b w.heap.size n p p cnt → cnt ≤ n → Below w.heap.size w w' → w'.heap.size = w.heap.size + 1 → wpList Tryd.prog ops Q rest (a.put o.dst (.pointer (some ⟨w.heap.size, 0, none⟩))) w') :
    wpList Tryd.prog ops Q (o :: rest) a w := by
  obtain ⟨D, h1, h2⟩ := h
  refine wpList_range_own w hg m 66 hop 9 91 lawS Tryd.underlying66 unitElem b n D hm h1 ?_
  intro w' hr hgr hs
  exact hK w' _ ⟨D, _, hr, h2, h2⟩ h1.size_le ((Below.refl _ _).grown hgr (Nat.le_refl _) (fun k hk => by cases hk)) hs
theorem next_set (hg : o.guard = none) (it : Operand) (hop : o.op = Op.next it false) (b r n : Nat) (p left : ByteArray → Bool) (cnt : Nat)
    (hit : a.eval it = .pointer (some ⟨r, 0, none⟩)) (h : RG w b r n p left cnt)
    (hDone : (∀ s, left s = false) → wpList Tryd.prog ops Q rest (a.put o.dst (.tuple #[.bool false])) w)
    (hMore : ∀ (x : ByteArray) (w' : World) (cnt' : Nat), x.size ≤ maxLen → left x = true → RG w' b r n p (fun s => left s && !decide (s = x)) cnt' → cnt' < cnt → But (fun y => y = r) w w' → w'.heap.size = w.heap.size →
      (Instr.entry (.pointer (some ⟨r, 0, none⟩))).run Tryd.prog w' = .ok (.tuple #[.string x, .agg #[]]) w' → wpList Tryd.prog ops Q rest (a.put o.dst (.tuple #[.bool true, .string x, .agg #[]])) w') :
    wpList Tryd.prog ops Q (o :: rest) a w := by
  obtain ⟨D, lf, h1, h2, h3⟩ := h
  refine wpList_next_ranges w hg it hop 9 lawS unitElem Value.string (fun (_ : Unit) => .agg #[]) (fun key kl hk => by obtain ⟨s, rfl⟩ := Maps.keyOf_string_inv Tryd.underlying9 hk; exact ⟨s, rfl⟩) (fun v y hv => ⟨(), (unitElem_inv hv).1⟩) b r n D lf cnt hit h1 ?_ ?_
  · intro _ hl
    exact hDone (fun s => by rw [← h3]; exact hl _)
  · intro x c kl y w' cnt' hk hlk _ _ hr hlt hgr hs hen
    obtain ⟨hx, rfl⟩ := key_inv hk
    exact hMore x w' cnt' hx ((h3 x).symm.trans hlk) ⟨D, _, hr, h2, fun s => by rw [h3, same_kS]⟩ hlt (But.of_grown hgr) hs hen
end
set_option maxHeartbeats 8000000 in
set_option maxRecDepth 100000 in
theorem mcopy_any (b1 b2 n1 n2 : Nat) (p1 p2 : ByteArray → Bool) (w : World) (h1 : SA w b1 n1 p1) (h2 : SA w b2 n2 p2) (hne : b1 ≠ b2) (hn : n1 + n2 < 1000000) :
    Calls Tryd.prog 99 #[.map (some b1), .map (some b2)] w fun e w' => e = .returned (.tuple #[]) ∧ SA w' b1 (n1 + n2) (fun s => p1 s || p2 s) ∧ But (fun x => x = b1) w w' := by
  have H1 : Hid (SA w b1 n1 p1) := h1
  have H2 : Hid (SA w b2 n2 p2) := h2
  have hb1 := h1.lt
  have hb2 := h2.lt
  clear h1 h2
  go_enter Tryd.func99, Tryd.ntmps99
  go_wp2_with (first | (at_range; refine range_set rfl _ rfl b2 n2 p2 rfl H2.out ?_; intro w0 cnt0 hrg0 hc0 hb0 hs0) | go_in)
  go_frame
  have R0 : Hid (∃ (left : ByteArray → Bool) (cnt j : Nat), RG w0 b2 w.heap.size n2 p2 left cnt ∧ j + cnt ≤ n2 ∧ SA w0 b1 (n1 + j) (fun s => p1 s || (p2 s && !left s)) ∧ But (fun x => x = b1) w w0) := ⟨p2, cnt0, 0, hrg0, by omega, (H1.out.below hb0).congr (fun s => by cases p2 s <;> simp), But.of_below hb0⟩
  have Z0 : Hid (w0.heap.size = w.heap.size + 1) := hs0
  clear hrg0 hb0 hs0 hc0
  go_loopw [4] (fun _ wr => ∃ wk, wk = wr ∧ Hid (∃ (left : ByteArray → Bool) (cnt j : Nat), RG wk b2 w.heap.size n2 p2 left cnt ∧ j + cnt ≤ n2 ∧ SA wk b1 (n1 + j) (fun s => p1 s || (p2 s && !left s)) ∧ But (fun x => x = b1) w wk)) (fun _ wr => wr.rangeLeft b2 w.heap.size)
  case atStart => exact ⟨_, rfl, R0⟩
  case round =>
    obtain ⟨wr, rfl, HI⟩ := hrel
    clear R0
    obtain ⟨left, cnt, j, hrg, hj, hsa, hbt⟩ := HI.out
    have HR : Hid (RG wr b2 w.heap.size n2 p2 left cnt) := hrg
    have HS : Hid (SA wr b1 (n1 + j) (fun s => p1 s || (p2 s && !left s))) := hsa
    have HB : Hid (But (fun x => x = b1) w wr) := hbt
    clear HI hrg hsa hbt
    go_wp2_with (first | (at_next; refine next_set rfl _ rfl b2 w.heap.size n2 p2 left cnt rfl HR.out ?_ ?_) | go_in)
    · intro hd
      have FN : Hid (SA wr b1 (n1 + n2) (fun s => p1 s || p2 s)) := (HS.out.congr (fun s => by rw [hd s]; simp)).more (by omega)
      clear HR HS hd
      go_wp2_with fail
      go_end0
      exact ⟨rfl, FN.out, HB.out⟩
    · intro x w1 cnt1 hx hlx hrg1 hlt hbt1 hs1 hen
      have hnr : b1 ≠ w.heap.size := by omega
      have S1 : Hid (∀ ob, SA (w1.alloc ob) b1 (n1 + j) (fun s => p1 s || (p2 s && !left s))) := fun ob => (HS.out.far (hbt1.block b1 HS.out.lt hnr)).below ((Below.refl _ _).alloc (Nat.le_refl _) ob)
      have R1 : Hid (RG w1 b2 w.heap.size n2 p2 (fun s => left s && !decide (s = x)) cnt1) := hrg1
      have HX : Hid (left x = true) := hlx
      have B1 : Hid (But (fun x => x = b1) w w1) := HB.out.trans hbt1 (fun y hy => Or.inr (by omega))
      have ZW : Hid (wr.rangeLeft b2 w.heap.size = cnt) := HR.out.left_eq
      clear hrg1 hlx hbt1
      obtain ⟨D, hd1, hd2⟩ := S1.out (.cells #[] 91)
      have HD : Hid (∀ s, Maps.has D (kS s) = (p1 s || (p2 s && !left s))) := hd2
      have HM : Hid (IsMap D) := hd1.isMap
      clear hd2
      go_wp2_with (first | (at_mapUpdate; refine wpList_mapUpdate_own _ rfl _ _ _ 66 rfl 9 91 lawS Tryd.underlying66 (unitElem (H := Unit)) b1 (n1 + j) _ rfl hd1 (by unfold maxLen; omega) _ _ _ rfl rfl (key_mk hx) _ [] unitElem_mk ?_; intro w2 hown2 hgrow2; go_frame) | go_in)
      have G2 := But.of_grown hgrow2
      have AL : Below w1.heap.size w1 (w1.alloc (.cells #[] 91)) := (Below.refl _ _).alloc (Nat.le_refl _) _
      have hlr := R1.out.lt
      have kb : w2.heap[b2]? = w1.heap[b2]? := (G2.block b2 (Nat.lt_of_lt_of_le hlr.1 AL.size) (fun e => hne e.symm)).trans (AL.block b2 hlr.1)
      have kr : w2.heap[w.heap.size]? = w1.heap[w.heap.size]? := (G2.block _ (Nat.lt_of_lt_of_le hlr.2 AL.size) (fun e => hnr e.symm)).trans (AL.block _ hlr.2)
      have R2 : Hid (RG w2 b2 w.heap.size n2 p2 (fun s => left s && !decide (s = x)) cnt1) := R1.out.far kb kr
      have NX : Hid (∃ (left : ByteArray → Bool) (cnt j : Nat), RG w2 b2 w.heap.size n2 p2 left cnt ∧ j + cnt ≤ n2 ∧ SA w2 b1 (n1 + j) (fun s => p1 s || (p2 s && !left s)) ∧ But (fun x => x = b1) w w2) := by
        refine ⟨_, cnt1, j + 1, R2.out, by omega, ⟨_, hown2, fun s => ?_⟩, (B1.out.trans (But.of_below (F := fun _ => False) AL) (fun _ h => h.elim)).trans G2 (fun y hy => Or.inl hy)⟩
        rw [has_put_all HM.out, HD.out]
        have hx2 : p2 x = true ∨ p2 x = false := by cases p2 x <;> simp
        by_cases e : s = x
        · subst e
          have hp : p2 s = true := by
            obtain ⟨D', lf, ⟨es, clock, since, seen, c0, g1, g2, g3, g4, g5, g6, g7, g8, g9, _⟩, q2, q3⟩ := HR.out
            obtain ⟨y, hy, hyk⟩ := g9 (kS s) ((q3 s).trans HX.out)
            rw [← q2 s, g4, has_eq, List.any_eq_true]
            exact ⟨_, mem_sorted.2 (List.mem_map.2 ⟨y, hy, rfl⟩), by rw [hyk]; exact WideAt.sameKey_self (kS_key _)⟩
          simp [hp]
        · simp [e]
      clear hown2 hgrow2 G2 kb kr hd1
      go_roundw
      case rel => exact ⟨_, rfl, NX⟩
      case measure => rw [R2.out.left_eq, ZW.out]; exact hlt
end Go.Proofs.YthmppnmmlblbhaaDoor
namespace Go.Proofs.YthmppnmmlblbhaaDoor
open Go.RowKit Go.Maps

theorem RG.hit {w : World} {b r n : Nat} {p left : ByteArray → Bool} {cnt : Nat} (h : RG w b r n p left cnt) {s : ByteArray} (hs : left s = true) : p s = true := by
  obtain ⟨D', lf, ⟨es, clock, since, seen, c0, g1, g2, g3, g4, g5, g6, g7, g8, g9, _⟩, q2, q3⟩ := h
  obtain ⟨y, hy, hyk⟩ := g9 (kS s) ((q3 s).trans hs)
  rw [← q2 s, g4, has_eq, List.any_eq_true]
  exact ⟨_, mem_sorted.2 (List.mem_map.2 ⟨y, hy, rfl⟩), by rw [hyk]; exact WideAt.sameKey_self (kS_key _)⟩
set_option maxHeartbeats 4000000 in
theorem addAll_any (b1 b2 n1 n2 : Nat) (p1 p2 : ByteArray → Bool) (w : World) (h1 : SA w b1 n1 p1) (h2 : SA w b2 n2 p2) (hne : b1 ≠ b2) (hn : n1 + n2 < 1000000) :
    Calls Tryd.prog 86 #[.map (some b1), .map (some b2)] w fun e w' => e = .returned (.tuple #[]) ∧ SA w' b1 (n1 + n2) (fun s => p1 s || p2 s) ∧ But (fun x => x = b1) w w' := by
  have CP : Hid _ := mcopy_any b1 b2 n1 n2 p1 p2 w h1 h2 hne hn
  clear h1 h2
  go_enter Tryd.func86, Tryd.ntmps86
  go_wp2_with fail
  refine Calls.mono CP.out ?_
  rintro e w1 ⟨rfl, hs, hb⟩
  go_wp2_with fail
  go_end0
  exact ⟨rfl, hs, hb⟩
set_option maxHeartbeats 8000000 in
set_option maxRecDepth 100000 in
theorem addBoth_any (b0 b1 b2 n0 n1 n2 : Nat) (p0 p1 p2 : ByteArray → Bool) (w : World) (h0 : SA w b0 n0 p0) (h1 : SA w b1 n1 p1) (h2 : SA w b2 n2 p2) (hne1 : b0 ≠ b1) (hne2 : b0 ≠ b2) (hn : n0 + n1 < 1000000) :
    Calls Tryd.prog 87 #[.map (some b0), .map (some b1), .map (some b2)] w fun e w' => e = .returned (.tuple #[]) ∧ SA w' b0 (n0 + n1) (fun s => p0 s || (p1 s && p2 s)) ∧ But (fun x => x = b0) w w' := by
  have H0 : Hid (SA w b0 n0 p0) := h0
  have H1 : Hid (SA w b1 n1 p1) := h1
  have H2 : Hid (SA w b2 n2 p2) := h2
  have hb0 := h0.lt
  have hb1 := h1.lt
  have hb2 := h2.lt
  clear h0 h1 h2
  go_enter Tryd.func87, Tryd.ntmps87
  go_wp2_with (first | (at_range; refine range_set rfl _ rfl b1 n1 p1 rfl H1.out ?_; intro w0 cnt0 hrg0 hc0 hb0 hs0) | go_in)
  go_frame
  have R0 : Hid (∃ (left : ByteArray → Bool) (cnt j : Nat), RG w0 b1 w.heap.size n1 p1 left cnt ∧ j + cnt ≤ n1 ∧ SA w0 b0 (n0 + j) (fun s => p0 s || (p1 s && !left s && p2 s)) ∧ But (fun x => x = b0) w w0) := ⟨p1, cnt0, 0, hrg0, by omega, (H0.out.below hb0).congr (fun s => by cases p1 s <;> simp), But.of_below hb0⟩
  clear hrg0 hb0 hs0 hc0
  go_loopw [6] (fun _ wr => ∃ wk, wk = wr ∧ Hid (∃ (left : ByteArray → Bool) (cnt j : Nat), RG wk b1 w.heap.size n1 p1 left cnt ∧ j + cnt ≤ n1 ∧ SA wk b0 (n0 + j) (fun s => p0 s || (p1 s && !left s && p2 s)) ∧ But (fun x => x = b0) w wk)) (fun _ wr => wr.rangeLeft b1 w.heap.size)
  case atStart => exact ⟨_, rfl, R0⟩
  case round =>
    obtain ⟨wr, rfl, HI⟩ := hrel
    clear R0
    obtain ⟨left, cnt, j, hrg, hj, hsa, hbt⟩ := HI.out
    have HR : Hid (RG wr b1 w.heap.size n1 p1 left cnt) := hrg
    have HS : Hid (SA wr b0 (n0 + j) (fun s => p0 s || (p1 s && !left s && p2 s))) := hsa
    have HB : Hid (But (fun x => x = b0) w wr) := hbt
    clear HI hrg hsa hbt
    go_wp2_with (first | (at_next; refine next_set rfl _ rfl b1 w.heap.size n1 p1 left cnt rfl HR.out ?_ ?_) | go_in)
    · intro hd
      have FN : Hid (SA wr b0 (n0 + n1) (fun s => p0 s || (p1 s && p2 s))) := (HS.out.congr (fun s => by rw [hd s]; simp)).more (by omega)
      clear HR HS hd
      go_wp2_with fail
      go_end0
      exact ⟨rfl, FN.out, HB.out⟩
    · intro x w1 cnt1 hx hlx hrg1 hlt hbt1 hs1 hen
      have hnr : b0 ≠ w.heap.size := by omega
      have S1 : Hid (SA w1 b0 (n0 + j) (fun s => p0 s || (p1 s && !left s && p2 s))) := HS.out.far (hbt1.block b0 HS.out.lt hnr)
      have T1 : Hid (SA w1 b2 n2 p2) := by
        have a := H2.out.far (w' := wr) (HB.out.block b2 hb2 (fun e => hne2 e.symm))
        exact a.far (hbt1.block b2 a.lt (by omega))
      have R1 : Hid (RG w1 b1 w.heap.size n1 p1 (fun s => left s && !decide (s = x)) cnt1) := hrg1
      have HP : Hid (p1 x = true) := HR.out.hit hlx
      have B1 : Hid (But (fun x => x = b0) w w1) := HB.out.trans hbt1 (fun y hy => Or.inr (by omega))
      have ZW : Hid (wr.rangeLeft b1 w.heap.size = cnt) := HR.out.left_eq
      have HA : Hid _ := has_any b2 n2 p2 x w1 T1.out hx
      have AD : Hid (∀ w2, Below w1.heap.size w1 w2 → _) := fun w2 b => add_any b0 (n0 + j) _ x w2 (S1.out.below b) hx (by unfold maxLen; omega)
      clear hrg1 hlx hbt1 T1 HR
      go_wp2_with fail
      refine Calls.mono HA.out ?_
      rintro e w2 ⟨rfl, hb2'⟩
      have hlr := R1.out.lt
      have R2 : Hid (RG w2 b1 w.heap.size n1 p1 (fun s => left s && !decide (s = x)) cnt1) := R1.out.far (hb2'.block _ hlr.1) (hb2'.block _ hlr.2)
      have B2 : Hid (But (fun x => x = b0) w w2) := B1.out.trans (But.of_below (F := fun _ => False) hb2') (fun _ h => h.elim)
      cases hp : p2 x with
      | false =>
        have NX : Hid (∃ (left : ByteArray → Bool) (cnt j : Nat), RG w2 b1 w.heap.size n1 p1 left cnt ∧ j + cnt ≤ n1 ∧ SA w2 b0 (n0 + j) (fun s => p0 s || (p1 s && !left s && p2 s)) ∧ But (fun x => x = b0) w w2) := by
          refine ⟨_, cnt1, j, R2.out, by omega, (S1.out.below hb2').congr (fun s => ?_), B2.out⟩
          by_cases e : s = x
          · subst e; simp [hp]
          · simp [e]
        clear hb2' AD
        go_wp2_with fail
        go_roundw
        case rel => exact ⟨_, rfl, NX⟩
        case measure => rw [R2.out.left_eq, ZW.out]; exact hlt
      | true =>
        have A2 : Hid _ := AD.out _ hb2'
        clear hb2' AD
        go_wp2_with fail
        refine Calls.mono A2.out ?_
        rintro e w3 ⟨rfl, hs3, hb3⟩
        have hlr2 := R2.out.lt
        have R3 : Hid (RG w3 b1 w.heap.size n1 p1 (fun s => left s && !decide (s = x)) cnt1) := R2.out.far (hb3.block _ hlr2.1 (fun e => hne1 e.symm)) (hb3.block _ hlr2.2 (fun e => hnr e.symm))
        have NX : Hid (∃ (left : ByteArray → Bool) (cnt j : Nat), RG w3 b1 w.heap.size n1 p1 left cnt ∧ j + cnt ≤ n1 ∧ SA w3 b0 (n0 + j) (fun s => p0 s || (p1 s && !left s && p2 s)) ∧ But (fun x => x = b0) w w3) := by
          refine ⟨_, cnt1, j + 1, R3.out, by omega, hs3.congr (fun s => ?_), B2.out.trans hb3 (fun y hy => Or.inl hy)⟩
          by_cases e : s = x
          · subst e; simp [hp, HP.out]
          · simp [e]
        clear hs3 hb3 A2
        go_wp2_with fail
        go_roundw
        case rel => exact ⟨_, rfl, NX⟩
        case measure => rw [R3.out.left_eq, ZW.out]; exact hlt
end Go.Proofs.YthmppnmmlblbhaaDoor
