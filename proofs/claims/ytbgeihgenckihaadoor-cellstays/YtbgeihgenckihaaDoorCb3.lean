/- Cells: Ask, Begin, Reset, Close. -/
import Derived.Test.YtbgeihgenckihaaDoorCb2
namespace Go.Proofs.YtbgeihgenckihaaDoor
open Go.RowKit

theorem fldR0 (a b c : Value) (w : World) : (Instr.field 71 (.agg #[a, b, c]) 0).run Tryd.prog w = .ok a w := by kernel_rfl
theorem fldR1 (a b c : Value) (w : World) : (Instr.field 71 (.agg #[a, b, c]) 1).run Tryd.prog w = .ok b w := by kernel_rfl
theorem fldR2 (a b c : Value) (w : World) : (Instr.field 71 (.agg #[a, b, c]) 2).run Tryd.prog w = .ok c w := by kernel_rfl
/-- What a call has made of a cell. -/
def Cdo (w : World) (b : Nat) (c : Ce) (w' : World) : Prop := ∃ vv fv, CX w' b c vv fv ∧ Bu b w w'
theorem Cdo.same {w w' : World} {b : Nat} {c : Ce} {vv fv : Value} (h : CX w b c vv fv) (k : Below w.heap.size w w') : Cdo w b c w' := ⟨vv, fv, h.below k, Bu.of k⟩
/-- The cell's block, and all else as it was. -/
structure HB (w : World) (b : Nat) (A : Array Value) (w' : World) : Prop where
  hp : w'.heap[b]? = some (.cells A 67)
  bu : Bu b w w'
theorem HB.of {w w' : World} {b : Nat} {c : Ce} {vv fv : Value} (h : CX w' b c vv fv) (k : Below w.heap.size w w') : HB w b (ceA c vv fv) w' := ⟨h.hp, Bu.of k⟩
theorem HB.set {w w' : World} {b : Nat} {A : Array Value} (h : HB w b A w') (o : Nat) (v : Value) : HB w b (A.setIfInBounds o v) (w'.setCell ⟨b, o, none⟩ v) := ⟨heap_setCell_same w' b o _ _ v h.hp, h.bu.trans (Bu.set b o w' v)⟩
theorem HB.none {w w' : World} {b : Nat} {A : Array Value} (h : HB w b A w') (c : Ce) (hA : A = ceA c (.slice none 0 0) (.slice none 0 0)) (ho : c.out = oc0) : Cdo w b c w' :=
  ⟨_, _, ⟨by rw [h.hp, hA], by rw [ho]; exact Or.inl ⟨Or.inl rfl, rfl⟩, by rw [ho]; exact Or.inl ⟨Or.inl rfl, rfl⟩, fun x hx => by simp [Value.ownBlock] at hx, fun x hx => by simp [Value.ownBlock] at hx⟩, h.bu⟩
theorem HB.keep {w w' : World} {b : Nat} {A : Array Value} (h : HB w b A w') {c : Ce} {vv fv : Value} (k : CX w b c vv fv) (c' : Ce) (hA : A = ceA c' vv fv) (ho : c'.out = c.out) : Cdo w b c' w' :=
  ⟨vv, fv, ⟨by rw [h.hp, hA], by rw [ho]; exact k.sv.blk h.bu.size (fun x hx hl => h.bu.block x hl (k.nv x hx)), by rw [ho]; exact k.sf.blk h.bu.size (fun x hx hl => h.bu.block x hl (k.nf x hx)), k.nv, k.nf⟩, h.bu⟩
set_option maxHeartbeats 4000000 in
set_option maxRecDepth 100000 in
theorem ask_any (w : World) (b : Nat) (c : Ce) (vv fv : Value) (h : CX w b c vv fv) (hi : CI c) (n : Int) : Calls Tryd.prog 22 #[.pointer (some ⟨b, 0, none⟩), .int .i64 n] w fun e w' => e = .returned (.int .i64 (askC c n)) ∧ Below w.heap.size w w' := by
  have HR : Hid (askC c n = if ¬ (0 ≤ n ∧ n ≤ 1099511627776) then 0 else if c.st = 1 then 1 else if c.st = 2 then 2 else if c.st = 3 then 3 else if c.st = 4 then rotC c n else 4) := rfl
  have IT := fun w' => isTime_any n w'
  have TB : Hid (timB n = decide (0 ≤ n ∧ n ≤ 1099511627776)) := rfl
  generalize timB n = tb at *
  cases tb with
  | false =>
    have HN : Hid (¬ (0 ≤ n ∧ n ≤ 1099511627776)) := by have := TB.out; intro q; simp [q] at this
    have BR : Hid (Below w.heap.size w w) := Below.refl _ _
    generalize askC c n = r at *
    clear h hi TB
    go_enter Tryd.func22, Tryd.ntmps22
    go_wp2_with (go_at_call 43; refine (IT _).mono ?_; rintro e w' ⟨rfl, rfl⟩)
    go_ret
    exact ⟨ret_int (by rw [HR.out, if_pos HN.out]), BR.out⟩
  | true =>
    have HN : Hid (0 ≤ n ∧ n ≤ 1099511627776) := by have := TB.out; show _ ∧ _; simpa using this.symm
    have RW := hid (row_any w b c vv fv h hi.st)
    have MO : Hid (∀ w1, Below w.heap.size w w1 → Calls Tryd.prog 52 #[.pointer (some ⟨b, 0, none⟩), .int .i64 n] w1 fun e w' => e = .returned (.int .i64 (rotC c n)) ∧ Below w.heap.size w w') := fun w1 hb => (mustRunOrTell_any w1 b c vv fv (h.below hb) hi n).mono (fun e w' q => ⟨q.1, hb.trans (q.2.mono hb.size)⟩)
    have hst := hi.st
    generalize askC c n = r at *
    generalize rotC c n = ro at *
    generalize c.st = st at *
    have e : st = 1 ∨ st = 2 ∨ st = 3 ∨ st = 4 ∨ st = 5 := by omega
    have f0 := fldR0
    clear h hi TB hst
    rcases e with rfl | rfl | rfl | rfl | rfl
    · have RW2 : Hid (Calls Tryd.prog 28 #[.pointer (some ⟨b, 0, none⟩)] w fun e w' => e = .returned (.agg #[.func (.func 45) #[.pointer (some ⟨b, 0, none⟩)] #[], .func (.func 46) #[.pointer (some ⟨b, 0, none⟩)] #[], .func (.func 47) #[.pointer (some ⟨b, 0, none⟩)] #[]]) ∧ Below w.heap.size w w') := RW.out
      clear RW
      go_enter Tryd.func22, Tryd.ntmps22
      have MR := fun w' => mustRun_any (.pointer (some ⟨b, 0, none⟩)) (.int .i64 n) w'
      go_wp2_with (first | (go_at_call 43; refine (IT _).mono ?_; rintro e w' ⟨rfl, rfl⟩) | (go_at_call 28; refine RW2.out.mono ?_; rintro e w1 ⟨rfl, hb⟩; have B1 := hid hb; clear hb) | (go_at_call 45; refine (MR _).mono ?_; rintro e w' ⟨rfl, rfl⟩))
      go_ret
      exact ⟨ret_int (by rw [HR.out, if_neg (fun q => q HN.out)]; simp), B1.out⟩
    · have RW2 : Hid (Calls Tryd.prog 28 #[.pointer (some ⟨b, 0, none⟩)] w fun e w' => e = .returned (.agg #[.func (.func 48) #[.pointer (some ⟨b, 0, none⟩)] #[], .func (.func 49) #[.pointer (some ⟨b, 0, none⟩)] #[], .func (.func 50) #[.pointer (some ⟨b, 0, none⟩)] #[]]) ∧ Below w.heap.size w w') := RW.out
      clear RW
      go_enter Tryd.func22, Tryd.ntmps22
      have MR := fun w' => mustWait_any (.pointer (some ⟨b, 0, none⟩)) (.int .i64 n) w'
      go_wp2_with (first | (go_at_call 43; refine (IT _).mono ?_; rintro e w' ⟨rfl, rfl⟩) | (go_at_call 28; refine RW2.out.mono ?_; rintro e w1 ⟨rfl, hb⟩; have B1 := hid hb; clear hb) | (go_at_call 48; refine (MR _).mono ?_; rintro e w' ⟨rfl, rfl⟩))
      go_ret
      exact ⟨ret_int (by rw [HR.out, if_neg (fun q => q HN.out)]; simp), B1.out⟩
    · have RW2 : Hid (Calls Tryd.prog 28 #[.pointer (some ⟨b, 0, none⟩)] w fun e w' => e = .returned (.agg #[.func (.func 51) #[.pointer (some ⟨b, 0, none⟩)] #[], .func (.func 46) #[.pointer (some ⟨b, 0, none⟩)] #[], .func (.func 47) #[.pointer (some ⟨b, 0, none⟩)] #[]]) ∧ Below w.heap.size w w') := RW.out
      clear RW
      go_enter Tryd.func22, Tryd.ntmps22
      have MR := fun w' => mustTell_any (.pointer (some ⟨b, 0, none⟩)) (.int .i64 n) w'
      go_wp2_with (first | (go_at_call 43; refine (IT _).mono ?_; rintro e w' ⟨rfl, rfl⟩) | (go_at_call 28; refine RW2.out.mono ?_; rintro e w1 ⟨rfl, hb⟩; have B1 := hid hb; clear hb) | (go_at_call 51; refine (MR _).mono ?_; rintro e w' ⟨rfl, rfl⟩))
      go_ret
      exact ⟨ret_int (by rw [HR.out, if_neg (fun q => q HN.out)]; simp), B1.out⟩
    · have RW2 : Hid (Calls Tryd.prog 28 #[.pointer (some ⟨b, 0, none⟩)] w fun e w' => e = .returned (.agg #[.func (.func 52) #[.pointer (some ⟨b, 0, none⟩)] #[], .func (.func 46) #[.pointer (some ⟨b, 0, none⟩)] #[], .func (.func 47) #[.pointer (some ⟨b, 0, none⟩)] #[]]) ∧ Below w.heap.size w w') := RW.out
      clear RW
      go_enter Tryd.func22, Tryd.ntmps22
      go_wp2_with (first | (go_at_call 43; refine (IT _).mono ?_; rintro e w' ⟨rfl, rfl⟩) | (go_at_call 28; refine RW2.out.mono ?_; rintro e w1 ⟨rfl, hb⟩; have B1 := hid hb; clear hb) | (go_at_call 52; refine (MO.out _ B1.out).mono ?_; rintro e w2 ⟨rfl, hb⟩; have B2 := hid hb; clear hb))
      go_ret
      exact ⟨ret_int (by rw [HR.out, if_neg (fun q => q HN.out)]; simp), B2.out⟩
    · have RW2 : Hid (Calls Tryd.prog 28 #[.pointer (some ⟨b, 0, none⟩)] w fun e w' => e = .returned (.agg #[.func (.func 53) #[.pointer (some ⟨b, 0, none⟩)] #[], .func (.func 49) #[.pointer (some ⟨b, 0, none⟩)] #[], .func (.func 50) #[.pointer (some ⟨b, 0, none⟩)] #[]]) ∧ Below w.heap.size w w') := RW.out
      clear RW
      go_enter Tryd.func22, Tryd.ntmps22
      have MR := fun w' => isShut_any (.pointer (some ⟨b, 0, none⟩)) (.int .i64 n) w'
      go_wp2_with (first | (go_at_call 43; refine (IT _).mono ?_; rintro e w' ⟨rfl, rfl⟩) | (go_at_call 28; refine RW2.out.mono ?_; rintro e w1 ⟨rfl, hb⟩; have B1 := hid hb; clear hb) | (go_at_call 53; refine (MR _).mono ?_; rintro e w' ⟨rfl, rfl⟩))
      go_ret
      exact ⟨ret_int (by rw [HR.out, if_neg (fun q => q HN.out)]; simp), B1.out⟩
def begX (c : Ce) (tk a : Int) : Ce := if begE c tk a = 0 then begC c tk a else c
def begG (c : Ce) (tk a : Int) : Int := if begE c tk a = 0 then c.gen + 1 else 0
theorem ret_two {a b c d : Int} (h : a = b) (k : c = d) : Ending.returned (.tuple #[.int .i64 a, .int .i64 c]) = .returned (.tuple #[.int .i64 b, .int .i64 d]) := by rw [h, k]
set_option maxHeartbeats 8000000 in
theorem begin_any (w : World) (b : Nat) (c : Ce) (vv fv : Value) (h : CX w b c vv fv) (hi : CI c) (tk n : Int) : Calls Tryd.prog 11 #[.pointer (some ⟨b, 0, none⟩), .int .i64 tk, .int .i64 n] w fun e w' => e = .returned (.tuple #[.int .i64 (begG c tk n), .int .i64 (begE c tk n)]) ∧ Cdo w b (begX c tk n) w' := by
  have HE : Hid (begE c tk n = if tskB tk = false ∨ nowB c n = false then 1 else if askC c n ≠ 1 then 7 else if c.gen = 1048576 then 111 else 0) := rfl
  have HG : Hid (begG c tk n = if begE c tk n = 0 then c.gen + 1 else 0) := rfl
  have HX : Hid (begX c tk n = if begE c tk n = 0 then begC c tk n else c) := rfl
  have IK := fun w' => isTask_any tk w'
  have IN := hid (isNow_any w b c vv fv h n)
  have AK := hid (ask_any w b c vv fv h hi n)
  have SM : Hid (∀ w', Below w.heap.size w w' → Cdo w b c w') := fun w' k => Cdo.same h k
  have BR : Hid (Below w.heap.size w w) := Below.refl _ _
  have CB : Hid (∀ w', Below w.heap.size w w' → (w'.cell? ⟨b, 7, none⟩ = some (.int .i64 c.gen)) ∧ ((∃ u, w'.cell? ⟨b, 5, none⟩ = some u) ∧ (∃ u, w'.cell? ⟨b, 6, none⟩ = some u)) ∧ ((∃ u, w'.cell? ⟨b, 9, none⟩ = some u) ∧ (∃ u, w'.cell? ⟨b, 10, none⟩ = some u) ∧ (∃ u, w'.cell? ⟨b, 11, none⟩ = some u) ∧ (∃ u, w'.cell? ⟨b, 12, none⟩ = some u)) ∧ (∀ o, w'.frozen? ⟨b, o, none⟩ = false) ∧ HB w b (ceA c vv fv) w') := fun w' k => by
    obtain ⟨d0, d1, d2, d3, d4, d5, d6, d7, d8, d9, d10, d11, d12⟩ := (h.below k).cells
    exact ⟨d7, ⟨⟨_, d5⟩, ⟨_, d6⟩⟩, ⟨⟨_, d9⟩, ⟨_, d10⟩, ⟨_, d11⟩, ⟨_, d12⟩⟩, (h.below k).fz, HB.of (h.below k) k⟩
  have hg := hi.gen
  generalize begE c tk n = er at *
  generalize begG c tk n = gr at *
  generalize begX c tk n = xr at *
  clear h hi
  cases ht : tskB tk with
  | false =>
    rw [ht] at IK HE
    have E1 : Hid (er = 1) := by show er = 1; rw [HE.out]; simp
    clear HE ht
    go_enter Tryd.func11, Tryd.ntmps11
    go_wp2_with (go_at_call 26; refine (IK _).mono ?_; rintro e w' ⟨rfl, rfl⟩)
    go_ret2
    exact ⟨ret_two (by rw [HG.out, E1.out]; rfl) E1.out.symm, by rw [HX.out, E1.out]; exact SM.out _ BR.out⟩
  | true =>
    rw [ht] at IK HE
    cases hn : nowB c n with
    | false =>
      rw [hn] at IN HE
      have E1 : Hid (er = 1) := by show er = 1; rw [HE.out]; simp
      clear HE ht hn
      go_enter Tryd.func11, Tryd.ntmps11
      go_wp2_with (first | (go_at_call 26; refine (IK _).mono ?_; rintro e w' ⟨rfl, rfl⟩) | (go_at_call 27; refine IN.out.mono ?_; rintro e w' ⟨rfl, rfl⟩))
      go_ret2
      exact ⟨ret_two (by rw [HG.out, E1.out]; rfl) E1.out.symm, by rw [HX.out, E1.out]; exact SM.out _ BR.out⟩
    | true =>
      rw [hn] at IN HE
      rw [if_neg (by simp)] at HE
      clear ht hn
      generalize askC c n = ak at *
      by_cases ha : ak = 1
      · subst ha
        rw [if_neg (by simp)] at HE
        by_cases hgg : c.gen = 1048576
        · have hg1 : (c.gen == 1048576) = true := by simpa using hgg
          have E1 : Hid (er = 111) := by show er = 111; rw [HE.out, if_pos hgg]
          clear HE hgg
          go_enter Tryd.func11, Tryd.ntmps11
          go_wp2_with (first | (go_at_call 26; refine (IK _).mono ?_; rintro e w' ⟨rfl, rfl⟩) | (go_at_call 27; refine IN.out.mono ?_; rintro e w' ⟨rfl, rfl⟩) | (go_at_call 22; refine AK.out.mono ?_; rintro e w1 ⟨rfl, hb⟩; have B1 := hid hb; obtain ⟨g7, _, _, _, _⟩ := CB.out _ hb; clear hb))
          go_ret2
          exact ⟨ret_two (by rw [HG.out, E1.out]; rfl) E1.out.symm, by rw [HX.out, E1.out]; exact SM.out _ B1.out⟩
        · have hg1 : (c.gen == 1048576) = false := by simpa using hgg
          have E1 : Hid (er = 0) := by show er = 0; rw [HE.out, if_neg hgg]
          clear HE
          go_enter Tryd.func11, Tryd.ntmps11
          go_wp2_with (first | (go_at_call 26; refine (IK _).mono ?_; rintro e w' ⟨rfl, rfl⟩) | (go_at_call 27; refine IN.out.mono ?_; rintro e w' ⟨rfl, rfl⟩) | (go_at_call 22; refine AK.out.mono ?_; rintro e w1 ⟨rfl, hb⟩; obtain ⟨g7, ⟨⟨u5, g5⟩, ⟨u6, g6⟩⟩, ⟨⟨u9, g9⟩, ⟨u10, g10⟩, ⟨u11, g11⟩, ⟨u12, g12⟩⟩, fz, hB⟩ := CB.out _ hb; have H1 := hid hB; clear hb hB))
          go_ret2
          exact ⟨ret_two (by rw [HG.out, E1.out]; simp) E1.out.symm, by rw [HX.out, E1.out, if_pos rfl]; exact HB.none (HB.set (HB.set (HB.set (HB.set (HB.set (HB.set (HB.set H1.out 5 _) 6 _) 10 _) 11 _) 12 _) 9 _) 7 _) _ rfl rfl⟩
      · have ha1 : (ak != 1) = true := by simpa using ha
        have E1 : Hid (er = 7) := by show er = 7; rw [HE.out, if_pos ha]
        clear HE ha
        go_enter Tryd.func11, Tryd.ntmps11
        go_wp2_with (first | (go_at_call 26; refine (IK _).mono ?_; rintro e w' ⟨rfl, rfl⟩) | (go_at_call 27; refine IN.out.mono ?_; rintro e w' ⟨rfl, rfl⟩) | (go_at_call 22; refine AK.out.mono ?_; rintro e w1 ⟨rfl, hb⟩; have B1 := hid hb; clear hb))
        go_ret2
        exact ⟨ret_two (by rw [HG.out, E1.out]; rfl) E1.out.symm, by rw [HX.out, E1.out]; exact SM.out _ B1.out⟩
end Go.Proofs.YtbgeihgenckihaaDoor
