/- Values: numbers and texts as values; the first error of a row. -/
import Derived.Test.YtahcllncjpaijabDoorVc1
import Derived.Deep.RegionHeld3
namespace Go.Proofs.YtahcllncjpaijabDoor
open Go.RowKit

/-- Rows of two types lie in two blocks. -/
theorem own_apart {α β : Type} {K : RK α} {K' : RK β} (hne : K.ty ≠ K'.ty) {w : World} {b b' : Nat} {v v' : Value} {l : List α} {l' : List β} (h : OwnG K w b v l) (h' : OwnG K' w b' v' l') {g : Nat} (hg : v.ownBlock = some g) : some g ≠ v'.ownBlock := by
  rcases h.2 with ⟨e, _⟩ | ⟨g1, cap, cur, e1, _, e3, _⟩
  · rw [e] at hg; cases hg
  · rcases h'.2 with ⟨e, _⟩ | ⟨g2, cap2, cur2, f1, _, f3, _⟩
    · rw [e]; intro q; cases q
    · rw [e1] at hg
      injection hg with hg
      rw [f1]
      intro q
      injection q with q
      have e4 : g1 = g2 := hg.trans q
      subst e4
      rw [e3] at f3
      injection f3 with f3
      injection f3 with _ f3
      exact hne f3
/-- Where copied stands: the first k are copied. -/
structure CPV (w wk : World) (vs : Value) (L M : List Vx) (k : Nat) : Prop where
  eq : aL M = aL (L.take k)
  own : OwnG KV wk w.heap.size vs M
  each : ∀ x ∈ M, OwnG KA wk w.heap.size x.v x.a
  bl : Below w.heap.size w wk
theorem CPV.len {w wk : World} {vs : Value} {L M : List Vx} {k : Nat} (h : CPV w wk vs L M k) (hk : k ≤ L.length) : M.length = k := by
  have := congrArg List.length h.eq
  rw [aL_len, aL_len, List.length_take] at this
  omega
theorem CPV.next {w wr w1 w2 : World} {vs vs2 : Value} {L M : List Vx} {k : Nat} {x : Vx} (h : CPV w wr vs L M k) (hk : k < L.length) (b1 : Below wr.heap.size wr w1) (o1 : OwnG KA w1 wr.heap.size x.v x.a) (hx : x.a = L[k].a)
    (ho2 : OwnG KV w2 w.heap.size vs2 (M ++ [x])) (hb2 : Below w.heap.size w1 w2) (hk2 : ∀ j, j < w1.heap.size → some j ≠ vs.ownBlock → w2.heap[j]? = w1.heap[j]?) : CPV w w2 vs2 L (M ++ [x]) (k + 1) := by
  have hsz := h.bl.size
  have ne : KA.ty ≠ KV.ty := by decide
  refine ⟨?_, ho2, fun y hy => ?_, (h.bl.trans (b1.mono h.bl.size)).trans hb2⟩
  · have e : L.take (k + 1) = L.take k ++ [L[k]] := by rw [List.take_add_one, List.getElem?_eq_getElem hk]; rfl
    have := h.eq
    unfold aL at this ⊢
    rw [e, List.map_append, List.map_append, this]
    simp [hx]
  · rw [List.mem_append, List.mem_singleton] at hy
    rcases hy with hy | rfl
    · have o := (h.each y hy).below b1
      exact o.far fun g hg => hk2 g (o.lt hg).2 (own_apart ne o (h.own.below b1) hg)
    · have o := o1.low h.bl.size
      exact o.far fun g hg => hk2 g (o.lt hg).2 (own_apart ne o (h.own.below b1) hg)
theorem CPV.vr {w wk : World} {vs : Value} {L M : List Vx} {k : Nat} (h : CPV w wk vs L M k) : VR wk vs M := ⟨h.own.gs KV_ok.len, fun x hx => (h.each x hx).gs KA_ok.len⟩
end Go.Proofs.YtahcllncjpaijabDoor
namespace Go.Proofs.YtahcllncjpaijabDoor
open Go.RowKit

/-- A block of N cells of atoms. -/
def AB (w : World) (g N : Nat) : Prop := ∃ cur, w.heap[g]? = some (.cells cur 43) ∧ cur.size = N
theorem AB.cell {w : World} {g N : Nat} (h : AB w g N) {o : Nat} (ho : o < N) : ∃ v, w.cell? ⟨g, o, none⟩ = some v := by
  obtain ⟨cur, h1, h2⟩ := h
  exact ⟨cur[o]'(by omega), cell_of_row _ _ _ _ _ _ h1 |>.trans (by simp [h2, ho])⟩
theorem AB.frozen {w : World} {g N : Nat} (h : AB w g N) (o : Nat) : w.frozen? ⟨g, o, none⟩ = false := by
  obtain ⟨cur, h1, h2⟩ := h
  simp [World.frozen?, h1]
theorem AB.set {w : World} {g N : Nat} (h : AB w g N) (o : Nat) (v : Value) : AB (w.setCell ⟨g, o, none⟩ v) g N := by
  obtain ⟨cur, h1, h2⟩ := h
  exact ⟨cur.setIfInBounds o v, heap_setCell_same w g o cur _ v h1, by simpa using h2⟩
/-- All but one block as it was. -/
structure KB (g : Option Nat) (a b : World) : Prop where
  os : b.os = a.os
  tape : b.tape = a.tape
  output : b.output = a.output
  size : b.heap.size = a.heap.size
  block : ∀ j, some j ≠ g → b.heap[j]? = a.heap[j]?
theorem KB.refl (g : Option Nat) (a : World) : KB g a a := ⟨rfl, rfl, rfl, rfl, fun _ _ => rfl⟩
theorem KB.set {g : Nat} {a b : World} (h : KB (some g) a b) (o : Nat) (v : Value) : KB (some g) a (b.setCell ⟨g, o, none⟩ v) :=
  ⟨h.os, h.tape, h.output, by simpa [World.setCell] using h.size, fun j hj => (Below.heap_setCell _ _ _ _ (fun e => hj (by rw [e]))).trans (h.block j hj)⟩
theorem KB.below {g : Option Nat} {a b : World} (h : KB g a b) {N : Nat} (hN : ∀ x, g = some x → N ≤ x) : Below N a b :=
  ⟨h.os, h.tape, h.output, by rw [h.size]; exact Nat.le_refl _, fun j hj => h.block j (fun e => by have := hN j e.symm; omega)⟩
/-- What may be written over: a slice of a block of atoms that lies behind a place. -/
def SPV (w : World) (base : Nat) (v : Value) : Prop := v = .slice none 0 0 ∨ ∃ g o n cap N, v = .slice (some ⟨g, o, none⟩) n cap ∧ base ≤ g ∧ AB w g N ∧ o + cap * 4 ≤ N ∧ cap ≤ 9223372036854775807 ∧ n ≤ cap
theorem SPV.own {w : World} {base : Nat} {v : Value} {l : List Atm} (h : OwnG KA w base v l) : SPV w base v := by
  rcases h.2 with ⟨e, e2⟩ | ⟨g, cap, cur, e, hb, hg, hcp, hmx, hcs, _⟩
  · exact Or.inl e
  · have e3 : cap * KA.W = cap * 4 := rfl
    unfold maxLen at hmx
    exact Or.inr ⟨g, 0, _, cap, cur.size, e, hb, ⟨cur, hg, rfl⟩, by omega, by omega, hcp⟩
theorem SPV.far {w w' : World} {base : Nat} {v : Value} (h : SPV w base v) (k : ∀ g, v.ownBlock = some g → w'.heap[g]? = w.heap[g]?) : SPV w' base v := by
  rcases h with h | ⟨g, o, n, cap, N, rfl, hb, ⟨cur, h1, h2⟩, h3⟩
  · exact Or.inl h
  · exact Or.inr ⟨g, o, n, cap, N, rfl, hb, ⟨cur, (k g rfl).trans h1, h2⟩, h3⟩
theorem SPV.apart {α : Type} {K : RK α} (hne : K.ty ≠ 43) {w : World} {base b : Nat} {u v : Value} {l : List α} (h : SPV w base u) (ho : OwnG K w b v l) {g : Nat} (hg : v.ownBlock = some g) : some g ≠ u.ownBlock := by
  rcases h with rfl | ⟨g', o, n, cap, N, rfl, _, ⟨cur, h1, _⟩, _⟩
  · intro e; cases e
  · intro e
    have e : g = g' := by simpa [Value.ownBlock] using e
    subst e
    rcases ho.2 with ⟨e, _⟩ | ⟨g1, cap1, cur1, e1, _, e3, _⟩
    · rw [e] at hg; cases hg
    · rw [e1] at hg
      have e4 : g1 = g := by simpa [Value.ownBlock] using hg
      subst e4
      rw [h1] at e3
      injection e3 with e3
      injection e3 with _ e3
      exact hne e3.symm
theorem SPV.low {w : World} {base base' : Nat} {v : Value} (h : SPV w base v) (hb' : base' ≤ base) : SPV w base' v := by
  rcases h with h | ⟨g, o, n, cap, N, rfl, hb, h3⟩
  · exact Or.inl h
  · exact Or.inr ⟨g, o, n, cap, N, rfl, by omega, h3⟩
end Go.Proofs.YtahcllncjpaijabDoor
namespace Go.Proofs.YtahcllncjpaijabDoor
open Go.RowKit

theorem OwnG.lit {α : Type} (K : RK α) (w : World) (l : List α) (cells : Array Value) (hc : cells.toList = l.flatMap K.f) (hl : cells.size = l.length * K.W) (hm : l.length ≤ maxLen) : OwnG K (w.alloc (.cells cells K.ty)) w.heap.size (.slice (some ⟨w.heap.size, 0, none⟩) l.length l.length) l :=
  ⟨by rw [← hc]; simpa using hl, Or.inr ⟨w.heap.size, l.length, cells, rfl, Nat.le_refl _, heap_alloc_new w _, Nat.le_refl _, hm, hl, by rw [← hc, List.take_of_length_le]; simp [hl]⟩⟩
/-- A value of new memory, and an error. -/
def AnsV (w w' : World) (e : Ending) (out : List Atm) (err : Int) : Prop := ∃ p c, e = .returned (.tuple #[.slice p out.length c, .int .i64 err]) ∧ OwnG KA w' w.heap.size (.slice p out.length c) out ∧ Below w.heap.size w w'
theorem AnsV.none {w w' : World} (b : Below w.heap.size w w') (err : Int) : AnsV w w' (.returned (.tuple #[.slice none 0 0, .int .i64 err])) [] err := ⟨.none, 0, rfl, OwnG.nil _ _ _, b⟩
theorem AnsV.one {w : World} (x : Atm) (err : Int) : AnsV w (w.alloc (.cells #[.int .i64 x.kind, .int .i64 x.n, .int .i64 x.int, .string x.text] 43)) (.returned (.tuple #[.slice (some ⟨w.heap.size, 0, .none⟩) 1 1, .int .i64 err])) [x] err :=
  ⟨_, 1, rfl, OwnG.lit KA w [x] _ rfl rfl (by show 1 ≤ maxLen; unfold maxLen; omega), (Below.refl _ _).alloc (Nat.le_refl _) _⟩
def inB (n : Int) : Bool := decide (-9007199254740992 ≤ n ∧ n ≤ 9007199254740992)
def intL (n : Int) : List Atm := if inB n = true then [⟨1, 0, n, ByteArray.empty⟩] else []
def intE (n : Int) : Int := if inB n = true then 0 else 1
def txtL (s : ByteArray) : List Atm := if s.size ≤ 4096 then [⟨2, 0, 0, s⟩] else []
def txtE (s : ByteArray) : Int := if s.size ≤ 4096 then 0 else 3
set_option maxHeartbeats 4000000 in
theorem int_any (n : Int) (w : World) : Calls Tryd.prog 81 #[.int .i64 n] w fun e w' => AnsV w w' e (intL n) (intE n) := by
  have IN : Hid (∀ w, Calls Tryd.prog 70 #[.int .i64 n] w fun e w' => e = .returned (.bool (inB n)) ∧ w' = w) := fun w => isNumber_any n w
  have HL : Hid (intL n = if inB n = true then [⟨1, 0, n, ByteArray.empty⟩] else []) := rfl
  have HE : Hid (intE n = if inB n = true then 0 else 1) := rfl
  cases hb : inB n with
  | true =>
    rw [hb] at IN HL HE
    rw [HL.out, HE.out, if_pos rfl, if_pos rfl]
    clear HL HE hb
    go_enter Tryd.func81, Tryd.ntmps81
    go_wp2_with fail
    refine Calls.mono (IN.out _) ?_
    rintro e w1 ⟨rfl, rfl⟩
    go_wp2_with fail
    exact bodyPost_ret (v := .tuple #[.slice (some ⟨w1.heap.size, 0, none⟩) 1 1, .int .i64 0]) (by simp [results, Tryd.results81, go_sem]) rfl (AnsV.one ⟨1, 0, n, ByteArray.empty⟩ 0)
  | false =>
    rw [hb] at IN HL HE
    rw [HL.out, HE.out, if_neg (by decide), if_neg (by decide)]
    clear HL HE hb
    go_enter Tryd.func81, Tryd.ntmps81
    go_wp2_with fail
    refine Calls.mono (IN.out _) ?_
    rintro e w1 ⟨rfl, rfl⟩
    go_wp2_with fail
    exact bodyPost_ret (v := .tuple #[.slice none 0 0, .int .i64 1]) (by simp [results, Tryd.results81, go_sem]) rfl (AnsV.none (Below.refl _ _) 1)
set_option maxHeartbeats 4000000 in
theorem text_any (s : ByteArray) (w : World) (_hs : s.size ≤ maxLen) : Calls Tryd.prog 68 #[.string s] w fun e w' => AnsV w w' e (txtL s) (txtE s) := by
  have HL : Hid (txtL s = if s.size ≤ 4096 then [⟨2, 0, 0, s⟩] else []) := rfl
  have HE : Hid (txtE s = if s.size ≤ 4096 then 0 else 3) := rfl
  by_cases h1 : s.size ≤ 4096
  · have h1I : ¬ (s.size : Int) > 4096 := by omega
    rw [HL.out, HE.out, if_pos h1, if_pos h1]
    go_enter Tryd.func68, Tryd.ntmps68
    go_wp2_with fail
    exact bodyPost_ret (v := .tuple #[.slice (some ⟨w.heap.size, 0, none⟩) 1 1, .int .i64 0]) (by simp [results, Tryd.results68, go_sem]) rfl (AnsV.one ⟨2, 0, 0, s⟩ 0)
  · have h1I : (s.size : Int) > 4096 := by omega
    rw [HL.out, HE.out, if_neg h1, if_neg h1]
    go_enter Tryd.func68, Tryd.ntmps68
    go_wp2_with fail
    exact bodyPost_ret (v := .tuple #[.slice none 0 0, .int .i64 3]) (by simp [results, Tryd.results68, go_sem]) rfl (AnsV.none (Below.refl _ _) 3)
set_option maxHeartbeats 4000000 in
theorem checkAll_any (v : Value) (L : List Vx) (w : World) (h : VR w v L) (ht : VT L) :
    Calls Tryd.prog 21 #[v] w fun e w' => e = .returned (.int .i64 (allE (aL L))) ∧ Below w.heap.size w w' := by
  obtain ⟨p, cap, rfl⟩ := h.gs.form
  have hlm : L.length ≤ 140737488355328 := by have := ht.n; omega
  have HA : Hid (allE (aL L) = if 4096 < L.length then 3 else firstE (aL L)) := by show _ = _; unfold allE; rw [aL_len]
  have BR : Hid (Below w.heap.size w w) := Below.refl _ _
  have HS : Hid (VR w (.slice p L.length cap) L) := h
  have CK : Hid (∀ w1 k (hk : k < L.length), Below w.heap.size w w1 → Calls Tryd.prog 14 #[.slice L[k].q L[k].a.length L[k].c] w1 fun e w' => e = .returned (.int .i64 (chkV L[k].a)) ∧ Below w1.heap.size w1 w') := fun w1 k hk b => vcheck_any L[k].v L[k].a w1 ((h.av _ (List.getElem_mem hk)).below b) (ht.t _ (List.getElem_mem hk)) (by have := ht.l _ (List.getElem_mem hk); omega)
  have NX : Hid (∀ k (hk : k < L.length), chkV L[k].a = 0 → firstE (aL L) = firstE ((aL L).drop k) → firstE (aL L) = firstE ((aL L).drop (k + 1))) := fun k hk h0 h1 => firstE_step (by rw [aL_len]; exact hk) (by rw [aL_at hk]; exact h0) h1
  have BD : Hid (∀ k (hk : k < L.length), chkV L[k].a ≠ 0 → firstE (aL L) = firstE ((aL L).drop k) → firstE (aL L) = chkV L[k].a) := fun k hk h0 h1 => by
    have := firstE_bad (by rw [aL_len]; exact hk) (by rw [aL_at hk]; exact h0) h1
    rw [aL_at hk] at this; exact this
  have FN : Hid (∀ k, ¬ k < L.length → firstE (aL L) = firstE ((aL L).drop k) → firstE (aL L) = 0) := fun k hk h1 => firstE_end (by rw [aL_len]; exact hk) h1
  have D0 : Hid (firstE (aL L) = firstE ((aL L).drop 0)) := rfl
  clear h ht
  by_cases h1 : 4096 < L.length
  · have h1I : (L.length : Int) > 4096 := by omega
    rw [if_pos h1] at HA
    go_enter Tryd.func21, Tryd.ntmps21
    go_wp2_with fail
    go_ret
    exact ⟨by rw [HA.out]; rfl, BR.out⟩
  · have h1I : ¬ (L.length : Int) > 4096 := by omega
    rw [if_neg h1] at HA
    generalize firstE (aL L) = r at *
    generalize allE (aL L) = ra at *
    go_enter Tryd.func21, Tryd.ntmps21
    go_wp2_with fail
    go_loopw [11] (fun v11 wr => ∃ (k : Nat) (wk : World), v11 = .int .i64 k ∧ wk = wr ∧ k ≤ L.length ∧ Hid (r = firstE ((aL L).drop k)) ∧ Hid (Below w.heap.size w wk)) (fun v11 _ => L.length - (intOf v11).toNat)
    case atStart => exact ⟨0, _, rfl, rfl, Nat.zero_le _, D0, BR⟩
    case round =>
      obtain ⟨k, wr, rfl, rfl, hk, HD, HB⟩ := hrel
      clear D0 BR
      by_cases hlt : k < L.length
      · obtain ⟨X, o, e1, x0⟩ := (HS.out.gs.below HB.out).atV hlt
        obtain rfl : p = some ⟨X, o, none⟩ := e1
        have C1 : Hid _ := CK.out wr k hlt HB.out
        have NX1 : Hid _ := fun h0 => NX.out k hlt h0 HD.out
        have BD1 : Hid _ := fun h0 => BD.out k hlt h0 HD.out
        obtain ⟨c, hc⟩ : ∃ c, c = L[k] := ⟨_, rfl⟩
        rw [← hc] at x0 C1 NX1 BD1
        generalize chkV c.a = rc at *
        clear hc CK NX BD FN HS HD
        by_cases hz : rc = 0
        · subst hz
          have HN : Hid _ := NX1.out rfl
          clear NX1 BD1
          go_wp2_with fail
          refine Calls.mono C1.out ?_
          rintro e w1 ⟨rfl, hb1⟩
          have B1 : Hid (Below w.heap.size w w1) := HB.out.trans (hb1.mono HB.out.size)
          clear hb1 C1
          go_wp2_with fail
          go_roundw
          case rel => exact ⟨k + 1, _, by go_num, rfl, by omega, HN, B1⟩
          case measure => simp [intOf]; omega
        · have HN : Hid _ := BD1.out hz
          clear NX1 BD1
          go_wp2_with fail
          refine Calls.mono C1.out ?_
          rintro e w1 ⟨rfl, hb1⟩
          have B1 : Hid (Below w.heap.size w w1) := HB.out.trans (hb1.mono HB.out.size)
          clear hb1 C1
          go_wp2_with fail
          go_ret
          exact ⟨by rw [HA.out, HN.out]; rfl, B1.out⟩
      · have HF : Hid (r = 0) := FN.out k hlt HD.out
        clear HD FN NX BD CK
        go_wp2_with fail
        go_ret
        exact ⟨by rw [HA.out, HF.out]; rfl, HB.out⟩
end Go.Proofs.YtahcllncjpaijabDoor
