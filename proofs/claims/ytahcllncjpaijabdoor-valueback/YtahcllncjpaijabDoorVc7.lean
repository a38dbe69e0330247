/- Values: the whole's atom; where wholes begin. -/
import Derived.Test.YtahcllncjpaijabDoorVc6
import Derived.BigRegion
namespace Go.Proofs.YtahcllncjpaijabDoor
open Go.RowKit

set_option maxHeartbeats 4000000 in
theorem wholeX_any (v : Value) (t : Vt) (w : World) (h : AS w v (flV t)) (hl : szV t ≤ 1000000) :
    Calls Tryd.prog 18 #[v] w fun e w' => e = .returned (.agg #[.int .i64 t.k, .int .i64 (t.ps.length : Nat), .int .i64 t.i, .string t.tx]) ∧ w' = w.alloc (.cells #[.int .i64 t.k, .int .i64 (t.ps.length : Nat), .int .i64 t.i, .string t.tx] 43) := by
  obtain ⟨p, cap, rfl⟩ := h.form
  have e0 : (flV t).length = szV t := rfl
  have hp := szV_pos t
  obtain ⟨X, o, e1, x0, x1, x2, x3⟩ := h.atA (k := szV t - 1) (by omega)
  obtain rfl : p = some ⟨X, o, none⟩ := e1
  rw [flV_get (by omega)] at x0 x1 x2 x3
  rw [e0] at h ⊢
  obtain ⟨m, hm⟩ : ∃ m, m = szV t - 1 := ⟨_, rfl⟩
  rw [← hm] at x0 x1 x2 x3
  have hs : szV t = m + 1 := by omega
  rw [hs]
  have hX : X < w.heap.size := block_lt_of_cell x0
  simp only at x0 x1 x2 x3
  obtain ⟨k, i, tx, ps⟩ := t
  have ek : (Vt.nd k i tx ps).k = k := rfl
  have ei : (Vt.nd k i tx ps).i = i := rfl
  have et : (Vt.nd k i tx ps).tx = tx := rfl
  have ep : (Vt.nd k i tx ps).ps = ps := rfl
  rw [ek] at x0
  rw [ep] at x1
  rw [ei] at x2
  rw [et] at x3
  rw [ek, ep, ei, et]
  generalize ps.length = n at *
  have hmb : m ≤ 1000000 := by omega
  clear h hm hp hs hl e0 ek ei et ep
  go_enter Tryd.func18, Tryd.ntmps18
  go_wp2_with fail
  exact bodyPost_ret (v := .agg #[.int .i64 k, .int .i64 (n : Nat), .int .i64 i, .string tx]) (by simp [results, Tryd.results18, go_sem]) rfl ⟨rfl, rfl⟩
theorem whole_any (v : Value) (t : Vt) (w : World) (h : AS w v (flV t)) (hl : szV t ≤ 1000000) :
    Calls Tryd.prog 18 #[v] w fun e w' => e = .returned (.agg #[.int .i64 t.k, .int .i64 (t.ps.length : Nat), .int .i64 t.i, .string t.tx]) ∧ Below w.heap.size w w' := by
  refine (wholeX_any v t w h hl).mono ?_
  rintro e w' ⟨h1, rfl⟩
  exact ⟨h1, (Below.refl _ _).alloc (Nat.le_refl _) _⟩
theorem fld0 (k n i : Int) (tx : ByteArray) (w : World) : (Instr.field 43 (.agg #[.int .i64 k, .int .i64 n, .int .i64 i, .string tx]) 0).run Tryd.prog w = .ok (.int .i64 k) w := by kernel_rfl
theorem fld1 (k n i : Int) (tx : ByteArray) (w : World) : (Instr.field 43 (.agg #[.int .i64 k, .int .i64 n, .int .i64 i, .string tx]) 1).run Tryd.prog w = .ok (.int .i64 n) w := by kernel_rfl
theorem fld2 (k n i : Int) (tx : ByteArray) (w : World) : (Instr.field 43 (.agg #[.int .i64 k, .int .i64 n, .int .i64 i, .string tx]) 2).run Tryd.prog w = .ok (.int .i64 i) w := by kernel_rfl
theorem fld3 (k n i : Int) (tx : ByteArray) (w : World) : (Instr.field 43 (.agg #[.int .i64 k, .int .i64 n, .int .i64 i, .string tx]) 3).run Tryd.prog w = .ok (.string tx) w := by kernel_rfl
/-- Where each whole begins, from a stack on. -/
def frV : List Vt → List Atm → List Int
  | _, [] => []
  | S, a :: r => ((szVL (S.take (cutV S a)) : Nat) : Int) :: frV (stV S a) r
/-- Where beginsOf stands. -/
structure FI (l : List Atm) (k : Nat) (S : List Vt) (F : List Int) : Prop where
  di : DI l k S
  sz : szVL S = k
  fl : F.length = k
  fr : frV [] l = F ++ frV S (l.drop k)
  fx : FrL F 0 S
theorem FI.start (l : List Atm) : FI l 0 [] [] := ⟨DI.start l, rfl, rfl, rfl, trivial⟩
theorem FI.ok {l : List Atm} {k : Nat} {S : List Vt} {F : List Int} (h : FI l k S F) (hd : depV l ≠ 0) (hk : k < l.length) : okV S l[k] = true := by
  cases e : okV S l[k] with
  | true => rfl
  | false => exact absurd (h.di.bad hk e) hd
theorem FI.next {l : List Atm} {k : Nat} {S : List Vt} {F : List Int} (h : FI l k S F) (hk : k < l.length) (ho : okV S l[k] = true) : FI l (k + 1) (stV S l[k]) (F ++ [((szVL (S.take (cutV S l[k])) : Nat) : Int)]) := by
  refine ⟨h.di.next hk ho, DI.size h.sz hk ho, by simp [h.fl], ?_, h.fx.step (by rw [h.fl, h.sz])⟩
  rw [h.fr, drop_at hk, frV]; simp
theorem FI.fin {l : List Atm} {k : Nat} {S : List Vt} {F : List Int} (h : FI l k S F) (hk : ¬ k < l.length) : F = frV [] l := by
  rw [h.fr, List.drop_eq_nil_of_le (by omega), frV, List.append_nil]
theorem frV_len {l : List Atm} (hd : depV l ≠ 0) : (frV [] l).length = l.length := by
  suffices h : ∀ n, n ≤ l.length → ∃ S F, FI l n S F by
    obtain ⟨S, F, hf⟩ := h l.length (Nat.le_refl _)
    rw [← hf.fin (by omega), hf.fl]
  intro n
  induction n with
  | zero => intro _; exact ⟨[], [], FI.start l⟩
  | succ n ih =>
    intro hn
    obtain ⟨S, F, hf⟩ := ih (by omega)
    exact ⟨_, _, hf.next (by omega) (hf.ok hd (by omega))⟩
/-- .. and F tells of each whole where it begins. -/
theorem frV_tree {t : Vt} (h : wfV t) : FrL (frV [] (flV t)) 0 [t] := by
  have hd : depV (flV t) ≠ 0 := by rw [depV_flat h]; have := dpV_pos t; omega
  suffices hs : ∀ n, n ≤ (flV t).length → ∃ S F, FI (flV t) n S F by
    obtain ⟨S, F, hf⟩ := hs _ (Nat.le_refl _)
    have e1 := hf.fin (by omega)
    have e2 : S = [t] := by
      have := hf.di.eq
      rw [bV_flat h, List.drop_length, bV] at this
      injection this with this; exact this.symm
    rw [← e1, ← e2]; exact hf.fx
  intro n
  induction n with
  | zero => intro _; exact ⟨[], [], FI.start _⟩
  | succ n ih =>
    intro hn
    obtain ⟨S, F, hf⟩ := ih (by omega)
    exact ⟨_, _, hf.next (by omega) (hf.ok hd (by omega))⟩
theorem rep_set (F : List Int) (m : Nat) (x : Int) (h : 0 < m) : (F ++ List.replicate m 0).set F.length x = F ++ [x] ++ List.replicate (m - 1) 0 := by
  obtain ⟨j, rfl⟩ : ∃ j, m = j + 1 := ⟨m - 1, by omega⟩
  rw [List.set_append_right _ _ (Nat.le_refl _), Nat.sub_self, List.replicate_succ, List.set_cons_zero]
  simp
theorem rep_set2 (F : List Int) (m : Nat) (x y : Int) : (F ++ [x] ++ List.replicate m 0).set F.length y = F ++ [y] ++ List.replicate m 0 := by
  rw [List.append_assoc, List.set_append_right _ _ (Nat.le_refl _), Nat.sub_self, List.singleton_append, List.set_cons_zero]
  simp
/-- The two rows of beginsOf. -/
structure BO (w wk : World) (gf L : Nat) (v : Value) (R : List Int) (S : List Vt) : Prop where
  f : OwnG KI wk w.heap.size (.slice (some ⟨gf, 0, none⟩) L L) R
  s : OwnG KI wk w.heap.size v (begL 0 S)
  ne : v.ownBlock ≠ some gf
  bl : Below w.heap.size w wk
theorem BO.alloc {w wk : World} {gf L : Nat} {v : Value} {R : List Int} {S : List Vt} (h : BO w wk gf L v R S) (ob : Obj) : BO w (wk.alloc ob) gf L v R S := by
  have b : Below wk.heap.size wk (wk.alloc ob) := (Below.refl _ _).alloc (Nat.le_refl _) ob
  exact ⟨h.f.below b, h.s.below b, h.ne, h.bl.trans (b.mono h.bl.size)⟩
theorem BO.set {w wk : World} {gf L : Nat} {v : Value} {R : List Int} {S : List Vt} (h : BO w wk gf L v R S) (k : Nat) (x : Int) : BO w (wk.setCell ⟨gf, k, none⟩ (.int .i64 x)) gf L v (R.set k x) S := by
  have hlt := h.f.lt (g := gf) rfl
  refine ⟨h.f.set1 rfl KI_ok.len x _ rfl, h.s.far (fun g hg => Below.heap_setCell _ _ _ _ (fun e => h.ne (by rw [hg, e]))), h.ne, h.bl.setCell hlt.1 _⟩
/-- One more, at a step of a region that draws its order. -/
theorem step_append_g {α : Type} {P : Program} (K : RK α) (hk : K.Ok P) {ops : Array Oper} {o : Oper} {a : Act} {C : Act → World → Prop} {Q : Exit → Act → World → Prop} {E : Prop} (hgd : o.guard = none) (s x : Operand) (t : TypeId)
    (ho : o.op = .call { callee := .builtin .append, args := #[s, x], argTypes := #[t, t] })
    (base : Nat) (ht : P.underlying t = some (.slice K.ty))
    (w1 : World) (b : Nat) (cells : Array Value) (tc : TypeId) (hblk : w1.heap[b]? = some (.cells cells tc)) (v : Value) (l : List α) (f : α) (c : Nat) (hs : a.eval s = v) (hown : OwnG K w1 base v l)
    (hx : a.eval x = .slice (some ⟨b, 0, none⟩) 1 c) (hc : cells.toList = K.f f)
    (hlen : (l.length + 1) * K.B ≤ 140737488355328) (hbase : base ≤ w1.heap.size)
    (h : ∀ g cap w', OwnG K w' base (.slice (some ⟨g, 0, none⟩) (l.length + 1) cap) (l ++ [f]) → Below base w1 w' → (∀ k, k < w1.heap.size → some k ≠ v.ownBlock → w'.heap[k]? = w1.heap[k]?) → (v.ownBlock = some g ∨ w1.heap.size ≤ g) → C (a.put o.dst (.slice (some ⟨g, 0, none⟩) (l.length + 1) cap)) w') :
    if Region.wanted o (yielded ops a.tmps) = true then Oper.wp P o a w1 C Q else E := by
  obtain ⟨i0, hi0, hz0, hz1, hz2⟩ := hk.info
  have hpb := hk.posB
  have hn : l.length + 1 ≤ 140737488355328 := Nat.le_trans (Nat.le_mul_of_pos_right _ hpb) hlen
  refine step_append_lies _ hgd s x t ho base K.ty i0 K.z K.W K.B ht hi0 hz0 hz1 hz2 hk.zs hk.pos v l.length (l.flatMap K.f) hs hown ⟨b, 0, none⟩ 1 c (K.f f) hx (by rw [hk.len]; omega) (by rw [← hc]; exact World.news_of_block hblk) (hk.one f)
    (by decide) (by unfold maxLen; omega) hlen hbase _ rfl ?_
  intro g cap w' ho' hg hgg _
  refine h g cap w' ?_ ((Below.refl base w1).grown hg hbase (fun q hq => (hown.lt hq).1)) (fun k hk hne => hg.block k hk hne) ?_
  · unfold OwnG
    rw [List.length_append, List.flatMap_append]
    simpa using ho'
  · rcases hgg with hgg | hgg
    · exact Or.inl hgg
    · right; rw [hgg]; exact Nat.le_refl _
theorem own_frozen {α : Type} {K : RK α} {w : World} {base g n cap : Nat} {l : List α} (h : OwnG K w base (.slice (some ⟨g, 0, none⟩) n cap) l) : ∀ o, w.frozen? ⟨g, o, none⟩ = false := by
  rcases h.2 with ⟨e, _⟩ | ⟨g', cp, cur, e1, _, e3, _⟩
  · cases e
  · injection e1 with e1 _ _
    injection e1 with e1
    injection e1 with e1 _ _
    subst e1
    intro o
    simp [World.frozen?, e3]
end Go.Proofs.YtahcllncjpaijabDoor
