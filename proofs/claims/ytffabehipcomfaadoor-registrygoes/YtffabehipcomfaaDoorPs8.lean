/- Names: Sure. -/
import Derived.Test.YtffabehipcomfaaDoorPs2
import Derived.Sort.MapsRangeIn
import Derived.Deep.Quiet
import Derived.Deep.QuietTactic
import Derived.BigQuiet
import Derived.BigRegion
import Derived.Deep.RegionLaw
import Derived.Deep.RegionWith
import Derived.Deep.CutRange
import Derived.Deep.DeepCutAuto
namespace Go.Proofs.YtffabehipcomfaaDoor
open Go.RowKit Go.Maps

theorem key_inv {s : ByteArray} {kl : Lit} (h : keyOf Tryd.prog 9 (.string s) = some kl) : s.size ≤ maxLen ∧ kl = kS s := by
  by_cases hs : s.size ≤ maxLen
  · rw [key_mk hs] at h; exact ⟨hs, (Option.some.inj h).symm⟩
  · exfalso
    simp [keyOf, Tryd.underlying9, mapKey] at h
    omega
/-- A loop over a set is under way: which are still to come, and how many. -/
def RG (w : World) (b r n : Nat) (p left : ByteArray → Bool) (cnt : Nat) : Prop := ∃ (D : DataW Unit) (lf : Lit → Bool), w.ranges Tryd.prog 9 unitElem b r n D lf cnt ∧ (∀ s, Maps.has D (kS s) = p s) ∧ ∀ s, lf (kS s) = left s
theorem RG.far {w w' : World} {b r n : Nat} {p left : ByteArray → Bool} {cnt : Nat} (h : RG w b r n p left cnt) (kb : w'.heap[b]? = w.heap[b]?) (kr : w'.heap[r]? = w.heap[r]?) : RG w' b r n p left cnt := by
  obtain ⟨D, lf, ⟨es, clock, since, seen, c0, hb, F, hs, hD, hr, rest⟩, h2⟩ := h
  exact ⟨D, lf, ⟨es, clock, since, seen, c0, kb.trans hb, F, hs, hD, kr.trans hr, rest⟩, h2⟩
theorem RG.left_eq {w : World} {b r n : Nat} {p left : ByteArray → Bool} {cnt : Nat} (h : RG w b r n p left cnt) : w.rangeLeft b r = cnt := by
  obtain ⟨D, lf, h1, _⟩ := h
  exact h1.left_eq
theorem RG.lt {w : World} {b r n : Nat} {p left : ByteArray → Bool} {cnt : Nat} (h : RG w b r n p left cnt) : b < w.heap.size ∧ r < w.heap.size := by
  obtain ⟨D, lf, h1, _⟩ := h
  exact ⟨h1.owns.lt, h1.lt⟩
theorem same_kS (s x : ByteArray) : (kS s).sameKey (kS x) = decide (s = x) := by
  by_cases e : s = x
  · subst e; rw [WideAt.sameKey_self (kS_key _)]; simp
  · rw [sameKey_ne (fun h => e (kS_inj.1 h))]; simp [e]
section
variable {P : Program} {w : World} {ops : Array Oper} {rest : List Oper} {o : Oper} {a : Act} {Q : Exit → Act → World → Prop}
theorem range_set (hg : o.guard = none) (m : Operand) (hop : o.op = Op.range 112 m) (b n : Nat) (p : ByteArray → Bool)
    (hm : a.eval m = .map (some b)) (h : SA w b n p)
    (hK : ∀ w' cnt, RG w' b w.heap.size n p p cnt → cnt ≤ n → Below w.heap.size w w' → w'.heap.size = w.heap.size + 1 → wpList Tryd.prog ops Q rest (a.put o.dst (.pointer (some ⟨w.heap.size, 0, none⟩))) w') :
    wpList Tryd.prog ops Q (o :: rest) a w := by
  obtain ⟨D, h1, h2⟩ := h
  refine wpList_range_own w hg m 112 hop 9 121 lawS Tryd.underlying112 unitElem b n D hm h1 ?_
  intro w' hr hgr hs
  exact hK w' _ ⟨D, _, hr, h2, h2⟩ h1.size_le ((Below.refl _ _).grown hgr (Nat.le_refl _) (fun k hk => by cases hk)) hs
theorem next_set (hg : o.guard = none) (it : Operand) (hop : o.op = Op.next it false) (b r n : Nat) (p left : ByteArray → Bool) (cnt : Nat)
    (hit : a.eval it = .pointer (some ⟨r, 0, none⟩)) (h : RG w b r n p left cnt)
    (hDone : (∀ s, left s = false) → wpList Tryd.prog ops Q rest (a.put o.dst (.tuple #[.bool false])) w)
    (hMore : ∀ (x : ByteArray) (w' : World) (cnt' : Nat), x.size ≤ maxLen → left x = true → RG w' b r n p (fun s => left s && !decide (s = x)) cnt' → cnt' < cnt → But (fun y => y = r) w w' → w'.heap.size = w.heap.size →
      (Instr.entry (.pointer (some ⟨r, 0, none⟩))).run Tryd.prog w' = .ok (.tuple #[.string x, .agg #[]]) w' → wpList Tryd.prog ops Q rest (a.put o.dst (.tuple #[.bool true, .string x, .agg #[]])) w') :
    wpList Tryd.prog ops Q (o :: rest) a w := by
  obtain ⟨D, lf, h1, h2, h3⟩ := h
  refine wpList_next_ranges w hg it hop 9 lawS unitElem Value.string (fun (_ : Unit) => .agg #[]) (fun key kl hk => by obtain ⟨s, rfl⟩ := Maps.keyOf_string_inv Tryd.underlying9 hk; exact ⟨s, rfl⟩) (fun v y hv => ⟨(), (unitElem_inv hv).1⟩) b r n D lf cnt hit h1 ?_ ?_
  · intro _ hl
    exact hDone (fun s => by rw [← h3]; exact hl _)
  · intro x c kl y w' cnt' hk hlk _ _ hr hlt hgr hs hen
    obtain ⟨hx, rfl⟩ := key_inv hk
    exact hMore x w' cnt' hx ((h3 x).symm.trans hlk) ⟨D, _, hr, h2, fun s => by rw [h3, same_kS]⟩ hlt (But.of_grown hgr) hs hen
end
end Go.Proofs.YtffabehipcomfaaDoor
namespace Go.Proofs.YtffabehipcomfaaDoor
open Go.RowKit Go.Maps

theorem RG.hit {w : World} {b r n : Nat} {p left : ByteArray → Bool} {cnt : Nat} (h : RG w b r n p left cnt) {s : ByteArray} (hs : left s = true) : p s = true := by
  obtain ⟨D', lf, ⟨es, clock, since, seen, c0, g1, g2, g3, g4, g5, g6, g7, g8, g9, _⟩, q2, q3⟩ := h
  obtain ⟨y, hy, hyk⟩ := g9 (kS s) ((q3 s).trans hs)
  rw [← q2 s, g4, has_eq, List.any_eq_true]
  exact ⟨_, mem_sorted.2 (List.mem_map.2 ⟨y, hy, rfl⟩), by rw [hyk]; exact WideAt.sameKey_self (kS_key _)⟩
end Go.Proofs.YtffabehipcomfaaDoor
namespace Go.Proofs.YtffabehipcomfaaDoor
open Go.RowKit Go.Maps

def p0f : ByteArray → Bool := fun _ => false
def qP (l : List Opn) (k j : Nat) : Nat := ((ptO l k).getD j 0).toNat
/-- What the whole at k surely asks for, by what those ahead of it do. -/
def suS (l : List Opn) (k : Nat) (S : List (ByteArray → Bool)) : ByteArray → Bool :=
  if (opA l k).kind = 3 then fun s => decide (s = (opA l k).text)
  else if (opA l k).kind = 14 then fun s => S.getD (qP l k 0) p0f s || (S.getD (qP l k 1) p0f s && S.getD (qP l k 2) p0f s)
  else if (opA l k).kind = 15 then S.getD (qP l k 0) p0f
  else fun s => (ptO l k).any fun x => S.getD x.toNat p0f s
def sK (l : List Opn) : Nat → List (ByteArray → Bool)
  | 0 => []
  | k + 1 => sK l k ++ [suS l k (sK l k)]
/-- How many at most. -/
def cuS (l : List Opn) (k : Nat) (C : List Nat) : Nat := ((ptO l k).map fun x => C.getD x.toNat 0).sum + 1
def cK (l : List Opn) : Nat → List Nat
  | 0 => []
  | k + 1 => cK l k ++ [cuS l k (cK l k)]
theorem sK_len (l : List Opn) : ∀ k, (sK l k).length = k
  | 0 => rfl
  | k + 1 => by rw [sK, List.length_append, sK_len l k]; rfl
theorem cK_len (l : List Opn) : ∀ k, (cK l k).length = k
  | 0 => rfl
  | k + 1 => by rw [cK, List.length_append, cK_len l k]; rfl
theorem getD_app {α : Type} {L : List α} {x d : α} {j : Nat} (h : j < L.length) : (L ++ [x]).getD j d = L.getD j d := by
  simp [List.getD, List.getElem?_append_left h]
theorem getD_end {α : Type} {L : List α} {x d : α} {j : Nat} (h : L.length = j) : (L ++ [x]).getD j d = x := by
  subst h; simp [List.getD]
theorem st_bd (l : List Opn) : ∀ k, ∀ x ∈ stK l k, 0 ≤ x ∧ x < k
  | 0, x, hx => by simp [stK] at hx
  | k + 1, x, hx => by
    rw [stK, List.mem_append, List.mem_singleton] at hx
    rcases hx with hx | hx
    · have := st_bd l k x (List.mem_of_mem_take hx); omega
    · omega
theorem st_sum (l : List Opn) : ∀ k, k ≤ l.length → ((stK l k).map fun x => (cK l k).getD x.toNat 0).sum ≤ k
  | 0, _ => by simp [stK]
  | k + 1, hk => by
    have ih := st_sum l k (by omega)
    have hp := ptO_stK (l := l) (show k < l.length by omega)
    obtain ⟨J, hJ⟩ : ∃ J, J = (stK l k).length - (opA l k).n.toNat := ⟨_, rfl⟩
    rw [← hJ] at hp
    have e1 : ((stK l k).map fun x => (cK l k).getD x.toNat 0).sum = (((stK l k).take J).map fun x => (cK l k).getD x.toNat 0).sum + ((ptO l k).map fun x => (cK l k).getD x.toNat 0).sum := by
      rw [hp, ← List.sum_append, ← List.map_append, List.take_append_drop]
    have e2 : ((stK l (k + 1)).map fun x => (cK l (k + 1)).getD x.toNat 0).sum = (((stK l k).take J).map fun x => (cK l k).getD x.toNat 0).sum + cuS l k (cK l k) := by
      rw [stK, ← hJ, List.map_append, List.sum_append, List.map_singleton, cK]
      have e3 : ((stK l k).take J).map (fun x => (cK l k ++ [cuS l k (cK l k)]).getD x.toNat 0) = ((stK l k).take J).map (fun x => (cK l k).getD x.toNat 0) := List.map_congr_left (fun x hx => by
        have := st_bd l k x (List.mem_of_mem_take hx)
        exact getD_app (by rw [cK_len]; omega))
      rw [e3, Int.toNat_natCast, getD_end (cK_len l k)]; simp
    rw [e2]
    unfold cuS
    omega
theorem cuS_bd (l : List Opn) {k : Nat} (h : k < l.length) : cuS l k (cK l k) ≤ k + 1 := by
  have h1 := st_sum l (k + 1) (by omega)
  rw [stK, List.map_append, List.sum_append, List.map_singleton, cK, Int.toNat_natCast, getD_end (cK_len l k)] at h1
  simp at h1; omega
def KM : RK (Option Nat) := ⟨112, 1, 8, .map none, fun o => [.map o]⟩
theorem KM_ok : KM.Ok Tryd.prog :=
  ⟨fun _ => rfl, fun x u hu => by simp [KM] at hu; subst hu; rfl, rfl, by decide, by decide, info_parts' (by kernel_rfl)⟩
theorem own_map {w : World} {base g n cap : Nat} {S : List (Option Nat)} (h : OwnG KM w base (.slice (some ⟨g, 0, none⟩) n cap) S) (hn : n = S.length) {j : Nat} (hj : j < S.length) : w.cell? ⟨g, j, none⟩ = some (.map (S.getD j none)) := by
  subst hn
  obtain ⟨X, o, e, _, hc⟩ := (h.gs KM_ok.len).at hj
  injection e with e
  injection e with e1 e2 _
  subst e1 e2
  have := hc 0 _ rfl
  rw [show KM.W = 1 from rfl, Nat.mul_one, Nat.zero_add, Nat.add_zero] at this
  rw [this]; simp [List.getD, List.getElem?_eq_getElem hj]
/-- The row of the sets that are there. -/
def mRow (B : List Nat) (n : Nat) : List (Option Nat) := B.map some ++ List.replicate (n - B.length) none
theorem mRow_len {B : List Nat} {n : Nat} (h : B.length ≤ n) : (mRow B n).length = n := by unfold mRow; simp; omega
theorem mRow_at {B : List Nat} {n j : Nat} (h : j < B.length) : (mRow B n).getD j none = some (B.getD j 0) := by
  unfold mRow
  rw [List.getD_eq_getElem?_getD, List.getElem?_append_left (by simpa using h)]
  simp [List.getD, List.getElem?_eq_getElem h]
theorem mRow_set {B : List Nat} {n : Nat} (h : B.length < n) (b : Nat) : (mRow B n).set B.length (some b) = mRow (B ++ [b]) n := by
  unfold mRow
  rw [List.set_append_right _ _ (by simp), show n - B.length = (n - (B.length + 1)) + 1 by omega, List.replicate_succ]
  simp
/-- The state of sureOf's visits. -/
def SU (l : List Opn) (g base k : Nat) (F : Nat → Prop) (w : World) : Prop := ∃ B : List Nat, B.length = k ∧ OwnG KM w base (.slice (some ⟨g, 0, none⟩) l.length l.length) (mRow B l.length) ∧ (∀ j, j < k → SA w (B.getD j 0) ((cK l k).getD j 0) ((sK l k).getD j p0f)) ∧ (∀ x ∈ B, x ≠ g) ∧ ∀ x, F x ↔ x = g ∨ x ∈ B
theorem memB {B : List Nat} {j : Nat} (h : j < B.length) : B.getD j 0 ∈ B := by
  rw [List.getD_eq_getElem?_getD, List.getElem?_eq_getElem h]; exact List.getElem_mem h
theorem SU_vis (l : List Opn) (g base : Nat) : Vis (SU l g base) where
  lt := fun k F w h x hx => by
    obtain ⟨B, h0, h1, h2, _, h4⟩ := h
    rcases (h4 x).1 hx with e | e
    · subst e; exact (h1.lt rfl).2
    · obtain ⟨j, hj, rfl⟩ := List.getElem_of_mem e
      have := (h2 j (by omega)).lt
      simpa [List.getD, List.getElem?_eq_getElem hj] using this
  keep := fun k F w w' h hs _ _ _ hk => by
    obtain ⟨B, h0, h1, h2, h3, h4⟩ := h
    exact ⟨B, h0, h1.far (fun x hx => hk x ((h4 x).2 (Or.inl (by simpa [Value.ownBlock] using hx.symm)))), fun j hj => (h2 j hj).far (hk _ ((h4 _).2 (Or.inr (memB (by omega))))), h3, h4⟩
/-- The k-th set is being filled. -/
structure MD (l : List Opn) (g base k : Nat) (B : List Nat) (F : Nat → Prop) (w w1 : World) (b : Nat) : Prop where
  len : B.length = k
  row : OwnG KM w1 base (.slice (some ⟨g, 0, none⟩) l.length l.length) (mRow (B ++ [b]) l.length)
  old : ∀ j, j < k → SA w1 (B.getD j 0) ((cK l k).getD j 0) ((sK l k).getD j p0f)
  ng : ∀ x ∈ B, x ≠ g
  bn : w.heap.size ≤ b
  lo : ∀ x ∈ B, x < w.heap.size
  gl : g < w.heap.size
  ff : ∀ x, F x ↔ x = g ∨ x ∈ B
  bt : But (fun x => x = g) w w1
theorem MD.step {l : List Opn} {g base k : Nat} {B : List Nat} {F : Nat → Prop} {w w1 w2 : World} {b : Nat} (h : MD l g base k B F w w1 b) (hb : But (fun x => x = b) w1 w2) : MD l g base k B F w w2 b := by
  have hgl := h.gl
  have hbn := h.bn
  exact ⟨h.len, h.row.far (fun x hx => by
      have e : x = g := by simpa [Value.ownBlock] using hx.symm
      exact hb.block x (h.row.lt hx).2 (by omega)), fun j hj => (h.old j hj).far (hb.block _ (h.old j hj).lt (by have := h.lo _ (memB (B := B) (j := j) (by rw [h.len]; exact hj)); omega)), h.ng, h.bn, h.lo, h.gl, h.ff, h.bt.trans hb (fun x hx => Or.inr (by omega))⟩
theorem MD.fin {l : List Opn} {g base k : Nat} {B : List Nat} {F : Nat → Prop} {w w1 : World} {b n : Nat} (h : MD l g base k B F w w1 b) (hs : SA w1 b n (suS l k (sK l k))) (hn : n ≤ cuS l k (cK l k)) : ∃ F', SU l g base (k + 1) F' w1 ∧ (∀ x, F' x → F x ∨ w.heap.size ≤ x) ∧ But F w w1 := by
  have hgl := h.gl
  have hbn := h.bn
  refine ⟨fun x => x = g ∨ x ∈ B ++ [b], ⟨B ++ [b], by simp [h.len], h.row, fun j hj => ?_, fun x hx => ?_, fun x => Iff.rfl⟩, fun x hx => ?_, ⟨h.bt.os, h.bt.tape, h.bt.output, h.bt.size, fun x hx hn => h.bt.block x hx (fun e => hn ((h.ff x).2 (Or.inl e)))⟩⟩
  · rw [cK, sK]
    by_cases e : j < k
    · rw [getD_app (by rw [h.len]; exact e), getD_app (by rw [cK_len]; exact e), getD_app (by rw [sK_len]; exact e)]
      exact h.old j e
    · have : j = k := by omega
      subst this
      rw [getD_end h.len, getD_end (cK_len l j), getD_end (sK_len l j)]
      exact hs.more hn
  · rw [List.mem_append, List.mem_singleton] at hx
    rcases hx with hx | hx
    · exact h.ng x hx
    · omega
  · rcases hx with e | e
    · exact Or.inl ((h.ff x).2 (Or.inl e))
    · rw [List.mem_append, List.mem_singleton] at e
      rcases e with e | e
      · exact Or.inl ((h.ff x).2 (Or.inr e))
      · right; omega
/-- What the visit reads. -/
theorem MD.cells {l : List Opn} {g base k : Nat} {B : List Nat} {F : Nat → Prop} {w w1 : World} {b : Nat} (h : MD l g base k B F w w1 b) (hk : k < l.length) : w1.cell? ⟨g, k, none⟩ = some (.map (some b)) ∧ ∀ j, j < k → w1.cell? ⟨g, j, none⟩ = some (.map (some (B.getD j 0))) ∧ SA w1 (B.getD j 0) ((cK l k).getD j 0) ((sK l k).getD j p0f) ∧ b ≠ B.getD j 0 := by
  have hl : (mRow (B ++ [b]) l.length).length = l.length := mRow_len (by simp [h.len]; omega)
  have hl2 := h.len
  refine ⟨?_, fun j hj => ⟨?_, h.old j hj, ?_⟩⟩
  · rw [own_map h.row hl.symm (j := k) (by rw [hl]; exact hk), mRow_at (by simp [h.len]), getD_end h.len]
  · rw [own_map h.row hl.symm (j := j) (by rw [hl]; omega), mRow_at (by simp [h.len]; omega), getD_app (by rw [h.len]; exact hj)]
  · have := h.lo _ (memB (B := B) (j := j) (by omega))
    have := h.bn
    omega
end Go.Proofs.YtffabehipcomfaaDoor
namespace Go.Proofs.YtffabehipcomfaaDoor
open Go Go.RowKit

/-- No guard; what an operation awaits lies ahead of it; each but the last is awaited by a later one. -/
def lastB (ops : Array Oper) : Bool :=
  (List.range ops.size).all (fun i => ((ops[i]?).map (fun o => o.guard.isNone && o.after.all (fun e => !Region.binds .any e || decide (e.on < i)))).getD false) &&
  (List.range (ops.size - 1)).all (fun j => (List.range ops.size).any (fun i => decide (j < i) && ((ops[i]?).map (fun o => o.after.any (fun e => Region.binds .any e && decide (e.on = j)))).getD false))
def Closed (ops : Array Oper) (listed : Array Bool) : Prop := ∀ i o, ops[i]? = some o → listed.getD i true = true → ∀ e ∈ o.after, Region.binds .any e = true → listed.getD e.on false = true
theorem mem_ready {ops : Array Oper} {listed : Array Bool} {i : Nat} : i ∈ Region.ready .any ops listed ↔ ∃ o, ops[i]? = some o ∧ listed.getD i true = false ∧ ∀ e ∈ o.after, Region.binds .any e = true → listed.getD e.on false = true := by
  unfold Region.ready
  rw [List.mem_filter, List.mem_range]
  constructor
  · rintro ⟨h1, h2⟩
    rw [Bool.and_eq_true] at h2
    have ho : ops[i]? = some ops[i] := Array.getElem?_eq_getElem h1
    refine ⟨ops[i], ho, by simpa using h2.1, ?_⟩
    have h3 := h2.2
    rw [ho] at h3
    simp only [Option.map_some, Option.getD_some, Array.all_eq_true'] at h3
    intro e he hb
    have := h3 e he
    rw [hb] at this
    simpa using this
  · rintro ⟨o, h1, h2, h3⟩
    have hlt : i < ops.size := (Array.getElem?_eq_some_iff.1 h1).1
    refine ⟨hlt, ?_⟩
    rw [h1, h2]
    simp only [Option.map_some, Option.getD_some, Bool.not_false, Bool.true_and, Array.all_eq_true']
    intro e he
    by_cases hb : Region.binds .any e = true
    · rw [h3 e he hb]; simp
    · simp [hb]
theorem lastB_a {ops : Array Oper} (h : lastB ops = true) {i : Nat} {o : Oper} (ho : ops[i]? = some o) : o.guard = none ∧ ∀ e ∈ o.after, Region.binds .any e = true → e.on < i := by
  unfold lastB at h
  rw [Bool.and_eq_true, List.all_eq_true] at h
  have h1 := h.1 i (List.mem_range.2 (Array.getElem?_eq_some_iff.1 ho).1)
  rw [ho] at h1
  simp only [Option.map_some, Option.getD_some, Bool.and_eq_true, Array.all_eq_true', Option.isNone_iff_eq_none] at h1
  refine ⟨h1.1, fun e he hb => ?_⟩
  have := h1.2 e he
  rw [hb] at this
  simpa using this
theorem lastB_b {ops : Array Oper} (h : lastB ops = true) {j : Nat} (hj : j < ops.size - 1) : ∃ i o, j < i ∧ ops[i]? = some o ∧ ∃ e ∈ o.after, Region.binds .any e = true ∧ e.on = j := by
  unfold lastB at h
  rw [Bool.and_eq_true, List.all_eq_true, List.all_eq_true] at h
  have h1 := h.2 j (List.mem_range.2 hj)
  rw [List.any_eq_true] at h1
  obtain ⟨i, hi, h2⟩ := h1
  rw [Bool.and_eq_true, decide_eq_true_eq] at h2
  have ho : ops[i]? = some (ops[i]'(List.mem_range.1 hi)) := Array.getElem?_eq_getElem _
  rw [ho] at h2
  simp only [Option.map_some, Option.getD_some, Array.any_eq_true'] at h2
  obtain ⟨h3, e, he, h4⟩ := h2
  rw [Bool.and_eq_true, decide_eq_true_eq] at h4
  exact ⟨i, _, h3, ho, e, he, h4.1, h4.2⟩
theorem getD_swap {l : Array Bool} {i : Nat} (h : i < l.size) (a b : Bool) : l.getD i a = l.getD i b := by
  simp [Array.getD, h]
/-- Where the last may come up all the others have. -/
theorem all_listed {ops : Array Oper} (h : lastB ops = true) {listed : Array Bool} (hs : listed.size = ops.size) (hc : Closed ops listed) (hr : ops.size - 1 ∈ Region.ready .any ops listed) : ∀ d j, ops.size - 1 - j = d → j < ops.size - 1 → listed.getD j false = true := by
  intro d
  induction d using Nat.strongRecOn with
  | ind d ih =>
    intro j hd hj
    obtain ⟨i, o, hji, ho, e, he, hb, rfl⟩ := lastB_b h hj
    have hi : i < ops.size := (Array.getElem?_eq_some_iff.1 ho).1
    by_cases hl : i = ops.size - 1
    · obtain ⟨o2, ho2, _, h3⟩ := mem_ready.1 hr
      rw [← hl, ho] at ho2
      injection ho2 with ho2
      subst ho2
      exact h3 e he hb
    · have := ih (ops.size - 1 - i) (by omega) i rfl (by omega)
      exact hc i o ho (by rw [getD_swap (by omega) true false]; exact this) e he hb
/-- Something may come up while something is not listed. -/
theorem ready_some {ops : Array Oper} (h : lastB ops = true) {listed : Array Bool} (hs : listed.size = ops.size) : ∀ c, c < ops.size → listed.getD c true = false → ∃ i, i ∈ Region.ready .any ops listed := by
  intro c
  induction c using Nat.strongRecOn with
  | ind c ih =>
    intro hc hu
    have ho : ops[c]? = some ops[c] := Array.getElem?_eq_getElem hc
    by_cases hall : ∀ e ∈ (ops[c]).after, Region.binds .any e = true → listed.getD e.on false = true
    · exact ⟨c, mem_ready.2 ⟨_, ho, hu, hall⟩⟩
    · simp only [Classical.not_forall] at hall
      obtain ⟨e, he, hb, hn⟩ := hall
      have hlt := (lastB_a h ho).2 e he hb
      exact ih e.on hlt (by omega) (by rw [getD_swap (by omega) true false]; simpa using hn)
theorem getD_set_ne {l : Array Bool} {i j : Nat} {d : Bool} (h : j ≠ i) : (l.setIfInBounds i true).getD j d = l.getD j d := by
  simp only [Array.getD_eq_getD_getElem?]
  rw [Array.getElem?_setIfInBounds_ne (fun e => h e.symm)]
theorem getD_set_same {l : Array Bool} {i : Nat} {d : Bool} (h : i < l.size) : (l.setIfInBounds i true).getD i d = true := by
  simp [Array.getD_eq_getD_getElem?, h]
theorem getD_set_mono {l : Array Bool} {i j : Nat} {d : Bool} (h : l.getD j d = true) : (l.setIfInBounds i true).getD j d = true := by
  by_cases e : j = i
  · subst e
    by_cases hs : j < l.size
    · exact getD_set_same hs
    · rw [show l.setIfInBounds j true = l from Array.setIfInBounds_eq_of_size_le (by omega)]; exact h
  · rw [getD_set_ne e]; exact h
theorem ready_same {ops ops2 : Array Oper} (h : ∀ i : Nat, (ops2[i]?).map Oper.after = (ops[i]?).map Oper.after) {listed : Array Bool} {i : Nat} : i ∈ Region.ready .any ops2 listed ↔ i ∈ Region.ready .any ops listed := by
  rw [mem_ready, mem_ready]
  constructor
  · rintro ⟨o, h1, h2, h3⟩
    have := h i
    rw [h1] at this
    obtain ⟨o2, e1, e2⟩ := Option.map_eq_some_iff.1 this.symm
    exact ⟨o2, e1, h2, by rw [e2]; exact h3⟩
  · rintro ⟨o, h1, h2, h3⟩
    have := h i
    rw [h1] at this
    obtain ⟨o2, e1, e2⟩ := Option.map_eq_some_iff.1 this
    exact ⟨o2, e1, h2, by rw [e2]; exact h3⟩
theorem put_put (a : Act) (d : Option Tmp) (u v : Value) : (a.put d u).put d v = a.put d v := by
  cases d with
  | none => rfl
  | some t => simp [Act.put]
theorem wpAny_last {P : Program} {ops ops2 : Array Oper} {oc om : Oper} {C : World → Prop} {Q : Exit → Act → World → Prop} {Q2 : Act → Prop} (hl : lastB ops = true) (hpos : 0 < ops.size) (hsame : ∀ i, i ≠ ops.size - 1 → ops2[i]? = ops[i]?)
    (hc : ops[ops.size - 1]? = some oc) (hc2 : ops2[ops.size - 1]? = some om) (haf : om.after = oc.after) (hds : om.dst = oc.dst) (hgd : om.guard = none) (hop : om.op = .move (.const undef))
    (hQ2 : ∀ a w, C w → Q2 (a.put oc.dst undef) → oc.wp P a w (fun a w => Q .normal a w) Q) :
    ∀ (fuel : Nat) (listed : Array Bool) (a : Act) (w : World), C w → listed.size = ops.size → Closed ops listed → listed.getD (ops.size - 1) true = false → wpAnyQ P .any ops2 C Q2 fuel listed a → wpAny P .any ops Q fuel listed a w := by
  have hrd : ∀ {listed : Array Bool} {i : Nat}, i ∈ Region.ready .any ops2 listed ↔ i ∈ Region.ready .any ops listed := ready_same (fun i => by
    by_cases e : i = ops.size - 1
    · rw [e, hc, hc2]; simp [haf]
    · rw [hsame i e])
  have hnil : ∀ {listed : Array Bool}, (∀ i, i ∉ Region.ready .any ops listed) → Region.ready .any ops2 listed = [] := fun h => List.eq_nil_iff_forall_not_mem.2 (fun i hi => h i (hrd.1 hi))
  intro fuel
  induction fuel with
  | zero =>
    intro listed a w hw hs hcl hu h
    obtain ⟨i, hi⟩ := ready_some hl hs (ops.size - 1) (by omega) hu
    have h0 : Region.ready .any ops2 listed = [] := h.1
    rw [← hrd, h0] at hi
    cases hi
  | succ fuel ih =>
    intro listed a w hw hs hcl hu h
    refine ⟨fun h0 => ?_, fun i hi => ?_⟩
    · obtain ⟨i, hi⟩ := ready_some hl hs (ops.size - 1) (by omega) hu
      rw [h0] at hi; cases hi
    · have hq : qOp P ops2 C i (wpAnyQ P .any ops2 C Q2 fuel (listed.setIfInBounds i true)) a := h.2 i (hrd.2 hi)
      obtain ⟨o, ho, hui, hdeps⟩ := mem_ready.1 hi
      have hilt : i < ops.size := (Array.getElem?_eq_some_iff.1 ho).1
      by_cases e : i = ops.size - 1
      · subst e
        rw [hc] at ho
        injection ho with ho
        subst ho
        have hall := all_listed hl hs hcl hi
        have hno : ∀ j, j ∉ Region.ready .any ops (listed.setIfInBounds (ops.size - 1) true) := fun j hj => by
          obtain ⟨oj, hoj, huj, _⟩ := mem_ready.1 hj
          have hjlt : j < ops.size := (Array.getElem?_eq_some_iff.1 hoj).1
          by_cases e : j = ops.size - 1
          · subst e; rw [getD_set_same (by omega)] at huj; cases huj
          · rw [getD_set_ne e, getD_swap (by omega) true false, hall _ j rfl (by omega)] at huj; cases huj
        unfold qOp at hq
        simp only [hc2] at hq
        have hwt : Region.wanted om (yielded ops2 a.tmps) = true := by simp [Region.wanted, hgd]
        rw [if_pos hwt] at hq
        obtain ⟨v, hv, hk⟩ := hq
        have hvu : v = undef := by
          have := hv w hw
          unfold Oper.quietAt at this
          rw [BigFrame.run_move _ hop] at this
          exact this.2.symm
        subst hvu
        rw [hds] at hk
        have hq2 : Q2 (a.put oc.dst undef) := by
          cases fuel with
          | zero => exact hk.2
          | succ f => exact hk.1 (hnil hno)
        have hwp := hQ2 a w hw hq2
        unfold wpOp
        simp only [hc]
        have hwt2 : Region.wanted oc (yielded ops a.tmps) = true := by simp [Region.wanted, (lastB_a hl hc).1]
        rw [if_pos hwt2]
        refine Or.inl (Oper.wp_mono (fun a' w' hq' => ?_) hwp)
        have hr0 : Region.ready .any ops (listed.setIfInBounds (ops.size - 1) true) = [] := List.eq_nil_iff_forall_not_mem.2 hno
        cases fuel with
        | zero => exact ⟨hr0, hq'⟩
        | succ f => exact ⟨fun _ => hq', fun j hj => absurd hj (hno j)⟩
      · have hsm := hsame i e
        unfold qOp at hq
        rw [hsm] at hq
        simp only [ho] at hq
        have hgn := (lastB_a hl ho).1
        have hwt : Region.wanted o (yielded ops2 a.tmps) = true := by simp [Region.wanted, hgn]
        rw [if_pos hwt] at hq
        unfold wpOp
        simp only [ho]
        have hwt2 : Region.wanted o (yielded ops a.tmps) = true := by simp [Region.wanted, hgn]
        rw [if_pos hwt2]
        refine Or.inl (Oper.wp_of_quiet hw (fun a' w' hw' hk => ih _ a' w' hw' (by simpa using hs) ?_ (by rw [getD_set_ne (fun h => e h.symm)]; exact hu) hk) hq)
        intro i' o' ho' hl' e' he' hb'
        by_cases e2 : i' = i
        · subst e2
          rw [ho] at ho'
          injection ho' with ho'
          subst ho'
          exact getD_set_mono (hdeps e' he' hb')
        · rw [getD_set_ne e2] at hl'
          exact getD_set_mono (hcl i' o' ho' hl' e' he' hb')
/-- The last operation, with the call taken out. -/
def mute (o : Oper) : Oper := { o with op := .move (.const undef) }
theorem wp_region_last {P : Program} {id : Nat} {Q : Exit → Act → World → Prop} {a : Act} {w : World} (l : List Oper) (oc : Oper) (hm : P.follows .mixedOrders = true) (hB : Region.lexB .any (l ++ [mute oc]).toArray = true) (hL : lastB (l ++ [oc]).toArray = true)
    (hself : ∀ (a : Act) u, execOp (a.put oc.dst u).eval oc = execOp a.eval oc)
    (h : wpQuiet P (l ++ [mute oc]).toArray (fun w' => ∃ n, w' = w.drewN n) (fun a' => ∀ n, ∃ f args, (execOp a'.eval oc).run P (w.drewN n) = .ok (.enter f args) (w.drewN n) ∧ Calls P f args (w.drewN n) fun e w'' => ∃ v, e = .returned v ∧ Q .normal (a'.put oc.dst v) w'') (l ++ [mute oc]) a) :
    (Code.region id (l ++ [oc]).toArray true).wp P Q a w := by
  simp only [Region.lexB, Bool.and_eq_true] at hB
  have hn : (l ++ [oc]).toArray.size - 1 = l.length := by simp
  have hgo : oc.guard = none := (lastB_a hL (i := l.length) (o := oc) (by simp)).1
  refine wp_region_any hm (wpAny_last (ops2 := (l ++ [mute oc]).toArray) (oc := oc) (om := mute oc) (C := fun w' => ∃ n, w' = w.drewN n) (Q2 := fun a' => ∀ n, ∃ f args, (execOp a'.eval oc).run P (w.drewN n) = .ok (.enter f args) (w.drewN n) ∧ Calls P f args (w.drewN n) fun e w'' => ∃ v, e = .returned v ∧ Q .normal (a'.put oc.dst v) w'') hL (by simp) (fun i hi => ?_) (by rw [hn]; simp) (by rw [hn]; simp) rfl rfl hgo rfl ?_ _ _ _ _ ⟨1, rfl⟩ (by simp) (fun i o ho hl => ?_) (by rw [hn]; simp) ?_)
  · rw [hn] at hi
    simp only [List.getElem?_toArray]
    by_cases e : i < l.length
    · rw [List.getElem?_append_left e, List.getElem?_append_left e]
    · rw [List.getElem?_eq_none (by simp; omega), List.getElem?_eq_none (by simp; omega)]
  · rintro a w' ⟨n, rfl⟩ hq
    obtain ⟨f, args, h1, h2⟩ := hq n
    rw [hself] at h1
    unfold Oper.wp
    rw [h1]
    exact Calls.mono h2 (fun e w'' ⟨v, he, hv⟩ => by subst he; rw [put_put] at hv; exact hv)
  · have hi : i < (l ++ [oc]).toArray.size := (Array.getElem?_eq_some_iff.1 ho).1
    simp [Array.getD] at hl
    have : i < l.length + 1 := by simpa using hi
    omega
  · have := wpAnyQ_lex (P := P) (C := fun w' => ∃ n, w' = w.drewN n) (md := .any) hB.1 (l ++ [mute oc]) 0 (Array.replicate (l ++ [mute oc]).toArray.size false) a (by simp) (by simpa using hB.2) h
    simpa using this
def muteL : List Oper → List Oper
  | [] => []
  | [o] => [mute o]
  | o :: p :: r => o :: muteL (p :: r)
def lastO (d : Oper) : List Oper → Oper
  | [] => d
  | [o] => o
  | _ :: p :: r => lastO d (p :: r)
theorem muteL_eq (d : Oper) : ∀ (l : List Oper), l ≠ [] → ∃ r, l = r ++ [lastO d l] ∧ muteL l = r ++ [mute (lastO d l)]
  | [], h => absurd rfl h
  | [o], _ => ⟨[], rfl, rfl⟩
  | o :: p :: q, _ => by
    obtain ⟨r, h1, h2⟩ := muteL_eq d (p :: q) (by simp)
    refine ⟨o :: r, ?_, ?_⟩
    · show o :: p :: q = o :: (r ++ [lastO d (p :: q)])
      rw [← h1]
    · show o :: muteL (p :: q) = o :: (r ++ [mute (lastO d (p :: q))])
      rw [h2]
/-- A region whose last operation awaits all the others and is a call: the others are walked once, then the call is made. -/
theorem wp_region_lastL {P : Program} {id : Nat} {Q : Exit → Act → World → Prop} {a : Act} {w : World} (d : Oper) (ops : List Oper) (hne : ops ≠ []) (hm : P.follows .mixedOrders = true) (hB : Region.lexB .any (muteL ops).toArray = true) (hL : lastB ops.toArray = true)
    (hsel : ∀ cs b, (lastO d ops).op ≠ .select cs b) (hlk : ∀ t, (lastO d ops).dst = some t → t ∉ (lastO d ops).looksAt ops.toArray)
    (h : wpQuiet P (muteL ops).toArray (fun w' => ∃ n, w' = w.drewN n) (fun a' => ∀ n, ∃ f args, (execOp a'.eval (lastO d ops)).run P (w.drewN n) = .ok (.enter f args) (w.drewN n) ∧ Calls P f args (w.drewN n) fun e w'' => ∃ v, e = .returned v ∧ Q .normal (a'.put (lastO d ops).dst v) w'') (muteL ops) a) :
    (Code.region id ops.toArray true).wp P Q a w := by
  have hself : ∀ (a : Act) u, execOp (a.put (lastO d ops).dst u).eval (lastO d ops) = execOp a.eval (lastO d ops) := fun a u => execOp_put (ops := ops.toArray) (lastO d ops) hsel a _ u hlk
  obtain ⟨r, h1, h2⟩ := muteL_eq d ops hne
  obtain ⟨oc, hoc⟩ : ∃ oc, oc = lastO d ops := ⟨_, rfl⟩
  rw [← hoc] at h1 h2 hself h
  rw [h2] at h hB
  rw [h1] at hL ⊢
  exact wp_region_last r oc hm hB hL hself h
end Go.Proofs.YtffabehipcomfaaDoor
namespace Go.Proofs.YtffabehipcomfaaDoor
open Go.RowKit Go.Maps

theorem SU.mid {l : List Opn} {g base k : Nat} {F : Nat → Prop} {w : World} (h : SU l g base k F w) (hk : k < l.length) : ∃ B, MD l g base k B F w ((w.setCell ⟨g, k, none⟩ (.map (some w.heap.size))).alloc (.map #[] 0)) w.heap.size ∧ SA ((w.setCell ⟨g, k, none⟩ (.map (some w.heap.size))).alloc (.map #[] 0)) w.heap.size 0 p0f ∧ w.cell? ⟨g, k, none⟩ = some (.map none) ∧ w.frozen? ⟨g, k, none⟩ = false := by
  obtain ⟨B, h0, h1, h2, h3, h4⟩ := h
  have hl : (mRow B l.length).length = l.length := mRow_len (by omega)
  have hgl : g < w.heap.size := (h1.lt rfl).2
  have hlo : ∀ x ∈ B, x < w.heap.size := fun x hx => by
    obtain ⟨j, hj, rfl⟩ := List.getElem_of_mem hx
    have := (h2 j (by omega)).lt
    simpa [List.getD, List.getElem?_eq_getElem hj] using this
  obtain ⟨ws, hws⟩ : ∃ ws, ws = w.setCell ⟨g, k, none⟩ (.map (some w.heap.size)) := ⟨_, rfl⟩
  have hsz : ws.heap.size = w.heap.size := by rw [hws]; exact set_size _ _ _ _
  have AL : Below ws.heap.size ws (ws.alloc (.map #[] 0)) := (Below.refl _ _).alloc (Nat.le_refl _) _
  have b1 : But (fun x => x = g) w ws := by rw [hws]; exact ⟨rfl, rfl, rfl, by rw [set_size]; exact Nat.le_refl _, fun x hx hn => set_far hn⟩
  have hrow : OwnG KM ws base (.slice (some ⟨g, 0, none⟩) l.length l.length) (mRow (B ++ [w.heap.size]) l.length) := by
    have := h1.set1 rfl KM_ok.len (k := k) (some w.heap.size) (.map (some w.heap.size)) rfl
    rw [← h0, mRow_set (by omega), h0, ← hws] at this
    exact this
  refine ⟨B, ?_, ?_, ?_, ?_⟩
  · rw [← hws]
    exact ⟨h0, hrow.below AL, fun j hj => ((h2 j hj).far (b1.block _ (h2 j hj).lt (h3 _ (memB (by omega))))).below AL, h3, Nat.le_refl _, hlo, hgl, h4, b1.trans (But.of_below (F := fun _ => False) AL) (fun _ h => h.elim)⟩
  · rw [← hws, ← hsz]; exact SA.made ws
  · rw [own_map h1 hl.symm (j := k) (by rw [hl]; exact hk)]
    unfold mRow
    rw [List.getD_eq_getElem?_getD, List.getElem?_append_right (by simp [h0]), List.getElem?_replicate]
    split <;> rfl
  · have := h1; unfold OwnG at this; rw [hl] at this
    exact World.ownsRow.frozenAt this k
theorem sum_two {a b c : Int} {C : List Nat} {L : List Int} (h : L = [a, b, c]) : C.getD a.toNat 0 + C.getD b.toNat 0 ≤ (L.map fun x => C.getD x.toNat 0).sum := by subst h; simp
theorem sum_mem {C : List Nat} {L : List Int} {j : Nat} (h : j < L.length) : C.getD (L.getD j 0).toNat 0 ≤ (L.map fun x => C.getD x.toNat 0).sum := by
  induction L generalizing j with
  | nil => simp at h
  | cons a r ih =>
    cases j with
    | zero => simp
    | succ j =>
      have := ih (j := j) (by simpa using h)
      simp only [List.getD_cons_succ, List.map_cons, List.sum_cons]; omega
end Go.Proofs.YtffabehipcomfaaDoor
namespace Go.Proofs.YtffabehipcomfaaDoor
open Go.RowKit Go.Maps

/-- What the whole row surely asks for. -/
def sureP (l : List Opn) : ByteArray → Bool := (sK l l.length).getD (l.length - 1) p0f
theorem cK_bd (l : List Opn) : ∀ k, k ≤ l.length → ∀ j, j < k → (cK l k).getD j 0 ≤ j + 1
  | 0, _, j, hj => by omega
  | k + 1, hk, j, hj => by
    rw [cK]
    by_cases e : j < k
    · rw [getD_app (by rw [cK_len]; exact e)]
      exact cK_bd l k (by omega) j e
    · have : j = k := by omega
      subst this
      rw [getD_end (cK_len l j)]
      exact cuS_bd l (by omega)
end Go.Proofs.YtffabehipcomfaaDoor
namespace Go.Proofs.YtffabehipcomfaaDoor
open Go.RowKit Go.Maps

def sureL (l : List Opn) : List ByteArray := if chkO l = 0 then (textsL l 3).filter (sureP l) else []
theorem keepK_in {α : Type} (l : List α) (d : α) (pr : Nat → Bool) : ∀ k, k ≤ l.length → ∀ x ∈ keepK l d pr k, x ∈ l
  | 0, _, x, hx => by simp [keepK] at hx
  | k + 1, hk, x, hx => by
    rw [keepK] at hx
    split at hx
    · exact keepK_in l d pr k (by omega) x hx
    · rw [List.mem_append, List.mem_singleton] at hx
      rcases hx with hx | hx
      · exact keepK_in l d pr k (by omega) x hx
      · rw [hx, List.getD_eq_getElem?_getD, List.getElem?_eq_getElem (by omega)]; exact List.getElem_mem _
theorem textsL_in {l : List Opn} {kd : Int} {x : ByteArray} (h : x ∈ textsL l kd) : ∃ o ∈ l, o.kind = kd ∧ o.text = x := txL_mem (keepK_in _ _ _ _ (Nat.le_refl _) _ h)
theorem textsL_len (l : List Opn) (kd : Int) : (textsL l kd).length ≤ l.length := Nat.le_trans (keepK_len _ _ _ _) (txL_len l kd)
end Go.Proofs.YtffabehipcomfaaDoor
