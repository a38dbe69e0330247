/- Names: what is surely asked, plain; the state of sureOf's visits. -/
import Derived.Test.YthmppnmmlblbhaaDoorPs4
namespace Go.Proofs.YthmppnmmlblbhaaDoor
open Go.RowKit Go.Maps

def p0f : ByteArray → Bool := fun _ => false
def qP (l : List Opn) (k j : Nat) : Nat := ((ptO l k).getD j 0).toNat
/-- What the whole at k surely asks for, by what those ahead of it do. -/
def suS (l : List Opn) (k : Nat) (S : List (ByteArray → Bool)) : ByteArray → Bool :=
  if (opA l k).kind = 3 then fun s => decide (s = (opA l k).text)
  else if (opA l k).kind = 14 then fun s => S.getD (qP l k 0) p0f s || (S.getD (qP l k 1) p0f s && S.getD (qP l k 2) p0f s)
  else if (opA l k).kind = 15 then S.getD (qP l k 0) p0f
  else fun s => (ptO l k).any fun x => S.getD x.toNat p0f s
def sK (l : List Opn) : Nat → List (ByteArray → Bool)
  | 0 => []
  | k + 1 => sK l k ++ [suS l k (sK l k)]
/-- How many at most. -/
def cuS (l : List Opn) (k : Nat) (C : List Nat) : Nat := ((ptO l k).map fun x => C.getD x.toNat 0).sum + 1
def cK (l : List Opn) : Nat → List Nat
  | 0 => []
  | k + 1 => cK l k ++ [cuS l k (cK l k)]
theorem sK_len (l : List Opn) : ∀ k, (sK l k).length = k
  | 0 => rfl
  | k + 1 => by rw [sK, List.length_append, sK_len l k]; rfl
theorem cK_len (l : List Opn) : ∀ k, (cK l k).length = k
  | 0 => rfl
  | k + 1 => by rw [cK, List.length_append, cK_len l k]; rfl
theorem getD_app {α : Type} {L : List α} {x d : α} {j : Nat} (h : j < L.length) : (L ++ [x]).getD j d = L.getD j d := by
  simp [List.getD, List.getElem?_append_left h]
theorem getD_end {α : Type} {L : List α} {x d : α} {j : Nat} (h : L.length = j) : (L ++ [x]).getD j d = x := by
  subst h; simp [List.getD]
theorem st_bd (l : List Opn) : ∀ k, ∀ x ∈ stK l k, 0 ≤ x ∧ x < k
  | 0, x, hx => by simp [stK] at hx
  | k + 1, x, hx => by
    rw [stK, List.mem_append, List.mem_singleton] at hx
    rcases hx with hx | hx
    · have := st_bd l k x (List.mem_of_mem_take hx); omega
    · omega
theorem st_sum (l : List Opn) : ∀ k, k ≤ l.length → ((stK l k).map fun x => (cK l k).getD x.toNat 0).sum ≤ k
  | 0, _ => by simp [stK]
  | k + 1, hk => by
    have ih := st_sum l k (by omega)
    have hp := ptO_stK (l := l) (show k < l.length by omega)
    obtain ⟨J, hJ⟩ : ∃ J, J = (stK l k).length - (opA l k).n.toNat := ⟨_, rfl⟩
    rw [← hJ] at hp
    have e1 : ((stK l k).map fun x => (cK l k).getD x.toNat 0).sum = (((stK l k).take J).map fun x => (cK l k).getD x.toNat 0).sum + ((ptO l k).map fun x => (cK l k).getD x.toNat 0).sum := by
      rw [hp, ← List.sum_append, ← List.map_append, List.take_append_drop]
    have e2 : ((stK l (k + 1)).map fun x => (cK l (k + 1)).getD x.toNat 0).sum = (((stK l k).take J).map fun x => (cK l k).getD x.toNat 0).sum + cuS l k (cK l k) := by
      rw [stK, ← hJ, List.map_append, List.sum_append, List.map_singleton, cK]
      have e3 : ((stK l k).take J).map (fun x => (cK l k ++ [cuS l k (cK l k)]).getD x.toNat 0) = ((stK l k).take J).map (fun x => (cK l k).getD x.toNat 0) := List.map_congr_left (fun x hx => by
        have := st_bd l k x (List.mem_of_mem_take hx)
        exact getD_app (by rw [cK_len]; omega))
      rw [e3, Int.toNat_natCast, getD_end (cK_len l k)]; simp
    rw [e2]
    unfold cuS
    omega
theorem cuS_bd (l : List Opn) {k : Nat} (h : k < l.length) : cuS l k (cK l k) ≤ k + 1 := by
  have h1 := st_sum l (k + 1) (by omega)
  rw [stK, List.map_append, List.sum_append, List.map_singleton, cK, Int.toNat_natCast, getD_end (cK_len l k)] at h1
  simp at h1; omega
def KM : RK (Option Nat) := ⟨66, 1, 8, .map none, fun o => [.map o]⟩
theorem KM_ok : KM.Ok Tryd.prog :=
  ⟨fun _ => rfl, fun x u hu => by simp [KM] at hu; subst hu; rfl, rfl, by decide, by decide, info_parts' (by kernel_rfl)⟩
theorem own_map {w : World} {base g n cap : Nat} {S : List (Option Nat)} (h : OwnG KM w base (.slice (some ⟨g, 0, none⟩) n cap) S) (hn : n = S.length) {j : Nat} (hj : j < S.length) : w.cell? ⟨g, j, none⟩ = some (.map (S.getD j none)) := by
  subst hn
  obtain ⟨X, o, e, _, hc⟩ := (h.gs KM_ok.len).at hj
  injection e with e
  injection e with e1 e2 _
  subst e1 e2
  have := hc 0 _ rfl
  rw [show KM.W = 1 from rfl, Nat.mul_one, Nat.zero_add, Nat.add_zero] at this
  rw [this]; simp [List.getD, List.getElem?_eq_getElem hj]
/-- The row of the sets that are there. -/
def mRow (B : List Nat) (n : Nat) : List (Option Nat) := B.map some ++ List.replicate (n - B.length) none
theorem mRow_len {B : List Nat} {n : Nat} (h : B.length ≤ n) : (mRow B n).length = n := by unfold mRow; simp; omega
theorem mRow_at {B : List Nat} {n j : Nat} (h : j < B.length) : (mRow B n).getD j none = some (B.getD j 0) := by
  unfold mRow
  rw [List.getD_eq_getElem?_getD, List.getElem?_append_left (by simpa using h)]
  simp [List.getD, List.getElem?_eq_getElem h]
theorem mRow_set {B : List Nat} {n : Nat} (h : B.length < n) (b : Nat) : (mRow B n).set B.length (some b) = mRow (B ++ [b]) n := by
  unfold mRow
  rw [List.set_append_right _ _ (by simp), show n - B.length = (n - (B.length + 1)) + 1 by omega, List.replicate_succ]
  simp
/-- The state of sureOf's visits. -/
def SU (l : List Opn) (g base k : Nat) (F : Nat → Prop) (w : World) : Prop := ∃ B : List Nat, B.length = k ∧ OwnG KM w base (.slice (some ⟨g, 0, none⟩) l.length l.length) (mRow B l.length) ∧ (∀ j, j < k → SA w (B.getD j 0) ((cK l k).getD j 0) ((sK l k).getD j p0f)) ∧ (∀ x ∈ B, x ≠ g) ∧ ∀ x, F x ↔ x = g ∨ x ∈ B
theorem memB {B : List Nat} {j : Nat} (h : j < B.length) : B.getD j 0 ∈ B := by
  rw [List.getD_eq_getElem?_getD, List.getElem?_eq_getElem h]; exact List.getElem_mem h
theorem SU_vis (l : List Opn) (g base : Nat) : Vis (SU l g base) where
  lt := fun k F w h x hx => by
    obtain ⟨B, h0, h1, h2, _, h4⟩ := h
    rcases (h4 x).1 hx with e | e
    · subst e; exact (h1.lt rfl).2
    · obtain ⟨j, hj, rfl⟩ := List.getElem_of_mem e
      have := (h2 j (by omega)).lt
      simpa [List.getD, List.getElem?_eq_getElem hj] using this
  keep := fun k F w w' h hs _ _ _ hk => by
    obtain ⟨B, h0, h1, h2, h3, h4⟩ := h
    exact ⟨B, h0, h1.far (fun x hx => hk x ((h4 x).2 (Or.inl (by simpa [Value.ownBlock] using hx.symm)))), fun j hj => (h2 j hj).far (hk _ ((h4 _).2 (Or.inr (memB (by omega))))), h3, h4⟩
/-- The k-th set is being filled. -/
structure MD (l : List Opn) (g base k : Nat) (B : List Nat) (F : Nat → Prop) (w w1 : World) (b : Nat) : Prop where
  len : B.length = k
  row : OwnG KM w1 base (.slice (some ⟨g, 0, none⟩) l.length l.length) (mRow (B ++ [b]) l.length)
  old : ∀ j, j < k → SA w1 (B.getD j 0) ((cK l k).getD j 0) ((sK l k).getD j p0f)
  ng : ∀ x ∈ B, x ≠ g
  bn : w.heap.size ≤ b
  lo : ∀ x ∈ B, x < w.heap.size
  gl : g < w.heap.size
  ff : ∀ x, F x ↔ x = g ∨ x ∈ B
  bt : But (fun x => x = g) w w1
theorem MD.step {l : List Opn} {g base k : Nat} {B : List Nat} {F : Nat → Prop} {w w1 w2 : World} {b : Nat} (h : MD l g base k B F w w1 b) (hb : But (fun x => x = b) w1 w2) : MD l g base k B F w w2 b := by
  have hgl := h.gl
  have hbn := h.bn
  exact ⟨h.len, h.row.far (fun x hx => by
      have e : x = g := by simpa [Value.ownBlock] using hx.symm
      exact hb.block x (h.row.lt hx).2 (by omega)), fun j hj => (h.old j hj).far (hb.block _ (h.old j hj).lt (by have := h.lo _ (memB (B := B) (j := j) (by rw [h.len]; exact hj)); omega)), h.ng, h.bn, h.lo, h.gl, h.ff, h.bt.trans hb (fun x hx => Or.inr (by omega))⟩
theorem MD.fin {l : List Opn} {g base k : Nat} {B : List Nat} {F : Nat → Prop} {w w1 : World} {b n : Nat} (h : MD l g base k B F w w1 b) (hs : SA w1 b n (suS l k (sK l k))) (hn : n ≤ cuS l k (cK l k)) : ∃ F', SU l g base (k + 1) F' w1 ∧ (∀ x, F' x → F x ∨ w.heap.size ≤ x) ∧ But F w w1 := by
  have hgl := h.gl
  have hbn := h.bn
  refine ⟨fun x => x = g ∨ x ∈ B ++ [b], ⟨B ++ [b], by simp [h.len], h.row, fun j hj => ?_, fun x hx => ?_, fun x => Iff.rfl⟩, fun x hx => ?_, ⟨h.bt.os, h.bt.tape, h.bt.output, h.bt.size, fun x hx hn => h.bt.block x hx (fun e => hn ((h.ff x).2 (Or.inl e)))⟩⟩
  · rw [cK, sK]
    by_cases e : j < k
    · rw [getD_app (by rw [h.len]; exact e), getD_app (by rw [cK_len]; exact e), getD_app (by rw [sK_len]; exact e)]
      exact h.old j e
    · have : j = k := by omega
      subst this
      rw [getD_end h.len, getD_end (cK_len l j), getD_end (sK_len l j)]
      exact hs.more hn
  · rw [List.mem_append, List.mem_singleton] at hx
    rcases hx with hx | hx
    · exact h.ng x hx
    · omega
  · rcases hx with e | e
    · exact Or.inl ((h.ff x).2 (Or.inl e))
    · rw [List.mem_append, List.mem_singleton] at e
      rcases e with e | e
      · exact Or.inl ((h.ff x).2 (Or.inr e))
      · right; omega
/-- What the visit reads. -/
theorem MD.cells {l : List Opn} {g base k : Nat} {B : List Nat} {F : Nat → Prop} {w w1 : World} {b : Nat} (h : MD l g base k B F w w1 b) (hk : k < l.length) : w1.cell? ⟨g, k, none⟩ = some (.map (some b)) ∧ ∀ j, j < k → w1.cell? ⟨g, j, none⟩ = some (.map (some (B.getD j 0))) ∧ SA w1 (B.getD j 0) ((cK l k).getD j 0) ((sK l k).getD j p0f) ∧ b ≠ B.getD j 0 := by
  have hl : (mRow (B ++ [b]) l.length).length = l.length := mRow_len (by simp [h.len]; omega)
  have hl2 := h.len
  refine ⟨?_, fun j hj => ⟨?_, h.old j hj, ?_⟩⟩
  · rw [own_map h.row hl.symm (j := k) (by rw [hl]; exact hk), mRow_at (by simp [h.len]), getD_end h.len]
  · rw [own_map h.row hl.symm (j := j) (by rw [hl]; omega), mRow_at (by simp [h.len]; omega), getD_app (by rw [h.len]; exact hj)]
  · have := h.lo _ (memB (B := B) (j := j) (by omega))
    have := h.bn
    omega
end Go.Proofs.YthmppnmmlblbhaaDoor
