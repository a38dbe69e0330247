/- Depend: the document's web in memory; its Stack, Waiting, Runner. -/
import Derived.Test.YtkhcinpcoabphaaDd3
namespace Go.Proofs.Ytkhcinpcoabphaa
open Go.RowKit

structure Ru where
  task : Nat
  p : Option Addr
  n : Nat
  c : Nat
def ruL (x : Ru) : List Value := [.int .i64 x.task, .slice x.p x.n x.c]
def KR : RK Ru := ⟨37, 2, 32, .agg #[.int .i64 0, .slice none 0 0], ruL⟩
theorem KR_ok : KR.Ok Try.prog :=
  ⟨fun _ => rfl, fun x u hu => by simp [KR, ruL] at hu; rcases hu with rfl | rfl <;> rfl, rfl, by decide, by decide, info_parts' (by kernel_rfl)⟩
structure Wa where
  t : Nat
  c : Nat
def waL (x : Wa) : List Value := [.int .i64 x.t, .int .i64 x.c]
def KA : RK Wa := ⟨39, 2, 16, .agg #[.int .i64 0, .int .i64 0], waL⟩
theorem KA_ok : KA.Ok Try.prog :=
  ⟨fun _ => rfl, fun x u hu => by simp [KA, waL] at hu; rcases hu with rfl | rfl <;> rfl, rfl, by decide, by decide, info_parts' (by kernel_rfl)⟩
theorem GS.atR {w : World} {p : Option Addr} {n cap k : Nat} {l : List Ru} (h : GS KR w (.slice p n cap) l) (hk : k < l.length) : ∃ X o, p = some ⟨X, o, none⟩ ∧ w.cell? ⟨X, o + k * 2, none⟩ = some (.int .i64 l[k].task) ∧ w.cell? ⟨X, o + k * 2 + 1, none⟩ = some (.slice l[k].p l[k].n l[k].c) := by
  obtain ⟨X, o, h1, _, h2⟩ := GS.at h hk
  exact ⟨X, o, h1, h2 0 _ rfl, h2 1 _ rfl⟩
theorem GS.atA {w : World} {p : Option Addr} {n cap k : Nat} {l : List Wa} (h : GS KA w (.slice p n cap) l) (hk : k < l.length) : ∃ X o, p = some ⟨X, o, none⟩ ∧ w.cell? ⟨X, o + k * 2, none⟩ = some (.int .i64 l[k].t) ∧ w.cell? ⟨X, o + k * 2 + 1, none⟩ = some (.int .i64 l[k].c) := by
  obtain ⟨X, o, h1, _, h2⟩ := GS.at h hk
  exact ⟨X, o, h1, h2 0 _ rfl, h2 1 _ rfl⟩
/-- The slice reads as these, and lies in a block that is let. -/
structure GP {α : Type} (K : RK α) (w : World) (P : Nat → Prop) (v : Value) (l : List α) : Prop where
  gs : GS K w v l
  pr : 0 < l.length → ∀ x, v.ownBlock = some x → P x
theorem GP.far {α : Type} {K : RK α} {w w' : World} {P : Nat → Prop} {v : Value} {l : List α} (h : GP K w P v l) (hs : w.heap.size ≤ w'.heap.size) (k : ∀ x, x < w.heap.size → P x → w'.heap[x]? = w.heap[x]?) : GP K w' P v l := by
  refine ⟨?_, h.pr⟩
  by_cases hl : 0 < l.length
  · exact h.gs.blk hs fun x hx hlt => k x hlt (h.pr hl x hx)
  · have hz : l = [] := List.length_eq_zero_iff.1 (by omega)
    subst hz
    rcases h.gs with ⟨h1, _⟩ | ⟨X, o, cap, h1, _⟩
    · exact Or.inl ⟨h1, rfl⟩
    · exact Or.inl ⟨Or.inr ⟨_, _, h1⟩, rfl⟩
theorem GP.below {α : Type} {K : RK α} {w w' : World} {P : Nat → Prop} {v : Value} {l : List α} (h : GP K w P v l) (k : Below w.heap.size w w') : GP K w' P v l := h.far k.size fun x hx _ => k.block x hx
theorem GP.imp {α : Type} {K : RK α} {w : World} {P Q : Nat → Prop} {v : Value} {l : List α} (h : GP K w P v l) (k : ∀ x, x < w.heap.size → P x → Q x) : GP K w Q v l := ⟨h.gs, fun hl x hx => k x (h.gs.lt hl hx) (h.pr hl x hx)⟩
theorem GP.of_own {α : Type} {K : RK α} (hf : ∀ x, (K.f x).length = K.W) {w : World} {base : Nat} {v : Value} {l : List α} (h : OwnG K w base v l) {P : Nat → Prop} (hP : ∀ x, base ≤ x → P x) : GP K w P v l := ⟨h.gs hf, fun _ x hx => hP x (h.lt hx).1⟩
/-- The document's stacks. -/
structure RR (w : World) (P : Nat → Prop) (v : Value) (l : List Ru) (S : Nat → List Nat) : Prop where
  gs : GP KR w P v l
  nd : (l.map Ru.task).Nodup
  st : ∀ r ∈ l, S r.task ≠ [] ∧ GP KI w P (.slice r.p r.n r.c) (nI (S r.task))
  al : ∀ t, S t ≠ [] → ∃ r ∈ l, r.task = t
theorem RR.far {w w' : World} {P : Nat → Prop} {v : Value} {l : List Ru} {S : Nat → List Nat} (h : RR w P v l S) (hs : w.heap.size ≤ w'.heap.size) (k : ∀ x, x < w.heap.size → P x → w'.heap[x]? = w.heap[x]?) : RR w' P v l S :=
  ⟨h.gs.far hs k, h.nd, fun r hr => ⟨(h.st r hr).1, (h.st r hr).2.far hs k⟩, h.al⟩
theorem RR.below {w w' : World} {P : Nat → Prop} {v : Value} {l : List Ru} {S : Nat → List Nat} (h : RR w P v l S) (k : Below w.heap.size w w') : RR w' P v l S := h.far k.size fun x hx _ => k.block x hx
theorem RR.imp {w : World} {P Q : Nat → Prop} {v : Value} {l : List Ru} {S : Nat → List Nat} (h : RR w P v l S) (k : ∀ x, x < w.heap.size → P x → Q x) : RR w Q v l S :=
  ⟨h.gs.imp k, h.nd, fun r hr => ⟨(h.st r hr).1, (h.st r hr).2.imp k⟩, h.al⟩
theorem RR.len {w : World} {P : Nat → Prop} {v : Value} {l : List Ru} {S : Nat → List Nat} (h : RR w P v l S) (hS : ∀ t, S t ≠ [] → t < 128) : l.length ≤ 128 := by
  have := nodup_lt h.nd (n := 128) (fun x hx => by
    obtain ⟨r, hr, rfl⟩ := List.mem_map.1 hx
    exact hS _ (h.st r hr).1)
  simpa using this
/-- The document's waits. -/
structure WW (w : World) (P : Nat → Prop) (v : Value) (l : List Wa) (X : Wb) : Prop where
  gs : GP KA w P v l
  mem : ∀ t c, (⟨t, c⟩ : Wa) ∈ l ↔ (X.w t).is = true ∧ (X.w t).to = c
  up : l.Pairwise fun a b => (X.w a.t).made < (X.w b.t).made
theorem WW.far {w w' : World} {P : Nat → Prop} {v : Value} {l : List Wa} {X : Wb} (h : WW w P v l X) (hs : w.heap.size ≤ w'.heap.size) (k : ∀ x, x < w.heap.size → P x → w'.heap[x]? = w.heap[x]?) : WW w' P v l X := ⟨h.gs.far hs k, h.mem, h.up⟩
theorem WW.below {w w' : World} {P : Nat → Prop} {v : Value} {l : List Wa} {X : Wb} (h : WW w P v l X) (k : Below w.heap.size w w') : WW w' P v l X := h.far k.size fun x hx _ => k.block x hx
theorem WW.imp {w : World} {P Q : Nat → Prop} {v : Value} {l : List Wa} {X : Wb} (h : WW w P v l X) (k : ∀ x, x < w.heap.size → P x → Q x) : WW w Q v l X := ⟨h.gs.imp k, h.mem, h.up⟩
theorem WW.tasks {w : World} {P : Nat → Prop} {v : Value} {l : List Wa} {X : Wb} (h : WW w P v l X) : (l.map Wa.t).Nodup := by
  unfold List.Nodup
  rw [List.pairwise_map]
  exact h.up.imp fun {a b} hlt e => by rw [e] at hlt; omega
theorem WW.len {w : World} {P : Nat → Prop} {v : Value} {l : List Wa} {X : Wb} (h : WW w P v l X) (hi : WI X) : l.length ≤ 128 := by
  have := nodup_lt h.tasks (n := 128) (fun x hx => by
    obtain ⟨r, hr, rfl⟩ := List.mem_map.1 hx
    exact wait_lt hi ((h.mem r.t r.c).1 hr).1)
  simpa using this
theorem stk_task {X : Wb} (hi : WI X) (t : Nat) (h : stk X t ≠ []) : t < 128 := by
  obtain ⟨c, hc⟩ := List.exists_mem_of_ne_nil _ h
  obtain ⟨h1, h2⟩ := stk_mem.1 hc
  rw [← h2]; exact (hi.rm c h1).2
/-- A box of two slices. -/
theorem box2 {w : World} {a b : Value} {t : TypeId} : (w.alloc (.cells #[a, b] t)).cell? ⟨w.heap.size, 0, none⟩ = some a ∧ (w.alloc (.cells #[a, b] t)).cell? ⟨w.heap.size, 1, none⟩ = some b :=
  ⟨cell_of_row _ _ _ _ _ _ (heap_alloc_new w _), cell_of_row _ _ _ _ _ _ (heap_alloc_new w _)⟩
set_option maxHeartbeats 8000000 in
theorem rstack_any {w : World} {P : Nat → Prop} {vr vw : Value} {l : List Ru} {S : Nat → List Nat} (h : RR w P vr l S) (hl : l.length ≤ 128) (hvw : ∃ p n c, vw = .slice p n c) (t : Nat) : Calls Try.prog 26 #[.agg #[vr, vw], .int .i64 t] w fun e w' => ∃ q n c, e = .returned (.slice q n c) ∧ GP KI w P (.slice q n c) (nI (S t)) ∧ Below w.heap.size w w' := by
  obtain ⟨pw, nw, cw, rfl⟩ := hvw
  obtain ⟨p, c, rfl⟩ := h.gs.gs.form
  obtain ⟨b0, b1⟩ := box2 (w := w) (a := .slice p l.length c) (b := .slice pw nw cw) (t := 29)
  have BA : Hid (Below w.heap.size w (w.alloc (.cells #[.slice p l.length c, .slice pw nw cw] 29))) := bal _ _
  have HG := hid (h.gs.gs.below BA.out)
  have H := hid h
  clear h
  go_enter Try.func26, Try.ntmps26
  go_wp2
  generalize w.alloc (.cells #[.slice p l.length c, .slice pw nw cw] 29) = w1 at *
  go_loop [5] (fun v5 => ∃ k : Nat, k ≤ l.length ∧ v5 = .int .i64 k ∧ Hid (∀ j (hj : j < l.length), j < k → l[j].task ≠ t)) (fun v5 => l.length - (intOf v5).toNat)
  case atStart => exact ⟨0, Nat.zero_le _, rfl, fun j _ hj => absurd hj (Nat.not_lt_zero _)⟩
  case round =>
    obtain ⟨k, hk, rfl, HN⟩ := hrel
    by_cases hlt : k < l.length
    · obtain ⟨Y, o, e1, c1, c2⟩ := HG.out.atR hlt
      subst e1
      have ST := hid (H.out.st l[k] (List.getElem_mem hlt)).2
      have HN2 : Hid (l[k].task ≠ t → ∀ j (hj : j < l.length), j < k + 1 → l[j].task ≠ t) := fun hne j hj hjk => by
        by_cases e : j = k
        · subst e; exact hne
        · exact HN.out j hj (by omega)
      generalize l[k] = r at *
      by_cases ht : r.task = t
      · have hti : (r.task : Int) = t := by omega
        rw [ht] at ST
        clear ht
        go_wp2
        go_ret
        exact ⟨_, _, _, rfl, ST.out, BA.out⟩
      · have hti : ¬ (r.task : Int) = t := by omega
        have HN3 := hid (HN2.out ht)
        go_wp2
        go_round
        case rel => exact ⟨k + 1, by omega, by go_num, HN3⟩
        case measure => simp [intOf]; omega
    · have hSt : S t = [] := Classical.byContradiction fun q => by
        obtain ⟨r, hr, e⟩ := H.out.al t q
        obtain ⟨j, hj, rfl⟩ := List.getElem_of_mem hr
        exact HN.out j hj (by omega) e
      have E := hid hSt
      clear hSt
      go_wp2
      go_ret
      exact ⟨none, 0, 0, rfl, by rw [E.out]; exact ⟨Or.inl ⟨Or.inl rfl, rfl⟩, fun q => by simp [nI] at q⟩, BA.out⟩
set_option maxHeartbeats 8000000 in
theorem rwaiting_any {w : World} {P : Nat → Prop} {vr vw : Value} {l : List Wa} {X : Wb} (h : WW w P vw l X) (hi : WI X) (hvr : ∃ p n c, vr = .slice p n c) (t : Nat) : Calls Try.prog 25 #[.agg #[vr, vw], .int .i64 t] w fun e w' => e = .returned (.tuple #[.int .i64 (X.w t).to, .bool (X.w t).is]) ∧ Below w.heap.size w w' := by
  have hl := h.len hi
  obtain ⟨pr, nr, cr, rfl⟩ := hvr
  obtain ⟨p, c, rfl⟩ := h.gs.gs.form
  obtain ⟨b0, b1⟩ := box2 (w := w) (a := .slice pr nr cr) (b := .slice p l.length c) (t := 29)
  have BA : Hid (Below w.heap.size w (w.alloc (.cells #[.slice pr nr cr, .slice p l.length c] 29))) := bal _ _
  have HG := hid (h.gs.gs.below BA.out)
  have H := hid h
  have HI := hid hi
  clear h hi
  go_enter Try.func25, Try.ntmps25
  go_wp2
  generalize w.alloc (.cells #[.slice pr nr cr, .slice p l.length c] 29) = w1 at *
  go_loop [6] (fun v6 => ∃ k : Nat, k ≤ l.length ∧ v6 = .int .i64 k ∧ Hid (∀ j (hj : j < l.length), j < k → l[j].t ≠ t)) (fun v6 => l.length - (intOf v6).toNat)
  case atStart => exact ⟨0, Nat.zero_le _, rfl, fun j _ hj => absurd hj (Nat.not_lt_zero _)⟩
  case round =>
    obtain ⟨k, hk, rfl, HN⟩ := hrel
    by_cases hlt : k < l.length
    · obtain ⟨Y, o, e1, c1, c2⟩ := HG.out.atA hlt
      subst e1
      have ST := hid ((H.out.mem l[k].t l[k].c).1 (List.getElem_mem hlt))
      have HN2 : Hid (l[k].t ≠ t → ∀ j (hj : j < l.length), j < k + 1 → l[j].t ≠ t) := fun hne j hj hjk => by
        by_cases e : j = k
        · subst e; exact hne
        · exact HN.out j hj (by omega)
      generalize l[k] = r at *
      by_cases ht : r.t = t
      · have hti : (r.t : Int) = t := by omega
        rw [ht] at ST
        have E1 := hid ST.out.1
        have E2 := hid ST.out.2
        clear ht ST
        go_wp2
        go_ret2
        rw [E1.out, E2.out]
        exact ⟨rfl, BA.out⟩
      · have hti : ¬ (r.t : Int) = t := by omega
        have HN3 := hid (HN2.out ht)
        go_wp2
        go_round
        case rel => exact ⟨k + 1, by omega, by go_num, HN3⟩
        case measure => simp [intOf]; omega
    · have hSt : X.w t = t0 := HI.out.wz t (by
        cases e : (X.w t).is with
        | false => rfl
        | true =>
          have hr := (H.out.mem t (X.w t).to).2 ⟨e, rfl⟩
          obtain ⟨j, hj, e2⟩ := List.getElem_of_mem hr
          exact absurd (by rw [e2]) (HN.out j hj (by omega)))
      have E := hid hSt
      clear hSt
      go_wp2
      go_ret2
      rw [E.out]
      exact ⟨rfl, BA.out⟩
end Go.Proofs.Ytkhcinpcoabphaa
