/- Names: a set as a list by rising bytes; closures. -/
import Derived.Test.YthmppnmmlblbhaaDoorQb2
import Derived.Test.YthmppnmmlblbhaaDoorIter
import Derived.Laws.EntriesVeiled
namespace Go.Proofs.YthmppnmmlblbhaaDoor
open Go.RowKit Go.Maps

/-- The list has just these, by rising bytes. -/
structure Srt (T : List ByteArray) (p : ByteArray → Bool) : Prop where
  up : T.Pairwise (fun a b => a.data.toList < b.data.toList)
  mem : ∀ s, s ∈ T ↔ p s = true
theorem bytes_ext {a b : ByteArray} (h : a.data.toList = b.data.toList) : a = b := by
  cases a; cases b
  simp only [ByteArray.mk.injEq]
  exact Array.toList_inj.1 h
theorem Srt.uniq {T T' : List ByteArray} {p : ByteArray → Bool} (h : Srt T p) (h' : Srt T' p) : T = T' := by
  have nd : ∀ {T : List ByteArray}, T.Pairwise (fun a b : ByteArray => a.data.toList < b.data.toList) → T.Nodup := fun h => h.imp fun {a b} hlt e => by subst e; exact List.lt_irrefl _ hlt
  have hp : T.Perm T' := (List.perm_ext_iff_of_nodup (nd h.up) (nd h'.up)).2 fun s => by rw [h.mem, h'.mem]
  refine List.Perm.eq_of_pairwise (le := fun a b : ByteArray => a.data.toList < b.data.toList) (fun a b _ _ h1 h2 => absurd (List.lt_trans h1 h2) (List.lt_irrefl _)) h.up h'.up hp
theorem SA.keys {w : World} {b n : Nat} {D : DataW Unit} {p : ByteArray → Bool} (h1 : w.ownsMap Tryd.prog 9 unitElem b n D) (h2 : ∀ s, Maps.has D (kS s) = p s) : (Go.strKeys D).Nodup ∧ ∀ x : List UInt8, x ∈ Go.strKeys D ↔ p ⟨x.toArray⟩ = true := by
  obtain ⟨es, rfl, hk⟩ := h1.keysOf
  obtain ⟨es', e', hp⟩ := h1.tidy lawS
  injection e' with e'
  subst e'
  have hs : ∀ q ∈ es, ∃ x, q.1 = .string x := fun q hq => by
    obtain ⟨key, hkey⟩ := hk q hq
    obtain ⟨x, _, e, _⟩ := Go.Maps.keyOf_str Tryd.underlying9 hkey
    exact ⟨x, e⟩
  refine ⟨?_, fun x => ?_⟩
  · show (es.map fun p => Go.strOf p.1).Nodup
    refine List.pairwise_map.2 (hp.imp_of_mem fun {p q} hp' hq' hne e => hne ?_)
    obtain ⟨a, ha⟩ := hs p hp'
    obtain ⟨b, hb⟩ := hs q hq'
    rw [ha, hb] at e ⊢
    exact congrArg _ e
  · have e := h2 ⟨x.toArray⟩
    rw [← e, has_eq, List.any_eq_true]
    show x ∈ es.map (fun p => Go.strOf p.1) ↔ _
    rw [List.mem_map]
    have hkx : kS ⟨x.toArray⟩ = .string x := rfl
    constructor
    · rintro ⟨q, hq, e2⟩
      obtain ⟨y, hy⟩ := hs q hq
      refine ⟨q, hq, ?_⟩
      rw [hy] at e2 ⊢
      have : y = x := e2
      subst this
      rw [hkx]
      exact WideAt.sameKey_self (kS_key ⟨y.toArray⟩)
    · rintro ⟨q, hq, e2⟩
      obtain ⟨y, hy⟩ := hs q hq
      refine ⟨q, hq, ?_⟩
      rw [hy, hkx] at e2
      rw [hy]
      have hxy : (Lit.string y) = .string x := by
        by_cases hne : (Lit.string y) = .string x
        · exact hne
        · rw [sameKey_ne hne] at e2; cases e2
      injection hxy with hxy
set_option maxHeartbeats 4000000 in
theorem sorted_any (b n : Nat) (p : ByteArray → Bool) (w : World) (h : SA w b n p) (hn : n ≤ 1000000) :
    Calls Tryd.prog 65 #[.map (some b)] w fun e w' => ∃ q c T, e = .returned (.slice q T.length c) ∧ OwnG KS w' w.heap.size (.slice q T.length c) T ∧ Srt T p ∧ Below w.heap.size w w' := by
  obtain ⟨D, h1, h2⟩ := h
  have hsz : Maps.size D ≤ n := h1.size_le
  obtain ⟨hnd, hmem⟩ := SA.keys h1 h2
  have MK : Hid (Calls Tryd.prog 90 #[.map (some b)] w _) := (callsIn_wide (n := 5)).1 (Tryd.maps_Keys_90 (some b) w)
  have SK : Hid (Calls Tryd.prog 89 #[.func (.func 102) #[] #[.pointer (some ⟨w.heap.size, 0, none⟩)]] (w.alloc (.cells #[.map (some b)] 66)) fun e w' => ∃ q c T, e = .returned (.slice q T.length c) ∧ OwnG KS w' w.heap.size (.slice q T.length c) T ∧ Srt T p ∧ Below w.heap.size w w') := by
    refine ((callsIn_wide (n := 5)).1 (Tryd.slices_Sorted_keys_89_90 b n D unitElem w h1 (by unfold maxLen; omega) (by omega))).mono ?_
    rintro e w' ⟨v, ss, rfl, hS, hrow, _, hb⟩
    have A1 : Below w.heap.size w (w.alloc (.cells #[.map (some b)] 66)) := (Below.refl _ _).alloc (Nat.le_refl _) _
    obtain ⟨M, hM⟩ : ∃ M, M = ss.mergeSort (fun x y => decide (x ≤ y)) := ⟨_, rfl⟩
    rw [← hM] at hrow
    have hperm : M.Perm ss := by rw [hM]; exact List.mergeSort_perm ss _
    have hlen : ss.length = (M.map fun l => (⟨l.toArray⟩ : ByteArray)).length := by rw [List.length_map]; exact hperm.length_eq.symm
    have hfl : M.map Go.Proofs.encStr = (M.map fun l => (⟨l.toArray⟩ : ByteArray)).flatMap KS.f := by
      clear hM hperm hrow hlen
      induction M with
      | nil => rfl
      | cons a r ih => rw [List.map_cons, List.map_cons, List.flatMap_cons, ih]; rfl
    rw [hlen, hfl] at hrow
    have ho : OwnG KS w' (w.alloc (.cells #[.map (some b)] 66)).heap.size v (M.map fun l => (⟨l.toArray⟩ : ByteArray)) := hrow
    obtain ⟨q, c, rfl, _⟩ := ho.form
    refine ⟨q, c, _, rfl, ho.low A1.size, ⟨?_, fun s => ?_⟩, A1.trans (hb.mono A1.size)⟩
    · have tr : ∀ a b c : List UInt8, decide (a ≤ b) = true → decide (b ≤ c) = true → decide (a ≤ c) = true := fun a b c h1 h2 => by simp only [decide_eq_true_eq] at *; exact List.le_trans h1 h2
      have tot : ∀ a b : List UInt8, (decide (a ≤ b) || decide (b ≤ a)) = true := fun a b => by simp only [Bool.or_eq_true, decide_eq_true_eq]; exact List.le_total a b
      have hs : M.Pairwise (fun a b => decide (a ≤ b) = true) := by rw [hM]; exact List.pairwise_mergeSort tr tot ss
      have hn2 : M.Nodup := (hperm.trans hS).nodup_iff.2 hnd
      refine List.pairwise_map.2 ?_
      refine (hs.and hn2).imp fun {a b} hab => ?_
      have h3 : a ≤ b := by simpa using hab.1
      show a < b
      rcases List.le_iff_lt_or_eq.1 h3 with e | e
      · exact e
      · exact absurd e hab.2
    · rw [List.mem_map]
      constructor
      · rintro ⟨l, hl, rfl⟩
        exact (hmem l).1 ((hperm.trans hS).mem_iff.1 hl)
      · intro hp
        refine ⟨s.data.toList, (hperm.trans hS).mem_iff.2 ((hmem _).2 ?_), ?_⟩
        · have : (⟨s.data.toList.toArray⟩ : ByteArray) = s := by cases s; simp
          rw [this]; exact hp
        · cases s; simp
  clear h1 h2 hsz hnd hmem
  go_enter Tryd.func65, Tryd.ntmps65
  go_wp2_with fail
  refine Calls.mono MK.out ?_
  rintro e w1 ⟨rfl, hw1⟩
  rw [hw1]
  clear hw1 MK
  go_wp2_with fail
  refine Calls.mono SK.out ?_
  rintro e w2 ⟨q, c, T, rfl, ho, hsr, hb⟩
  go_wp2_with fail
  go_ret
  exact ⟨q, c, T, rfl, ho, hsr, hb⟩
theorem FW_new (w : World) (bA : Nat) (hA : bA < w.heap.size) : FW ((((w.alloc (.cells #[.map (some bA)] 70)).alloc (.map #[] 0)).alloc (.cells #[.map (some (w.heap.size + 1))] 66)).alloc (.cells #[.func (.func 88) #[] #[.pointer (some ⟨w.heap.size, 0, none⟩), .pointer (some ⟨w.heap.size + 2, 0, none⟩), .pointer (some ⟨w.heap.size + 3, 0, none⟩)]] 68)) w.heap.size (w.heap.size + 2) (w.heap.size + 3) bA (w.heap.size + 1) := by
  have al : ∀ (W : World) (o : Obj), Below W.heap.size W (W.alloc o) := fun W o => (Below.refl _ _).alloc (Nat.le_refl _) o
  have z : ∀ (W : World) (o : Obj), (W.alloc o).heap.size = W.heap.size + 1 := fun W o => by simp
  refine ⟨kept_old (kept_old (kept_old (heap_alloc_new _ _) (al _ _)) (al _ _)) (al _ _), ?_, ?_, by omega, by omega, by omega, by omega⟩
  · have h := heap_alloc_new ((w.alloc (.cells #[.map (some bA)] 70)).alloc (.map #[] 0)) (.cells #[.map (some (w.heap.size + 1))] 66)
    rw [z, z] at h
    exact kept_old h (al _ _)
  · have h := heap_alloc_new (((w.alloc (.cells #[.map (some bA)] 70)).alloc (.map #[] 0)).alloc (.cells #[.map (some (w.heap.size + 1))] 66)) (.cells #[.func (.func 88) #[] #[.pointer (some ⟨w.heap.size, 0, none⟩), .pointer (some ⟨w.heap.size + 2, 0, none⟩), .pointer (some ⟨w.heap.size + 3, 0, none⟩)]] 68)
    rw [z, z, z] at h
    exact h
theorem SA_new (w : World) (o1 o2 o3 : Obj) : SA ((((w.alloc o1).alloc (.map #[] 0)).alloc o2).alloc o3) (w.heap.size + 1) 0 (fun _ => false) := by
  have h := SA.made (w.alloc o1)
  rw [show (w.alloc o1).heap.size = w.heap.size + 1 by simp] at h
  exact (h.below ((Below.refl _ _).alloc (Nat.le_refl _) o2)).below ((Below.refl _ _).alloc (Nat.le_refl _) o3)
theorem below4 (w : World) (o1 o2 o3 o4 : Obj) : Below w.heap.size w ((((w.alloc o1).alloc o2).alloc o3).alloc o4) := ((((Below.refl _ _).alloc (Nat.le_refl _) _).alloc (by simp) _).alloc (by simp; omega) _).alloc (by simp; omega) _
set_option maxHeartbeats 4000000 in
theorem closure_any (L : List Prv) (bA : Nat) (f : ByteArray → Option Value) (nm : ByteArray) (w : World) (h : AKM w bA L f) (hnm : nm.size ≤ maxLen) :
    Calls Tryd.prog 64 #[.map (some bA), .string nm] w fun e w' => ∃ bS n q, e = .returned (.map (some bS)) ∧ SA w' bS n q ∧ n ≤ 65536 ∧ (∀ s, q s = true ↔ Rch (askF L) nm s) ∧ w.heap.size ≤ bS ∧ Below w.heap.size w w' := by
  have hmm := @run_makeMap Tryd.prog
  have hmf : ∀ (fn : Fn) (first cap : Array Value) (w : World), (Instr.makeFunc fn first cap).run Tryd.prog w = .ok (.func fn first cap) w := fun _ _ _ _ => rfl
  have B4 : Hid (∀ o1 o2 o3 o4, Below w.heap.size w ((((w.alloc o1).alloc o2).alloc o3).alloc o4)) := below4 w
  have FN : Hid _ := FW_new w bA h.mv.lt
  have SN : Hid (∀ o1 o2 o3, _) := fun o1 o2 o3 => SA_new w o1 o2 o3
  have FO : Hid (∀ w1, Below w.heap.size w w1 → FW w1 w.heap.size (w.heap.size + 2) (w.heap.size + 3) bA (w.heap.size + 1) → SA w1 (w.heap.size + 1) 0 (fun _ => false) → Calls Tryd.prog 88 #[.string nm, .pointer (some ⟨w.heap.size, 0, none⟩), .pointer (some ⟨w.heap.size + 2, 0, none⟩), .pointer (some ⟨w.heap.size + 3, 0, none⟩)] w1 fun e w' => e = .returned (.tuple #[]) ∧ w'.cell? ⟨w.heap.size + 2, 0, none⟩ = some (.map (some (w.heap.size + 1))) ∧ ∃ n q, SA w' (w.heap.size + 1) n q ∧ n ≤ 65536 ∧ (∀ s, q s = true ↔ Rch (askF L) nm s) ∧ Below w.heap.size w w') := fun w1 b hf hs => by
    refine (follow_any L w.heap.size (w.heap.size + 2) (w.heap.size + 3) bA (w.heap.size + 1) f 65536 (by omega) _ nm w1 0 (fun _ => false) (Nat.le_refl _) (by have h1 := mu_top (askU L) (fun _ => false); have h2 := h.le; omega) hnm hf (h.below b) hs).mono ?_
    rintro e w' ⟨rfl, n, q, hs', hn', hd, hbt⟩
    exact ⟨rfl, box_cell (hf.far hbt).s, n, q, hs', by omega, hd.reach, b.trans ⟨hbt.os, hbt.tape, hbt.output, hbt.size, fun x hx => hbt.block x (by have := b.size; omega) (by omega)⟩⟩
  clear h
  go_enter Tryd.func64, Tryd.ntmps64
  go_wp2_with fail
  refine Calls.mono (FO.out _ (B4.out _ _ _ _) FN.out (SN.out _ _ _)) ?_
  rintro e w1 ⟨rfl, hc, n, q, hs, hn, hq, hb⟩
  have HS : Hid (SA w1 (w.heap.size + 1) n q) := hs
  have HQ : Hid (∀ s, q s = true ↔ Rch (askF L) nm s) := hq
  have HB : Hid (Below w.heap.size w w1) := hb
  clear hs hq hb FO FN SN B4
  go_wp2_with fail
  go_ret
  exact ⟨_, n, q, rfl, HS.out, hn, HQ.out, by omega, HB.out⟩
end Go.Proofs.YthmppnmmlblbhaaDoor
