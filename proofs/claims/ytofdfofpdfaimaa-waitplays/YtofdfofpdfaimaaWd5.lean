/- Waiting: Keys. -/
import Derived.Test.YtofdfofpdfaimaaWd4
import Derived.Test.YtofdfofpdfaimaaIter
namespace Go.Proofs.Ytofdfofpdfaimaa
open Go.RowKit Go.Maps

/-- The list has just these, by rising bytes. -/
structure Srt (T : List ByteArray) (p : ByteArray → Bool) : Prop where
  up : T.Pairwise (fun a b => a.data.toList < b.data.toList)
  mem : ∀ s, s ∈ T ↔ p s = true
theorem bytes_ext {a b : ByteArray} (h : a.data.toList = b.data.toList) : a = b := by
  cases a; cases b
  simp only [ByteArray.mk.injEq]
  exact Array.toList_inj.1 h
theorem Srt.uniq {T T' : List ByteArray} {p : ByteArray → Bool} (h : Srt T p) (h' : Srt T' p) : T = T' := by
  have nd : ∀ {T : List ByteArray}, T.Pairwise (fun a b : ByteArray => a.data.toList < b.data.toList) → T.Nodup := fun h => h.imp fun {a b} hlt e => by subst e; exact List.lt_irrefl _ hlt
  have hp : T.Perm T' := (List.perm_ext_iff_of_nodup (nd h.up) (nd h'.up)).2 fun s => by rw [h.mem, h'.mem]
  refine List.Perm.eq_of_pairwise (le := fun a b : ByteArray => a.data.toList < b.data.toList) (fun a b _ _ h1 h2 => absurd (List.lt_trans h1 h2) (List.lt_irrefl _)) h.up h'.up hp
/-- The library's sorted keys. -/
theorem sortedK_any (b : Nat) (f : ByteArray → Option Value) (p : ByteArray → Bool) (w : World) (h : MQ w b f) (hp : ∀ s, (f s).isSome = p s) (K : List ByteArray) (hK : ∀ s, (f s).isSome = true → s ∈ K) (hn : K.length ≤ 1000000) :
    Calls Try.prog 49 #[.func (.func 63) #[] #[.pointer (some ⟨w.heap.size, 0, none⟩)]] (w.alloc (.cells #[.map (some b)] 62)) fun e w' => ∃ q c T, e = .returned (.slice q T.length c) ∧ OwnG KS w' w.heap.size (.slice q T.length c) T ∧ Srt T p ∧ Below w.heap.size w w' := by
  obtain ⟨D, h1, h2, _⟩ := h
  have hsz := mq_size h1 h2 K hK
  obtain ⟨hnd, hmem, _⟩ := mq_keys h1 (p := p) (fun s => (h2 s).trans (hp s))
  refine ((callsIn_wide (n := 5)).1 (Try.slices_Sorted_keys_49_50 b _ D hE w h1 (by unfold maxLen; omega) (by omega))).mono ?_
  rintro e w' ⟨v, ss, rfl, hS, hrow, _, hb⟩
  have A1 : Below w.heap.size w (w.alloc (.cells #[.map (some b)] 62)) := (Below.refl _ _).alloc (Nat.le_refl _) _
  obtain ⟨M, hM⟩ : ∃ M, M = ss.mergeSort (fun x y => decide (x ≤ y)) := ⟨_, rfl⟩
  rw [← hM] at hrow
  have hperm : M.Perm ss := by rw [hM]; exact List.mergeSort_perm ss _
  have hlen : ss.length = (M.map fun l => (⟨l.toArray⟩ : ByteArray)).length := by rw [List.length_map]; exact hperm.length_eq.symm
  have hfl : M.map Go.Proofs.encStr = (M.map fun l => (⟨l.toArray⟩ : ByteArray)).flatMap KS.f := by
    clear hM hperm hrow hlen
    induction M with
    | nil => rfl
    | cons a r ih => rw [List.map_cons, List.map_cons, List.flatMap_cons, ih]; rfl
  rw [hlen, hfl] at hrow
  have ho : OwnG KS w' (w.alloc (.cells #[.map (some b)] 62)).heap.size v (M.map fun l => (⟨l.toArray⟩ : ByteArray)) := hrow
  obtain ⟨q, c, rfl, _⟩ := ho.form
  refine ⟨q, c, _, rfl, ho.low A1.size, ⟨?_, fun s => ?_⟩, A1.trans (hb.mono A1.size)⟩
  · have tr : ∀ a b c : List UInt8, decide (a ≤ b) = true → decide (b ≤ c) = true → decide (a ≤ c) = true := fun a b c h1 h2 => by simp only [decide_eq_true_eq] at *; exact List.le_trans h1 h2
    have tot : ∀ a b : List UInt8, (decide (a ≤ b) || decide (b ≤ a)) = true := fun a b => by simp only [Bool.or_eq_true, decide_eq_true_eq]; exact List.le_total a b
    have hs : M.Pairwise (fun a b => decide (a ≤ b) = true) := by rw [hM]; exact List.pairwise_mergeSort tr tot ss
    have hn2 : M.Nodup := (hperm.trans hS).nodup_iff.2 hnd
    refine List.pairwise_map.2 ?_
    refine (hs.and hn2).imp fun {a b} hab => ?_
    have h3 : a ≤ b := by simpa using hab.1
    show a < b
    rcases List.le_iff_lt_or_eq.1 h3 with e | e
    · exact e
    · exact absurd e hab.2
  · rw [List.mem_map]
    constructor
    · rintro ⟨l, hl, rfl⟩
      exact (hmem l).1 ((hperm.trans hS).mem_iff.1 hl)
    · intro hp
      refine ⟨s.data.toList, (hperm.trans hS).mem_iff.2 ((hmem _).2 ?_), ?_⟩
      · have : (⟨s.data.toList.toArray⟩ : ByteArray) = s := by cases s; simp
        rw [this]; exact hp
      · cases s; simp
set_option maxHeartbeats 4000000 in
theorem keys_any (w : World) (base r m : Nat) (L : List Wc) (c : Nat) (f : ByteArray → Option Value) (h : RX w base r m L c f) : Calls Try.prog 26 #[.pointer (some ⟨r, 0, none⟩)] w fun e w' => ∃ q cc T, e = .returned (.slice q T.length cc) ∧ OwnG KS w' w.heap.size (.slice q T.length cc) T ∧ Srt T (fun s => !(qK L s).isEmpty) ∧ Below w.heap.size w w' := by
  have c0 := h.cells.1
  have MK : Hid (Calls Try.prog 50 #[.map (some m)] w _) := (callsIn_wide (n := 5)).1 (Try.maps_Keys_50 (some m) w)
  have SK := hid (sortedK_any m f (fun s => !(qK L s).isEmpty) w h.mq h.dom _ h.keys (by have := h.ri.len; simp; omega))
  clear h
  go_enter Try.func26, Try.ntmps26
  go_wp2_with fail
  refine Calls.mono MK.out ?_
  rintro e w1 ⟨rfl, hw1⟩
  rw [hw1]
  clear hw1 MK
  go_wp2_with fail
  refine Calls.mono SK.out ?_
  rintro e w2 ⟨q, c, T, rfl, ho, hsr, hb⟩
  go_wp2_with fail
  go_ret
  exact ⟨q, c, T, rfl, ho, hsr, hb⟩
end Go.Proofs.Ytofdfofpdfaimaa
