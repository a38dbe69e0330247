/- Waiting: Cancel, plain; what stays beside a room. -/
import Derived.Test.YtofdfofpdfaimaaWd6
namespace Go.Proofs.Ytofdfofpdfaimaa
open Go.RowKit Go.Maps

/-- Who goes and who stays, when a token's waiters of some keys have gone. -/
def keptL (L : List Wc) (tok : ByteArray) (P : ByteArray → Bool) : List Wc := L.filter fun x => !(decide (x.w.tok = tok) && P x.w.key)
def goneL (L : List Wc) (tok : ByteArray) (P : ByteArray → Bool) : List Wc := L.filter fun x => decide (x.w.tok = tok) && P x.w.key
/-- All of a token, none of a token. -/
def cnL (L : List Wc) (tok : ByteArray) : List Wc := L.filter fun x => decide (x.w.tok = tok)
def ncL (L : List Wc) (tok : ByteArray) : List Wc := L.filter fun x => !decide (x.w.tok = tok)
theorem gnL_filter (q : Wc → Bool) : ∀ (k : Nat) (l : List Wc), gnL (fun _ x => q x) k l = l.filter q
  | _, [] => rfl
  | k, x :: l => by
    rw [gnL, gnL_filter q (k + 1) l, List.filter_cons]
theorem kept_next {L : List Wc} {c : Nat} (h : RI L c) (tok : ByteArray) (P : ByteArray → Bool) (key : ByteArray) : outL (keptL L tok P) (gnL (fun _ x => decide (x.w.tok = tok)) 0 (qK (keptL L tok P) key)) = keptL L tok (fun s => P s || decide (s = key)) := by
  rw [gnL_filter]
  unfold outL keptL qK
  rw [List.filter_filter]
  refine List.filter_congr (fun x hx => ?_)
  rw [Bool.eq_iff_iff]
  simp only [Bool.and_eq_true, Bool.not_eq_true', List.any_eq_false, List.mem_filter, decide_eq_true_eq, Bool.and_eq_false_imp, Bool.or_eq_false_iff, decide_eq_false_iff_not]
  constructor
  · rintro ⟨h1, h2⟩ h3
    refine ⟨h2 h3, fun h4 => ?_⟩
    exact h1 x ⟨⟨⟨hx, h2⟩, h4⟩, h3⟩ rfl
  · intro h1
    refine ⟨?_, fun h3 => (h1 h3).1⟩
    rintro y ⟨⟨⟨hy, h4⟩, h5⟩, h6⟩ e
    have := h.uniq hy hx e
    subst this
    exact (h1 h6).2 h5
theorem filter_or {α : Type} (a b : α → Bool) : ∀ l : List α, (∀ x ∈ l, ¬ (a x = true ∧ b x = true)) → (l.filter a ++ l.filter b).Perm (l.filter fun x => a x || b x)
  | [], _ => List.Perm.refl _
  | x :: l, h => by
    have ih := filter_or a b l (fun y hy => h y (by simp [hy]))
    have hx := h x (by simp)
    rw [List.filter_cons, List.filter_cons, List.filter_cons]
    cases ha : a x with
    | true =>
      cases hb : b x with
      | true => exact absurd ⟨ha, hb⟩ hx
      | false => simpa using ih
    | false =>
      cases hb : b x with
      | true => simp only [Bool.false_eq_true, if_false, if_true, Bool.or_true]; exact List.perm_middle.trans (ih.cons x)
      | false => simpa using ih
theorem gone_next {L : List Wc} (tok : ByteArray) (P : ByteArray → Bool) (key : ByteArray) (hk : P key = false) {G : List Wc} (hG : G.Perm (goneL L tok P)) : (G ++ gnL (fun _ x => decide (x.w.tok = tok)) 0 (qK (keptL L tok P) key)).Perm (goneL L tok (fun s => P s || decide (s = key))) := by
  rw [gnL_filter]
  have e : (qK (keptL L tok P) key).filter (fun x => decide (x.w.tok = tok)) = L.filter fun x => decide (x.w.tok = tok) && decide (x.w.key = key) := by
    unfold keptL qK
    rw [List.filter_filter, List.filter_filter]
    refine List.filter_congr (fun x _ => ?_)
    rw [Bool.eq_iff_iff]
    simp only [Bool.and_eq_true, Bool.not_eq_true', decide_eq_true_eq, Bool.and_eq_false_imp]
    constructor
    · rintro ⟨⟨h1, h2⟩, _⟩; exact ⟨h1, h2⟩
    · rintro ⟨h1, h2⟩; exact ⟨⟨h1, h2⟩, fun _ => by rw [h2]; exact hk⟩
  rw [e]
  refine (hG.append_right _).trans ?_
  unfold goneL
  refine (filter_or _ _ L (fun x _ => ?_)).trans (List.Perm.of_eq (List.filter_congr (fun x _ => ?_)))
  · rintro ⟨h1, h2⟩
    simp only [Bool.and_eq_true, decide_eq_true_eq] at h1 h2
    rw [h2.2, hk] at h1
    exact absurd h1.2 (by decide)
  · cases decide (x.w.tok = tok) <;> simp
theorem gone_zero (L : List Wc) (tok : ByteArray) : goneL L tok (fun _ => false) = [] := by unfold goneL; simp
theorem kept_zero (L : List Wc) (tok : ByteArray) : keptL L tok (fun _ => false) = L := by unfold keptL; simp
theorem gone_all {L : List Wc} {tok : ByteArray} {P : ByteArray → Bool} (h : ∀ x ∈ L, P x.w.key = true) : goneL L tok P = cnL L tok ∧ keptL L tok P = ncL L tok := by
  refine ⟨List.filter_congr (fun x hx => by rw [h x hx, Bool.and_true]), List.filter_congr (fun x hx => by rw [h x hx, Bool.and_true])⟩
theorem sorted_eq {L : List Wc} {c : Nat} (h : RI L c) (tok : ByteArray) {G : List Wc} (hp : G.Perm (cnL L tok)) (hs : G.Pairwise fun a b => a.came ≤ b.came) : G = cnL L tok := by
  have hu : (cnL L tok).Pairwise fun a b => a.came < b.came := h.up.sublist List.filter_sublist
  have hu2 : (cnL L tok).Pairwise fun a b => a.came ≤ b.came := hu.imp fun h => Nat.le_of_lt h
  refine List.Perm.eq_of_pairwise (le := fun a b : Wc => a.came ≤ b.came) (fun a b ha hb h1 h2 => ?_) hs hu2 hp
  have ha' : a ∈ cnL L tok := hp.mem_iff.1 ha
  obtain ⟨i, hi, rfl⟩ := List.getElem_of_mem ha'
  obtain ⟨j, hj, rfl⟩ := List.getElem_of_mem hb
  have pw := List.pairwise_iff_getElem.1 hu
  rcases Nat.lt_trichotomy i j with q | q | q
  · have := pw i j hi hj q; omega
  · subst q; rfl
  · have := pw j i hj hi q; omega
/-- A block of another kind is none of a room's. -/
theorem RX.notfp {w : World} {base r m : Nat} {L : List Wc} {c : Nat} {f : ByteArray → Option Value} (h : RX w base r m L c f) {B : Nat} {a : Array Value} {t : TypeId} (hB : w.heap[B]? = some (.cells a t)) (h1 : t ≠ 64) (h2 : t ≠ 69) : ¬ FP r m f B := by
  rintro (rfl | rfl | ⟨k, v, hv, hx⟩)
  · rw [h.hp] at hB
    injection hB with hB
    injection hB with _ hB _
    exact h1 hB.symm
  · obtain ⟨D, ⟨es, cl, h3, _⟩, _⟩ := h.mq
    rw [h3] at hB; cases hB
  · obtain ⟨cur, h3⟩ := (h.own k v hv).ty hx
    rw [h3] at hB
    injection hB with hB
    injection hB with _ hB _
    exact h2 hB.symm
theorem RX.notown {α : Type} {K : RK α} {w : World} {base bas' r m : Nat} {L : List Wc} {c : Nat} {f : ByteArray → Option Value} (h : RX w base r m L c f) {u : Value} {l : List α} (k : OwnG K w bas' u l) (h1 : K.ty ≠ 64) (h2 : K.ty ≠ 69) : ∀ x, u.ownBlock = some x → ¬ FP r m f x := fun x hx => by
  obtain ⟨cur, h3⟩ := k.ty hx
  exact h.notfp h3 h1 h2
theorem RR.trans {w w1 w2 : World} {base r m : Nat} {f f1 : ByteArray → Option Value} {L2 : List Wc} {c2 : Nat} (hf : ∀ x, FP r m f1 x → FP r m f x ∨ w.heap.size ≤ x) (hb : But (FP r m f) w w1) (h : RR w1 base r m f1 L2 c2 w2) : RR w base r m f L2 c2 w2 := by
  obtain ⟨⟨f', h1, h2⟩, h3⟩ := h
  refine ⟨⟨f', h1, fun x hx => ?_⟩, hb.trans h3 (fun x hx => hf x hx)⟩
  rcases h2 x hx with e | e
  · exact hf x e
  · exact Or.inr (Nat.le_trans hb.size e)
end Go.Proofs.Ytofdfofpdfaimaa
