/- Waiting: a range over Each: what a round keeps; the iterator's contract. -/
import Derived.Test.YtofdfofpdfaimaaRz4
import Derived.Test.YtofdfofpdfaimaaRz5
import Derived.Test.YtofdfofpdfaimaaWe3
namespace Go.Proofs.Ytofdfofpdfaimaa
open Go.RowKit Go.Shelf Go.Maps
attribute [local go_sem] Oper.semAt_some

/-- All but the counter, rows of waiters and the loop's own record stay. -/
structure KpW (nb : Nat) (a b : World) : Prop where
  sz : a.heap.size ≤ b.heap.size
  kp : ∀ g o, a.heap[g]? = some o → g ≠ nb → (∀ r, o ≠ .loop r) → (∀ arr fr, o ≠ .cells arr 30 fr) → b.heap[g]? = some o
theorem KpW.refl (nb : Nat) (a : World) : KpW nb a a := ⟨Nat.le_refl _, fun _ _ h _ _ _ => h⟩
theorem KpW.trans {nb : Nat} {a b c : World} (h : KpW nb a b) (k : KpW nb b c) : KpW nb a c := ⟨Nat.le_trans h.sz k.sz, fun g o h1 h2 h3 h4 => k.kp g o (h.kp g o h1 h2 h3 h4) h2 h3 h4⟩
theorem KpW.below {nb : Nat} {a b : World} (h : Below a.heap.size a b) : KpW nb a b := ⟨h.size, fun g _ h1 _ _ _ => (h.block g (lt_of_heap h1)).trans h1⟩
theorem KpW.put {nb : Nat} {W : World} {l : Nat} {r r' : Loop} (h : W.heap[l]? = some (.loop r)) : KpW nb W (W.putObj l (.loop r')) := ⟨by simp, fun g _ h1 _ h3 _ => (World.putObj_heap_other (fun e => by
  subst e
  rw [h] at h1
  injection h1 with h1
  exact h3 _ h1.symm)).trans h1⟩
theorem KpW.own {α : Type} {K : RK α} {nb : Nat} {w w' : World} {base : Nat} {v : Value} {l : List α} (k : KpW nb w w') (h : OwnG K w base v l) (ht : K.ty ≠ 30) (hn : v.ownBlock ≠ some nb) : OwnG K w' base v l := h.far fun g hg => by
  obtain ⟨cur, hc⟩ := h.ty hg
  exact (k.kp g _ hc (fun e => hn (by rw [← e]; exact hg)) (fun r e => by cases e) (fun arr fr e => by injection e with _ e2 _; exact ht e2)).trans hc.symm
theorem KpW.rx {nb : Nat} {w w' : World} {base r m : Nat} {L : List Wc} {c : Nat} {f : ByteArray → Option Value} (k : KpW nb w w') (h : RX w base r m L c f) (hn : ¬ FP r m f nb) : RX w' base r m L c f := h.keep fun x hx => by
  have ne : x ≠ nb := fun e => hn (by rw [← e]; exact hx)
  rcases hx with rfl | rfl | ⟨q, v, h1, h2⟩
  · exact (k.kp x _ h.hp ne (fun r e => by cases e) (fun arr fr e => by injection e with _ e2 _; revert e2; decide)).trans h.hp.symm
  · obtain ⟨D, ⟨es, cl, h1, _⟩, _⟩ := h.mq
    exact (k.kp x _ h1 ne (fun r e => by cases e) (fun arr fr e => by cases e)).trans h1.symm
  · obtain ⟨cur, hc⟩ := (h.own q v h1).ty h2
    exact (k.kp x _ hc ne (fun r e => by cases e) (fun arr fr e => by injection e with _ e2 _; revert e2; decide)).trans hc.symm
/-- What is handed over: the key, and its queue, laid in that round. -/
def RWx (w0 : World) (T : List ByteArray) (L : List Wc) (k : Nat) (x : Array Value) (W : World) : Prop := ∃ (hk : k < T.length) (q : Option Addr) (c : Nat) (b : Nat), x = #[.string T[k], .slice q (qK L T[k]).length c] ∧ OwnG KW W b (.slice q (qK L T[k]).length c) ((qK L T[k]).map fun x => x.w) ∧ w0.heap.size ≤ b
set_option maxRecDepth 100000 in
set_option maxHeartbeats 8000000 in
theorem weach_rel (n : Nat) (hn : 1 ≤ n) {w0 : World} {B base r m c nb : Nat} {L : List Wc} {f : ByteArray → Option Value} {T : List ByteArray} (hb : w0.heap[B]? = some (.cells #[.pointer (some ⟨r, 0, none⟩)] 23)) (hx : RX w0 base r m L c f) (hn1 : nb ≠ B) (hn2 : ¬ FP r m f nb) (hnl : nb < w0.heap.size) (hT : Srt T (fun s => !(qK L s).isEmpty)) : SeqRel Fence.wide n Try.prog 43 #[.pointer (some ⟨B, 0, none⟩)] T.length (RWx w0 T L) (KpW nb) w0 := by
  intro l J Jx W hW hJ hY h0
  have AT := hid (fun W2 (hk : KpW nb w0 W2) => (⟨hk.kp B _ hb (fun e => hn1 e.symm) (fun r e => by cases e) (fun arr fr e => by injection e with _ e2 _; revert e2; decide), hk.rx hx hn2⟩ : W2.heap[B]? = some (.cells #[.pointer (some ⟨r, 0, none⟩)] 23) ∧ RX W2 base r m L c f))
  have b0 : W.cell? ⟨B, 0, none⟩ = some (.pointer (some ⟨r, 0, none⟩)) := cell_of_row _ _ _ _ _ _ (AT.out W hW).1
  have KS1 := hid (keys_any W base r m L c f (AT.out W hW).2)
  have hlen : T.length ≤ 1000000 := by
    have nd : T.Nodup := hT.up.imp fun {a b} hab e => by subst e; exact List.lt_irrefl _ hab
    have := sub_len (m := L.map fun x => x.w.key) nd (fun s hs => by
      have h1 := (hT.mem s).1 hs
      have h2 : qK L s ≠ [] := by intro e; rw [e] at h1; simp at h1
      obtain ⟨x, q⟩ := List.exists_mem_of_ne_nil _ h2
      obtain ⟨q1, q2⟩ := qK_mem.1 q
      exact List.mem_map.2 ⟨x, q1, q2⟩)
    have := hx.ri.len
    simp at *
    omega
  have KEY := hid (fun s (hs : s ∈ T) => by
    have h1 := (hT.mem s).1 hs
    have h2 : qK L s ≠ [] := by intro e; rw [e] at h1; simp at h1
    obtain ⟨x, q⟩ := List.exists_mem_of_ne_nil _ h2
    obtain ⟨q1, q2⟩ := qK_mem.1 q
    have := (hx.ri.ok x q1).2.1
    rw [q2] at this
    exact (by unfold maxLen; omega : s.size ≤ maxLen))
  have HT := hid hT
  have J0 := hid h0
  have W0 := hid hW
  have JB := hid hJ
  have YY := hid hY
  have LT : Hid (nb < w0.heap.size) := hnl
  clear hb hx hn1 hn2 hnl hT hY hJ h0 hW
  obtain ⟨len, hl⟩ : ∃ len, len = T.length := ⟨_, rfl⟩
  have ML := hid hl
  rw [← hl] at hlen YY ⊢
  clear hl
  refine callsIn_of_wp Try.func43 rfl trivial ?_ rfl
  simp only [Try.ntmps43, List.size_toArray, List.length_cons, List.length_nil, Nat.reduceAdd, Nat.reduceSub, Array.replicate_succ, Array.replicate_zero, List.push_toArray, List.append_toArray, List.nil_append, List.cons_append]
  gi_wp2_with fail
  refine ⟨trivial, (callsIn_wide.2 KS1.out).mono ?_⟩
  rintro e w1 ⟨q, cc, T', rfl, ho, hs, hb1⟩
  have eT : T' = T := hs.uniq HT.out
  rw [eT] at ho ⊢
  rw [← ML.out] at ho ⊢
  have O1 := hid ho
  have B1 := hid hb1
  have WS := hid W0.out.sz
  clear hs eT ho hb1 KS1 b0
  gi_wp2_with fail
  gi_loopw [8] (fun i wr => ∃ (k : Nat) (wk : World), k ≤ len ∧ i = .int .i64 (k : Nat) ∧ wk = wr ∧ Hid (J k wk) ∧ Hid (KpW nb w0 wk) ∧ Hid (OwnG KS wk W.heap.size (.slice q len cc) T)) (fun i _ => (len - (intOf i).toNat))
  case atStart => exact ⟨0, _, Nat.zero_le _, rfl, rfl, JB.out _ _ _ J0.out B1.out, W0.out.trans (KpW.below B1.out), O1⟩
  case round =>
    obtain ⟨k, wr, hk, rfl, rfl, HJ, HK, HO⟩ := hrel
    clear J0 W0 O1 B1
    by_cases hlt : k < len
    · have hkl : k < T.length := by have := ML.out; omega
      have hk1 : (k : Int) < (len : Int) := by omega
      obtain ⟨b0, rx⟩ := AT.out wr HK.out
      have c0 : wr.cell? ⟨B, 0, none⟩ = some (.pointer (some ⟨r, 0, none⟩)) := cell_of_row _ _ _ _ _ _ b0
      obtain ⟨X, o, e1, x0⟩ := GS.atS (HO.out.gs KS_ok.len) hkl
      obtain rfl : q = some ⟨X, o, none⟩ := e1
      have QA := hid (queue_any T[k] wr base r m L c f rx (KEY.out _ (List.getElem_mem hkl)))
      have YK := hid (fun W2 q c (b : Below wr.heap.size wr W2) (oo : OwnG KW W2 wr.heap.size (.slice q (qK L T[k]).length c) ((qK L T[k]).map fun x => x.w)) => YY.out k #[.string T[k], .slice q (qK L T[k]).length c] W2 (JB.out _ _ _ HJ.out b) hlt ⟨hkl, q, c, _, rfl, oo, HK.out.sz⟩)
      have KN := hid (fun W2 W3 (b : Below wr.heap.size wr W2) (k2 : KpW nb W2 W3) => HK.out.trans ((KpW.below b).trans k2))
      have ON := hid (fun W2 W3 (b : Below wr.heap.size wr W2) (k2 : KpW nb W2 W3) => k2.own (HO.out.below b) (by decide) (fun e => by have := (HO.out.lt e).1; have := WS.out; have := LT.out; omega))
      generalize T[k] = s at *
      clear b0 rx HK HJ HO
      gi_wp2_with fail
      refine ⟨trivial, (callsIn_wide.2 QA.out).mono ?_⟩
      rintro e w2 ⟨q2, c2, rfl, o2, b2⟩
      obtain ⟨fn, tmps, assign, body, hy, hR⟩ := YK.out w2 q2 c2 b2 o2
      have KN2 := hid (fun W3 k2 => KN.out w2 W3 b2 k2)
      have ON2 := hid (fun W3 k2 => ON.out w2 W3 b2 k2)
      clear o2 b2 YK KN ON QA c0 x0
      gi_wp2_with fail
      refine hR.mono ?_
      rintro e W3 (⟨rfl, hJ3, hk3⟩ | ⟨rfl, hJx3⟩)
      · have K3 := hid (KN2.out W3 hk3)
        have O3 := hid (ON2.out W3 hk3)
        have J3 := hid hJ3
        clear hJ3 hk3 KN2 ON2
        gi_wp2_with fail
        go_roundw
        case rel => exact ⟨k + 1, _, by omega, by go_num, rfl, J3, K3, O3⟩
        case measure => simp [intOf]; omega
      · gi_wp2_with fail
        refine bodyPost_ret (results_none rfl _ _ _) rfl ?_
        exact ⟨⟨_, rfl⟩, .inr ⟨k + 1, hlt, hJx3⟩⟩
    · obtain rfl : k = len := by omega
      have hk1 : ¬ (k : Int) < (k : Int) := by omega
      gi_wp2_with fail
      go_end0
      exact ⟨⟨_, rfl⟩, .inl HJ.out⟩
end Go.Proofs.Ytofdfofpdfaimaa
