/- Names: the law's example. -/
import Derived.Test.YthmppnmmlblbhaaDoorQb7
import Derived.Test.YthmppnmmlblbhaaDoorPn1
namespace Go.Proofs.YthmppnmmlblbhaaDoor
open Go.RowKit Go.Maps

/-- A number with a fault. -/
def AnsN (w w' : World) (e : Ending) (r : Int) (x : Int × Int) : Prop := e = .returned (.tuple #[.int .i64 r, .agg #[.int .i64 x.1, .int .i64 x.2]]) ∧ Below w.heap.size w w'
theorem LI.void (A : ByteArray → List ByteArray) (P : ByteArray → Bool) : LI A P (fun _ => none) [] := ⟨fun _ _ h => (by cases h), fun _ h => (by cases h)⟩
theorem LAns.a {L : List Prv} {w w' : World} {bK B : Nat} {g : ByteArray → Option Int} {path : List ByteArray} {nm : ByteArray} {r : Int} (h : LAns L w w' bK B g path nm r) : LgA (askF L) (inB (nameL L)) nm r := by
  rcases h with h | ⟨n, h1, _, h2, _⟩
  · exact Or.inl h
  · exact Or.inr ⟨n, h1, h2⟩
set_option maxHeartbeats 8000000 in
theorem longestE_any (v : Value) (L : List Pvx) (nm : ByteArray) (w : World) (h : PR w v L) (hv : NV w) (hnm : nm.size ≤ maxLen) :
    Calls Tryd.prog 33 #[v, .string nm] w fun e w' => AnsN w w' e (longF (pL L) nm) (fromF (pL L) nm) := by
  have A0 : Hid (∀ ob, Below w.heap.size w (w.alloc ob)) := fun ob => (Below.refl _ _).alloc (Nat.le_refl _) ob
  have F0 : Hid (FBx (w.alloc (.cells #[.int .i64 0, .int .i64 0] 26)) w.heap.size 0 0) := heap_alloc_new _ _
  by_cases hn : (fromF (pL L) nm).2 = 0
  · obtain ⟨hs0, _, hz⟩ := fromF_ok hn
    have hfi := (fine_of hs0).1
    have e1 : longF (pL L) nm = lngI (pL L) nm := by unfold longF; rw [if_pos hn]
    rw [e1, hz]
    have AK : Hid (∀ w1, Below w.heap.size w w1 → _) := fun w1 b => askingFrom_ok v L nm w1 (h.below b) (hv.below b) hnm hn
    have LG : Hid (∀ w1 b f, AKM w1 b (pL L) f → ∀ w2, Below w1.heap.size w1 w2 → w1.heap.size ≤ w2.heap.size → ∀ bK, MN w2 bK 0 (fun _ => none) → w1.heap.size ≤ bK → Calls Tryd.prog 68 #[.map (some b), .string nm, .map (some bK)] w2 fun e w' => e = .returned (.int .i64 (lngI (pL L) nm)) ∧ But (fun x => x = bK) w2 w') := fun w1 b f hk w2 b2 _ bK hm hbk => by
      have hmu := mu_top (nameL (pL L)) (inI (fun _ => none))
      rw [nameL_len] at hmu
      have hl := hfi.len
      refine (longest_any (pL L) b bK f (by rw [pL_len]; exact hl) (by have := hk.mv.lt; omega) _ nm w2 0 1000 (fun _ => none) [] (Nat.le_refl _) (by omega) (by omega) hnm (hk.below b2) hm (LI.void _ _) (by simp)).mono ?_
      rintro e w' ⟨r, rfl, han, hb⟩
      exact ⟨by rw [lngI_eq han.a], hb⟩
    have hmm := @run_makeMap Tryd.prog
    obtain ⟨p, cap, rfl⟩ := h.gs.form
    generalize lngI (pL L) nm = T at *
    clear h hv hn hz e1 hfi hs0
    go_enter Tryd.func33, Tryd.ntmps33
    go_wp2_with fail
    refine Calls.mono (AK.out _ (A0.out _)) ?_
    rintro e w1 ⟨b, f, rfl, hk, hb1⟩
    have B1 : Hid (Below w.heap.size w w1) := (A0.out _).trans (hb1.mono (A0.out _).size)
    have F1 : Hid (FBx w1 w.heap.size 0 0) := F0.out.below hb1
    have BA : Hid (∀ ob, Below w1.heap.size w1 ((w1.alloc ob).alloc (.map #[] 0))) := fun ob => ((Below.refl _ _).alloc (Nat.le_refl _) _).alloc (by simp) _
    have LC : Hid (∀ ob, Calls Tryd.prog 68 #[.map (some b), .string nm, .map (some (w1.heap.size + 1))] ((w1.alloc ob).alloc (.map #[] 0)) fun e w' => e = .returned (.int .i64 T) ∧ But (fun x => x = w1.heap.size + 1) ((w1.alloc ob).alloc (.map #[] 0)) w') := fun ob => by
      refine LG.out w1 b f hk _ (BA.out ob) (BA.out ob).size (w1.heap.size + 1) ?_ (by omega)
      have h := MV.made (w1.alloc ob)
      rw [show (w1.alloc ob).heap.size = w1.heap.size + 1 by simp] at h
      exact h
    clear hk hb1 AK F0 LG
    go_wp2_with fail
    refine Calls.mono (LC.out _) ?_
    rintro e w2 ⟨rfl, hb2⟩
    have C2 : Hid (Below w1.heap.size w1 w2) := (BA.out _).trans ⟨hb2.os, hb2.tape, hb2.output, hb2.size, fun x hx => hb2.block x (by simp; omega) (by omega)⟩
    have B2 : Hid (Below w.heap.size w w2) := B1.out.trans (C2.out.mono B1.out.size)
    have F2 : Hid (FBx w2 w.heap.size 0 0) := F1.out.below C2.out
    obtain ⟨y0, y1⟩ := F2.out.cells
    have fz := F2.out.fz
    have zl := F2.out.lt
    clear hb2 LC
    go_wp2_with fail
    exact bodyPost_ret (v := .tuple #[.int .i64 T, .agg #[.int .i64 0, .int .i64 0]]) (by simp [results, Tryd.results33, go_sem, y0, y1]) rfl ⟨rfl, below_set2 B2.out (Nat.le_refl _) _ _⟩
  · have e1 : longF (pL L) nm = 0 := by unfold longF; rw [if_neg hn]
    rw [e1]
    have AK : Hid (∀ w1, Below w.heap.size w w1 → _) := fun w1 b => askingFrom_no v L nm w1 (h.below b) (hv.below b) hnm hn
    obtain ⟨p, cap, rfl⟩ := h.gs.form
    generalize fromF (pL L) nm = R at *
    obtain ⟨ra, rc⟩ := R
    have h1 : (rc == 0) = false := by simpa using hn
    have h2 : (rc != 0) = true := by simpa using hn
    clear h hv e1
    go_enter Tryd.func33, Tryd.ntmps33
    go_wp2_with fail
    refine Calls.mono (AK.out _ (A0.out _)) ?_
    rintro e w1 ⟨m, rfl, hb1⟩
    have B1 : Hid (Below w.heap.size w w1) := (A0.out _).trans (hb1.mono (A0.out _).size)
    have F1 : Hid (FBx w1 w.heap.size 0 0) := F0.out.below hb1
    clear hb1 AK
    obtain ⟨y0, y1⟩ := F1.out.cells
    have fz := F1.out.fz
    have zl := F1.out.lt
    obtain ⟨z0, z1⟩ := F1.out.setA ra rc
    go_wp2_with fail
    go_region
    all_goals
      go_wp2_with fail
      exact bodyPost_ret (v := .tuple #[.int .i64 0, .agg #[.int .i64 ra, .int .i64 rc]]) (by simp [results, Tryd.results33, go_sem, z0, z1]) rfl ⟨rfl, (below_alloc' (below_set2 B1.out (Nat.le_refl _) _ _) _).drew⟩
end Go.Proofs.YthmppnmmlblbhaaDoor
namespace Go.Proofs.YthmppnmmlblbhaaDoor
open Go.RowKit

theorem dup_nodup (L : List Prv) : (∀ j, j < L.length → dupB L j = false) ↔ (nameL L).Nodup := by
  have hlen : (nameL L).length = L.length := by unfold nameL; simp
  have hd : ∀ j (hj : j < (nameL L).length), dupB L j = true ↔ ∃ i, ∃ hi : i < j, (nameL L)[j] = (nameL L)[i]'(by omega) := fun j hj => by
    unfold dupB seenK
    rw [List.any_eq_true]
    have e : (nameL L).getD j ByteArray.empty = (nameL L)[j] := by simp [List.getD, hj]
    rw [e]
    constructor
    · rintro ⟨x, hx, e2⟩
      rw [List.mem_take_iff_getElem] at hx
      obtain ⟨i, hi, rfl⟩ := hx
      exact ⟨i, by omega, of_decide_eq_true e2⟩
    · rintro ⟨i, hi, e2⟩
      refine ⟨(nameL L)[i]'(by omega), ?_, by simpa using e2⟩
      rw [List.mem_take_iff_getElem]
      exact ⟨i, by omega, rfl⟩
  unfold List.Nodup
  rw [List.pairwise_iff_getElem]
  constructor
  · intro h i j hi hj hij e
    have := h j (by omega)
    have h2 := (hd j hj).2 ⟨i, hij, e.symm⟩
    rw [this] at h2; cases h2
  · intro h j hj
    cases hb : dupB L j with
    | false => rfl
    | true =>
      obtain ⟨i, hi, e⟩ := (hd j (by omega)).1 hb
      exact absurd e.symm (h i j (by omega) (by omega) hi)
theorem nodup_rev {l : List ByteArray} (h : l.Nodup) : l.reverse.Nodup := by
  unfold List.Nodup at h ⊢
  rw [List.pairwise_reverse]
  exact h.imp fun hne e => hne e.symm
theorem nameL_rev (L : List Prv) : nameL L.reverse = (nameL L).reverse := by unfold nameL; rw [List.map_reverse]
theorem find_mem {L : List Prv} (hd : (nameL L).Nodup) {p : Prv} (hp : p ∈ L) : L.find? (fun q => decide (q.name = p.name)) = some p := by
  obtain ⟨k, hk, rfl⟩ := List.mem_iff_getElem.1 hp
  exact find_name hk ((dup_nodup L).2 hd)
theorem find_out {L : List Prv} {s : ByteArray} (h : s ∉ nameL L) : L.find? (fun q => decide (q.name = s)) = none := by
  rw [List.find?_eq_none]
  intro p hp
  simp only [decide_eq_true_eq]
  intro e
  exact h (List.mem_map.2 ⟨p, hp, e⟩)
theorem askF_in {L : List Prv} (hd : (nameL L).Nodup) {p : Prv} (hp : p ∈ L) : askF L p.name = textsL p.ops 3 := by unfold askF; rw [find_mem hd hp]
theorem askF_perm {L M : List Prv} (hL : (nameL L).Nodup) (hM : (nameL M).Nodup) (h : ∀ p, p ∈ L ↔ p ∈ M) : askF L = askF M := by
  funext s
  by_cases hs : s ∈ nameL L
  · obtain ⟨p, hp, rfl⟩ := List.mem_map.1 hs
    rw [askF_in hL hp, askF_in hM ((h p).1 hp)]
  · have hs2 : s ∉ nameL M := fun e => by
      obtain ⟨p, hp, rfl⟩ := List.mem_map.1 e
      exact hs (List.mem_map.2 ⟨p, (h p).2 hp, rfl⟩)
    unfold askF
    rw [find_out hs, find_out hs2]
theorem setF_rev {L : List Prv} (h : (setF L).2 = 0) : setF L.reverse = (0, 0) := by
  obtain ⟨h1, h2, h3, _⟩ := setF_fine h
  have hd : (nameL L).Nodup := (dup_nodup L).1 h3
  refine setF_ok (by rw [List.length_reverse]; omega) (fun j hj => ?_) ((dup_nodup L.reverse).2 (by rw [nameL_rev]; exact nodup_rev hd))
  rw [List.length_reverse] at hj
  rw [List.getElem_reverse]
  exact h2 _ (by omega)
theorem inB_rev (L : List Prv) (s : ByteArray) : inB (nameL L.reverse) s = inB (nameL L) s := by
  rw [Bool.eq_iff_iff, inB_iff, inB_iff, nameL_rev, List.mem_reverse]
/-- Turned about, a right set has the same closures, rounds, chains. -/
theorem turned_same {L : List Prv} (h : (setF L).2 = 0) (s : ByteArray) : fromF L.reverse s = fromF L s ∧ closL L.reverse s = closL L s ∧ cycL L.reverse = cycL L ∧ longF L.reverse s = longF L s ∧ setF L.reverse = setF L := by
  obtain ⟨_, _, h3, h4⟩ := setF_fine h
  have hd : (nameL L).Nodup := (dup_nodup L).1 h3
  have hr := setF_rev h
  have ha : askF L.reverse = askF L := askF_perm (by rw [nameL_rev]; exact nodup_rev hd) hd (fun p => List.mem_reverse)
  have hi : inB (nameL L.reverse) = inB (nameL L) := funext fun s => inB_rev L s
  have hf : fromF L.reverse s = fromF L s := by unfold fromF; rw [hr, h4, hi]
  refine ⟨hf, ?_, ?_, ?_, by rw [hr, h4]⟩
  · unfold closL; rw [hf, ha]
  · unfold cycL; rw [hr, h4, ha]
  · unfold longF lngI; rw [hf, ha, hi]
theorem pL_rev (L : List Pvx) : pL L.reverse = (pL L).reverse := by unfold pL; rw [List.map_reverse]
theorem srtL_len {p : ByteArray → Bool} {l : List ByteArray} (h : ∀ s, p s = true → s ∈ l) : (srtL p).length ≤ l.length := by
  by_cases hx : ∃ T, Srt T p
  · obtain ⟨T, hT⟩ := hx
    rw [← hT.eq]
    exact nodup_le T l (hT.up.imp fun {a b} hlt e => by subst e; exact List.lt_irrefl _ hlt) (fun x hx => h x ((hT.mem x).1 hx))
  · unfold srtL; rw [dif_neg hx]; simp
theorem rch_last {A : ByteArray → List ByteArray} {U : List ByteArray} (hU : ∀ x y, y ∈ A x → y ∈ U) {x z : ByteArray} (h : Rch A x z) : z ∈ U := by
  induction h with
  | one h => exact hU _ _ h
  | more _ _ ih => exact ih
theorem askU_len {L : List Prv} (h : (setF L).2 = 0) : (askU L).length ≤ 65536 := by
  obtain ⟨h1, h2, _, _⟩ := setF_fine h
  have key : ∀ M : List Prv, (∀ p ∈ M, p.ops.length ≤ 256) → (askU M).length ≤ M.length * 256 := fun M => by
    induction M with
    | nil => intro _; simp [askU]
    | cons a r ih =>
      intro hM
      have h1 := ih (fun x hx => hM x (.tail _ hx))
      have h2 := hM a (.head _)
      have h3 := textsL_len a.ops 3
      unfold askU at h1 ⊢
      rw [List.flatMap_cons, List.length_append, List.length_cons]
      omega
  have := key L (fun p hp => by obtain ⟨k, hk, rfl⟩ := List.mem_iff_getElem.1 hp; exact (chkO_ok (prvE_ops (h2 k hk)).1).1)
  omega
theorem closL_len (L : List Prv) (s : ByteArray) : (closL L s).length ≤ 1000000000000 := by
  unfold closL
  split
  · rename_i h
    have h1 := askU_len (fromF_ok h).1
    have h2 := srtL_len (p := rchB (askF L) s) (l := askU L) (fun x hx => rch_last (fun _ _ hy => askF_mem hy) (rchB_iff.1 hx))
    omega
  · simp
theorem cycL_len (L : List Prv) : (cycL L).length ≤ 1000000000000 := by
  unfold cycL
  split
  · rename_i h
    have h1 := askU_len h
    have h2 := srtL_len (p := fun s => rchB (askF L) s s) (l := askU L) (fun x hx => rch_last (fun _ _ hy => askF_mem hy) (rchB_iff.1 hx))
    omega
  · simp
end Go.Proofs.YthmppnmmlblbhaaDoor
namespace Go.Proofs.YthmppnmmlblbhaaDoor
open Go.RowKit

theorem OwnG.lit {α : Type} (K : RK α) (w : World) (l : List α) (cells : Array Value) (hc : cells.toList = l.flatMap K.f) (hl : cells.size = l.length * K.W) (hm : l.length ≤ maxLen) : OwnG K (w.alloc (.cells cells K.ty)) w.heap.size (.slice (some ⟨w.heap.size, 0, none⟩) l.length l.length) l :=
  ⟨by rw [← hc]; simpa using hl, Or.inr ⟨w.heap.size, l.length, cells, rfl, Nat.le_refl _, heap_alloc_new w _, Nat.le_refl _, hm, hl, by rw [← hc, List.take_of_length_le]; simp [hl]⟩⟩
def tA : ByteArray := ⟨#[97]⟩
def tB : ByteArray := ⟨#[98]⟩
def tC : ByteArray := ⟨#[99]⟩
def exL : List Opn := [⟨3, 0, 0, tA⟩, ⟨3, 0, 0, tB⟩, ⟨3, 0, 0, tC⟩, ⟨6, 2, 0, ByteArray.empty⟩, ⟨3, 0, 0, tC⟩, ⟨14, 3, 0, ByteArray.empty⟩]
theorem exL_chk : chkO exL = 0 := by kernel_rfl
theorem exL_ask : askL exL 3 = [tA, tB, tC] := by kernel_rfl
theorem exL_sure : sureL exL = [tA, tC] := by kernel_rfl
set_option maxHeartbeats 4000000 in
theorem works_any (w : World) (hv : NV w) :
    Calls Tryd.prog 35 #[] w fun e w' => e = .returned (.bool true) ∧ Below w.heap.size w w' := by
  go_enter Tryd.func35, Tryd.ntmps35
  go_upto_region 2 with fail
  generalize hW : w.alloc _ = W
  have O0 : OwnG KO W w.heap.size (.slice (some ⟨w.heap.size, 0, none⟩) exL.length exL.length) exL := by rw [← hW]; exact OwnG.lit KO w exL _ rfl rfl (by show 6 ≤ maxLen; unfold maxLen; omega)
  have B0 : Hid (Below w.heap.size w W) := by rw [← hW]; exact (Below.refl _ _).alloc (Nat.le_refl _) _
  have ht : ∀ c ∈ exL, c.text.size ≤ maxLen := by
    have : ∀ c ∈ exL, c.text.size ≤ 1 := by decide
    intro c hc; have := this c hc; unfold maxLen; omega
  have S0 : Hid (OS W (.slice (some ⟨w.heap.size, 0, none⟩) 6 6) exL) := O0.gs KO_ok.len
  have AK : Hid (∀ w1, Below w.heap.size w w1 → OS w1 (.slice (some ⟨w.heap.size, 0, none⟩) 6 6) exL → Calls Tryd.prog 23 #[.slice (some ⟨w.heap.size, 0, none⟩) 6 6] w1 fun e w' => AnsT w1 w' e [tA, tB, tC] 0) := fun w1 b h => by
    have := asked_any _ exL w1 h ht (hv.below b) (by decide)
    rw [exL_ask, exL_chk] at this; exact this
  have SK : Hid (∀ w1, Below w.heap.size w w1 → OS w1 (.slice (some ⟨w.heap.size, 0, none⟩) 6 6) exL → Calls Tryd.prog 25 #[.slice (some ⟨w.heap.size, 0, none⟩) 6 6] w1 fun e w' => AnsT w1 w' e [tA, tC] 0) := fun w1 b h => by
    have := sure_any _ exL w1 h ht (hv.below b) (by decide)
    rw [exL_sure, exL_chk] at this; exact this
  have ST : Hid (∀ w1 u1 u2 m, GS KS w1 u1 m → GS KS w1 u2 m → m.length ≤ 100 → _) := fun w1 u1 u2 m h1 h2 h3 => sameTextsG w1 u1 u2 m h1 h2 (by omega)
  clear hW ht O0 hv
  go_wp2_with fail
  refine Calls.mono (AK.out _ B0.out S0.out) ?_
  rintro e w1 ⟨p1, c1, rfl, ho1, hb1⟩
  have B1 : Hid (Below w.heap.size w w1) := B0.out.trans (hb1.mono B0.out.size)
  have S1 : Hid (OS w1 (.slice (some ⟨w.heap.size, 0, none⟩) 6 6) exL) := S0.out.below hb1
  have T1 : Hid (GS KS w1 (.slice p1 3 c1) [tA, tB, tC]) := ho1.gs KS_ok.len
  clear ho1 hb1 AK S0 B0
  go_wp2_with fail
  refine Calls.mono (SK.out _ B1.out S1.out) ?_
  rintro e w2 ⟨p2, c2, rfl, ho2, hb2⟩
  have B2 : Hid (Below w.heap.size w w2) := B1.out.trans (hb2.mono B1.out.size)
  have T2 : Hid (GS KS w2 (.slice p1 3 c1) [tA, tB, tC]) := T1.out.below hb2
  have U2 : Hid (GS KS w2 (.slice p2 2 c2) [tA, tC]) := ho2.gs KS_ok.len
  clear ho2 hb2 SK S1 B1 T1
  go_wp2_with fail
  have AL3 := (Below.refl _ w2).alloc (Nat.le_refl _) (.cells #[.string tA, .string tB, .string tC] 9)
  have L3 : GS KS (w2.alloc (.cells #[.string tA, .string tB, .string tC] 9)) (.slice (some ⟨w2.heap.size, 0, none⟩) 3 3) [tA, tB, tC] := (OwnG.lit KS w2 [tA, tB, tC] _ rfl rfl (by show 3 ≤ maxLen; unfold maxLen; omega)).gs KS_ok.len
  have B3 : Below w.heap.size w (w2.alloc (.cells #[.string tA, .string tB, .string tC] 9)) := B2.out.trans (AL3.mono B2.out.size)
  refine Calls.mono (ST.out _ _ _ _ (T2.out.below AL3) L3 (by decide)) ?_
  rintro e w4 ⟨rfl, n4, hw4⟩
  have B4 : Hid (Below w.heap.size w w4) := by rw [hw4]; exact ⟨B3.os, B3.tape, B3.output, B3.size, B3.block⟩
  have U4 : Hid (GS KS w4 (.slice p2 2 c2) [tA, tC]) := by
    rw [hw4]
    exact (U2.out.below AL3).blk (Nat.le_refl _) (fun _ _ _ => rfl)
  clear hw4 B3 L3 AL3 B2 U2 T2
  go_wp2_with fail
  have AL5 := (Below.refl _ w4).alloc (Nat.le_refl _) (.cells #[.string tA, .string tC] 9)
  have L5 : GS KS (w4.alloc (.cells #[.string tA, .string tC] 9)) (.slice (some ⟨w4.heap.size, 0, none⟩) 2 2) [tA, tC] := (OwnG.lit KS w4 [tA, tC] _ rfl rfl (by show 2 ≤ maxLen; unfold maxLen; omega)).gs KS_ok.len
  have B5 : Below w.heap.size w (w4.alloc (.cells #[.string tA, .string tC] 9)) := B4.out.trans (AL5.mono B4.out.size)
  refine Calls.mono (ST.out _ _ _ _ (U4.out.below AL5) L5 (by decide)) ?_
  rintro e w6 ⟨rfl, n6, hw6⟩
  have B6 : Hid (Below w.heap.size w w6) := by rw [hw6]; exact ⟨B5.os, B5.tape, B5.output, B5.size, B5.block⟩
  clear hw6 B5 L5 AL5 B4 U4 ST
  go_wp2_with fail
  go_ret
  exact ⟨rfl, B6.out⟩
end Go.Proofs.YthmppnmmlblbhaaDoor
