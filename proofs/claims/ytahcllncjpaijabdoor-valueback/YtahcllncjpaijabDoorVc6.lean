/- Values: List; the reference's lists. -/
import Derived.Test.YtahcllncjpaijabDoorVc4
namespace Go.Proofs.YtahcllncjpaijabDoor
open Go.RowKit

/-- Room for so many. -/
theorem make0_g {α : Type} {P : Program} (K : RK α) (hk : K.Ok P) (w : World) {ops : Array Oper} {rest : List Oper} {o : Oper} {a : Act} {Q : Exit → Act → World → Prop}
    (hg : o.guard = none) (l c : Operand) (t : TypeId) (hop : o.op = Op.makeSlice t l c) (ht : P.underlying t = some (.slice K.ty))
    (n : Nat) (hl : a.eval l = .int .i64 0) (hc : a.eval c = .int .i64 n) (hn : n ≤ 100000) (hB : K.B ≤ 1000)
    (hK : ∀ w', OwnG K w' w.heap.size (.slice (some ⟨w.heap.size, 0, none⟩) 0 n) [] → Below w.heap.size w w' → wpList P ops Q rest (a.put o.dst (.slice (some ⟨w.heap.size, 0, none⟩) 0 n)) w') : wpList P ops Q (o :: rest) a w := by
  obtain ⟨i0, hi0, hz0, hz1, hz2⟩ := hk.info
  have hmul : K.B * n ≤ 1000 * 100000 := Nat.mul_le_mul hB hn
  refine wpList_make_own w hg l c t hop w.heap.size K.ty i0 K.z K.W ht hi0 hz0 hz1 .i64 .i64 n n hl hc rfl (by rw [hz2]; omega) (by unfold maxLen; omega) (Nat.le_refl _) ?_
  intro w' ho hgr
  exact hK w' ho ((Below.refl _ _).grown hgr (Nat.le_refl _) (fun k hk => by cases hk))
/-- A value of new memory, and whether there is one. -/
def AnsL (w w' : World) (e : Ending) (out : List Atm) (ok : Bool) : Prop := ∃ p c, e = .returned (.tuple #[.slice p out.length c, .bool ok]) ∧ OwnG KA w' w.heap.size (.slice p out.length c) out ∧ Below w.heap.size w w'
theorem AnsL.none {w w' : World} (b : Below w.heap.size w w') : AnsL w w' (.returned (.tuple #[.slice none 0 0, .bool false])) [] false := ⟨.none, 0, rfl, OwnG.nil _ _ _, b⟩
def lokL (A : List (List Atm)) : List Atm := if lokB A = true then lstA A else []
theorem flat_next {A : List (List Atm)} {k : Nat} (h : k < A.length) : (A.take (k + 1)).flatten = (A.take k).flatten ++ A[k] := by
  have e : A.take (k + 1) = A.take k ++ [A[k]] := by rw [List.take_add_one, List.getElem?_eq_getElem h]; rfl
  rw [e, List.flatten_append]; simp
theorem flat_le {A : List (List Atm)} (k : Nat) : (A.take k).flatten.length ≤ A.flatten.length := by
  have e : A.flatten = (A.take k).flatten ++ (A.drop k).flatten := by rw [← List.flatten_append, List.take_append_drop]
  rw [e, List.length_append]; omega
theorem flat_bd {A : List (List Atm)} (h : ∀ a ∈ A, chkV a = 0) : A.flatten.length ≤ A.length * 1024 := by
  induction A with
  | nil => simp
  | cons a r ih =>
    have h1 := ih (fun b hb => h b (List.mem_cons_of_mem _ hb))
    obtain ⟨t, e, ht⟩ := RT.of (h a (List.mem_cons_self ..))
    have h2 := ht.sz
    unfold szV at h2
    rw [← e] at h2
    rw [List.flatten_cons, List.length_append, List.length_cons]; omega
theorem AT_flat {L : List Vx} (h : VT L) : AT (lstA (aL L)) ∧ ∀ k, AT ((aL L).take k).flatten := by
  have h1 : ∀ a ∈ aL L, AT a := fun a ha => by
    obtain ⟨x, hx, e⟩ := List.mem_map.1 ha
    rw [← e]; exact h.t x hx
  refine ⟨fun c hc => ?_, fun k c hc => ?_⟩
  · unfold lstA at hc
    rcases List.mem_append.1 hc with hc | hc
    · obtain ⟨a, ha, hca⟩ := List.mem_flatten.1 hc
      exact h1 a ha c hca
    · rw [List.mem_singleton] at hc; subst hc; show 0 ≤ maxLen; omega
  · obtain ⟨a, ha, hca⟩ := List.mem_flatten.1 hc
    exact h1 a (List.mem_of_mem_take ha) c hca
set_option maxHeartbeats 8000000 in
theorem listOf_any (v : Value) (L : List Vx) (w : World) (h : VR w v L) (ht : VT L) (hr : ∀ a ∈ aL L, chkV a = 0) (hlm : L.length ≤ 4096) :
    Calls Tryd.prog 22 #[v] w fun e w' => AnsL w w' e (lokL (aL L)) (lokB (aL L)) := by
  obtain ⟨p, cap, rfl⟩ := h.gs.form
  have HS : Hid (VR w (.slice p L.length cap) L) := h
  have BR : Hid (Below w.heap.size w w) := Below.refl _ _
  have NO : Hid (∀ w', Below w.heap.size w w' → lokB (aL L) = false → AnsL w w' (.returned (.tuple #[.slice none 0 0, .bool false])) (lokL (aL L)) (lokB (aL L))) := fun w' b e => by unfold lokL; rw [e, if_neg (by decide)]; exact AnsL.none b
  have YES : Hid (∀ w' q n c, OwnG KA w' w.heap.size (.slice q n c) (lstA (aL L)) → n = (lstA (aL L)).length → Below w.heap.size w w' → lokB (aL L) = true → AnsL w w' (.returned (.tuple #[.slice q n c, .bool true])) (lokL (aL L)) (lokB (aL L))) := fun w' q n c o hn b e => by
    subst hn
    unfold lokL; rw [e, if_pos rfl]
    exact ⟨q, c, rfl, o, b⟩
  have fb := flat_bd hr
  rw [aL_len] at fb
  have FN : Hid (∀ k (hk : k < L.length), ((aL L).take (k + 1)).flatten = ((aL L).take k).flatten ++ L[k].a) := fun k hk => by
    rw [flat_next (by rw [aL_len]; exact hk), aL_at hk]
  have FT : Hid (((aL L).take L.length).flatten = (aL L).flatten) := by rw [List.take_of_length_le (by rw [aL_len]; exact Nat.le_refl _)]; rfl
  have FL : Hid (∀ k, ((aL L).take k).flatten.length ≤ (aL L).flatten.length) := fun k => flat_le k
  have LK : Hid (lokB (aL L) = decide ((aL L).flatten.length < 1024 ∧ depV (lstA (aL L)) ≤ 32)) := rfl
  have LA : Hid (lstA (aL L) = (aL L).flatten ++ [⟨3, (L.length : Nat), 0, ByteArray.empty⟩]) := by show _ = _; unfold lstA; rw [aL_len]
  have DP : Hid (∀ w1 u, AS w1 u (lstA (aL L)) → (aL L).flatten.length < 1024 → _) := fun w1 u hu hl => depthOf_any u (lstA (aL L)) w1 hu (AT_flat ht).1 (by rw [lstA_len]; omega)
  have Z0 : Hid (((aL L).take 0).flatten.length = 0 ∧ ((aL L).take 0).flatten = []) := ⟨rfl, rfl⟩
  have hdn := depV_nn (lstA (aL L))
  generalize lokB (aL L) = lk at *
  generalize lokL (aL L) = ll at *
  clear h ht hr
  go_enter Tryd.func22, Tryd.ntmps22
  go_wp2_with fail
  go_loopw [4, 12] (fun v4 v12 wr => ∃ (k m : Nat) (wk : World), v12 = .int .i64 k ∧ v4 = .int .i64 m ∧ wk = wr ∧ wk = w ∧ k ≤ L.length ∧ Hid (m = ((aL L).take k).flatten.length + 1)) (fun _ v12 _ => L.length - (intOf v12).toNat)
  case atStart => exact ⟨0, 1, _, rfl, rfl, rfl, rfl, Nat.zero_le _, rfl⟩
  case round =>
    obtain ⟨k, m, wr, rfl, rfl, rfl, rfl, hk, HM⟩ := hrel
    have hm : m ≤ 4194305 := by have h1 := FL.out k; have h2 := HM.out; omega
    by_cases hlt : k < L.length
    · obtain ⟨X, o, e1, x0⟩ := HS.out.gs.atV hlt
      obtain rfl : p = some ⟨X, o, none⟩ := e1
      have HN : Hid (m + L[k].a.length = ((aL L).take (k + 1)).flatten.length + 1) := by show _ = _; rw [FN.out k hlt, List.length_append, HM.out]; omega
      have hb : m + L[k].a.length ≤ 4194305 := by have h1 := FL.out (k + 1); have h2 := HN.out; omega
      obtain ⟨c, hc⟩ : ∃ c, c = L[k] := ⟨_, rfl⟩
      rw [← hc] at x0 HN hb
      clear hc FN FL DP NO YES HM
      go_wp2_with fail
      go_roundw
      case rel => exact ⟨k + 1, m + c.a.length, _, by go_num, by go_num, rfl, rfl, hlt, HN⟩
      case measure => simp [intOf]; omega
    · obtain rfl : k = L.length := by omega
      rw [FT.out] at HM
      by_cases hbig : (aL L).flatten.length < 1024
      · have hm2 : ¬ (m : Int) > 1024 := by have := HM.out; omega
        have hm3 : m ≤ 1024 := by omega
        go_wp2_with (at_make; refine make0_g KA KA_ok _ rfl _ _ 23 rfl Tryd.underlying23 m rfl rfl (by omega) (by decide) ?_; intro w5 ho5 hb5)
        have H5 : Hid (OwnG KA w5 wr.heap.size (.slice (some ⟨wr.heap.size, 0, none⟩) 0 m) [] ∧ Below wr.heap.size wr w5) := ⟨ho5, hb5⟩
        clear ho5 hb5
        go_wp2_with fail
        go_loopw [7, 27] (fun v7 v27 wx => ∃ (k n c : Nat) (q : Option Addr) (wk : World), v27 = .int .i64 k ∧ v7 = .slice q n c ∧ wk = wx ∧ k ≤ L.length ∧ Hid (n = ((aL L).take k).flatten.length) ∧ Hid (OwnG KA wk wr.heap.size (.slice q n c) ((aL L).take k).flatten ∧ Below wr.heap.size wr wk)) (fun _ v27 _ => L.length - (intOf v27).toNat)
        case atStart => exact ⟨0, 0, m, _, _, rfl, rfl, rfl, Nat.zero_le _, Z0.out.1.symm, H5⟩
        case round =>
          obtain ⟨k, n, c, q, wx, rfl, rfl, rfl, hk, HN, HO⟩ := hrel
          clear H5 Z0
          by_cases hlt : k < L.length
          · obtain ⟨X, o, e1, x0⟩ := (HS.out.gs.below HO.out.2).atV hlt
            obtain rfl : p = some ⟨X, o, none⟩ := e1
            have GX : Hid (AS wx (.slice L[k].q L[k].a.length L[k].c) L[k].a) := (HS.out.av _ (List.getElem_mem hlt)).below HO.out.2
            have FK : Hid _ := FN.out k hlt
            have LS : Hid ((((aL L).take k).flatten.length + L[k].a.length) * KA.B ≤ 140737488355328) := by
              have h1 := FL.out (k + 1)
              rw [FK.out, List.length_append] at h1
              show _ * 40 ≤ _; omega
            obtain ⟨x, hx⟩ : ∃ x, x = L[k] := ⟨_, rfl⟩
            rw [← hx] at x0 GX FK LS
            have O1 : Hid _ := HO.out.1
            have B1 : Hid _ := HO.out.2
            have Z1 : Hid (wr.heap.size ≤ wx.heap.size) := HO.out.2.size
            clear hx FN HO HN
            go_wp2_with (at_builtin; refine append_gs KA KA_ok rfl (.tmp 31) (.tmp 32) 23 rfl wr.heap.size Tryd.underlying23 wx _ (.slice x.q x.a.length x.c) _ x.a rfl rfl O1.out GX.out LS.out Z1.out ?_; intro v8 w8 ho8 hb8 hk8)
            rw [← FK.out] at ho8
            obtain ⟨q2, c2, rfl, _⟩ := ho8.form
            have H8 : Hid (_ ∧ _) := ⟨ho8, B1.out.trans hb8⟩
            clear ho8 hb8 hk8 B1 O1
            go_roundw
            case rel => exact ⟨k + 1, _, c2, q2, _, by go_num, rfl, rfl, hlt, rfl, H8⟩
            case measure => simp [intOf]; omega
          · obtain rfl : k = L.length := by omega
            rw [FT.out] at HN HO
            have LS : Hid (((aL L).flatten.length + 1) * KA.B ≤ 140737488355328) := by show (_ + 1) * 40 ≤ _; omega
            have O1 : Hid _ := HO.out.1
            have B1 : Hid _ := HO.out.2
            have Z1 : Hid (wr.heap.size ≤ wx.heap.size) := HO.out.2.size
            have HLE : Hid ((aL L).flatten.length + 1 = (lstA (aL L)).length) := (lstA_len _).symm
            clear HO FN FL FT HM
            generalize (aL L).flatten = F at *
            go_wp2_with (at_builtin; refine append_g KA KA_ok rfl (.tmp 35) (.tmp 39) 23 rfl wr.heap.size Tryd.underlying23 wx _ _ (.slice q n c) _ ⟨3, (L.length : Nat), 0, ByteArray.empty⟩ _ rfl O1.out _ rfl rfl rfl LS.out Z1.out ?_; intro g8 c8 w8 ho8 hb8 hk8 hg8)
            rw [← LA.out] at ho8
            have D8 : Hid _ := DP.out w8 _ (ho8.gs KA_ok.len) hbig
            have O8 : Hid _ := ho8
            have B8 : Hid (Below wr.heap.size wr w8) := B1.out.trans hb8
            clear ho8 hb8 hk8 hg8 B1 O1 DP
            generalize depV (lstA (aL L)) = d at *
            by_cases hd : 32 < d
            · have hd2 : d > 32 := hd
              have LF : Hid (lk = false) := by show _ = _; rw [LK.out]; simp; omega
              go_wp2_with fail
              refine Calls.mono D8.out ?_
              rintro e w9 ⟨rfl, hb9⟩
              have B9 : Hid (Below wr.heap.size wr w9) := B8.out.trans (hb9.mono B8.out.size)
              clear hb9 D8
              go_wp2_with fail
              exact bodyPost_ret (v := .tuple #[.slice none 0 0, .bool false]) (by simp [results, Tryd.results22, go_sem]) rfl (NO.out _ B9.out LF.out)
            · have hd2 : ¬ d > 32 := hd
              have LF : Hid (lk = true) := by show _ = _; rw [LK.out]; simp only [decide_eq_true_eq]; exact ⟨hbig, by omega⟩
              go_wp2_with fail
              refine Calls.mono D8.out ?_
              rintro e w9 ⟨rfl, hb9⟩
              have B9 : Hid (Below wr.heap.size wr w9) := B8.out.trans (hb9.mono B8.out.size)
              have O9 : Hid (OwnG KA w9 wr.heap.size (.slice (some ⟨g8, 0, none⟩) (F.length + 1) c8) (lstA (aL L))) := OwnG.below (w := w8) O8.out hb9
              clear hb9 D8
              go_wp2_with fail
              exact bodyPost_ret (v := .tuple #[.slice (some ⟨g8, 0, none⟩) (F.length + 1) c8, .bool true]) (by simp [results, Tryd.results22, go_sem]) rfl (YES.out _ _ _ _ O9.out HLE.out B9.out LF.out)
      · have hm2 : (m : Int) > 1024 := by have := HM.out; omega
        have LF : Hid (lk = false) := by show _ = _; rw [LK.out]; simp only [decide_eq_false_iff_not]; omega
        clear HM FN FL FT DP
        go_wp2_with fail
        exact bodyPost_ret (v := .tuple #[.slice none 0 0, .bool false]) (by simp [results, Tryd.results22, go_sem]) rfl (NO.out _ BR.out LF.out)
end Go.Proofs.YtahcllncjpaijabDoor
namespace Go.Proofs.YtahcllncjpaijabDoor
open Go.RowKit

set_option maxHeartbeats 4000000 in
theorem list_any (v : Value) (L : List Vx) (w : World) (h : VR w v L) (ht : VT L) :
    Calls Tryd.prog 9 #[v] w fun e w' => AnsV w w' e (listL (aL L)) (listE (aL L)) := by
  have CA : Hid _ := checkAll_any v L w h ht
  have LO : Hid (∀ w1, Below w.heap.size w w1 → allE (aL L) = 0 → Calls Tryd.prog 22 #[v] w1 fun e w' => AnsL w1 w' e (lokL (aL L)) (lokB (aL L))) := fun w1 b e => listOf_any v L w1 (h.below b) ht (firstE_zero (allE_zero e).2) (by have := (allE_zero e).1; rw [aL_len] at this; exact this)
  have HE : Hid (listE (aL L) = if allE (aL L) = 0 then (if lokB (aL L) = true then 0 else 3) else allE (aL L)) := rfl
  have HL : Hid (listL (aL L) = if listE (aL L) = 0 then lstA (aL L) else []) := rfl
  have HK : Hid (lokL (aL L) = if lokB (aL L) = true then lstA (aL L) else []) := rfl
  obtain ⟨p, cap, rfl⟩ := h.gs.form
  clear h ht
  generalize allE (aL L) = r at *
  by_cases hz : r = 0
  · subst hz
    rw [if_pos rfl] at HE
    cases hk : lokB (aL L) with
    | true =>
      rw [hk, if_pos rfl] at HE HK
      rw [HE.out, if_pos rfl] at HL
      rw [HL.out, HE.out]
      rw [hk, HK.out] at LO
      clear HE HL HK
      generalize lstA (aL L) = out at *
      go_enter Tryd.func9, Tryd.ntmps9
      go_wp2_with fail
      refine Calls.mono CA.out ?_
      rintro e w1 ⟨rfl, hb1⟩
      have B1 : Hid (Below w.heap.size w w1) := hb1
      have L1 : Hid _ := LO.out w1 hb1 (by simp)
      clear hb1 CA LO
      go_wp2_with fail
      refine Calls.mono L1.out ?_
      rintro e w2 ⟨q, c, rfl, ho2, hb2⟩
      have H2 : Hid (OwnG KA w2 w.heap.size (.slice q out.length c) out ∧ Below w.heap.size w w2) := ⟨ho2.low B1.out.size, B1.out.trans (hb2.mono B1.out.size)⟩
      clear ho2 hb2 L1
      go_wp2_with fail
      exact bodyPost_ret (v := .tuple #[.slice q out.length c, .int .i64 0]) (by simp [results, Tryd.results9, go_sem]) rfl ⟨q, c, rfl, H2.out.1, H2.out.2⟩
    | false =>
      rw [hk, if_neg (by decide)] at HE HK
      rw [HE.out, if_neg (by decide)] at HL
      rw [HL.out, HE.out]
      rw [hk, HK.out] at LO
      clear HE HL HK
      go_enter Tryd.func9, Tryd.ntmps9
      go_wp2_with fail
      refine Calls.mono CA.out ?_
      rintro e w1 ⟨rfl, hb1⟩
      have B1 : Hid (Below w.heap.size w w1) := hb1
      have L1 : Hid _ := LO.out w1 hb1 (by simp)
      clear hb1 CA LO
      go_wp2_with fail
      refine Calls.mono L1.out ?_
      rintro e w2 ⟨q, c, rfl, ho2, hb2⟩
      have H2 : Hid (Below w.heap.size w w2) := B1.out.trans (hb2.mono B1.out.size)
      clear ho2 hb2 L1
      go_wp2_with fail
      exact bodyPost_ret (v := .tuple #[.slice none 0 0, .int .i64 3]) (by simp [results, Tryd.results9, go_sem]) rfl (AnsV.none H2.out 3)
  · rw [if_neg hz] at HE
    rw [HE.out, if_neg hz] at HL
    rw [HL.out, HE.out]
    clear HE HL HK LO
    go_enter Tryd.func9, Tryd.ntmps9
    go_wp2_with fail
    refine Calls.mono CA.out ?_
    rintro e w1 ⟨rfl, hb1⟩
    have B1 : Hid (Below w.heap.size w w1) := hb1
    clear hb1 CA
    go_wp2_with fail
    exact bodyPost_ret (v := .tuple #[.slice none 0 0, .int .i64 r]) (by simp [results, Tryd.results9, go_sem]) rfl (AnsV.none B1.out r)
/-- The reference's list: its atoms are told also where it is not right. -/
def AnsM (w w' : World) (e : Ending) (A : List (List Atm)) : Prop := ∃ p n c, e = .returned (.tuple #[.slice p n c, .bool (lokB A)]) ∧ (lokB A = true → n = (lstA A).length ∧ OwnG KA w' w.heap.size (.slice p n c) (lstA A)) ∧ Below w.heap.size w w'
end Go.Proofs.YtahcllncjpaijabDoor
