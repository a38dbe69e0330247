/- Failures: the reference's Print, walked. -/
import Derived.Test.YtaleagkhblokgaaDoorNx0
namespace Go.Proofs.YtaleagkhblokgaaDoor
open Go.RowKit

/-- The texts of these failures. -/
def TX (F : List ByteArray) (S : List Ft) : Prop := F.map (fun b => b.data.toList) = S.map prF
theorem TX.len {F : List ByteArray} {S : List Ft} (h : TX F S) : F.length = S.length := by have := congrArg List.length h; simpa using this
theorem TX.take {F : List ByteArray} {S : List Ft} (h : TX F S) (J : Nat) : TX (F.take J) (S.take J) := by unfold TX at h ⊢; rw [List.map_take, List.map_take, h]
theorem TX.snoc {F : List ByteArray} {S : List Ft} (h : TX F S) {f : ByteArray} {t : Ft} (e : f.data.toList = prF t) : TX (F ++ [f]) (S ++ [t]) := by unfold TX at h ⊢; rw [List.map_append, List.map_append, h]; simp [e]
theorem TX.at {F : List ByteArray} {S : List Ft} (h : TX F S) {k : Nat} (hk : k < S.length) : (F.getD k ByteArray.empty).data.toList = prF S[k] := by
  have hl := h.len
  have := congrArg (·[k]?) h
  simp [hk, hl] at this
  rw [List.getD_eq_getElem?_getD, List.getElem?_eq_getElem (by omega)]; exact this
theorem OwnB.cut {w : World} {base g n cap : Nat} {l : List ByteArray} (h : OwnB w base (.slice (some ⟨g, 0, none⟩) n cap) l) (m : Nat) (hm : m ≤ l.length) : OwnB w base (.slice (some ⟨g, 0, none⟩) m cap) (l.take m) := by
  obtain ⟨h1, h2⟩ := h
  have hl : (l.take m).length = m := by simp; omega
  refine ⟨by rw [sV_len]; omega, ?_⟩
  rcases h2 with ⟨h2, _⟩ | ⟨g', cp, cur, e1, e2, e3, e4, e5, e6, e7⟩
  · cases h2
  · injection e1 with e1 e8 e9
    refine Or.inr ⟨g', cap, cur, by rw [hl, ← e1], e2, e3, by omega, by omega, by rw [e9]; exact e6, ?_⟩
    rw [hl]
    have : cur.toList.take (m * 1) = (cur.toList.take (l.length * 1)).take (m * 1) := by rw [List.take_take]; congr 1; omega
    rw [this, e7]
    simp [sV, List.map_take]
theorem bsize (a : ByteArray) : a.data.toList.length = a.size := by rw [Array.length_toList]; rfl
theorem bapp (a b : ByteArray) : (a ++ b).data.toList = a.data.toList ++ b.data.toList := by simp
theorem prL_one (b b' : ByteArray) (ps : List Ft) (h : ps.length = 1) : prL b true ps = prL b' true ps := by
  match ps, h with
  | [t], _ => simp [prL]
theorem OwnB.far' {w w' : World} {base : Nat} {v : Value} {l : List ByteArray} (h : OwnB w base v l) (k : ∀ g, v.ownBlock = some g → w'.heap[g]? = w.heap[g]?) : OwnB w' base v l := by
  obtain ⟨h1, h2⟩ := h
  refine ⟨h1, ?_⟩
  rcases h2 with h2 | ⟨g, cap, cur, e1, e2, e3, e4⟩
  · exact Or.inl h2
  · exact Or.inr ⟨g, cap, cur, e1, e2, by rw [k g (by rw [e1]; rfl)]; exact e3, e4⟩
theorem OwnB.below' {w w' : World} {base : Nat} {v : Value} {l : List ByteArray} (h : OwnB w base v l) (k : Below w.heap.size w w') : OwnB w' base v l :=
  h.far' (fun g hg => k.block g (World.ownsRow.lt h g hg).2)
theorem OwnB.some' {w : World} {base : Nat} {v : Value} {l : List ByteArray} (h : OwnB w base v l) (hl : 0 < l.length) : ∃ g cap, v = .slice (some ⟨g, 0, none⟩) l.length cap := by
  rcases h.2 with ⟨rfl, e⟩ | ⟨g, cap, cur, rfl, _⟩
  · omega
  · exact ⟨g, cap, rfl⟩
theorem own_text {w : World} {base g n cap : Nat} {l : List ByteArray} (h : OwnB w base (.slice (some ⟨g, 0, none⟩) n cap) l) {j : Nat} (hj : j < l.length) : w.cell? ⟨g, j, none⟩ = some (.string (l.getD j ByteArray.empty)) := by
  rcases h.2 with ⟨e, _⟩ | ⟨g', cp, cur, e, _⟩
  · cases e
  · injection e with e1 e2 e3
    subst e2
    have := World.ownsRow.cellAt h j (by omega)
    rw [this]
    simp [sV, List.getD, hj]
theorem own_room {w : World} {base g n cap : Nat} {l : List ByteArray} (h : OwnB w base (.slice (some ⟨g, 0, none⟩) n cap) l) : n = l.length ∧ l.length ≤ cap := by
  rcases h.2 with ⟨e, _⟩ | ⟨g', cp, cur, e, _, _, e4, _⟩
  · cases e
  · injection e with e1 e2 e3
    subst e2 e3
    exact ⟨rfl, e4⟩
theorem drop_one {S : List Ft} {J : Nat} (h : J < S.length) : prL ⟨#[59, 32]⟩ true (S.drop J) = prF S[J] ++ prL ⟨#[59, 32]⟩ false (S.drop (J + 1)) := by
  rw [List.drop_eq_getElem_cons h, prL]; simp
theorem drop_more {S : List Ft} {J : Nat} (h : J < S.length) : prL ⟨#[59, 32]⟩ false (S.drop J) = [59, 32] ++ (prF S[J] ++ prL ⟨#[59, 32]⟩ false (S.drop (J + 1))) := by
  rw [List.drop_eq_getElem_cons h, prL]; simp
/-- The stack of texts so far. -/
structure RP (w wk : World) (va : Value) (F : List ByteArray) (S : List Ft) (k : Nat) (l : List Cr) : Prop where
  bl : Below w.heap.size w wk
  s : OwnB wk w.heap.size va F
  tx : TX F S
  eq : build [] l = build S (l.drop k)
  wl : walkC S.length (l.drop k) = some 1
  ls : S.length ≤ k
set_option maxHeartbeats 8000000 in
set_option maxRecDepth 100000 in
theorem rprint_ok (v : Value) (l : List Cr) (w : World) (h : CS w v l) (ht : ∀ c ∈ l, c.text.size ≤ maxLen) (hc : chk l = 0) :
    Calls Tryd.prog 27 #[v] w fun e w' => ∃ f : ByteArray, f.data.toList = prF (treeOf l) ∧ e = .returned (.tuple #[.string f, .int .i64 0]) ∧ Below w.heap.size w w' := by
  obtain ⟨hl, hw⟩ := chk_ok hc
  obtain ⟨p, cap, rfl⟩ := h.form
  have CK := rcheck_any _ l w h ht (by omega)
  rw [hc] at CK
  have HS : Hid (CS w (.slice p l.length cap) l) := h
  have HW : Hid (walkC 0 l = some 1) := hw
  have HB : Hid (build [] l = [treeOf l]) := build_one hc
  have HFT : Hid (flat (treeOf l) = l) := flat_tree hc
  have HTX : Hid (∀ c ∈ l, c.text.size ≤ 4096) := fun c hc' => crB_text (chk_crB hc c hc')
  clear h ht hc hw
  go_enter Tryd.func27, Tryd.ntmps27
  go_wp2_with fail
  refine CK.mono ?_
  rintro e w1 ⟨rfl, hb1⟩
  have B1 : Hid (Below w.heap.size w w1) := hb1
  clear hb1 CK
  go_wp2
  have R0 : Hid (RP w (w1.alloc (.cells #[] 9)) (.slice (some ⟨w1.heap.size, 0, none⟩) 0 0) [] [] 0 l) := ⟨B1.out.alloc B1.out.size _, (ownB_empty w1).low B1.out.size, rfl, rfl, HW.out, Nat.le_refl _⟩
  go_loopw [5, 6] (fun a b wl => ∃ (k g cs : Nat) (F : List ByteArray) (S : List Ft) (wk : World), k ≤ l.length ∧ b = .int .i64 k ∧ a = .slice (some ⟨g, 0, none⟩) F.length cs ∧ wk = wl ∧ Hid (RP w wk (.slice (some ⟨g, 0, none⟩) F.length cs) F S k l)) (fun _ b _ => l.length - (intOf b).toNat)
  case atStart => exact ⟨0, _, _, [], [], _, Nat.zero_le _, rfl, rfl, rfl, R0⟩
  case round =>
    obtain ⟨k, g, cs, F, S, wr, hk, rfl, rfl, rfl, HR⟩ := hrel
    clear R0
    by_cases hlt : k < l.length
    · obtain ⟨X, o, rfl, x1, x2, x3⟩ := (HS.out.below HR.out.bl).at hlt
      have hwl := HR.out.wl
      have heq := HR.out.eq
      rw [drop_cr hlt] at hwl heq
      have hts := HTX.out _ (List.getElem_mem hlt)
      obtain ⟨c, hcc⟩ : ∃ c, c = l[k] := ⟨_, rfl⟩
      rw [← hcc] at x1 x2 x3 hwl heq hts
      obtain ⟨⟨hcb, hcn⟩, hwn⟩ := walk_step hwl
      obtain ⟨kd, nn, tx⟩ := c
      simp only at *
      have hob := own_room HR.out.s
      have hTL := HR.out.tx.len
      have hSk := HR.out.ls
      have BW : Hid (Below w.heap.size w wr) := HR.out.bl
      have AL : Hid (∀ ob, Below wr.heap.size wr (wr.alloc ob)) := fun ob => (Below.refl _ _).alloc (Nat.le_refl _) ob
      obtain ⟨m, rfl⟩ : ∃ m : Nat, nn = m := ⟨nn.toNat, by have := (crB_n hcb).1; simp only at this; omega⟩
      obtain ⟨J, hJ⟩ : ∃ J, J = S.length - m := ⟨_, rfl⟩
      have hcn' : m ≤ S.length := by omega
      have HEQ : Hid (build [] l = build (S.take J ++ [.nd kd tx (S.drop J)]) (l.drop (k + 1))) := by
        show _ = _; rw [heq, build, hJ]; simp
      have HWL : Hid (walkC ((S.take J ++ [Ft.nd kd tx (S.drop J)]).length : Nat) (l.drop (k + 1)) = some 1) := by
        show _ = _; rw [← hwn]; congr 1; simp; omega
      have LSN : Hid ((S.take J ++ [Ft.nd kd tx (S.drop J)]).length ≤ k + 1) := by show _ ≤ _; simp; omega
      have OC : Hid (OwnB wr w.heap.size (.slice (some ⟨g, 0, none⟩) J cs) (F.take J)) := HR.out.s.cut J (by omega)
      have TXJ : Hid (TX (F.take J) (S.take J)) := HR.out.tx.take J
      have FTL : Hid ((F.take J).length ≤ 100000) := by show _ ≤ _; simp; omega
      have NEXT : Hid (∀ f v6 w6, f.data.toList = prF (.nd kd tx (S.drop J)) → OwnB w6 w.heap.size v6 (F.take J ++ [f]) → Below w.heap.size w w6 → ∃ g6 c6, v6 = .slice (some ⟨g6, 0, none⟩) (F.take J ++ [f]).length c6 ∧ RP w w6 (.slice (some ⟨g6, 0, none⟩) (F.take J ++ [f]).length c6) (F.take J ++ [f]) (S.take J ++ [.nd kd tx (S.drop J)]) (k + 1) l) := fun f v6 w6 hf ho hb => by
        obtain ⟨g6, c6, rfl⟩ := ho.some' (by simp)
        exact ⟨g6, c6, rfl, hb, ho, TXJ.out.snoc hf, HEQ.out, HWL.out, LSN.out⟩
      have hkk := isK_cases (k := kd) (by unfold crB at hcb; simp only [Bool.and_eq_true] at hcb; exact hcb.1.1)
      have hnb : (frow kd).least ≤ (m : Int) ∧ (m : Int) ≤ (frow kd).most := by unfold crB at hcb; simp only [Bool.and_eq_true, decide_eq_true_eq] at hcb; exact hcb.1.2
      have hFl : F.length = S.length := hTL
      have HPL : Hid ((prL ⟨#[59, 32]⟩ true (S.drop J)).length ≤ 17408000) := by
        show _ ≤ _
        have e := build_flat (l.drop k) S 1 HR.out.wl
        rw [← HR.out.eq, HB.out, flatL_one, HFT.out] at e
        have e3 : l = flatL (S.take J) ++ flatL (S.drop J) ++ l.drop k := by rw [← flatL_app, List.take_append_drop]; exact e
        have e4 : (flatL (S.drop J)).length ≤ 1024 := by have := congrArg List.length e3; simp at this; omega
        have := prL_len (S.drop J) ⟨#[59, 32]⟩ true (fun c hc => HTX.out c (by rw [e3]; simp [hc])) (by decide)
        omega
      have hqn : (quo tx.data.toList).length ≤ 16387 := by have := txtF_len 1 tx; simp [txtF] at this; omega
      clear hwl heq hwn hcb hcc hcn
      rcases hkk with rfl | rfl | rfl | rfl | rfl | rfl | rfl | rfl | rfl | rfl | rfl
      · have hmz : m = 0 := by
          have h2 := hnb.2
          have e : (frow 1).most = 0 := by decide
          rw [e] at h2
          omega
        subst hmz
        rw [show ((0 : Nat) : Int) = 0 from rfl] at x2
        obtain rfl : J = S.length := by omega
        have hdr : S.drop S.length = [] := List.drop_length
        have htk : F.take S.length = F := List.take_of_length_le (by omega)
        have HF : Hid (((⟨#[102, 97, 105, 108, 32]⟩ : ByteArray) ++ ⟨(quo tx.data.toList).toArray⟩).data.toList = prF (.nd 1 tx (S.drop S.length))) := by
          show _ = _
          rw [hdr, pr_leaf, bapp]; have e1 : (frow 1).word.data.toList = [102, 97, 105, 108] := by decide
          have e2 : (frow 1).text = 1 := by decide
          rw [e1, e2]; simp [txtF]
        have BX0 : Hid (∀ ob, Below w.heap.size w (wr.alloc ob)) := fun ob => BW.out.alloc BW.out.size ob
        have OX0 : Hid (∀ ob, OwnB (wr.alloc ob) w.heap.size (.slice (some ⟨g, 0, none⟩) S.length cs) (F.take S.length)) := fun ob => OC.out.below' (AL.out ob)
        rw [hFl]
        clear hnb hdr htk hJ
        go_wp2_with fail
        refine (refQuote_any tx _ (by omega)).mono ?_
        rintro e w3 ⟨rfl, hb3⟩
        have BX : Hid (Below w.heap.size w w3) := (BX0.out _).trans (hb3.mono (BX0.out _).size)
        have OX : Hid (OwnB w3 w.heap.size (.slice (some ⟨g, 0, none⟩) S.length cs) (F.take S.length)) := (OX0.out _).below' hb3
        clear hb3 BX0 OX0
        go_wp2_with (at_builtin; refine append_tx rfl (.tmp 124) (.tmp 126) 35 rfl w.heap.size Tryd.underlying35 info_str _ _ _ (.slice (some ⟨g, 0, none⟩) S.length cs) (F.take S.length) ((⟨#[102, 97, 105, 108, 32]⟩ : ByteArray) ++ ⟨(quo tx.data.toList).toArray⟩) _ rfl OX.out _ (by first | rfl | simp) rfl rfl FTL.out BX.out.size ?_; intro v6 w6 ho6 hb6; obtain ⟨g6, c6, hv6, hrp⟩ := NEXT.out ((⟨#[102, 97, 105, 108, 32]⟩ : ByteArray) ++ ⟨(quo tx.data.toList).toArray⟩) v6 w6 HF.out ho6 (BX.out.trans hb6); obtain ⟨n6, hn6⟩ : ∃ n6, n6 = (F.take S.length ++ [((⟨#[102, 97, 105, 108, 32]⟩ : ByteArray) ++ ⟨(quo tx.data.toList).toArray⟩ : ByteArray)]).length := ⟨_, rfl⟩; have HR6 : Hid _ := hrp; rw [← hn6] at hv6; have HN6 : Hid (n6 = (F.take S.length ++ [((⟨#[102, 97, 105, 108, 32]⟩ : ByteArray) ++ ⟨(quo tx.data.toList).toArray⟩ : ByteArray)]).length) := hn6; subst hv6; clear hn6 hrp ho6 hb6)
        go_roundw
        case rel => exact ⟨k + 1, g6, c6, F.take S.length ++ [(⟨#[102, 97, 105, 108, 32]⟩ : ByteArray) ++ ⟨(quo tx.data.toList).toArray⟩], _, _, by omega, by go_num, by rw [HN6.out], rfl, HR6⟩
        case measure => simp [intOf]; omega
      · have hmz : m = 0 := by
          have h2 := hnb.2
          have e : (frow 2).most = 0 := by decide
          rw [e] at h2
          omega
        subst hmz
        rw [show ((0 : Nat) : Int) = 0 from rfl] at x2
        obtain rfl : J = S.length := by omega
        have hdr : S.drop S.length = [] := List.drop_length
        have htk : F.take S.length = F := List.take_of_length_le (by omega)
        have HF : Hid (((⟨#[112, 97, 110, 105, 99, 32]⟩ : ByteArray) ++ ⟨(quo tx.data.toList).toArray⟩).data.toList = prF (.nd 2 tx (S.drop S.length))) := by
          show _ = _
          rw [hdr, pr_leaf, bapp]; have e1 : (frow 2).word.data.toList = [112, 97, 110, 105, 99] := by decide
          have e2 : (frow 2).text = 1 := by decide
          rw [e1, e2]; simp [txtF]
        have BX0 : Hid (∀ ob, Below w.heap.size w (wr.alloc ob)) := fun ob => BW.out.alloc BW.out.size ob
        have OX0 : Hid (∀ ob, OwnB (wr.alloc ob) w.heap.size (.slice (some ⟨g, 0, none⟩) S.length cs) (F.take S.length)) := fun ob => OC.out.below' (AL.out ob)
        rw [hFl]
        clear hnb hdr htk hJ
        go_wp2_with fail
        refine (refQuote_any tx _ (by omega)).mono ?_
        rintro e w3 ⟨rfl, hb3⟩
        have BX : Hid (Below w.heap.size w w3) := (BX0.out _).trans (hb3.mono (BX0.out _).size)
        have OX : Hid (OwnB w3 w.heap.size (.slice (some ⟨g, 0, none⟩) S.length cs) (F.take S.length)) := (OX0.out _).below' hb3
        clear hb3 BX0 OX0
        go_wp2_with (at_builtin; refine append_tx rfl (.tmp 124) (.tmp 126) 35 rfl w.heap.size Tryd.underlying35 info_str _ _ _ (.slice (some ⟨g, 0, none⟩) S.length cs) (F.take S.length) ((⟨#[112, 97, 110, 105, 99, 32]⟩ : ByteArray) ++ ⟨(quo tx.data.toList).toArray⟩) _ rfl OX.out _ (by first | rfl | simp) rfl rfl FTL.out BX.out.size ?_; intro v6 w6 ho6 hb6; obtain ⟨g6, c6, hv6, hrp⟩ := NEXT.out ((⟨#[112, 97, 110, 105, 99, 32]⟩ : ByteArray) ++ ⟨(quo tx.data.toList).toArray⟩) v6 w6 HF.out ho6 (BX.out.trans hb6); obtain ⟨n6, hn6⟩ : ∃ n6, n6 = (F.take S.length ++ [((⟨#[112, 97, 110, 105, 99, 32]⟩ : ByteArray) ++ ⟨(quo tx.data.toList).toArray⟩ : ByteArray)]).length := ⟨_, rfl⟩; have HR6 : Hid _ := hrp; rw [← hn6] at hv6; have HN6 : Hid (n6 = (F.take S.length ++ [((⟨#[112, 97, 110, 105, 99, 32]⟩ : ByteArray) ++ ⟨(quo tx.data.toList).toArray⟩ : ByteArray)]).length) := hn6; subst hv6; clear hn6 hrp ho6 hb6)
        go_roundw
        case rel => exact ⟨k + 1, g6, c6, F.take S.length ++ [(⟨#[112, 97, 110, 105, 99, 32]⟩ : ByteArray) ++ ⟨(quo tx.data.toList).toArray⟩], _, _, by omega, by go_num, by rw [HN6.out], rfl, HR6⟩
        case measure => simp [intOf]; omega
      · have hmz : m = 0 := by
          have h2 := hnb.2
          have e : (frow 3).most = 0 := by decide
          rw [e] at h2
          omega
        subst hmz
        rw [show ((0 : Nat) : Int) = 0 from rfl] at x2
        obtain rfl : J = S.length := by omega
        have hdr : S.drop S.length = [] := List.drop_length
        have htk : F.take S.length = F := List.take_of_length_le (by omega)
        have HF : Hid (((⟨#[118, 97, 108, 117, 101, 32]⟩ : ByteArray) ++ tx).data.toList = prF (.nd 3 tx (S.drop S.length))) := by
          show _ = _
          rw [hdr, pr_leaf, bapp]; have e1 : (frow 3).word.data.toList = [118, 97, 108, 117, 101] := by decide
          have e2 : (frow 3).text = 2 := by decide
          rw [e1, e2]; simp [txtF]
        have BX0 : Hid (∀ ob, Below w.heap.size w (wr.alloc ob)) := fun ob => BW.out.alloc BW.out.size ob
        have OX0 : Hid (∀ ob, OwnB (wr.alloc ob) w.heap.size (.slice (some ⟨g, 0, none⟩) S.length cs) (F.take S.length)) := fun ob => OC.out.below' (AL.out ob)
        rw [hFl]
        clear hnb hdr htk hJ
        have BX : Hid (Below w.heap.size w (wr.alloc (.cells #[.int .i64 3, .int .i64 0, .string tx] 55))) := BX0.out _
        have OX : Hid (OwnB (wr.alloc (.cells #[.int .i64 3, .int .i64 0, .string tx] 55)) w.heap.size (.slice (some ⟨g, 0, none⟩) S.length cs) (F.take S.length)) := OX0.out _
        clear BX0 OX0
        go_wp2_with (at_builtin; refine append_tx rfl (.tmp 124) (.tmp 126) 35 rfl w.heap.size Tryd.underlying35 info_str _ _ _ (.slice (some ⟨g, 0, none⟩) S.length cs) (F.take S.length) ((⟨#[118, 97, 108, 117, 101, 32]⟩ : ByteArray) ++ tx) _ rfl OX.out _ (by first | rfl | simp) rfl rfl FTL.out BX.out.size ?_; intro v6 w6 ho6 hb6; obtain ⟨g6, c6, hv6, hrp⟩ := NEXT.out ((⟨#[118, 97, 108, 117, 101, 32]⟩ : ByteArray) ++ tx) v6 w6 HF.out ho6 (BX.out.trans hb6); obtain ⟨n6, hn6⟩ : ∃ n6, n6 = (F.take S.length ++ [((⟨#[118, 97, 108, 117, 101, 32]⟩ : ByteArray) ++ tx : ByteArray)]).length := ⟨_, rfl⟩; have HR6 : Hid _ := hrp; rw [← hn6] at hv6; have HN6 : Hid (n6 = (F.take S.length ++ [((⟨#[118, 97, 108, 117, 101, 32]⟩ : ByteArray) ++ tx : ByteArray)]).length) := hn6; subst hv6; clear hn6 hrp ho6 hb6)
        go_roundw
        case rel => exact ⟨k + 1, g6, c6, F.take S.length ++ [(⟨#[118, 97, 108, 117, 101, 32]⟩ : ByteArray) ++ tx], _, _, by omega, by go_num, by rw [HN6.out], rfl, HR6⟩
        case measure => simp [intOf]; omega
      · have hmz : m = 0 := by
          have h2 := hnb.2
          have e : (frow 4).most = 0 := by decide
          rw [e] at h2
          omega
        subst hmz
        rw [show ((0 : Nat) : Int) = 0 from rfl] at x2
        obtain rfl : J = S.length := by omega
        have hdr : S.drop S.length = [] := List.drop_length
        have htk : F.take S.length = F := List.take_of_length_le (by omega)
        have HF : Hid (((⟨#[110, 111, 110, 101, 32]⟩ : ByteArray) ++ tx).data.toList = prF (.nd 4 tx (S.drop S.length))) := by
          show _ = _
          rw [hdr, pr_leaf, bapp]; have e1 : (frow 4).word.data.toList = [110, 111, 110, 101] := by decide
          have e2 : (frow 4).text = 3 := by decide
          rw [e1, e2]; simp [txtF]
        have BX0 : Hid (∀ ob, Below w.heap.size w (wr.alloc ob)) := fun ob => BW.out.alloc BW.out.size ob
        have OX0 : Hid (∀ ob, OwnB (wr.alloc ob) w.heap.size (.slice (some ⟨g, 0, none⟩) S.length cs) (F.take S.length)) := fun ob => OC.out.below' (AL.out ob)
        rw [hFl]
        clear hnb hdr htk hJ
        have BX : Hid (Below w.heap.size w (wr.alloc (.cells #[.int .i64 4, .int .i64 0, .string tx] 55))) := BX0.out _
        have OX : Hid (OwnB (wr.alloc (.cells #[.int .i64 4, .int .i64 0, .string tx] 55)) w.heap.size (.slice (some ⟨g, 0, none⟩) S.length cs) (F.take S.length)) := OX0.out _
        clear BX0 OX0
        go_wp2_with (at_builtin; refine append_tx rfl (.tmp 124) (.tmp 126) 35 rfl w.heap.size Tryd.underlying35 info_str _ _ _ (.slice (some ⟨g, 0, none⟩) S.length cs) (F.take S.length) ((⟨#[110, 111, 110, 101, 32]⟩ : ByteArray) ++ tx) _ rfl OX.out _ (by first | rfl | simp) rfl rfl FTL.out BX.out.size ?_; intro v6 w6 ho6 hb6; obtain ⟨g6, c6, hv6, hrp⟩ := NEXT.out ((⟨#[110, 111, 110, 101, 32]⟩ : ByteArray) ++ tx) v6 w6 HF.out ho6 (BX.out.trans hb6); obtain ⟨n6, hn6⟩ : ∃ n6, n6 = (F.take S.length ++ [((⟨#[110, 111, 110, 101, 32]⟩ : ByteArray) ++ tx : ByteArray)]).length := ⟨_, rfl⟩; have HR6 : Hid _ := hrp; rw [← hn6] at hv6; have HN6 : Hid (n6 = (F.take S.length ++ [((⟨#[110, 111, 110, 101, 32]⟩ : ByteArray) ++ tx : ByteArray)]).length) := hn6; subst hv6; clear hn6 hrp ho6 hb6)
        go_roundw
        case rel => exact ⟨k + 1, g6, c6, F.take S.length ++ [(⟨#[110, 111, 110, 101, 32]⟩ : ByteArray) ++ tx], _, _, by omega, by go_num, by rw [HN6.out], rfl, HR6⟩
        case measure => simp [intOf]; omega
      · have hmz : m = 0 := by
          have h2 := hnb.2
          have e : (frow 5).most = 0 := by decide
          rw [e] at h2
          omega
        subst hmz
        rw [show ((0 : Nat) : Int) = 0 from rfl] at x2
        obtain rfl : J = S.length := by omega
        have hdr : S.drop S.length = [] := List.drop_length
        have htk : F.take S.length = F := List.take_of_length_le (by omega)
        have HF : Hid (((⟨#[99, 121, 99, 108, 101, 32]⟩ : ByteArray) ++ tx).data.toList = prF (.nd 5 tx (S.drop S.length))) := by
          show _ = _
          rw [hdr, pr_leaf, bapp]; have e1 : (frow 5).word.data.toList = [99, 121, 99, 108, 101] := by decide
          have e2 : (frow 5).text = 3 := by decide
          rw [e1, e2]; simp [txtF]
        have BX0 : Hid (∀ ob, Below w.heap.size w (wr.alloc ob)) := fun ob => BW.out.alloc BW.out.size ob
        have OX0 : Hid (∀ ob, OwnB (wr.alloc ob) w.heap.size (.slice (some ⟨g, 0, none⟩) S.length cs) (F.take S.length)) := fun ob => OC.out.below' (AL.out ob)
        rw [hFl]
        clear hnb hdr htk hJ
        have BX : Hid (Below w.heap.size w (wr.alloc (.cells #[.int .i64 5, .int .i64 0, .string tx] 55))) := BX0.out _
        have OX : Hid (OwnB (wr.alloc (.cells #[.int .i64 5, .int .i64 0, .string tx] 55)) w.heap.size (.slice (some ⟨g, 0, none⟩) S.length cs) (F.take S.length)) := OX0.out _
        clear BX0 OX0
        go_wp2_with (at_builtin; refine append_tx rfl (.tmp 124) (.tmp 126) 35 rfl w.heap.size Tryd.underlying35 info_str _ _ _ (.slice (some ⟨g, 0, none⟩) S.length cs) (F.take S.length) ((⟨#[99, 121, 99, 108, 101, 32]⟩ : ByteArray) ++ tx) _ rfl OX.out _ (by first | rfl | simp) rfl rfl FTL.out BX.out.size ?_; intro v6 w6 ho6 hb6; obtain ⟨g6, c6, hv6, hrp⟩ := NEXT.out ((⟨#[99, 121, 99, 108, 101, 32]⟩ : ByteArray) ++ tx) v6 w6 HF.out ho6 (BX.out.trans hb6); obtain ⟨n6, hn6⟩ : ∃ n6, n6 = (F.take S.length ++ [((⟨#[99, 121, 99, 108, 101, 32]⟩ : ByteArray) ++ tx : ByteArray)]).length := ⟨_, rfl⟩; have HR6 : Hid _ := hrp; rw [← hn6] at hv6; have HN6 : Hid (n6 = (F.take S.length ++ [((⟨#[99, 121, 99, 108, 101, 32]⟩ : ByteArray) ++ tx : ByteArray)]).length) := hn6; subst hv6; clear hn6 hrp ho6 hb6)
        go_roundw
        case rel => exact ⟨k + 1, g6, c6, F.take S.length ++ [(⟨#[99, 121, 99, 108, 101, 32]⟩ : ByteArray) ++ tx], _, _, by omega, by go_num, by rw [HN6.out], rfl, HR6⟩
        case measure => simp [intOf]; omega
      · have hmz : m = 0 := by
          have h2 := hnb.2
          have e : (frow 6).most = 0 := by decide
          rw [e] at h2
          omega
        subst hmz
        rw [show ((0 : Nat) : Int) = 0 from rfl] at x2
        obtain rfl : J = S.length := by omega
        have hdr : S.drop S.length = [] := List.drop_length
        have htk : F.take S.length = F := List.take_of_length_le (by omega)
        have HF : Hid (((⟨#[100, 101, 112, 116, 104]⟩ : ByteArray)).data.toList = prF (.nd 6 tx (S.drop S.length))) := by
          show _ = _
          rw [hdr, pr_leaf]; have e1 : (frow 6).word.data.toList = [100, 101, 112, 116, 104] := by decide
          have e2 : (frow 6).text = 0 := by decide
          rw [e1, e2]; simp [txtF]
        have BX0 : Hid (∀ ob, Below w.heap.size w (wr.alloc ob)) := fun ob => BW.out.alloc BW.out.size ob
        have OX0 : Hid (∀ ob, OwnB (wr.alloc ob) w.heap.size (.slice (some ⟨g, 0, none⟩) S.length cs) (F.take S.length)) := fun ob => OC.out.below' (AL.out ob)
        rw [hFl]
        clear hnb hdr htk hJ
        have BX : Hid (Below w.heap.size w (wr.alloc (.cells #[.int .i64 6, .int .i64 0, .string tx] 55))) := BX0.out _
        have OX : Hid (OwnB (wr.alloc (.cells #[.int .i64 6, .int .i64 0, .string tx] 55)) w.heap.size (.slice (some ⟨g, 0, none⟩) S.length cs) (F.take S.length)) := OX0.out _
        clear BX0 OX0
        go_wp2_with (at_builtin; refine append_tx rfl (.tmp 124) (.tmp 126) 35 rfl w.heap.size Tryd.underlying35 info_str _ _ _ (.slice (some ⟨g, 0, none⟩) S.length cs) (F.take S.length) ((⟨#[100, 101, 112, 116, 104]⟩ : ByteArray)) _ rfl OX.out _ (by first | rfl | simp) rfl rfl FTL.out BX.out.size ?_; intro v6 w6 ho6 hb6; obtain ⟨g6, c6, hv6, hrp⟩ := NEXT.out ((⟨#[100, 101, 112, 116, 104]⟩ : ByteArray)) v6 w6 HF.out ho6 (BX.out.trans hb6); obtain ⟨n6, hn6⟩ : ∃ n6, n6 = (F.take S.length ++ [((⟨#[100, 101, 112, 116, 104]⟩ : ByteArray) : ByteArray)]).length := ⟨_, rfl⟩; have HR6 : Hid _ := hrp; rw [← hn6] at hv6; have HN6 : Hid (n6 = (F.take S.length ++ [((⟨#[100, 101, 112, 116, 104]⟩ : ByteArray) : ByteArray)]).length) := hn6; subst hv6; clear hn6 hrp ho6 hb6)
        go_roundw
        case rel => exact ⟨k + 1, g6, c6, F.take S.length ++ [(⟨#[100, 101, 112, 116, 104]⟩ : ByteArray)], _, _, by omega, by go_num, by rw [HN6.out], rfl, HR6⟩
        case measure => simp [intOf]; omega
      · have hmz : m = 0 := by
          have h2 := hnb.2
          have e : (frow 7).most = 0 := by decide
          rw [e] at h2
          omega
        subst hmz
        rw [show ((0 : Nat) : Int) = 0 from rfl] at x2
        obtain rfl : J = S.length := by omega
        have hdr : S.drop S.length = [] := List.drop_length
        have htk : F.take S.length = F := List.take_of_length_le (by omega)
        have HF : Hid (((⟨#[99, 108, 111, 115, 101, 100]⟩ : ByteArray)).data.toList = prF (.nd 7 tx (S.drop S.length))) := by
          show _ = _
          rw [hdr, pr_leaf]; have e1 : (frow 7).word.data.toList = [99, 108, 111, 115, 101, 100] := by decide
          have e2 : (frow 7).text = 0 := by decide
          rw [e1, e2]; simp [txtF]
        have BX0 : Hid (∀ ob, Below w.heap.size w (wr.alloc ob)) := fun ob => BW.out.alloc BW.out.size ob
        have OX0 : Hid (∀ ob, OwnB (wr.alloc ob) w.heap.size (.slice (some ⟨g, 0, none⟩) S.length cs) (F.take S.length)) := fun ob => OC.out.below' (AL.out ob)
        rw [hFl]
        clear hnb hdr htk hJ
        have BX : Hid (Below w.heap.size w (wr.alloc (.cells #[.int .i64 7, .int .i64 0, .string tx] 55))) := BX0.out _
        have OX : Hid (OwnB (wr.alloc (.cells #[.int .i64 7, .int .i64 0, .string tx] 55)) w.heap.size (.slice (some ⟨g, 0, none⟩) S.length cs) (F.take S.length)) := OX0.out _
        clear BX0 OX0
        go_wp2_with (at_builtin; refine append_tx rfl (.tmp 124) (.tmp 126) 35 rfl w.heap.size Tryd.underlying35 info_str _ _ _ (.slice (some ⟨g, 0, none⟩) S.length cs) (F.take S.length) ((⟨#[99, 108, 111, 115, 101, 100]⟩ : ByteArray)) _ rfl OX.out _ (by first | rfl | simp) rfl rfl FTL.out BX.out.size ?_; intro v6 w6 ho6 hb6; obtain ⟨g6, c6, hv6, hrp⟩ := NEXT.out ((⟨#[99, 108, 111, 115, 101, 100]⟩ : ByteArray)) v6 w6 HF.out ho6 (BX.out.trans hb6); obtain ⟨n6, hn6⟩ : ∃ n6, n6 = (F.take S.length ++ [((⟨#[99, 108, 111, 115, 101, 100]⟩ : ByteArray) : ByteArray)]).length := ⟨_, rfl⟩; have HR6 : Hid _ := hrp; rw [← hn6] at hv6; have HN6 : Hid (n6 = (F.take S.length ++ [((⟨#[99, 108, 111, 115, 101, 100]⟩ : ByteArray) : ByteArray)]).length) := hn6; subst hv6; clear hn6 hrp ho6 hb6)
        go_roundw
        case rel => exact ⟨k + 1, g6, c6, F.take S.length ++ [(⟨#[99, 108, 111, 115, 101, 100]⟩ : ByteArray)], _, _, by omega, by go_num, by rw [HN6.out], rfl, HR6⟩
        case measure => simp [intOf]; omega
      · by_cases hm8 : m = 0
        · subst hm8
          rw [show ((0 : Nat) : Int) = 0 from rfl] at x2
          obtain rfl : J = S.length := by omega
          have hdr : S.drop S.length = [] := List.drop_length
          have htk : F.take S.length = F := List.take_of_length_le (by omega)
          have HF : Hid (((⟨#[116, 111, 107, 101, 110, 32]⟩ : ByteArray) ++ ⟨(quo tx.data.toList).toArray⟩).data.toList = prF (.nd 8 tx (S.drop S.length))) := by
            show _ = _
            rw [hdr, pr_leaf, bapp]; have e1 : (frow 8).word.data.toList = [116, 111, 107, 101, 110] := by decide
            have e2 : (frow 8).text = 1 := by decide
            rw [e1, e2]; simp [txtF]
          have BX0 : Hid (∀ ob, Below w.heap.size w (wr.alloc ob)) := fun ob => BW.out.alloc BW.out.size ob
          have OX0 : Hid (∀ ob, OwnB (wr.alloc ob) w.heap.size (.slice (some ⟨g, 0, none⟩) S.length cs) (F.take S.length)) := fun ob => OC.out.below' (AL.out ob)
          rw [hFl]
          clear hnb hdr htk hJ
          go_wp2_with fail
          refine (refQuote_any tx _ (by omega)).mono ?_
          rintro e w3 ⟨rfl, hb3⟩
          have BX : Hid (Below w.heap.size w w3) := (BX0.out _).trans (hb3.mono (BX0.out _).size)
          have OX : Hid (OwnB w3 w.heap.size (.slice (some ⟨g, 0, none⟩) S.length cs) (F.take S.length)) := (OX0.out _).below' hb3
          have cn : (wr.alloc (.cells #[.int .i64 8, .int .i64 0, .string tx] 55)).cell? ⟨wr.heap.size, 1, none⟩ = some (.int .i64 0) := cell_of_row _ _ _ _ _ _ (heap_alloc_new _ _)
          have cn3 := (hb3.cell (p := ⟨wr.heap.size, 1, none⟩) (block_lt_of_cell cn)).trans cn
          clear cn
          clear hb3 BX0 OX0
          go_wp2_with (at_builtin; refine append_tx rfl (.tmp 124) (.tmp 126) 35 rfl w.heap.size Tryd.underlying35 info_str _ _ _ (.slice (some ⟨g, 0, none⟩) S.length cs) (F.take S.length) ((⟨#[116, 111, 107, 101, 110, 32]⟩ : ByteArray) ++ ⟨(quo tx.data.toList).toArray⟩) _ rfl OX.out _ (by first | rfl | simp) rfl rfl FTL.out BX.out.size ?_; intro v6 w6 ho6 hb6; obtain ⟨g6, c6, hv6, hrp⟩ := NEXT.out ((⟨#[116, 111, 107, 101, 110, 32]⟩ : ByteArray) ++ ⟨(quo tx.data.toList).toArray⟩) v6 w6 HF.out ho6 (BX.out.trans hb6); obtain ⟨n6, hn6⟩ : ∃ n6, n6 = (F.take S.length ++ [((⟨#[116, 111, 107, 101, 110, 32]⟩ : ByteArray) ++ ⟨(quo tx.data.toList).toArray⟩ : ByteArray)]).length := ⟨_, rfl⟩; have HR6 : Hid _ := hrp; rw [← hn6] at hv6; have HN6 : Hid (n6 = (F.take S.length ++ [((⟨#[116, 111, 107, 101, 110, 32]⟩ : ByteArray) ++ ⟨(quo tx.data.toList).toArray⟩ : ByteArray)]).length) := hn6; subst hv6; clear hn6 hrp ho6 hb6)
          go_roundw
          case rel => exact ⟨k + 1, g6, c6, F.take S.length ++ [(⟨#[116, 111, 107, 101, 110, 32]⟩ : ByteArray) ++ ⟨(quo tx.data.toList).toArray⟩], _, _, by omega, by go_num, by rw [HN6.out], rfl, HR6⟩
          case measure => simp [intOf]; omega
        · obtain hm8' : 1 ≤ m := by omega
          have hmz : m = 1 := by
            have h1 := hnb.1
            have h2 := hnb.2
            have e : (frow 8).most = 1 := by decide
            have e' : (frow 8).least = 0 := by decide
            rw [e] at h2
            rw [e'] at h1
            omega
          subst hmz
          rw [show ((1 : Nat) : Int) = 1 from rfl] at x2
          obtain ⟨W2, hW2⟩ : ∃ W2, W2 = wr.alloc (.cells #[.int .i64 8, .int .i64 1, .string tx] 55) := ⟨_, rfl⟩
          have BX : Hid (Below w.heap.size w W2) := by show Below _ _ _; rw [hW2]; exact BW.out.alloc BW.out.size _
          have OS : Hid (OwnB W2 w.heap.size (.slice (some ⟨g, 0, none⟩) F.length cs) F) := by show OwnB _ _ _ _; rw [hW2]; exact HR.out.s.below' (AL.out _)
          have OX : Hid (OwnB W2 w.heap.size (.slice (some ⟨g, 0, none⟩) J cs) (F.take J)) := by show OwnB _ _ _ _; rw [hW2]; exact OC.out.below' (AL.out _)
          have cn : W2.cell? ⟨wr.heap.size, 1, none⟩ = some (.int .i64 1) := by rw [hW2]; exact cell_of_row _ _ _ _ _ _ (heap_alloc_new _ _)
          have ck : W2.cell? ⟨wr.heap.size, 0, none⟩ = some (.int .i64 8) := by rw [hW2]; exact cell_of_row _ _ _ _ _ _ (heap_alloc_new _ _)
          have ct : W2.cell? ⟨wr.heap.size, 2, none⟩ = some (.string tx) := by rw [hW2]; exact cell_of_row _ _ _ _ _ _ (heap_alloc_new _ _)
          have HW2 : Hid (W2 = wr.alloc (.cells #[.int .i64 8, .int .i64 1, .string tx] 55)) := hW2
          have hJi : (S.length : Int) - 1 = (J : Int) := by omega
          have hJS : J < S.length := by omega
          have hTX := HR.out.tx
          have HTX2 : Hid (TX F S) := hTX
          have HL1 : Hid (S.length ≤ 1024) := by show _ ≤ _; omega
          rw [hFl] at OS ⊢
          have HJ : Hid (J = S.length - 1) := hJ
          clear hnb hW2 HR hTX hJ
          go_wp2_with fail
          rw [← HW2.out]
          go_loop [9, 10] (fun a b => ∃ (j : Nat) (I : ByteArray), J ≤ j ∧ j ≤ S.length ∧ a = .string I ∧ b = .int .i64 j ∧ Hid (I.data.toList ++ prL ⟨#[59, 32]⟩ (decide (j = J)) (S.drop j) = prL ⟨#[59, 32]⟩ true (S.drop J))) (fun _ b => S.length - (intOf b).toNat)
          case atStart => exact ⟨J, _, Nat.le_refl _, by omega, rfl, rfl, by show _ = _; simp⟩
          case round =>
            obtain ⟨j, I, hj1, hj2, rfl, rfl, HI⟩ := hrel
            by_cases hjl : j < S.length
            · have cj := own_text OS.out (j := j) (by omega)
              have hSj := HTX2.out.at hjl
              obtain ⟨fj, hfj⟩ : ∃ fj, fj = F.getD j ByteArray.empty := ⟨_, rfl⟩
              rw [← hfj] at cj hSj
              have HI0 := HI.out
              by_cases hjJ : j = J
              · subst hjJ
                have hgt : ¬ ((j : Int) > (j : Int)) := by omega
                have HN : Hid ((I ++ fj).data.toList ++ prL ⟨#[59, 32]⟩ (decide (j + 1 = j)) (S.drop (j + 1)) = prL ⟨#[59, 32]⟩ true (S.drop j)) := by
                  show _ = _
                  rw [← HI0, bapp, hSj]
                  simp only [decide_true, drop_one hjl]
                  simp
                have hsz : I.size + fj.size ≤ 17408000 := by
                  have e := congrArg List.length HN.out
                  rw [List.length_append, bapp, List.length_append, bsize, bsize] at e
                  have := HPL.out
                  omega
                clear HI0 HI hSj hfj
                go_wp2
                go_round
                case rel => exact ⟨j + 1, I ++ fj, by omega, by omega, rfl, by go_num, HN⟩
                case measure => simp [intOf]; omega
              · exfalso; omega
            · obtain rfl : j = S.length := by omega
              have hI : I.data.toList = prL ⟨#[59, 32]⟩ true (S.drop J) := by
                have := HI.out
                rw [List.drop_length, prL, List.append_nil] at this; exact this
              have hne : S.drop J ≠ [] := fun e => by have := congrArg List.length e; simp at this; omega
              have hlen1 : (S.drop J).length = 1 := by have := HJ.out; simp; omega
              have HF : Hid ((((⟨#[116, 111, 107, 101, 110, 32]⟩ : ByteArray) ++ ⟨(quo tx.data.toList).toArray⟩) ++ ((⟨#[58, 32]⟩ : ByteArray) ++ I)).data.toList = prF (.nd 8 tx (S.drop J))) := by
                show _ = _
                rw [pr_node _ _ _ hne]
                have e1 : (frow 8).word.data.toList = [116, 111, 107, 101, 110] := by decide
                have e2 : (frow 8).text = 1 := by decide
                have e3 : (frow 8).op.data.toList = [58, 32] := by decide
                have e4 : (frow 8).en.data.toList = [] := by decide
                have e5 : prL (frow 8).bt true (S.drop J) = I.data.toList := by rw [hI]; exact prL_one _ _ _ hlen1
                rw [e1, e2, e3, e4, e5]
                simp only [bapp]
                simp [txtF]
              have hIz : I.size ≤ 17408000 := by rw [← bsize, hI]; exact HPL.out
              clear hI HI hne hlen1
              go_wp2_with fail
              refine (refQuote_any tx _ (by omega)).mono ?_
              rintro e w3 ⟨rfl, hb3⟩
              have cn3 := (hb3.cell (p := ⟨wr.heap.size, 1, none⟩) (block_lt_of_cell cn)).trans cn
              have BX3 : Hid (Below w.heap.size w w3) := BX.out.trans (hb3.mono BX.out.size)
              have OX3 : Hid (OwnB w3 w.heap.size (.slice (some ⟨g, 0, none⟩) J cs) (F.take J)) := OX.out.below' hb3
              clear hb3
              go_wp2_with (at_builtin; refine append_tx rfl (.tmp 124) (.tmp 126) 35 rfl w.heap.size Tryd.underlying35 info_str _ _ _ (.slice (some ⟨g, 0, none⟩) J cs) (F.take J) (((⟨#[116, 111, 107, 101, 110, 32]⟩ : ByteArray) ++ ⟨(quo tx.data.toList).toArray⟩) ++ ((⟨#[58, 32]⟩ : ByteArray) ++ I)) _ rfl OX3.out _ (by first | rfl | simp) rfl rfl FTL.out BX3.out.size ?_; intro v6 w6 ho6 hb6; obtain ⟨g6, c6, hv6, hrp⟩ := NEXT.out (((⟨#[116, 111, 107, 101, 110, 32]⟩ : ByteArray) ++ ⟨(quo tx.data.toList).toArray⟩) ++ ((⟨#[58, 32]⟩ : ByteArray) ++ I)) v6 w6 HF.out ho6 (BX3.out.trans hb6); obtain ⟨n6, hn6⟩ : ∃ n6, n6 = (F.take J ++ [(((⟨#[116, 111, 107, 101, 110, 32]⟩ : ByteArray) ++ ⟨(quo tx.data.toList).toArray⟩) ++ ((⟨#[58, 32]⟩ : ByteArray) ++ I) : ByteArray)]).length := ⟨_, rfl⟩; have HR6 : Hid _ := hrp; rw [← hn6] at hv6; have HN6 : Hid (n6 = (F.take J ++ [(((⟨#[116, 111, 107, 101, 110, 32]⟩ : ByteArray) ++ ⟨(quo tx.data.toList).toArray⟩) ++ ((⟨#[58, 32]⟩ : ByteArray) ++ I) : ByteArray)]).length) := hn6; subst hv6; clear hn6 hrp ho6 hb6)
              go_roundw
              case rel => exact ⟨k + 1, g6, c6, F.take J ++ [((⟨#[116, 111, 107, 101, 110, 32]⟩ : ByteArray) ++ ⟨(quo tx.data.toList).toArray⟩) ++ ((⟨#[58, 32]⟩ : ByteArray) ++ I)], _, _, by omega, by go_num, by rw [HN6.out], rfl, HR6⟩
              case measure => simp [intOf]; omega
      · have hmz : m = 1 := by
          have h1 := hnb.1
          have h2 := hnb.2
          have e : (frow 9).most = 1 := by decide
          have e' : (frow 9).least = 1 := by decide
          rw [e] at h2
          rw [e'] at h1
          omega
        subst hmz
        rw [show ((1 : Nat) : Int) = 1 from rfl] at x2
        obtain ⟨W2, hW2⟩ : ∃ W2, W2 = wr.alloc (.cells #[.int .i64 9, .int .i64 1, .string tx] 55) := ⟨_, rfl⟩
        have BX : Hid (Below w.heap.size w W2) := by show Below _ _ _; rw [hW2]; exact BW.out.alloc BW.out.size _
        have OS : Hid (OwnB W2 w.heap.size (.slice (some ⟨g, 0, none⟩) F.length cs) F) := by show OwnB _ _ _ _; rw [hW2]; exact HR.out.s.below' (AL.out _)
        have OX : Hid (OwnB W2 w.heap.size (.slice (some ⟨g, 0, none⟩) J cs) (F.take J)) := by show OwnB _ _ _ _; rw [hW2]; exact OC.out.below' (AL.out _)
        have cn : W2.cell? ⟨wr.heap.size, 1, none⟩ = some (.int .i64 1) := by rw [hW2]; exact cell_of_row _ _ _ _ _ _ (heap_alloc_new _ _)
        have ck : W2.cell? ⟨wr.heap.size, 0, none⟩ = some (.int .i64 9) := by rw [hW2]; exact cell_of_row _ _ _ _ _ _ (heap_alloc_new _ _)
        have ct : W2.cell? ⟨wr.heap.size, 2, none⟩ = some (.string tx) := by rw [hW2]; exact cell_of_row _ _ _ _ _ _ (heap_alloc_new _ _)
        have HW2 : Hid (W2 = wr.alloc (.cells #[.int .i64 9, .int .i64 1, .string tx] 55)) := hW2
        have hJi : (S.length : Int) - 1 = (J : Int) := by omega
        have hJS : J < S.length := by omega
        have hTX := HR.out.tx
        have HTX2 : Hid (TX F S) := hTX
        have HL1 : Hid (S.length ≤ 1024) := by show _ ≤ _; omega
        rw [hFl] at OS ⊢
        have HJ : Hid (J = S.length - 1) := hJ
        clear hnb hW2 HR hTX hJ
        go_wp2_with fail
        rw [← HW2.out]
        go_loop [9, 10] (fun a b => ∃ (j : Nat) (I : ByteArray), J ≤ j ∧ j ≤ S.length ∧ a = .string I ∧ b = .int .i64 j ∧ Hid (I.data.toList ++ prL ⟨#[59, 32]⟩ (decide (j = J)) (S.drop j) = prL ⟨#[59, 32]⟩ true (S.drop J))) (fun _ b => S.length - (intOf b).toNat)
        case atStart => exact ⟨J, _, Nat.le_refl _, by omega, rfl, rfl, by show _ = _; simp⟩
        case round =>
          obtain ⟨j, I, hj1, hj2, rfl, rfl, HI⟩ := hrel
          by_cases hjl : j < S.length
          · have cj := own_text OS.out (j := j) (by omega)
            have hSj := HTX2.out.at hjl
            obtain ⟨fj, hfj⟩ : ∃ fj, fj = F.getD j ByteArray.empty := ⟨_, rfl⟩
            rw [← hfj] at cj hSj
            have HI0 := HI.out
            by_cases hjJ : j = J
            · subst hjJ
              have hgt : ¬ ((j : Int) > (j : Int)) := by omega
              have HN : Hid ((I ++ fj).data.toList ++ prL ⟨#[59, 32]⟩ (decide (j + 1 = j)) (S.drop (j + 1)) = prL ⟨#[59, 32]⟩ true (S.drop j)) := by
                show _ = _
                rw [← HI0, bapp, hSj]
                simp only [decide_true, drop_one hjl]
                simp
              have hsz : I.size + fj.size ≤ 17408000 := by
                have e := congrArg List.length HN.out
                rw [List.length_append, bapp, List.length_append, bsize, bsize] at e
                have := HPL.out
                omega
              clear HI0 HI hSj hfj
              go_wp2
              go_round
              case rel => exact ⟨j + 1, I ++ fj, by omega, by omega, rfl, by go_num, HN⟩
              case measure => simp [intOf]; omega
            · exfalso; omega
          · obtain rfl : j = S.length := by omega
            have hI : I.data.toList = prL ⟨#[59, 32]⟩ true (S.drop J) := by
              have := HI.out
              rw [List.drop_length, prL, List.append_nil] at this; exact this
            have hne : S.drop J ≠ [] := fun e => by have := congrArg List.length e; simp at this; omega
            have hlen1 : (S.drop J).length = 1 := by have := HJ.out; simp; omega
            have HF : Hid (((((⟨#[99, 101, 108, 108, 32]⟩ : ByteArray) ++ tx) ++ ⟨#[58, 32]⟩) ++ I).data.toList = prF (.nd 9 tx (S.drop J))) := by
              show _ = _
              rw [pr_node _ _ _ hne]
              have e1 : (frow 9).word.data.toList = [99, 101, 108, 108] := by decide
              have e2 : (frow 9).text = 3 := by decide
              have e3 : (frow 9).op.data.toList = [58, 32] := by decide
              have e4 : (frow 9).en.data.toList = [] := by decide
              have e5 : prL (frow 9).bt true (S.drop J) = I.data.toList := by rw [hI]; exact prL_one _ _ _ hlen1
              rw [e1, e2, e3, e4, e5]
              simp only [bapp]
              simp [txtF]
            have hIz : I.size ≤ 17408000 := by rw [← bsize, hI]; exact HPL.out
            clear hI HI hne hlen1
            go_wp2_with (at_builtin; refine append_tx rfl (.tmp 124) (.tmp 126) 35 rfl w.heap.size Tryd.underlying35 info_str _ _ _ (.slice (some ⟨g, 0, none⟩) J cs) (F.take J) ((((⟨#[99, 101, 108, 108, 32]⟩ : ByteArray) ++ tx) ++ ⟨#[58, 32]⟩) ++ I) _ rfl OX.out _ (by first | rfl | simp) rfl rfl FTL.out BX.out.size ?_; intro v6 w6 ho6 hb6; obtain ⟨g6, c6, hv6, hrp⟩ := NEXT.out ((((⟨#[99, 101, 108, 108, 32]⟩ : ByteArray) ++ tx) ++ ⟨#[58, 32]⟩) ++ I) v6 w6 HF.out ho6 (BX.out.trans hb6); obtain ⟨n6, hn6⟩ : ∃ n6, n6 = (F.take J ++ [((((⟨#[99, 101, 108, 108, 32]⟩ : ByteArray) ++ tx) ++ ⟨#[58, 32]⟩) ++ I : ByteArray)]).length := ⟨_, rfl⟩; have HR6 : Hid _ := hrp; rw [← hn6] at hv6; have HN6 : Hid (n6 = (F.take J ++ [((((⟨#[99, 101, 108, 108, 32]⟩ : ByteArray) ++ tx) ++ ⟨#[58, 32]⟩) ++ I : ByteArray)]).length) := hn6; subst hv6; clear hn6 hrp ho6 hb6)
            go_roundw
            case rel => exact ⟨k + 1, g6, c6, F.take J ++ [(((⟨#[99, 101, 108, 108, 32]⟩ : ByteArray) ++ tx) ++ ⟨#[58, 32]⟩) ++ I], _, _, by omega, by go_num, by rw [HN6.out], rfl, HR6⟩
            case measure => simp [intOf]; omega
      · have hm1 : 1 ≤ m := by
          have h1 := hnb.1
          have e' : (frow 10).least = 1 := by decide
          rw [e'] at h1
          omega
        obtain ⟨W2, hW2⟩ : ∃ W2, W2 = wr.alloc (.cells #[.int .i64 10, .int .i64 (m : Int), .string tx] 55) := ⟨_, rfl⟩
        have BX : Hid (Below w.heap.size w W2) := by show Below _ _ _; rw [hW2]; exact BW.out.alloc BW.out.size _
        have OS : Hid (OwnB W2 w.heap.size (.slice (some ⟨g, 0, none⟩) F.length cs) F) := by show OwnB _ _ _ _; rw [hW2]; exact HR.out.s.below' (AL.out _)
        have OX : Hid (OwnB W2 w.heap.size (.slice (some ⟨g, 0, none⟩) J cs) (F.take J)) := by show OwnB _ _ _ _; rw [hW2]; exact OC.out.below' (AL.out _)
        have cn : W2.cell? ⟨wr.heap.size, 1, none⟩ = some (.int .i64 (m : Int)) := by rw [hW2]; exact cell_of_row _ _ _ _ _ _ (heap_alloc_new _ _)
        have ck : W2.cell? ⟨wr.heap.size, 0, none⟩ = some (.int .i64 10) := by rw [hW2]; exact cell_of_row _ _ _ _ _ _ (heap_alloc_new _ _)
        have ct : W2.cell? ⟨wr.heap.size, 2, none⟩ = some (.string tx) := by rw [hW2]; exact cell_of_row _ _ _ _ _ _ (heap_alloc_new _ _)
        have HW2 : Hid (W2 = wr.alloc (.cells #[.int .i64 10, .int .i64 (m : Int), .string tx] 55)) := hW2
        have hJi : (S.length : Int) - (m : Int) = (J : Int) := by omega
        have hJS : J < S.length := by omega
        have hm0 : (m : Int) > 0 := by omega
        have hTX := HR.out.tx
        have HTX2 : Hid (TX F S) := hTX
        have HL1 : Hid (S.length ≤ 1024) := by show _ ≤ _; omega
        rw [hFl] at OS ⊢
        have HJ : Hid (J = S.length - m) := hJ
        clear hnb hW2 HR hTX hJ
        go_wp2_with fail
        rw [← HW2.out]
        go_loop [9, 10] (fun a b => ∃ (j : Nat) (I : ByteArray), J ≤ j ∧ j ≤ S.length ∧ a = .string I ∧ b = .int .i64 j ∧ Hid (I.data.toList ++ prL ⟨#[59, 32]⟩ (decide (j = J)) (S.drop j) = prL ⟨#[59, 32]⟩ true (S.drop J))) (fun _ b => S.length - (intOf b).toNat)
        case atStart => exact ⟨J, _, Nat.le_refl _, by omega, rfl, rfl, by show _ = _; simp⟩
        case round =>
          obtain ⟨j, I, hj1, hj2, rfl, rfl, HI⟩ := hrel
          by_cases hjl : j < S.length
          · have cj := own_text OS.out (j := j) (by omega)
            have hSj := HTX2.out.at hjl
            obtain ⟨fj, hfj⟩ : ∃ fj, fj = F.getD j ByteArray.empty := ⟨_, rfl⟩
            rw [← hfj] at cj hSj
            have HI0 := HI.out
            by_cases hjJ : j = J
            · subst hjJ
              have hgt : ¬ ((j : Int) > (j : Int)) := by omega
              have HN : Hid ((I ++ fj).data.toList ++ prL ⟨#[59, 32]⟩ (decide (j + 1 = j)) (S.drop (j + 1)) = prL ⟨#[59, 32]⟩ true (S.drop j)) := by
                show _ = _
                rw [← HI0, bapp, hSj]
                simp only [decide_true, drop_one hjl]
                simp
              have hsz : I.size + fj.size ≤ 17408000 := by
                have e := congrArg List.length HN.out
                rw [List.length_append, bapp, List.length_append, bsize, bsize] at e
                have := HPL.out
                omega
              clear HI0 HI hSj hfj
              go_wp2
              go_round
              case rel => exact ⟨j + 1, I ++ fj, by omega, by omega, rfl, by go_num, HN⟩
              case measure => simp [intOf]; omega
            · have hgt : (j : Int) > (J : Int) := by omega
              have hd1 : decide (j = J) = false := by simpa using hjJ
              have hd2 : decide (j + 1 = J) = false := by simp; omega
              have HN : Hid (((I ++ ⟨#[59, 32]⟩) ++ fj).data.toList ++ prL ⟨#[59, 32]⟩ (decide (j + 1 = J)) (S.drop (j + 1)) = prL ⟨#[59, 32]⟩ true (S.drop J)) := by
                show _ = _
                rw [← HI0, bapp, bapp, hSj, hd1, hd2, drop_more hjl]
                simp
              have hsz : I.size + 2 + fj.size ≤ 17408000 := by
                have e := congrArg List.length HN.out
                rw [List.length_append, bapp, bapp, List.length_append, List.length_append, bsize, bsize, bsize, show (⟨#[59, 32]⟩ : ByteArray).size = 2 from rfl] at e
                have := HPL.out
                omega
              clear HI0 HI hSj hfj hd1 hd2
              go_wp2
              go_round
              case rel => exact ⟨j + 1, (I ++ ⟨#[59, 32]⟩) ++ fj, by omega, by omega, rfl, by go_num, HN⟩
              case measure => simp [intOf]; omega
          · obtain rfl : j = S.length := by omega
            have hI : I.data.toList = prL ⟨#[59, 32]⟩ true (S.drop J) := by
              have := HI.out
              rw [List.drop_length, prL, List.append_nil] at this; exact this
            have hne : S.drop J ≠ [] := fun e => by have := congrArg List.length e; simp at this; omega
            have hlen1 : (S.drop J).length = m := by have := HJ.out; simp; omega
            have HF : Hid ((((⟨#[106, 111, 105, 110, 40]⟩ : ByteArray) ++ I) ++ ⟨#[41]⟩).data.toList = prF (.nd 10 tx (S.drop J))) := by
              show _ = _
              rw [pr_node _ _ _ hne]
              have e1 : (frow 10).word.data.toList = [106, 111, 105, 110] := by decide
              have e2 : (frow 10).text = 0 := by decide
              have e3 : (frow 10).op.data.toList = [40] := by decide
              have e4 : (frow 10).en.data.toList = [41] := by decide
              have e5 : prL (frow 10).bt true (S.drop J) = I.data.toList := by rw [hI]; rfl
              rw [e1, e2, e3, e4, e5]
              simp only [bapp]
              simp [txtF]
            have hIz : I.size ≤ 17408000 := by rw [← bsize, hI]; exact HPL.out
            clear hI HI hne hlen1
            go_wp2_with (at_builtin; refine append_tx rfl (.tmp 124) (.tmp 126) 35 rfl w.heap.size Tryd.underlying35 info_str _ _ _ (.slice (some ⟨g, 0, none⟩) J cs) (F.take J) (((⟨#[106, 111, 105, 110, 40]⟩ : ByteArray) ++ I) ++ ⟨#[41]⟩) _ rfl OX.out _ (by first | rfl | simp) rfl rfl FTL.out BX.out.size ?_; intro v6 w6 ho6 hb6; obtain ⟨g6, c6, hv6, hrp⟩ := NEXT.out (((⟨#[106, 111, 105, 110, 40]⟩ : ByteArray) ++ I) ++ ⟨#[41]⟩) v6 w6 HF.out ho6 (BX.out.trans hb6); obtain ⟨n6, hn6⟩ : ∃ n6, n6 = (F.take J ++ [(((⟨#[106, 111, 105, 110, 40]⟩ : ByteArray) ++ I) ++ ⟨#[41]⟩ : ByteArray)]).length := ⟨_, rfl⟩; have HR6 : Hid _ := hrp; rw [← hn6] at hv6; have HN6 : Hid (n6 = (F.take J ++ [(((⟨#[106, 111, 105, 110, 40]⟩ : ByteArray) ++ I) ++ ⟨#[41]⟩ : ByteArray)]).length) := hn6; subst hv6; clear hn6 hrp ho6 hb6)
            go_roundw
            case rel => exact ⟨k + 1, g6, c6, F.take J ++ [((⟨#[106, 111, 105, 110, 40]⟩ : ByteArray) ++ I) ++ ⟨#[41]⟩], _, _, by omega, by go_num, by rw [HN6.out], rfl, HR6⟩
            case measure => simp [intOf]; omega
      · have hmz : m = 0 := by
          have h2 := hnb.2
          have e : (frow 11).most = 0 := by decide
          rw [e] at h2
          omega
        subst hmz
        rw [show ((0 : Nat) : Int) = 0 from rfl] at x2
        obtain rfl : J = S.length := by omega
        have hdr : S.drop S.length = [] := List.drop_length
        have htk : F.take S.length = F := List.take_of_length_le (by omega)
        have HF : Hid (((⟨#[108, 111, 110, 103]⟩ : ByteArray)).data.toList = prF (.nd 11 tx (S.drop S.length))) := by
          show _ = _
          rw [hdr, pr_leaf]; have e1 : (frow 11).word.data.toList = [108, 111, 110, 103] := by decide
          have e2 : (frow 11).text = 0 := by decide
          rw [e1, e2]; simp [txtF]
        have BX0 : Hid (∀ ob, Below w.heap.size w (wr.alloc ob)) := fun ob => BW.out.alloc BW.out.size ob
        have OX0 : Hid (∀ ob, OwnB (wr.alloc ob) w.heap.size (.slice (some ⟨g, 0, none⟩) S.length cs) (F.take S.length)) := fun ob => OC.out.below' (AL.out ob)
        rw [hFl]
        clear hnb hdr htk hJ
        have BX : Hid (Below w.heap.size w (wr.alloc (.cells #[.int .i64 11, .int .i64 0, .string tx] 55))) := BX0.out _
        have OX : Hid (OwnB (wr.alloc (.cells #[.int .i64 11, .int .i64 0, .string tx] 55)) w.heap.size (.slice (some ⟨g, 0, none⟩) S.length cs) (F.take S.length)) := OX0.out _
        clear BX0 OX0
        go_wp2_with (at_builtin; refine append_tx rfl (.tmp 124) (.tmp 126) 35 rfl w.heap.size Tryd.underlying35 info_str _ _ _ (.slice (some ⟨g, 0, none⟩) S.length cs) (F.take S.length) ((⟨#[108, 111, 110, 103]⟩ : ByteArray)) _ rfl OX.out _ (by first | rfl | simp) rfl rfl FTL.out BX.out.size ?_; intro v6 w6 ho6 hb6; obtain ⟨g6, c6, hv6, hrp⟩ := NEXT.out ((⟨#[108, 111, 110, 103]⟩ : ByteArray)) v6 w6 HF.out ho6 (BX.out.trans hb6); obtain ⟨n6, hn6⟩ : ∃ n6, n6 = (F.take S.length ++ [((⟨#[108, 111, 110, 103]⟩ : ByteArray) : ByteArray)]).length := ⟨_, rfl⟩; have HR6 : Hid _ := hrp; rw [← hn6] at hv6; have HN6 : Hid (n6 = (F.take S.length ++ [((⟨#[108, 111, 110, 103]⟩ : ByteArray) : ByteArray)]).length) := hn6; subst hv6; clear hn6 hrp ho6 hb6)
        go_roundw
        case rel => exact ⟨k + 1, g6, c6, F.take S.length ++ [(⟨#[108, 111, 110, 103]⟩ : ByteArray)], _, _, by omega, by go_num, by rw [HN6.out], rfl, HR6⟩
        case measure => simp [intOf]; omega
    · have hkl : k = l.length := by omega
      have e := HR.out.eq
      have hT := HR.out.tx
      rw [List.drop_eq_nil_of_le (by omega), build, HB.out] at e
      have hF1 : F.length = 1 := by rw [hT.len, ← e]; rfl
      have hS0 : S.length = 1 := by rw [← e]; rfl
      have c0 := own_text HR.out.s (j := 0) (by omega)
      have ht0 := hT.at (k := 0) (by omega)
      have hS1 : S[0]'(by omega) = treeOf l := by
        have : S = [treeOf l] := e.symm
        simp [this]
      rw [hS1] at ht0
      obtain ⟨f0, hf0⟩ : ∃ f0, f0 = F.getD 0 ByteArray.empty := ⟨_, rfl⟩
      rw [← hf0] at c0 ht0
      rw [hF1]
      have H0 : Hid (f0.data.toList = prF (treeOf l)) := ht0
      have BF : Hid (Below w.heap.size w wr) := HR.out.bl
      clear HR e hT hF1 hS0 ht0 hS1 hf0 HB
      go_wp2
      go_ret2
      exact ⟨f0, H0.out, rfl, BF.out⟩
end Go.Proofs.YtaleagkhblokgaaDoor
