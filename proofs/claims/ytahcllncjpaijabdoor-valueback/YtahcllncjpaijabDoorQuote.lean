/- The walks of lex.Quote and of its reference: both give the text quoted. Asked: the quoted text has room in memory. -/
import Derived.Test.YtahcllncjpaijabDoorVd0
import Derived.Test.YtahcllncjpaijabDoorProg
import Derived.WalkKit
import Derived.WalkSpells
import Derived.WalkLawsBesides
import Derived.Deep.AppendLies
import Derived.Deep.RegionLaw
namespace Go.Proofs.YtahcllncjpaijabDoor
open Go.RowKit

set_option maxHeartbeats 4000000 in
theorem order_any (v1 v2 : Value) (s t : Vt) (w : World) (h1 : AS w v1 (flV s)) (h2 : AS w v2 (flV t)) (hs : RT s) (ht : RT t) :
    Calls Tryd.prog 41 #[v1, v2] w fun e w' => e = .returned (.int .i64 (cmpV s t)) ∧ Below w.heap.size w w' := by
  obtain ⟨p1, c1, rfl⟩ := h1.form
  obtain ⟨p2, c2, rfl⟩ := h2.form
  have e1 : (flV s).length = szV s := rfl
  have e2 : (flV t).length = szV t := rfl
  rw [e1] at h1 ⊢
  rw [e2] at h2 ⊢
  have L1 : Hid _ := lay_any p1 c1 s w h1 hs
  have L2 : Hid (∀ w1, Below w.heap.size w w1 → _) := fun w1 b => lay_any p2 c2 t w1 (h2.below b) ht
  have LC : Hid (∀ w1 g1 g2, Below w.heap.size w w1 → IS w1 (.slice (some ⟨g1, 0, none⟩) (szV s) (szV s)) (opV s) → IS w1 (.slice (some ⟨g2, 0, none⟩) (szV t) (szV t)) (opV t) → _) := fun w1 g1 g2 b o1 o2 => laidCompare_any p1 p2 c1 c2 g1 g2 s t w1 (h1.below b) (h2.below b) o1 o2 hs ht
  generalize cmpV s t = R at *
  clear h1 h2 hs ht
  go_enter Tryd.func41, Tryd.ntmps41
  go_wp2_with fail
  refine Calls.mono L1.out ?_
  rintro e w1 ⟨g1, rfl, ho1, hb1⟩
  have B1 : Hid (Below w.heap.size w w1) := hb1
  have O1 : Hid (IS w1 (.slice (some ⟨g1, 0, none⟩) (szV s) (szV s)) (opV s)) := ho1.gs KI_ok.len
  have Q1 : Hid _ := L2.out w1 hb1
  clear ho1 hb1 L1 L2
  go_wp2_with fail
  refine Calls.mono Q1.out ?_
  rintro e w2 ⟨g2, rfl, ho2, hb2⟩
  have B2 : Hid (Below w.heap.size w w2) := B1.out.trans (hb2.mono B1.out.size)
  have Q2 : Hid _ := LC.out w2 g1 g2 B2.out (O1.out.below hb2) (ho2.gs KI_ok.len)
  clear ho2 hb2 Q1 LC O1 B1
  go_wp2_with fail
  refine Calls.mono Q2.out ?_
  rintro e w3 ⟨rfl, hb3⟩
  have B3 : Hid (Below w.heap.size w w3) := B2.out.trans (hb3.mono B2.out.size)
  clear hb3 Q2 B2
  go_wp2_with fail
  go_ret
  exact ⟨rfl, B3.out⟩
theorem cmpVL_at {A B : List Vt} {k : Nat} (ha : k < A.length) (hb : k < B.length) : cmpVL (A.drop k) (B.drop k) = if cmpV A[k] B[k] = 0 then cmpVL (A.drop (k + 1)) (B.drop (k + 1)) else cmpV A[k] B[k] := by
  rw [List.drop_eq_getElem_cons ha, List.drop_eq_getElem_cons hb, cmpVL]
theorem cmpVL_end {A B : List Vt} {k : Nat} (ha : k ≤ A.length) (hb : k ≤ B.length) (h : ¬ (k < A.length ∧ k < B.length)) : cmpVL (A.drop k) (B.drop k) = sgn ((A.length : Int) - (B.length : Int)) := by
  by_cases h1 : k < A.length
  · have e : B.drop k = [] := List.drop_eq_nil_of_le (by omega)
    rw [e, List.drop_eq_getElem_cons h1, cmpVL, sgn_pos (by omega)]
  · have e : A.drop k = [] := List.drop_eq_nil_of_le (by omega)
    rw [e]
    by_cases h2 : k < B.length
    · rw [List.drop_eq_getElem_cons h2, cmpVL, sgn_neg (by omega)]
    · have e2 : B.drop k = [] := List.drop_eq_nil_of_le (by omega)
      rw [e2, cmpVL, show (A.length : Int) - (B.length : Int) = 0 by omega]; rfl
theorem AT_parts {t : Vt} (h : AT (flV t)) : ∀ u ∈ t.ps, AT (flV u) := by
  intro u hu c hc
  refine h c ?_
  rw [flV_last t, flVL_map]
  exact List.mem_append_left _ (List.mem_flatMap.2 ⟨u, hu, hc⟩)
theorem RT.kind {t : Vt} (h : RT t) : t.k = 1 ∨ t.k = 2 ∨ t.k = 3 := by
  have := h.wf
  cases t with
  | nd k i tx ps => rw [wfV] at this; exact (atB_n this.1).2.2
theorem RT.int {t : Vt} (h : RT t) : -9007199254740992 ≤ t.i ∧ t.i ≤ 9007199254740992 := by
  have h1 := h.wf
  cases t with
  | nd k i tx ps =>
    rw [wfV] at h1
    have h2 := h1.1
    unfold atB at h2
    show -9007199254740992 ≤ i ∧ i ≤ 9007199254740992
    split at h2
    · simp at h2; exact h2.1.2
    · split at h2
      · simp at h2; omega
      · split at h2
        · simp at h2; omega
        · cases h2
theorem szV_part {t : Vt} {u : Vt} (h : u ∈ t.ps) : szV u < szV t := by
  rw [szV_ps t]
  obtain ⟨a, b, e⟩ := List.append_of_mem h
  rw [e, szVL_app, szVL_cons]
  omega
theorem cmpV_def (s t : Vt) : cmpV s t = if s.k ≠ t.k then sgn (s.k - t.k) else if s.k = 1 then sgn (s.i - t.i) else if s.k = 2 then cmpT s.tx t.tx else cmpVL s.ps t.ps := by
  cases s; cases t; rw [cmpV]; rfl
end Go.Proofs.YtahcllncjpaijabDoor
namespace Go.Proofs.YtahcllncjpaijabDoor
open Go.RowKit

def cmpE (l1 l2 : List Atm) : Int := firstE [l1, l2]
def cmpN (l1 l2 : List Atm) : Int := if cmpE l1 l2 = 0 then cmpV (treeA l1) (treeA l2) else 0
theorem cmpE_zero {l1 l2 : List Atm} (h : cmpE l1 l2 = 0) : chkV l1 = 0 ∧ chkV l2 = 0 := ⟨firstE_zero h l1 (by simp), firstE_zero h l2 (by simp)⟩
/-- Two values in a row of the call's own. -/
theorem pair_vr {w : World} {q1 q2 : Option Addr} {c1 c2 : Nat} {l1 l2 : List Atm} (h1 : AS w (.slice q1 l1.length c1) l1) (h2 : AS w (.slice q2 l2.length c2) l2) : VR (w.alloc (.cells #[.slice q1 l1.length c1, .slice q2 l2.length c2] 23)) (.slice (some ⟨w.heap.size, 0, none⟩) 2 2) [⟨l1, q1, c1⟩, ⟨l2, q2, c2⟩] := by
  have b : Below w.heap.size w (w.alloc (.cells #[.slice q1 l1.length c1, .slice q2 l2.length c2] 23)) := (Below.refl _ _).alloc (Nat.le_refl _) _
  refine ⟨(OwnG.lit KV w [⟨l1, q1, c1⟩, ⟨l2, q2, c2⟩] _ rfl rfl (by show 2 ≤ maxLen; unfold maxLen; omega)).gs KV_ok.len, fun x hx => ?_⟩
  simp at hx
  rcases hx with rfl | rfl
  · exact h1.below b
  · exact h2.below b
theorem pair_vt {q1 q2 : Option Addr} {c1 c2 : Nat} {l1 l2 : List Atm} (n1 : l1.length * 40 ≤ 140737488355328) (n2 : l2.length * 40 ≤ 140737488355328) (t1 : AT l1) (t2 : AT l2) : VT [(⟨l1, q1, c1⟩ : Vx), ⟨l2, q2, c2⟩] := by
  refine ⟨by simp, fun x hx => ?_, fun x hx => ?_⟩
  · simp at hx
    rcases hx with rfl | rfl
    · exact n1
    · exact n2
  · simp at hx
    rcases hx with rfl | rfl
    · exact t1
    · exact t2
set_option maxHeartbeats 4000000 in
theorem compare_any (v1 v2 : Value) (l1 l2 : List Atm) (w : World) (h1 : AS w v1 l1) (h2 : AS w v2 l2) (t1 : AT l1) (t2 : AT l2) (n1 : l1.length * 40 ≤ 140737488355328) (n2 : l2.length * 40 ≤ 140737488355328) :
    Calls Tryd.prog 27 #[v1, v2] w fun e w' => e = .returned (.tuple #[.int .i64 (cmpN l1 l2), .int .i64 (cmpE l1 l2)]) ∧ Below w.heap.size w w' := by
  obtain ⟨q1, c1, rfl⟩ := h1.form
  obtain ⟨q2, c2, rfl⟩ := h2.form
  have CA : Hid (Calls Tryd.prog 21 #[.slice (some ⟨w.heap.size, 0, none⟩) 2 2] (w.alloc (.cells #[.slice q1 l1.length c1, .slice q2 l2.length c2] 23)) fun e w' => e = .returned (.int .i64 (cmpE l1 l2)) ∧ Below (w.alloc (.cells #[.slice q1 l1.length c1, .slice q2 l2.length c2] 23)).heap.size (w.alloc (.cells #[.slice q1 l1.length c1, .slice q2 l2.length c2] 23)) w') := by
    have := checkAll_any _ _ _ (pair_vr h1 h2) (pair_vt n1 n2 t1 t2)
    exact this
  have HN : Hid (cmpN l1 l2 = if cmpE l1 l2 = 0 then cmpV (treeA l1) (treeA l2) else 0) := rfl
  have OD : Hid (cmpE l1 l2 = 0 → ∀ w1, Below w.heap.size w w1 → Calls Tryd.prog 41 #[.slice q1 l1.length c1, .slice q2 l2.length c2] w1 fun e w' => e = .returned (.int .i64 (cmpV (treeA l1) (treeA l2))) ∧ Below w1.heap.size w1 w') := fun e w1 b => by
    obtain ⟨z1, z2⟩ := cmpE_zero e
    obtain ⟨s, rfl, hs⟩ := RT.of z1
    obtain ⟨t, rfl, ht⟩ := RT.of z2
    rw [treeA_flat hs.wf, treeA_flat ht.wf]
    exact order_any _ _ s t w1 (h1.below b) (h2.below b) hs ht
  have B0 : Hid (∀ ob w1, Below (w.alloc ob).heap.size (w.alloc ob) w1 → Below w.heap.size w w1) := fun ob w1 b => ((Below.refl _ _).alloc (Nat.le_refl _) ob).trans (b.mono (by simp))
  generalize cmpN l1 l2 = rn at *
  generalize cmpV (treeA l1) (treeA l2) = cv at *
  generalize cmpE l1 l2 = r at *
  clear h1 h2 t1 t2 n1 n2
  by_cases hz : r = 0
  · subst hz
    rw [if_pos rfl] at HN
    go_enter Tryd.func27, Tryd.ntmps27
    go_wp2_with fail
    refine Calls.mono CA.out ?_
    rintro e w1 ⟨rfl, hb1⟩
    have B1 : Hid (Below w.heap.size w w1) := B0.out _ _ hb1
    have O1 : Hid _ := OD.out (by simp) w1 B1.out
    clear hb1 CA OD B0
    go_wp2_with fail
    refine Calls.mono O1.out ?_
    rintro e w2 ⟨rfl, hb2⟩
    have B2 : Hid (Below w.heap.size w w2) := B1.out.trans (hb2.mono B1.out.size)
    clear hb2 O1 B1
    go_wp2_with fail
    exact bodyPost_ret (v := .tuple #[.int .i64 cv, .int .i64 0]) (by simp [results, Tryd.results27, go_sem]) rfl ⟨by rw [HN.out], B2.out⟩
  · rw [if_neg hz] at HN
    have hzb : (r != 0) = true := by simp [hz]
    clear OD
    go_enter Tryd.func27, Tryd.ntmps27
    go_wp2_with fail
    refine Calls.mono CA.out ?_
    rintro e w1 ⟨rfl, hb1⟩
    have B1 : Hid (Below w.heap.size w w1) := B0.out _ _ hb1
    clear hb1 CA B0
    go_wp2_with fail
    exact bodyPost_ret (v := .tuple #[.int .i64 0, .int .i64 r]) (by simp [results, Tryd.results27, go_sem]) rfl ⟨by rw [HN.out], B1.out⟩
end Go.Proofs.YtahcllncjpaijabDoor
namespace Go.Proofs.YtahcllncjpaijabDoor
open Go.RowKit

def byteV (b : UInt8) : Value := .int .u8 (b.toNat : Int)
/-- The slice v owns these bytes, in a row of the call's own. -/
def Own (w : World) (base : Nat) (v : Value) (bs : List UInt8) : Prop := w.ownsRow base 5 1 v bs.length (bs.map byteV)

theorem info_u8 : (Tryd.prog.info? 5).map (fun i => (i.zero, i.size, i.bytes)) = some (some (.int .u8 0), 1, 1) := by kernel_rfl
theorem own_nil (w : World) (base : Nat) : Own w base (.slice none 0 0) [] := World.ownsRow_nil _ _ _ _
theorem Own.alloc {w : World} {base : Nat} {v : Value} {bs : List UInt8} (h : Own w base v bs) (o : Obj) : Own (w.alloc o) base v bs := World.ownsRow.alloc h o
theorem byteV_one (l : List UInt8) : ∀ u ∈ l.map byteV, u.oneCell' = true := by
  intro u hu; obtain ⟨b, _, rfl⟩ := List.mem_map.1 hu; rfl
theorem news_at (w0 : World) (cells : Array Value) (t : TypeId) (news : List Value) (h : cells.toList = news) : ∀ j u, news[j]? = some u → (w0.alloc (.cells cells t)).cell? ((⟨w0.heap.size, 0, none⟩ : Addr).add j) = some u := by
  intro j u hj
  have hadd : (⟨w0.heap.size, 0, none⟩ : Addr).add j = ⟨w0.heap.size, j, none⟩ := by unfold Addr.add; split <;> simp_all
  rw [hadd, cell_of_row _ _ _ _ _ _ (heap_alloc_new w0 _), ← Array.getElem?_toList, h]; exact hj

theorem append_own_bytes {P : Program} {ops : Array Oper} {rest : List Oper} {o : Oper} {a : Act} {Q : Exit → Act → World → Prop} (hgd : o.guard = none) (s x : Operand) (t : TypeId)
    (ho : o.op = .call { callee := .builtin .append, args := #[s, x], argTypes := #[t, t] })
    (base : Nat) (ht : P.underlying t = some (.slice 5)) (hi : (P.info? 5).map (fun i => (i.zero, i.size, i.bytes)) = some (some (.int .u8 0), 1, 1))
    (w0 : World) (cells : Array Value) (tc : TypeId) (v : Value) (bs news : List UInt8) (c : Nat) (hs : a.eval s = v) (hown : Own w0 base v bs)
    (hx : a.eval x = .slice (some ⟨w0.heap.size, 0, none⟩) news.length c) (hc : cells.toList = news.map byteV)
    (hlen : bs.length + news.length ≤ 140737488355328) (hbase : base ≤ w0.heap.size)
    (h : ∀ v' w', Own w' base v' (bs ++ news) → Below base w0 w' → w0.heap.size ≤ w'.heap.size → (news ≠ [] → ∃ g cap, v' = .slice (some ⟨g, 0, none⟩) (bs ++ news).length cap) → wpList P ops Q rest (a.put o.dst v') w') : wpList P ops Q (o :: rest) a (w0.alloc (.cells cells tc)) := by
  obtain ⟨i0, hi0, hz0, hz1, hz2⟩ := info_parts hi
  have hown2 : (w0.alloc (.cells cells tc)).ownsRow base 5 1 v bs.length (bs.map byteV) := World.ownsRow.alloc hown _
  refine wpList_append_own _ hgd s x t ho base 5 i0 (.int .u8 0) 1 1 ht hi0 hz0 hz1 hz2 rfl (by decide) v bs.length (bs.map byteV) hs hown2 ⟨w0.heap.size, 0, none⟩ news.length c (news.map byteV) hx (by simp) (news_at w0 cells tc _ hc) (byteV_one _)
    (by unfold maxLen; omega) (by omega) (by simp; omega) ?_
  intro v' w' ho' hg _
  have hgb : Below base w0 w' := ((Below.refl base w0).alloc hbase _).grown hg (by simp; omega) (fun q hq => (hown2.lt q hq).1)
  have ho2 : w'.ownsRow base 5 1 v' (bs ++ news).length ((bs ++ news).map byteV) := by rw [List.length_append, List.map_append]; exact ho'
  refine h v' w' ho2 hgb hgb.size ?_
  intro hn
  rcases ho2.2 with ⟨_, h0⟩ | ⟨g, cap, _, hv, _⟩
  · exfalso; apply hn; simp at h0; exact h0.2
  · exact ⟨g, cap, hv⟩

theorem run_own_string {P : Program} {w : World} {base : Nat} {v : Value} {bs : List UInt8} (h : Own w base v bs) (src dst : TypeId) (hs : P.underlying src = some (.slice 5)) (he : P.underlying 5 = some (.int .u8)) (hd : P.underlying dst = some .string) :
    (convert src dst v).run P w = .ok (.string ⟨bs.toArray⟩) w := by
  rcases h.2 with ⟨rfl, h0⟩ | ⟨g, cap, cur, rfl, _⟩
  · have : bs = [] := List.length_eq_zero_iff.1 h0
    subst this
    rw [run_convert_bytes_string w src dst 5 none 0 0 hs he hd]; rfl
  · refine run_convert_bytes_back w src dst 5 ⟨g, 0, none⟩ cap bs hs he hd ?_
    intro j hj
    have hadd : (⟨g, 0, none⟩ : Addr).add j = ⟨g, j, none⟩ := by unfold Addr.add; split <;> simp_all
    rw [hadd, World.ownsRow.cellAt h j (by omega), List.getElem?_map, List.getElem?_eq_getElem hj]; rfl
theorem wpList_own_string {P : Program} {ops : Array Oper} {rest : List Oper} {o : Oper} {a : Act} {w : World} {Q : Exit → Act → World → Prop} (hgd : o.guard = none) (x : Operand) (src dst : TypeId) (ho : o.op = .convert src dst x)
    (base : Nat) (v : Value) (bs : List UInt8) (hx : a.eval x = v) (h : Own w base v bs) (hs : P.underlying src = some (.slice 5)) (he : P.underlying 5 = some (.int .u8)) (hd : P.underlying dst = some .string)
    (hK : wpList P ops Q rest (a.put o.dst (.string ⟨bs.toArray⟩)) w) : wpList P ops Q (o :: rest) a w := by
  refine wpList_plain hgd fun K hK' => ?_
  unfold Oper.wp
  simp [execOp, ho, hx, run_own_string h src dst hs he hd, Result.andThen]
  exact hK' _ _ hK

theorem Own.below {w w' : World} {base : Nat} {v : Value} {bs : List UInt8} (h : Own w base v bs) (hb : Below w.heap.size w w') : Own w' base v bs := by
  obtain ⟨h1, h2⟩ := h
  refine ⟨h1, ?_⟩
  rcases h2 with h2 | ⟨g, cap, cur, e1, e2, e3, e4⟩
  · exact Or.inl h2
  · refine Or.inr ⟨g, cap, cur, e1, e2, ?_, e4⟩
    have hg : g < w.heap.size := by
      by_cases hlt : g < w.heap.size
      · exact hlt
      · rw [Array.getElem?_eq_none (by omega)] at e3; cases e3
    rw [hb.block g hg]; exact e3

theorem Own.drew {w : World} {base : Nat} {v : Value} {bs : List UInt8} (h : Own w base v bs) : Own w.drew base v bs := World.ownsRow.drew h

theorem step_own_bytes {P : Program} {ops : Array Oper} {o : Oper} {a : Act} {K : Act → World → Prop} {Q : Exit → Act → World → Prop} {E : Prop} (hgd : o.guard = none) (s x : Operand) (t : TypeId)
    (ho : o.op = .call { callee := .builtin .append, args := #[s, x], argTypes := #[t, t] })
    (base : Nat) (ht : P.underlying t = some (.slice 5)) (hi : (P.info? 5).map (fun i => (i.zero, i.size, i.bytes)) = some (some (.int .u8 0), 1, 1))
    (w0 w : World) (cells : Array Value) (tc : TypeId) (hw : w = w0.drew.alloc (.cells cells tc)) (v : Value) (bs news : List UInt8) (c : Nat) (hs : a.eval s = v) (hown : Own w0 base v bs)
    (hx : a.eval x = .slice (some ⟨w0.heap.size, 0, none⟩) news.length c) (hc : cells.toList = news.map byteV) (hn : 0 < news.length)
    (hlen : bs.length + news.length ≤ 140737488355328) (hbase : base ≤ w0.heap.size)
    (h : ∀ g cap w', Own w' base (.slice (some ⟨g, 0, none⟩) (bs ++ news).length cap) (bs ++ news) → Below base w0 w' → w0.heap.size ≤ w'.heap.size → K (a.put o.dst (.slice (some ⟨g, 0, none⟩) (bs ++ news).length cap)) w') :
    if Region.wanted o (yielded ops a.tmps) = true then Oper.wp P o a w K Q else E := by
  subst hw
  obtain ⟨i0, hi0, hz0, hz1, hz2⟩ := info_parts hi
  have hown2 : (w0.drew.alloc (.cells cells tc)).ownsRow base 5 1 v bs.length (bs.map byteV) := World.ownsRow.alloc (World.ownsRow.drew hown) _
  refine step_append_lies _ hgd s x t ho base 5 i0 (.int .u8 0) 1 1 ht hi0 hz0 hz1 hz2 rfl (by decide) v bs.length (bs.map byteV) hs hown2 ⟨w0.heap.size, 0, none⟩ news.length c (news.map byteV) hx (by simp) (news_at w0.drew cells tc _ hc) (byteV_one _)
    hn (by unfold maxLen; omega) (by omega) (by show base ≤ (w0.heap.push _).size; simp; omega) _ rfl ?_
  intro g cap w' ho' hg _ _
  have hgb : Below base w0 w' := ((Below.refl base w0).drew.alloc hbase _).grown hg (by show base ≤ (w0.heap.push _).size; simp; omega) (fun q hq => (hown2.lt q hq).1)
  have ho2 : Own w' base (.slice (some ⟨g, 0, none⟩) (bs ++ news).length cap) (bs ++ news) := by unfold Own; rw [List.length_append, List.map_append]; exact ho'
  have := h g cap w' ho2 hgb hgb.size
  rw [List.length_append] at this
  exact this
end Go.Proofs.YtahcllncjpaijabDoor
namespace Go.Proofs.YtahcllncjpaijabDoor

def hexDig : ByteArray := ⟨#[48, 49, 50, 51, 52, 53, 54, 55, 56, 57, 97, 98, 99, 100, 101, 102]⟩
/-- The digit to the base 16. -/
def hexD (n : Nat) : UInt8 := hexDig.data.toList.getD n 0
/-- A byte as it is written within quotes. -/
def qB (c : UInt8) : List UInt8 :=
  if c = 34 ∨ c = 92 then [92, c] else if c = 10 then [92, 110] else if 32 ≤ c.toNat ∧ c.toNat ≤ 126 then [c] else [92, 120, hexD (c.toNat / 16), hexD (c.toNat % 16)]
def quo (l : List UInt8) : List UInt8 := [34] ++ l.flatMap qB ++ [34]
theorem qB_len (c : UInt8) : (qB c).length ≤ 4 := by unfold qB; split; simp; split; simp; split <;> simp
theorem qB_len1 (c : UInt8) : 1 ≤ (qB c).length := by unfold qB; split; simp; split; simp; split <;> simp
theorem qBs_len : ∀ l : List UInt8, (l.flatMap qB).length ≤ 4 * l.length
  | [] => by simp
  | c :: r => by have := qBs_len r; have := qB_len c; rw [List.flatMap_cons, List.length_append, List.length_cons]; omega
theorem take_snoc (s : ByteArray) (k : Nat) (h : k < s.size) : s.data.toList.take (k + 1) = s.data.toList.take k ++ [s[k]] := by
  rw [List.take_succ_eq_append_getElem (by simpa using h)]; rfl
theorem qBs_snoc (s : ByteArray) (k : Nat) (h : k < s.size) : (s.data.toList.take (k + 1)).flatMap qB = (s.data.toList.take k).flatMap qB ++ qB s[k] := by
  rw [take_snoc s k h, List.flatMap_append]; simp
theorem qB_esc {c : UInt8} (h : (c.toNat : Int) = 34 ∨ (c.toNat : Int) = 92) : qB c = [92, c] := by
  have : c = 34 ∨ c = 92 := by rcases h with h | h; left; apply UInt8.toNat_inj.1; simp; omega; right; apply UInt8.toNat_inj.1; simp; omega
  unfold qB; rw [if_pos this]
theorem qB_34 {c : UInt8} (h : (c.toNat : Int) = 34) : qB c = [92] ++ [34] := by
  have : c = 34 := by apply UInt8.toNat_inj.1; simp; omega
  subst this; rfl
theorem qB_92 {c : UInt8} (h : (c.toNat : Int) = 92) : qB c = [92] ++ [92] := by
  have : c = 92 := by apply UInt8.toNat_inj.1; simp; omega
  subst this; rfl
theorem toNat_ne {c : UInt8} {n : Nat} (hn : n < 256) (h : ¬ (c.toNat : Int) = n) : ¬ c = UInt8.ofNat n := by
  intro e; apply h; rw [e]; simp; omega
theorem qB_nl {c : UInt8} (h : (c.toNat : Int) = 10) : qB c = [92, 110] := by
  have : c = 10 := by apply UInt8.toNat_inj.1; simp; omega
  subst this; rfl
theorem qB_plain {c : UInt8} (h1 : ¬ (c.toNat : Int) = 34) (h2 : ¬ (c.toNat : Int) = 92) (h3 : 32 ≤ (c.toNat : Int)) (h4 : (c.toNat : Int) ≤ 126) : qB c = [c] := by
  unfold qB
  rw [if_neg (by rintro (e | e) <;> subst e <;> simp at h1 h2), if_neg (by intro e; subst e; simp at h3), if_pos (by omega)]
theorem qB_hex {c : UInt8} (h1 : ¬ (c.toNat : Int) = 10) (h2 : (c.toNat : Int) < 32 ∨ 126 < (c.toNat : Int)) : qB c = [92, 120, hexD (c.toNat / 16), hexD (c.toNat % 16)] := by
  unfold qB
  rw [if_neg (by rintro (e | e) <;> subst e <;> simp at h2), if_neg (by intro e; subst e; simp at h1), if_neg (by omega)]
theorem hexAt (j n : Nat) (hj : j = n) (h : j < hexDig.size) : ((hexDig[j]'h).toNat : Int) = ((hexD n).toNat : Int) := by
  subst hj
  have : hexDig[j] = hexD j := by
    have h' : j < hexDig.data.toList.length := h
    simp only [hexD, List.getD_eq_getElem?_getD, List.getElem?_eq_getElem h', Option.getD_some]; rfl
  rw [this]
theorem cells4 {a b : Int} {x y : UInt8} (ha : a = (x.toNat : Int)) (hb : b = (y.toNat : Int)) : (#[.int .u8 92, .int .u8 120, .int .u8 a, .int .u8 b] : Array Value).toList = [92, 120, x, y].map byteV := by
  subst ha hb; rfl
theorem wrap_u8 (n : Int) (h0 : 0 ≤ n) (h1 : n ≤ 255) : IntKind.u8.wrap n = n := by simp [IntKind.wrap, IntKind.signed, IntKind.bits]; omega
theorem and15 (c : UInt8) : bits BinOp.and IntKind.u8 (c.toNat : Int) 15 = (c.toNat : Int) % 16 := by
  have h : ∀ n : Fin 256, bits BinOp.and IntKind.u8 (n.val : Int) 15 = (n.val : Int) % 16 := by decide +kernel
  exact h ⟨c.toNat, UInt8.toNat_lt c⟩
end Go.Proofs.YtahcllncjpaijabDoor
namespace Go.Proofs.YtahcllncjpaijabDoor
open Go.RowKit

theorem ret_bool' {a b : Bool} (h : a = b) : Ending.returned (.bool a) = .returned (.bool b) := by rw [h]
theorem ret_str {a b : List UInt8} (h : a = b) : Ending.returned (.string ⟨a.toArray⟩) = .returned (.string ⟨b.toArray⟩) := by rw [h]
/-- Does a byte stand for itself within quotes? -/
def plB (c : Int) : Bool := decide (32 ≤ c ∧ c ≤ 126 ∧ c ≠ 34 ∧ c ≠ 92)
set_option maxHeartbeats 400000 in
theorem isPlain_any (c : Int) (w : World) : Calls Tryd.prog 72 #[.int .u8 c] w fun e w' => e = .returned (.bool (plB c)) ∧ w' = w := by
  have HP : Hid (plB c = decide (32 ≤ c ∧ c ≤ 126 ∧ c ≠ 34 ∧ c ≠ 92)) := rfl
  go_enter Tryd.func72, Tryd.ntmps72
  go_wp2
  all_goals
    go_ret
    refine ⟨ret_bool' ?_, rfl⟩
    rw [HP.out, Bool.eq_iff_iff]
    simp
    try omega
theorem isPlain_t (c : Int) (w : World) (h : plB c = true) : Calls Tryd.prog 72 #[.int .u8 c] w fun e w' => e = .returned (.bool true) ∧ w' = w := h ▸ isPlain_any c w
theorem isPlain_f (c : Int) (w : World) (h : plB c = false) : Calls Tryd.prog 72 #[.int .u8 c] w fun e w' => e = .returned (.bool false) ∧ w' = w := h ▸ isPlain_any c w

set_option maxHeartbeats 2000000 in
theorem appendQuoted_any (s : ByteArray) (v : Value) (bs : List UInt8) (base : Nat) (w : World) (hown : Own w base v bs) (hbase : base ≤ w.heap.size) (hs : bs.length + 4 * s.size + 2 ≤ 140737488355328) :
    Calls Tryd.prog 53 #[v, .string s] w fun e w' => ∃ g cap, e = .returned (.slice (some ⟨g, 0, none⟩) (bs ++ quo s.data.toList).length cap) ∧ Own w' base (.slice (some ⟨g, 0, none⟩) (bs ++ quo s.data.toList).length cap) (bs ++ quo s.data.toList) ∧ Below base w w' := by
  go_enter Tryd.func53, Tryd.ntmps53
  go_wp2_with (at_builtin; refine append_own_bytes rfl (.tmp 7) (.tmp 8) 72 rfl base Tryd.underlying72 info_u8 _ _ _ v bs [34] _ rfl hown rfl rfl (by simp; omega) hbase ?_; intro v1 w1 ho1 hb1 hz1 hv1)
  go_loopw [0, 12] (fun x i wr => ∃ k : Nat, k ≤ s.size ∧ i = .int .i64 k ∧ Own wr base x (bs ++ [34] ++ (s.data.toList.take k).flatMap qB) ∧ Below base w wr ∧ base ≤ wr.heap.size) (fun _ i _ => s.size - (intOf i).toNat)
  case atStart => exact ⟨0, Nat.zero_le _, rfl, by simpa using ho1, hb1, by omega⟩
  case round =>
    obtain ⟨k, hk, rfl, ho, hb, hz⟩ := hrel
    by_cases hlt : k < s.size
    · have HS : Hid ((s.data.toList.take (k + 1)).flatMap qB = (s.data.toList.take k).flatMap qB ++ qB s[k]) := qBs_snoc s k hlt
      have hc : (s[k].toNat : Int) ≤ 255 := by have := UInt8.toNat_lt s[k]; omega
      obtain ⟨L, hL⟩ : ∃ L, L = bs ++ [34] ++ (s.data.toList.take k).flatMap qB := ⟨_, rfl⟩
      rw [← hL] at ho
      have hl : L.length ≤ bs.length + 1 + 4 * k := by
        have := qBs_len (s.data.toList.take k); rw [hL]; simp at this ⊢; omega
      have HN : Hid (L ++ qB s[k] = bs ++ [34] ++ (s.data.toList.take (k + 1)).flatMap qB) := by
        show _ = _; rw [HS.out, hL]; simp
      clear HS hL
      by_cases hesc : (s[k].toNat : Int) = 34 ∨ (s[k].toNat : Int) = 92
      · rcases hesc with hesc | hesc
        · have HQ : Hid (qB s[k] = [92] ++ [34]) := qB_34 hesc
          go_wp2_with (first
            | (at_builtin; refine append_own_bytes rfl (.tmp 29) (.tmp 30) 72 rfl base Tryd.underlying72 info_u8 _ _ _ _ L [92] _ rfl ho rfl rfl (by simp; omega) hz ?_; intro v2 w2 ho2 hb2 hz2 hv2)
            | (at_builtin; refine append_own_bytes rfl (.tmp 32) (.tmp 34) 72 rfl base Tryd.underlying72 info_u8 _ _ _ _ (L ++ [92]) [34] _ rfl ho2 rfl rfl (by simp; omega) (by omega) ?_; intro v3 w3 ho3 hb3 hz3 hv3))
          go_roundw
          case rel => exact ⟨k + 1, by omega, by go_num, by rw [← HN.out, HQ.out, ← List.append_assoc]; exact ho3, (hb.trans hb2).trans hb3, by omega⟩
          case measure => simp [intOf]; omega
        · have HQ : Hid (qB s[k] = [92] ++ [92]) := qB_92 hesc
          go_wp2_with (first
            | (at_builtin; refine append_own_bytes rfl (.tmp 29) (.tmp 30) 72 rfl base Tryd.underlying72 info_u8 _ _ _ _ L [92] _ rfl ho rfl rfl (by simp; omega) hz ?_; intro v2 w2 ho2 hb2 hz2 hv2)
            | (at_builtin; refine append_own_bytes rfl (.tmp 32) (.tmp 34) 72 rfl base Tryd.underlying72 info_u8 _ _ _ _ (L ++ [92]) [92] _ rfl ho2 rfl rfl (by simp; omega) (by omega) ?_; intro v3 w3 ho3 hb3 hz3 hv3))
          go_roundw
          case rel => exact ⟨k + 1, by omega, by go_num, by rw [← HN.out, HQ.out, ← List.append_assoc]; exact ho3, (hb.trans hb2).trans hb3, by omega⟩
          case measure => simp [intOf]; omega
      · have hesc1 : ((s[k].toNat : Int) == 34) = false := by simp; omega
        have hesc2 : ((s[k].toNat : Int) == 92) = false := by simp; omega
        by_cases hpl : 32 ≤ (s[k].toNat : Int) ∧ (s[k].toNat : Int) ≤ 126
        · obtain ⟨hp1, hp2⟩ := hpl
          have HQ : Hid (qB s[k] = [s[k]]) := qB_plain (fun h => hesc (Or.inl h)) (fun h => hesc (Or.inr h)) hp1 hp2
          have hpb : plB (s[k].toNat : Int) = true := by simp only [plB, decide_eq_true_eq]; omega
          clear hesc
          go_wp2_with (first
            | (at_builtin; refine append_own_bytes rfl (.tmp 32) (.tmp 34) 72 rfl base Tryd.underlying72 info_u8 _ _ _ _ L [s[k]] _ rfl ho rfl rfl (by simp; omega) (by omega) ?_; intro v3 w3 ho3 hb3 hz3 hv3)
            | (go_at_call 72; refine (isPlain_t _ _ hpb).mono ?_; rintro e w' ⟨rfl, rfl⟩))
          go_roundw
          case rel => exact ⟨k + 1, by omega, by go_num, by rw [← HN.out, HQ.out]; exact ho3, hb.trans hb3, by omega⟩
          case measure => simp [intOf]; omega
        · have hpb : plB (s[k].toNat : Int) = false := by simp only [plB, decide_eq_false_iff_not]; omega
          by_cases hnl : (s[k].toNat : Int) = 10
          · have HQ : Hid (qB s[k] = [92, 110]) := qB_nl hnl
            clear hesc
            go_wp2_with (first
              | (at_builtin; refine append_own_bytes rfl (.tmp 36) (.tmp 37) 72 rfl base Tryd.underlying72 info_u8 _ _ _ _ L [92, 110] _ rfl ho rfl rfl (by simp; omega) (by omega) ?_; intro v3 w3 ho3 hb3 hz3 hv3)
              | (go_at_call 72; refine (isPlain_f _ _ (by first | exact hpb | decide)).mono ?_; rintro e w' ⟨rfl, rfl⟩))
            go_roundw
            case rel => exact ⟨k + 1, by omega, by go_num, by rw [← HN.out, HQ.out]; exact ho3, hb.trans hb3, by omega⟩
            case measure => simp [intOf]; omega
          · have HQ : Hid (qB s[k] = [92, 120, hexD (s[k].toNat / 16), hexD (s[k].toNat % 16)]) := qB_hex hnl (by omega)
            have hnl2 : ((s[k].toNat : Int) == 10) = false := by simpa using hnl
            clear hesc
            go_wp2_with (go_at_call 72; refine (isPlain_f _ _ hpb).mono ?_; rintro e w' ⟨rfl, rfl⟩)
            have hx1 : 0 ≤ (s[k].toNat : Int) / 16 ∧ (s[k].toNat : Int) / 16 < 16 := by omega
            have hx2 : 0 ≤ (s[k].toNat : Int) % 16 ∧ (s[k].toNat : Int) % 16 < 16 := by omega
            have ha := and15 s[k]
            go_region_law (refine step_own_bytes (by rfl) (.tmp 39) (.tmp 46) 72 (by rfl) base Tryd.underlying72 info_u8 w' _ _ _ (by rfl) _ L [92, 120, hexD (s[k].toNat / 16), hexD (s[k].toNat % 16)] _ (by rfl) ho (by rfl) (cells4 (hexAt _ _ (by omega) _) (hexAt _ _ (by omega) _)) (by simp) (by simp; omega) hz ?_; intro g cap w3 ho3 hb3 hz3)
            all_goals go_wp2
            all_goals
              go_roundw
              case rel => exact ⟨k + 1, by omega, by go_num, by rw [← HN.out, HQ.out]; rw [List.length_append] at ho3; exact ho3, hb.trans hb3, by omega⟩
              case measure => simp [intOf]; omega
    · go_wp2_with (first
        | (at_builtin; refine append_own_bytes rfl (.tmp 49) (.tmp 50) 72 rfl base Tryd.underlying72 info_u8 _ _ _ _ _ [34] _ rfl ho rfl rfl (by have := qBs_len (s.data.toList.take k); simp at this ⊢; omega) (by omega) ?_; intro v3 w3 ho3 hb3 hz3 hv3))
      have e : bs ++ [34] ++ (s.data.toList.take k).flatMap qB ++ [34] = bs ++ quo s.data.toList := by rw [List.take_of_length_le (by simp; omega)]; simp [quo]
      rw [e] at ho3 hv3
      obtain ⟨g, cap, rfl⟩ := hv3 (by simp)
      go_ret
      exact ⟨g, cap, rfl, ho3, hb.trans hb3⟩

set_option maxHeartbeats 1000000 in
theorem quote_any (s : ByteArray) (w : World) (hs : 4 * s.size + 2 ≤ 140737488355328) :
    Calls Tryd.prog 31 #[.string s] w fun e w' => e = .returned (.string ⟨(quo s.data.toList).toArray⟩) ∧ Below w.heap.size w w' := by
  obtain ⟨i0, hi0, hz0, hz1, hz2⟩ := info_parts info_u8
  go_enter Tryd.func31, Tryd.ntmps31
  go_wp2_with (first
    | (at_make; refine wpList_make_own _ rfl (.const (.int .i64 0)) (.tmp 5) 72 rfl w.heap.size 5 i0 (.int .u8 0) 1 Tryd.underlying72 hi0 hz0 hz1 .i64 .i64 _ (s.size + 2) rfl rfl (by omega) (by rw [hz2]; omega) (by unfold maxLen; omega) (Nat.le_refl _) ?_; intro w1 ho1 hg1)
    | (go_at_call 53; refine (appendQuoted_any s _ [] w.heap.size _ ho1 hg1.size (by simp; omega)).mono ?_; rintro e w2 ⟨g, cap, rfl, ho2, hb2⟩)
    | (refine wpList_own_string rfl (.tmp 8) 72 9 rfl w.heap.size _ _ rfl ho2 Tryd.underlying72 Tryd.underlying5 Tryd.underlying9 ?_))
  go_ret
  exact ⟨rfl, ((Below.refl _ _).grown hg1 (Nat.le_refl _) (fun _ h => by cases h)).trans hb2⟩

end Go.Proofs.YtahcllncjpaijabDoor
