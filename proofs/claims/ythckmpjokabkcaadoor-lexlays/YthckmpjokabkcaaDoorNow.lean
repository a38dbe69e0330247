/- The walk of the law's own 'nowhere': the same tokens in a row of its own, without their places. -/
import Derived.Test.YthckmpjokabkcaaDoorLexTok
import Derived.Laws.AppendOwnNone
namespace Go.Proofs.YthckmpjokabkcaaDoor
open Go.RowKit

/-- A token without its place. -/
def zt (t : Tok) : Tok := ⟨t.kind, 0, t.num, t.text⟩
/-- The first k without their places. -/
def zk : Nat → List Tok → List Tok
  | 0, l => l
  | _ + 1, [] => []
  | k + 1, t :: r => zt t :: zk k r
theorem zk_len : ∀ (k : Nat) (l : List Tok), (zk k l).length = l.length
  | 0, l => rfl
  | _ + 1, [] => rfl
  | k + 1, t :: r => by simp [zk, zk_len k r]
theorem zk_all : ∀ (l : List Tok), zk l.length l = l.map zt
  | [] => rfl
  | t :: r => by simp [zk, zk_all r]
theorem zk_flat : ∀ (k : Nat) (l : List Tok), k < l.length → ((zk k l).flatMap tokC).set (k * 4 + 1) (.int .i64 0) = (zk (k + 1) l).flatMap tokC
  | 0, t :: r, _ => by simp [zk, tokC, zt]
  | k + 1, t :: r, h => by
    have ih := zk_flat k r (by simpa using h)
    rw [show zk (k + 1) (t :: r) = zt t :: zk k r from rfl, show zk (k + 1 + 1) (t :: r) = zt t :: zk (k + 1) r from rfl, List.flatMap_cons, List.flatMap_cons, ← ih]
    rw [List.set_append_right _ _ (by simp [tokC]; omega)]
    congr 2
    simp [tokC]; omega
  | k, [], h => by simp at h
theorem OwnT.zero {w : World} {base g cap k : Nat} {l : List Tok} (h : OwnT w base (.slice (some ⟨g, 0, none⟩) l.length cap) (zk k l)) (hk : k < l.length) : OwnT (w.setCell ⟨g, k * 4 + 1, none⟩ (.int .i64 0)) base (.slice (some ⟨g, 0, none⟩) l.length cap) (zk (k + 1) l) := by
  unfold OwnT at h ⊢
  rw [zk_len] at h ⊢
  rw [← zk_flat k l hk]
  exact (h.stored (k * 4 + 1) (.int .i64 0)).1
theorem news_tok {w : World} {g o : Nat} {l : List Tok} (h : TokAt w g o l) : ∀ j u, (l.flatMap tokC)[j]? = some u → w.cell? ((⟨g, o, none⟩ : Addr).add j) = some u := by
  intro j u hj
  have hadd : (⟨g, o, none⟩ : Addr).add j = ⟨g, o + j, none⟩ := by unfold Addr.add; split <;> simp_all
  rw [hadd]
  have hlt : j < l.length * 4 := by
    rw [← tokC_len]
    by_cases hh : j < (l.flatMap tokC).length
    · exact hh
    · rw [List.getElem?_eq_none (by omega)] at hj; cases hj
  have hk : j / 4 < l.length := by omega
  have e : j = j / 4 * 4 + j % 4 := by omega
  have h4 : j % 4 < 4 := by omega
  obtain ⟨a, b, c, d⟩ := h (j / 4) hk
  rw [e, flat_at l (j / 4) (j % 4) hk h4] at hj
  have ho : o + j = o + j / 4 * 4 + j % 4 := by omega
  rw [ho]
  generalize j % 4 = i at hj h4
  match i, h4 with
  | 0, _ => simp [tokC] at hj; subst hj; exact a
  | 1, _ => simp [tokC] at hj; subst hj; exact b
  | 2, _ => simp [tokC] at hj; subst hj; exact c
  | 3, _ => simp [tokC] at hj; subst hj; exact d
theorem append_toks {P : Program} {ops : Array Oper} {rest : List Oper} {o : Oper} {a : Act} {Q : Exit → Act → World → Prop} (hgd : o.guard = none) (s x : Operand) (t : TypeId)
    (ho : o.op = .call { callee := .builtin .append, args := #[s, x], argTypes := #[t, t] })
    (ht : P.underlying t = some (.slice 30)) (hi : (P.info? 30).map (fun i => (i.zero, i.size, i.bytes)) = some (some (.agg #[.int .i64 0, .int .i64 0, .int .i64 0, .string ⟨#[]⟩]), 4, 40))
    (w0 : World) (l : List Tok) (g oo c : Nat) (hs : a.eval s = .slice (some ⟨w0.heap.size, 0, none⟩) 0 0)
    (hx : a.eval x = .slice (some ⟨g, oo, none⟩) l.length c) (hg : g < w0.heap.size) (hT : TokAt w0 g oo l)
    (hlen : l.length * 40 ≤ 140737488355328)
    (h : ∀ v' w', OwnT w' w0.heap.size v' l → Below w0.heap.size w0 w' → wpList P ops Q rest (a.put o.dst v') w') : wpList P ops Q (o :: rest) a (w0.alloc (.cells #[] 30)) := by
  obtain ⟨i0, hi0, hz0, hz1, hz2⟩ := info_parts hi
  have hown : (w0.alloc (.cells #[] 30)).ownsRow w0.heap.size 30 4 (.slice (some ⟨w0.heap.size, 0, none⟩) 0 0) 0 [] := by
    refine ⟨rfl, Or.inr ⟨w0.heap.size, 0, #[], rfl, Nat.le_refl _, heap_alloc_new w0 _, Nat.le_refl _, by unfold maxLen; omega, rfl, rfl⟩⟩
  have hb0 : Below w0.heap.size w0 (w0.alloc (.cells #[] 30)) := (Below.refl _ _).alloc (Nat.le_refl _) _
  refine wpList_append_own _ hgd s x t ho w0.heap.size 30 i0 (.agg #[.int .i64 0, .int .i64 0, .int .i64 0, .string ⟨#[]⟩]) 4 40 ht hi0 hz0 hz1 hz2 rfl (by decide) _ 0 [] hs hown ⟨g, oo, none⟩ l.length c (l.flatMap tokC) hx (tokC_len l) (news_tok (hT.below hb0 hg)) (tokC_one l)
    (by unfold maxLen; omega) (by omega) (by simp) ?_
  intro v' w' ho' hgr _
  refine h v' w' ?_ (hb0.grown hgr (by simp) (fun q hq => (hown.lt q hq).1))
  unfold OwnT
  simpa using ho'

set_option maxHeartbeats 2000000 in
theorem nowhere_some (l : List Tok) (g o c : Nat) (w : World) (hl : l.length * 40 ≤ 140737488355328) (hT : TokAt w g o l) (hg : g < w.heap.size) :
    Calls Tryd.prog 20 #[.slice (some ⟨g, o, none⟩) l.length c] w fun e w' => ∃ v, e = .returned v ∧ OwnT w' w.heap.size v (l.map zt) ∧ Below w.heap.size w w' := by
  have HT : Hid _ := hT
  clear hT
  go_enter Tryd.func20, Tryd.ntmps20
  go_wp2_with (at_builtin; refine append_toks rfl (.tmp 5) (.tmp 6) 22 rfl Tryd.underlying22 info_tok _ l g o c rfl rfl hg HT.out hl ?_; intro v1 w1 ho1 hb1)
  obtain ⟨ao, cap, rfl⟩ := ho1.form
  have HO1 : Hid (OwnT w1 w.heap.size (.slice ao l.length cap) (zk 0 l)) := ho1
  have HB1 : Hid _ := hb1
  clear ho1 hb1
  go_loopw [4] (fun i wr => ∃ k : Nat, k ≤ l.length ∧ i = .int .i64 k ∧ Hid (OwnT wr w.heap.size (.slice ao l.length cap) (zk k l)) ∧ Hid (Below w.heap.size w wr)) (fun i _ => l.length - (intOf i).toNat)
  case atStart => exact ⟨0, Nat.zero_le _, rfl, HO1, HB1⟩
  case round =>
    obtain ⟨k, hk, rfl, HO, HB⟩ := hrel
    rename_i wr
    clear HO1 HB1
    by_cases hlt : k < l.length
    · have hlt' : (k : Int) < (l.length : Int) := by omega
      obtain ⟨g1, c1, hv, hg1, hg1'⟩ := HO.out.block (by intro e; have := zk_len k l; rw [e] at this; simp at this; omega)
      rw [zk_len] at hv
      cases hv
      have hx := HO.out
      unfold OwnT at hx
      rw [zk_len] at hx
      have hxl : ((zk k l).flatMap tokC).length = l.length * 4 := by rw [tokC_len, zk_len]
      have e1 := hx.cellAt (k * 4 + 1) (by omega)
      rw [List.getElem?_eq_getElem (by omega)] at e1
      have z1 := hx.frozenAt (k * 4 + 1)
      generalize ((zk k l).flatMap tokC)[k * 4 + 1] = x1 at e1
      have FIN : Hid _ := HO.out.zero hlt
      have FIB : Hid (Below w.heap.size w (wr.setCell ⟨g1, k * 4 + 1, none⟩ (.int .i64 0))) := HB.out.setCell hg1 (.int .i64 0)
      clear hx hxl HO HB
      go_wp2
      go_roundw
      case rel => exact ⟨k + 1, by omega, by go_num, FIN, FIB⟩
      case measure => simp [intOf]; omega
    · have hkl : k = l.length := by omega
      subst hkl
      go_wp2
      go_ret
      refine ⟨_, rfl, ?_, HB.out⟩
      rw [← zk_all]; exact HO.out
theorem nowhere_none (w : World) :
    Calls Tryd.prog 20 #[.slice none 0 0] w fun e w' => ∃ v, e = .returned v ∧ OwnT w' w.heap.size v [] ∧ Below w.heap.size w w' := by
  obtain ⟨i0, hi0, hz0, hz1, hz2⟩ := info_parts info_tok
  have hown : OwnT (w.alloc (.cells #[] 30)) w.heap.size (.slice (some ⟨w.heap.size, 0, none⟩) 0 0) [] := by
    refine ⟨rfl, Or.inr ⟨w.heap.size, 0, #[], rfl, Nat.le_refl _, heap_alloc_new w _, Nat.le_refl _, by unfold maxLen; omega, rfl, rfl⟩⟩
  go_enter Tryd.func20, Tryd.ntmps20
  go_wp2_with (at_builtin; refine wpList_append_own_none rfl (.tmp 5) (.tmp 6) 22 rfl w.heap.size 30 i0 4 Tryd.underlying22 hi0 _ 0 [] rfl hown rfl ?_)
  refine wp_loop_rounds 1 ?_
  rw [rounds_succ]
  go_wp2
  go_ret
  exact ⟨_, rfl, hown, (Below.refl _ _).alloc (Nat.le_refl _) _⟩
theorem append_toks0 {P : Program} {ops : Array Oper} {rest : List Oper} {o : Oper} {a : Act} {Q : Exit → Act → World → Prop} (hgd : o.guard = none) (s x : Operand) (t : TypeId)
    (ho : o.op = .call { callee := .builtin .append, args := #[s, x], argTypes := #[t, t] })
    (ht : P.underlying t = some (.slice 30)) (hi : (P.info? 30).map (fun i => (i.zero, i.size, i.bytes)) = some (some (.agg #[.int .i64 0, .int .i64 0, .int .i64 0, .string ⟨#[]⟩]), 4, 40))
    (w0 : World) (ad : Addr) (c : Nat) (hs : a.eval s = .slice (some ⟨w0.heap.size, 0, none⟩) 0 0)
    (hx : a.eval x = .slice (some ad) 0 c)
    (h : ∀ v' w', OwnT w' w0.heap.size v' [] → Below w0.heap.size w0 w' → wpList P ops Q rest (a.put o.dst v') w') : wpList P ops Q (o :: rest) a (w0.alloc (.cells #[] 30)) := by
  obtain ⟨i0, hi0, hz0, hz1, hz2⟩ := info_parts hi
  have hown : (w0.alloc (.cells #[] 30)).ownsRow w0.heap.size 30 4 (.slice (some ⟨w0.heap.size, 0, none⟩) 0 0) 0 [] := by
    refine ⟨rfl, Or.inr ⟨w0.heap.size, 0, #[], rfl, Nat.le_refl _, heap_alloc_new w0 _, Nat.le_refl _, by unfold maxLen; omega, rfl, rfl⟩⟩
  have hb0 : Below w0.heap.size w0 (w0.alloc (.cells #[] 30)) := (Below.refl _ _).alloc (Nat.le_refl _) _
  refine wpList_append_own _ hgd s x t ho w0.heap.size 30 i0 (.agg #[.int .i64 0, .int .i64 0, .int .i64 0, .string ⟨#[]⟩]) 4 40 ht hi0 hz0 hz1 hz2 rfl (by decide) _ 0 [] hs hown ad 0 c [] hx rfl (fun j u hj => by simp at hj) (fun u hu => by simp at hu)
    (by unfold maxLen; omega) (by omega) (by simp) ?_
  intro v' w' ho' hgr _
  refine h v' w' ?_ (hb0.grown hgr (by simp) (fun q hq => (hown.lt q hq).1))
  unfold OwnT
  simpa using ho'
theorem nowhere_empty (ad : Addr) (c : Nat) (w : World) :
    Calls Tryd.prog 20 #[.slice (some ad) 0 c] w fun e w' => ∃ v, e = .returned v ∧ OwnT w' w.heap.size v [] ∧ Below w.heap.size w w' := by
  go_enter Tryd.func20, Tryd.ntmps20
  go_wp2_with (at_builtin; refine append_toks0 rfl (.tmp 5) (.tmp 6) 22 rfl Tryd.underlying22 info_tok _ ad c rfl rfl ?_; intro v1 w1 ho1 hb1)
  obtain ⟨ao, cap, rfl⟩ := ho1.form
  refine wp_loop_rounds 1 ?_
  rw [rounds_succ]
  go_wp2
  go_ret
  exact ⟨_, rfl, ho1, hb1⟩
/-- An argument that reads as these tokens. -/
def ArgT (w : World) (v : Value) (l : List Tok) : Prop := (v = .slice none 0 0 ∧ l = []) ∨ ∃ (a : Addr) (c : Nat), v = .slice (some a) l.length c ∧ (l = [] ∨ ∃ g o, a = ⟨g, o, none⟩ ∧ g < w.heap.size ∧ TokAt w g o l)
theorem ArgT.below {w w' : World} {v : Value} {l : List Tok} (h : ArgT w v l) (hb : Below w.heap.size w w') : ArgT w' v l := by
  rcases h with h | ⟨a, c, hv, h⟩
  · exact Or.inl h
  · refine Or.inr ⟨a, c, hv, ?_⟩
    rcases h with h | ⟨g, o, ha, hg, hT⟩
    · exact Or.inl h
    · exact Or.inr ⟨g, o, ha, Nat.lt_of_lt_of_le hg hb.size, hT.below hb hg⟩
theorem nowhere_arg {l : List Tok} {v : Value} {w : World} (hl : l.length * 40 ≤ 140737488355328) (h : ArgT w v l) :
    Calls Tryd.prog 20 #[v] w fun e w' => ∃ v', e = .returned v' ∧ OwnT w' w.heap.size v' (l.map zt) ∧ Below w.heap.size w w' := by
  rcases h with ⟨rfl, rfl⟩ | ⟨a, c, rfl, h⟩
  · exact nowhere_none w
  · rcases h with rfl | ⟨g, o, rfl, hg, hT⟩
    · exact nowhere_empty a c w
    · exact nowhere_some l g o c w hl hT hg
end Go.Proofs.YthckmpjokabkcaaDoor
