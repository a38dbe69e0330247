/- The walk of the law LexLays: it answers true for tokens of any number, the keywords, the marks and the powers of ten lying in their variables. -/
import Derived.Test.YthckmpjokabkcaaDoorLay4
import Derived.Test.YthckmpjokabkcaaDoorNow
namespace Go.Proofs.YthckmpjokabkcaaDoor
open Go.RowKit

set_option maxHeartbeats 2000000 in
theorem tokensBig_any (l : List Tok) (ga oa ca gb ob cb : Nat) (w : World) (hl : l.length ≤ 4611686018427387904) (hA : TokAt w ga oa l) (hB : TokAt w gb ob l) :
    Calls Tryd.prog 10 #[.slice (some ⟨ga, oa, none⟩) l.length ca, .slice (some ⟨gb, ob, none⟩) l.length cb] w fun e w' => e = .returned (.bool true) ∧ ∃ n, w' = w.drewN n := by
  have HA : Hid _ := hA
  have HB : Hid _ := hB
  clear hA hB
  go_enter Tryd.func10, Tryd.ntmps10
  go_wp2
  go_loopw [5] (fun i wr => ∃ k n : Nat, k ≤ l.length ∧ i = .int .i64 k ∧ wr = w.drewN n) (fun i _ => l.length - (intOf i).toNat)
  case atStart => exact ⟨0, 0, Nat.zero_le _, rfl, rfl⟩
  case round =>
    obtain ⟨k, n, hk, rfl, rfl⟩ := hrel
    by_cases hlt : k < l.length
    · obtain ⟨a0, a1, a2, a3⟩ := HA.out k hlt
      obtain ⟨b0, b1, b2, b3⟩ := HB.out k hlt
      have hlt' : (k : Int) < (l.length : Int) := by omega
      generalize l[k] = t at *
      go_wp2
      go_quiet (fail)
      go_wp2
      all_goals
        go_roundw
        case rel => exact ⟨k + 1, _, by omega, by go_num, rfl⟩
        case measure => simp [intOf]; omega
    · go_wp2
      go_ret
      exact ⟨rfl, n, rfl⟩
theorem append_arg {P : Program} {ops : Array Oper} {rest : List Oper} {o : Oper} {a : Act} {Q : Exit → Act → World → Prop} (hgd : o.guard = none) (s x : Operand) (t : TypeId)
    (ho : o.op = .call { callee := .builtin .append, args := #[s, x], argTypes := #[t, t] })
    (ht : P.underlying t = some (.slice 30)) (hi : (P.info? 30).map (fun i => (i.zero, i.size, i.bytes)) = some (some (.agg #[.int .i64 0, .int .i64 0, .int .i64 0, .string ⟨#[]⟩]), 4, 40))
    (w0 : World) (l : List Tok) (v : Value) (hs : a.eval s = .slice (some ⟨w0.heap.size, 0, none⟩) 0 0)
    (hx : a.eval x = v) (hv : ArgT w0 v l) (hlen : l.length * 40 ≤ 140737488355328)
    (h : ∀ v' w', OwnT w' w0.heap.size v' l → Below w0.heap.size w0 w' → wpList P ops Q rest (a.put o.dst v') w') : wpList P ops Q (o :: rest) a (w0.alloc (.cells #[] 30)) := by
  rcases hv with ⟨rfl, rfl⟩ | ⟨ad, c, rfl, hv⟩
  · obtain ⟨i0, hi0, hz0, hz1, hz2⟩ := info_parts hi
    have hown : OwnT (w0.alloc (.cells #[] 30)) w0.heap.size (.slice (some ⟨w0.heap.size, 0, none⟩) 0 0) [] := by
      refine ⟨rfl, Or.inr ⟨w0.heap.size, 0, #[], rfl, Nat.le_refl _, heap_alloc_new w0 _, Nat.le_refl _, by unfold maxLen; omega, rfl, rfl⟩⟩
    refine wpList_append_own_none hgd s x t ho w0.heap.size 30 i0 4 ht hi0 _ 0 [] hs hown hx ?_
    exact h _ _ hown ((Below.refl _ _).alloc (Nat.le_refl _) _)
  · rcases hv with rfl | ⟨g, oo, rfl, hg, hT⟩
    · exact append_toks0 hgd s x t ho ht hi w0 ad c hs hx h
    · exact append_toks hgd s x t ho ht hi w0 l g oo c hs hx hg hT hlen h
theorem OwnT.sees {w : World} {b c : Nat} {ao : Option Addr} {l : List Tok} (h : OwnT w b (.slice ao l.length c) l) : SeesT w ao l := by
  by_cases hn : l = []
  · exact Or.inl hn
  · obtain ⟨g, cap, hv, _, hg⟩ := h.block hn
    cases hv
    exact Or.inr ⟨g, 0, rfl, hg, h.at⟩
theorem refLay_arg {l : List Tok} {v : Value} {w : World} (hs : ∀ t ∈ l, t.text.length ≤ maxLen) (hmax : l.length ≤ maxLen) (hv : ArgT w v l) :
    Calls Tryd.prog 18 #[v] w fun e w' => e = .returned (.tuple #[.string ⟨(layRes l).1.toArray⟩, .int .i64 (layRes l).2]) ∧ Below w.heap.size w w' := by
  rcases hv with ⟨rfl, rfl⟩ | ⟨a, c, rfl, h⟩
  · exact refLay_any [] none 0 w hs hmax (Or.inl rfl)
  · refine refLay_any l (some a) c w hs hmax ?_
    rcases h with h | ⟨g, o, rfl, hg, hT⟩
    · exact Or.inl h
    · exact Or.inr ⟨g, o, rfl, hg, hT⟩
theorem tokens_own {l : List Tok} {v v1 : Value} {w : World} {b : Nat} (hl : l.length ≤ 4611686018427387904) (h1 : OwnT w b v1 l) (hv : ArgT w v l) :
    Calls Tryd.prog 10 #[v1, v] w fun e w' => e = .returned (.bool true) ∧ ∃ n, w' = w.drewN n := by
  have nil : ∀ (ao bo : Option Addr) (ca cb : Nat), Calls Tryd.prog 10 #[.slice ao 0 ca, .slice bo 0 cb] w fun e w' => e = .returned (.bool true) ∧ ∃ n, w' = w.drewN n := by
    intro ao bo ca cb
    refine (tokensNil_any _ _ _ _ _).mono ?_
    rintro e w' ⟨rfl, rfl⟩
    exact ⟨rfl, 0, rfl⟩
  rcases hv with ⟨rfl, rfl⟩ | ⟨a, c, rfl, hv⟩
  · obtain ⟨a1, c1, rfl⟩ := h1.form
    exact nil _ _ _ _
  · rcases hv with rfl | ⟨g, o, rfl, hg, hT⟩
    · obtain ⟨a1, c1, rfl⟩ := h1.form
      exact nil _ _ _ _
    · by_cases hn : l = []
      · subst hn
        obtain ⟨a1, c1, rfl⟩ := h1.form
        exact nil _ _ _ _
      · obtain ⟨g1, c1, rfl, _, _⟩ := h1.block hn
        exact tokensBig_any l g1 0 c1 g o c w hl h1.at hT

set_option maxRecDepth 100000 in
set_option maxHeartbeats 4000000 in
theorem lexLays_any (l : List Tok) (v : Value) (w : World) (hl : l.length * 40 ≤ 140737488355328) (ht : ∀ t ∈ l, t.text.length ≤ maxLen) (hv : ArgT w v l) (hk : KeysAt w) (hm : MarksAt w) (hp : PowBelow w.heap.size w) :
    Calls Tryd.prog 5 #[v] w fun e w' => e = .returned (.bool true) ∧ Below w.heap.size w w' := by
  have hmax : l.length ≤ maxLen := by unfold maxLen; omega
  have LA := fun w1 ao c (hb : Below w.heap.size w w1) (hs : SeesT w1 ao l) => lay_any l ao c w1 ht hmax hs (KeysAt.below hk hb) (MarksAt.below hm hb) (Lib.tabBelow_of_tabIs (hp w1 hb))
  have RA := fun w1 (hb : Below w.heap.size w w1) => refLay_arg (w := w1) ht hmax (hv.below hb)
  have HLA : Hid _ := LA
  have HRA : Hid _ := RA
  have HV : Hid _ := hv
  clear LA RA hk hm hp ht
  generalize ByteArray.mk (layRes l).1.toArray = T at *
  generalize (layRes l).2 = c at *
  go_enter Tryd.func5, Tryd.ntmps5
  go_wp2_with (at_builtin; refine append_arg rfl (.tmp 8) (.tmp 9) 22 rfl Tryd.underlying22 info_tok _ l v rfl rfl HV.out hl ?_; intro v1 w1 ho1 hb1)
  obtain ⟨ao, cap, rfl⟩ := ho1.form
  have HO1 : Hid (OwnT w1 w.heap.size (.slice ao l.length cap) l) := ho1
  have hz1 := hb1.size
  clear ho1
  refine (HLA.out _ _ _ hb1 (OwnT.sees HO1.out)).mono ?_
  rintro e w2 ⟨rfl, hb2⟩
  have hz2 := hb2.size
  have b2 : Hid (Below w.heap.size w w2) := hb1.trans (hb2.mono (by omega))
  go_wp2_with fail
  refine (HRA.out _ b2.out).mono ?_
  rintro e w3 ⟨rfl, hb3⟩
  have hz3 := hb3.size
  have b3 : Hid (Below w.heap.size w w3) := b2.out.trans (hb3.mono (by omega))
  have TE := tokens_own (b := w.heap.size) (by omega) ((OwnT.below HO1.out hb2).below hb3) (ArgT.below HV.out b3.out)
  go_wp2_with fail
  refine TE.mono ?_
  rintro e w4 ⟨rfl, n4, rfl⟩
  go_wp2
  go_ret
  exact ⟨rfl, below_drewN b3.out n4⟩
end Go.Proofs.YthckmpjokabkcaaDoor
