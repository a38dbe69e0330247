/- Values: where wholes begin, walked. -/
import Derived.Test.YtahcllncjpaijabDoorVc7
import Derived.BigRegion
import Derived.Deep.RegionLaw
import Derived.Deep.RegionWith
import Derived.Deep.Cut
import Derived.Deep.CutRange
import Derived.Deep.DeepCutAuto
namespace Go.Proofs.YtahcllncjpaijabDoor
open Go.RowKit

set_option maxHeartbeats 16000000 in
set_option maxRecDepth 100000 in
theorem beginsOf_any (v : Value) (l : List Atm) (w : World) (h : AS w v l) (hd : depV l ≠ 0) (hlm : l.length ≤ 10000) :
    Calls Tryd.prog 36 #[v] w fun e w' => ∃ g, e = .returned (.slice (some ⟨g, 0, none⟩) l.length l.length) ∧ OwnG KI w' w.heap.size (.slice (some ⟨g, 0, none⟩) l.length l.length) (frV [] l) ∧ Below w.heap.size w w' := by
  obtain ⟨p, cap, rfl⟩ := h.form
  have HS : Hid (AS w (.slice p l.length cap) l) := h
  have FO : Hid (∀ k S F (hk : k < l.length), FI l k S F → okV S l[k] = true ∧ FI l (k + 1) (stV S l[k]) (F ++ [((szVL (S.take (cutV S l[k])) : Nat) : Int)])) := fun k S F hk hf => ⟨hf.ok hd hk, hf.next hk (hf.ok hd hk)⟩
  have FF : Hid (∀ S F, FI l l.length S F → F = frV [] l) := fun S F hf => hf.fin (by omega)
  have F0 : Hid (FI l 0 [] []) := FI.start l
  clear h hd
  go_enter Tryd.func36, Tryd.ntmps36
  go_wp2_with (at_make; refine make_g KI KI_ok 0 rfl rfl _ rfl _ _ 59 rfl Tryd.underlying59 l.length rfl rfl (by omega) (by decide) ?_; intro w5 ho5 hb5)
  have H5 : Hid (BO w w5 w.heap.size l.length (.slice none 0 0) ([] ++ List.replicate (l.length - 0) 0) []) := ⟨ho5, OwnG.nil _ _ _, by simp [Value.ownBlock], hb5⟩
  clear ho5 hb5
  generalize hgf : w.heap.size = gf at *
  have HGF : Hid (w.heap.size = gf) := hgf
  clear hgf
  go_wp2_with fail
  go_loopw [4, 13] (fun v4 v13 wr => ∃ (k n c : Nat) (q : Option Addr) (S : List Vt) (F : List Int) (wk : World), v13 = .int .i64 k ∧ v4 = .slice q n c ∧ wk = wr ∧ k ≤ l.length ∧ Hid (n = S.length) ∧ Hid (FI l k S F) ∧ Hid (BO w wk gf l.length (.slice q n c) (F ++ List.replicate (l.length - k) 0) S)) (fun _ v13 _ => l.length - (intOf v13).toNat)
  case atStart => exact ⟨0, 0, 0, none, [], [], _, rfl, rfl, rfl, Nat.zero_le _, rfl, F0, H5⟩
  case round =>
    obtain ⟨k, n, c, q, S, F, wr, rfl, rfl, rfl, hk, HN, HF, HO⟩ := hrel
    clear F0 H5
    by_cases hlt : k < l.length
    · obtain ⟨X, o, e1, x0, x1, x2, x3⟩ := (HS.out.below HO.out.bl).atA hlt
      obtain rfl : p = some ⟨X, o, none⟩ := e1
      obtain ⟨okt, FIx⟩ := FO.out k S F hlt HF.out
      have hX : X < wr.heap.size := block_lt_of_cell x0
      have hfl := HF.out.fl
      have hsz := HF.out.sz
      have hSk := HF.out.di.ls
      generalize l[k] = a at *
      obtain ⟨oka, okn⟩ := okV_iff.1 okt
      have hn0 := (atB_n oka).1
      obtain ⟨ak, hak⟩ : ∃ x, x = a.kind := ⟨_, rfl⟩
      obtain ⟨N, hN⟩ : ∃ N : Nat, a.n = N := ⟨a.n.toNat, by omega⟩
      obtain ⟨ai, hai⟩ : ∃ x, x = a.int := ⟨_, rfl⟩
      obtain ⟨tx, htx⟩ : ∃ x, x = a.text := ⟨_, rfl⟩
      rw [← hak] at x0
      rw [hN] at x1 okn
      rw [← hai] at x2
      rw [← htx] at x3
      have hNs : N ≤ n := by have := HN.out; omega
      obtain ⟨m, hm⟩ : ∃ m, m = n - N := ⟨_, rfl⟩
      have hcut : cutV S a = m := by unfold cutV; rw [hN, hm, HN.out]; simp
      rw [hcut] at FIx
      have hmI : (n : Int) - (N : Int) = (m : Int) := by omega
      have hmn : m ≤ n := by omega
      have hnb : n ≤ 10000 := by have := HN.out; omega
      have HST : Hid (begL 0 (stV S a) = begL 0 (S.take m) ++ [((szVL (S.take m) : Nat) : Int)] ∧ (stV S a).length = m + 1) := by
        have := begL_st okt
        rw [hcut] at this
        refine ⟨this, ?_⟩
        unfold stV; rw [hcut]; simp; have := HN.out; omega
      have hgl := (HO.out.f.lt (g := gf) rfl).2
      have z0 : wr.cell? ⟨gf, k, none⟩ = some (.int .i64 ((F ++ List.replicate (l.length - k) 0).getD k 0)) := own_int HO.out.f (by simp; omega) (j := k) (by simp; omega)
      obtain ⟨z, hz⟩ : ∃ z, z = (F ++ List.replicate (l.length - k) (0 : Int)).getD k 0 := ⟨_, rfl⟩
      rw [← hz] at z0
      have fz := own_frozen HO.out.f k
      have FX : Hid (FI l (k + 1) (stV S a) (F ++ [((szVL (S.take m) : Nat) : Int)])) := FIx
      have BOx : Hid (∀ ob, BO w ((wr.setCell ⟨gf, k, none⟩ (.int .i64 (k : Int))).alloc ob) gf l.length (.slice q n c) (F ++ [(k : Int)] ++ List.replicate (l.length - (k + 1)) 0) S) := fun ob => by
        have h1 := (HO.out.set k (k : Int)).alloc ob
        rw [← hfl, rep_set F _ _ (by omega), show l.length - F.length - 1 = l.length - (F.length + 1) by omega] at h1
        rw [← hfl]; exact h1
      have BOy : Hid (∀ W (x : Int), BO w W gf l.length (.slice q n c) (F ++ [(k : Int)] ++ List.replicate (l.length - (k + 1)) 0) S → BO w (W.setCell ⟨gf, k, none⟩ (.int .i64 x)) gf l.length (.slice q n c) (F ++ [x] ++ List.replicate (l.length - (k + 1)) 0) S) := fun W x hb => by
        have h1 := hb.set k x
        have h2 := rep_set2 F (l.length - (k + 1)) (k : Int) x
        rw [hfl] at h2
        rw [h2] at h1; exact h1
      have GET : Hid (∀ W (x : Int), BO w W gf l.length (.slice q n c) (F ++ [x] ++ List.replicate (l.length - (k + 1)) 0) S → W.cell? ⟨gf, k, none⟩ = some (.int .i64 x) ∧ W.frozen? ⟨gf, k, none⟩ = false) := fun W x hb => by
        refine ⟨?_, own_frozen hb.f k⟩
        have h1 := own_int hb.f (by simp; omega) (j := k) (by simp; omega)
        rw [h1, ← hfl]; simp [List.getD]
      have SUMk : Hid (N = 0 → ((szVL (S.take m) : Nat) : Int) = (k : Int)) := fun e => by
        rw [List.take_of_length_le (by have := HN.out; omega), hsz]
      have SUMm : Hid (0 < N → ∀ W R, BO w W gf l.length (.slice q n c) R S → ∃ g, q = some ⟨g, 0, none⟩ ∧ W.cell? ⟨g, m, none⟩ = some (.int .i64 ((szVL (S.take m) : Nat) : Int)) ∧ n ≤ c) := fun e W R hb => by
        have hml : m < S.length := by have := HN.out; omega
        obtain ⟨g, cp, e1, e2⟩ := hb.s.place (by
          rcases hb.s.2 with ⟨_, e3⟩ | ⟨g, cap, cur, e3, _⟩
          · rw [begL_len] at e3; omega
          · rw [e3]; simp [Value.ownBlock])
        injection e1 with e1 e3 e4
        refine ⟨g, e1, ?_, by rw [begL_len] at e2; have := HN.out; omega⟩
        have h1 := own_int (by rw [e1] at hb; exact hb.s) (by rw [begL_len]; exact HN.out) (j := m) (by rw [begL_len]; exact hml)
        rw [begL_cut hml] at h1; exact h1
      have CUT : Hid (∀ W R, BO w W gf l.length (.slice q n c) R S → ∀ q' c', (q' = q ∧ c' = c) → OwnG KI W w.heap.size (.slice q' m c') (begL 0 (S.take m))) := fun W R hb q' c' e => by
        obtain ⟨rfl, rfl⟩ := e
        rcases hb.s.2 with ⟨e1, e2⟩ | ⟨g, cap, cur, e3, _⟩
        · injection e1 with e1 e4 e5
          subst e1 e4 e5
          obtain rfl : m = 0 := by omega
          exact OwnG.nil _ _ _
        · injection e3 with e3 _ _
          have h1 := hb.s
          rw [e3] at h1 ⊢
          have := h1.cut KI_ok.len m (by rw [begL_len]; have := HN.out; omega)
          rw [begL_take] at this; exact this
      have NXT : Hid (∀ W w8 g8 c8 (x : Int), x = ((szVL (S.take m) : Nat) : Int) → BO w W gf l.length (.slice q n c) (F ++ [x] ++ List.replicate (l.length - (k + 1)) 0) S → OwnG KI w8 w.heap.size (.slice (some ⟨g8, 0, none⟩) ((begL 0 (S.take m)).length + 1) c8) (begL 0 (S.take m) ++ [x]) → Below w.heap.size W w8 → (∀ j, j < W.heap.size → some j ≠ (Value.slice q m c).ownBlock → w8.heap[j]? = W.heap[j]?) → ((Value.slice q m c).ownBlock = some g8 ∨ W.heap.size ≤ g8) → BO w w8 gf l.length (.slice (some ⟨g8, 0, none⟩) ((begL 0 (S.take m)).length + 1) c8) ((F ++ [x]) ++ List.replicate (l.length - (k + 1)) 0) (stV S a)) := fun W w8 g8 c8 x hx hb o8 b8 k8 q8 => by
        have hsame : (Value.slice q m c).ownBlock = (Value.slice q n c).ownBlock := by cases q <;> rfl
        have hgf := (hb.f.lt (g := gf) rfl).2
        refine ⟨hb.f.far (fun g hg => ?_), ?_, ?_, hb.bl.trans b8⟩
        · have eg : g = gf := by simpa [Value.ownBlock] using hg.symm
          subst eg
          exact k8 g hgf (fun e => hb.ne (by rw [← hsame, ← e]))
        · rw [HST.out.1, ← hx]; exact o8
        · intro e
          have eg : g8 = gf := by simpa [Value.ownBlock] using e
          subst eg
          rcases q8 with q8 | q8
          · exact hb.ne (by rw [← hsame, q8])
          · omega
      have LS : Hid (((begL 0 (S.take m)).length + 1) * KI.B ≤ 140737488355328) := by show (_ + 1) * 8 ≤ _; rw [begL_len, List.length_take]; omega
      have HLN : Hid ((begL 0 (S.take m)).length + 1 = (stV S a).length) := by show _ = _; rw [HST.out.2, begL_len, List.length_take]; have := HN.out; omega
      clear FO HF FIx hcut okt oka okn hn0 hak hai htx hN hz hfl hsz hm
      generalize ((szVL (S.take m) : Nat) : Int) = x at *
      generalize begL 0 (S.take m) = bg at *
      have BS : Hid (∀ W R, BO w W gf l.length (.slice q n c) R S → w.heap.size ≤ W.heap.size) := fun W R hb => hb.bl.size
      have Y1 : Hid (∀ (ob : Array Value) v, ob[1]? = some (.int .i64 (N : Int)) → ((wr.setCell ⟨gf, k, none⟩ v).alloc (.cells ob 43)).cell? ⟨wr.heap.size, 1, none⟩ = some (.int .i64 (N : Int))) := fun ob v h => by
        have hz : (wr.setCell ⟨gf, k, none⟩ v).heap.size = wr.heap.size := by simp [World.setCell]
        rw [← hz]
        exact (cell_of_row _ _ _ _ _ _ (heap_alloc_new _ _)).trans h
      go_upto_region 7 with fail
      generalize hW : World.alloc _ _ = W
      have y1 : W.cell? ⟨wr.heap.size, 1, none⟩ = some (.int .i64 (N : Int)) := by rw [← hW]; exact Y1.out #[.int .i64 ak, .int .i64 (N : Int), .int .i64 ai, .string tx] _ rfl
      have HB : Hid (BO w W gf l.length (.slice q n c) (F ++ [(k : Int)] ++ List.replicate (l.length - (k + 1)) 0) S) := by rw [← hW]; exact BOx.out _
      clear hW Y1 BOx x0 x1 x2 x3 z0 fz
      generalize wr.heap.size = bb at *
      by_cases hN0 : N = 0
      · subst hN0
        obtain rfl : m = n := by omega
        have hxk : Hid (x = (k : Int)) := SUMk.out rfl
        obtain ⟨ck, fk⟩ := GET.out _ _ HB.out
        rw [hxk.out] at NXT FX
        have Q1 : (q = none ∧ m = 0 ∧ c = 0) ∨ ∃ g, q = some ⟨g, 0, none⟩ ∧ m ≤ c := by
          rcases HB.out.s.2 with ⟨e1, _⟩ | ⟨g, cp, cur, e1, _, _, e4, _⟩
          · injection e1 with e1 e2 e3; exact Or.inl ⟨e1, e2, e3⟩
          · injection e1 with e1 e2 e3; exact Or.inr ⟨g, e1, by omega⟩
        have C1 : Hid (∀ q' c', (q' = q ∧ c' = c) → OwnG KI W w.heap.size (.slice q' m c') bg) := CUT.out _ _ HB.out
        have Z1 : Hid (w.heap.size ≤ W.heap.size) := BS.out _ _ HB.out
        have KP : Hid (∀ w1 w8 : World, Below W.heap.size W w1 → (∀ j, j < w1.heap.size → some j ≠ (Value.slice q m c).ownBlock → w8.heap[j]? = w1.heap[j]?) → w8.cell? ⟨gf, k, none⟩ = some (.int .i64 (k : Int))) := fun w1 w8 b kk => by
          have hgl := (HB.out.f.lt (g := gf) rfl).2
          have hsame : (Value.slice q m c).ownBlock = (Value.slice q m c).ownBlock := rfl
          have e1 : w8.heap[gf]? = W.heap[gf]? := (kk gf (Nat.lt_of_lt_of_le hgl b.size) (fun e => HB.out.ne (by rw [← hsame, ← e]))).trans (b.block gf hgl)
          exact (World.cell?_of_block (w := W) (a := ⟨gf, k, none⟩) e1).trans ck
        have NX8 : Hid (∀ w1 w8 g8 c8, Below W.heap.size W w1 → OwnG KI w8 w.heap.size (.slice (some ⟨g8, 0, none⟩) (bg.length + 1) c8) (bg ++ [(k : Int)]) → Below w.heap.size w1 w8 → (∀ j, j < w1.heap.size → some j ≠ (Value.slice q m c).ownBlock → w8.heap[j]? = w1.heap[j]?) → ((Value.slice q m c).ownBlock = some g8 ∨ w1.heap.size ≤ g8) → BO w w8 gf l.length (.slice (some ⟨g8, 0, none⟩) (bg.length + 1) c8) ((F ++ [(k : Int)]) ++ List.replicate (l.length - (k + 1)) 0) (stV S a)) := fun w1 w8 g8 c8 b o8 b8 k8 q8 => NXT.out W w8 g8 c8 (k : Int) rfl HB.out o8 ((b.mono HB.out.bl.size).trans b8) (fun j hj hne => (k8 j (Nat.lt_of_lt_of_le hj b.size) hne).trans (b.block j hj)) (q8.imp id (fun h => Nat.le_trans b.size h))
        clear SUMk SUMm GET BOy CUT BS hmI NXT
        rcases Q1 with ⟨rfl, rfl, rfl⟩ | ⟨g, rfl, hmc⟩
        · go_wp2_with fail
          go_region_held3 (fun w' => w'.cell? ⟨gf, k, none⟩ = some (.int .i64 (k : Int))) (go_keep) ((refine step_append_g KI KI_ok (by rfl) (.tmp 39) (.tmp 44) 59 (by rfl) w.heap.size Tryd.underlying59 _ _ _ _ (by first | exact heap_alloc_new _ _) (.slice none 0 0) bg (k : Int) _ (by rfl) (OwnG.below (C1.out _ _ ⟨rfl, rfl⟩) (by first | exact (Below.refl _ _).alloc (Nat.le_refl _) _ | exact ((Below.refl _ _).drew).alloc (Nat.le_refl _) _)) (by rfl) (by rfl) LS.out (by first | (simp; exact Z1.out) | (have := Z1.out; simp; omega)) ?_; intro g8 c8 w8 o8 b8 k8 q8; have ck8 := KP.out _ _ (by first | exact (Below.refl _ _).alloc (Nat.le_refl _) _ | exact ((Below.refl _ _).drew).alloc (Nat.le_refl _) _) k8; have H8 : Hid _ := NX8.out _ _ _ _ (by first | exact (Below.refl _ _).alloc (Nat.le_refl _) _ | exact ((Below.refl _ _).drew).alloc (Nat.le_refl _) _) o8 b8 k8 q8; clear o8 b8 k8 q8))
          all_goals
            go_wp2_with fail
            go_roundw
            case rel => exact ⟨k + 1, bg.length + 1, c8, _, stV S a, F ++ [(k : Int)], _, by go_num, rfl, rfl, hlt, HLN, FX, H8⟩
            case measure => simp [intOf]; omega
        · go_wp2_with fail
          go_region_held3 (fun w' => w'.cell? ⟨gf, k, none⟩ = some (.int .i64 (k : Int))) (go_keep) ((refine step_append_g KI KI_ok (by rfl) (.tmp 39) (.tmp 44) 59 (by rfl) w.heap.size Tryd.underlying59 _ _ _ _ (by first | exact heap_alloc_new _ _) (.slice (some ⟨g, 0, none⟩) m c) bg (k : Int) _ (by rfl) (OwnG.below (C1.out _ _ ⟨rfl, rfl⟩) (by first | exact (Below.refl _ _).alloc (Nat.le_refl _) _ | exact ((Below.refl _ _).drew).alloc (Nat.le_refl _) _)) (by rfl) (by rfl) LS.out (by first | (simp; exact Z1.out) | (have := Z1.out; simp; omega)) ?_; intro g8 c8 w8 o8 b8 k8 q8; have ck8 := KP.out _ _ (by first | exact (Below.refl _ _).alloc (Nat.le_refl _) _ | exact ((Below.refl _ _).drew).alloc (Nat.le_refl _) _) k8; have H8 : Hid _ := NX8.out _ _ _ _ (by first | exact (Below.refl _ _).alloc (Nat.le_refl _) _ | exact ((Below.refl _ _).drew).alloc (Nat.le_refl _) _) o8 b8 k8 q8; clear o8 b8 k8 q8))
          all_goals
            go_wp2_with fail
            go_roundw
            case rel => exact ⟨k + 1, bg.length + 1, c8, _, stV S a, F ++ [(k : Int)], _, by go_num, rfl, rfl, hlt, HLN, FX, H8⟩
            case measure => simp [intOf]; omega
      · have hNp : (N : Int) > 0 := by omega
        obtain ⟨g, rfl, cm, hnc⟩ := SUMm.out (by omega) _ _ HB.out
        obtain ⟨ck0, fk⟩ := GET.out _ _ HB.out
        go_upto_region 10 with fail
        generalize hW2 : World.setCell _ _ _ = W2
        have HB2 : Hid (BO w W2 gf l.length (.slice (some ⟨g, 0, none⟩) n c) (F ++ [x] ++ List.replicate (l.length - (k + 1)) 0) S) := by rw [← hW2]; exact BOy.out _ x HB.out
        obtain ⟨ck, fk2⟩ := GET.out _ _ HB2.out
        have hmc : m ≤ c := by omega
        clear hW2 ck0 fk cm y1 HB
        have C1 : Hid (∀ q' c', (q' = some ⟨g, 0, none⟩ ∧ c' = c) → OwnG KI W2 w.heap.size (.slice q' m c') bg) := CUT.out _ _ HB2.out
        have Z1 : Hid (w.heap.size ≤ W2.heap.size) := BS.out _ _ HB2.out
        have KP : Hid (∀ w1 w8 : World, Below W2.heap.size W2 w1 → (∀ j, j < w1.heap.size → some j ≠ (Value.slice (some ⟨g, 0, none⟩) m c).ownBlock → w8.heap[j]? = w1.heap[j]?) → w8.cell? ⟨gf, k, none⟩ = some (.int .i64 x)) := fun w1 w8 b kk => by
          have hgl := (HB2.out.f.lt (g := gf) rfl).2
          have hsame : (Value.slice (some ⟨g, 0, none⟩) m c).ownBlock = (Value.slice (some ⟨g, 0, none⟩) n c).ownBlock := rfl
          have e1 : w8.heap[gf]? = W2.heap[gf]? := (kk gf (Nat.lt_of_lt_of_le hgl b.size) (fun e => HB2.out.ne (by rw [← hsame, ← e]))).trans (b.block gf hgl)
          exact (World.cell?_of_block (w := W2) (a := ⟨gf, k, none⟩) e1).trans ck
        have NX8 : Hid (∀ w1 w8 g8 c8, Below W2.heap.size W2 w1 → OwnG KI w8 w.heap.size (.slice (some ⟨g8, 0, none⟩) (bg.length + 1) c8) (bg ++ [x]) → Below w.heap.size w1 w8 → (∀ j, j < w1.heap.size → some j ≠ (Value.slice (some ⟨g, 0, none⟩) m c).ownBlock → w8.heap[j]? = w1.heap[j]?) → ((Value.slice (some ⟨g, 0, none⟩) m c).ownBlock = some g8 ∨ w1.heap.size ≤ g8) → BO w w8 gf l.length (.slice (some ⟨g8, 0, none⟩) (bg.length + 1) c8) ((F ++ [x]) ++ List.replicate (l.length - (k + 1)) 0) (stV S a)) := fun w1 w8 g8 c8 b o8 b8 k8 q8 => NXT.out W2 w8 g8 c8 x rfl HB2.out o8 ((b.mono HB2.out.bl.size).trans b8) (fun j hj hne => (k8 j (Nat.lt_of_lt_of_le hj b.size) hne).trans (b.block j hj)) (q8.imp id (fun h => Nat.le_trans b.size h))
        clear SUMk SUMm GET BOy CUT BS NXT
        go_wp2_with fail
        go_region_held3 (fun w' => w'.cell? ⟨gf, k, none⟩ = some (.int .i64 x)) (go_keep) ((refine step_append_g KI KI_ok (by rfl) (.tmp 39) (.tmp 44) 59 (by rfl) w.heap.size Tryd.underlying59 _ _ _ _ (by first | exact heap_alloc_new _ _) (.slice (some ⟨g, 0, none⟩) m c) bg x _ (by rfl) (OwnG.below (C1.out _ _ ⟨rfl, rfl⟩) (by first | exact (Below.refl _ _).alloc (Nat.le_refl _) _ | exact ((Below.refl _ _).drew).alloc (Nat.le_refl _) _)) (by rfl) (by rfl) LS.out (by first | (simp; exact Z1.out) | (have := Z1.out; simp; omega)) ?_; intro g8 c8 w8 o8 b8 k8 q8; have ck8 := KP.out _ _ (by first | exact (Below.refl _ _).alloc (Nat.le_refl _) _ | exact ((Below.refl _ _).drew).alloc (Nat.le_refl _) _) k8; have H8 : Hid _ := NX8.out _ _ _ _ (by first | exact (Below.refl _ _).alloc (Nat.le_refl _) _ | exact ((Below.refl _ _).drew).alloc (Nat.le_refl _) _) o8 b8 k8 q8; clear o8 b8 k8 q8))
        all_goals
          go_wp2_with fail
          go_roundw
          case rel => exact ⟨k + 1, bg.length + 1, c8, _, stV S a, F ++ [x], _, by go_num, rfl, rfl, hlt, HLN, FX, H8⟩
          case measure => simp [intOf]; omega
    · obtain rfl : k = l.length := by omega
      have HE : Hid (F = frV [] l) := FF.out S F HF.out
      have OF : Hid (OwnG KI wr w.heap.size (.slice (some ⟨gf, 0, none⟩) l.length l.length) (frV [] l)) := by
        have := HO.out.f
        rw [Nat.sub_self, List.replicate_zero, List.append_nil, HE.out] at this; exact this
      have B1 : Hid (Below w.heap.size w wr) := HO.out.bl
      clear HO HF HN FO FF HE
      go_wp2_with fail
      go_ret
      exact ⟨gf, rfl, OF.out, B1.out⟩
end Go.Proofs.YtahcllncjpaijabDoor
