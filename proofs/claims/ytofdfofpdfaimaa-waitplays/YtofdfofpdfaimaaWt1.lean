/- Waiting, plain: what the program holds, as the document's list. -/
import Derived.Test.YtofdfofpdfaimaaWs9
namespace Go.Proofs.Ytofdfofpdfaimaa
open Go.RowKit Go.Maps

/-- Who waits, as the document tells it. -/
def wL (L : List Wc) : List Wt := L.map fun x => x.w
theorem wL_pw {L : List Wc} {c : Nat} (h : RI L c) : (wL L).Pairwise (fun x y => x.task ≠ y.task) := List.pairwise_map.2 h.tk
theorem wL_len {L : List Wc} {c : Nat} (h : RI L c) : (wL L).length ≤ 128 := by unfold wL; rw [List.length_map]; exact h.len
theorem wL_join (L : List Wc) (x : Wt) : rjE (wL L) x = joinE L x := by
  unfold rjE joinE
  by_cases hc : chkE x = 0
  · rw [if_pos hc, if_pos hc]
    have : (wL L).any (fun y => decide (y.task = x.task)) = (fdO L x.task).isSome := by
      unfold wL fdO
      rw [List.any_map]
      induction L with
      | nil => rfl
      | cons y L ih =>
        rw [List.any_cons, List.find?_cons, ih]
        by_cases e : y.w.task = x.task <;> simp [e]
    rw [this]
  · rw [if_neg hc, if_neg hc]
theorem wL_joined (L : List Wc) (c : Nat) (x : Wt) : wL (joinL L c x) = if rjE (wL L) x = 0 then wL L ++ [x] else wL L := by
  rw [wL_join]
  unfold joinL wL
  by_cases h : joinE L x = 0
  · rw [if_pos h, if_pos h, List.map_append]; rfl
  · rw [if_neg h, if_neg h]
theorem wL_queue (L : List Wc) (key : ByteArray) : wL (qK L key) = (wL L).filter fun x => decide (x.key = key) := by
  unfold wL qK
  rw [List.filter_map]
  rfl
theorem wL_out (L G : List Wc) : wL (outL L G) = gneL (wL L) (wL G) := by
  have h : ∀ (G M : List Wt), gneL M G = M.filter fun x => !G.any fun y => decide (y.task = x.task) := fun G => by
    induction G with
    | nil => intro M; rw [show gneL M [] = M from rfl]; exact (List.filter_eq_self.2 (fun _ _ => rfl)).symm
    | cons y G ih =>
      intro M
      rw [show gneL M (y :: G) = gneL (dropT M y.task) G from rfl, ih, dropT, List.filter_filter]
      refine List.filter_congr (fun x _ => ?_)
      rw [List.any_cons]
      by_cases e : x.task = y.task
      · simp [e]
      · have e2 : decide (y.task = x.task) = false := by simpa using fun q : y.task = x.task => e q.symm
        have e3 : decide (x.task = y.task) = false := by simpa using e
        rw [e2, e3]; simp
  rw [h]
  unfold wL outL
  rw [List.filter_map]
  congr 1
  refine List.filter_congr (fun x _ => ?_)
  show _ = !(G.map fun x => x.w).any fun y => decide (y.task = x.w.task)
  rw [List.any_map]
  rfl
end Go.Proofs.Ytofdfofpdfaimaa
