/- Values: Print; of the laws whole. -/
import Derived.Test.YtahcllncjpaijabDoorVh1
import Derived.Test.YtahcllncjpaijabDoorVf6
namespace Go.Proofs.YtahcllncjpaijabDoor
open Go.RowKit

def prnS (l : List Atm) : ByteArray := if chkV l = 0 then ⟨(txP 0 (opV (treeA l)) l).toArray⟩ else ByteArray.empty
set_option maxHeartbeats 4000000 in
theorem print_any (v : Value) (l : List Atm) (w : World) (h : AS w v l) (ht : AT l) (hlm : l.length ≤ 1000000000000000) (hp : PowBelow w.heap.size w) :
    Calls Tryd.prog 5 #[v] w fun e w' => e = .returned (.tuple #[.string (prnS l), .int .i64 (chkV l)]) ∧ Below w.heap.size w w' := by
  have CA : Hid (Calls Tryd.prog 14 #[v] w fun e w' => e = .returned (.int .i64 (chkV l)) ∧ Below w.heap.size w w') := vcheck_any v l w h ht hlm
  have HN : Hid (prnS l = if chkV l = 0 then ⟨(txP 0 (opV (treeA l)) l).toArray⟩ else ByteArray.empty) := rfl
  have TX : Hid (chkV l = 0 → ∀ w1, Below w.heap.size w w1 → Calls Tryd.prog 15 #[v] w1 fun e w' => e = .returned (.string ⟨(txP 0 (opV (treeA l)) l).toArray⟩) ∧ Below w1.heap.size w1 w') := fun e w1 b => by
    obtain ⟨t, rfl, hr⟩ := RT.of e
    obtain ⟨q, c, rfl⟩ := h.form
    rw [treeA_flat hr.wf]
    exact textOf_any q c t w1 (h.below b) hr (fun w2 b2 => hp w2 (b.trans (b2.mono b.size)))
  obtain ⟨q, c, rfl⟩ := h.form
  generalize prnS l = rn at *
  generalize (⟨(txP 0 (opV (treeA l)) l).toArray⟩ : ByteArray) = tx at *
  generalize chkV l = r at *
  clear h ht hp
  by_cases hz : r = 0
  · subst hz
    rw [if_pos rfl] at HN
    go_enter Tryd.func5, Tryd.ntmps5
    go_wp2_with fail
    refine Calls.mono CA.out ?_
    rintro e w1 ⟨rfl, hb1⟩
    have B1 : Hid (Below w.heap.size w w1) := hb1
    have O1 : Hid _ := TX.out (by simp) w1 B1.out
    clear hb1 CA TX
    go_wp2_with fail
    refine Calls.mono O1.out ?_
    rintro e w2 ⟨rfl, hb2⟩
    have B2 : Hid (Below w.heap.size w w2) := B1.out.trans (hb2.mono B1.out.size)
    clear hb2 O1 B1
    go_wp2_with fail
    exact bodyPost_ret (v := .tuple #[.string tx, .int .i64 0]) (by simp [results, Tryd.results5, go_sem]) rfl ⟨by rw [HN.out], B2.out⟩
  · rw [if_neg hz] at HN
    have hzb : (r != 0) = true := by simp [hz]
    clear TX
    go_enter Tryd.func5, Tryd.ntmps5
    go_wp2_with fail
    refine Calls.mono CA.out ?_
    rintro e w1 ⟨rfl, hb1⟩
    have B1 : Hid (Below w.heap.size w w1) := hb1
    clear hb1 CA
    go_wp2_with fail
    exact bodyPost_ret (v := .tuple #[.string ByteArray.empty, .int .i64 r]) (by simp [results, Tryd.results5, go_sem]; try rfl) rfl ⟨by rw [HN.out], B1.out⟩
/-- A number's atom, as the law lays it. -/
def nA (n : Int) : Atm := ⟨1, 0, n, ByteArray.empty⟩
theorem lwhole_any (n : Int) (w : World) : Calls Tryd.prog 13 #[.int .i64 n] w fun e w' => e = .returned (.slice (some ⟨w.heap.size, 0, none⟩) 1 1) ∧ w' = w.alloc (.cells #[.int .i64 1, .int .i64 0, .int .i64 n, .string ByteArray.empty] 43) := by
  go_enter Tryd.func13, Tryd.ntmps13
  go_wp2_with fail
  go_ret
  exact ⟨rfl, rfl⟩
theorem lit_as (w : World) (x : Atm) : AS (w.alloc (.cells #[.int .i64 x.kind, .int .i64 x.n, .int .i64 x.int, .string x.text] 43)) (.slice (some ⟨w.heap.size, 0, none⟩) 1 1) [x] :=
  (OwnG.lit KA w [x] _ rfl rfl (by show 1 ≤ maxLen; unfold maxLen; omega)).gs KA_ok.len
theorem AS.alloc {w : World} {v : Value} {l : List Atm} (h : AS w v l) (ob : Obj) : AS (w.alloc ob) v l := GS.below h ((Below.refl _ _).alloc (Nat.le_refl _) ob)
theorem triple_vr {w : World} {q1 q2 q3 : Option Addr} {c1 c2 c3 : Nat} {l1 l2 l3 : List Atm} (h1 : AS w (.slice q1 l1.length c1) l1) (h2 : AS w (.slice q2 l2.length c2) l2) (h3 : AS w (.slice q3 l3.length c3) l3) : VR (w.alloc (.cells #[.slice q1 l1.length c1, .slice q2 l2.length c2, .slice q3 l3.length c3] 23)) (.slice (some ⟨w.heap.size, 0, none⟩) 3 3) [⟨l1, q1, c1⟩, ⟨l2, q2, c2⟩, ⟨l3, q3, c3⟩] := by
  have b : Below w.heap.size w (w.alloc (.cells #[.slice q1 l1.length c1, .slice q2 l2.length c2, .slice q3 l3.length c3] 23)) := (Below.refl _ _).alloc (Nat.le_refl _) _
  refine ⟨(OwnG.lit KV w [⟨l1, q1, c1⟩, ⟨l2, q2, c2⟩, ⟨l3, q3, c3⟩] _ rfl rfl (by show 3 ≤ maxLen; unfold maxLen; omega)).gs KV_ok.len, fun x hx => ?_⟩
  simp at hx
  rcases hx with rfl | rfl | rfl
  · exact h1.below b
  · exact h2.below b
  · exact h3.below b
theorem triple_vt {q1 q2 q3 : Option Addr} {c1 c2 c3 : Nat} {l1 l2 l3 : List Atm} (n1 : l1.length * 40 ≤ 140737488355328) (n2 : l2.length * 40 ≤ 140737488355328) (n3 : l3.length * 40 ≤ 140737488355328) (t1 : AT l1) (t2 : AT l2) (t3 : AT l3) : VT [(⟨l1, q1, c1⟩ : Vx), ⟨l2, q2, c2⟩, ⟨l3, q3, c3⟩] := by
  refine ⟨by simp, fun x hx => ?_, fun x hx => ?_⟩
  · simp at hx
    rcases hx with rfl | rfl | rfl
    · exact n1
    · exact n2
    · exact n3
  · simp at hx
    rcases hx with rfl | rfl | rfl
    · exact t1
    · exact t2
    · exact t3
def tA : Atm := ⟨2, 0, 0, ⟨#[97]⟩⟩
def eA (n : Int) : Atm := ⟨3, n, 0, ByteArray.empty⟩
def exL : List Atm := [nA 1, tA, eA 0, eA 3]
theorem ex_add : doO 6 [[nA 2], [nA 3]] = some (.nd 1 5 ByteArray.empty []) ∧ doE 6 [[nA 2], [nA 3]] = 0 := by constructor <;> kernel_rfl
theorem ex_list : listL [[nA 1], [tA], [eA 0]] = exL ∧ listE [[nA 1], [tA], [eA 0]] = 0 := by constructor <;> kernel_rfl
theorem ex_chk : chkV exL = 0 := by kernel_rfl
theorem ex_tree : treeA exL = .nd 3 0 ByteArray.empty [.nd 1 1 ByteArray.empty [], .nd 2 0 ⟨#[97]⟩ [], .nd 3 0 ByteArray.empty []] := by kernel_rfl
theorem ex_op : opV (.nd 3 0 ByteArray.empty [.nd 1 1 ByteArray.empty [], .nd 2 0 ⟨#[97]⟩ [], .nd 3 0 ByteArray.empty []]) = [1, 0, 1, 0] := by kernel_rfl
theorem ex_txt : txP 0 [1, 0, 1, 0] exL = [91, 49, 44, 32, 34, 97, 34, 44, 32, 91, 93, 93] := by kernel_rfl
theorem ex_prn : prnS exL = ⟨#[91, 49, 44, 32, 34, 97, 34, 44, 32, 91, 93, 93]⟩ := by
  unfold prnS
  rw [if_pos ex_chk, ex_tree, ex_op, ex_txt]
end Go.Proofs.YtahcllncjpaijabDoor
