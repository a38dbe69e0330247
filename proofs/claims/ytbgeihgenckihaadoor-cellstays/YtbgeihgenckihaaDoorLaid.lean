/- From what the row lists of the package's variables to what the walks ask of memory: an array of texts that reads as a datum holds these texts. -/
import Derived.Test.YtbgeihgenckihaaDoorRows
import Derived.Test.YtbgeihgenckihaaDoorKey
import Derived.ProofKit
import Derived.LaidMore
import Derived.OpenShut
import Derived.Stop.Joined
import Derived.Lib.LaidTab
namespace Go.Proofs.YtbgeihgenckihaaDoor
open Go.ChangeShapes Go.WideShapes Go.ChangeAt Go.WideMaps Go.WideElems Go.RowKit

theorem cells_of_strs {H : Type} {enc : TypeId × Value → H} {P : Program} {w : World} {base : Nat} {sp : Nat → Bool} {held : Bool} {fuel : Nat} {t e : TypeId} {n : Nat} {cs : List Value} {zs : List ByteArray} {p : List MemPlace}
    (ht : P.underlying t = some (.array n e)) (he : P.underlying e = some .string) (hce : P.cellsOf e = 1) (hz : zs.length = n)
    (h : DataW.trod enc P w base sp held fuel t cs = some (.agg (zs.map fun z => .lit (.string z.data.toList)), p)) : ∀ i, i < zs.length → cs[i]? = some (Value.string (zs.getD i ByteArray.empty)) := by
  obtain ⟨xs, m, rfl, hx, hlen, hxl, hel⟩ := DataW.trod_array ht h
  intro i hi
  have h0 := hel i (by omega)
  simp only [Prod.mk.injEq, DataW.agg.injEq] at hx
  have hxi : xs[i]? = some (xs[i]'(by omega)) := by simp
  rw [hxi] at h0
  obtain ⟨s, e1, e2, _⟩ := DataW.trod_string he h0
  rw [hce, Nat.mul_one] at e1
  have hc : cs[i]? = some (Value.string s) := by
    have := congrArg (·[0]?) e1
    simpa [List.getElem?_take, List.getElem?_drop] using this
  have h2 : (xs.map (·.1))[i]? = some (DataW.lit (.string s.data.toList)) := by rw [List.getElem?_map, hxi, e2]; rfl
  rw [← hx.1] at h2
  simp only [List.getElem?_map, Option.map_eq_some_iff, DataW.lit.injEq, Lit.string.injEq] at h2
  obtain ⟨z, hz', e3⟩ := h2
  have : z = s := by cases z; cases s; simp at e3; subst e3; rfl
  rw [hc, List.getD_eq_getElem?_getD, hz', this]; rfl

theorem own : ownKnob Tryd.prog.godebug = none := by kernel_rfl
theorem laidOut : laidOutB Tryd.prog = true := by kernel_rfl
theorem gKeys : Tryd.prog.globalNamed "onceweb/lex.keys" = some 2 := by kernel_rfl
theorem tKeys : (Tryd.prog.globals[2]?).map (·.type) = some 115 := by kernel_rfl
theorem keysData {H : Type} : (Rows.laid_onceweb_lex_keys : DataW H) = .agg (kw.map fun z => .lit (.string z.data.toList)) := rfl
theorem cellsStr : Tryd.prog.cellsOf 9 = 1 := by kernel_rfl

theorem keysAt_of {W : World} {t : TypeId} {cs : Array Value} {g fuel : Nat} {p : List MemPlace} (hg : Tryd.prog.globalNamed "onceweb/lex.keys" = some g) (ht : (Tryd.prog.globals[g]?).map (·.type) = some t) (hv : W.var? Tryd.prog "onceweb/lex.keys" = some cs)
    (hd : DataW.trod (fun _ => ()) Tryd.prog W 0 (fun _ => true) false fuel t cs.toList = some (Rows.laid_onceweb_lex_keys, p)) : KeysAt W := by
  obtain rfl := Option.some.inj (gKeys.symm.trans hg)
  obtain rfl := Option.some.inj (tKeys.symm.trans ht)
  rw [keysData] at hd
  intro i hi
  rw [World.var?_cell hg hv i, ← Array.getElem?_toList]
  exact cells_of_strs Tryd.underlying115 Tryd.underlying9 cellsStr kw_len hd i hi
end Go.Proofs.YtbgeihgenckihaaDoor
