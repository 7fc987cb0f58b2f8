/-
 From a row's list of variables and the world's shape to what package tell's contracts ask (Tl.Laid): as LaidSpec, and the names of the kinds of events; and one world that fits the list. Condition: the list is met. And what follows of it, part by part, each with its conditions.
-/
import Derived.Test.YtljbpelogjmciaaGreatDoorLaidTAll
import Derived.Test.YtljbpelogjmciaaGreatDoorTellC
import Derived.Test.YtljbpelogjmciaaGreatDoorLawPods
namespace Go.Proofs.YtljbpelogjmciaaGreatDoor
open Go.ChangeShapes Go.WideShapes Go.ChangeAt Go.RowKit
namespace LaidTell
theorem cells_of_texts {H : Type} {enc : TypeId × Value → H} {P : Program} {w : World} {base : Nat} {sp : Nat → Bool} {held : Bool} {fuel : Nat} {t e : TypeId} {n : Nat} {cs : List Value} {d : DataW H} {p : List MemPlace}
 (ht : P.underlying t = some (.array n e)) (he : P.underlying e = some .string) (hce : P.cellsOf e = 1) (f : Nat → ByteArray)
 (hd : d = .agg ((List.range n).map fun i => .lit (.string (f i).data.toList)))
 (h : DataW.trod enc P w base sp held fuel t cs = some (d, p)) (j : Nat) (hj : j < n) : cs[j]? = some (.string (f j)) := by
 obtain ⟨ys, m2, _, hy, _, hl2, hall2⟩ := DataW.trod_array ht h
 have hj' := hall2 j hj
 rw [hce, List.getElem?_eq_getElem (by omega)] at hj'
 obtain ⟨z, hz, hz2, _⟩ := DataW.trod_string he hj'
 have h3 : ys[j].1 = .lit (.string (f j).data.toList) := by
  have h0 := congrArg Prod.fst hy
  rw [hd] at h0
  simp only [DataW.agg.injEq] at h0
  have h2 := congrArg (·[j]?) h0
  simp only [List.getElem?_map, List.getElem?_range hj, List.getElem?_eq_getElem (show j < ys.length by omega), Option.map_some] at h2
  exact (Option.some.inj h2).symm
 rw [hz2] at h3
 simp only [DataW.lit.injEq, Lit.string.injEq] at h3
 have hs : z = f j := ByteArray.ext (Array.ext' h3)
 subst hs
 have h4 := congrArg (·[0]?) hz
 simp only [List.getElem?_cons_zero] at h4
 rw [List.getElem?_take_of_lt (by omega), List.getElem?_drop] at h4
 simpa using h4
theorem names_datum : (Rows.laid_provost_tell_eventNames : DataW Unit) = .agg ((List.range 6).map fun i => .lit (.string (Tl.evT i).data.toList)) := by kernel_rfl
theorem gNames : Tryz.prog.globalNamed "provost/tell.eventNames" = some 0 := by kernel_rfl
theorem gNamesType : (Tryz.prog.globals[0]?).map (·.type) = some 210 := by kernel_rfl
theorem cellsStr : Tryz.prog.cellsOf 9 = 1 := by kernel_rfl
theorem laid_of {W : World} {l : List (String × DataW Unit)} (h : laidMetH Tryz.prog l W) (hsh : W.ShapedOpen Tryz.prog) (m0 : ("errors.errorType", Rows.laid_errors_errorType) ∈ l) (m1 : ("internal/strconv.uint64pow10", Rows.laid_internal_strconv_uint64pow10) ∈ l)
 (m2 : ("provost/text.bytesOf", Rows.laid_provost_text_bytesOf) ∈ l) (m3 : ("provost/tell.eventNames", Rows.laid_provost_tell_eventNames) ∈ l) : Tl.Laid W := by
 refine ⟨LaidSpec.laid_of h hsh m0 m1 m2, ⟨fun k hk => ?_⟩⟩
 obtain ⟨ps, hv, _⟩ := LaidSpec.parts h m0
 obtain ⟨g', t', cs, fuel, p, h1, h2, h3, h4⟩ := LaidText.laid_mem hv (List.mem_filter.2 ⟨m3, by kernel_rfl⟩)
 obtain rfl := Option.some.inj (gNames.symm.trans h1)
 obtain rfl := Option.some.inj (gNamesType.symm.trans h2)
 have hc := cells_of_texts Tryz.underlying210 Tryz.underlying9 cellsStr Tl.evT names_datum h4 k hk
 have hw := World.var?_cell gNames h3 k
 rw [hw]
 simpa using hc
def textOf : DataW Unit → Value
 | .lit (.string l) => .string ⟨l.toArray⟩
 | _ => undef
def textsOf : DataW Unit → Array Value
 | .agg l => (l.map textOf).toArray
 | _ => #[]
noncomputable def laidWorld (os : Os) : World :=
 let w0 := LaidSpec.laidWorld os
 { w0 with heap := w0.heap.modify 0 (LaidText.put (textsOf Rows.laid_provost_tell_eventNames)) }
end LaidTell
end Go.Proofs.YtljbpelogjmciaaGreatDoor
set_option linter.unusedVariables false
namespace Go.Proofs.YtljbpelogjmciaaGreatDoor
open Go.ChangeShapes Go.WideShapes Go.ChangeAt Go.RowKit Go.ChangeMaps Go.Deep
namespace LaidTell
open Sd Lists LawKit Tl
section
variable {H : Type} {enc : TypeId × Value → H} {W : World}
end
end LaidTell
end Go.Proofs.YtljbpelogjmciaaGreatDoor
