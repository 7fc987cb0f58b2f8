/-
 From a row's list of variables to what errors.As asks (errors.errorType holds the type error), and one world that fits the list. Condition: the list, which is errors.errorType alone, is met. And what follows of it, part by part, each with its conditions.
-/
import Derived.Test.YtljbpelogjmciaaGreatDoorRows
import Derived.Test.YtljbpelogjmciaaGreatDoorErrAll
import Derived.Test.YtljbpelogjmciaaGreatDoorTextAll
import Derived.Test.YtljbpelogjmciaaGreatDoorSpecStepAll
import Derived.Test.YtljbpelogjmciaaGreatDoorLawSpecAll
import Derived.LaidLaws
import Derived.LaidHandle
import Derived.LaidSub
import Derived.OpenShut
import Derived.Shelf.Vars
import Derived.Lib.LaidTab
namespace Go.Proofs.YtljbpelogjmciaaGreatDoor
open Go.ChangeShapes Go.WideShapes Go.ChangeAt Go.RowKit
namespace LaidErr
theorem gType : Tryz.prog.globalNamed "errors.errorType" = some 1 := by kernel_rfl
theorem rType : (Tryz.prog.cutTypes.find? (·.1 == "internal/reflectlite.rtype")).map (·.2) = some 250 := by kernel_rfl
theorem oneRow : ((List.range 334).filter fun t => Tryz.prog.rowNamed t [101, 114, 114, 111, 114]) = [76] := by kernel_rfl
theorem nTypes : Tryz.prog.types.size = 334 := by kernel_rfl
theorem handle : typeHandle Tryz.prog 76 = .pointer (some ⟨9, 76, none⟩) := by kernel_rfl
theorem laid_of {W : World} {l : List (String × DataW Unit)} (h : laidMetH Tryz.prog l W) (hm : ("errors.errorType", Rows.laid_errors_errorType) ∈ l) : Err.Laid W := by
 have hin : ("errors.errorType", Rows.laid_errors_errorType) ∈ l.filter fun x => x.2.handleName?.isSome := List.mem_filter.2 ⟨hm, rfl⟩
 unfold laidMetH at h
 split at h
 · rename_i hf; rw [hf] at hin; cases hin
 rename_i x xs hf
 rw [hf] at hin
 obtain ⟨name, u, ty, e1, e2, e3, e4, e5⟩ := h.2 _ hin
 have en : name = [101, 114, 114, 111, 114] := (Option.some.inj e1).symm
 subst en
 obtain rfl := Option.some.inj (rType.symm.trans e2)
 have hty : ty ∈ (List.range 334).filter fun t => Tryz.prog.rowNamed t [101, 114, 114, 111, 114] := List.mem_filter.2 ⟨List.mem_range.2 (by rw [← nTypes]; exact e3), e4⟩
 rw [oneRow] at hty
 obtain rfl := List.mem_singleton.1 hty
 rw [handle] at e5
 unfold Err.Laid
 simpa using World.var?_cell gType e5 0
noncomputable def laidWorld (os : Os) : World :=
 let w0 := World.holding Tryz.prog os ⟨#[], #[], []⟩
 { w0 with heap := w0.heap.modify 1 fun
  | .cells _ t frozen => .cells #[.iface 250 (.agg #[.pointer (some ⟨9, 76, none⟩)])] t frozen
  | o => o }
end LaidErr
end Go.Proofs.YtljbpelogjmciaaGreatDoor
namespace Go.Proofs.YtljbpelogjmciaaGreatDoor
open Go.ChangeShapes Go.WideShapes Go.ChangeAt Go.RowKit
namespace LaidText
theorem laid_mem {P : Program} {w : World} : ∀ {l : List (String × DataW Unit)} {ps : List MemPlace} {n : String} {d : DataW Unit}, DataW.LaidVars P w l ps → (n, d) ∈ l →
 ∃ g t cs fuel p, P.globalNamed n = some g ∧ (P.globals[g]?).map (·.type) = some t ∧ w.var? P n = some cs ∧ DataW.trod (fun _ => ()) P w 0 (fun _ => true) false fuel t cs.toList = some (d, p) := by
 intro l
 induction l with
 | nil => intro ps n d _ h; simp at h
 | cons x l ih =>
  intro ps n d h hm
  obtain ⟨m, e⟩ := x
  obtain ⟨g, t, cs, fuel, p, q, h1, h2, h3, h4, h5, _⟩ := h
  rcases List.mem_cons.1 hm with hm | hm
  · injection hm with hm1 hm2
    subst hm1 hm2
    exact ⟨g, t, cs, fuel, p, h1, h2, h3, h4⟩
  · exact ih h5 hm
theorem cells_of_rows {H : Type} {enc : TypeId × Value → H} {P : Program} {w : World} {base : Nat} {sp : Nat → Bool} {held : Bool} {fuel : Nat} {t r e : TypeId} {n m : Nat} {k : IntKind} {cs : List Value} {d : DataW H} {p : List MemPlace}
 (ht : P.underlying t = some (.array n r)) (hr : P.underlying r = some (.array m e)) (he : P.underlying e = some (.int k)) (hce : P.cellsOf e = 1) (hcr : P.cellsOf r = m) (f : Nat → Nat → Int)
 (hd : d = .agg ((List.range n).map fun i => .agg ((List.range m).map fun j => .lit (.int k (f i j)))))
 (h : DataW.trod enc P w base sp held fuel t cs = some (d, p)) (i j : Nat) (hi : i < n) (hj : j < m) : cs[i * m + j]? = some (.int k (f i j)) := by
 obtain ⟨xs, m1, _, hx, _, hl, hall⟩ := DataW.trod_array ht h
 have hi' := hall i hi
 rw [hcr, List.getElem?_eq_getElem (by omega)] at hi'
 obtain ⟨ys, m2, _, hy, _, hl2, hall2⟩ := DataW.trod_array hr hi'
 have hj' := hall2 j hj
 rw [hce, List.getElem?_eq_getElem (by omega)] at hj'
 obtain ⟨z, hz, hz2, _⟩ := DataW.trod_int he hj'
 have h1 : xs[i].1 = .agg ((List.range m).map fun j => .lit (.int k (f i j))) := by
  have h0 := congrArg Prod.fst hx
  rw [hd] at h0
  simp only [DataW.agg.injEq] at h0
  have h2 := congrArg (·[i]?) h0
  simp only [List.getElem?_map, List.getElem?_range hi, List.getElem?_eq_getElem (show i < xs.length by omega), Option.map_some] at h2
  exact (Option.some.inj h2).symm
 have h3 : ys[j].1 = .lit (.int k (f i j)) := by
  have h0 := congrArg Prod.fst hy
  rw [h1] at h0
  simp only [DataW.agg.injEq] at h0
  have h2 := congrArg (·[j]?) h0
  simp only [List.getElem?_map, List.getElem?_range hj, List.getElem?_eq_getElem (show j < ys.length by omega), Option.map_some] at h2
  exact (Option.some.inj h2).symm
 rw [hz2] at h3
 simp only [DataW.lit.injEq, Lit.int.injEq, true_and] at h3
 subst h3
 have h4 := congrArg (·[0]?) hz
 simp only [List.getElem?_cons_zero] at h4
 rw [List.getElem?_take_of_lt (by omega), List.getElem?_drop, List.getElem?_take_of_lt (by omega), List.getElem?_drop] at h4
 simpa using h4
theorem table_datum : (Rows.laid_provost_text_bytesOf : DataW Unit) = .agg ((List.range 5).map fun i => .agg ((List.range 4).map fun j => .lit (.int .u64 (Text.word i j)))) := by kernel_rfl
theorem gTab : Tryz.prog.globalNamed "provost/text.bytesOf" = some 4 := by kernel_rfl
theorem gTabType : (Tryz.prog.globals[4]?).map (·.type) = some 290 := by kernel_rfl
theorem cellsRow : Tryz.prog.cellsOf 289 = 4 := by kernel_rfl
theorem cellsU64 : Tryz.prog.cellsOf 39 = 1 := by kernel_rfl
theorem max_of {W : World} (h : W.ShapedOpen Tryz.prog) : ∃ m, W.cell? ⟨2, 0, none⟩ = some (.int .i64 m) :=
 cell_of_shapedOpen_int (t := 3) (zero := #[.int .i64 0]) h (by decide +kernel) (by kernel_rfl) rfl (by kernel_rfl) (by kernel_rfl) Tryz.underlying3
theorem laid_of {W : World} {l : List (String × DataW Unit)} (h : laidMet Tryz.prog l W) (hsh : W.ShapedOpen Tryz.prog) (hm : ("provost/text.bytesOf", Rows.laid_provost_text_bytesOf) ∈ l) : Text.Laid W := by
 obtain ⟨ps, hv, _⟩ := h
 obtain ⟨g', t', cs, fuel, p, h1, h2, h3, h4⟩ := laid_mem hv hm
 obtain rfl := Option.some.inj (gTab.symm.trans h1)
 obtain rfl := Option.some.inj (gTabType.symm.trans h2)
 refine ⟨max_of hsh, fun k q hk hq => ?_⟩
 have hc := cells_of_rows Tryz.underlying290 Tryz.underlying289 Tryz.underlying39 cellsU64 cellsRow Text.word table_datum h4 k q hk hq
 have hw := World.var?_cell gTab h3 (k * 4 + q)
 rw [hw]
 simpa using hc
def cellOf : DataW Unit → Value
 | .lit (.int k n) => .int k n
 | _ => undef
def rowOf : DataW Unit → List Value
 | .agg l => l.map cellOf
 | _ => []
def tabOf : DataW Unit → Array Value
 | .agg l => (l.flatMap rowOf).toArray
 | _ => #[]
def put (cs : Array Value) : Obj → Obj
 | .cells _ t frozen => .cells cs t frozen
 | o => o
end LaidText
end Go.Proofs.YtljbpelogjmciaaGreatDoor
namespace Go.Proofs.YtljbpelogjmciaaGreatDoor
open Go.ChangeShapes Go.WideShapes Go.ChangeAt Go.RowKit
namespace LaidSpec
theorem pow10_datum : (Rows.laid_internal_strconv_uint64pow10 : DataW Unit) = Lib.tabData .u64 Lib.pow10Tab := by kernel_rfl
theorem gPow : Tryz.prog.globalNamed "internal/strconv.uint64pow10" = some 3 := by kernel_rfl
theorem gPowType : (Tryz.prog.globals[3]?).map (·.type) = some 282 := by kernel_rfl
theorem cellsPow : Tryz.prog.cellsOf 282 = 20 := by kernel_rfl
theorem cellsU64 : Tryz.prog.cellsOf 39 = 1 := by kernel_rfl
theorem tab_of {W : World} {l : List (String × DataW Unit)} (h : laidMet Tryz.prog l W) (m1 : ("internal/strconv.uint64pow10", Rows.laid_internal_strconv_uint64pow10) ∈ l) : NumText.Tab W := by
 obtain ⟨ps, hv, _⟩ := h
 obtain ⟨g', t', cs, fuel, p, h1, h2, h3, h4⟩ := LaidText.laid_mem hv m1
 obtain rfl := Option.some.inj (gPow.symm.trans h1)
 obtain rfl := Option.some.inj (gPowType.symm.trans h2)
 rw [pow10_datum] at h4
 unfold NumText.Tab Lib.TabIs
 rw [h3, ← Lib.cells_of_tab Tryz.underlying282 Tryz.underlying39 cellsU64 cellsPow h4]
theorem parts {W : World} {l : List (String × DataW Unit)} (h : laidMetH Tryz.prog l W) (m0 : ("errors.errorType", Rows.laid_errors_errorType) ∈ l) : laidMet Tryz.prog (l.filter fun x => x.2.handleName?.isNone) W := by
 have hin : ("errors.errorType", Rows.laid_errors_errorType) ∈ l.filter fun x => x.2.handleName?.isSome := List.mem_filter.2 ⟨m0, rfl⟩
 unfold laidMetH at h
 split at h
 · rename_i hf; rw [hf] at hin; cases hin
 · exact h.1
theorem laid_of {W : World} {l : List (String × DataW Unit)} (h : laidMetH Tryz.prog l W) (hsh : W.ShapedOpen Tryz.prog) (m0 : ("errors.errorType", Rows.laid_errors_errorType) ∈ l) (m1 : ("internal/strconv.uint64pow10", Rows.laid_internal_strconv_uint64pow10) ∈ l)
 (m2 : ("provost/text.bytesOf", Rows.laid_provost_text_bytesOf) ∈ l) : SpecOwn.SLaid W := by
 have hp := parts h m0
 exact ⟨LaidErr.laid_of h m0, LaidText.laid_of hp hsh (List.mem_filter.2 ⟨m2, by kernel_rfl⟩), tab_of hp (List.mem_filter.2 ⟨m1, by kernel_rfl⟩)⟩
noncomputable def laidWorld (os : Os) : World :=
 let w0 := World.holding Tryz.prog os ⟨#[], #[], []⟩
 let h := w0.heap
 let h := h.modify 4 (LaidText.put (LaidText.tabOf Rows.laid_provost_text_bytesOf))
 let h := h.modify 7 (LaidText.put (LaidText.rowOf Rows.laid_unicode_utf8_first).toArray)
 let h := h.modify 8 (LaidText.put (LaidText.tabOf Rows.laid_unicode_utf8_acceptRanges))
 let h := h.modify 3 (LaidText.put (LaidText.rowOf Rows.laid_internal_strconv_uint64pow10).toArray)
 let h := h.modify 5 (LaidText.put (LaidText.rowOf Rows.laid_math_bits_deBruijn32tab).toArray)
 let h := h.modify 6 (LaidText.put (LaidText.rowOf Rows.laid_math_bits_deBruijn64tab).toArray)
 let h := h.modify 1 (LaidText.put #[.iface 250 (.agg #[.pointer (some ⟨9, 76, none⟩)])])
 { w0 with heap := h }
section
variable {H : Type} {enc : TypeId × Value → H}
end
end LaidSpec
end Go.Proofs.YtljbpelogjmciaaGreatDoor
namespace Go.Proofs.YtljbpelogjmciaaGreatDoor
open Go.ChangeShapes Go.WideShapes Go.ChangeAt Go.RowKit Go.ChangeMaps Go.Deep
namespace LawKit
open Sd Lists
section
variable {H : Type} {enc : TypeId × Value → H} {P : Program} {W : World}
end
end LawKit
end Go.Proofs.YtljbpelogjmciaaGreatDoor
