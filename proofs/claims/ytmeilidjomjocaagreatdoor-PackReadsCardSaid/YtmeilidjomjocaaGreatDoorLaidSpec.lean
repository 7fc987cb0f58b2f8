/-
  From a row's list of variables and the world's shape to what package spec's contracts ask (SLaid): errors.errorType, text's table of bits, a number in internal/bytealg.MaxLen, strconv's table of powers; and one world that fits the list; the types of what comes in. Condition: the list is met.
-/
import Derived.Test.YtmeilidjomjocaaGreatDoorLaidErr
import Derived.Test.YtmeilidjomjocaaGreatDoorLaidText
import Derived.Test.YtmeilidjomjocaaGreatDoorSpecStepAll
import Derived.Test.YtmeilidjomjocaaGreatDoorLawSpecAll
import Derived.Lib.LaidTab
namespace Go.Proofs.YtmeilidjomjocaaGreatDoor
open Go.ChangeShapes Go.WideShapes Go.ChangeAt Go.RowKit
namespace LaidSpec

theorem pow10_datum : (Rows.laid_internal_strconv_uint64pow10 : DataW Unit) = Lib.tabData .u64 Lib.pow10Tab := by kernel_rfl
theorem gPow : Tryz.prog.globalNamed "internal/strconv.uint64pow10" = some 4 := by kernel_rfl
theorem gPowType : (Tryz.prog.globals[4]?).map (·.type) = some 261 := by kernel_rfl
theorem cellsPow : Tryz.prog.cellsOf 261 = 20 := by kernel_rfl
theorem cellsU64 : Tryz.prog.cellsOf 49 = 1 := by kernel_rfl

theorem tab_of {W : World} {l : List (String × DataW Unit)} (h : laidMet Tryz.prog l W) (m1 : ("internal/strconv.uint64pow10", Rows.laid_internal_strconv_uint64pow10) ∈ l) : NumText.Tab W := by
  obtain ⟨ps, hv, _⟩ := h
  obtain ⟨g', t', cs, fuel, p, h1, h2, h3, h4⟩ := LaidText.laid_mem hv m1
  obtain rfl := Option.some.inj (gPow.symm.trans h1)
  obtain rfl := Option.some.inj (gPowType.symm.trans h2)
  rw [pow10_datum] at h4
  unfold NumText.Tab Lib.TabIs
  rw [h3, ← Lib.cells_of_tab Tryz.underlying261 Tryz.underlying49 cellsU64 cellsPow h4]

theorem parts {W : World} {l : List (String × DataW Unit)} (h : laidMetH Tryz.prog l W) (m0 : ("errors.errorType", Rows.laid_errors_errorType) ∈ l) : laidMet Tryz.prog (l.filter fun x => x.2.handleName?.isNone) W := by
  have hin : ("errors.errorType", Rows.laid_errors_errorType) ∈ l.filter fun x => x.2.handleName?.isSome := List.mem_filter.2 ⟨m0, rfl⟩
  unfold laidMetH at h
  split at h
  · rename_i hf; rw [hf] at hin; cases hin
  · exact h.1
theorem laid_of {W : World} {l : List (String × DataW Unit)} (h : laidMetH Tryz.prog l W) (hsh : W.ShapedOpen Tryz.prog) (m0 : ("errors.errorType", Rows.laid_errors_errorType) ∈ l) (m1 : ("internal/strconv.uint64pow10", Rows.laid_internal_strconv_uint64pow10) ∈ l)
    (m2 : ("provost/text.bytesOf", Rows.laid_provost_text_bytesOf) ∈ l) : SpecOwn.SLaid W := by
  have hp := parts h m0
  exact ⟨LaidErr.laid_of h m0, LaidText.laid_of hp hsh (List.mem_filter.2 ⟨m2, by kernel_rfl⟩), tab_of hp (List.mem_filter.2 ⟨m1, by kernel_rfl⟩)⟩

/-- the settled world, the tables as they are laid -/
noncomputable def laidWorld (os : Os) : World :=
  let w0 := World.holding Tryz.prog os ⟨#[], #[], []⟩
  let h1 := w0.heap.modify 3 (LaidText.put (LaidText.tabOf Rows.laid_provost_text_bytesOf))
  let h2 := h1.modify 7 (LaidText.put (LaidText.rowOf Rows.laid_unicode_utf8_first).toArray)
  let h3 := h2.modify 8 (LaidText.put (LaidText.tabOf Rows.laid_unicode_utf8_acceptRanges))
  let h4 := h3.modify 4 (LaidText.put (LaidText.rowOf Rows.laid_internal_strconv_uint64pow10).toArray)
  let h5 := h4.modify 5 (LaidText.put (LaidText.rowOf Rows.laid_math_bits_deBruijn32tab).toArray)
  let h6 := h5.modify 6 (LaidText.put (LaidText.rowOf Rows.laid_math_bits_deBruijn64tab).toArray)
  let h7 := h6.modify 1 (LaidText.put #[.iface 224 (.agg #[.pointer (some ⟨9, 40, none⟩)])])
  { w0 with heap := h7 }

/-- the types of what comes in -/
noncomputable def types : LawKit.Types Tryz.prog where
  ti := 3
  ts := 9
  tl := 131
  tls := 25
  tr := 69
  tp := 72
  tn := 70
  tc := 74
  tcs := 26
  fl := Tryz.prog.fieldsOf 131
  fr := Tryz.prog.fieldsOf 69
  fp := Tryz.prog.fieldsOf 72
  fc := Tryz.prog.fieldsOf 74
  hi := by kernel_rfl
  hs := by kernel_rfl
  hl := by kernel_rfl
  hls := by kernel_rfl
  hr := by kernel_rfl
  hp := by kernel_rfl
  hn := by kernel_rfl
  hc := by kernel_rfl
  hcs := by kernel_rfl
  ci := by kernel_rfl
  cl := by kernel_rfl
  cc := by kernel_rfl
  bl := by kernel_rfl
  br := by kernel_rfl
  bp := by kernel_rfl
  bc := by kernel_rfl
theorem spec_fields : Tryz.prog.underlying 28 = some (.struct (Tryz.prog.fieldsOf 28)) := by kernel_rfl
theorem spec_cells : Tryz.prog.cellsOf 28 = 7 := by kernel_rfl
theorem spec_at : LawKit.fieldsB Tryz.prog (Tryz.prog.fieldsOf 28) [(0, 1, types.ts), (1, 1, types.tls), (2, 1, types.tcs), (3, 1, types.tcs), (4, 1, types.ti), (5, 1, types.ti), (6, 1, types.ti)] = true := by kernel_rfl
section
variable {H : Type} {enc : TypeId × Value → H}
set_option maxRecDepth 100000 in
/-- a spec that came in -/
theorem came_spec {W : World} {base : Nat} {v : Value} {d : DataW H} {p : List MemPlace} (hv : Value.okWide Tryz.prog W .any base 28 v) (h : DataW.Trod enc Tryz.prog W 0 (fun _ => true) true 28 v d p) :
    ∃ (S : Sd.Spc) (LA : Option Addr) (lc : Nat) (IA : Option Addr) (ic : Nat) (MA : Option Addr) (mc : Nat), v = .agg (S.cells LA lc IA ic MA mc) ∧ S.In W LA lc IA ic MA mc ∧ (S.labels.length ≤ lc ∧ lc ≤ 9223372036854775807) ∧ (S.init.length ≤ ic ∧ ic ≤ 9223372036854775807) ∧ (S.main.length ≤ mc ∧ mc ≤ 9223372036854775807) :=
  LawKit.open_spec types spec_fields spec_cells spec_at hv h
set_option maxRecDepth 100000 in
/-- labels that came in -/
theorem came_labels {W : World} {base : Nat} {v : Value} {d : DataW H} {p : List MemPlace} (hv : Value.okWide Tryz.prog W .any base 25 v) (h : DataW.Trod enc Tryz.prog W 0 (fun _ => true) true 25 v d p) :
    ∃ A c l, v = .slice A l.length c ∧ Sd.Lbls W A l ∧ l.length ≤ 9223372036854775807 ∧ l.length ≤ c ∧ c ≤ 9223372036854775807 := by
  obtain ⟨a, len, cap, rfl⟩ := okWide_slice types.hls hv
  obtain ⟨fuel, hf⟩ := h
  exact LawKit.trod_lbls types hf
end
end LaidSpec
end Go.Proofs.YtmeilidjomjocaaGreatDoor
