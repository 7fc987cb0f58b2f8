/-
  From a row's list of variables to what strconv's contracts ask (Rv.Laid, Fu.Tab), whatever stands on the list besides; and one world that fits the list. Condition: the list is met.
-/
import Derived.Test.YtlccfflkefmolaaDoorRows
import Derived.Test.YtlccfflkefmolaaDoorRevParse
import Derived.WalkKit
import Derived.ProofKit
import Derived.LaidLaws
import Derived.Lib.LaidTab
namespace Go.Proofs.YtlccfflkefmolaaDoor
open Go.ChangeShapes Go.WideShapes Go.ChangeAt Go.RowKit
namespace LaidRev

theorem laid_mem {P : Program} {w : World} : ∀ {l : List (String × DataW Unit)} {ps : List MemPlace} {n : String} {d : DataW Unit}, DataW.LaidVars P w l ps → (n, d) ∈ l →
    ∃ g t cs fuel p, P.globalNamed n = some g ∧ (P.globals[g]?).map (·.type) = some t ∧ w.var? P n = some cs ∧ DataW.trod (fun _ => ()) P w 0 (fun _ => true) false fuel t cs.toList = some (d, p) := by
  intro l
  induction l with
  | nil => intro ps n d _ h; simp at h
  | cons x l ih =>
    intro ps n d h hm
    obtain ⟨m, e⟩ := x
    obtain ⟨g, t, cs, fuel, p, q, h1, h2, h3, h4, h5, _⟩ := h
    rcases List.mem_cons.1 hm with hm | hm
    · injection hm with hm1 hm2
      subst hm1 hm2
      exact ⟨g, t, cs, fuel, p, h1, h2, h3, h4⟩
    · exact ih h5 hm

theorem pow10_datum : (Rows.laid_internal_strconv_uint64pow10 : DataW Unit) = Lib.tabData .u64 Lib.pow10Tab := by kernel_rfl
theorem gPow : Tryd.prog.globalNamed "internal/strconv.uint64pow10" = some 2 := by kernel_rfl
theorem gPowType : (Tryd.prog.globals[2]?).map (·.type) = some 65 := by kernel_rfl
theorem cellsPow : Tryd.prog.cellsOf 65 = 20 := by kernel_rfl
theorem cellsU64 : Tryd.prog.cellsOf 22 = 1 := by kernel_rfl

theorem sentinel {W : World} {name : String} {d : DataW Unit} {nm : String} {l : List (String × DataW Unit)} {g : Nat} (h : laidMet Tryd.prog l W) (hm : (name, DataW.iface nm d) ∈ l)
    (hg : Tryd.prog.globalNamed name = some g) (hty : (Tryd.prog.globals[g]?).map (·.type) = some 40) : ∃ tp p, W.var? Tryd.prog name = some #[.iface tp p] := by
  obtain ⟨ps, hv, _⟩ := h
  obtain ⟨g', t', cs, fuel, p, h1, h2, h3, h4⟩ := laid_mem hv hm
  obtain rfl := Option.some.inj (hg.symm.trans h1)
  obtain rfl := Option.some.inj (hty.symm.trans h2)
  obtain ⟨_, u, v, hc, _⟩ := iface_of_trod (show Tryd.prog.underlying 40 = some (.interface _) from Tryd.underlying40) h4
  refine ⟨u, v, ?_⟩
  rw [h3]
  congr 1
  exact Array.toList_inj.1 hc

theorem tab_of {W : World} {l : List (String × DataW Unit)} (h : laidMet Tryd.prog l W)
    (m1 : ("internal/strconv.uint64pow10", Rows.laid_internal_strconv_uint64pow10) ∈ l) : Fu.Tab W := by
  obtain ⟨ps, hv, _⟩ := h
  obtain ⟨g', t', cs, fuel, p, h1, h2, h3, h4⟩ := laid_mem hv m1
  obtain rfl := Option.some.inj (gPow.symm.trans h1)
  obtain rfl := Option.some.inj (gPowType.symm.trans h2)
  rw [pow10_datum] at h4
  unfold Fu.Tab Lib.TabIs
  rw [h3, ← Lib.cells_of_tab Tryd.underlying65 Tryd.underlying22 cellsU64 cellsPow h4]

theorem laid_of {W : World} {l : List (String × DataW Unit)} (h : laidMet Tryd.prog l W)
    (m1 : ("internal/strconv.uint64pow10", Rows.laid_internal_strconv_uint64pow10) ∈ l) (m2 : ("strconv.ErrSyntax", Rows.laid_strconv_ErrSyntax) ∈ l) (m3 : ("strconv.ErrRange", Rows.laid_strconv_ErrRange) ∈ l) : Rv.Laid W :=
  ⟨tab_of h m1, sentinel h m2 (g := 0) (by kernel_rfl) (by kernel_rfl), sentinel h m3 (g := 1) (by kernel_rfl) (by kernel_rfl)⟩

/-- the cells of a table, out of its datum -/
def cellOf : DataW Unit → Value
  | .lit (.int k n) => .int k n
  | _ => undef
def rowOf : DataW Unit → Array Value
  | .agg l => (l.map cellOf).toArray
  | _ => #[]
def put (cs : Array Value) : Obj → Obj
  | .cells _ t frozen => .cells cs t frozen
  | o => o
def textOf : DataW Unit → ByteArray
  | .iface _ (.ptr (.agg [.lit (.string s)])) => ⟨s.toArray⟩
  | _ => ⟨#[]⟩

/-- so many blocks has the settled world -/
noncomputable def low : Nat := (World.holding Tryd.prog default ⟨#[], #[], []⟩).heap.size
/-- the settled world, the tables as they are laid, and the two errors in blocks of their own -/
noncomputable def laidWorld (os : Os) : World :=
  let w0 := World.holding Tryd.prog os ⟨#[.cells #[.string (textOf Rows.laid_strconv_ErrSyntax)] 73, .cells #[.string (textOf Rows.laid_strconv_ErrRange)] 73], #[], []⟩
  { w0 with heap := ((((w0.heap.modify 0 (put #[.iface 71 (.pointer (some ⟨low, 0, none⟩))])).modify 1 (put #[.iface 71 (.pointer (some ⟨low + 1, 0, none⟩))])).modify
      2 (put (rowOf Rows.laid_internal_strconv_uint64pow10))).modify 3 (put (rowOf Rows.laid_math_bits_deBruijn32tab))).modify 4 (put (rowOf Rows.laid_math_bits_deBruijn64tab)) }
end LaidRev
end Go.Proofs.YtlccfflkefmolaaDoor
