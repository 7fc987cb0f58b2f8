/-
  From a row's list of variables and the world's shape to what package text's contracts ask (Text.Laid): the table of bits, and a number in internal/bytealg.MaxLen; and one world that fits the list. Condition: the list (text.bytesOf and utf8's two tables) is met.
-/
import Derived.Test.YtmeilidjomjocaaGreatDoorRows
import Derived.Test.YtmeilidjomjocaaGreatDoorTextAll
import Derived.LaidLaws
import Derived.LaidHandle
import Derived.LaidSub
import Derived.OpenShut
import Derived.Shelf.Vars
namespace Go.Proofs.YtmeilidjomjocaaGreatDoor
open Go.ChangeShapes Go.WideShapes Go.ChangeAt Go.RowKit
namespace LaidText

theorem laid_mem {P : Program} {w : World} : ∀ {l : List (String × DataW Unit)} {ps : List MemPlace} {n : String} {d : DataW Unit}, DataW.LaidVars P w l ps → (n, d) ∈ l →
    ∃ g t cs fuel p, P.globalNamed n = some g ∧ (P.globals[g]?).map (·.type) = some t ∧ w.var? P n = some cs ∧ DataW.trod (fun _ => ()) P w 0 (fun _ => true) false fuel t cs.toList = some (d, p) := by
  intro l
  induction l with
  | nil => intro ps n d _ h; simp at h
  | cons x l ih =>
    intro ps n d h hm
    obtain ⟨m, e⟩ := x
    obtain ⟨g, t, cs, fuel, p, q, h1, h2, h3, h4, h5, _⟩ := h
    rcases List.mem_cons.1 hm with hm | hm
    · injection hm with hm1 hm2
      subst hm1 hm2
      exact ⟨g, t, cs, fuel, p, h1, h2, h3, h4⟩
    · exact ih h5 hm

/-- a table of rows of numbers, cell for cell -/
theorem cells_of_rows {H : Type} {enc : TypeId × Value → H} {P : Program} {w : World} {base : Nat} {sp : Nat → Bool} {held : Bool} {fuel : Nat} {t r e : TypeId} {n m : Nat} {k : IntKind} {cs : List Value} {d : DataW H} {p : List MemPlace}
    (ht : P.underlying t = some (.array n r)) (hr : P.underlying r = some (.array m e)) (he : P.underlying e = some (.int k)) (hce : P.cellsOf e = 1) (hcr : P.cellsOf r = m) (f : Nat → Nat → Int)
    (hd : d = .agg ((List.range n).map fun i => .agg ((List.range m).map fun j => .lit (.int k (f i j)))))
    (h : DataW.trod enc P w base sp held fuel t cs = some (d, p)) (i j : Nat) (hi : i < n) (hj : j < m) : cs[i * m + j]? = some (.int k (f i j)) := by
  obtain ⟨xs, m1, _, hx, _, hl, hall⟩ := DataW.trod_array ht h
  have hi' := hall i hi
  rw [hcr, List.getElem?_eq_getElem (by omega)] at hi'
  obtain ⟨ys, m2, _, hy, _, hl2, hall2⟩ := DataW.trod_array hr hi'
  have hj' := hall2 j hj
  rw [hce, List.getElem?_eq_getElem (by omega)] at hj'
  obtain ⟨z, hz, hz2, _⟩ := DataW.trod_int he hj'
  have h1 : xs[i].1 = .agg ((List.range m).map fun j => .lit (.int k (f i j))) := by
    have h0 := congrArg Prod.fst hx
    rw [hd] at h0
    simp only [DataW.agg.injEq] at h0
    have h2 := congrArg (·[i]?) h0
    simp only [List.getElem?_map, List.getElem?_range hi, List.getElem?_eq_getElem (show i < xs.length by omega), Option.map_some] at h2
    exact (Option.some.inj h2).symm
  have h3 : ys[j].1 = .lit (.int k (f i j)) := by
    have h0 := congrArg Prod.fst hy
    rw [h1] at h0
    simp only [DataW.agg.injEq] at h0
    have h2 := congrArg (·[j]?) h0
    simp only [List.getElem?_map, List.getElem?_range hj, List.getElem?_eq_getElem (show j < ys.length by omega), Option.map_some] at h2
    exact (Option.some.inj h2).symm
  rw [hz2] at h3
  simp only [DataW.lit.injEq, Lit.int.injEq, true_and] at h3
  subst h3
  have h4 := congrArg (·[0]?) hz
  simp only [List.getElem?_cons_zero] at h4
  rw [List.getElem?_take_of_lt (by omega), List.getElem?_drop, List.getElem?_take_of_lt (by omega), List.getElem?_drop] at h4
  simpa using h4

theorem table_datum : (Rows.laid_provost_text_bytesOf : DataW Unit) = .agg ((List.range 5).map fun i => .agg ((List.range 4).map fun j => .lit (.int .u64 (Text.word i j)))) := by kernel_rfl
theorem gTab : Tryz.prog.globalNamed "provost/text.bytesOf" = some 3 := by kernel_rfl
theorem gTabType : (Tryz.prog.globals[3]?).map (·.type) = some 247 := by kernel_rfl
theorem cellsRow : Tryz.prog.cellsOf 246 = 4 := by kernel_rfl
theorem cellsU64 : Tryz.prog.cellsOf 49 = 1 := by kernel_rfl

theorem max_of {W : World} (h : W.ShapedOpen Tryz.prog) : ∃ m, W.cell? ⟨2, 0, none⟩ = some (.int .i64 m) :=
  cell_of_shapedOpen_int (t := 3) (zero := #[.int .i64 0]) h (by decide +kernel) (by kernel_rfl) rfl (by kernel_rfl) (by kernel_rfl) Tryz.underlying3

theorem laid_of {W : World} {l : List (String × DataW Unit)} (h : laidMet Tryz.prog l W) (hsh : W.ShapedOpen Tryz.prog) (hm : ("provost/text.bytesOf", Rows.laid_provost_text_bytesOf) ∈ l) : Text.Laid W := by
  obtain ⟨ps, hv, _⟩ := h
  obtain ⟨g', t', cs, fuel, p, h1, h2, h3, h4⟩ := laid_mem hv hm
  obtain rfl := Option.some.inj (gTab.symm.trans h1)
  obtain rfl := Option.some.inj (gTabType.symm.trans h2)
  refine ⟨max_of hsh, fun k q hk hq => ?_⟩
  have hc := cells_of_rows Tryz.underlying247 Tryz.underlying246 Tryz.underlying49 cellsU64 cellsRow Text.word table_datum h4 k q hk hq
  have hw := World.var?_cell gTab h3 (k * 4 + q)
  rw [hw]
  simpa using hc

/-- the cells of a table, out of its datum -/
def cellOf : DataW Unit → Value
  | .lit (.int k n) => .int k n
  | _ => undef
def rowOf : DataW Unit → List Value
  | .agg l => l.map cellOf
  | _ => []
def tabOf : DataW Unit → Array Value
  | .agg l => (l.flatMap rowOf).toArray
  | _ => #[]
def put (cs : Array Value) : Obj → Obj
  | .cells _ t frozen => .cells cs t frozen
  | o => o

/-- the settled world, the tables as they are laid -/
noncomputable def laidWorld (os : Os) : World :=
  let w0 := World.holding Tryz.prog os ⟨#[], #[], []⟩
  { w0 with heap := ((w0.heap.modify 3 (put (tabOf Rows.laid_provost_text_bytesOf))).modify 7 (put (rowOf Rows.laid_unicode_utf8_first).toArray)).modify 8 (put (tabOf Rows.laid_unicode_utf8_acceptRanges)) }
end LaidText
end Go.Proofs.YtmeilidjomjocaaGreatDoor
