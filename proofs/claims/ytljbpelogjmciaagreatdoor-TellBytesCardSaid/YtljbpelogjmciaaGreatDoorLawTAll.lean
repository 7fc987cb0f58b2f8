/-
 From a row's list of variables and the world's shape to what package tell's contracts ask (Tl.Laid): as LaidSpec, and the names of the kinds of events; and one world that fits the list. Condition: the list is met. And what follows of it, part by part, each with its conditions.
-/
import Derived.Test.YtljbpelogjmciaaGreatDoorLaidTAll
import Derived.Test.YtljbpelogjmciaaGreatDoorTellC
import Derived.Test.YtljbpelogjmciaaGreatDoorLawPods
namespace Go.Proofs.YtljbpelogjmciaaGreatDoor
open Go.ChangeShapes Go.WideShapes Go.ChangeAt Go.RowKit
namespace LaidTell
theorem cells_of_texts {H : Type} {enc : TypeId × Value → H} {P : Program} {w : World} {base : Nat} {sp : Nat → Bool} {held : Bool} {fuel : Nat} {t e : TypeId} {n : Nat} {cs : List Value} {d : DataW H} {p : List MemPlace}
 (ht : P.underlying t = some (.array n e)) (he : P.underlying e = some .string) (hce : P.cellsOf e = 1) (f : Nat → ByteArray)
 (hd : d = .agg ((List.range n).map fun i => .lit (.string (f i).data.toList)))
 (h : DataW.trod enc P w base sp held fuel t cs = some (d, p)) (j : Nat) (hj : j < n) : cs[j]? = some (.string (f j)) := by
 obtain ⟨ys, m2, _, hy, _, hl2, hall2⟩ := DataW.trod_array ht h
 have hj' := hall2 j hj
 rw [hce, List.getElem?_eq_getElem (by omega)] at hj'
 obtain ⟨z, hz, hz2, _⟩ := DataW.trod_string he hj'
 have h3 : ys[j].1 = .lit (.string (f j).data.toList) := by
  have h0 := congrArg Prod.fst hy
  rw [hd] at h0
  simp only [DataW.agg.injEq] at h0
  have h2 := congrArg (·[j]?) h0
  simp only [List.getElem?_map, List.getElem?_range hj, List.getElem?_eq_getElem (show j < ys.length by omega), Option.map_some] at h2
  exact (Option.some.inj h2).symm
 rw [hz2] at h3
 simp only [DataW.lit.injEq, Lit.string.injEq] at h3
 have hs : z = f j := ByteArray.ext (Array.ext' h3)
 subst hs
 have h4 := congrArg (·[0]?) hz
 simp only [List.getElem?_cons_zero] at h4
 rw [List.getElem?_take_of_lt (by omega), List.getElem?_drop] at h4
 simpa using h4
theorem names_datum : (Rows.laid_provost_tell_eventNames : DataW Unit) = .agg ((List.range 6).map fun i => .lit (.string (Tl.evT i).data.toList)) := by kernel_rfl
theorem gNames : Tryz.prog.globalNamed "provost/tell.eventNames" = some 0 := by kernel_rfl
theorem gNamesType : (Tryz.prog.globals[0]?).map (·.type) = some 210 := by kernel_rfl
theorem cellsStr : Tryz.prog.cellsOf 9 = 1 := by kernel_rfl
theorem laid_of {W : World} {l : List (String × DataW Unit)} (h : laidMetH Tryz.prog l W) (hsh : W.ShapedOpen Tryz.prog) (m0 : ("errors.errorType", Rows.laid_errors_errorType) ∈ l) (m1 : ("internal/strconv.uint64pow10", Rows.laid_internal_strconv_uint64pow10) ∈ l)
 (m2 : ("provost/text.bytesOf", Rows.laid_provost_text_bytesOf) ∈ l) (m3 : ("provost/tell.eventNames", Rows.laid_provost_tell_eventNames) ∈ l) : Tl.Laid W := by
 refine ⟨LaidSpec.laid_of h hsh m0 m1 m2, ⟨fun k hk => ?_⟩⟩
 obtain ⟨ps, hv, _⟩ := LaidSpec.parts h m0
 obtain ⟨g', t', cs, fuel, p, h1, h2, h3, h4⟩ := LaidText.laid_mem hv (List.mem_filter.2 ⟨m3, by kernel_rfl⟩)
 obtain rfl := Option.some.inj (gNames.symm.trans h1)
 obtain rfl := Option.some.inj (gNamesType.symm.trans h2)
 have hc := cells_of_texts Tryz.underlying210 Tryz.underlying9 cellsStr Tl.evT names_datum h4 k hk
 have hw := World.var?_cell gNames h3 k
 rw [hw]
 simpa using hc
def textOf : DataW Unit → Value
 | .lit (.string l) => .string ⟨l.toArray⟩
 | _ => undef
def textsOf : DataW Unit → Array Value
 | .agg l => (l.map textOf).toArray
 | _ => #[]
noncomputable def laidWorld (os : Os) : World :=
 let w0 := LaidSpec.laidWorld os
 { w0 with heap := w0.heap.modify 0 (LaidText.put (textsOf Rows.laid_provost_tell_eventNames)) }
end LaidTell
end Go.Proofs.YtljbpelogjmciaaGreatDoor
set_option linter.unusedVariables false
namespace Go.Proofs.YtljbpelogjmciaaGreatDoor
open Go.ChangeShapes Go.WideShapes Go.ChangeAt Go.RowKit Go.ChangeMaps Go.Deep
namespace LaidTell
open Sd Lists LawKit Tl
theorem reply_fields : Tryz.prog.underlying 46 = some (.struct (Tryz.prog.fieldsOf 46)) := by kernel_rfl
theorem reply_at : LawKit.fieldsB Tryz.prog (Tryz.prog.fieldsOf 46) [(0, 1, 34), (1, 1, 3), (2, 1, 3), (3, 1, 39), (4, 1, 9), (5, 1, 43), (6, 1, 44)] = true := by kernel_rfl
theorem event_fields : Tryz.prog.underlying 48 = some (.struct (Tryz.prog.fieldsOf 48)) := by kernel_rfl
theorem event_at : LawKit.fieldsB Tryz.prog (Tryz.prog.fieldsOf 48) [(0, 1, 3), (1, 1, 39), (2, 13, 42)] = true := by kernel_rfl
theorem msg_fields : Tryz.prog.underlying 50 = some (.struct (Tryz.prog.fieldsOf 50)) := by kernel_rfl
theorem msg_at : LawKit.fieldsB Tryz.prog (Tryz.prog.fieldsOf 50) [(0, 1, 3), (1, 1, 3), (2, 7, 46), (9, 15, 48)] = true := by kernel_rfl
theorem res_cells : Tryz.prog.cellsOf 70 = 3 := by kernel_rfl
theorem msg_cells : Tryz.prog.cellsOf 50 = 24 := by kernel_rfl
theorem code_type : Tryz.prog.underlying 34 = some (.int .i64) := by kernel_rfl
theorem uses_type : Tryz.prog.underlying 44 = some (.slice 70) := by kernel_rfl
structure Wide (m : Mg) : Prop where
 num : I64 m.num
 code : I64 m.reply.code
 uid : I64 m.reply.uid
 id : I64 m.reply.id
section
variable {H : Type} {enc : TypeId × Value → H} {W : World}
theorem trod_uses {n : Nat} {v : Value} {y : DataW H × List MemPlace} (h : DataW.trod enc Tryz.prog W 0 (fun _ => true) true n 44 [v] = some y) :
 ∃ A c l, v = .slice A l.length c ∧ Uses W A l ∧ l.length ≤ 9223372036854775807 := by
 rcases open_slice uses_type h with h0 | ⟨a, len, cap, m, n, D, Pl, hcs, _, hl, hm, hmm, _, hi⟩
 · injection h0.1 with e1 _
   exact ⟨none, 0, [], e1, uses_nil _ _, by simp⟩
 · injection hcs with e1 _
   obtain ⟨l, hll, hat⟩ := list_of (Q := fun i (x : Int × Int × Int) => a.block < W.heap.size ∧ CellsAt W (a.add (i * 3)) (useVals x)) len (fun i hil => by
    obtain ⟨cs', hc, ht'⟩ := hi i (by rw [hmm]; simp only [if_true]; omega)
    rw [res_cells] at hc
    obtain ⟨_, hcl, hcell⟩ := World.cells?_some hc
    match cs', hcl with
    | [c0, c1, c2], _ =>
     obtain ⟨a1, a2, a3, e1, e2, e3, _⟩ := trod_res LaidSpec.types ht'
     subst e1 e2 e3
     have hb := World.block_lt_of_cell? W _ (hcell 0 (by omega))
     rw [Lists.add_block, Lists.add_block] at hb
     exact ⟨(a1, a2, a3), hb, cells_of hcell⟩)
   refine ⟨some a, cap, l, by rw [e1, hll], fun k x hk => ?_, by rw [hll]; unfold maxLen at hm; omega⟩
   obtain ⟨hb, hc⟩ := hat k x hk
   exact ⟨a, rfl, hb, hc⟩
set_option maxRecDepth 100000 in
theorem trod_reply {n : Nat} {c0 c1 c2 c3 c4 c5 c6 : Value} {y : DataW H × List MemPlace} (h : DataW.trod enc Tryz.prog W 0 (fun _ => true) true n 46 [c0, c1, c2, c3, c4, c5, c6] = some y) :
 ∃ (r : Rp) (PA : Option Addr) (pc : Nat) (UA : Option Addr) (uc : Nat), [c0, c1, c2, c3, c4, c5, c6] = [.int .i64 r.code, .int .i64 r.uid, .int .i64 r.id, .int .u64 r.rev, .string r.data, .slice PA r.pods.length pc, .slice UA r.use.length uc] ∧ r.In W PA UA ∧ I64 r.code ∧ I64 r.uid ∧ I64 r.id := by
 obtain ⟨_, _, h0⟩ := trod_field reply_fields reply_at h (j := 0) rfl
 obtain ⟨_, _, h1⟩ := trod_field reply_fields reply_at h (j := 1) rfl
 obtain ⟨_, _, h2⟩ := trod_field reply_fields reply_at h (j := 2) rfl
 obtain ⟨_, _, h3⟩ := trod_field reply_fields reply_at h (j := 3) rfl
 obtain ⟨_, _, h4⟩ := trod_field reply_fields reply_at h (j := 4) rfl
 obtain ⟨_, _, h5⟩ := trod_field reply_fields reply_at h (j := 5) rfl
 obtain ⟨_, _, h6⟩ := trod_field reply_fields reply_at h (j := 6) rfl
 obtain ⟨z0, e0, i0⟩ := trod_i64 code_type h0
 obtain ⟨z1, e1, i1⟩ := trod_i64 LaidSpec.types.hi h1
 obtain ⟨z2, e2, i2⟩ := trod_i64 LaidSpec.types.hi h2
 obtain ⟨z3, e3, i3⟩ := trod_u64 u64_type h3
 obtain ⟨s4, e4⟩ := trod_text LaidSpec.types.hs h4
 obtain ⟨PA, pc, ps, e5, hP, nP⟩ := trod_pods h5
 obtain ⟨UA, uc, us, e6, hU, nU⟩ := trod_uses h6
 subst e0 e1 e2 e3 e4 e5 e6
 exact ⟨⟨z0, z1, z2, z3, s4, ps, us⟩, PA, pc, UA, uc, rfl, ⟨hP, hU, nP, nU, i3⟩, i0, i1, i2⟩
set_option maxRecDepth 100000 in
theorem came_msg {base : Nat} {v : Value} {d : DataW H} {p : List MemPlace} (hv : Value.okWide Tryz.prog W .any base 50 v) (h : DataW.Trod enc Tryz.prog W 0 (fun _ => true) true 50 v d p) :
 ∃ (m : Mg) (PA : Option Addr) (pc : Nat) (UA : Option Addr) (uc : Nat) (LA : Option Addr) (lc : Nat) (IA : Option Addr) (ic : Nat) (MA : Option Addr) (mc : Nat) (RA : Option Addr) (rc : Nat), v = .agg #[.int .i64 m.kind, .int .i64 m.num, .int .i64 m.reply.code, .int .i64 m.reply.uid, .int .i64 m.reply.id, .int .u64 m.reply.rev, .string m.reply.data, .slice PA m.reply.pods.length pc, .slice UA m.reply.use.length uc, .int .i64 m.event.kind, .int .u64 m.event.rev, .int .i64 m.event.pod.uid, .int .u64 m.event.pod.rev, .string m.event.pod.spec.name, .slice LA m.event.pod.spec.labels.length lc, .slice IA m.event.pod.spec.init.length ic, .slice MA m.event.pod.spec.main.length mc, .int .i64 m.event.pod.spec.restart, .int .i64 m.event.pod.spec.grace, .int .i64 m.event.pod.spec.prio, .int .i64 m.event.pod.phase, .slice RA m.event.pod.rs.length rc, .int .i64 m.event.pod.mark, .int .i64 m.event.pod.grace] ∧ m.In W PA UA LA lc IA ic MA mc RA ∧ Wide m := by
 have ht := msg_fields
 obtain ⟨cs, rfl, hsz⟩ : ∃ cs, v = .agg cs ∧ cs.size = Tryz.prog.cellsOf 50 := by
  simp only [Value.okWide, ht] at hv
  obtain ⟨cs, h1, h2, _⟩ := hv
  exact ⟨cs, h1, h2⟩
 obtain ⟨l⟩ := cs
 match l, hsz.trans msg_cells with
 | [c0, c1, c2, c3, c4, c5, c6, c7, c8, c9, c10, c11, c12, c13, c14, c15, c16, c17, c18, c19, c20, c21, c22, c23], _ =>
  obtain ⟨fuel, h⟩ := h
  have e : (Value.agg #[c0, c1, c2, c3, c4, c5, c6, c7, c8, c9, c10, c11, c12, c13, c14, c15, c16, c17, c18, c19, c20, c21, c22, c23]).cells.toList = [c0, c1, c2, c3, c4, c5, c6, c7, c8, c9, c10, c11, c12, c13, c14, c15, c16, c17, c18, c19, c20, c21, c22, c23] := rfl
  rw [e] at h
  obtain ⟨_, _, h0⟩ := trod_field msg_fields msg_at h (j := 0) rfl
  obtain ⟨_, _, h1⟩ := trod_field msg_fields msg_at h (j := 1) rfl
  obtain ⟨_, _, h2⟩ := trod_field msg_fields msg_at h (j := 2) rfl
  obtain ⟨_, _, h3⟩ := trod_field msg_fields msg_at h (j := 3) rfl
  obtain ⟨z0, e0, i0⟩ := trod_i64 LaidSpec.types.hi h0
  obtain ⟨z1, e1, i1⟩ := trod_i64 LaidSpec.types.hi h1
  obtain ⟨r, PA, pc, UA, uc, e2, hR, j0, j1, j2⟩ := trod_reply h2
  obtain ⟨_, _, g0⟩ := trod_field event_fields event_at h3 (j := 0) rfl
  obtain ⟨_, _, g1⟩ := trod_field event_fields event_at h3 (j := 1) rfl
  obtain ⟨_, _, g2⟩ := trod_field event_fields event_at h3 (j := 2) rfl
  obtain ⟨z4, e4, i4⟩ := trod_i64 LaidSpec.types.hi g0
  obtain ⟨z5, e5, i5⟩ := trod_u64 u64_type g1
  obtain ⟨x, LA, lc, IA, ic, MA, mc, RA, rc, e6, hx⟩ := trod_pod g2
  refine ⟨⟨z0, z1, r, ⟨z4, z5, x⟩⟩, PA, pc, UA, uc, LA, lc, IA, ic, MA, mc, RA, rc, ?_, ⟨hR, hx, i5⟩, ⟨i1, j0, j1, j2⟩⟩
  have hall : [c0, c1, c2, c3, c4, c5, c6, c7, c8, c9, c10, c11, c12, c13, c14, c15, c16, c17, c18, c19, c20, c21, c22, c23] = [c0, c1] ++ [c2, c3, c4, c5, c6, c7, c8] ++ [c9, c10] ++ [c11, c12, c13, c14, c15, c16, c17, c18, c19, c20, c21, c22, c23] := rfl
  have e6' : [c11, c12, c13, c14, c15, c16, c17, c18, c19, c20, c21, c22, c23] = x.vals LA lc IA ic MA mc RA rc := e6
  have e2' : [c2, c3, c4, c5, c6, c7, c8] = [.int .i64 r.code, .int .i64 r.uid, .int .i64 r.id, .int .u64 r.rev, .string r.data, .slice PA r.pods.length pc, .slice UA r.use.length uc] := e2
  have e4' : c9 = .int .i64 z4 := e4
  have e5' : c10 = .int .u64 z5 := e5
  show Value.agg (List.toArray [c0, c1, c2, c3, c4, c5, c6, c7, c8, c9, c10, c11, c12, c13, c14, c15, c16, c17, c18, c19, c20, c21, c22, c23]) = _
  rw [hall, e2', e6', e0, e1, e4', e5']
  rfl
end
end LaidTell
end Go.Proofs.YtljbpelogjmciaaGreatDoor
