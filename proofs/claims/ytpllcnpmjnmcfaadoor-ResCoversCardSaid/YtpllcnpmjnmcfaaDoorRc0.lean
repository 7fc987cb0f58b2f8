/-
  The end of a law's row: a call that leaves all memory that was there as it was, whatever it makes besides, meets the row. (Laid after the guide's lemma for copying.)
-/
import Derived.Test.YtpllcnpmjnmcfaaDoorChecked
import Derived.Test.YtpllcnpmjnmcfaaDoorRows
import Derived.Below
import Derived.Deep.Draws
import Derived.ChangeSame
import Derived.WalkKit
import Derived.ProofKit
import Derived.Carry
import Derived.OpenShut
import Derived.LaidEql
import Derived.Stop.Asserts
import Derived.RowKitTokens
import Derived.Lib.Hide
import Derived.Defers
import Derived.Recover
import Derived.LaidLaws
import Derived.LaidHandle
import Derived.Lib.SplitLaws
import Derived.Lib.CutLaws
namespace Go.Proofs.YtpllcnpmjnmcfaaDoor
open Go.RowKit Go.WideShapes Go.ChangeShapes
namespace Kit
section
variable {H : Type} {enc : TypeId × Value → H} {P : Program}
theorem post_of_below {f : Func} {s : ChangeSpec} {apart fresh handsOn again : Bool} {W W' : World} {args : Array Value} {v : Value} {ds gs : List (DataW H)} {before pa pv : List MemPlace}
    (hW : DataW.Whole enc P f.params.toList s.vars apart W args.toList ds gs before)
    (hres : ∀ (b : Nat) (sp : Nat → Bool) (hd : Bool), DataW.TrodAll enc P W' b sp hd f.resultTypes.toList (v.resultList f.resultTypes.size) (s.fn H (ds ++ gs)).results [])
    (hargs : ∀ sp : Nat → Bool, (∀ p ∈ before, sp p.block = true) → DataW.TrodAll enc P W' 0 sp true f.params.toList args.toList (s.fn H (ds ++ gs)).args pa)
    (hvars : ∀ sp : Nat → Bool, (∀ p ∈ before, sp p.block = true) → DataW.TrodVars enc P W' sp s.vars (s.fn H (ds ++ gs)).vars pv)
    (hps : before = pa ++ pv) (hb : Below W.heap.size W W')
    (hok : ∀ (j : Nat) (t : TypeId) (r : Value), f.resultTypes[j]? = some t → (v.resultList f.resultTypes.size)[j]? = some r → Value.okWide P W' .any 0 t r) :
    s.post enc P f apart fresh handsOn again W args v W' := by
  have hlt : ∀ p ∈ before, p.block < W.heap.size := fun p hp => hW.lt p hp
  have hold : ∀ p ∈ before, (fun b => decide (b < W.heap.size)) p.block = true := fun p hp => by simpa using hlt p hp
  refine ⟨ds, gs, before, [], pa, pv, hW, hres _ _ _, hargs _ hold, hvars _ hold, World.keptBut_mono (fun p hp => ⟨hp, ?_⟩) (hb.frame (· ∈ before)), fun _ => ?_⟩
  · rw [hps, List.mem_append] at hp
    exact Or.inr hp
  · obtain ⟨_, _, _, _, _, hz, hn⟩ := hW
    refine ⟨hok, _, _, ([] ++ pa) ++ pv, ⟨[] ++ pa, pv, trodAll_append (hargs _ (fun _ _ => rfl)) (hres _ _ _), hvars _ (fun _ _ => rfl), rfl, ?_, ?_⟩, ?_⟩
    · intro b off hp
      have hin : MemPlace.cell b off ∈ before := by rw [hps]; simpa using hp
      rw [hb.frozen (hlt _ hin)]
      exact hz b off hin
    · intro ha
      have := hn ha
      rw [hps] at this
      simpa using this
    · intro p hp _
      rw [hps]
      simpa using hp
end

theorem below_drewN (B : Nat) (w : World) (n : Nat) : Below B w (w.drewN n) := ⟨rfl, rfl, rfl, Nat.le_refl _, fun _ _ => rfl⟩
/-- what a call leaves of the cells and marks that were there -/
theorem bcell {W w1 : World} (hb : Below W.heap.size W w1) : (∀ b o, b < W.heap.size → w1.cell? ⟨b, o, none⟩ = W.cell? ⟨b, o, none⟩) ∧ (∀ b o, b < W.heap.size → w1.frozen? ⟨b, o, none⟩ = W.frozen? ⟨b, o, none⟩) :=
  ⟨fun b o h => hb.cell (p := ⟨b, o, none⟩) h, fun b o h => hb.frozen (p := ⟨b, o, none⟩) h⟩
end Kit
end Go.Proofs.YtpllcnpmjnmcfaaDoor

/-
  The frame of a law's row, whatever its parameters: a call that answers true and leaves all memory that was there as it was meets the row; and what comes in as an array of numbers. Conditions: the types can be read.
-/
namespace Go.Proofs.YtpllcnpmjnmcfaaDoor
open Go.ChangeShapes Go.WideShapes Go.ChangeAt Go.RowKit Go.ChangeMaps
namespace LawKit

/-- each parameter's type can be read -/
def readable (P : Program) (ts : List TypeId) : Bool := ts.all fun t => P.readableRec t && decide (t < P.types.size)
section
variable {H : Type} {enc : TypeId × Value → H} {P : Program}

theorem trodAll_stays (laidOut : laidOutB P = true) {W W' : World} (hb : Below W.heap.size W W') {sp : Nat → Bool} : ∀ {ts : List TypeId} {vs : List Value} {ds : List (DataW H)} {ps : List MemPlace}, readable P ts = true →
    DataW.TrodAll enc P W 0 (fun _ => true) true ts vs ds ps → (∀ p ∈ ps, p.block < W.heap.size) → (∀ p ∈ ps, sp p.block = true) → DataW.TrodAll enc P W' 0 sp true ts vs ds ps
  | [], [], [], _, _, h, _, _ => h
  | [], [], _ :: _, _, _, h, _, _ => h.elim
  | [], _ :: _, _, _, _, h, _, _ => h.elim
  | _ :: _, [], _, _, _, h, _, _ => h.elim
  | _ :: _, _ :: _, [], _, _, h, _, _ => h.elim
  | t :: ts, v :: vs, d :: ds, ps, hr, h, hlt, hsp => by
    obtain ⟨p, q, hd, hs, rfl⟩ := h
    simp only [readable, List.all_cons, Bool.and_eq_true, decide_eq_true_eq] at hr
    exact ⟨p, q, WideElems.Trod_stays laidOut hr.1.1 hr.1.2 hd (fun x hx => hb.same (hlt x (by simp [hx]))) (fun x hx => hsp x (by simp [hx])),
      trodAll_stays laidOut hb (by simpa [readable] using hr.2) hs (fun x hx => hlt x (by simp [hx])) (fun x hx => hsp x (by simp [hx])), rfl⟩
/-- THE END OF A LAW: it answered true, and left all that was there as it was -/
theorem law_post {tb : TypeId} {f : Func} {s : ChangeSpec} (laidOut : laidOutB P = true) (htb : P.underlying tb = some .bool) {W W' : World} {args : Array Value} {ds gs : List (DataW H)} {before : List MemPlace} (hr : readable P f.params.toList = true) (hres : f.resultTypes = #[tb]) (hv : s.vars = [])
    (hW : DataW.Whole enc P f.params.toList s.vars false W args.toList ds gs before) (hfn : s.fn H (ds ++ gs) = { results := [.lit (.bool true)], args := ds }) (hb : Below W.heap.size W W') :
    s.post enc P f false true false false W args (.bool true) W' := by
  have hW' := hW
  obtain ⟨p, q, hA, hV, rfl, hfz, hnd⟩ := hW
  rw [hv] at hV
  obtain ⟨rfl, rfl⟩ := trodVars_none hV
  refine Kit.post_of_below (pa := p) (pv := []) hW' (fun b sp hd => ?_) (fun sp hsp => ?_) (fun sp _ => ?_) rfl hb ?_
  · rw [hfn, hres]
    exact trodAll_cons_mk (shut_bool htb _) trodAll_mk0
  · rw [hfn]
    exact trodAll_stays laidOut hb hr hA (fun x hx => hW'.lt x (by simp [hx])) (fun x hx => hsp x (by simp [hx]))
  · rw [hfn, hv]; rfl
  · exact ok_one hres rfl (okWide_bool_mk htb _)
/-- an array of two numbers that came in -/
theorem open_two {t ti : TypeId} (hi : P.underlying ti = some (.int .i64)) (hci : P.cellsOf ti = 1) {W : World} {base : Nat} {v : Value} {d : DataW H} {p : List MemPlace} (ht : P.underlying t = some (.array 2 ti)) (hc : P.cellsOf t = 2) (hv : Value.okWide P W .any base t v)
    (h : DataW.Trod enc P W 0 (fun _ => true) true t v d p) :
    ∃ a b : Int, v = .agg #[.int .i64 a, .int .i64 b] ∧ d = .agg [.lit (.int .i64 a), .lit (.int .i64 b)] ∧ (Lit.int .i64 a).wf = true ∧ (Lit.int .i64 b).wf = true := by
  obtain ⟨cs, rfl, hs⟩ : ∃ cs, v = .agg cs ∧ cs.size = P.cellsOf t := by
    simp only [Value.okWide, ht] at hv
    obtain ⟨cs, h1, h2, _⟩ := hv
    exact ⟨cs, h1, h2⟩
  rw [hc] at hs
  obtain ⟨fuel, hf⟩ := h
  obtain ⟨xs, m, _, hx, _, hl, he⟩ := DataW.trod_array ht hf
  rw [hci] at he
  obtain ⟨l, rfl⟩ : ∃ l : List Value, cs = l.toArray := ⟨cs.toList, by simp⟩
  rcases l with _ | ⟨c0, _ | ⟨c1, _ | ⟨c2, l⟩⟩⟩ <;> simp at hs
  rcases xs with _ | ⟨x0, _ | ⟨x1, _ | ⟨x2, xs⟩⟩⟩ <;> simp at hl
  have h0 := he 0 (by omega)
  have h1 := he 1 (by omega)
  simp [Value.cells] at h0 h1
  obtain ⟨a, e0, y0, w0⟩ := DataW.trod_int hi h0
  obtain ⟨b, e1, y1, w1⟩ := DataW.trod_int hi h1
  simp at e0 e1
  subst e0 e1 y0 y1
  injection hx with hx1 hx2
  exact ⟨a, b, rfl, hx1, w0, w1⟩
/-- an array of four numbers that came in -/
theorem open_four {t ti : TypeId} (hi : P.underlying ti = some (.int .i64)) (hci : P.cellsOf ti = 1) {W : World} {base : Nat} {v : Value} {d : DataW H} {p : List MemPlace} (ht : P.underlying t = some (.array 4 ti)) (hc : P.cellsOf t = 4) (hv : Value.okWide P W .any base t v)
    (h : DataW.Trod enc P W 0 (fun _ => true) true t v d p) :
    ∃ a b c e : Int, v = .agg #[.int .i64 a, .int .i64 b, .int .i64 c, .int .i64 e] ∧ (Lit.int .i64 a).wf = true ∧ (Lit.int .i64 b).wf = true ∧ (Lit.int .i64 c).wf = true ∧ (Lit.int .i64 e).wf = true := by
  obtain ⟨cs, rfl, hs⟩ : ∃ cs, v = .agg cs ∧ cs.size = P.cellsOf t := by
    simp only [Value.okWide, ht] at hv
    obtain ⟨cs, h1, h2, _⟩ := hv
    exact ⟨cs, h1, h2⟩
  rw [hc] at hs
  obtain ⟨fuel, hf⟩ := h
  obtain ⟨xs, m, _, hx, _, hl, he⟩ := DataW.trod_array ht hf
  rw [hci] at he
  obtain ⟨l, rfl⟩ : ∃ l : List Value, cs = l.toArray := ⟨cs.toList, by simp⟩
  rcases l with _ | ⟨c0, _ | ⟨c1, _ | ⟨c2, _ | ⟨c3, _ | ⟨c4, l⟩⟩⟩⟩⟩ <;> simp at hs
  rcases xs with _ | ⟨x0, _ | ⟨x1, _ | ⟨x2, _ | ⟨x3, _ | ⟨x4, xs⟩⟩⟩⟩⟩ <;> simp at hl
  have h0 := he 0 (by omega)
  have h1 := he 1 (by omega)
  have h2 := he 2 (by omega)
  have h3 := he 3 (by omega)
  simp [Value.cells] at h0 h1 h2 h3
  obtain ⟨a, e0, _, w0⟩ := DataW.trod_int hi h0
  obtain ⟨b, e1, _, w1⟩ := DataW.trod_int hi h1
  obtain ⟨c, e2, _, w2⟩ := DataW.trod_int hi h2
  obtain ⟨e, e3, _, w3⟩ := DataW.trod_int hi h3
  simp at e0 e1 e2 e3
  subst e0 e1 e2 e3
  exact ⟨a, b, c, e, rfl, w0, w1, w2, w3⟩
end
end LawKit
end Go.Proofs.YtpllcnpmjnmcfaaDoor

/-
  What an error of package fail is in memory (a code innermost, steps around it), what a list of texts is, and that both stay as they are while the memory that was there does. Plain facts; no condition.
-/
namespace Go.Proofs.YtpllcnpmjnmcfaaDoor
open Go.RowKit
namespace Err

/-- the value E is, in the world w, the error of the code c with the path p -/
inductive Is (w : World) : Value → Int → List ByteArray → Prop
  | code (c : Int) : Is w (.iface 73 (.int .i64 c)) c []
  | step (b o : Nat) (E : Value) (s : ByteArray) (c : Int) (p : List ByteArray) : w.cell? ⟨b, o, none⟩ = some (.string s) → w.cell? ⟨b, o + 1, none⟩ = some E → Is w E c p →
      Is w (.iface 100 (.pointer (some ⟨b, o, none⟩))) c (s :: p)
theorem lt_of_cell {w : World} {a : Addr} {v : Value} (h : w.cell? a = some v) : a.block < w.heap.size := by
  rcases Nat.lt_or_ge a.block w.heap.size with hl | hl
  · exact hl
  · simp [World.cell?, Array.getElem?_eq_none hl] at h
theorem Is.keep {w w' : World} {E : Value} {c : Int} {p : List ByteArray} (h : Is w E c p) (hb : Below w.heap.size w w') : Is w' E c p := by
  induction h with
  | code c => exact .code c
  | step b o E s c p h0 h1 _ ih => exact .step b o E s c p ((hb.cell (lt_of_cell h0)).trans h0) ((hb.cell (lt_of_cell h1)).trans h1) ih
theorem Is.iface {w : World} {E : Value} {c : Int} {p : List ByteArray} (h : Is w E c p) : ∃ u x, E = .iface u x := by
  cases h <;> exact ⟨_, _, rfl⟩
theorem Is.unique {w : World} {E : Value} {c c' : Int} {p p' : List ByteArray} (h : Is w E c p) (h' : Is w E c' p') : c = c' ∧ p = p' := by
  induction h generalizing c' p' with
  | code c => cases h'; exact ⟨rfl, rfl⟩
  | step b o E s c p h0 h1 _ ih =>
    cases h' with
    | step _ _ E' s' _ q h0' h1' h2' =>
      rw [h0] at h0'; rw [h1] at h1'
      cases h0'; cases h1'
      obtain ⟨rfl, rfl⟩ := ih h2'
      exact ⟨rfl, rfl⟩
open Classical in
/-- how many steps an error has -/
noncomputable def deep (w : World) (E : Value) : Nat := if h : ∃ cp : Int × List ByteArray, Is w E cp.1 cp.2 then h.choose.2.length else 0
theorem deep_eq {w : World} {E : Value} {c : Int} {p : List ByteArray} (h : Is w E c p) : deep w E = p.length := by
  unfold deep
  rw [dif_pos ⟨(c, p), h⟩]
  rw [(Is.unique (Exists.choose_spec (p := fun cp : Int × List ByteArray => Is w E cp.1 cp.2) ⟨(c, p), h⟩) h).2]
/-- the slice at A holds the texts xs -/
def Texts (w : World) (A : Option Addr) (xs : List ByteArray) : Prop := ∀ k x, xs[k]? = some x → ∃ a, A = some a ∧ w.cell? (a.add k) = some (.string x)
theorem add_block (a : Addr) (n : Nat) : (a.add n).block = a.block := by unfold Addr.add; split <;> rfl
theorem Texts.below {w w' : World} {A : Option Addr} {xs : List ByteArray} (h : Texts w A xs) (hb : Below w.heap.size w w') : Texts w' A xs := by
  intro k x hx
  obtain ⟨a, ha, hc⟩ := h k x hx
  exact ⟨a, ha, (hb.cell (lt_of_cell hc)).trans hc⟩
/-- a call ends with an error of the code c and the path p in new memory -/
def Made (c : Int) (p : List ByteArray) (w : World) (e : Ending) (w' : World) : Prop := ∃ E, e = .returned E ∧ Is w' E c p ∧ Below w.heap.size w w'
end Err
end Go.Proofs.YtpllcnpmjnmcfaaDoor

/-
  Closed facts on the model's entries for internal/reflectlite and on method sets, at the types of package fail: what errors.Is, errors.As and errors.Unwrap find at a code and at a step. No condition but the cell that an entry reads or writes.
-/
namespace Go.Proofs.YtpllcnpmjnmcfaaDoor
open Go.RowKit Go.Extern.Stop Go.Stop Go.Extern
namespace Err

/-! what reflectlite tells of the target's type (errors.Is) -/
theorem infoC : (Tryd.prog.info? 73).map (·.comparable) = some true := by kernel_rfl
/-! what the assertions find -/
theorem isStepC (v : Value) (xT : TypeId) (w : World) : (Instr.typeAssert (.iface 73 v) xT 100 true).run Tryd.prog w = .ok (.tuple #[.pointer none, .bool false]) w := by kernel_rfl
theorem isStepS (v : Value) (xT : TypeId) (w : World) : (Instr.typeAssert (.iface 100 v) xT 100 true).run Tryd.prog w = .ok (.tuple #[v, .bool true]) w := by kernel_rfl
/-! '==' of two codes -/
theorem equalIn_codes (d : Nat) (a b : Int) (w : World) : (Op.equalIn (d + 2) 43 (.iface 73 (.int .i64 a)) (.iface 73 (.int .i64 b))).run Tryd.prog w = .ok (a == b) w := by
  obtain ⟨i, hi, hcmp⟩ := Option.map_eq_some_iff.1 infoC
  simp [Op.equalIn, run_underlying Tryd.underlying43, run_underlying Tryd.underlying73, typeInfo, hi, hcmp]
theorem eql_codes (a b : Int) (w : World) : (binOp .eql 43 (.iface 73 (.int .i64 a)) (.iface 73 (.int .i64 b))).run Tryd.prog w = .ok (.bool (a == b)) w := by
  simp only [binOp]
  simp [Op.equal, Op.maxDepth, equalIn_codes 9998 a b w]
/-! what reflectlite does for errors.As -/
theorem kindC (w : World) : ((ReflectliteType.abiMethod fun t => (fun a : Nat => Value.int IntKind.u8 (a : Int)) <$> Rtype.kind t) #[.pointer (some ⟨7, 73, none⟩)]).run Tryd.prog w = .ok (.int .u8 2) w := by kernel_rfl
theorem valueOfC (n : Int) (w : World) : (ReflectliteValue.unpack (.iface 73 (.int .i64 n))).run Tryd.prog w
    = .ok (.agg #[.pointer (some ⟨7, 73, none⟩), .pointer (some ⟨w.heap.size, 0, none⟩), .int .u64 130]) (w.alloc (.cells #[.int .i64 n] 73)) := by kernel_rfl
theorem mkC (p : Addr) (w : World) : (ReflectliteValue.mk 73 p ReflectliteValue.flagAddr).run Tryd.prog w = .ok (.agg #[.pointer (some ⟨7, 73, none⟩), .pointer (some p), .int .u64 386]) w := by kernel_rfl
theorem partsCa (a : Addr) (w : World) : (ReflectliteValue.parts (.agg #[.pointer (some ⟨7, 73, none⟩), .pointer (some a), .int .u64 386])).run Tryd.prog w = .ok (some (73, a, 386)) w := by kernel_rfl
theorem partsC (a : Addr) (w : World) : (ReflectliteValue.parts (.agg #[.pointer (some ⟨7, 73, none⟩), .pointer (some a), .int .u64 130])).run Tryd.prog w = .ok (some (73, a, 130)) w := by kernel_rfl
theorem directC (w : World) : (Rtype.directlyAssignable 73 73).run Tryd.prog w = .ok true w := by kernel_rfl
theorem setC (ta b : Addr) (n : Int) (old : Value) (W : World) (hb : W.cell? b = some (.int .i64 n)) (ht : W.cell? ta = some old) (hf : W.frozen? ta = false) :
    (ReflectliteValue.set #[.agg #[.pointer (some ⟨7, 73, none⟩), .pointer (some ta), .int .u64 386], .agg #[.pointer (some ⟨7, 73, none⟩), .pointer (some b), .int .u64 130]]).run Tryd.prog W
      = .ok (.tuple #[]) (W.setCell ta (.int .i64 n)) := by
  change Sem.run Tryd.prog (Bind.bind (ReflectliteValue.parts (.agg #[.pointer (some ⟨7, 73, none⟩), .pointer (some ta), .int .u64 386])) fun p => Bind.bind (ReflectliteValue.parts (.agg #[.pointer (some ⟨7, 73, none⟩), .pointer (some b), .int .u64 130])) _) W = _
  simp only [Sem.run_bind, partsCa, partsC, Result.andThen]
  simp [ReflectliteValue.flagAddr, loadVar, isAgg, underlying, Tryd.underlying73, hb, Result.andThen, directC, storeVar, Value.cells, storeCells, Addr.add]
  rw [run_store Tryd.prog W ta _ _ (by rfl)]
  simp [ht, hf]
end Err
end Go.Proofs.YtpllcnpmjnmcfaaDoor

/-
  The contracts of errors.Unwrap and of what package fail builds on it (fail.unwrapped): the error within a step; nil of a code. All that was there is left as it was. Conditions: the value is an error of package fail.
-/
namespace Go.Proofs.YtpllcnpmjnmcfaaDoor
open Go.RowKit Go.Extern.Stop Go.Stop Go.Extern
namespace Err

end Err
end Go.Proofs.YtpllcnpmjnmcfaaDoor

/-
  The contracts of errors.As at a target of type *api.Code, of fail.codeWithin and of fail.Code: the code of an error of package fail; OK of nil. All that was there is left as it was. Conditions: the value is an error of package fail; errors.errorType holds the type error (Laid).
-/
namespace Go.Proofs.YtpllcnpmjnmcfaaDoor
open Go.RowKit Go.Extern.Stop Go.Stop Go.Extern
namespace Err

end Err
end Go.Proofs.YtpllcnpmjnmcfaaDoor

/-
  From a row's list of variables to what errors.As asks (errors.errorType holds the type error), and one world that fits the list. Condition: the list, which is errors.errorType alone, is met.
-/
namespace Go.Proofs.YtpllcnpmjnmcfaaDoor
open Go.ChangeShapes Go.WideShapes Go.ChangeAt Go.RowKit
namespace LaidErr

theorem oneRow : ((List.range 163).filter fun t => Tryd.prog.rowNamed t [101, 114, 114, 111, 114]) = [43] := by kernel_rfl
theorem nTypes : Tryd.prog.types.size = 163 := by kernel_rfl
theorem handle : typeHandle Tryd.prog 43 = .pointer (some ⟨7, 43, none⟩) := by kernel_rfl
end LaidErr
end Go.Proofs.YtpllcnpmjnmcfaaDoor

/-
  What names, keys, values and images are, as plain functions of lists of bytes; that what stands between the bytes c is what strings.Cut and strings.Split tell. No condition.
-/
namespace Go.Proofs.YtpllcnpmjnmcfaaDoor
open Go.Lib
namespace TextPure

def small (n : Nat) : Bool := (decide (97 ≤ n) && decide (n ≤ 122)) || (decide (48 ≤ n) && decide (n ≤ 57))
def nameB (n : Nat) : Bool := small n || n == 45
def tagB (n : Nat) : Bool := nameB n || n == 46
def valB (n : Nat) : Bool := tagB n || (decide (65 ≤ n) && decide (n ≤ 90)) || n == 95
theorem nameB_tag {n : Nat} (h : nameB n = true) : tagB n = true := by simp [tagB, h]
theorem nameB_val {n : Nat} (h : nameB n = true) : valB n = true := by simp [valB, nameB_tag h]
theorem small_name {n : Nat} (h : small n = true) : nameB n = true := by simp [nameB, h]
theorem small_iff {n : Nat} (h : nameB n = true) : small n = !(n == 45) := by
  unfold nameB at h
  by_cases e : n = 45
  · subst e; decide
  · have : (n == 45) = false := by simpa using e
    rw [this] at h ⊢
    simpa using h
/-- the n-th byte as a number -/
def at' (l : List UInt8) (k : Nat) : Nat := (l.getD k 0).toNat
def nameL (l : List UInt8) : Bool := decide (1 ≤ l.length) && decide (l.length ≤ 16) && small (at' l 0) && small (at' l (l.length - 1)) && l.all fun b => nameB b.toNat
def valL (l : List UInt8) : Bool := decide (l.length ≤ 16) && l.all fun b => valB b.toNat
def tagL (l : List UInt8) : Bool := decide (1 ≤ l.length) && decide (l.length ≤ 8) && l.all fun b => tagB b.toNat
/-- what stands between the bytes c -/
def pieces (c : UInt8) : List UInt8 → List (List UInt8)
  | [] => [[]]
  | b :: l => if b = c then [] :: pieces c l else match pieces c l with
    | [] => [[b]]
    | p :: ps => (b :: p) :: ps
def repoL (l : List UInt8) : Bool := decide (l.length ≤ 24) && (pieces 47 l).all nameL
def keyL (l : List UInt8) : Bool := (cut l [47]).1 |> nameL |> (· && (!(cut l [47]).2.2 || nameL (cut l [47]).2.1))
def imageL (l : List UInt8) : Bool := (cut l [58]).2.2 && repoL (cut l [58]).1 && tagL (cut l [58]).2.1
theorem pieces_ne (c : UInt8) (l : List UInt8) : pieces c l ≠ [] := by
  cases l with
  | nil => simp [pieces]
  | cons b l =>
    unfold pieces
    split
    · simp
    · split <;> simp
/-- one byte more at the end -/
theorem pieces_snoc (c b : UInt8) : ∀ l : List UInt8, pieces c (l ++ [b]) = if b = c then pieces c l ++ [[]] else (pieces c l).dropLast ++ [((pieces c l).getLast?.getD []) ++ [b]]
  | [] => by
    by_cases h : b = c
    · simp [pieces, h]
    · simp [pieces, h]
  | x :: l => by
    have ih := pieces_snoc c b l
    show pieces c (x :: (l ++ [b])) = _
    by_cases hx : x = c
    · rw [pieces, if_pos hx, ih]
      rw [show pieces c (x :: l) = [] :: pieces c l by rw [pieces, if_pos hx]]
      split
      · rfl
      · rw [List.dropLast_cons_of_ne_nil (pieces_ne c l), List.getLast?_cons]
        rw [List.getLast?_eq_some_getLast (pieces_ne c l)]
        simp
    · rw [pieces, if_neg hx, ih]
      obtain ⟨p, ps, hp⟩ : ∃ p ps, pieces c l = p :: ps := by
        cases h : pieces c l with
        | nil => exact absurd h (pieces_ne c l)
        | cons p ps => exact ⟨p, ps, rfl⟩
      rw [show pieces c (x :: l) = (x :: p) :: ps by rw [pieces, if_neg hx, hp], hp]
      by_cases hb : b = c
      · simp [hb]
      · rw [if_neg hb, if_neg hb]
        cases ps with
        | nil => simp
        | cons q qs => simp [List.getLast?_cons]
theorem index_cons_eq (c : UInt8) (l : List UInt8) : index (c :: l) [c] = 0 := by rw [index]; simp [List.isPrefixOf]
theorem index_cons_ne {b c : UInt8} (l : List UInt8) (h : b ≠ c) : index (b :: l) [c] = if index l [c] == -1 then -1 else index l [c] + 1 := by
  have hp : ([c] : List UInt8).isPrefixOf (b :: l) = false := by simp [List.isPrefixOf, Ne.symm h]
  rw [index, hp]; simp
/-- strings.Cut and the pieces -/
theorem cut_cons_eq (c : UInt8) (l : List UInt8) : cut (c :: l) [c] = ([], l, true) := by unfold cut; rw [index_cons_eq]; simp
theorem cut_cons_ne {b c : UInt8} (l : List UInt8) (h : b ≠ c) : cut (b :: l) [c] = (b :: (cut l [c]).1, (cut l [c]).2.1, (cut l [c]).2.2) := by
  have hge := index_ge l [c]
  unfold cut
  rw [index_cons_ne l h]
  by_cases hm : index l [c] = -1
  · simp [hm]
  · have h0 : 0 ≤ index l [c] := by omega
    have h1 : 0 ≤ index l [c] + 1 := by omega
    have e1 : (index l [c] + 1).toNat = (index l [c]).toNat + 1 := by omega
    have hb : (index l [c] == -1) = false := by simpa using hm
    rw [hb]
    simp only [Bool.false_eq_true, if_false]
    rw [if_pos h1, if_pos h0, e1]
    simp
theorem cut_nil (c : UInt8) : cut [] [c] = ([], [], false) := by simp [cut, index]
theorem cut_pieces (c : UInt8) : ∀ l : List UInt8, pieces c l = if (cut l [c]).2.2 then (cut l [c]).1 :: pieces c (cut l [c]).2.1 else [(cut l [c]).1]
  | [] => by simp [cut_nil, pieces]
  | b :: l => by
    by_cases h : b = c
    · subst h; rw [cut_cons_eq]; simp [pieces]
    · rw [cut_cons_ne l h, pieces, if_neg h, cut_pieces c l]
      cases (cut l [c]).2.2 <;> simp
theorem cut_miss (c : UInt8) : ∀ l : List UInt8, (∀ b ∈ l, b ≠ c) → cut l [c] = (l, [], false)
  | [], _ => cut_nil c
  | b :: l, h => by
    rw [cut_cons_ne l (h b (by simp)), cut_miss c l (fun x hx => h x (by simp [hx]))]
theorem cut_hit (c : UInt8) (r : List UInt8) : ∀ l : List UInt8, (∀ b ∈ l, b ≠ c) → cut (l ++ c :: r) [c] = (l, r, true)
  | [], _ => cut_cons_eq c r
  | b :: l, h => by
    show cut (b :: (l ++ c :: r)) [c] = _
    rw [cut_cons_ne _ (h b (by simp)), cut_hit c r l (fun x hx => h x (by simp [hx]))]
theorem cut_join (c : UInt8) : ∀ l : List UInt8, (cut l [c]).2.2 = true → l = (cut l [c]).1 ++ c :: (cut l [c]).2.1
  | [], h => by rw [cut_nil] at h; cases h
  | b :: l, h => by
    by_cases hb : b = c
    · subst hb; rw [cut_cons_eq]; rfl
    · rw [cut_cons_ne l hb] at h ⊢
      have := cut_join c l h
      simp only [List.cons_append]
      rw [← this]
theorem cut_none (c : UInt8) : ∀ l : List UInt8, (cut l [c]).2.2 = false → (cut l [c]).1 = l ∧ (cut l [c]).2.1 = []
  | [], _ => by rw [cut_nil]; exact ⟨rfl, rfl⟩
  | b :: l, h => by
    by_cases hb : b = c
    · subst hb; rw [cut_cons_eq] at h; cases h
    · rw [cut_cons_ne l hb] at h ⊢
      have := cut_none c l h
      exact ⟨by simp [this.1], this.2⟩
theorem cut_free (c : UInt8) : ∀ l : List UInt8, ∀ b ∈ (cut l [c]).1, b ≠ c
  | [], b, h => by rw [cut_nil] at h; simp at h
  | x :: l, b, h => by
    by_cases hb : x = c
    · subst hb; rw [cut_cons_eq] at h; simp at h
    · rw [cut_cons_ne l hb] at h
      rcases List.mem_cons.1 h with rfl | h
      · exact hb
      · exact cut_free c l b h
theorem cut_len (c : UInt8) (l : List UInt8) : (cut l [c]).1.length ≤ l.length ∧ (cut l [c]).2.1.length ≤ l.length := by
  cases h : (cut l [c]).2.2 with
  | true =>
    have := congrArg List.length (cut_join c l h)
    simp at this
    omega
  | false =>
    obtain ⟨h1, h2⟩ := cut_none c l h
    rw [h1, h2]; simp
/-- strings.Split's pieces -/
theorem splitK_pieces (c : UInt8) : ∀ l : List UInt8, splitK [c] 0 (count l [c]) l = pieces c l
  | [] => by rw [count_miss (by simp [index])]; rfl
  | b :: l => by
    have ih := splitK_pieces c l
    by_cases h : b = c
    · subst h
      rw [count_cons_eq, Nat.add_comm, splitK, index_cons_eq, pieces, if_pos rfl]
      simp only [show ((0 : Int) == -1) = false from rfl, Bool.false_eq_true, if_false]
      simp [ih]
    · rw [count_cons_ne b c l h, pieces, if_neg h, ← ih]
      have hge := index_ge l [c]
      have hix := index_cons_ne l h
      by_cases hm : index l [c] = -1
      · rw [count_miss hm]; rfl
      · obtain ⟨j, hj⟩ : ∃ j : Nat, index l [c] = j := ⟨(index l [c]).toNat, by omega⟩
        have hj1 : index (b :: l) [c] = ((j + 1 : Nat) : Int) := by rw [hix, if_neg (by simpa using hm), hj]; omega
        rw [count_hit (by simp) hj, Nat.add_comm]
        have n1 : (index (b :: l) [c] == -1) = false := by rw [hj1]; exact beq_false_of_ne (by omega)
        have n2 : (index l [c] == -1) = false := by rw [hj]; exact beq_false_of_ne (by omega)
        rw [splitK, n1, splitK, n2, hj1, hj]
        simp
theorem nameL_bytes {l : List UInt8} (h : nameL l = true) : ∀ b ∈ l, nameB b.toNat = true := by
  unfold nameL at h
  simp only [Bool.and_eq_true, List.all_eq_true] at h
  exact h.2
theorem nameL_len {l : List UInt8} (h : nameL l = true) : 1 ≤ l.length ∧ l.length ≤ 16 := by
  unfold nameL at h
  simp only [Bool.and_eq_true, decide_eq_true_eq] at h
  exact h.1.1.1
theorem nameL_free {l : List UInt8} (h : nameL l = true) (c : UInt8) (hc : nameB c.toNat = false) : ∀ b ∈ l, b ≠ c := by
  intro b hb e
  subst e
  rw [nameL_bytes h b hb] at hc
  cases hc
theorem tagL_free {l : List UInt8} (h : tagL l = true) : ∀ b ∈ l, b ≠ 58 := by
  intro b hb e
  subst e
  unfold tagL at h
  simp only [Bool.and_eq_true, List.all_eq_true] at h
  have := h.2 _ hb
  revert this
  decide
theorem nameL_mk {l : List UInt8} (h1 : 1 ≤ l.length) (h2 : l.length ≤ 16) (h3 : small (at' l 0) = true) (h4 : small (at' l (l.length - 1)) = true) (h5 : ∀ b ∈ l, nameB b.toNat = true) : nameL l = true := by
  unfold nameL
  simp only [Bool.and_eq_true, decide_eq_true_eq, List.all_eq_true]
  exact ⟨⟨⟨⟨h1, h2⟩, h3⟩, h4⟩, h5⟩
theorem nameL_ends {l : List UInt8} (h : nameL l = true) : small (at' l 0) = true ∧ small (at' l (l.length - 1)) = true := by
  unfold nameL at h
  simp only [Bool.and_eq_true, decide_eq_true_eq] at h
  exact ⟨h.1.1.2, h.1.2⟩
/-- the document's key -/
theorem keyL_ref (l : List UInt8) : keyL l = (decide (l.length ≤ 100) && ((pieces 47 l).all nameL && decide ((pieces 47 l).length ≤ 2))) := by
  unfold keyL
  show (nameL (cut l [47]).1 && (!(cut l [47]).2.2 || nameL (cut l [47]).2.1)) = _
  cases h : (cut l [47]).2.2 with
  | false =>
    rw [cut_pieces, h]
    obtain ⟨h1, _⟩ := cut_none 47 l h
    rw [h1]
    cases hn : nameL l with
    | false => simp [hn]
    | true =>
      have := nameL_len hn
      simp [hn]; omega
  | true =>
    have hj := cut_join 47 l h
    have hl := congrArg List.length hj
    rw [cut_pieces, h]
    simp only [Bool.not_true, Bool.false_or, if_true, List.all_cons, List.length_cons]
    cases hn : nameL (cut l [47]).1 with
    | false => simp
    | true =>
      have h1 := nameL_len hn
      rw [cut_pieces]
      cases h2 : (cut (cut l [47]).2.1 [47]).2.2 with
      | false =>
        obtain ⟨h3, _⟩ := cut_none 47 _ h2
        rw [h3]
        cases hm : nameL (cut l [47]).2.1 with
        | false => simp [hm]
        | true =>
          have h4 := nameL_len hm
          simp [hm]
          simp at hl
          omega
      | true =>
        have hno : nameL (cut l [47]).2.1 = false := by
          cases hm : nameL (cut l [47]).2.1 with
          | false => rfl
          | true =>
            have := cut_miss 47 _ (nameL_free hm 47 (by decide))
            rw [this] at h2; cases h2
        rw [hno]
        have := pieces_ne 47 (cut (cut l [47]).2.1 [47]).2.1
        have : 1 ≤ (pieces 47 (cut (cut l [47]).2.1 [47]).2.1).length := by
          cases hh : pieces 47 (cut (cut l [47]).2.1 [47]).2.1 with
          | nil => exact absurd hh this
          | cons a b => simp
        simp
        intro _ _ _
        omega
theorem imageL_len {l : List UInt8} (h : imageL l = true) : l.length ≤ 33 := by
  unfold imageL at h
  simp only [Bool.and_eq_true] at h
  have hl := congrArg List.length (cut_join 58 l h.1.1)
  have h1 := h.1.2
  have h2 := h.2
  unfold repoL at h1
  unfold tagL at h2
  simp only [Bool.and_eq_true, decide_eq_true_eq] at h1 h2
  simp at hl
  omega
/-- two pieces at the colon -/
theorem pieces_two {l : List UInt8} (h : (pieces 58 l).length = 2) : (cut l [58]).2.2 = true ∧ pieces 58 l = [(cut l [58]).1, (cut l [58]).2.1] := by
  rw [cut_pieces] at h ⊢
  cases h1 : (cut l [58]).2.2 with
  | false => rw [h1] at h; simp at h
  | true =>
    rw [h1] at h
    simp only [if_true, List.length_cons] at h ⊢
    rw [cut_pieces] at h ⊢
    cases h2 : (cut (cut l [58]).2.1 [58]).2.2 with
    | false =>
      obtain ⟨h3, _⟩ := cut_none 58 _ h2
      simp [h3]
    | true =>
      rw [h2] at h
      simp only [if_true, List.length_cons] at h
      have := pieces_ne 58 (cut (cut l [58]).2.1 [58]).2.1
      cases hh : pieces 58 (cut (cut l [58]).2.1 [58]).2.1 with
      | nil => exact absurd hh this
      | cons a b => rw [hh] at h; simp at h
theorem imageL_two {l : List UInt8} (h : imageL l = true) : pieces 58 l = [(cut l [58]).1, (cut l [58]).2.1] := by
  unfold imageL at h
  simp only [Bool.and_eq_true] at h
  rw [cut_pieces, h.1.1]
  simp only [if_true]
  rw [cut_pieces, cut_miss 58 _ (tagL_free h.2)]
  simp
end TextPure
end Go.Proofs.YtpllcnpmjnmcfaaDoor

/-
  The contracts of text's bytes: which kind a byte is of, where a kind may stand, whether all bytes of a text may stand somewhere. All is left as it was. Condition: the table holds what the program's text lays (Laid).
-/
namespace Go.Proofs.YtpllcnpmjnmcfaaDoor
open Go.ChangeShapes Go.WideShapes Go.ChangeAt Go.RowKit
open TextPure
namespace Text

/-- the table's words -/
def word : Nat → Nat → Int
  | 1, 1 => 2281701374
  | 2, 0 => 70368744177664
  | 3, 0 => 35184372088832
  | 4, 0 => 287948901175001088
  | 4, 1 => 576460743713488896
  | _, _ => 0
/-- what the listed variables hold -/
structure Laid (w : World) : Prop where
  max : ∃ m, w.cell? ⟨0, 0, none⟩ = some (.int .i64 m)
  tab : ∀ k q, k < 5 → q < 4 → w.cell? ⟨1, k * 4 + q, none⟩ = some (.int .u64 (word k q))
theorem Laid.below {w w' : World} (h : Laid w) (hb : Below w.heap.size w w') : Laid w' := by
  obtain ⟨⟨m, hm⟩, ht⟩ := h
  refine ⟨⟨m, ?_⟩, fun k q hk hq => ?_⟩
  · rw [hb.cell (World.block_lt_of_cell? _ _ hm)]; exact hm
  · have := ht k q hk hq
    rw [hb.cell (World.block_lt_of_cell? _ _ this)]; exact this
/-- the kind of a byte -/
def kindN (n : Nat) : Nat := if small n then 4 else if n == 45 then 3 else if n == 46 then 2 else if (decide (65 ≤ n) && decide (n ≤ 90)) || n == 95 then 1 else 0
/-- does the table say that the byte is of the kind? -/
def bit (k n : Nat) : Bool := bits BinOp.and IntKind.u64 (word k (n / 64) / 2 ^ (n % 64)) 1 == 1
def kindT (n : Nat) : Bool := (List.range 5).all fun k => !(((List.range k).all fun j => !bit j n) && bit k n) || kindN n == k
def kindF (n : Nat) : Bool := !((List.range 5).all fun j => !bit j n) || kindN n == 0
theorem kinds_told : ((List.range 256).all fun n => kindT n && kindF n) = true := by decide +kernel
theorem kind_hit {n k : Nat} (hn : n < 256) (hk : k < 5) (h : ∀ j, j < k → bit j n = false) (hb : bit k n = true) : kindN n = k := by
  have h1 := List.all_eq_true.1 kinds_told n (List.mem_range.2 hn)
  simp only [Bool.and_eq_true] at h1
  have h2 := List.all_eq_true.1 h1.1 k (List.mem_range.2 hk)
  have h3 : ((List.range k).all fun j => !bit j n) = true := List.all_eq_true.2 fun j hj => by rw [h j (List.mem_range.1 hj)]; rfl
  rw [h3, hb] at h2
  simpa using h2
theorem kind_miss {n : Nat} (hn : n < 256) (h : ∀ j, j < 5 → bit j n = false) : kindN n = 0 := by
  have h1 := List.all_eq_true.1 kinds_told n (List.mem_range.2 hn)
  simp only [Bool.and_eq_true] at h1
  have h2 := h1.2
  unfold kindF at h2
  have h3 : ((List.range 5).all fun j => !bit j n) = true := List.all_eq_true.2 fun j hj => by rw [h j (List.mem_range.1 hj)]; rfl
  rw [h3] at h2
  simpa using h2
set_option maxRecDepth 100000 in
theorem kind_any (n : Nat) (hn : n < 256) (w : World) (hL : Laid w) :
    Calls Tryd.prog 81 #[.int .u8 n] w fun e w' => e = .returned (.int .i64 (kindN n : Nat)) ∧ w = w' := by
  have HL := Lib.hid hL
  clear hL
  go_enter Tryd.func81, Tryd.ntmps81
  go_wp2_with fail
  go_loop [4] (fun i => ∃ k : Nat, k ≤ 5 ∧ i = .int .i64 k ∧ Hid (∀ j, j < k → bit j n = false)) (fun i => 5 - (RowKit.intOf i).toNat)
  case atStart => exact ⟨0, by omega, rfl, fun j h => by omega⟩
  case round =>
    obtain ⟨k, hk, rfl, HA⟩ := hrel
    by_cases hlt : k < 5
    · have hc := HL.out.tab k (n / 64) hlt (by omega)
      cases hb : bit k n with
      | true =>
        have hb' : (bits BinOp.and IntKind.u64 (word k (n / 64) / 2 ^ (n % 64)) 1 == 1) = true := hb
        go_wp2_with fail
        go_ret
        exact ⟨by rw [kind_hit hn hlt HA.out hb]; rfl, rfl⟩
      | false =>
        have hb' : (bits BinOp.and IntKind.u64 (word k (n / 64) / 2 ^ (n % 64)) 1 == 1) = false := hb
        go_wp2_with fail
        go_round
        case rel =>
          refine ⟨k + 1, by omega, by go_num, fun j hj => ?_⟩
          by_cases e : j = k
          · subst e; exact hb
          · exact HA.out j (by omega)
        case measure => simp [RowKit.intOf]; omega
    · obtain rfl : k = 5 := by omega
      go_wp2_with fail
      go_ret
      exact ⟨by rw [kind_miss hn HA.out]; rfl, rfl⟩
def placesN : Nat → Nat
  | 4 => 15
  | 3 => 7
  | 2 => 3
  | 1 => 1
  | _ => 0
theorem places_any (k : Nat) (hk : k < 5) (w : World) :
    Calls Tryd.prog 80 #[.int .i64 k] w fun e w' => e = .returned (.int .i64 (placesN k : Nat)) ∧ w = w' := by
  rcases k with _ | _ | _ | _ | _ | k
  all_goals first | (exfalso; omega) | skip
  all_goals
    go_enter Tryd.func80, Tryd.ntmps80
    go_wp2_with fail
    go_ret
    exact ⟨rfl, rfl⟩
/-- may the byte stand in the place? 1: a value, 2: a tag, 4: a name, 8: a name's end -/
def standN (p n : Nat) : Bool := match p with
  | 1 => valB n
  | 2 => tagB n
  | 4 => nameB n
  | _ => small n
def stands (p n : Nat) : Bool := (bits BinOp.and IntKind.i64 (placesN (kindN n) : Nat) (p : Nat) != 0) == standN p n
theorem stands_told : ((List.range 256).all fun n => stands 1 n && stands 2 n && stands 4 n && stands 8 n) = true := by decide +kernel
theorem stand_eq {p n : Nat} (hn : n < 256) (hp : p = 1 ∨ p = 2 ∨ p = 4 ∨ p = 8) : (bits BinOp.and IntKind.i64 (placesN (kindN n) : Nat) (p : Nat) != 0) = standN p n := by
  have h1 := List.all_eq_true.1 stands_told n (List.mem_range.2 hn)
  simp only [Bool.and_eq_true] at h1
  rcases hp with rfl | rfl | rfl | rfl
  · exact eq_of_beq h1.1.1.1
  · exact eq_of_beq h1.1.1.2
  · exact eq_of_beq h1.1.2
  · exact eq_of_beq h1.2
theorem kind_lt (n : Nat) : kindN n < 5 := by unfold kindN; repeat' split
                                              all_goals omega
theorem may_any (n p : Nat) (hn : n < 256) (hp : p = 1 ∨ p = 2 ∨ p = 4 ∨ p = 8) (w : World) (hL : Laid w) :
    Calls Tryd.prog 69 #[.int .u8 n, .int .i64 p] w fun e w' => e = .returned (.bool (standN p n)) ∧ w = w' := by
  have HL := Lib.hid hL
  clear hL
  have HP := Lib.hid hp
  clear hp
  have hk := Lib.hid (kind_lt n)
  have hst := stand_eq hn HP.out
  go_enter Tryd.func69, Tryd.ntmps69
  go_wp2_with fail
  refine (kind_any n hn _ HL.out).mono ?_
  rintro e w' ⟨rfl, rfl⟩
  go_wp2_with fail
  refine (places_any _ hk.out _).mono ?_
  rintro e w' ⟨rfl, rfl⟩
  go_wp2_with fail
  go_ret
  exact ⟨by rw [← hst]; rfl, rfl⟩
theorem at_lt (l : List UInt8) (k : Nat) : at' l k < 256 := UInt8.toNat_lt _
theorem at_byte (s : ByteArray) (k : Nat) (h : k < s.size) : s[k].toNat = at' s.data.toList k := by
  unfold at'
  rw [List.getD_eq_getElem?_getD, List.getElem?_eq_getElem (by simpa using h)]
  simp only [Option.getD_some, Array.getElem_toList]
  rfl
theorem all_at {f : Nat → Bool} (l : List UInt8) : (l.all fun b => f b.toNat) = true ↔ ∀ k, k < l.length → f (at' l k) = true := by
  rw [List.all_eq_true]
  constructor
  · intro h k hk
    unfold at'
    rw [List.getD_eq_getElem?_getD, List.getElem?_eq_getElem hk]
    exact h _ (List.getElem_mem hk)
  · intro h b hb
    obtain ⟨k, hk, rfl⟩ := List.getElem_of_mem hb
    have := h k hk
    unfold at' at this
    rw [List.getD_eq_getElem?_getD, List.getElem?_eq_getElem hk] at this
    exact this
theorem all_not {f : Nat → Bool} {l : List UInt8} {k : Nat} (hk : k < l.length) (h : f (at' l k) = false) : (l.all fun b => f b.toNat) = false := by
  cases hx : l.all fun b => f b.toNat with
  | false => rfl
  | true => rw [(all_at l).1 hx k hk] at h; cases h
/-- may all bytes stand there? -/
def allN (p : Nat) (l : List UInt8) : Bool := l.all fun b => standN p b.toNat
set_option maxRecDepth 100000 in
theorem all_any (s : ByteArray) (p : Nat) (hp : p = 1 ∨ p = 2 ∨ p = 4 ∨ p = 8) (hs : s.size ≤ 100) (w : World) (hL : Laid w) :
    Calls Tryd.prog 70 #[.string s, .int .i64 p] w fun e w' => e = .returned (.bool (allN p s.data.toList)) ∧ w = w' := by
  have HL := Lib.hid hL
  have HP := Lib.hid hp
  clear hp hL
  have hlen : s.data.toList.length = s.size := by rw [Array.length_toList]; rfl
  have HN := Lib.hid hlen
  clear hlen
  go_enter Tryd.func70, Tryd.ntmps70
  go_wp2_with fail
  go_loop [8] (fun i => ∃ k : Nat, k ≤ s.size ∧ i = .int .i64 k ∧ Hid (∀ j, j < k → standN p (at' s.data.toList j) = true)) (fun i => s.size - (RowKit.intOf i).toNat)
  case atStart => exact ⟨0, by omega, rfl, fun j h => by omega⟩
  case round =>
    obtain ⟨k, hk, rfl, HA⟩ := hrel
    by_cases hlt : k < s.size
    · have HB := Lib.hid (at_byte s k hlt)
      go_wp2_with fail
      refine (may_any s[k].toNat p s[k].toNat_lt HP.out _ HL.out).mono ?_
      rintro e w' ⟨rfl, rfl⟩
      cases hb : standN p s[k].toNat with
      | true =>
        go_wp2_with fail
        go_round
        case rel =>
          refine ⟨k + 1, by omega, by go_num, fun j hj => ?_⟩
          by_cases e : j = k
          · subst e; rw [← HB.out]; exact hb
          · exact HA.out j (by omega)
        case measure => simp [RowKit.intOf]; omega
      | false =>
        go_wp2_with fail
        go_ret
        refine ⟨?_, rfl⟩
        rw [show allN p s.data.toList = false from all_not (k := k) (by rw [HN.out]; exact hlt) (by rw [← HB.out]; exact hb)]; rfl
    · obtain rfl : k = s.size := by omega
      go_wp2_with fail
      go_ret
      refine ⟨?_, rfl⟩
      rw [show allN p s.data.toList = true from (all_at s.data.toList).2 (fun j hj => HA.out j (by rw [HN.out] at hj; exact hj))]; rfl
end Text
end Go.Proofs.YtpllcnpmjnmcfaaDoor
