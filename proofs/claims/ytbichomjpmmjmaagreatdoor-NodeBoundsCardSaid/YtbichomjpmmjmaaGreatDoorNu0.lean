/-
  The end of a law's row: a call that leaves all memory that was there as it was, whatever it makes besides, meets the row. (Laid after the guide's lemma for copying.)
-/
import Derived.Test.YtbichomjpmmjmaaGreatDoorChecked
import Derived.Test.YtbichomjpmmjmaaGreatDoorRows
import Derived.Test.YtbichomjpmmjmaaGreatDoorShelf
import Derived.Below
import Derived.Deep.Draws
import Derived.ChangeSame
import Derived.WalkKit
import Derived.ProofKit
import Derived.Carry
import Derived.OpenShut
import Derived.Lib.Hide
import Derived.SliceStrings
import Derived.Deep.Slices
import Derived.Deep.Fields
import Derived.ChangeSlices
import Derived.LaidEql
import Derived.Stop.Asserts
import Derived.RowKitTokens
import Derived.Defers
import Derived.Recover
import Derived.LaidLaws
import Derived.LaidHandle
import Derived.Lib.SplitLaws
import Derived.Lib.CutLaws
import Derived.LaidSub
import Derived.Shelf.Vars
import Derived.Laws.OwnMore
import Derived.Lib.Join
import Derived.RegionTactic
namespace Go.Proofs.YtbichomjpmmjmaaGreatDoor
open Go.RowKit Go.WideShapes Go.ChangeShapes
namespace Kit
section
variable {H : Type} {enc : TypeId × Value → H} {P : Program}
theorem post_of_below {f : Func} {s : ChangeSpec} {apart fresh handsOn again : Bool} {W W' : World} {args : Array Value} {v : Value} {ds gs : List (DataW H)} {before pa pv : List MemPlace}
    (hW : DataW.Whole enc P f.params.toList s.vars apart W args.toList ds gs before)
    (hres : ∀ (b : Nat) (sp : Nat → Bool) (hd : Bool), DataW.TrodAll enc P W' b sp hd f.resultTypes.toList (v.resultList f.resultTypes.size) (s.fn H (ds ++ gs)).results [])
    (hargs : ∀ sp : Nat → Bool, (∀ p ∈ before, sp p.block = true) → DataW.TrodAll enc P W' 0 sp true f.params.toList args.toList (s.fn H (ds ++ gs)).args pa)
    (hvars : ∀ sp : Nat → Bool, (∀ p ∈ before, sp p.block = true) → DataW.TrodVars enc P W' sp s.vars (s.fn H (ds ++ gs)).vars pv)
    (hps : before = pa ++ pv) (hb : Below W.heap.size W W')
    (hok : ∀ (j : Nat) (t : TypeId) (r : Value), f.resultTypes[j]? = some t → (v.resultList f.resultTypes.size)[j]? = some r → Value.okWide P W' .any 0 t r) :
    s.post enc P f apart fresh handsOn again W args v W' := by
  have hlt : ∀ p ∈ before, p.block < W.heap.size := fun p hp => hW.lt p hp
  have hold : ∀ p ∈ before, (fun b => decide (b < W.heap.size)) p.block = true := fun p hp => by simpa using hlt p hp
  refine ⟨ds, gs, before, [], pa, pv, hW, hres _ _ _, hargs _ hold, hvars _ hold, World.keptBut_mono (fun p hp => ⟨hp, ?_⟩) (hb.frame (· ∈ before)), fun _ => ?_⟩
  · rw [hps, List.mem_append] at hp
    exact Or.inr hp
  · obtain ⟨_, _, _, _, _, hz, hn⟩ := hW
    refine ⟨hok, _, _, ([] ++ pa) ++ pv, ⟨[] ++ pa, pv, trodAll_append (hargs _ (fun _ _ => rfl)) (hres _ _ _), hvars _ (fun _ _ => rfl), rfl, ?_, ?_⟩, ?_⟩
    · intro b off hp
      have hin : MemPlace.cell b off ∈ before := by rw [hps]; simpa using hp
      rw [hb.frozen (hlt _ hin)]
      exact hz b off hin
    · intro ha
      have := hn ha
      rw [hps] at this
      simpa using this
    · intro p hp _
      rw [hps]
      simpa using hp
end
theorem below_drewN (B : Nat) (w : World) (n : Nat) : Below B w (w.drewN n) := ⟨rfl, rfl, rfl, Nat.le_refl _, fun _ _ => rfl⟩
end Kit
end Go.Proofs.YtbichomjpmmjmaaGreatDoor

/-
  The frame of a law's row, whatever its parameters: a call that answers true and leaves all memory that was there as it was meets the row; and what comes in as an array of numbers. Conditions: the types can be read.
-/
namespace Go.Proofs.YtbichomjpmmjmaaGreatDoor
open Go.ChangeShapes Go.WideShapes Go.ChangeAt Go.RowKit Go.ChangeMaps
namespace LawKit
/-- each parameter's type can be read -/
def readable (P : Program) (ts : List TypeId) : Bool := ts.all fun t => P.readableRec t && decide (t < P.types.size)
section
variable {H : Type} {enc : TypeId × Value → H} {P : Program}
theorem trodAll_stays (laidOut : laidOutB P = true) {W W' : World} (hb : Below W.heap.size W W') {sp : Nat → Bool} : ∀ {ts : List TypeId} {vs : List Value} {ds : List (DataW H)} {ps : List MemPlace}, readable P ts = true →
    DataW.TrodAll enc P W 0 (fun _ => true) true ts vs ds ps → (∀ p ∈ ps, p.block < W.heap.size) → (∀ p ∈ ps, sp p.block = true) → DataW.TrodAll enc P W' 0 sp true ts vs ds ps
  | [], [], [], _, _, h, _, _ => h
  | [], [], _ :: _, _, _, h, _, _ => h.elim
  | [], _ :: _, _, _, _, h, _, _ => h.elim
  | _ :: _, [], _, _, _, h, _, _ => h.elim
  | _ :: _, _ :: _, [], _, _, h, _, _ => h.elim
  | t :: ts, v :: vs, d :: ds, ps, hr, h, hlt, hsp => by
    obtain ⟨p, q, hd, hs, rfl⟩ := h
    simp only [readable, List.all_cons, Bool.and_eq_true, decide_eq_true_eq] at hr
    exact ⟨p, q, WideElems.Trod_stays laidOut hr.1.1 hr.1.2 hd (fun x hx => hb.same (hlt x (by simp [hx]))) (fun x hx => hsp x (by simp [hx])),
      trodAll_stays laidOut hb (by simpa [readable] using hr.2) hs (fun x hx => hlt x (by simp [hx])) (fun x hx => hsp x (by simp [hx])), rfl⟩
/-- THE END OF A LAW: it answered true, and left all that was there as it was -/
theorem law_post {tb : TypeId} {f : Func} {s : ChangeSpec} (laidOut : laidOutB P = true) (htb : P.underlying tb = some .bool) {W W' : World} {args : Array Value} {ds gs : List (DataW H)} {before : List MemPlace} (hr : readable P f.params.toList = true) (hres : f.resultTypes = #[tb]) (hv : s.vars = [])
    (hW : DataW.Whole enc P f.params.toList s.vars false W args.toList ds gs before) (hfn : s.fn H (ds ++ gs) = { results := [.lit (.bool true)], args := ds }) (hb : Below W.heap.size W W') :
    s.post enc P f false true false false W args (.bool true) W' := by
  have hW' := hW
  obtain ⟨p, q, hA, hV, rfl, hfz, hnd⟩ := hW
  rw [hv] at hV
  obtain ⟨rfl, rfl⟩ := trodVars_none hV
  refine Kit.post_of_below (pa := p) (pv := []) hW' (fun b sp hd => ?_) (fun sp hsp => ?_) (fun sp _ => ?_) rfl hb ?_
  · rw [hfn, hres]
    exact trodAll_cons_mk (shut_bool htb _) trodAll_mk0
  · rw [hfn]
    exact trodAll_stays laidOut hb hr hA (fun x hx => hW'.lt x (by simp [hx])) (fun x hx => hsp x (by simp [hx]))
  · rw [hfn, hv]; rfl
  · exact ok_one hres rfl (okWide_bool_mk htb _)
end
end LawKit
end Go.Proofs.YtbichomjpmmjmaaGreatDoor

/-
  A list of texts, and a list of numbers, in memory. No condition.
-/
namespace Go.Proofs.YtbichomjpmmjmaaGreatDoor
open Go.RowKit
namespace Lists
theorem add_block (a : Addr) (k : Nat) : (a.add k).block = a.block := by
  unfold Addr.add; split <;> rfl
/-- the slice at A holds the texts xs -/
def Texts (w : World) (A : Option Addr) (xs : List ByteArray) : Prop := ∀ (k : Nat) (x : ByteArray), xs[k]? = some x → ∃ a, A = some a ∧ a.block < w.heap.size ∧ w.cell? (a.add k) = some (.string x)
/-- the slice at A holds the numbers zs -/
def Nums (q : IntKind) (w : World) (A : Option Addr) (zs : List Int) : Prop := ∀ (k : Nat) (z : Int), zs[k]? = some z → (Lit.int q z).wf = true ∧ ∃ a, A = some a ∧ a.block < w.heap.size ∧ w.cell? (a.add k) = some (.int q z)
theorem Texts.at {w : World} {A : Option Addr} {xs : List ByteArray} (h : Texts w A xs) {k : Nat} (hk : k < xs.length) : ∃ a, A = some a ∧ a.block < w.heap.size ∧ w.cell? (a.add k) = some (.string xs[k]) := h k _ (List.getElem?_eq_getElem hk)
theorem Nums.at {q : IntKind} {w : World} {A : Option Addr} {zs : List Int} (h : Nums q w A zs) {k : Nat} (hk : k < zs.length) : (Lit.int q zs[k]).wf = true ∧ ∃ a, A = some a ∧ a.block < w.heap.size ∧ w.cell? (a.add k) = some (.int q zs[k]) := h k _ (List.getElem?_eq_getElem hk)
end Lists
end Go.Proofs.YtbichomjpmmjmaaGreatDoor

/-
  Specs in memory: labels, containers, a spec's value; what keeps them. No condition.
-/
namespace Go.Proofs.YtbichomjpmmjmaaGreatDoor
open Go.RowKit
namespace Sd
open Lists
/-- a label -/
structure Lbl where
  key : ByteArray
  val : ByteArray
/-- a container: its name, its image, what it asks for, what it may have, its ports, its probe -/
structure Ctr where
  name : ByteArray
  image : ByteArray
  rc : Int
  rm : Int
  rp : Int
  lc : Int
  lm : Int
  lp : Int
  ports : List Int
  ev : Int
  fl : Int
/-- a spec -/
structure Spc where
  name : ByteArray
  labels : List Lbl
  init : List Ctr
  main : List Ctr
  restart : Int
  grace : Int
  prio : Int
def I64 (z : Int) : Prop := -9223372036854775808 ≤ z ∧ z ≤ 9223372036854775807
/-- the cells of a label -/
def Lbl.cellsAt (x : Lbl) (w : World) (a : Addr) : Prop := w.cell? a = some (.string x.key) ∧ w.cell? ⟨a.block, a.off + 1, none⟩ = some (.string x.val)
/-- the cells of a container, its ports at P, with room for c -/
def Ctr.cells (x : Ctr) (P : Option Addr) (c : Nat) : List Value :=
  [.string x.name, .string x.image, .int .i64 x.rc, .int .i64 x.rm, .int .i64 x.rp, .int .i64 x.lc, .int .i64 x.lm, .int .i64 x.lp, .slice P x.ports.length c, .int .i64 x.ev, .int .i64 x.fl]
def Ctr.cellsAt (x : Ctr) (P : Option Addr) (c : Nat) (w : World) (a : Addr) : Prop :=
  w.cell? a = some (.string x.name) ∧ w.cell? ⟨a.block, a.off + 1, none⟩ = some (.string x.image) ∧
  w.cell? ⟨a.block, a.off + 2, none⟩ = some (.int .i64 x.rc) ∧ w.cell? ⟨a.block, a.off + 3, none⟩ = some (.int .i64 x.rm) ∧ w.cell? ⟨a.block, a.off + 4, none⟩ = some (.int .i64 x.rp) ∧
  w.cell? ⟨a.block, a.off + 5, none⟩ = some (.int .i64 x.lc) ∧ w.cell? ⟨a.block, a.off + 6, none⟩ = some (.int .i64 x.lm) ∧ w.cell? ⟨a.block, a.off + 7, none⟩ = some (.int .i64 x.lp) ∧
  w.cell? ⟨a.block, a.off + 8, none⟩ = some (.slice P x.ports.length c) ∧ w.cell? ⟨a.block, a.off + 9, none⟩ = some (.int .i64 x.ev) ∧ w.cell? ⟨a.block, a.off + 10, none⟩ = some (.int .i64 x.fl) ∧ x.ports.length ≤ c
/-- its numbers fit -/
structure Ctr.Fits (x : Ctr) : Prop where
  rc : I64 x.rc
  rm : I64 x.rm
  rp : I64 x.rp
  lc : I64 x.lc
  lm : I64 x.lm
  lp : I64 x.lp
  ev : I64 x.ev
  fl : I64 x.fl
  ports : x.ports.length ≤ 9223372036854775807
/-- a list of labels at A -/
def Lbls (w : World) (A : Option Addr) (l : List Lbl) : Prop := ∀ (k : Nat) (x : Lbl), l[k]? = some x → ∃ a, A = some a ∧ a.block < w.heap.size ∧ x.cellsAt w (a.add (k * 2))
/-- a list of containers at A -/
def Ctrs (w : World) (A : Option Addr) (l : List Ctr) : Prop := ∀ (k : Nat) (x : Ctr), l[k]? = some x → x.Fits ∧ ∃ a P c, A = some a ∧ a.block < w.heap.size ∧ x.cellsAt P c w (a.add (k * 11)) ∧ Nums .i64 w P x.ports
/-- a spec's value, and its lists -/
structure Spc.In (S : Spc) (w : World) (LA : Option Addr) (lc : Nat) (IA : Option Addr) (ic : Nat) (MA : Option Addr) (mc : Nat) : Prop where
  labels : Lbls w LA S.labels
  init : Ctrs w IA S.init
  main : Ctrs w MA S.main
  nl : S.labels.length ≤ 9223372036854775807
  ni : S.init.length ≤ 9223372036854775807
  nm : S.main.length ≤ 9223372036854775807
  restart : I64 S.restart
  grace : I64 S.grace
  prio : I64 S.prio
theorem Lbl.cellsAt.keep {x : Lbl} {w w' : World} {a : Addr} (h : x.cellsAt w a) (hb : w'.heap[a.block]? = w.heap[a.block]?) : x.cellsAt w' a := by
  have e : ∀ p : Addr, p.block = a.block → w'.cell? p = w.cell? p := fun p hp => World.cell?_of_block (by rw [hp]; exact hb)
  unfold Lbl.cellsAt at *
  rw [e a rfl, e ⟨a.block, a.off + 1, none⟩ rfl]
  exact h
theorem Ctr.cellsAt.keep {x : Ctr} {P : Option Addr} {c : Nat} {w w' : World} {a : Addr} (h : x.cellsAt P c w a) (hb : w'.heap[a.block]? = w.heap[a.block]?) : x.cellsAt P c w' a := by
  have e : ∀ p : Addr, p.block = a.block → w'.cell? p = w.cell? p := fun p hp => World.cell?_of_block (by rw [hp]; exact hb)
  unfold Ctr.cellsAt at *
  rw [e a rfl, e ⟨a.block, a.off + 1, none⟩ rfl, e ⟨a.block, a.off + 2, none⟩ rfl, e ⟨a.block, a.off + 3, none⟩ rfl, e ⟨a.block, a.off + 4, none⟩ rfl, e ⟨a.block, a.off + 5, none⟩ rfl, e ⟨a.block, a.off + 6, none⟩ rfl, e ⟨a.block, a.off + 7, none⟩ rfl, e ⟨a.block, a.off + 8, none⟩ rfl, e ⟨a.block, a.off + 9, none⟩ rfl, e ⟨a.block, a.off + 10, none⟩ rfl]
  exact h
theorem Nums.below {q : IntKind} {w w' : World} {A : Option Addr} {l : List Int} (h : Nums q w A l) (hb : Below w.heap.size w w') : Nums q w' A l := by
  intro k x hk
  obtain ⟨h1, a, hA, ha, hc⟩ := h k x hk
  exact ⟨h1, a, hA, Nat.lt_of_lt_of_le ha hb.size, (hb.cell (p := a.add k) (by rw [add_block]; exact ha)).trans hc⟩
theorem Lbls.below {w w' : World} {A : Option Addr} {l : List Lbl} (h : Lbls w A l) (hb : Below w.heap.size w w') : Lbls w' A l := by
  intro k x hk
  obtain ⟨a, hA, ha, hc⟩ := h k x hk
  exact ⟨a, hA, Nat.lt_of_lt_of_le ha hb.size, hc.keep (by rw [add_block]; exact hb.block _ ha)⟩
theorem Ctrs.below {w w' : World} {A : Option Addr} {l : List Ctr} (h : Ctrs w A l) (hb : Below w.heap.size w w') : Ctrs w' A l := by
  intro k x hk
  obtain ⟨hf, a, P, c, hA, ha, hc, hn⟩ := h k x hk
  exact ⟨hf, a, P, c, hA, Nat.lt_of_lt_of_le ha hb.size, hc.keep (by rw [add_block]; exact hb.block _ ha), Nums.below hn hb⟩
theorem Spc.In.below {S : Spc} {w w' : World} {LA : Option Addr} {lc : Nat} {IA : Option Addr} {ic : Nat} {MA : Option Addr} {mc : Nat} (h : S.In w LA lc IA ic MA mc) (hb : Below w.heap.size w w') : S.In w' LA lc IA ic MA mc :=
  ⟨h.labels.below hb, h.init.below hb, h.main.below hb, h.nl, h.ni, h.nm, h.restart, h.grace, h.prio⟩
theorem Lbls.at {w : World} {A : Option Addr} {l : List Lbl} (h : Lbls w A l) {k : Nat} (hk : k < l.length) : ∃ a, A = some a ∧ a.block < w.heap.size ∧ (l[k]).cellsAt w (a.add (k * 2)) := h k _ (List.getElem?_eq_getElem hk)
theorem Ctrs.at {w : World} {A : Option Addr} {l : List Ctr} (h : Ctrs w A l) {k : Nat} (hk : k < l.length) : (l[k]).Fits ∧ ∃ a P c, A = some a ∧ a.block < w.heap.size ∧ (l[k]).cellsAt P c w (a.add (k * 11)) ∧ Nums .i64 w P (l[k]).ports := h k _ (List.getElem?_eq_getElem hk)
end Sd
end Go.Proofs.YtbichomjpmmjmaaGreatDoor

/-
  What comes in as a spec: its value, its labels and containers in memory. Condition: the types can be read.
-/
namespace Go.Proofs.YtbichomjpmmjmaaGreatDoor
open Go.ChangeShapes Go.WideShapes Go.ChangeAt Go.RowKit Go.ChangeMaps Go.Deep
namespace LawKit
open Sd Lists
section
variable {H : Type} {enc : TypeId × Value → H} {P : Program} {W : World}
theorem i64_of {z : Int} (h : (Lit.int .i64 z).wf = true) : I64 z := by
  simp only [Lit.wf, IntKind.min, IntKind.max, Bool.and_eq_true] at h
  simp [IntKind.signed, IntKind.bits] at h
  exact ⟨by omega, by omega⟩
/-- where the fields of a struct lie: a field's place and how many cells it has -/
def fieldsB (P : Program) (fs : Array Field) (l : List (Nat × Nat × TypeId)) : Bool := decide (fs.size = l.length) && (List.range fs.size).all fun j => match fs[j]?, l[j]? with
  | some f, some x => f.offset == x.1 && P.cellsOf f.type == x.2.1 && f.type == x.2.2
  | _, _ => false
theorem field_of {P : Program} {fs : Array Field} {l : List (Nat × Nat × TypeId)} (h : fieldsB P fs l = true) {j o n : Nat} {t : TypeId} (hj : l[j]? = some (o, n, t)) : ∃ f, fs[j]? = some f ∧ f.offset = o ∧ P.cellsOf f.type = n ∧ f.type = t := by
  simp only [fieldsB, Bool.and_eq_true, decide_eq_true_eq] at h
  have hl : j < fs.size := by rw [h.1]; exact (List.getElem?_eq_some_iff.1 hj).1
  have := List.all_eq_true.1 h.2 j (List.mem_range.2 hl)
  rw [Array.getElem?_eq_getElem hl, hj] at this
  simp only [Bool.and_eq_true, beq_iff_eq] at this
  exact ⟨_, Array.getElem?_eq_getElem hl, this.1.1, this.1.2, this.2⟩
/-- a field's own reading -/
theorem trod_field {t : TypeId} {fs : Array Field} {l : List (Nat × Nat × TypeId)} {fuel : Nat} {cs : List Value} {x : DataW H × List MemPlace} (ht : P.underlying t = some (.struct fs)) (hf : fieldsB P fs l = true)
    (h : DataW.trod enc P W 0 (fun _ => true) true fuel t cs = some x) {j o n : Nat} {u : TypeId} (hj : l[j]? = some (o, n, u)) : ∃ m y, DataW.trod enc P W 0 (fun _ => true) true m u ((cs.drop o).take n) = some y := by
  obtain ⟨ys, n', _, _, _, hyl, hg⟩ := DataW.trod_struct ht h
  obtain ⟨f, h1, h2, h3, h4⟩ := field_of hf hj
  have := hg j f h1
  rw [h2, h3, h4] at this
  have hl : j < ys.length := by rw [hyl]; exact (Array.getElem?_eq_some_iff.1 h1).1
  rw [List.getElem?_eq_getElem hl] at this
  exact ⟨n', _, this⟩
theorem trod_i64 {t : TypeId} (ht : P.underlying t = some (.int .i64)) {n : Nat} {v : Value} {y : DataW H × List MemPlace} (h : DataW.trod enc P W 0 (fun _ => true) true n t [v] = some y) : ∃ z, v = .int .i64 z ∧ I64 z := by
  obtain ⟨z, e, _, hw⟩ := DataW.trod_int ht h
  simp at e
  exact ⟨z, e, i64_of hw⟩
theorem trod_text {t : TypeId} (ht : P.underlying t = some .string) {n : Nat} {v : Value} {y : DataW H × List MemPlace} (h : DataW.trod enc P W 0 (fun _ => true) true n t [v] = some y) : ∃ s, v = .string s := by
  obtain ⟨s, e, _⟩ := DataW.trod_string ht h
  simp at e
  exact ⟨s, e⟩
theorem trod_nums {t e : TypeId} {k : IntKind} (ht : P.underlying t = some (.slice e)) (he : P.underlying e = some (.int k)) (hce : P.cellsOf e = 1) {n : Nat} {v : Value} {y : DataW H × List MemPlace} (h : DataW.trod enc P W 0 (fun _ => true) true n t [v] = some y) :
    ∃ A c zs, v = .slice A zs.length c ∧ Nums k W A zs ∧ zs.length ≤ 9223372036854775807 ∧ zs.length ≤ c := by
  rcases open_ints ht he hce h with ⟨hcs, _⟩ | ⟨ad, len', cap', zs, hcs, _, hl, hm, hz, _, hcell, hw⟩
  · injection hcs with e1 _
    exact ⟨none, 0, [], e1, fun k x hk => by simp at hk, by simp, by simp⟩
  · injection hcs with e1 _
    simp only [if_true] at hz
    have hlen : (zs.take len').length = len' := by rw [List.length_take]; omega
    refine ⟨some ad, cap', zs.take len', by rw [e1, hlen], fun k x hk => ?_, by rw [hlen]; unfold maxLen at hm; omega, by rw [hlen]; exact hl⟩
    have hk1 : k < len' := by
      rcases Nat.lt_or_ge k len' with h | h
      · exact h
      · rw [List.getElem?_eq_none (by omega)] at hk; cases hk
    rw [List.getElem?_take_of_lt hk1] at hk
    have hc := hcell k (by omega)
    rw [List.getD_eq_getElem?_getD, hk] at hc
    have hb := World.block_lt_of_cell? W _ hc
    rw [Lists.add_block] at hb
    exact ⟨hw x (List.mem_of_getElem? hk), ad, rfl, hb, hc⟩
/-- the types that a spec is made of -/
structure Types (P : Program) where
  ti : TypeId
  ts : TypeId
  tl : TypeId
  tls : TypeId
  tr : TypeId
  tp : TypeId
  tn : TypeId
  tc : TypeId
  tcs : TypeId
  fl : Array Field
  fr : Array Field
  fp : Array Field
  fc : Array Field
  hi : P.underlying ti = some (.int .i64)
  hs : P.underlying ts = some .string
  hl : P.underlying tl = some (.struct fl)
  hls : P.underlying tls = some (.slice tl)
  hr : P.underlying tr = some (.struct fr)
  hp : P.underlying tp = some (.struct fp)
  hn : P.underlying tn = some (.slice ti)
  hc : P.underlying tc = some (.struct fc)
  hcs : P.underlying tcs = some (.slice tc)
  ci : P.cellsOf ti = 1
  cl : P.cellsOf tl = 2
  cc : P.cellsOf tc = 11
  bl : fieldsB P fl [(0, 1, ts), (1, 1, ts)] = true
  br : fieldsB P fr [(0, 1, ti), (1, 1, ti), (2, 1, ti)] = true
  bp : fieldsB P fp [(0, 1, ti), (1, 1, ti)] = true
  bc : fieldsB P fc [(0, 1, ts), (1, 1, ts), (2, 3, tr), (5, 3, tr), (8, 1, tn), (9, 2, tp)] = true
theorem trod_res (T : Types P) {n : Nat} {c0 c1 c2 : Value} {y : DataW H × List MemPlace} (h : DataW.trod enc P W 0 (fun _ => true) true n T.tr [c0, c1, c2] = some y) : ∃ a b c, c0 = .int .i64 a ∧ c1 = .int .i64 b ∧ c2 = .int .i64 c ∧ I64 a ∧ I64 b ∧ I64 c := by
  obtain ⟨m0, y0, h0⟩ := trod_field T.hr T.br h (j := 0) rfl
  obtain ⟨m1, y1, h1⟩ := trod_field T.hr T.br h (j := 1) rfl
  obtain ⟨m2, y2, h2⟩ := trod_field T.hr T.br h (j := 2) rfl
  obtain ⟨a, ea, ia⟩ := trod_i64 T.hi h0
  obtain ⟨b, eb, ib⟩ := trod_i64 T.hi h1
  obtain ⟨c, ec, ic⟩ := trod_i64 T.hi h2
  exact ⟨a, b, c, ea, eb, ec, ia, ib, ic⟩
theorem trod_ctr (T : Types P) {n : Nat} {cs : List Value} {y : DataW H × List MemPlace} (hlen : cs.length = 11) (h : DataW.trod enc P W 0 (fun _ => true) true n T.tc cs = some y) :
    ∃ (x : Ctr) (Q : Option Addr) (c : Nat), cs = x.cells Q c ∧ x.Fits ∧ Nums .i64 W Q x.ports ∧ x.ports.length ≤ c := by
  match cs, hlen with
  | [c0, c1, c2, c3, c4, c5, c6, c7, c8, c9, c10], _ =>
    obtain ⟨_, _, h0⟩ := trod_field T.hc T.bc h (j := 0) rfl
    obtain ⟨_, _, h1⟩ := trod_field T.hc T.bc h (j := 1) rfl
    obtain ⟨_, _, h2⟩ := trod_field T.hc T.bc h (j := 2) rfl
    obtain ⟨_, _, h3⟩ := trod_field T.hc T.bc h (j := 3) rfl
    obtain ⟨_, _, h4⟩ := trod_field T.hc T.bc h (j := 4) rfl
    obtain ⟨_, _, h5⟩ := trod_field T.hc T.bc h (j := 5) rfl
    obtain ⟨s0, e0⟩ := trod_text T.hs h0
    obtain ⟨s1, e1⟩ := trod_text T.hs h1
    obtain ⟨a2, a3, a4, e2, e3, e4, i2, i3, i4⟩ := trod_res T h2
    obtain ⟨a5, a6, a7, e5, e6, e7, i5, i6, i7⟩ := trod_res T h3
    obtain ⟨Q, c, zs, e8, hN, hZ, hR⟩ := trod_nums T.hn T.hi T.ci h4
    obtain ⟨_, _, h9⟩ := trod_field T.hp T.bp h5 (j := 0) rfl
    obtain ⟨_, _, h10⟩ := trod_field T.hp T.bp h5 (j := 1) rfl
    obtain ⟨a9, e9, i9⟩ := trod_i64 T.hi h9
    obtain ⟨a10, e10, i10⟩ := trod_i64 T.hi h10
    subst e0 e1 e2 e3 e4 e5 e6 e7 e8 e9 e10
    exact ⟨⟨s0, s1, a2, a3, a4, a5, a6, a7, zs, a9, a10⟩, Q, c, rfl, ⟨i2, i3, i4, i5, i6, i7, i9, i10, hZ⟩, hN, hR⟩
theorem add_lit (a : Addr) (i : Nat) (hi : i ≠ 0) : a.add i = ⟨a.block, a.off + i, none⟩ := by unfold Addr.add; rw [if_neg hi]
theorem list_of {α : Type} {Q : Nat → α → Prop} : ∀ (len : Nat), (∀ i, i < len → ∃ x, Q i x) → ∃ l : List α, l.length = len ∧ ∀ (k : Nat) (x : α), l[k]? = some x → Q k x
  | 0, _ => ⟨[], rfl, fun k x hk => by simp at hk⟩
  | n + 1, h => by
    obtain ⟨l, h1, h2⟩ := list_of n (fun i hi => h i (by omega))
    obtain ⟨x, hx⟩ := h n (by omega)
    refine ⟨l ++ [x], by simp [h1], fun k y hk => ?_⟩
    rcases Nat.lt_trichotomy k n with hlt | rfl | hgt
    · rw [List.getElem?_append_left (by omega)] at hk
      exact h2 k y hk
    · rw [List.getElem?_append_right (by omega), h1] at hk
      simp at hk
      subst hk
      exact hx
    · rw [List.getElem?_append_right (by omega)] at hk
      rw [List.getElem?_eq_none (by simp; omega)] at hk
      cases hk
theorem trod_ctrs (T : Types P) {n : Nat} {v : Value} {y : DataW H × List MemPlace} (h : DataW.trod enc P W 0 (fun _ => true) true n T.tcs [v] = some y) :
    ∃ A c l, v = .slice A l.length c ∧ Ctrs W A l ∧ l.length ≤ 9223372036854775807 ∧ l.length ≤ c ∧ c ≤ 9223372036854775807 := by
  rcases open_slice T.hcs h with h0 | ⟨a, len, cap, m, n, D, Pl, hcs, _, hl, hm, hmm, _, hi⟩
  · injection h0.1 with e1 _
    exact ⟨none, 0, [], e1, fun k x hk => by simp at hk, by simp, by simp, by simp⟩
  · injection hcs with e1 _
    obtain ⟨l, hll, hat⟩ := list_of (Q := fun i (x : Ctr) => x.Fits ∧ a.block < W.heap.size ∧ ∃ R c, x.cellsAt R c W (a.add (i * 11)) ∧ Nums .i64 W R x.ports) len (fun i hil => by
      obtain ⟨cs', hc, ht'⟩ := hi i (by rw [hmm]; simp only [if_true]; omega)
      rw [T.cc] at hc
      obtain ⟨_, hcl, hcell⟩ := World.cells?_some hc
      obtain ⟨x, R, c, e, hF, hN, hR⟩ := trod_ctr T hcl ht'
      have hx : ∀ j, j < 11 → W.cell? ((a.add (i * 11)).add j) = (x.cells R c)[j]? := fun j hj => by rw [hcell j hj, e]
      have h0 := hx 0 (by omega)
      have hb := World.block_lt_of_cell? W _ h0
      rw [Lists.add_block, Lists.add_block] at hb
      refine ⟨x, hF, hb, R, c, ⟨h0, ?_⟩, hN⟩
      have hj : ∀ j, j ≠ 0 → j < 11 → W.cell? ⟨(a.add (i * 11)).block, (a.add (i * 11)).off + j, none⟩ = (x.cells R c)[j]? := fun j h1 h2 => by rw [← add_lit _ j h1]; exact hx j h2
      exact ⟨hj 1 (by omega) (by omega), hj 2 (by omega) (by omega), hj 3 (by omega) (by omega), hj 4 (by omega) (by omega), hj 5 (by omega) (by omega), hj 6 (by omega) (by omega), hj 7 (by omega) (by omega), hj 8 (by omega) (by omega), hj 9 (by omega) (by omega), hj 10 (by omega) (by omega), hR⟩)
    refine ⟨some a, cap, l, by rw [e1, hll], fun k x hk => ?_, by rw [hll]; unfold maxLen at hm; omega, by rw [hll]; exact hl, by unfold maxLen at hm; omega⟩
    obtain ⟨hF, hb, R, c, hc, hN⟩ := hat k x hk
    exact ⟨hF, a, R, c, rfl, hb, hc, hN⟩
theorem trod_lbls (T : Types P) {n : Nat} {v : Value} {y : DataW H × List MemPlace} (h : DataW.trod enc P W 0 (fun _ => true) true n T.tls [v] = some y) :
    ∃ A c l, v = .slice A l.length c ∧ Lbls W A l ∧ l.length ≤ 9223372036854775807 ∧ l.length ≤ c ∧ c ≤ 9223372036854775807 := by
  rcases open_slice T.hls h with h0 | ⟨a, len, cap, m, n, D, Pl, hcs, _, hl, hm, hmm, _, hi⟩
  · injection h0.1 with e1 _
    exact ⟨none, 0, [], e1, fun k x hk => by simp at hk, by simp, by simp, by simp⟩
  · injection hcs with e1 _
    obtain ⟨l, hll, hat⟩ := list_of (Q := fun i (x : Lbl) => a.block < W.heap.size ∧ x.cellsAt W (a.add (i * 2))) len (fun i hil => by
      obtain ⟨cs', hc, ht'⟩ := hi i (by rw [hmm]; simp only [if_true]; omega)
      rw [T.cl] at hc
      obtain ⟨_, hcl, hcell⟩ := World.cells?_some hc
      match cs', hcl with
      | [c0, c1], _ =>
        obtain ⟨_, _, h0⟩ := trod_field T.hl T.bl ht' (j := 0) rfl
        obtain ⟨_, _, h1⟩ := trod_field T.hl T.bl ht' (j := 1) rfl
        obtain ⟨s0, e0⟩ := trod_text T.hs h0
        obtain ⟨s1, e1⟩ := trod_text T.hs h1
        subst e0 e1
        have k0 := hcell 0 (by omega)
        have hb := World.block_lt_of_cell? W _ k0
        rw [Lists.add_block, Lists.add_block] at hb
        exact ⟨⟨s0, s1⟩, hb, k0, by rw [← add_lit _ 1 (by omega)]; exact hcell 1 (by omega)⟩)
    refine ⟨some a, cap, l, by rw [e1, hll], fun k x hk => ?_, by rw [hll]; unfold maxLen at hm; omega, by rw [hll]; exact hl, by unfold maxLen at hm; omega⟩
    obtain ⟨hb, hc⟩ := hat k x hk
    exact ⟨a, rfl, hb, hc⟩
end
end LawKit
end Go.Proofs.YtbichomjpmmjmaaGreatDoor

/-
  What an error of package fail is in memory (a code innermost, steps around it), what a list of texts is, and that both stay as they are while the memory that was there does. Plain facts; no condition.
-/
namespace Go.Proofs.YtbichomjpmmjmaaGreatDoor
open Go.RowKit
namespace Err
/-- the value E is, in the world w, the error of the code c with the path p -/
inductive Is (w : World) : Value → Int → List ByteArray → Prop
  | code (c : Int) : Is w (.iface 53 (.int .i64 c)) c []
  | step (b o : Nat) (E : Value) (s : ByteArray) (c : Int) (p : List ByteArray) : w.cell? ⟨b, o, none⟩ = some (.string s) → w.cell? ⟨b, o + 1, none⟩ = some E → Is w E c p →
      Is w (.iface 157 (.pointer (some ⟨b, o, none⟩))) c (s :: p)
theorem lt_of_cell {w : World} {a : Addr} {v : Value} (h : w.cell? a = some v) : a.block < w.heap.size := by
  rcases Nat.lt_or_ge a.block w.heap.size with hl | hl
  · exact hl
  · simp [World.cell?, Array.getElem?_eq_none hl] at h
theorem Is.iface {w : World} {E : Value} {c : Int} {p : List ByteArray} (h : Is w E c p) : ∃ u x, E = .iface u x := by
  cases h <;> exact ⟨_, _, rfl⟩
/-- the slice at A holds the texts xs -/
def Texts (w : World) (A : Option Addr) (xs : List ByteArray) : Prop := ∀ k x, xs[k]? = some x → ∃ a, A = some a ∧ w.cell? (a.add k) = some (.string x)
theorem Texts.below {w w' : World} {A : Option Addr} {xs : List ByteArray} (h : Texts w A xs) (hb : Below w.heap.size w w') : Texts w' A xs := by
  intro k x hx
  obtain ⟨a, ha, hc⟩ := h k x hx
  exact ⟨a, ha, (hb.cell (lt_of_cell hc)).trans hc⟩
end Err
end Go.Proofs.YtbichomjpmmjmaaGreatDoor

/-
  Closed facts on the model's entries for internal/reflectlite and on method sets, at the types of package fail: what errors.Is, errors.As and errors.Unwrap find at a code and at a step. No condition but the cell that an entry reads or writes.
-/
namespace Go.Proofs.YtbichomjpmmjmaaGreatDoor
open Go.RowKit Go.Extern.Stop Go.Stop Go.Extern
namespace Err
/-! what reflectlite tells of the target's type (errors.Is) -/
/-! what the assertions find -/
/-! '==' of two codes -/
/-! what reflectlite does for errors.As -/
end Err
end Go.Proofs.YtbichomjpmmjmaaGreatDoor

/-
  The contracts of errors.Unwrap and of what package fail builds on it (fail.unwrapped): the error within a step; nil of a code. All that was there is left as it was. Conditions: the value is an error of package fail.
-/
namespace Go.Proofs.YtbichomjpmmjmaaGreatDoor
open Go.RowKit Go.Extern.Stop Go.Stop Go.Extern
namespace Err
end Err
end Go.Proofs.YtbichomjpmmjmaaGreatDoor

/-
  The contracts of errors.As at a target of type *api.Code, of fail.codeWithin and of fail.Code: the code of an error of package fail; OK of nil. All that was there is left as it was. Conditions: the value is an error of package fail; errors.errorType holds the type error (Laid).
-/
namespace Go.Proofs.YtbichomjpmmjmaaGreatDoor
open Go.RowKit Go.Extern.Stop Go.Stop Go.Extern
namespace Err
end Err
end Go.Proofs.YtbichomjpmmjmaaGreatDoor

/-
  From a row's list of variables to what errors.As asks (errors.errorType holds the type error), and one world that fits the list. Condition: the list, which is errors.errorType alone, is met.
-/
namespace Go.Proofs.YtbichomjpmmjmaaGreatDoor
open Go.ChangeShapes Go.WideShapes Go.ChangeAt Go.RowKit
namespace LaidErr
end LaidErr
end Go.Proofs.YtbichomjpmmjmaaGreatDoor

/-
  What names, keys, values and images are, as plain functions of lists of bytes; that what stands between the bytes c is what strings.Cut and strings.Split tell. No condition.
-/
namespace Go.Proofs.YtbichomjpmmjmaaGreatDoor
open Go.Lib
namespace TextPure
def small (n : Nat) : Bool := (decide (97 ≤ n) && decide (n ≤ 122)) || (decide (48 ≤ n) && decide (n ≤ 57))
def nameB (n : Nat) : Bool := small n || n == 45
def tagB (n : Nat) : Bool := nameB n || n == 46
def valB (n : Nat) : Bool := tagB n || (decide (65 ≤ n) && decide (n ≤ 90)) || n == 95
/-- the n-th byte as a number -/
def at' (l : List UInt8) (k : Nat) : Nat := (l.getD k 0).toNat
def nameL (l : List UInt8) : Bool := decide (1 ≤ l.length) && decide (l.length ≤ 16) && small (at' l 0) && small (at' l (l.length - 1)) && l.all fun b => nameB b.toNat
def valL (l : List UInt8) : Bool := decide (l.length ≤ 16) && l.all fun b => valB b.toNat
def tagL (l : List UInt8) : Bool := decide (1 ≤ l.length) && decide (l.length ≤ 8) && l.all fun b => tagB b.toNat
/-- what stands between the bytes c -/
def pieces (c : UInt8) : List UInt8 → List (List UInt8)
  | [] => [[]]
  | b :: l => if b = c then [] :: pieces c l else match pieces c l with
    | [] => [[b]]
    | p :: ps => (b :: p) :: ps
def repoL (l : List UInt8) : Bool := decide (l.length ≤ 24) && (pieces 47 l).all nameL
def keyL (l : List UInt8) : Bool := (cut l [47]).1 |> nameL |> (· && (!(cut l [47]).2.2 || nameL (cut l [47]).2.1))
def imageL (l : List UInt8) : Bool := (cut l [58]).2.2 && repoL (cut l [58]).1 && tagL (cut l [58]).2.1
theorem pieces_ne (c : UInt8) (l : List UInt8) : pieces c l ≠ [] := by
  cases l with
  | nil => simp [pieces]
  | cons b l =>
    unfold pieces
    split
    · simp
    · split <;> simp
theorem index_cons_eq (c : UInt8) (l : List UInt8) : index (c :: l) [c] = 0 := by rw [index]; simp [List.isPrefixOf]
theorem index_cons_ne {b c : UInt8} (l : List UInt8) (h : b ≠ c) : index (b :: l) [c] = if index l [c] == -1 then -1 else index l [c] + 1 := by
  have hp : ([c] : List UInt8).isPrefixOf (b :: l) = false := by simp [List.isPrefixOf, Ne.symm h]
  rw [index, hp]; simp
/-- strings.Cut and the pieces -/
theorem cut_cons_eq (c : UInt8) (l : List UInt8) : cut (c :: l) [c] = ([], l, true) := by unfold cut; rw [index_cons_eq]; simp
theorem cut_cons_ne {b c : UInt8} (l : List UInt8) (h : b ≠ c) : cut (b :: l) [c] = (b :: (cut l [c]).1, (cut l [c]).2.1, (cut l [c]).2.2) := by
  have hge := index_ge l [c]
  unfold cut
  rw [index_cons_ne l h]
  by_cases hm : index l [c] = -1
  · simp [hm]
  · have h0 : 0 ≤ index l [c] := by omega
    have h1 : 0 ≤ index l [c] + 1 := by omega
    have e1 : (index l [c] + 1).toNat = (index l [c]).toNat + 1 := by omega
    have hb : (index l [c] == -1) = false := by simpa using hm
    rw [hb]
    simp only [Bool.false_eq_true, if_false]
    rw [if_pos h1, if_pos h0, e1]
    simp
theorem cut_nil (c : UInt8) : cut [] [c] = ([], [], false) := by simp [cut, index]
theorem cut_join (c : UInt8) : ∀ l : List UInt8, (cut l [c]).2.2 = true → l = (cut l [c]).1 ++ c :: (cut l [c]).2.1
  | [], h => by rw [cut_nil] at h; cases h
  | b :: l, h => by
    by_cases hb : b = c
    · subst hb; rw [cut_cons_eq]; rfl
    · rw [cut_cons_ne l hb] at h ⊢
      have := cut_join c l h
      simp only [List.cons_append]
      rw [← this]
theorem cut_none (c : UInt8) : ∀ l : List UInt8, (cut l [c]).2.2 = false → (cut l [c]).1 = l ∧ (cut l [c]).2.1 = []
  | [], _ => by rw [cut_nil]; exact ⟨rfl, rfl⟩
  | b :: l, h => by
    by_cases hb : b = c
    · subst hb; rw [cut_cons_eq] at h; cases h
    · rw [cut_cons_ne l hb] at h ⊢
      have := cut_none c l h
      exact ⟨by simp [this.1], this.2⟩
theorem cut_len (c : UInt8) (l : List UInt8) : (cut l [c]).1.length ≤ l.length ∧ (cut l [c]).2.1.length ≤ l.length := by
  cases h : (cut l [c]).2.2 with
  | true =>
    have := congrArg List.length (cut_join c l h)
    simp at this
    omega
  | false =>
    obtain ⟨h1, h2⟩ := cut_none c l h
    rw [h1, h2]; simp
/-- strings.Split's pieces -/
theorem splitK_pieces (c : UInt8) : ∀ l : List UInt8, splitK [c] 0 (count l [c]) l = pieces c l
  | [] => by rw [count_miss (by simp [index])]; rfl
  | b :: l => by
    have ih := splitK_pieces c l
    by_cases h : b = c
    · subst h
      rw [count_cons_eq, Nat.add_comm, splitK, index_cons_eq, pieces, if_pos rfl]
      simp only [show ((0 : Int) == -1) = false from rfl, Bool.false_eq_true, if_false]
      simp [ih]
    · rw [count_cons_ne b c l h, pieces, if_neg h, ← ih]
      have hge := index_ge l [c]
      have hix := index_cons_ne l h
      by_cases hm : index l [c] = -1
      · rw [count_miss hm]; rfl
      · obtain ⟨j, hj⟩ : ∃ j : Nat, index l [c] = j := ⟨(index l [c]).toNat, by omega⟩
        have hj1 : index (b :: l) [c] = ((j + 1 : Nat) : Int) := by rw [hix, if_neg (by simpa using hm), hj]; omega
        rw [count_hit (by simp) hj, Nat.add_comm]
        have n1 : (index (b :: l) [c] == -1) = false := by rw [hj1]; exact beq_false_of_ne (by omega)
        have n2 : (index l [c] == -1) = false := by rw [hj]; exact beq_false_of_ne (by omega)
        rw [splitK, n1, splitK, n2, hj1, hj]
        simp
theorem nameL_len {l : List UInt8} (h : nameL l = true) : 1 ≤ l.length ∧ l.length ≤ 16 := by
  unfold nameL at h
  simp only [Bool.and_eq_true, decide_eq_true_eq] at h
  exact h.1.1.1
end TextPure
end Go.Proofs.YtbichomjpmmjmaaGreatDoor

/-
  The contracts of text's bytes: which kind a byte is of, where a kind may stand, whether all bytes of a text may stand somewhere. All is left as it was. Condition: the table holds what the program's text lays (Laid).
-/
namespace Go.Proofs.YtbichomjpmmjmaaGreatDoor
open Go.ChangeShapes Go.WideShapes Go.ChangeAt Go.RowKit
open TextPure
namespace Text
/-- the table's words -/
def word : Nat → Nat → Int
  | 1, 1 => 2281701374
  | 2, 0 => 70368744177664
  | 3, 0 => 35184372088832
  | 4, 0 => 287948901175001088
  | 4, 1 => 576460743713488896
  | _, _ => 0
/-- what the listed variables hold -/
structure Laid (w : World) : Prop where
  max : ∃ m, w.cell? ⟨1, 0, none⟩ = some (.int .i64 m)
  tab : ∀ k q, k < 5 → q < 4 → w.cell? ⟨0, k * 4 + q, none⟩ = some (.int .u64 (word k q))
theorem Laid.below {w w' : World} (h : Laid w) (hb : Below w.heap.size w w') : Laid w' := by
  obtain ⟨⟨m, hm⟩, ht⟩ := h
  refine ⟨⟨m, ?_⟩, fun k q hk hq => ?_⟩
  · rw [hb.cell (World.block_lt_of_cell? _ _ hm)]; exact hm
  · have := ht k q hk hq
    rw [hb.cell (World.block_lt_of_cell? _ _ this)]; exact this
/-- the kind of a byte -/
def kindN (n : Nat) : Nat := if small n then 4 else if n == 45 then 3 else if n == 46 then 2 else if (decide (65 ≤ n) && decide (n ≤ 90)) || n == 95 then 1 else 0
/-- does the table say that the byte is of the kind? -/
def bit (k n : Nat) : Bool := bits BinOp.and IntKind.u64 (word k (n / 64) / 2 ^ (n % 64)) 1 == 1
def kindT (n : Nat) : Bool := (List.range 5).all fun k => !(((List.range k).all fun j => !bit j n) && bit k n) || kindN n == k
def kindF (n : Nat) : Bool := !((List.range 5).all fun j => !bit j n) || kindN n == 0
theorem kinds_told : ((List.range 256).all fun n => kindT n && kindF n) = true := by decide +kernel
theorem kind_hit {n k : Nat} (hn : n < 256) (hk : k < 5) (h : ∀ j, j < k → bit j n = false) (hb : bit k n = true) : kindN n = k := by
  have h1 := List.all_eq_true.1 kinds_told n (List.mem_range.2 hn)
  simp only [Bool.and_eq_true] at h1
  have h2 := List.all_eq_true.1 h1.1 k (List.mem_range.2 hk)
  have h3 : ((List.range k).all fun j => !bit j n) = true := List.all_eq_true.2 fun j hj => by rw [h j (List.mem_range.1 hj)]; rfl
  rw [h3, hb] at h2
  simpa using h2
theorem kind_miss {n : Nat} (hn : n < 256) (h : ∀ j, j < 5 → bit j n = false) : kindN n = 0 := by
  have h1 := List.all_eq_true.1 kinds_told n (List.mem_range.2 hn)
  simp only [Bool.and_eq_true] at h1
  have h2 := h1.2
  unfold kindF at h2
  have h3 : ((List.range 5).all fun j => !bit j n) = true := List.all_eq_true.2 fun j hj => by rw [h j (List.mem_range.1 hj)]; rfl
  rw [h3] at h2
  simpa using h2
set_option maxRecDepth 100000 in
theorem kind_any (n : Nat) (hn : n < 256) (w : World) (hL : Laid w) :
    Calls Tryz.prog 144 #[.int .u8 n] w fun e w' => e = .returned (.int .i64 (kindN n : Nat)) ∧ w = w' := by
  have HL := Lib.hid hL
  clear hL
  go_enter Tryz.func144, Tryz.ntmps144
  go_wp2_with fail
  go_loop [4] (fun i => ∃ k : Nat, k ≤ 5 ∧ i = .int .i64 k ∧ Hid (∀ j, j < k → bit j n = false)) (fun i => 5 - (RowKit.intOf i).toNat)
  case atStart => exact ⟨0, by omega, rfl, fun j h => by omega⟩
  case round =>
    obtain ⟨k, hk, rfl, HA⟩ := hrel
    by_cases hlt : k < 5
    · have hc := HL.out.tab k (n / 64) hlt (by omega)
      cases hb : bit k n with
      | true =>
        have hb' : (bits BinOp.and IntKind.u64 (word k (n / 64) / 2 ^ (n % 64)) 1 == 1) = true := hb
        go_wp2_with fail
        go_ret
        exact ⟨by rw [kind_hit hn hlt HA.out hb]; rfl, rfl⟩
      | false =>
        have hb' : (bits BinOp.and IntKind.u64 (word k (n / 64) / 2 ^ (n % 64)) 1 == 1) = false := hb
        go_wp2_with fail
        go_round
        case rel =>
          refine ⟨k + 1, by omega, by go_num, fun j hj => ?_⟩
          by_cases e : j = k
          · subst e; exact hb
          · exact HA.out j (by omega)
        case measure => simp [RowKit.intOf]; omega
    · obtain rfl : k = 5 := by omega
      go_wp2_with fail
      go_ret
      exact ⟨by rw [kind_miss hn HA.out]; rfl, rfl⟩
def placesN : Nat → Nat
  | 4 => 15
  | 3 => 7
  | 2 => 3
  | 1 => 1
  | _ => 0
theorem places_any (k : Nat) (hk : k < 5) (w : World) :
    Calls Tryz.prog 143 #[.int .i64 k] w fun e w' => e = .returned (.int .i64 (placesN k : Nat)) ∧ w = w' := by
  rcases k with _ | _ | _ | _ | _ | k
  all_goals first | (exfalso; omega) | skip
  all_goals
    go_enter Tryz.func143, Tryz.ntmps143
    go_wp2_with fail
    go_ret
    exact ⟨rfl, rfl⟩
/-- may the byte stand in the place? 1: a value, 2: a tag, 4: a name, 8: a name's end -/
def standN (p n : Nat) : Bool := match p with
  | 1 => valB n
  | 2 => tagB n
  | 4 => nameB n
  | _ => small n
def stands (p n : Nat) : Bool := (bits BinOp.and IntKind.i64 (placesN (kindN n) : Nat) (p : Nat) != 0) == standN p n
theorem stands_told : ((List.range 256).all fun n => stands 1 n && stands 2 n && stands 4 n && stands 8 n) = true := by decide +kernel
theorem stand_eq {p n : Nat} (hn : n < 256) (hp : p = 1 ∨ p = 2 ∨ p = 4 ∨ p = 8) : (bits BinOp.and IntKind.i64 (placesN (kindN n) : Nat) (p : Nat) != 0) = standN p n := by
  have h1 := List.all_eq_true.1 stands_told n (List.mem_range.2 hn)
  simp only [Bool.and_eq_true] at h1
  rcases hp with rfl | rfl | rfl | rfl
  · exact eq_of_beq h1.1.1.1
  · exact eq_of_beq h1.1.1.2
  · exact eq_of_beq h1.1.2
  · exact eq_of_beq h1.2
theorem kind_lt (n : Nat) : kindN n < 5 := by unfold kindN; repeat' split
                                              all_goals omega
theorem may_any (n p : Nat) (hn : n < 256) (hp : p = 1 ∨ p = 2 ∨ p = 4 ∨ p = 8) (w : World) (hL : Laid w) :
    Calls Tryz.prog 114 #[.int .u8 n, .int .i64 p] w fun e w' => e = .returned (.bool (standN p n)) ∧ w = w' := by
  have HL := Lib.hid hL
  clear hL
  have HP := Lib.hid hp
  clear hp
  have hk := Lib.hid (kind_lt n)
  have hst := stand_eq hn HP.out
  go_enter Tryz.func114, Tryz.ntmps114
  go_wp2_with fail
  refine (kind_any n hn _ HL.out).mono ?_
  rintro e w' ⟨rfl, rfl⟩
  go_wp2_with fail
  refine (places_any _ hk.out _).mono ?_
  rintro e w' ⟨rfl, rfl⟩
  go_wp2_with fail
  go_ret
  exact ⟨by rw [← hst]; rfl, rfl⟩
theorem at_byte (s : ByteArray) (k : Nat) (h : k < s.size) : s[k].toNat = at' s.data.toList k := by
  unfold at'
  rw [List.getD_eq_getElem?_getD, List.getElem?_eq_getElem (by simpa using h)]
  simp only [Option.getD_some, Array.getElem_toList]
  rfl
theorem all_at {f : Nat → Bool} (l : List UInt8) : (l.all fun b => f b.toNat) = true ↔ ∀ k, k < l.length → f (at' l k) = true := by
  rw [List.all_eq_true]
  constructor
  · intro h k hk
    unfold at'
    rw [List.getD_eq_getElem?_getD, List.getElem?_eq_getElem hk]
    exact h _ (List.getElem_mem hk)
  · intro h b hb
    obtain ⟨k, hk, rfl⟩ := List.getElem_of_mem hb
    have := h k hk
    unfold at' at this
    rw [List.getD_eq_getElem?_getD, List.getElem?_eq_getElem hk] at this
    exact this
theorem all_not {f : Nat → Bool} {l : List UInt8} {k : Nat} (hk : k < l.length) (h : f (at' l k) = false) : (l.all fun b => f b.toNat) = false := by
  cases hx : l.all fun b => f b.toNat with
  | false => rfl
  | true => rw [(all_at l).1 hx k hk] at h; cases h
/-- may all bytes stand there? -/
def allN (p : Nat) (l : List UInt8) : Bool := l.all fun b => standN p b.toNat
set_option maxRecDepth 100000 in
theorem all_any (s : ByteArray) (p : Nat) (hp : p = 1 ∨ p = 2 ∨ p = 4 ∨ p = 8) (hs : s.size ≤ 100) (w : World) (hL : Laid w) :
    Calls Tryz.prog 115 #[.string s, .int .i64 p] w fun e w' => e = .returned (.bool (allN p s.data.toList)) ∧ w = w' := by
  have HL := Lib.hid hL
  have HP := Lib.hid hp
  clear hp hL
  have hlen : s.data.toList.length = s.size := by rw [Array.length_toList]; rfl
  have HN := Lib.hid hlen
  clear hlen
  go_enter Tryz.func115, Tryz.ntmps115
  go_wp2_with fail
  go_loop [8] (fun i => ∃ k : Nat, k ≤ s.size ∧ i = .int .i64 k ∧ Hid (∀ j, j < k → standN p (at' s.data.toList j) = true)) (fun i => s.size - (RowKit.intOf i).toNat)
  case atStart => exact ⟨0, by omega, rfl, fun j h => by omega⟩
  case round =>
    obtain ⟨k, hk, rfl, HA⟩ := hrel
    by_cases hlt : k < s.size
    · have HB := Lib.hid (at_byte s k hlt)
      go_wp2_with fail
      refine (may_any s[k].toNat p s[k].toNat_lt HP.out _ HL.out).mono ?_
      rintro e w' ⟨rfl, rfl⟩
      cases hb : standN p s[k].toNat with
      | true =>
        go_wp2_with fail
        go_round
        case rel =>
          refine ⟨k + 1, by omega, by go_num, fun j hj => ?_⟩
          by_cases e : j = k
          · subst e; rw [← HB.out]; exact hb
          · exact HA.out j (by omega)
        case measure => simp [RowKit.intOf]; omega
      | false =>
        go_wp2_with fail
        go_ret
        refine ⟨?_, rfl⟩
        rw [show allN p s.data.toList = false from all_not (k := k) (by rw [HN.out]; exact hlt) (by rw [← HB.out]; exact hb)]; rfl
    · obtain rfl : k = s.size := by omega
      go_wp2_with fail
      go_ret
      refine ⟨?_, rfl⟩
      rw [show allN p s.data.toList = true from (all_at s.data.toList).2 (fun j hj => HA.out j (by rw [HN.out] at hj; exact hj))]; rfl
end Text
end Go.Proofs.YtbichomjpmmjmaaGreatDoor

/-
  From a row's list of variables and the world's shape to what package text's contracts ask (Text.Laid): the table of bits, and a number in internal/bytealg.MaxLen; and one world that fits the list. Condition: the list (text.bytesOf and utf8's two tables) is met.
-/
namespace Go.Proofs.YtbichomjpmmjmaaGreatDoor
open Go.ChangeShapes Go.WideShapes Go.ChangeAt Go.RowKit
namespace LaidText
theorem laid_mem {P : Program} {w : World} : ∀ {l : List (String × DataW Unit)} {ps : List MemPlace} {n : String} {d : DataW Unit}, DataW.LaidVars P w l ps → (n, d) ∈ l →
    ∃ g t cs fuel p, P.globalNamed n = some g ∧ (P.globals[g]?).map (·.type) = some t ∧ w.var? P n = some cs ∧ DataW.trod (fun _ => ()) P w 0 (fun _ => true) false fuel t cs.toList = some (d, p) := by
  intro l
  induction l with
  | nil => intro ps n d _ h; simp at h
  | cons x l ih =>
    intro ps n d h hm
    obtain ⟨m, e⟩ := x
    obtain ⟨g, t, cs, fuel, p, q, h1, h2, h3, h4, h5, _⟩ := h
    rcases List.mem_cons.1 hm with hm | hm
    · injection hm with hm1 hm2
      subst hm1 hm2
      exact ⟨g, t, cs, fuel, p, h1, h2, h3, h4⟩
    · exact ih h5 hm
/-- a table of rows of numbers, cell for cell -/
theorem cells_of_rows {H : Type} {enc : TypeId × Value → H} {P : Program} {w : World} {base : Nat} {sp : Nat → Bool} {held : Bool} {fuel : Nat} {t r e : TypeId} {n m : Nat} {k : IntKind} {cs : List Value} {d : DataW H} {p : List MemPlace}
    (ht : P.underlying t = some (.array n r)) (hr : P.underlying r = some (.array m e)) (he : P.underlying e = some (.int k)) (hce : P.cellsOf e = 1) (hcr : P.cellsOf r = m) (f : Nat → Nat → Int)
    (hd : d = .agg ((List.range n).map fun i => .agg ((List.range m).map fun j => .lit (.int k (f i j)))))
    (h : DataW.trod enc P w base sp held fuel t cs = some (d, p)) (i j : Nat) (hi : i < n) (hj : j < m) : cs[i * m + j]? = some (.int k (f i j)) := by
  obtain ⟨xs, m1, _, hx, _, hl, hall⟩ := DataW.trod_array ht h
  have hi' := hall i hi
  rw [hcr, List.getElem?_eq_getElem (by omega)] at hi'
  obtain ⟨ys, m2, _, hy, _, hl2, hall2⟩ := DataW.trod_array hr hi'
  have hj' := hall2 j hj
  rw [hce, List.getElem?_eq_getElem (by omega)] at hj'
  obtain ⟨z, hz, hz2, _⟩ := DataW.trod_int he hj'
  have h1 : xs[i].1 = .agg ((List.range m).map fun j => .lit (.int k (f i j))) := by
    have h0 := congrArg Prod.fst hx
    rw [hd] at h0
    simp only [DataW.agg.injEq] at h0
    have h2 := congrArg (·[i]?) h0
    simp only [List.getElem?_map, List.getElem?_range hi, List.getElem?_eq_getElem (show i < xs.length by omega), Option.map_some] at h2
    exact (Option.some.inj h2).symm
  have h3 : ys[j].1 = .lit (.int k (f i j)) := by
    have h0 := congrArg Prod.fst hy
    rw [h1] at h0
    simp only [DataW.agg.injEq] at h0
    have h2 := congrArg (·[j]?) h0
    simp only [List.getElem?_map, List.getElem?_range hj, List.getElem?_eq_getElem (show j < ys.length by omega), Option.map_some] at h2
    exact (Option.some.inj h2).symm
  rw [hz2] at h3
  simp only [DataW.lit.injEq, Lit.int.injEq, true_and] at h3
  subst h3
  have h4 := congrArg (·[0]?) hz
  simp only [List.getElem?_cons_zero] at h4
  rw [List.getElem?_take_of_lt (by omega), List.getElem?_drop, List.getElem?_take_of_lt (by omega), List.getElem?_drop] at h4
  simpa using h4
theorem table_datum : (Rows.laid_provost_text_bytesOf : DataW Unit) = .agg ((List.range 5).map fun i => .agg ((List.range 4).map fun j => .lit (.int .u64 (Text.word i j)))) := by kernel_rfl
theorem gTab : Tryz.prog.globalNamed "provost/text.bytesOf" = some 0 := by kernel_rfl
theorem gTabType : (Tryz.prog.globals[0]?).map (·.type) = some 199 := by kernel_rfl
theorem cellsRow : Tryz.prog.cellsOf 198 = 4 := by kernel_rfl
theorem cellsU64 : Tryz.prog.cellsOf 106 = 1 := by kernel_rfl
theorem max_of {W : World} (h : W.ShapedOpen Tryz.prog) : ∃ m, W.cell? ⟨1, 0, none⟩ = some (.int .i64 m) :=
  cell_of_shapedOpen_int (t := 3) (zero := #[.int .i64 0]) h (by decide +kernel) (by kernel_rfl) rfl (by kernel_rfl) (by kernel_rfl) Tryz.underlying3
theorem laid_of {W : World} {l : List (String × DataW Unit)} (h : laidMet Tryz.prog l W) (hsh : W.ShapedOpen Tryz.prog) (hm : ("provost/text.bytesOf", Rows.laid_provost_text_bytesOf) ∈ l) : Text.Laid W := by
  obtain ⟨ps, hv, _⟩ := h
  obtain ⟨g', t', cs, fuel, p, h1, h2, h3, h4⟩ := laid_mem hv hm
  obtain rfl := Option.some.inj (gTab.symm.trans h1)
  obtain rfl := Option.some.inj (gTabType.symm.trans h2)
  refine ⟨max_of hsh, fun k q hk hq => ?_⟩
  have hc := cells_of_rows Tryz.underlying199 Tryz.underlying198 Tryz.underlying106 cellsU64 cellsRow Text.word table_datum h4 k q hk hq
  have hw := World.var?_cell gTab h3 (k * 4 + q)
  rw [hw]
  simpa using hc
/-- the cells of a table, out of its datum -/
def cellOf : DataW Unit → Value
  | .lit (.int k n) => .int k n
  | _ => undef
def rowOf : DataW Unit → List Value
  | .agg l => l.map cellOf
  | _ => []
def tabOf : DataW Unit → Array Value
  | .agg l => (l.flatMap rowOf).toArray
  | _ => #[]
def put (cs : Array Value) : Obj → Obj
  | .cells _ t frozen => .cells cs t frozen
  | o => o
end LaidText
end Go.Proofs.YtbichomjpmmjmaaGreatDoor

/-
  The contract of fail.Path: the path of an error of package fail, in a row of its own; no text of nil. All that was there is left as it was. Conditions: the value is an error of package fail, or nil; its path has at most 1000000 texts.
-/
namespace Go.Proofs.YtbichomjpmmjmaaGreatDoor
open Go.RowKit Go.Extern.Stop Go.Stop Go.Extern
namespace Err
theorem info_string : (Tryz.prog.info? 9).map (fun i => (i.zero, i.size, i.bytes)) = some (some (.string ⟨#[]⟩), 1, 16) := by kernel_rfl
end Err
end Go.Proofs.YtbichomjpmmjmaaGreatDoor

/-
  The contract of fail.Text: the path of an error of package fail, with a point between each two texts; the empty text of nil. All that was there is left as it was. Conditions: the value is an error of package fail, or nil; its path has at most 1000000 texts, and its text at most 2^47 bytes.
-/
namespace Go.Proofs.YtbichomjpmmjmaaGreatDoor
open Go.RowKit
namespace Err
/-- the texts of a path, a point between each two -/
def pathText (p : List ByteArray) : List UInt8 := Lib.join (p.map (·.data.toList)) [46]
end Err
end Go.Proofs.YtbichomjpmmjmaaGreatDoor

/-
  The contracts of fail.codeWithin and fail.Code: the code of an error of package fail; OK of nil. All that was there is left as it was. Conditions: the value is an error of package fail, or nil; errors.errorType holds the type error (Laid).
-/
namespace Go.Proofs.YtbichomjpmmjmaaGreatDoor
open Go.RowKit Go.Extern.Stop Go.Stop Go.Extern
namespace Err
end Err
end Go.Proofs.YtbichomjpmmjmaaGreatDoor

/-
  The contracts of fail.In, fail.New and fail.First: an error with one step more; the error of a code with a path, nil of OK; the first that is not nil. All that was there is left as it was. Conditions: the list holds the texts that are spoken of.
-/
namespace Go.Proofs.YtbichomjpmmjmaaGreatDoor
open Go.RowKit
namespace Err
theorem in_nil (s : ByteArray) (w : World) :
    Calls Tryz.prog 92 #[.nilIface, .string s] w fun e w' => e = .returned .nilIface ∧ w = w' := by
  go_enter Tryz.func92, Tryz.ntmps92
  go_wp2
  go_ret
  exact ⟨rfl, rfl⟩
theorem in_some (u : TypeId) (x : Value) (s : ByteArray) (w : World) :
    Calls Tryz.prog 92 #[.iface u x, .string s] w fun e w' => e = .returned (.iface 157 (.pointer (some ⟨w.heap.size, 0, none⟩))) ∧ w' = w.alloc (.cells #[.string s, .iface u x] 159) := by
  go_enter Tryz.func92, Tryz.ntmps92
  go_wp2
  go_ret
  exact ⟨rfl, rfl⟩
theorem new_ok (v : Value) (w : World) :
    Calls Tryz.prog 74 #[.int .i64 0, v] w fun e w' => e = .returned .nilIface ∧ w = w' := by
  go_enter Tryz.func74, Tryz.ntmps74
  go_wp2
  go_ret
  exact ⟨rfl, rfl⟩
/-- the first of some values that is not nil -/
def firstOf : List Value → Value
  | [] => .nilIface
  | .nilIface :: r => firstOf r
  | E :: _ => E
theorem first_any (Es : List Value) (A : Option Addr) (cap : Nat) (w : World) (hE : ∀ (k : Nat) (E : Value), Es[k]? = some E → E = .nilIface ∨ ∃ u x, E = .iface u x)
    (hT : ∀ (k : Nat) (E : Value), Es[k]? = some E → ∃ a, A = some a ∧ w.cell? (a.add k) = some E) (hn : Es.length ≤ 9223372036854775807) :
    Calls Tryz.prog 73 #[.slice A Es.length cap] w fun e w' => e = .returned (firstOf Es) ∧ w = w' := by
  have HT := Lib.hid hT
  have HE := Lib.hid hE
  clear hT hE
  go_enter Tryz.func73, Tryz.ntmps73
  go_wp2
  go_loop [7] (fun i => ∃ k : Nat, k ≤ Es.length ∧ i = .int .i64 k ∧ firstOf Es = firstOf (Es.drop k)) (fun i => Es.length - (RowKit.intOf i).toNat)
  case atStart => exact ⟨0, Nat.zero_le _, rfl, rfl⟩
  case round =>
    obtain ⟨k, hk, rfl, hf⟩ := hrel
    have HF := Lib.hid hf
    clear hf
    by_cases hlt : k < Es.length
    · obtain ⟨a, rfl, hcell⟩ := HT.out k Es[k] (List.getElem?_eq_getElem hlt)
      have hd := List.drop_eq_getElem_cons hlt
      have HD := Lib.hid hd
      clear hd
      have hj : (k : Int) < (Es.length : Int) := by omega
      rcases HE.out k Es[k] (List.getElem?_eq_getElem hlt) with h0 | ⟨u, x, h0⟩
      · rw [h0] at hcell
        have H0 := Lib.hid h0
        clear h0
        go_wp2
        go_round
        case rel => exact ⟨k + 1, by omega, by go_num, by rw [HF.out, HD.out, H0.out]; rfl⟩
        case measure => simp [RowKit.intOf]; omega
      · rw [h0] at hcell
        have H0 := Lib.hid h0
        clear h0
        go_wp2
        go_ret
        exact ⟨by rw [HF.out, HD.out, H0.out]; rfl, rfl⟩
    · go_wp2
      go_ret
      exact ⟨by rw [HF.out, List.drop_of_length_le (by omega)]; rfl, rfl⟩
end Err
end Go.Proofs.YtbichomjpmmjmaaGreatDoor

/-
  The contracts of package fail at an error of a code, nil being the one of OK: fail.New, fail.In, fail.Code, fail.Path, fail.Text. All that was there is left as it was. Conditions: as the parts say.
-/
namespace Go.Proofs.YtbichomjpmmjmaaGreatDoor
open Go.RowKit
namespace Err
end Err
end Go.Proofs.YtbichomjpmmjmaaGreatDoor
