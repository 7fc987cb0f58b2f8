/-
  What comes in as a spec: its value, its labels and containers in memory. Condition: the types can be read.
-/
import Derived.Test.YtpllcnpmjnmcfaaDoorRc0
import Derived.Test.YtpllcnpmjnmcfaaDoorRc1
import Derived.Test.YtpllcnpmjnmcfaaDoorRc3
import Derived.Test.YtpllcnpmjnmcfaaDoorRc2
import Derived.Test.YtpllcnpmjnmcfaaDoorChecked
import Derived.SliceStrings
import Derived.Deep.Slices
import Derived.Deep.Fields
import Derived.ChangeSame
import Derived.ChangeSlices
import Derived.Lib.LaidTab
import Derived.WalkKit
import Derived.ProofKit
import Derived.Lib.Hide
import Derived.Handy
namespace Go.Proofs.YtpllcnpmjnmcfaaDoor
open Go.ChangeShapes Go.WideShapes Go.ChangeAt Go.RowKit Go.ChangeMaps Go.Deep
namespace LawKit
open Sd Lists
section
variable {H : Type} {enc : TypeId × Value → H} {P : Program} {W : World}

theorem i64_of {z : Int} (h : (Lit.int .i64 z).wf = true) : I64 z := by
  simp only [Lit.wf, IntKind.min, IntKind.max, Bool.and_eq_true] at h
  simp [IntKind.signed, IntKind.bits] at h
  exact ⟨by omega, by omega⟩
/-- where the fields of a struct lie: a field's place and how many cells it has -/
def fieldsB (P : Program) (fs : Array Field) (l : List (Nat × Nat × TypeId)) : Bool := decide (fs.size = l.length) && (List.range fs.size).all fun j => match fs[j]?, l[j]? with
  | some f, some x => f.offset == x.1 && P.cellsOf f.type == x.2.1 && f.type == x.2.2
  | _, _ => false
theorem field_of {P : Program} {fs : Array Field} {l : List (Nat × Nat × TypeId)} (h : fieldsB P fs l = true) {j o n : Nat} {t : TypeId} (hj : l[j]? = some (o, n, t)) : ∃ f, fs[j]? = some f ∧ f.offset = o ∧ P.cellsOf f.type = n ∧ f.type = t := by
  simp only [fieldsB, Bool.and_eq_true, decide_eq_true_eq] at h
  have hl : j < fs.size := by rw [h.1]; exact (List.getElem?_eq_some_iff.1 hj).1
  have := List.all_eq_true.1 h.2 j (List.mem_range.2 hl)
  rw [Array.getElem?_eq_getElem hl, hj] at this
  simp only [Bool.and_eq_true, beq_iff_eq] at this
  exact ⟨_, Array.getElem?_eq_getElem hl, this.1.1, this.1.2, this.2⟩
/-- a field's own reading -/
theorem trod_field {t : TypeId} {fs : Array Field} {l : List (Nat × Nat × TypeId)} {fuel : Nat} {cs : List Value} {x : DataW H × List MemPlace} (ht : P.underlying t = some (.struct fs)) (hf : fieldsB P fs l = true)
    (h : DataW.trod enc P W 0 (fun _ => true) true fuel t cs = some x) {j o n : Nat} {u : TypeId} (hj : l[j]? = some (o, n, u)) : ∃ m y, DataW.trod enc P W 0 (fun _ => true) true m u ((cs.drop o).take n) = some y := by
  obtain ⟨ys, n', _, _, _, hyl, hg⟩ := DataW.trod_struct ht h
  obtain ⟨f, h1, h2, h3, h4⟩ := field_of hf hj
  have := hg j f h1
  rw [h2, h3, h4] at this
  have hl : j < ys.length := by rw [hyl]; exact (Array.getElem?_eq_some_iff.1 h1).1
  rw [List.getElem?_eq_getElem hl] at this
  exact ⟨n', _, this⟩
theorem trod_i64 {t : TypeId} (ht : P.underlying t = some (.int .i64)) {n : Nat} {v : Value} {y : DataW H × List MemPlace} (h : DataW.trod enc P W 0 (fun _ => true) true n t [v] = some y) : ∃ z, v = .int .i64 z ∧ I64 z := by
  obtain ⟨z, e, _, hw⟩ := DataW.trod_int ht h
  simp at e
  exact ⟨z, e, i64_of hw⟩
theorem trod_text {t : TypeId} (ht : P.underlying t = some .string) {n : Nat} {v : Value} {y : DataW H × List MemPlace} (h : DataW.trod enc P W 0 (fun _ => true) true n t [v] = some y) : ∃ s, v = .string s := by
  obtain ⟨s, e, _⟩ := DataW.trod_string ht h
  simp at e
  exact ⟨s, e⟩
theorem trod_nums {t e : TypeId} {k : IntKind} (ht : P.underlying t = some (.slice e)) (he : P.underlying e = some (.int k)) (hce : P.cellsOf e = 1) {n : Nat} {v : Value} {y : DataW H × List MemPlace} (h : DataW.trod enc P W 0 (fun _ => true) true n t [v] = some y) :
    ∃ A c zs, v = .slice A zs.length c ∧ Nums k W A zs ∧ zs.length ≤ 9223372036854775807 ∧ zs.length ≤ c := by
  rcases open_ints ht he hce h with ⟨hcs, _⟩ | ⟨ad, len', cap', zs, hcs, _, hl, hm, hz, _, hcell, hw⟩
  · injection hcs with e1 _
    exact ⟨none, 0, [], e1, fun k x hk => by simp at hk, by simp, by simp⟩
  · injection hcs with e1 _
    simp only [if_true] at hz
    have hlen : (zs.take len').length = len' := by rw [List.length_take]; omega
    refine ⟨some ad, cap', zs.take len', by rw [e1, hlen], fun k x hk => ?_, by rw [hlen]; unfold maxLen at hm; omega, by rw [hlen]; exact hl⟩
    have hk1 : k < len' := by
      rcases Nat.lt_or_ge k len' with h | h
      · exact h
      · rw [List.getElem?_eq_none (by omega)] at hk; cases hk
    rw [List.getElem?_take_of_lt hk1] at hk
    have hc := hcell k (by omega)
    rw [List.getD_eq_getElem?_getD, hk] at hc
    have hb := World.block_lt_of_cell? W _ hc
    rw [Lists.add_block] at hb
    exact ⟨hw x (List.mem_of_getElem? hk), ad, rfl, hb, hc⟩
/-- the types that a spec is made of -/
structure Types (P : Program) where
  ti : TypeId
  ts : TypeId
  tl : TypeId
  tls : TypeId
  tr : TypeId
  tp : TypeId
  tn : TypeId
  tc : TypeId
  tcs : TypeId
  fl : Array Field
  fr : Array Field
  fp : Array Field
  fc : Array Field
  hi : P.underlying ti = some (.int .i64)
  hs : P.underlying ts = some .string
  hl : P.underlying tl = some (.struct fl)
  hls : P.underlying tls = some (.slice tl)
  hr : P.underlying tr = some (.struct fr)
  hp : P.underlying tp = some (.struct fp)
  hn : P.underlying tn = some (.slice ti)
  hc : P.underlying tc = some (.struct fc)
  hcs : P.underlying tcs = some (.slice tc)
  ci : P.cellsOf ti = 1
  cl : P.cellsOf tl = 2
  cc : P.cellsOf tc = 11
  bl : fieldsB P fl [(0, 1, ts), (1, 1, ts)] = true
  br : fieldsB P fr [(0, 1, ti), (1, 1, ti), (2, 1, ti)] = true
  bp : fieldsB P fp [(0, 1, ti), (1, 1, ti)] = true
  bc : fieldsB P fc [(0, 1, ts), (1, 1, ts), (2, 3, tr), (5, 3, tr), (8, 1, tn), (9, 2, tp)] = true
theorem trod_res (T : Types P) {n : Nat} {c0 c1 c2 : Value} {y : DataW H × List MemPlace} (h : DataW.trod enc P W 0 (fun _ => true) true n T.tr [c0, c1, c2] = some y) : ∃ a b c, c0 = .int .i64 a ∧ c1 = .int .i64 b ∧ c2 = .int .i64 c ∧ I64 a ∧ I64 b ∧ I64 c := by
  obtain ⟨m0, y0, h0⟩ := trod_field T.hr T.br h (j := 0) rfl
  obtain ⟨m1, y1, h1⟩ := trod_field T.hr T.br h (j := 1) rfl
  obtain ⟨m2, y2, h2⟩ := trod_field T.hr T.br h (j := 2) rfl
  obtain ⟨a, ea, ia⟩ := trod_i64 T.hi h0
  obtain ⟨b, eb, ib⟩ := trod_i64 T.hi h1
  obtain ⟨c, ec, ic⟩ := trod_i64 T.hi h2
  exact ⟨a, b, c, ea, eb, ec, ia, ib, ic⟩
theorem trod_ctr (T : Types P) {n : Nat} {cs : List Value} {y : DataW H × List MemPlace} (hlen : cs.length = 11) (h : DataW.trod enc P W 0 (fun _ => true) true n T.tc cs = some y) :
    ∃ (x : Ctr) (Q : Option Addr) (c : Nat), cs = x.cells Q c ∧ x.Fits ∧ Nums .i64 W Q x.ports ∧ x.ports.length ≤ c := by
  match cs, hlen with
  | [c0, c1, c2, c3, c4, c5, c6, c7, c8, c9, c10], _ =>
    obtain ⟨_, _, h0⟩ := trod_field T.hc T.bc h (j := 0) rfl
    obtain ⟨_, _, h1⟩ := trod_field T.hc T.bc h (j := 1) rfl
    obtain ⟨_, _, h2⟩ := trod_field T.hc T.bc h (j := 2) rfl
    obtain ⟨_, _, h3⟩ := trod_field T.hc T.bc h (j := 3) rfl
    obtain ⟨_, _, h4⟩ := trod_field T.hc T.bc h (j := 4) rfl
    obtain ⟨_, _, h5⟩ := trod_field T.hc T.bc h (j := 5) rfl
    obtain ⟨s0, e0⟩ := trod_text T.hs h0
    obtain ⟨s1, e1⟩ := trod_text T.hs h1
    obtain ⟨a2, a3, a4, e2, e3, e4, i2, i3, i4⟩ := trod_res T h2
    obtain ⟨a5, a6, a7, e5, e6, e7, i5, i6, i7⟩ := trod_res T h3
    obtain ⟨Q, c, zs, e8, hN, hZ, hR⟩ := trod_nums T.hn T.hi T.ci h4
    obtain ⟨_, _, h9⟩ := trod_field T.hp T.bp h5 (j := 0) rfl
    obtain ⟨_, _, h10⟩ := trod_field T.hp T.bp h5 (j := 1) rfl
    obtain ⟨a9, e9, i9⟩ := trod_i64 T.hi h9
    obtain ⟨a10, e10, i10⟩ := trod_i64 T.hi h10
    subst e0 e1 e2 e3 e4 e5 e6 e7 e8 e9 e10
    exact ⟨⟨s0, s1, a2, a3, a4, a5, a6, a7, zs, a9, a10⟩, Q, c, rfl, ⟨i2, i3, i4, i5, i6, i7, i9, i10, hZ⟩, hN, hR⟩
theorem add_lit (a : Addr) (i : Nat) (hi : i ≠ 0) : a.add i = ⟨a.block, a.off + i, none⟩ := by unfold Addr.add; rw [if_neg hi]
theorem list_of {α : Type} {Q : Nat → α → Prop} : ∀ (len : Nat), (∀ i, i < len → ∃ x, Q i x) → ∃ l : List α, l.length = len ∧ ∀ (k : Nat) (x : α), l[k]? = some x → Q k x
  | 0, _ => ⟨[], rfl, fun k x hk => by simp at hk⟩
  | n + 1, h => by
    obtain ⟨l, h1, h2⟩ := list_of n (fun i hi => h i (by omega))
    obtain ⟨x, hx⟩ := h n (by omega)
    refine ⟨l ++ [x], by simp [h1], fun k y hk => ?_⟩
    rcases Nat.lt_trichotomy k n with hlt | rfl | hgt
    · rw [List.getElem?_append_left (by omega)] at hk
      exact h2 k y hk
    · rw [List.getElem?_append_right (by omega), h1] at hk
      simp at hk
      subst hk
      exact hx
    · rw [List.getElem?_append_right (by omega)] at hk
      rw [List.getElem?_eq_none (by simp; omega)] at hk
      cases hk
theorem trod_ctrs (T : Types P) {n : Nat} {v : Value} {y : DataW H × List MemPlace} (h : DataW.trod enc P W 0 (fun _ => true) true n T.tcs [v] = some y) :
    ∃ A c l, v = .slice A l.length c ∧ Ctrs W A l ∧ l.length ≤ 9223372036854775807 ∧ l.length ≤ c ∧ c ≤ 9223372036854775807 := by
  rcases open_slice T.hcs h with h0 | ⟨a, len, cap, m, n, D, Pl, hcs, _, hl, hm, hmm, _, hi⟩
  · injection h0.1 with e1 _
    exact ⟨none, 0, [], e1, fun k x hk => by simp at hk, by simp, by simp, by simp⟩
  · injection hcs with e1 _
    obtain ⟨l, hll, hat⟩ := list_of (Q := fun i (x : Ctr) => x.Fits ∧ a.block < W.heap.size ∧ ∃ R c, x.cellsAt R c W (a.add (i * 11)) ∧ Nums .i64 W R x.ports) len (fun i hil => by
      obtain ⟨cs', hc, ht'⟩ := hi i (by rw [hmm]; simp only [if_true]; omega)
      rw [T.cc] at hc
      obtain ⟨_, hcl, hcell⟩ := World.cells?_some hc
      obtain ⟨x, R, c, e, hF, hN, hR⟩ := trod_ctr T hcl ht'
      have hx : ∀ j, j < 11 → W.cell? ((a.add (i * 11)).add j) = (x.cells R c)[j]? := fun j hj => by rw [hcell j hj, e]
      have h0 := hx 0 (by omega)
      have hb := World.block_lt_of_cell? W _ h0
      rw [Lists.add_block, Lists.add_block] at hb
      refine ⟨x, hF, hb, R, c, ⟨h0, ?_⟩, hN⟩
      have hj : ∀ j, j ≠ 0 → j < 11 → W.cell? ⟨(a.add (i * 11)).block, (a.add (i * 11)).off + j, none⟩ = (x.cells R c)[j]? := fun j h1 h2 => by rw [← add_lit _ j h1]; exact hx j h2
      exact ⟨hj 1 (by omega) (by omega), hj 2 (by omega) (by omega), hj 3 (by omega) (by omega), hj 4 (by omega) (by omega), hj 5 (by omega) (by omega), hj 6 (by omega) (by omega), hj 7 (by omega) (by omega), hj 8 (by omega) (by omega), hj 9 (by omega) (by omega), hj 10 (by omega) (by omega), hR⟩)
    refine ⟨some a, cap, l, by rw [e1, hll], fun k x hk => ?_, by rw [hll]; unfold maxLen at hm; omega, by rw [hll]; exact hl, by unfold maxLen at hm; omega⟩
    obtain ⟨hF, hb, R, c, hc, hN⟩ := hat k x hk
    exact ⟨hF, a, R, c, rfl, hb, hc, hN⟩
theorem trod_lbls (T : Types P) {n : Nat} {v : Value} {y : DataW H × List MemPlace} (h : DataW.trod enc P W 0 (fun _ => true) true n T.tls [v] = some y) :
    ∃ A c l, v = .slice A l.length c ∧ Lbls W A l ∧ l.length ≤ 9223372036854775807 ∧ l.length ≤ c ∧ c ≤ 9223372036854775807 := by
  rcases open_slice T.hls h with h0 | ⟨a, len, cap, m, n, D, Pl, hcs, _, hl, hm, hmm, _, hi⟩
  · injection h0.1 with e1 _
    exact ⟨none, 0, [], e1, fun k x hk => by simp at hk, by simp, by simp, by simp⟩
  · injection hcs with e1 _
    obtain ⟨l, hll, hat⟩ := list_of (Q := fun i (x : Lbl) => a.block < W.heap.size ∧ x.cellsAt W (a.add (i * 2))) len (fun i hil => by
      obtain ⟨cs', hc, ht'⟩ := hi i (by rw [hmm]; simp only [if_true]; omega)
      rw [T.cl] at hc
      obtain ⟨_, hcl, hcell⟩ := World.cells?_some hc
      match cs', hcl with
      | [c0, c1], _ =>
        obtain ⟨_, _, h0⟩ := trod_field T.hl T.bl ht' (j := 0) rfl
        obtain ⟨_, _, h1⟩ := trod_field T.hl T.bl ht' (j := 1) rfl
        obtain ⟨s0, e0⟩ := trod_text T.hs h0
        obtain ⟨s1, e1⟩ := trod_text T.hs h1
        subst e0 e1
        have k0 := hcell 0 (by omega)
        have hb := World.block_lt_of_cell? W _ k0
        rw [Lists.add_block, Lists.add_block] at hb
        exact ⟨⟨s0, s1⟩, hb, k0, by rw [← add_lit _ 1 (by omega)]; exact hcell 1 (by omega)⟩)
    refine ⟨some a, cap, l, by rw [e1, hll], fun k x hk => ?_, by rw [hll]; unfold maxLen at hm; omega, by rw [hll]; exact hl, by unfold maxLen at hm; omega⟩
    obtain ⟨hb, hc⟩ := hat k x hk
    exact ⟨a, rfl, hb, hc⟩
/-- A SPEC THAT CAME IN -/
theorem open_spec (T : Types P) {t : TypeId} {fs : Array Field} (ht : P.underlying t = some (.struct fs)) (hC : P.cellsOf t = 7) (hf : fieldsB P fs [(0, 1, T.ts), (1, 1, T.tls), (2, 1, T.tcs), (3, 1, T.tcs), (4, 1, T.ti), (5, 1, T.ti), (6, 1, T.ti)] = true)
    {base : Nat} {v : Value} {d : DataW H} {p : List MemPlace} (hv : Value.okWide P W .any base t v) (h : DataW.Trod enc P W 0 (fun _ => true) true t v d p) :
    ∃ (S : Spc) (LA : Option Addr) (lc : Nat) (IA : Option Addr) (ic : Nat) (MA : Option Addr) (mc : Nat), v = .agg (S.cells LA lc IA ic MA mc) ∧ S.In W LA lc IA ic MA mc ∧ (S.labels.length ≤ lc ∧ lc ≤ 9223372036854775807) ∧ (S.init.length ≤ ic ∧ ic ≤ 9223372036854775807) ∧ (S.main.length ≤ mc ∧ mc ≤ 9223372036854775807) := by
  obtain ⟨cs, rfl, hsz⟩ : ∃ cs, v = .agg cs ∧ cs.size = P.cellsOf t := by
    simp only [Value.okWide, ht] at hv
    obtain ⟨cs, h1, h2, _⟩ := hv
    exact ⟨cs, h1, h2⟩
  obtain ⟨l⟩ := cs
  match l, hsz.trans hC with
  | [c0, c1, c2, c3, c4, c5, c6], _ =>
    obtain ⟨fuel, h⟩ := h
    have e : (Value.agg #[c0, c1, c2, c3, c4, c5, c6]).cells.toList = [c0, c1, c2, c3, c4, c5, c6] := rfl
    rw [e] at h
    obtain ⟨_, _, h0⟩ := trod_field ht hf h (j := 0) rfl
    obtain ⟨_, _, h1⟩ := trod_field ht hf h (j := 1) rfl
    obtain ⟨_, _, h2⟩ := trod_field ht hf h (j := 2) rfl
    obtain ⟨_, _, h3⟩ := trod_field ht hf h (j := 3) rfl
    obtain ⟨_, _, h4⟩ := trod_field ht hf h (j := 4) rfl
    obtain ⟨_, _, h5⟩ := trod_field ht hf h (j := 5) rfl
    obtain ⟨_, _, h6⟩ := trod_field ht hf h (j := 6) rfl
    obtain ⟨s, e0⟩ := trod_text T.hs h0
    obtain ⟨LA, lc, ls, e1, hL, nL, kL⟩ := trod_lbls T h1
    obtain ⟨IA, ic, is, e2, hI, nI, kI⟩ := trod_ctrs T h2
    obtain ⟨MA, mc, ms, e3, hM, nM, kM⟩ := trod_ctrs T h3
    obtain ⟨z4, e4, i4⟩ := trod_i64 T.hi h4
    obtain ⟨z5, e5, i5⟩ := trod_i64 T.hi h5
    obtain ⟨z6, e6, i6⟩ := trod_i64 T.hi h6
    subst e0 e1 e2 e3 e4 e5 e6
    exact ⟨⟨s, ls, is, ms, z4, z5, z6⟩, LA, lc, IA, ic, MA, mc, rfl, ⟨hL, hI, hM, nL, nI, nM, i4, i5, i6⟩, kL, kI, kM⟩
end
end LawKit
end Go.Proofs.YtpllcnpmjnmcfaaDoor

/-
  From a row's list of variables and the world's shape to what package spec's contracts ask (SLaid): errors.errorType, text's table of bits, a number in internal/bytealg.MaxLen, strconv's table of powers; and one world that fits the list; the types of what comes in. Condition: the list is met.
-/
namespace Go.Proofs.YtpllcnpmjnmcfaaDoor
open Go.ChangeShapes Go.WideShapes Go.ChangeAt Go.RowKit
namespace LaidSpec

theorem pow10_datum : (Rows.laid_internal_strconv_uint64pow10 : DataW Unit) = Lib.tabData .u64 Lib.pow10Tab := by kernel_rfl
theorem gPow : Tryd.prog.globalNamed "internal/strconv.uint64pow10" = some 2 := by kernel_rfl
theorem gPowType : (Tryd.prog.globals[2]?).map (·.type) = some 127 := by kernel_rfl
theorem cellsPow : Tryd.prog.cellsOf 127 = 20 := by kernel_rfl
theorem cellsU64 : Tryd.prog.cellsOf 77 = 1 := by kernel_rfl
theorem tab_of {W : World} {l : List (String × DataW Unit)} (h : laidMet Tryd.prog l W) (m1 : ("internal/strconv.uint64pow10", Rows.laid_internal_strconv_uint64pow10) ∈ l) : NumText.Tab W := by
  obtain ⟨ps, hv, _⟩ := h
  obtain ⟨g', t', cs, fuel, p, h1, h2, h3, h4⟩ := LaidText.laid_mem hv m1
  obtain rfl := Option.some.inj (gPow.symm.trans h1)
  obtain rfl := Option.some.inj (gPowType.symm.trans h2)
  rw [pow10_datum] at h4
  unfold NumText.Tab Lib.TabIs
  rw [h3, ← Lib.cells_of_tab Tryd.underlying127 Tryd.underlying77 cellsU64 cellsPow h4]
theorem laid_of {W : World} {l : List (String × DataW Unit)} (h : laidMet Tryd.prog l W) (hsh : W.ShapedOpen Tryd.prog) (m1 : ("internal/strconv.uint64pow10", Rows.laid_internal_strconv_uint64pow10) ∈ l) (m2 : ("provost/text.bytesOf", Rows.laid_provost_text_bytesOf) ∈ l) : SpecOwn.SLaid W := ⟨LaidText.laid_of h hsh m2, tab_of h m1⟩
/-- the settled world, the tables as they are laid -/
noncomputable def laidWorld (os : Os) : World :=
  let w0 := World.holding Tryd.prog os ⟨#[], #[], []⟩
  let h := w0.heap
  let h := h.modify 1 (LaidText.put (LaidText.tabOf Rows.laid_provost_text_bytesOf))
  let h := h.modify 5 (LaidText.put (LaidText.rowOf Rows.laid_unicode_utf8_first).toArray)
  let h := h.modify 6 (LaidText.put (LaidText.tabOf Rows.laid_unicode_utf8_acceptRanges))
  let h := h.modify 2 (LaidText.put (LaidText.rowOf Rows.laid_internal_strconv_uint64pow10).toArray)
  let h := h.modify 3 (LaidText.put (LaidText.rowOf Rows.laid_math_bits_deBruijn32tab).toArray)
  let h := h.modify 4 (LaidText.put (LaidText.rowOf Rows.laid_math_bits_deBruijn64tab).toArray)
  { w0 with heap := h }
/-- the types of what comes in -/
noncomputable def types : LawKit.Types Tryd.prog where
  ti := 3
  ts := 9
  tl := 64
  tls := 37
  tr := 23
  tp := 48
  tn := 46
  tc := 50
  tcs := 38
  fl := Tryd.prog.fieldsOf 64
  fr := Tryd.prog.fieldsOf 23
  fp := Tryd.prog.fieldsOf 48
  fc := Tryd.prog.fieldsOf 50
  hi := by kernel_rfl
  hs := by kernel_rfl
  hl := by kernel_rfl
  hls := by kernel_rfl
  hr := by kernel_rfl
  hp := by kernel_rfl
  hn := by kernel_rfl
  hc := by kernel_rfl
  hcs := by kernel_rfl
  ci := by kernel_rfl
  cl := by kernel_rfl
  cc := by kernel_rfl
  bl := by kernel_rfl
  br := by kernel_rfl
  bp := by kernel_rfl
  bc := by kernel_rfl
theorem spec_fields : Tryd.prog.underlying 40 = some (.struct (Tryd.prog.fieldsOf 40)) := by kernel_rfl
theorem spec_cells : Tryd.prog.cellsOf 40 = 7 := by kernel_rfl
theorem spec_at : LawKit.fieldsB Tryd.prog (Tryd.prog.fieldsOf 40) [(0, 1, types.ts), (1, 1, types.tls), (2, 1, types.tcs), (3, 1, types.tcs), (4, 1, types.ti), (5, 1, types.ti), (6, 1, types.ti)] = true := by kernel_rfl
section
variable {H : Type} {enc : TypeId × Value → H}
set_option maxRecDepth 100000 in
/-- a spec that came in -/
theorem came_spec {W : World} {base : Nat} {v : Value} {d : DataW H} {p : List MemPlace} (hv : Value.okWide Tryd.prog W .any base 40 v) (h : DataW.Trod enc Tryd.prog W 0 (fun _ => true) true 40 v d p) :
    ∃ (S : Sd.Spc) (LA : Option Addr) (lc : Nat) (IA : Option Addr) (ic : Nat) (MA : Option Addr) (mc : Nat), v = .agg (S.cells LA lc IA ic MA mc) ∧ S.In W LA lc IA ic MA mc ∧ (S.labels.length ≤ lc ∧ lc ≤ 9223372036854775807) ∧ (S.init.length ≤ ic ∧ ic ≤ 9223372036854775807) ∧ (S.main.length ≤ mc ∧ mc ≤ 9223372036854775807) :=
  LawKit.open_spec types spec_fields spec_cells spec_at hv h
set_option maxRecDepth 100000 in
/-- labels that came in -/
theorem came_labels {W : World} {base : Nat} {v : Value} {d : DataW H} {p : List MemPlace} (hv : Value.okWide Tryd.prog W .any base 37 v) (h : DataW.Trod enc Tryd.prog W 0 (fun _ => true) true 37 v d p) :
    ∃ A c l, v = .slice A l.length c ∧ Sd.Lbls W A l ∧ l.length ≤ 9223372036854775807 ∧ l.length ≤ c ∧ c ≤ 9223372036854775807 := by
  obtain ⟨a, len, cap, rfl⟩ := okWide_slice types.hls hv
  obtain ⟨fuel, hf⟩ := h
  exact LawKit.trod_lbls types hf
end
end LaidSpec
end Go.Proofs.YtpllcnpmjnmcfaaDoor

/-
  Resources as plain data: sums, differences, the greater ones, what a pod asks for, and what follows of it. No condition.
-/
namespace Go.Proofs.YtpllcnpmjnmcfaaDoor
open NumMath
namespace Re

structure Rx where
  c : Int
  m : Int
  p : Int
structure Rx.Ok (a : Rx) : Prop where
  c : fits a.c = true
  m : fits a.m = true
  p : fits a.p = true
def z3 : Rx := ⟨0, 0, 0⟩
theorem z3_ok : z3.Ok := ⟨by decide, by decide, by decide⟩
/-- three numbers made, if each could be -/
def three (x y z : Int) (p q r : Bool) : Rx × Bool := if p && q && r then (⟨x, y, z⟩, true) else (z3, false)
def addR (a b : Rx) : Rx × Bool := three (a.c + b.c) (a.m + b.m) (a.p + b.p) (fits (a.c + b.c)) (fits (a.m + b.m)) (fits (a.p + b.p))
def subB (x y : Int) : Bool := decide (y ≤ x) && fits (x - y)
def subR (a b : Rx) : Rx × Bool := three (a.c - b.c) (a.m - b.m) (a.p - b.p) (subB a.c b.c) (subB a.m b.m) (subB a.p b.p)
def sumR : Rx → List Rx → Rx × Bool
  | s, [] => (s, true)
  | s, x :: l => if (addR s x).2 = true then sumR (addR s x).1 l else (z3, false)
def maxR (a b : Rx) : Rx := ⟨max a.c b.c, max a.m b.m, max a.p b.p⟩
def fitsR (a b : Rx) : Bool := decide (a.c ≤ b.c) && decide (a.m ≤ b.m) && decide (a.p ≤ b.p)
def overI (u k : Int) : Int := if u ≤ k then 0 else if fits (u - k) = true then u - k else 9223372036854775807
def overR (a b : Rx) : Rx := ⟨overI a.c b.c, overI a.m b.m, overI a.p b.p⟩
def maxL (s : Rx) (l : List Rx) : Rx := l.foldl maxR s
/-- what a pod asks for -/
def ofR (init main : List Rx) : Rx × Bool := if (sumR z3 main).2 = true then (maxL (sumR z3 main).1 init, true) else (z3, false)
theorem three_yes {x y z : Int} : three x y z true true true = (⟨x, y, z⟩, true) := rfl
theorem three_ok {x y z : Int} {p q r : Bool} (h1 : p = true → fits x = true) (h2 : q = true → fits y = true) (h3 : r = true → fits z = true) : (three x y z p q r).1.Ok := by
  unfold three
  split
  · rename_i h
    simp only [Bool.and_eq_true] at h
    exact ⟨h1 h.1.1, h2 h.1.2, h3 h.2⟩
  · exact z3_ok
theorem add_ok (a b : Rx) : (addR a b).1.Ok := three_ok id id id
theorem sub_ok (a b : Rx) : (subR a b).1.Ok := three_ok (fun h => (Bool.and_eq_true _ _ ▸ h : _ ∧ _).2) (fun h => (Bool.and_eq_true _ _ ▸ h : _ ∧ _).2) (fun h => (Bool.and_eq_true _ _ ▸ h : _ ∧ _).2)
theorem sum_ok : ∀ (l : List Rx) {s : Rx}, s.Ok → (sumR s l).1.Ok
  | [], _, h => h
  | x :: l, s, h => by
    unfold sumR
    split
    · exact sum_ok l (add_ok s x)
    · exact z3_ok
theorem max_ok {a b : Rx} (ha : a.Ok) (hb : b.Ok) : (maxR a b).Ok := by
  have h1 := fits_iff.1 ha.c; have h2 := fits_iff.1 ha.m; have h3 := fits_iff.1 ha.p
  have h4 := fits_iff.1 hb.c; have h5 := fits_iff.1 hb.m; have h6 := fits_iff.1 hb.p
  exact ⟨fits_iff.2 (by show _ ≤ max a.c b.c ∧ max a.c b.c ≤ _; omega), fits_iff.2 (by show _ ≤ max a.m b.m ∧ max a.m b.m ≤ _; omega), fits_iff.2 (by show _ ≤ max a.p b.p ∧ max a.p b.p ≤ _; omega)⟩
theorem maxL_ok : ∀ (l : List Rx) {s : Rx}, s.Ok → (∀ x ∈ l, x.Ok) → (maxL s l).Ok
  | [], _, h, _ => h
  | x :: l, s, h, hl => maxL_ok l (max_ok h (hl x (by simp))) (fun y hy => hl y (by simp [hy]))
theorem of_ok {i m : List Rx} (hi : ∀ x ∈ i, x.Ok) : (ofR i m).1.Ok := by
  unfold ofR
  split
  · exact maxL_ok i (sum_ok m z3_ok) hi
  · exact z3_ok
theorem over_ok (u k : Int) : fits (overI u k) = true := by
  unfold overI
  split
  · decide
  · split
    · assumption
    · decide
theorem fitsR_iff {a b : Rx} : fitsR a b = true ↔ a.c ≤ b.c ∧ a.m ≤ b.m ∧ a.p ≤ b.p := by
  unfold fitsR
  simp [and_assoc]
/-- the sums, not looking whether they fit -/
def tot (f : Rx → Int) (l : List Rx) : Int := l.foldr (fun x s => f x + s) 0
theorem tot_nil (f : Rx → Int) : tot f [] = 0 := rfl
theorem tot_cons (f : Rx → Int) (x : Rx) (l : List Rx) : tot f (x :: l) = f x + tot f l := rfl
theorem tot_append (f : Rx → Int) (l m : List Rx) : tot f (l ++ m) = tot f l + tot f m := by
  induction l with
  | nil => simp [tot_nil]
  | cons x l ih => rw [List.cons_append, tot_cons, tot_cons, ih]; omega
theorem tot_reverse (f : Rx → Int) (l : List Rx) : tot f l.reverse = tot f l := by
  induction l with
  | nil => rfl
  | cons x l ih => rw [List.reverse_cons, tot_append, ih, tot_cons, tot_cons, tot_nil]; omega
/-- from 0 to a bound each -/
structure In (k : Int) (a : Rx) : Prop where
  c : 0 ≤ a.c ∧ a.c ≤ k
  m : 0 ≤ a.m ∧ a.m ≤ k
  p : 0 ≤ a.p ∧ a.p ≤ k
theorem In.ok {k : Int} {a : Rx} (h : In k a) (hk : k ≤ 9223372036854775807) : a.Ok :=
  ⟨fits_iff.2 (by have := h.c; omega), fits_iff.2 (by have := h.m; omega), fits_iff.2 (by have := h.p; omega)⟩
theorem tot_le {k : Int} (hk : 0 ≤ k) : ∀ {l : List Rx}, (∀ x ∈ l, In k x) → (0 ≤ tot Rx.c l ∧ tot Rx.c l ≤ l.length * k) ∧ (0 ≤ tot Rx.m l ∧ tot Rx.m l ≤ l.length * k) ∧ (0 ≤ tot Rx.p l ∧ tot Rx.p l ≤ l.length * k)
  | [], _ => by simp [tot_nil]
  | x :: l, h => by
    obtain ⟨h1, h2, h3⟩ := tot_le hk (l := l) (fun y hy => h y (by simp [hy]))
    have hx := h x (by simp)
    have e : (((x :: l).length : Nat) : Int) * k = (l.length : Int) * k + k := by rw [List.length_cons, Int.natCast_add, Int.add_mul]; simp
    rw [e, tot_cons, tot_cons, tot_cons]
    have := hx.c; have := hx.m; have := hx.p
    omega
/-- sums that fit on the way -/
theorem sum_in {k : Int} (hk : 0 ≤ k) : ∀ {l : List Rx} {s : Rx}, (∀ x ∈ l, In k x) → 0 ≤ s.c → 0 ≤ s.m → 0 ≤ s.p → s.c + l.length * k ≤ 9223372036854775807 → s.m + l.length * k ≤ 9223372036854775807 → s.p + l.length * k ≤ 9223372036854775807 →
    sumR s l = (⟨s.c + tot Rx.c l, s.m + tot Rx.m l, s.p + tot Rx.p l⟩, true)
  | [], s, _, _, _, _, _, _, _ => by simp [sumR, tot_nil]
  | x :: l, s, h, h1, h2, h3, h4, h5, h6 => by
    have hx := h x (by simp)
    have e : (((x :: l).length : Nat) : Int) * k = (l.length : Int) * k + k := by rw [List.length_cons, Int.natCast_add, Int.add_mul]; simp
    rw [e] at h4 h5 h6
    have hl : 0 ≤ (l.length : Int) * k := Int.mul_nonneg (by omega) hk
    have a1 := hx.c; have a2 := hx.m; have a3 := hx.p
    have hadd : addR s x = (⟨s.c + x.c, s.m + x.m, s.p + x.p⟩, true) := by
      unfold addR
      rw [fits_yes (by omega) (by omega), fits_yes (n := s.m + x.m) (by omega) (by omega), fits_yes (n := s.p + x.p) (by omega) (by omega)]
      rfl
    unfold sumR
    rw [hadd, if_pos rfl, sum_in hk (l := l) (s := ⟨s.c + x.c, s.m + x.m, s.p + x.p⟩) (fun y hy => h y (by simp [hy])) (by show 0 ≤ s.c + x.c; omega) (by show 0 ≤ s.m + x.m; omega) (by show 0 ≤ s.p + x.p; omega) (by show s.c + x.c + _ ≤ _; omega) (by show s.m + x.m + _ ≤ _; omega) (by show s.p + x.p + _ ≤ _; omega)]
    simp only [tot_cons, Int.add_assoc]
theorem sum_z {k : Int} (hk : 0 ≤ k) {l : List Rx} (h : ∀ x ∈ l, In k x) (hb : (l.length : Int) * k ≤ 9223372036854775807) : sumR z3 l = (⟨tot Rx.c l, tot Rx.m l, tot Rx.p l⟩, true) := by
  rw [sum_in hk h (Int.le_refl _) (Int.le_refl _) (Int.le_refl _) (by show 0 + _ ≤ _; omega) (by show 0 + _ ≤ _; omega) (by show 0 + _ ≤ _; omega)]
  simp [z3]
theorem add_in {a b : Rx} (h1 : 0 ≤ a.c ∧ 0 ≤ b.c ∧ a.c + b.c ≤ 9223372036854775807) (h2 : 0 ≤ a.m ∧ 0 ≤ b.m ∧ a.m + b.m ≤ 9223372036854775807) (h3 : 0 ≤ a.p ∧ 0 ≤ b.p ∧ a.p + b.p ≤ 9223372036854775807) : addR a b = (⟨a.c + b.c, a.m + b.m, a.p + b.p⟩, true) := by
  unfold addR
  rw [fits_yes (by omega) (by omega), fits_yes (n := a.m + b.m) (by omega) (by omega), fits_yes (n := a.p + b.p) (by omega) (by omega)]
  rfl
theorem sub_in {a b : Rx} (h1 : 0 ≤ b.c ∧ b.c ≤ a.c ∧ a.c ≤ 9223372036854775807) (h2 : 0 ≤ b.m ∧ b.m ≤ a.m ∧ a.m ≤ 9223372036854775807) (h3 : 0 ≤ b.p ∧ b.p ≤ a.p ∧ a.p ≤ 9223372036854775807) : subR a b = (⟨a.c - b.c, a.m - b.m, a.p - b.p⟩, true) := by
  unfold subR subB
  rw [fits_yes (n := a.c - b.c) (by omega) (by omega), fits_yes (n := a.m - b.m) (by omega) (by omega), fits_yes (n := a.p - b.p) (by omega) (by omega), decide_eq_true h1.2.1, decide_eq_true h2.2.1, decide_eq_true h3.2.1]
  rfl
/-- the greater ones of many -/
theorem maxL_ge : ∀ (l : List Rx) (s : Rx), fitsR s (maxL s l) = true ∧ ∀ x ∈ l, fitsR x (maxL s l) = true
  | [], s => ⟨fitsR_iff.2 ⟨Int.le_refl _, Int.le_refl _, Int.le_refl _⟩, fun x hx => by cases hx⟩
  | y :: l, s => by
    obtain ⟨h1, h2⟩ := maxL_ge l (maxR s y)
    rw [fitsR_iff] at h1
    have e : maxL s (y :: l) = maxL (maxR s y) l := rfl
    rw [e]
    have h3 : max s.c y.c ≤ _ := h1.1
    have h4 : max s.m y.m ≤ _ := h1.2.1
    have h5 : max s.p y.p ≤ _ := h1.2.2
    refine ⟨fitsR_iff.2 ⟨by omega, by omega, by omega⟩, fun x hx => ?_⟩
    rcases List.mem_cons.1 hx with rfl | hx
    · exact fitsR_iff.2 ⟨by omega, by omega, by omega⟩
    · exact h2 x hx
theorem maxL_mono : ∀ (l : List Rx) {s t : Rx}, fitsR s t = true → fitsR (maxL s l) (maxL t l) = true
  | [], _, _, h => h
  | y :: l, s, t, h => maxL_mono l (s := maxR s y) (t := maxR t y) (by
      rw [fitsR_iff] at h ⊢
      show max s.c y.c ≤ max t.c y.c ∧ max s.m y.m ≤ max t.m y.m ∧ max s.p y.p ≤ max t.p y.p
      omega)
/-- ALL THAT IT ASKS FOR: of containers whose numbers are from 0 on -/
theorem of_in {k : Int} (hk : 0 ≤ k) {i m : List Rx} (h : ∀ x ∈ m, In k x) (hb : (m.length : Int) * k ≤ 9223372036854775807) : ofR i m = (maxL ⟨tot Rx.c m, tot Rx.m m, tot Rx.p m⟩ i, true) := by
  unfold ofR
  rw [sum_z hk h hb, if_pos rfl]
theorem tot_less {k : Int} {a b : List Rx} {x : Rx} (h : ∀ y ∈ a ++ x :: b, In k y) : (tot Rx.c (a ++ x :: b) = tot Rx.c (a ++ b) + x.c ∧ tot Rx.m (a ++ x :: b) = tot Rx.m (a ++ b) + x.m ∧ tot Rx.p (a ++ x :: b) = tot Rx.p (a ++ b) + x.p) ∧ In k x := by
  refine ⟨⟨?_, ?_, ?_⟩, h x (by simp)⟩ <;> rw [tot_append, tot_append, tot_cons] <;> omega
end Re
end Go.Proofs.YtpllcnpmjnmcfaaDoor

/-
  The contract of num.Add: it returns the sum and true if that fits 64 bits, else 0 and false, and leaves the world alone. Condition: both arguments are 64-bit integers.
-/
namespace Go.Proofs.YtpllcnpmjnmcfaaDoor
open Go.ChangeShapes Go.WideShapes Go.ChangeAt Go.RowKit
open NumMath
namespace NumAdd

theorem add_yes (a b : Int) (w : World) (ha : -9223372036854775808 ≤ a) (ha' : a ≤ 9223372036854775807) (hb : -9223372036854775808 ≤ b) (hb' : b ≤ 9223372036854775807)
    (h1 : -9223372036854775808 ≤ a + b) (h2 : a + b ≤ 9223372036854775807) :
    Calls Tryd.prog 28 #[.int .i64 a, .int .i64 b] w fun e w' => e = .returned (.tuple #[.int .i64 (a + b), .bool true]) ∧ w = w' := by
  rcases Int.lt_trichotomy b 0 with hs | hs | hs
  · go_enter Tryd.func28, Tryd.ntmps28
    go_wp2
    go_ret2
    exact ⟨rfl, rfl⟩
  · subst hs
    rw [Int.add_zero]
    go_enter Tryd.func28, Tryd.ntmps28
    go_wp2
    go_ret2
    exact ⟨rfl, rfl⟩
  · go_enter Tryd.func28, Tryd.ntmps28
    go_wp2
    go_ret2
    exact ⟨rfl, rfl⟩
theorem add_no (a b : Int) (w : World) (ha : -9223372036854775808 ≤ a) (ha' : a ≤ 9223372036854775807) (hb : -9223372036854775808 ≤ b) (hb' : b ≤ 9223372036854775807)
    (h : a + b < -9223372036854775808 ∨ 9223372036854775807 < a + b) :
    Calls Tryd.prog 28 #[.int .i64 a, .int .i64 b] w fun e w' => e = .returned (.tuple #[.int .i64 0, .bool false]) ∧ w = w' := by
  rcases h with h | h
  · have hs : b < 0 := by omega
    go_enter Tryd.func28, Tryd.ntmps28
    go_wp2
    go_ret2
    exact ⟨rfl, rfl⟩
  · have hs : 0 < b := by omega
    go_enter Tryd.func28, Tryd.ntmps28
    go_wp2
    go_ret2
    exact ⟨rfl, rfl⟩
theorem add_any (a b : Int) (w : World) (ha : fits a = true) (hb : fits b = true) :
    Calls Tryd.prog 28 #[.int .i64 a, .int .i64 b] w fun e w' => e = .returned (.tuple #[.int .i64 (val (a + b)), .bool (fits (a + b))]) ∧ w = w' := by
  have hA := fits_iff.1 ha
  have hB := fits_iff.1 hb
  by_cases h : -9223372036854775808 ≤ a + b ∧ a + b ≤ 9223372036854775807
  · have hf := fits_yes h.1 h.2
    rw [val_yes hf, hf]
    exact add_yes a b w hA.1 hA.2 hB.1 hB.2 h.1 h.2
  · have hf : fits (a + b) = false := fits_no (by omega)
    rw [val_no hf, hf]
    exact add_no a b w hA.1 hA.2 hB.1 hB.2 (by omega)
end NumAdd
end Go.Proofs.YtpllcnpmjnmcfaaDoor

/-
  Package res: numbers taken apart and joined, the greater ones, what is left, what is above. Each leaves what was there as it was. Condition: the numbers are 64-bit integers, where they are reckoned with.
-/
set_option linter.unusedVariables false
set_option linter.unusedSimpArgs false
namespace Go.Proofs.YtpllcnpmjnmcfaaDoor
open Go.ChangeShapes Go.WideShapes Go.ChangeAt Go.RowKit Go.Lib
open NumMath
namespace Re

def eqR (a b : Rx) : Bool := a.c == b.c && a.m == b.m && a.p == b.p
theorem eqR_iff {a b : Rx} : eqR a b = true ↔ a = b := by
  obtain ⟨a1, a2, a3⟩ := a
  obtain ⟨b1, b2, b3⟩ := b
  unfold eqR
  simp [and_assoc]
theorem eqR_self (a : Rx) : eqR a a = true := eqR_iff.2 rfl
theorem eqR_fits (a b : Rx) : eqR (maxR a b) b = fitsR a b := by
  have : eqR (maxR a b) b = true ↔ fitsR a b = true := by
    rw [fitsR_iff]
    unfold eqR maxR
    simp only [Bool.and_eq_true, beq_iff_eq]
    omega
  cases h : fitsR a b <;> cases h' : eqR (maxR a b) b <;> simp_all
theorem eql_num (a b : Rx) (w : World) : (binOp .eql 56 (.agg #[.int .i64 a.c, .int .i64 a.m, .int .i64 a.p]) (.agg #[.int .i64 b.c, .int .i64 b.m, .int .i64 b.p])).run Tryd.prog w = .ok (.bool (eqR a b)) w := by
  have hA : Tryd.prog.underlying 56 = some (.array 3 3) := by kernel_rfl
  have hI := Tryd.underlying3
  have a0 := Tryd.isAgg3
  have zz := Tryd.sizeOf3
  rw [run_eql_struct, show (10000 : Nat) = 9998 + 1 + 1 from rfl]
  have e : ∀ (d : Nat) (k : IntKind) (a b : Int), (Op.equalIn (d + 1) 3 (.int k a) (.int k b)).run Tryd.prog w = .ok (a == b) w := fun d k a b => run_equalIn_int w d _ k _ a b hI
  rw [Op.equalIn.eq_def]
  simp only [Sem.run_bind, run_underlying hA, Result.andThen_ok]
  simp only [zz, Result.andThen_ok, Std.Legacy.Range.forIn_eq_forIn_range', Std.Legacy.Range.size]
  simp only [Nat.sub_zero, show (3 + 1 - 1) / 1 = 3 from rfl, show List.range' 0 3 1 = [0, 1, 2] from rfl, List.forIn_cons, List.forIn_nil, Sem.run_bind, Nat.mul_one]
  have e' := e 9998
  go_simp
  unfold eqR
  by_cases h1 : a.c = b.c <;> by_cases h2 : a.m = b.m <;> by_cases h3 : a.p = b.p <;> simp [h1, h2, h3]
theorem eql_res (a b : Rx) (v : World) : (binOp BinOp.eql 23 (.agg #[.int .i64 a.c, .int .i64 a.m, .int .i64 a.p]) (.agg #[.int .i64 b.c, .int .i64 b.m, .int .i64 b.p])).run Tryd.prog v = .ok (.bool (eqR a b)) v := by
  have hS : Tryd.prog.underlying 23 = some (.struct (Tryd.prog.fieldsOf 23)) := by kernel_rfl
  have hp : Tryd.prog.stoodInHeld 23 = false := by kernel_rfl
  have u := Tryd.underlying3
  have a0 := Tryd.isAgg3
  have z := Tryd.sizeOf3
  rw [run_eql_struct, show (10000 : Nat) = 9999 + 1 from rfl, run_equalIn_agg v 9999 23 _ _ hS hp]
  simp only [Program.fieldsOf, Tryd.underlying23]
  go_simp
  unfold eqR
  by_cases h1 : a.c = b.c <;> by_cases h2 : a.m = b.m <;> by_cases h3 : a.p = b.p <;> simp [h1, h2, h3]
theorem of_then {X : Result Bool} {b : Bool} {w : World} (h : (X.andThen fun b w' => Result.ok (Value.bool b) w') = .ok (.bool b) w) : X = .ok b w := by
  cases X with
  | ok x v => simp [Result.andThen] at h; rw [h.1, h.2]
  | _ => simp [Result.andThen] at h
theorem eqIn_num (a b : Rx) (w : World) : (Op.equalIn 10000 56 (.agg #[.int .i64 a.c, .int .i64 a.m, .int .i64 a.p]) (.agg #[.int .i64 b.c, .int .i64 b.m, .int .i64 b.p])).run Tryd.prog w = .ok (eqR a b) w := by
  have h := eql_num a b w
  rw [run_eql_struct] at h
  exact of_then h
theorem eqIn_res (a b : Rx) (w : World) : (Op.equalIn 10000 23 (.agg #[.int .i64 a.c, .int .i64 a.m, .int .i64 a.p]) (.agg #[.int .i64 b.c, .int .i64 b.m, .int .i64 b.p])).run Tryd.prog w = .ok (eqR a b) w := by
  have h := eql_res a b w
  rw [run_eql_struct] at h
  exact of_then h
theorem agg3 {a b c x y z : Int} (h1 : a = x) (h2 : b = y) (h3 : c = z) : Ending.returned (.agg #[.int .i64 a, .int .i64 b, .int .i64 c]) = .returned (.agg #[.int .i64 x, .int .i64 y, .int .i64 z]) := by rw [h1, h2, h3]
theorem apart_any (a b c : Int) (w : World) : Calls Tryd.prog 34 #[.agg #[.int .i64 a, .int .i64 b, .int .i64 c]] w fun e w' => e = .returned (.agg #[.int .i64 a, .int .i64 b, .int .i64 c]) ∧ Below w.heap.size w w' := by
  go_enter Tryd.func34, Tryd.ntmps34
  go_wp2
  go_returns
  exact ⟨rfl, by go_grown⟩
theorem joined_any (a b c : Int) (w : World) : Calls Tryd.prog 32 #[.agg #[.int .i64 a, .int .i64 b, .int .i64 c]] w fun e w' => e = .returned (.agg #[.int .i64 a, .int .i64 b, .int .i64 c]) ∧ Below w.heap.size w w' := by
  go_enter Tryd.func32, Tryd.ntmps32
  go_wp2
  go_returns
  exact ⟨rfl, by go_grown⟩
theorem left_any (a b : Int) (w : World) (ha : fits a = true) (hb : fits b = true) (hab : b ≤ a) :
    Calls Tryd.prog 30 #[.int .i64 a, .int .i64 b] w fun e w' => e = .returned (.tuple #[.int .i64 (val (a - b)), .bool (fits (a - b))]) ∧ w = w' := by
  have hA := fits_iff.1 ha
  have hB := fits_iff.1 hb
  by_cases h : a - b ≤ 9223372036854775807
  · have hf := fits_yes (n := a - b) (by omega) h
    rw [val_yes hf, hf]
    clear ha hb hf
    have h0 : ¬ a - b < 0 := by omega
    have hw : IntKind.i64.wrap (a - b) = a - b := IntWalk.i64_in _ (by omega)
    go_enter Tryd.func30, Tryd.ntmps30
    go_wp2
    go_ret2
    exact ⟨rfl, rfl⟩
  · have hf : fits (a - b) = false := fits_no (by omega)
    rw [val_no hf, hf]
    clear ha hb hf
    have hw : wrap64 (a - b) < 0 := by go_arith
    go_enter Tryd.func30, Tryd.ntmps30
    go_wp2
    go_ret2
    exact ⟨rfl, rfl⟩
set_option maxRecDepth 100000 in
set_option maxHeartbeats 1000000 in
/-- the greater one, number by number -/
theorem greater_any (a b c x y z : Int) (w : World) : Calls Tryd.prog 33 #[.agg #[.int .i64 a, .int .i64 b, .int .i64 c], .agg #[.int .i64 x, .int .i64 y, .int .i64 z]] w fun e w' => e = .returned (.agg #[.int .i64 (max a x), .int .i64 (max b y), .int .i64 (max c z)]) ∧ Below w.heap.size w w' := by
  have i0 : ∀ w, (Instr.index 56 (.agg #[.int .i64 x, .int .i64 y, .int .i64 z]) (.int .i64 0)).run Tryd.prog w = .ok (.int .i64 x) w := fun _ => by kernel_rfl
  have i1 : ∀ w, (Instr.index 56 (.agg #[.int .i64 x, .int .i64 y, .int .i64 z]) (.int .i64 1)).run Tryd.prog w = .ok (.int .i64 y) w := fun _ => by kernel_rfl
  have i2 : ∀ w, (Instr.index 56 (.agg #[.int .i64 x, .int .i64 y, .int .i64 z]) (.int .i64 2)).run Tryd.prog w = .ok (.int .i64 z) w := fun _ => by kernel_rfl
  go_enter Tryd.func33, Tryd.ntmps33
  go_wp2
  go_rounds 4
  all_goals
    go_returns
    exact ⟨agg3 (by omega) (by omega) (by omega), by go_grown⟩
theorem above_any (a b : Int) (w : World) (ha : fits a = true) (hb : fits b = true) : Calls Tryd.prog 36 #[.int .i64 a, .int .i64 b] w fun e w' => e = .returned (.int .i64 (overI a b)) ∧ w = w' := by
  by_cases h : a ≤ b
  · have e : overI a b = 0 := by unfold overI; rw [if_pos h]
    rw [e]
    clear e ha hb
    go_enter Tryd.func36, Tryd.ntmps36
    go_wp2
    go_ret
    exact ⟨rfl, rfl⟩
  · have hc := left_any a b w ha hb (by omega)
    have hn : ¬ a ≤ b := h
    cases hf : fits (a - b) with
    | true =>
      rw [val_yes hf, hf] at hc
      have e : overI a b = a - b := by unfold overI; rw [if_neg h, if_pos hf]
      rw [e]
      have HC := Lib.hid hc
      clear e ha hb hc hf h
      go_enter Tryd.func36, Tryd.ntmps36
      go_wp2_with (go_at_call 30; refine HC.out.mono ?_; rintro e w' ⟨rfl, rfl⟩)
      go_ret
      exact ⟨rfl, rfl⟩
    | false =>
      rw [val_no hf, hf] at hc
      have e : overI a b = 9223372036854775807 := by unfold overI; rw [if_neg h, if_neg (by rw [hf]; decide)]
      rw [e]
      have HC := Lib.hid hc
      clear e ha hb hc hf h
      go_enter Tryd.func36, Tryd.ntmps36
      go_wp2_with (go_at_call 30; refine HC.out.mono ?_; rintro e w' ⟨rfl, rfl⟩)
      go_ret
      exact ⟨rfl, rfl⟩
end Re
end Go.Proofs.YtpllcnpmjnmcfaaDoor
