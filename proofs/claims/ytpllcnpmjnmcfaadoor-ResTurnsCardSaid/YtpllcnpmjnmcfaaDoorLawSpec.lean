/-
  What comes in as a spec: its value, its labels and containers in memory. Condition: the types can be read.
-/
import Derived.Test.YtpllcnpmjnmcfaaDoorLawKit
import Derived.Test.YtpllcnpmjnmcfaaDoorSpecData
import Derived.SliceStrings
import Derived.Deep.Slices
import Derived.Deep.Fields
import Derived.ChangeSame
import Derived.ChangeSlices
namespace Go.Proofs.YtpllcnpmjnmcfaaDoor
open Go.ChangeShapes Go.WideShapes Go.ChangeAt Go.RowKit Go.ChangeMaps Go.Deep
namespace LawKit
open Sd Lists
section
variable {H : Type} {enc : TypeId × Value → H} {P : Program} {W : World}

theorem i64_of {z : Int} (h : (Lit.int .i64 z).wf = true) : I64 z := by
  simp only [Lit.wf, IntKind.min, IntKind.max, Bool.and_eq_true] at h
  simp [IntKind.signed, IntKind.bits] at h
  exact ⟨by omega, by omega⟩
/-- where the fields of a struct lie: a field's place and how many cells it has -/
def fieldsB (P : Program) (fs : Array Field) (l : List (Nat × Nat × TypeId)) : Bool := decide (fs.size = l.length) && (List.range fs.size).all fun j => match fs[j]?, l[j]? with
  | some f, some x => f.offset == x.1 && P.cellsOf f.type == x.2.1 && f.type == x.2.2
  | _, _ => false
theorem field_of {P : Program} {fs : Array Field} {l : List (Nat × Nat × TypeId)} (h : fieldsB P fs l = true) {j o n : Nat} {t : TypeId} (hj : l[j]? = some (o, n, t)) : ∃ f, fs[j]? = some f ∧ f.offset = o ∧ P.cellsOf f.type = n ∧ f.type = t := by
  simp only [fieldsB, Bool.and_eq_true, decide_eq_true_eq] at h
  have hl : j < fs.size := by rw [h.1]; exact (List.getElem?_eq_some_iff.1 hj).1
  have := List.all_eq_true.1 h.2 j (List.mem_range.2 hl)
  rw [Array.getElem?_eq_getElem hl, hj] at this
  simp only [Bool.and_eq_true, beq_iff_eq] at this
  exact ⟨_, Array.getElem?_eq_getElem hl, this.1.1, this.1.2, this.2⟩
/-- a field's own reading -/
theorem trod_field {t : TypeId} {fs : Array Field} {l : List (Nat × Nat × TypeId)} {fuel : Nat} {cs : List Value} {x : DataW H × List MemPlace} (ht : P.underlying t = some (.struct fs)) (hf : fieldsB P fs l = true)
    (h : DataW.trod enc P W 0 (fun _ => true) true fuel t cs = some x) {j o n : Nat} {u : TypeId} (hj : l[j]? = some (o, n, u)) : ∃ m y, DataW.trod enc P W 0 (fun _ => true) true m u ((cs.drop o).take n) = some y := by
  obtain ⟨ys, n', _, _, _, hyl, hg⟩ := DataW.trod_struct ht h
  obtain ⟨f, h1, h2, h3, h4⟩ := field_of hf hj
  have := hg j f h1
  rw [h2, h3, h4] at this
  have hl : j < ys.length := by rw [hyl]; exact (Array.getElem?_eq_some_iff.1 h1).1
  rw [List.getElem?_eq_getElem hl] at this
  exact ⟨n', _, this⟩
theorem trod_i64 {t : TypeId} (ht : P.underlying t = some (.int .i64)) {n : Nat} {v : Value} {y : DataW H × List MemPlace} (h : DataW.trod enc P W 0 (fun _ => true) true n t [v] = some y) : ∃ z, v = .int .i64 z ∧ I64 z := by
  obtain ⟨z, e, _, hw⟩ := DataW.trod_int ht h
  simp at e
  exact ⟨z, e, i64_of hw⟩
theorem trod_text {t : TypeId} (ht : P.underlying t = some .string) {n : Nat} {v : Value} {y : DataW H × List MemPlace} (h : DataW.trod enc P W 0 (fun _ => true) true n t [v] = some y) : ∃ s, v = .string s := by
  obtain ⟨s, e, _⟩ := DataW.trod_string ht h
  simp at e
  exact ⟨s, e⟩
theorem trod_nums {t e : TypeId} {k : IntKind} (ht : P.underlying t = some (.slice e)) (he : P.underlying e = some (.int k)) (hce : P.cellsOf e = 1) {n : Nat} {v : Value} {y : DataW H × List MemPlace} (h : DataW.trod enc P W 0 (fun _ => true) true n t [v] = some y) :
    ∃ A c zs, v = .slice A zs.length c ∧ Nums k W A zs ∧ zs.length ≤ 9223372036854775807 ∧ zs.length ≤ c := by
  rcases open_ints ht he hce h with ⟨hcs, _⟩ | ⟨ad, len', cap', zs, hcs, _, hl, hm, hz, _, hcell, hw⟩
  · injection hcs with e1 _
    exact ⟨none, 0, [], e1, fun k x hk => by simp at hk, by simp, by simp⟩
  · injection hcs with e1 _
    simp only [if_true] at hz
    have hlen : (zs.take len').length = len' := by rw [List.length_take]; omega
    refine ⟨some ad, cap', zs.take len', by rw [e1, hlen], fun k x hk => ?_, by rw [hlen]; unfold maxLen at hm; omega, by rw [hlen]; exact hl⟩
    have hk1 : k < len' := by
      rcases Nat.lt_or_ge k len' with h | h
      · exact h
      · rw [List.getElem?_eq_none (by omega)] at hk; cases hk
    rw [List.getElem?_take_of_lt hk1] at hk
    have hc := hcell k (by omega)
    rw [List.getD_eq_getElem?_getD, hk] at hc
    have hb := World.block_lt_of_cell? W _ hc
    rw [Lists.add_block] at hb
    exact ⟨hw x (List.mem_of_getElem? hk), ad, rfl, hb, hc⟩
/-- the types that a spec is made of -/
structure Types (P : Program) where
  ti : TypeId
  ts : TypeId
  tl : TypeId
  tls : TypeId
  tr : TypeId
  tp : TypeId
  tn : TypeId
  tc : TypeId
  tcs : TypeId
  fl : Array Field
  fr : Array Field
  fp : Array Field
  fc : Array Field
  hi : P.underlying ti = some (.int .i64)
  hs : P.underlying ts = some .string
  hl : P.underlying tl = some (.struct fl)
  hls : P.underlying tls = some (.slice tl)
  hr : P.underlying tr = some (.struct fr)
  hp : P.underlying tp = some (.struct fp)
  hn : P.underlying tn = some (.slice ti)
  hc : P.underlying tc = some (.struct fc)
  hcs : P.underlying tcs = some (.slice tc)
  ci : P.cellsOf ti = 1
  cl : P.cellsOf tl = 2
  cc : P.cellsOf tc = 11
  bl : fieldsB P fl [(0, 1, ts), (1, 1, ts)] = true
  br : fieldsB P fr [(0, 1, ti), (1, 1, ti), (2, 1, ti)] = true
  bp : fieldsB P fp [(0, 1, ti), (1, 1, ti)] = true
  bc : fieldsB P fc [(0, 1, ts), (1, 1, ts), (2, 3, tr), (5, 3, tr), (8, 1, tn), (9, 2, tp)] = true
theorem trod_res (T : Types P) {n : Nat} {c0 c1 c2 : Value} {y : DataW H × List MemPlace} (h : DataW.trod enc P W 0 (fun _ => true) true n T.tr [c0, c1, c2] = some y) : ∃ a b c, c0 = .int .i64 a ∧ c1 = .int .i64 b ∧ c2 = .int .i64 c ∧ I64 a ∧ I64 b ∧ I64 c := by
  obtain ⟨m0, y0, h0⟩ := trod_field T.hr T.br h (j := 0) rfl
  obtain ⟨m1, y1, h1⟩ := trod_field T.hr T.br h (j := 1) rfl
  obtain ⟨m2, y2, h2⟩ := trod_field T.hr T.br h (j := 2) rfl
  obtain ⟨a, ea, ia⟩ := trod_i64 T.hi h0
  obtain ⟨b, eb, ib⟩ := trod_i64 T.hi h1
  obtain ⟨c, ec, ic⟩ := trod_i64 T.hi h2
  exact ⟨a, b, c, ea, eb, ec, ia, ib, ic⟩
theorem trod_ctr (T : Types P) {n : Nat} {cs : List Value} {y : DataW H × List MemPlace} (hlen : cs.length = 11) (h : DataW.trod enc P W 0 (fun _ => true) true n T.tc cs = some y) :
    ∃ (x : Ctr) (Q : Option Addr) (c : Nat), cs = x.cells Q c ∧ x.Fits ∧ Nums .i64 W Q x.ports ∧ x.ports.length ≤ c := by
  match cs, hlen with
  | [c0, c1, c2, c3, c4, c5, c6, c7, c8, c9, c10], _ =>
    obtain ⟨_, _, h0⟩ := trod_field T.hc T.bc h (j := 0) rfl
    obtain ⟨_, _, h1⟩ := trod_field T.hc T.bc h (j := 1) rfl
    obtain ⟨_, _, h2⟩ := trod_field T.hc T.bc h (j := 2) rfl
    obtain ⟨_, _, h3⟩ := trod_field T.hc T.bc h (j := 3) rfl
    obtain ⟨_, _, h4⟩ := trod_field T.hc T.bc h (j := 4) rfl
    obtain ⟨_, _, h5⟩ := trod_field T.hc T.bc h (j := 5) rfl
    obtain ⟨s0, e0⟩ := trod_text T.hs h0
    obtain ⟨s1, e1⟩ := trod_text T.hs h1
    obtain ⟨a2, a3, a4, e2, e3, e4, i2, i3, i4⟩ := trod_res T h2
    obtain ⟨a5, a6, a7, e5, e6, e7, i5, i6, i7⟩ := trod_res T h3
    obtain ⟨Q, c, zs, e8, hN, hZ, hR⟩ := trod_nums T.hn T.hi T.ci h4
    obtain ⟨_, _, h9⟩ := trod_field T.hp T.bp h5 (j := 0) rfl
    obtain ⟨_, _, h10⟩ := trod_field T.hp T.bp h5 (j := 1) rfl
    obtain ⟨a9, e9, i9⟩ := trod_i64 T.hi h9
    obtain ⟨a10, e10, i10⟩ := trod_i64 T.hi h10
    subst e0 e1 e2 e3 e4 e5 e6 e7 e8 e9 e10
    exact ⟨⟨s0, s1, a2, a3, a4, a5, a6, a7, zs, a9, a10⟩, Q, c, rfl, ⟨i2, i3, i4, i5, i6, i7, i9, i10, hZ⟩, hN, hR⟩
theorem add_lit (a : Addr) (i : Nat) (hi : i ≠ 0) : a.add i = ⟨a.block, a.off + i, none⟩ := by unfold Addr.add; rw [if_neg hi]
theorem list_of {α : Type} {Q : Nat → α → Prop} : ∀ (len : Nat), (∀ i, i < len → ∃ x, Q i x) → ∃ l : List α, l.length = len ∧ ∀ (k : Nat) (x : α), l[k]? = some x → Q k x
  | 0, _ => ⟨[], rfl, fun k x hk => by simp at hk⟩
  | n + 1, h => by
    obtain ⟨l, h1, h2⟩ := list_of n (fun i hi => h i (by omega))
    obtain ⟨x, hx⟩ := h n (by omega)
    refine ⟨l ++ [x], by simp [h1], fun k y hk => ?_⟩
    rcases Nat.lt_trichotomy k n with hlt | rfl | hgt
    · rw [List.getElem?_append_left (by omega)] at hk
      exact h2 k y hk
    · rw [List.getElem?_append_right (by omega), h1] at hk
      simp at hk
      subst hk
      exact hx
    · rw [List.getElem?_append_right (by omega)] at hk
      rw [List.getElem?_eq_none (by simp; omega)] at hk
      cases hk
theorem trod_ctrs (T : Types P) {n : Nat} {v : Value} {y : DataW H × List MemPlace} (h : DataW.trod enc P W 0 (fun _ => true) true n T.tcs [v] = some y) :
    ∃ A c l, v = .slice A l.length c ∧ Ctrs W A l ∧ l.length ≤ 9223372036854775807 ∧ l.length ≤ c ∧ c ≤ 9223372036854775807 := by
  rcases open_slice T.hcs h with h0 | ⟨a, len, cap, m, n, D, Pl, hcs, _, hl, hm, hmm, _, hi⟩
  · injection h0.1 with e1 _
    exact ⟨none, 0, [], e1, fun k x hk => by simp at hk, by simp, by simp, by simp⟩
  · injection hcs with e1 _
    obtain ⟨l, hll, hat⟩ := list_of (Q := fun i (x : Ctr) => x.Fits ∧ a.block < W.heap.size ∧ ∃ R c, x.cellsAt R c W (a.add (i * 11)) ∧ Nums .i64 W R x.ports) len (fun i hil => by
      obtain ⟨cs', hc, ht'⟩ := hi i (by rw [hmm]; simp only [if_true]; omega)
      rw [T.cc] at hc
      obtain ⟨_, hcl, hcell⟩ := World.cells?_some hc
      obtain ⟨x, R, c, e, hF, hN, hR⟩ := trod_ctr T hcl ht'
      have hx : ∀ j, j < 11 → W.cell? ((a.add (i * 11)).add j) = (x.cells R c)[j]? := fun j hj => by rw [hcell j hj, e]
      have h0 := hx 0 (by omega)
      have hb := World.block_lt_of_cell? W _ h0
      rw [Lists.add_block, Lists.add_block] at hb
      refine ⟨x, hF, hb, R, c, ⟨h0, ?_⟩, hN⟩
      have hj : ∀ j, j ≠ 0 → j < 11 → W.cell? ⟨(a.add (i * 11)).block, (a.add (i * 11)).off + j, none⟩ = (x.cells R c)[j]? := fun j h1 h2 => by rw [← add_lit _ j h1]; exact hx j h2
      exact ⟨hj 1 (by omega) (by omega), hj 2 (by omega) (by omega), hj 3 (by omega) (by omega), hj 4 (by omega) (by omega), hj 5 (by omega) (by omega), hj 6 (by omega) (by omega), hj 7 (by omega) (by omega), hj 8 (by omega) (by omega), hj 9 (by omega) (by omega), hj 10 (by omega) (by omega), hR⟩)
    refine ⟨some a, cap, l, by rw [e1, hll], fun k x hk => ?_, by rw [hll]; unfold maxLen at hm; omega, by rw [hll]; exact hl, by unfold maxLen at hm; omega⟩
    obtain ⟨hF, hb, R, c, hc, hN⟩ := hat k x hk
    exact ⟨hF, a, R, c, rfl, hb, hc, hN⟩
theorem trod_lbls (T : Types P) {n : Nat} {v : Value} {y : DataW H × List MemPlace} (h : DataW.trod enc P W 0 (fun _ => true) true n T.tls [v] = some y) :
    ∃ A c l, v = .slice A l.length c ∧ Lbls W A l ∧ l.length ≤ 9223372036854775807 ∧ l.length ≤ c ∧ c ≤ 9223372036854775807 := by
  rcases open_slice T.hls h with h0 | ⟨a, len, cap, m, n, D, Pl, hcs, _, hl, hm, hmm, _, hi⟩
  · injection h0.1 with e1 _
    exact ⟨none, 0, [], e1, fun k x hk => by simp at hk, by simp, by simp, by simp⟩
  · injection hcs with e1 _
    obtain ⟨l, hll, hat⟩ := list_of (Q := fun i (x : Lbl) => a.block < W.heap.size ∧ x.cellsAt W (a.add (i * 2))) len (fun i hil => by
      obtain ⟨cs', hc, ht'⟩ := hi i (by rw [hmm]; simp only [if_true]; omega)
      rw [T.cl] at hc
      obtain ⟨_, hcl, hcell⟩ := World.cells?_some hc
      match cs', hcl with
      | [c0, c1], _ =>
        obtain ⟨_, _, h0⟩ := trod_field T.hl T.bl ht' (j := 0) rfl
        obtain ⟨_, _, h1⟩ := trod_field T.hl T.bl ht' (j := 1) rfl
        obtain ⟨s0, e0⟩ := trod_text T.hs h0
        obtain ⟨s1, e1⟩ := trod_text T.hs h1
        subst e0 e1
        have k0 := hcell 0 (by omega)
        have hb := World.block_lt_of_cell? W _ k0
        rw [Lists.add_block, Lists.add_block] at hb
        exact ⟨⟨s0, s1⟩, hb, k0, by rw [← add_lit _ 1 (by omega)]; exact hcell 1 (by omega)⟩)
    refine ⟨some a, cap, l, by rw [e1, hll], fun k x hk => ?_, by rw [hll]; unfold maxLen at hm; omega, by rw [hll]; exact hl, by unfold maxLen at hm; omega⟩
    obtain ⟨hb, hc⟩ := hat k x hk
    exact ⟨a, rfl, hb, hc⟩
/-- A SPEC THAT CAME IN -/
theorem open_spec (T : Types P) {t : TypeId} {fs : Array Field} (ht : P.underlying t = some (.struct fs)) (hC : P.cellsOf t = 7) (hf : fieldsB P fs [(0, 1, T.ts), (1, 1, T.tls), (2, 1, T.tcs), (3, 1, T.tcs), (4, 1, T.ti), (5, 1, T.ti), (6, 1, T.ti)] = true)
    {base : Nat} {v : Value} {d : DataW H} {p : List MemPlace} (hv : Value.okWide P W .any base t v) (h : DataW.Trod enc P W 0 (fun _ => true) true t v d p) :
    ∃ (S : Spc) (LA : Option Addr) (lc : Nat) (IA : Option Addr) (ic : Nat) (MA : Option Addr) (mc : Nat), v = .agg (S.cells LA lc IA ic MA mc) ∧ S.In W LA lc IA ic MA mc ∧ (S.labels.length ≤ lc ∧ lc ≤ 9223372036854775807) ∧ (S.init.length ≤ ic ∧ ic ≤ 9223372036854775807) ∧ (S.main.length ≤ mc ∧ mc ≤ 9223372036854775807) := by
  obtain ⟨cs, rfl, hsz⟩ : ∃ cs, v = .agg cs ∧ cs.size = P.cellsOf t := by
    simp only [Value.okWide, ht] at hv
    obtain ⟨cs, h1, h2, _⟩ := hv
    exact ⟨cs, h1, h2⟩
  obtain ⟨l⟩ := cs
  match l, hsz.trans hC with
  | [c0, c1, c2, c3, c4, c5, c6], _ =>
    obtain ⟨fuel, h⟩ := h
    have e : (Value.agg #[c0, c1, c2, c3, c4, c5, c6]).cells.toList = [c0, c1, c2, c3, c4, c5, c6] := rfl
    rw [e] at h
    obtain ⟨_, _, h0⟩ := trod_field ht hf h (j := 0) rfl
    obtain ⟨_, _, h1⟩ := trod_field ht hf h (j := 1) rfl
    obtain ⟨_, _, h2⟩ := trod_field ht hf h (j := 2) rfl
    obtain ⟨_, _, h3⟩ := trod_field ht hf h (j := 3) rfl
    obtain ⟨_, _, h4⟩ := trod_field ht hf h (j := 4) rfl
    obtain ⟨_, _, h5⟩ := trod_field ht hf h (j := 5) rfl
    obtain ⟨_, _, h6⟩ := trod_field ht hf h (j := 6) rfl
    obtain ⟨s, e0⟩ := trod_text T.hs h0
    obtain ⟨LA, lc, ls, e1, hL, nL, kL⟩ := trod_lbls T h1
    obtain ⟨IA, ic, is, e2, hI, nI, kI⟩ := trod_ctrs T h2
    obtain ⟨MA, mc, ms, e3, hM, nM, kM⟩ := trod_ctrs T h3
    obtain ⟨z4, e4, i4⟩ := trod_i64 T.hi h4
    obtain ⟨z5, e5, i5⟩ := trod_i64 T.hi h5
    obtain ⟨z6, e6, i6⟩ := trod_i64 T.hi h6
    subst e0 e1 e2 e3 e4 e5 e6
    exact ⟨⟨s, ls, is, ms, z4, z5, z6⟩, LA, lc, IA, ic, MA, mc, rfl, ⟨hL, hI, hM, nL, nI, nM, i4, i5, i6⟩, kL, kI, kM⟩
end
end LawKit
end Go.Proofs.YtpllcnpmjnmcfaaDoor
