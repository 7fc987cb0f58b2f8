/-
 Whole structs stored into a box at once (Derived/Deep/MidRow), pods in memory of the call's own; what reads uses (tell.takeUse) and revisions. Conditions: as PackTake.
-/
import Derived.Test.YtalnncgomlibbaaGreatDoorTellData
import Derived.Test.YtalnncgomlibbaaGreatDoorPackAll
import Derived.Test.YtalnncgomlibbaaGreatDoorWireRBig
import Derived.Test.YtalnncgomlibbaaGreatDoorAppendAny
import Derived.Deep.RegionHeld3
import Derived.Deep.MidRow
set_option linter.unusedVariables false
set_option linter.unusedSimpArgs false
namespace Go.Proofs.YtalnncgomlibbaaGreatDoor
open Go.ChangeShapes Go.WideShapes Go.ChangeAt Go.RowKit Go.Lib
open LebMath WirePure Sd Wire SpecOwn SpecRef Book Pk
namespace Tl
def over (A : Array Value) : Nat → List Value → Array Value
 | _, [] => A
 | o, v :: r => over (A.setIfInBounds o v) (o + 1) r
theorem box_over {b : Nat} {t : TypeId} : ∀ (vs : List Value) (o : Nat) {w : World} {A : Array Value}, w.heap[b]? = some (.cells A t (0, 0)) → (w.setCells b o vs).heap[b]? = some (.cells (over A o vs) t (0, 0))
 | [], _, _, _, h => h
 | v :: r, o, w, A, h => by
  rw [World.setCells]
  exact box_over r (o + 1) (box_set h o v rfl)
theorem box_into {w : World} {b : Nat} {A : Array Value} {t : TypeId} (h : w.heap[b]? = some (.cells A t (0, 0))) (o : Nat) (vs : List Value) {B : Array Value} (hB : over A o vs = B) : (w.setCells b o vs).heap[b]? = some (.cells B t (0, 0)) := by
 rw [← hB]; exact box_over vs o h
theorem only_cells {b : Nat} : ∀ (vs : List Value) (o : Nat) {w v : World}, Only b w v → Only b w (v.setCells b o vs)
 | [], _, _, _, h => h
 | u :: r, o, _, _, h => by
  rw [World.setCells]
  exact only_cells r (o + 1) (h.set o u)
theorem below_cells {B b : Nat} {a : World} (hb : B ≤ b) : ∀ (vs : List Value) (o : Nat) {w : World}, Below B a w → Below B a (w.setCells b o vs)
 | [], _, _, h => h
 | u :: r, o, _, h => by
  rw [World.setCells]
  exact below_cells hb r (o + 1) (h.setCell (p := ⟨b, o, none⟩) hb u)
theorem box_there {w : World} {b : Nat} {A : Array Value} {t : TypeId} (h : w.heap[b]? = some (.cells A t (0, 0))) (o n : Nat) (hn : o + n ≤ A.size) : w.there b o n := fun j hj =>
 ⟨by rw [box_cell h (o + j) (Array.getElem?_eq_getElem (by omega))]; rfl, box_free h _⟩
theorem wpList_store_to {P : Program} {ops : Array Oper} {rest : List Oper} {op : Oper} {a : Act} {w v : World} {Q : Exit → Act → World → Prop} (hgd : op.guard = none) (ty : TypeId) (x y : Operand) (ho : op.op = .store ty x y)
 (b o : Nat) (cells : Array Value) (hx : a.eval x = .pointer (some ⟨b, o, none⟩)) (hy : a.eval y = .agg cells)
 (ht : w.there b o cells.size) (hi : (P.info? ty).map (·.size) = some cells.size) (h1 : cells.all (·.oneCell') = true) (hv : w.setCells b o cells.toList = v)
 (h : wpList P ops Q rest (a.put op.dst undef) v) : wpList P ops Q (op :: rest) a w :=
 wpList_store_mid hgd ty x y ho b o cells hx hy ht hi h1 (by rw [hv]; exact h)
theorem over_13 (a0 a1 a2 a3 a4 a5 a6 a7 a8 a9 a10 a11 a12 b0 b1 b2 b3 b4 b5 b6 b7 b8 b9 b10 b11 b12 : Value) : over #[a0, a1, a2, a3, a4, a5, a6, a7, a8, a9, a10, a11, a12] 0 [b0, b1, b2, b3, b4, b5, b6, b7, b8, b9, b10, b11, b12] = #[b0, b1, b2, b3, b4, b5, b6, b7, b8, b9, b10, b11, b12] := by
 simp [over]
theorem i64_wf {z : Int} {m : Nat} (h : 0 ≤ z ∧ z ≤ m) (hm : m ≤ 1099511627776) : (Lit.int IntKind.i64 z).wf = true := by
 simp only [Lit.wf, IntKind.min, IntKind.max, Bool.and_eq_true]
 simp [IntKind.signed, IntKind.bits]
 omega
theorem step_call {P : Program} {w : World} {ops : Array Oper} {o : Oper} {a : Act} {K : Act → World → Prop} {Q : Exit → Act → World → Prop} {E : Prop} (hgd : o.guard = none) (f : FuncId) (args : Array Value)
 (hr : (execOp a.eval o).run P w = .ok (.enter f args) w) (hc : Calls P f args w fun e w' => ∃ v, e = .returned v ∧ K (a.put o.dst v) w') :
 if Region.wanted o (yielded ops a.tmps) = true then Oper.wp P o a w K Q else E := by
 have hw : Region.wanted o (yielded ops a.tmps) = true := by simp [Region.wanted, hgd]
 rw [if_pos hw]
 unfold Oper.wp
 rw [hr]
 refine Calls.mono hc ?_
 rintro e w' ⟨v, rfl, hv⟩
 exact hv
theorem big_rd (g : Nat) (c : Int) (l : List UInt8) (hl : Few l) (x : Nat) (c' : Int) (l' : List UInt8) (hq : revC.rd c l = (x, c', l')) (w : World) (h : Rd w g c l) :
 Calls Tryz.prog 124 #[.pointer (some ⟨g, 0, none⟩)] w fun e w' => e = .returned (.int .u64 (x : Int)) ∧ Rd w' g c' l' ∧ Wire.Aside g w w' := by
 refine (rbig_any g c l (by unfold Few at hl; unfold maxLen; omega) w h).mono ?_
 rintro e w2 ⟨rfl, h2, k2⟩
 have hq3 : (numV 18446744073709551615 c l, numE 18446744073709551615 c l, numL 18446744073709551615 c l) = (x, c', l') := hq
 injection hq3 with hq4 hq5
 injection hq5 with hq5 hq6
 rw [hq5, hq6] at h2
 rw [hq4]
 exact ⟨rfl, h2, k2⟩
set_option maxRecDepth 100000 in
theorem use_rd (g : Nat) (c : Int) (l : List UInt8) (hl : Few l) (a1 a2 a3 : Int) (c' : Int) (l' : List UInt8) (hq : resC.rd c l = ((a1, a2, a3), c', l')) (w : World) (h : Rd w g c l) :
 Calls Tryz.prog 126 #[.pointer (some ⟨g, 0, none⟩)] w fun e w' => e = .returned (.agg #[.int .i64 a1, .int .i64 a2, .int .i64 a3]) ∧ Rd w' g c' l' ∧ Wire.Aside g w w' := by
 have hgl := h.lt
 obtain ⟨⟨x1, c1, l1⟩, q1⟩ : ∃ t, bigC.rd c l = t := ⟨_, rfl⟩
 obtain ⟨⟨x2, c2, l2⟩, q2⟩ : ∃ t, bigC.rd c1 l1 = t := ⟨_, rfl⟩
 obtain ⟨⟨x3, c3, l3⟩, q3⟩ : ∃ t, bigC.rd c2 l2 = t := ⟨_, rfl⟩
 have hr : resC.rd c l = ((x1, x2, x3), c3, l3) := by
  show pairR bigC.rd (pairR bigC.rd bigC.rd) c l = _
  simp only [pairR, q1, q2, q3]
 rw [hr] at hq
 injection hq with hq1 hq2
 injection hq1 with hq1 hq4
 injection hq4 with hq4 hq5
 injection hq2 with hq2 hq3
 subst hq1 hq2 hq3 hq4 hq5
 clear hr
 have few0 : Few l := hl
 have few1 : Few l1 := few q1 few0
 have few2 : Few l2 := few q2 few1
 have few3 : Few l3 := few q3 few2
 have FW0 := Lib.hid few0
 have FW1 := Lib.hid few1
 have FW2 := Lib.hid few2
 have FW3 := Lib.hid few3
 have Q1 := Lib.hid q1
 have Q2 := Lib.hid q2
 have Q3 := Lib.hid q3
 clear hl few0 few1 few2 few3 q1 q2 q3
 obtain ⟨w1, hw1⟩ : ∃ v, w.alloc (.cells #[.int .i64 0, .int .i64 0, .int .i64 0] 70) = v := ⟨_, rfl⟩
 have hb1 : Below w.heap.size w w1 := by rw [← hw1]; exact (Below.refl _ _).alloc (Nat.le_refl _) _
 have z1 : w1.heap[w.heap.size]? = some (.cells #[.int .i64 0, .int .i64 0, .int .i64 0] 70 (0, 0)) := by rw [← hw1]; exact heap_alloc_new w _
 have H1 := Lib.hid (h.below hb1)
 have K1 := Lib.hid (Wire.Aside.of_below (g := g) hb1)
 have Z1 := Lib.hid z1
 clear h hb1 z1
 go_enter Tryz.func126, Tryz.ntmps126
 go_wp2_with fail
 refine (num_rd g 1099511627776 1099511627776 (by decide) (by decide) (by decide) c l FW0.out x1 c1 l1 Q1.out w1 H1.out).mono ?_
 rintro e w2 ⟨rfl, h2, k2⟩
 have H2 := Lib.hid h2
 have K2 := Lib.hid (K1.out.trans k2)
 have z2 := (k2.block w.heap.size ⟨lt_of_block Z1.out, by omega⟩).trans Z1.out
 have Z2 := Lib.hid z2
 clear h2 k2 z2
 go_wp2_with fail
 refine (num_rd g 1099511627776 1099511627776 (by decide) (by decide) (by decide) c1 l1 FW1.out x2 c2 l2 Q2.out w2 H2.out).mono ?_
 rintro e w3 ⟨rfl, h3, k3⟩
 have H3 := Lib.hid h3
 have K3 := Lib.hid (K2.out.trans k3)
 have z3 := (k3.block w.heap.size ⟨lt_of_block Z2.out, by omega⟩).trans Z2.out
 have Z3 := Lib.hid z3
 clear h3 k3 z3
 go_wp2_with fail
 refine (num_rd g 1099511627776 1099511627776 (by decide) (by decide) (by decide) c2 l2 FW2.out x3 c3 l3 Q3.out w3 H3.out).mono ?_
 rintro e w4 ⟨rfl, h4, k4⟩
 have z4 := (k4.block w.heap.size ⟨lt_of_block Z3.out, by omega⟩).trans Z3.out
 have vc0 : w4.cell? ⟨w.heap.size, 0, none⟩ = some (.int .i64 0) := by simp [World.cell?, z4]
 have vf0 : w4.frozen? ⟨w.heap.size, 0, none⟩ = false := by simp [World.frozen?, z4]
 obtain ⟨v1, ve1⟩ : ∃ v, w4.setCell ⟨w.heap.size, 0, none⟩ (.int .i64 x1) = v := ⟨_, rfl⟩
 have vz1 : v1.heap[w.heap.size]? = some (.cells #[.int .i64 x1, .int .i64 0, .int .i64 0] 70 (0, 0)) := by rw [← ve1]; simpa using heap_setCell_same w4 w.heap.size 0 _ _ (.int .i64 x1) z4
 have vo1 : Only w.heap.size w4 v1 := by rw [← ve1]; exact (Only.refl w.heap.size w4).set 0 _
 have vc1 : v1.cell? ⟨w.heap.size, 1, none⟩ = some (.int .i64 0) := by simp [World.cell?, vz1]
 have vf1 : v1.frozen? ⟨w.heap.size, 1, none⟩ = false := by simp [World.frozen?, vz1]
 obtain ⟨v2, ve2⟩ : ∃ v, v1.setCell ⟨w.heap.size, 1, none⟩ (.int .i64 x2) = v := ⟨_, rfl⟩
 have vz2 : v2.heap[w.heap.size]? = some (.cells #[.int .i64 x1, .int .i64 x2, .int .i64 0] 70 (0, 0)) := by rw [← ve2]; simpa using heap_setCell_same v1 w.heap.size 1 _ _ (.int .i64 x2) vz1
 have vo2 : Only w.heap.size w4 v2 := by rw [← ve2]; exact vo1.set 1 _
 have vc2 : v2.cell? ⟨w.heap.size, 2, none⟩ = some (.int .i64 0) := by simp [World.cell?, vz2]
 have vf2 : v2.frozen? ⟨w.heap.size, 2, none⟩ = false := by simp [World.frozen?, vz2]
 obtain ⟨v3, ve3⟩ : ∃ v, v2.setCell ⟨w.heap.size, 2, none⟩ (.int .i64 x3) = v := ⟨_, rfl⟩
 have vz3 : v3.heap[w.heap.size]? = some (.cells #[.int .i64 x1, .int .i64 x2, .int .i64 x3] 70 (0, 0)) := by rw [← ve3]; simpa using heap_setCell_same v2 w.heap.size 2 _ _ (.int .i64 x3) vz2
 have vo3 : Only w.heap.size w4 v3 := by rw [← ve3]; exact vo2.set 2 _
 have vr0 : v3.cell? ⟨w.heap.size, 0, none⟩ = some (.int .i64 x1) := by simp [World.cell?, vz3]
 have vr1 : v3.cell? ⟨w.heap.size, 1, none⟩ = some (.int .i64 x2) := by simp [World.cell?, vz3]
 have vr2 : v3.cell? ⟨w.heap.size, 2, none⟩ = some (.int .i64 x3) := by simp [World.cell?, vz3]
 have OX := Lib.hid vo3
 clear vz1 vo1 vz2 vo2 vz3 vo3
 have HR := Lib.hid (OX.out.rd h4 (by omega))
 have HK := Lib.hid (OX.out.aside (K3.out.trans k4) (Nat.le_refl _))
 clear h4 k4 z4
 go_wp2_with fail
 refine bodyPost_ret (v := .agg #[.int .i64 x1, .int .i64 x2, .int .i64 x3]) ?hres rfl ?_
 case hres => simp [results, Tryz.results126, go_sem, vr0, vr1, vr2]
 exact ⟨rfl, HR.out, HK.out⟩
structure PodUp (B : Nat) (p : Pd) (w : World) (LA IA MA RA : Option Addr) : Prop where
 spec : SpcUp B p.spec w LA IA MA
 rs : Lists.Nums .i64 w RA p.rs
 rfrom : From B RA
 nr : p.rs.length ≤ 9223372036854775807
 rev : p.rev < 18446744073709551616
theorem PodUp.in {B : Nat} {p : Pd} {w : World} {LA IA MA RA : Option Addr} {lc ic mc : Nat} (h : PodUp B p w LA IA MA RA) : p.In w LA lc IA ic MA mc RA :=
 ⟨h.spec.in, h.rs, h.nr, h.rev⟩
theorem PodUp.aside {B g : Nat} {p : Pd} {w v : World} {LA IA MA RA : Option Addr} (h : PodUp B p w LA IA MA RA) (hg : g < B) (hk : Wire.Aside g w v) : PodUp B p v LA IA MA RA :=
 ⟨h.spec.aside hg hk, nums_aside h.rs h.rfrom hg hk, h.rfrom, h.nr, h.rev⟩
theorem spc_down {B B' : Nat} {S : Spc} {w : World} {LA IA MA : Option Addr} (h : SpcUp B S w LA IA MA) (hB : B' ≤ B) : SpcUp B' S w LA IA MA :=
 ⟨h.labels, fun a ha => Nat.le_trans hB (h.lfrom a ha), h.init.less hB, h.main.less hB, h.nums⟩
theorem PodUp.less {B B' : Nat} {p : Pd} {w : World} {LA IA MA RA : Option Addr} (h : PodUp B p w LA IA MA RA) (hB : B' ≤ B) : PodUp B' p w LA IA MA RA :=
 ⟨spc_down h.spec hB, h.rs, fun a ha => Nat.le_trans hB (h.rfrom a ha), h.nr, h.rev⟩
theorem spc_only {b B : Nat} {S : Spc} {w v : World} {LA IA MA : Option Addr} (h : SpcUp B S w LA IA MA) (ho : Only b w v) (hb : b < B) : SpcUp B S v LA IA MA :=
 ⟨ho.lbls h.labels (fun a ha => by have := h.lfrom a ha; omega), h.lfrom, ho.up h.init hb, ho.up h.main hb, h.nums⟩
theorem PodUp.only {b B : Nat} {p : Pd} {w v : World} {LA IA MA RA : Option Addr} (h : PodUp B p w LA IA MA RA) (ho : Only b w v) (hb : b < B) : PodUp B p v LA IA MA RA :=
 ⟨spc_only h.spec ho hb, ho.nums h.rs (fun a ha => by have := h.rfrom a ha; omega), h.rfrom, h.nr, h.rev⟩
end Tl
end Go.Proofs.YtalnncgomlibbaaGreatDoor
