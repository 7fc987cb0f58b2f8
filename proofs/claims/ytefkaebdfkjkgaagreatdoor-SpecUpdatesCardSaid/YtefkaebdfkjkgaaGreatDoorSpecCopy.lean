/-
  The contract of spec.Clone: the same spec in memory of the call's own, its lists and their ports too. All that was there is left as it was. Condition: it is light.
-/
import Derived.Test.YtefkaebdfkjkgaaGreatDoorSpecClones
namespace Go.Proofs.YtefkaebdfkjkgaaGreatDoor
open Go.ChangeShapes Go.WideShapes Go.ChangeAt Go.RowKit Go.Lib
open Sd Lists
namespace SpecOwn

/-- what was there below block B is as it was, all but block g -/
structure Kb (g B : Nat) (w v : World) : Prop where
  os : v.os = w.os
  tape : v.tape = w.tape
  output : v.output = w.output
  size : w.heap.size ≤ v.heap.size
  block : ∀ b, b < B → b ≠ g → v.heap[b]? = w.heap[b]?
theorem Kb.of_below {g B : Nat} {w v : World} (h : Below B w v) : Kb g B w v := ⟨h.os, h.tape, h.output, h.size, fun b hb _ => h.block b hb⟩
theorem Kb.next {g B : Nat} {w v v' : World} (h : Kb g B w v) (hb : Below v.heap.size v v') (hB : B ≤ w.heap.size) : Kb g B w v' :=
  ⟨hb.os.trans h.os, hb.tape.trans h.tape, hb.output.trans h.output, Nat.le_trans h.size hb.size, fun b h1 h2 => (hb.block b (by have := h.size; omega)).trans (h.block b h1 h2)⟩
theorem Kb.set {g B : Nat} {w v : World} (h : Kb g B w v) (j : Nat) (u : Value) : Kb g B w (v.setCell ⟨g, j, none⟩ u) :=
  ⟨h.os, h.tape, h.output, by simpa using h.size, fun b h1 h2 => (Below.heap_setCell v ⟨g, j, none⟩ u b h2).trans (h.block b h1 h2)⟩
theorem Kb.trans {g B B' : Nat} {a b c : World} (h : Kb g B a b) (k : Kb g B' b c) (hB : B ≤ B') : Kb g B a c :=
  ⟨k.os.trans h.os, k.tape.trans h.tape, k.output.trans h.output, Nat.le_trans h.size k.size, fun i h1 h2 => (k.block i (by omega) h2).trans (h.block i h1 h2)⟩
theorem Kb.below {g B B' : Nat} {a b c : World} (h : Below B a b) (k : Kb g B' b c) (hB : B ≤ B') (hg : B ≤ g) : Below B a c :=
  h.trans ⟨k.os, k.tape, k.output, k.size, fun i hi => k.block i (by omega) (by omega)⟩

/-- writing what a row holds already -/
theorem row_same {v : World} {B : Nat} {e : TypeId} {size g n cap : Nat} {xs : List Value} (h : v.ownsRow B e size (.slice (some ⟨g, 0, none⟩) n cap) n xs) {j : Nat} {u : Value} (hu : xs[j]? = some u) : (v.setCell ⟨g, j, none⟩ u).ownsRow B e size (.slice (some ⟨g, 0, none⟩) n cap) n xs := by
  have h1 := (h.stored j u).1
  rwa [show xs.set j u = xs from by
    apply List.ext_getElem?
    intro i
    by_cases hij : j = i
    · subst hij
      rw [List.getElem?_set_self (List.getElem?_eq_some_iff.1 hu).1, hu]
    · rw [List.getElem?_set_ne hij]] at h1

/-- what a round's worlds have: the labels' row, the label's box, the cells that the round reads and writes -/
def LS (l : List Lbl) (x : Lbl) (k n c g B0 B : Nat) (wr w' : World) : Prop :=
  w'.ownsRow B 85 2 (.slice (some ⟨g, 0, none⟩) n c) n (flatL l) ∧ w'.heap[wr.heap.size]? = some (.cells #[.string x.key, .string x.val] 85 (0, 0)) ∧ w'.cell? ⟨B0, 1, none⟩ = some (.slice (some ⟨g, 0, none⟩) n c) ∧ w'.cell? ⟨wr.heap.size, 0, none⟩ = some (.string x.key) ∧ w'.cell? ⟨wr.heap.size, 1, none⟩ = some (.string x.val) ∧ w'.cell? ⟨g, k * 2, none⟩ = some (.string x.key) ∧ w'.cell? ⟨g, k * 2 + 1, none⟩ = some (.string x.val) ∧ w'.frozen? ⟨g, k * 2, none⟩ = false ∧ w'.frozen? ⟨g, k * 2 + 1, none⟩ = false ∧ Kb g wr.heap.size wr w'
/-- what stands throughout a round -/
structure LSt (l : List Lbl) (x : Lbl) (k n c g B0 : Nat) (wr : World) : Prop where
  at' : l[k]? = some x
  lt : k < n
  box : wr.cell? ⟨B0, 1, none⟩ = some (.slice (some ⟨g, 0, none⟩) n c)
  inb : B0 < wr.heap.size
  ne : B0 ≠ g
  row : g < wr.heap.size
theorem ls_of {l : List Lbl} {x : Lbl} {k n c g B0 B : Nat} {wr w' : World} (st : LSt l x k n c g B0 wr) (h1 : w'.ownsRow B 85 2 (.slice (some ⟨g, 0, none⟩) n c) n (flatL l)) (h2 : w'.heap[wr.heap.size]? = some (.cells #[.string x.key, .string x.val] 85 (0, 0))) (hk : Kb g wr.heap.size wr w') : LS l x k n c g B0 B wr w' := by
  have hl := st.lt
  obtain ⟨f0, f1⟩ := flatL_at st.at'
  refine ⟨h1, h2, ?_, by simp [World.cell?, h2], by simp [World.cell?, h2], by rw [h1.cellAt (k * 2) (by omega), f0], by rw [h1.cellAt (k * 2 + 1) (by omega), f1], h1.frozenAt _, h1.frozenAt _, hk⟩
  rw [World.cell?_of_block (w := wr) (hk.block B0 st.inb st.ne)]
  exact st.box
theorem ls_keep {l : List Lbl} {x : Lbl} {k n c g B0 B : Nat} {wr w w' : World} (st : LSt l x k n c g B0 wr) (h : LS l x k n c g B0 B wr w) (hb : Below w.heap.size w w') : LS l x k n c g B0 B wr w' := by
  refine ls_of st ?_ ((hb.block _ (lt_of_block h.2.1)).trans h.2.1) (h.2.2.2.2.2.2.2.2.2.next hb (Nat.le_refl _))
  rcases h.1.2 with ⟨e1, _⟩ | ⟨g', cap, cur, e1, e2, e3, e4⟩
  · cases e1
  · exact ⟨h.1.1, Or.inr ⟨g', cap, cur, e1, e2, (hb.block _ (lt_of_block e3)).trans e3, e4⟩⟩
theorem ls_s0 {l : List Lbl} {x : Lbl} {k n c g B0 B : Nat} {wr w : World} (st : LSt l x k n c g B0 wr) (h : LS l x k n c g B0 B wr w) : LS l x k n c g B0 B wr (w.setCell ⟨g, k * 2, none⟩ (.string x.key)) :=
  ls_of st (row_same h.1 (flatL_at st.at').1) ((Below.heap_setCell w ⟨g, k * 2, none⟩ _ _ (by have := st.row; show wr.heap.size ≠ g; omega)).trans h.2.1) (h.2.2.2.2.2.2.2.2.2.set _ _)
theorem ls_s1 {l : List Lbl} {x : Lbl} {k n c g B0 B : Nat} {wr w : World} (st : LSt l x k n c g B0 wr) (h : LS l x k n c g B0 B wr w) : LS l x k n c g B0 B wr (w.setCell ⟨g, k * 2 + 1, none⟩ (.string x.val)) :=
  ls_of st (row_same h.1 (flatL_at st.at').2) ((Below.heap_setCell w ⟨g, k * 2 + 1, none⟩ _ _ (by have := st.row; show wr.heap.size ≠ g; omega)).trans h.2.1) (h.2.2.2.2.2.2.2.2.2.set _ _)
theorem ls_drew {l : List Lbl} {x : Lbl} {k n c g B0 B : Nat} {wr w : World} (h : LS l x k n c g B0 B wr w) : LS l x k n c g B0 B wr w.drew := by
  obtain ⟨h1, h2, h3, h4, h5, h6, h7, h8, h9, h⟩ := h
  exact ⟨h1, h2, h3, h4, h5, h6, h7, h8, h9, ⟨h.os, h.tape, h.output, h.size, h.block⟩⟩
theorem ls_new {l : List Lbl} {x : Lbl} {k n c g B0 B : Nat} {wr : World} (st : LSt l x k n c g B0 wr) (h1 : wr.ownsRow B 85 2 (.slice (some ⟨g, 0, none⟩) n c) n (flatL l)) : LS l x k n c g B0 B wr (wr.alloc (.cells #[.string x.key, .string x.val] 85)) := by
  refine ls_of st ?_ (heap_alloc_new wr _) (Kb.of_below ((Below.refl _ wr).alloc (Nat.le_refl _) _))
  rcases h1.2 with ⟨e1, _⟩ | ⟨g', cap, cur, e1, e2, e3, e4⟩
  · cases e1
  · exact ⟨h1.1, Or.inr ⟨g', cap, cur, e1, e2, (Below.heap_alloc wr _ _ (lt_of_block e3)).trans e3, e4⟩⟩

/-- blocks from B on are as they were -/
structure Ab (B : Nat) (w w' : World) : Prop where
  size : w.heap.size ≤ w'.heap.size
  block : ∀ i, B ≤ i → i < w.heap.size → w'.heap[i]? = w.heap[i]?
theorem Ab.of_below {B : Nat} {w w' : World} (h : Below w.heap.size w w') : Ab B w w' := ⟨h.size, fun i _ hi => h.block i hi⟩
theorem Ab.set {B : Nat} {w w' : World} (h : Ab B w w') (p : Addr) (hp : p.block < B) (u : Value) : Ab B w (w'.setCell p u) :=
  ⟨by simpa using h.size, fun i h1 h2 => (Below.heap_setCell w' p u i (by omega)).trans (h.block i h1 h2)⟩
theorem Ab.trans {B : Nat} {a b c : World} (h : Ab B a b) (k : Ab B b c) : Ab B a c := ⟨Nat.le_trans h.size k.size, fun i h1 h2 => (k.block i h1 (by have := h.size; omega)).trans (h.block i h1 h2)⟩
theorem Thaw.ab {B : Nat} {w w' : World} {A : Option Addr} (h : Thaw w A) (k : Ab B w w') (hF : From B A) : Thaw w' A := h.block k.size fun a ha => k.block _ (hF a ha) (h a ha).1
theorem ctrs_ab {B : Nat} {w w' : World} (k : Ab B w w') {B' : Nat} (hB : B ≤ B') {A : Option Addr} {l : List Ctr} (h : CtrsFrom B' w A l) : CtrsFrom B w' A l := by
  intro j x hj
  obtain ⟨hf, a, P, c, hA, h1, h2, hc, hn, hP, tA, tP, hne⟩ := h j x hj
  refine ⟨hf, a, P, c, hA, by omega, by have := k.size; omega, hc.keep (by rw [add_block]; exact k.block _ (by omega) h2), ?_, fun p hp => by have := hP p hp; omega, tA.ab k (fun y hy => by rw [hA] at hy; injection hy with hy; subst hy; omega), tP.ab k (fun y hy => by have := hP y hy; omega), hne⟩
  intro i z hz
  obtain ⟨hw, p, hp, hl, hcp⟩ := hn i z hz
  have := hP p hp
  refine ⟨hw, p, hp, Nat.lt_of_lt_of_le hl k.size, ?_⟩
  rw [World.cell?_of_block (w := w) (k.block _ (by rw [add_block]; omega) (by rw [add_block]; exact hl))]
  exact hcp
theorem ctrs_in {B : Nat} {w : World} {A : Option Addr} {l : List Ctr} (h : CtrsFrom B w A l) : Ctrs w A l := by
  intro j x hj
  obtain ⟨hf, a, P, c, hA, h1, h2, hc, hn, hP, tA, tP, hne⟩ := h j x hj
  exact ⟨hf, a, P, c, hA, h2, hc, hn⟩
theorem ctrs_less {B B' : Nat} {w : World} {A : Option Addr} {l : List Ctr} (hB : B' ≤ B) (h : CtrsFrom B w A l) : CtrsFrom B' w A l := by
  intro j x hj
  obtain ⟨hf, a, P, c, hA, h1, h2, hc, hn, hP, tA, tP, hne⟩ := h j x hj
  exact ⟨hf, a, P, c, hA, Nat.le_trans hB h1, h2, hc, hn, fun p hp => Nat.le_trans hB (hP p hp), tA, tP, hne⟩
theorem Ab.mono {B B' : Nat} {w w' : World} (h : Ab B w w') (hB : B ≤ B') : Ab B' w w' := ⟨h.size, fun i h1 h2 => h.block i (by omega) h2⟩
/-- containers in blocks from lo to below hi, their ports too -/
def CtrsMid (lo hi : Nat) (w : World) (A : Option Addr) (l : List Ctr) : Prop := hi ≤ w.heap.size ∧ ∀ (k : Nat) (x : Ctr), l[k]? = some x → x.Fits ∧ ∃ a P c, A = some a ∧ lo ≤ a.block ∧ a.block < hi ∧ x.cellsAt P c w (a.add (k * 11)) ∧ Nums .i64 w P x.ports ∧ ∀ p, P = some p → lo ≤ p.block ∧ p.block < hi
theorem ctrs_mid {B : Nat} {w : World} {A : Option Addr} {l : List Ctr} (h : CtrsFrom B w A l) : CtrsMid B w.heap.size w A l := by
  refine ⟨Nat.le_refl _, fun j x hj => ?_⟩
  obtain ⟨hf, a, P, c, hA, h1, h2, hc, hn, hP, tA, tP, hne⟩ := h j x hj
  exact ⟨hf, a, P, c, hA, h1, h2, hc, hn, fun p hp => ⟨hP p hp, (tP p hp).1⟩⟩
theorem CtrsMid.keep {lo lo' hi : Nat} {w v : World} {A : Option Addr} {l : List Ctr} (h : CtrsMid lo hi w A l) (hs : w.heap.size ≤ v.heap.size) (hl : lo' ≤ lo) (hb : ∀ i, lo ≤ i → i < hi → v.heap[i]? = w.heap[i]?) : CtrsMid lo' hi v A l := by
  refine ⟨Nat.le_trans h.1 hs, fun j x hj => ?_⟩
  obtain ⟨hf, a, P, c, hA, h1, h2, hc, hn, hP⟩ := h.2 j x hj
  refine ⟨hf, a, P, c, hA, by omega, h2, hc.keep (by rw [add_block]; exact hb _ h1 h2), fun i z hz => ?_, fun p hp => by have := hP p hp; omega⟩
  obtain ⟨hw, p, hp, hl', hcp⟩ := hn i z hz
  have := hP p hp
  refine ⟨hw, p, hp, Nat.lt_of_lt_of_le hl' hs, ?_⟩
  rw [World.cell?_of_block (w := w) (hb _ (by rw [add_block]; omega) (by rw [add_block]; omega))]
  exact hcp
theorem CtrsMid.ctrs {lo hi : Nat} {w : World} {A : Option Addr} {l : List Ctr} (h : CtrsMid lo hi w A l) : Ctrs w A l := by
  intro j x hj
  obtain ⟨hf, a, P, c, hA, h1, h2, hc, hn, hP⟩ := h.2 j x hj
  exact ⟨hf, a, P, c, hA, Nat.lt_of_lt_of_le h2 h.1, hc, hn⟩
theorem lbls_own {w : World} {B : Nat} {e : TypeId} {A : Option Addr} {c : Nat} {l : List Lbl} (h : w.ownsRow B e 2 (.slice A l.length c) l.length (flatL l)) : Lbls w A l ∧ From B A := by
  rcases h.2 with ⟨e1, h0⟩ | ⟨g, cap, cur, e1, e2, e3, e4⟩
  · injection e1 with e1
    subst e1
    exact ⟨fun k x hk => by have := (List.getElem?_eq_some_iff.1 hk).1; omega, fun a ha => by cases ha⟩
  · injection e1 with e1 e5 e6
    subst e1
    refine ⟨fun k x hk => ⟨_, rfl, lt_of_block e3, ?_⟩, fun a ha => by injection ha with ha; subst ha; exact e2⟩
    have hl := (List.getElem?_eq_some_iff.1 hk).1
    obtain ⟨f0, f1⟩ := flatL_at hk
    have e0 : (⟨g, 0, none⟩ : Addr).add (k * 2) = ⟨g, k * 2, none⟩ := by unfold Addr.add; split <;> simp_all
    rw [e0]
    exact ⟨by rw [h.cellAt (k * 2) (by omega), f0], by show w.cell? ⟨g, k * 2 + 1, none⟩ = _; rw [h.cellAt (k * 2 + 1) (by omega), f1]⟩
theorem lbls_ab {B : Nat} {w w' : World} (k : Ab B w w') {A : Option Addr} {l : List Lbl} (h : Lbls w A l) (hF : From B A) : Lbls w' A l := by
  intro j x hj
  obtain ⟨a, hA, h2, hc⟩ := h j x hj
  exact ⟨a, hA, by have := k.size; omega, hc.keep (by rw [add_block]; exact k.block _ (hF a hA) h2)⟩

theorem two_new (w : World) (o o' : Obj) : ((w.alloc o).alloc o').heap[w.heap.size]? = some o ∧ ((w.alloc o).alloc o').heap[w.heap.size + 1]? = some o' :=
  ⟨(Below.heap_alloc _ _ _ (by simp)).trans (heap_alloc_new w _), by have h := heap_alloc_new (w.alloc o) o'; rwa [show (w.alloc o).heap.size = w.heap.size + 1 by simp] at h⟩

set_option maxRecDepth 100000 in
set_option maxHeartbeats 4000000 in
theorem clone_any (S : Spc) (LA : Option Addr) (lc : Nat) (IA : Option Addr) (ic : Nat) (MA : Option Addr) (mc : Nat) (hnm : S.name.size ≤ 1000) (hll : S.labels.length ≤ 1000) (hlx : ∀ x ∈ S.labels, x.key.size ≤ 1000 ∧ x.val.size ≤ 1000) (hil : S.init.length ≤ 1000) (hix : ∀ x ∈ S.init, x.name.size ≤ 1000 ∧ x.image.size ≤ 1000 ∧ x.ports.length ≤ 1000) (hml : S.main.length ≤ 1000) (hmx : ∀ x ∈ S.main, x.name.size ≤ 1000 ∧ x.image.size ≤ 1000 ∧ x.ports.length ≤ 1000) (w : World) (hS : S.In w LA lc IA ic MA mc) :
    Calls Tryz.prog 13 #[.agg #[.string S.name, .slice LA S.labels.length lc, .slice IA S.init.length ic, .slice MA S.main.length mc, .int .i64 S.restart, .int .i64 S.grace, .int .i64 S.prio]] w fun e w' => ∃ LA' lc' IA' ic' MA' mc', e = .returned (.agg #[.string S.name, .slice LA' S.labels.length lc', .slice IA' S.init.length ic', .slice MA' S.main.length mc', .int .i64 S.restart, .int .i64 S.grace, .int .i64 S.prio]) ∧ S.In w' LA' lc' IA' ic' MA' mc' ∧ From w.heap.size LA' ∧ Thaw w' LA' ∧ CtrsFrom w.heap.size w' IA' S.init ∧ CtrsFrom w.heap.size w' MA' S.main ∧ S.labels.length ≤ lc' ∧ S.init.length ≤ ic' ∧ S.main.length ≤ mc' ∧ Below w.heap.size w w' ∧ ∃ hi, CtrsMid w.heap.size hi w' IA' S.init ∧ CtrsFrom hi w' MA' S.main := by
  have HS := Lib.hid hS
  have HLXX := Lib.hid hlx
  have HIX := Lib.hid hix
  have HMX := Lib.hid hmx
  clear hS hlx hix hmx
  go_enter Tryz.func13, Tryz.ntmps13
  go_wp2_with fail
  refine (Text.clone_any S.name (by omega) _).mono ?_
  rintro e w1 ⟨rfl, hb1⟩
  have hbx := (hb1.block w.heap.size (by simp; omega)).trans (two_new w _ _).1
  have hrx := (hb1.block (w.heap.size + 1) (by simp)).trans (two_new w _ _).2
  have hbw : Below w.heap.size w w1 := (((Below.refl _ w).alloc (Nat.le_refl _) _).alloc (by simp) _).trans (hb1.mono (by simp; omega))
  clear hb1
  have p0 : w1.cell? ⟨w.heap.size, 0, none⟩ = some (.string S.name) := by simp [World.cell?, hbx]
  have p1 : w1.frozen? ⟨w.heap.size, 0, none⟩ = false := by simp [World.frozen?, hbx]
  obtain ⟨v1, hv1⟩ : ∃ v, w1.setCell ⟨w.heap.size, 0, none⟩ (.string S.name) = v := ⟨_, rfl⟩
  have hbx1 : v1.heap[w.heap.size]? = some (.cells #[.string S.name, .slice LA S.labels.length lc, .slice IA S.init.length ic, .slice MA S.main.length mc, .int .i64 S.restart, .int .i64 S.grace, .int .i64 S.prio] 25 (0, 0)) := by rw [← hv1]; simpa using heap_setCell_same w1 w.heap.size 0 _ _ (.string S.name) hbx
  have hrx1 := (show v1.heap[w.heap.size + 1]? = w1.heap[w.heap.size + 1]? by rw [← hv1]; exact Below.heap_setCell _ _ _ _ (by show w.heap.size + 1 ≠ w.heap.size; omega)).trans hrx
  have hbw1 : Below w.heap.size w v1 := by rw [← hv1]; exact hbw.setCell (p := ⟨w.heap.size, 0, none⟩) (Nat.le_refl _) _
  have q1 : v1.cell? ⟨w.heap.size, 1, none⟩ = some (.slice LA S.labels.length lc) := by simp [World.cell?, hbx1]
  have HRX := Lib.hid hrx1
  have HBX := Lib.hid hbx1
  have HBW := Lib.hid hbw1
  clear hbx hrx hbw hbx1 hrx1 hbw1
  have HLB := Lib.hid (HS.out.labels.below HBW.out)
  have HRUN := Lib.hid (sliceLabels_any LA lc S.labels.length (by omega) S.labels (flatL_length _) v1 (fun e => by
    rcases Nat.eq_zero_or_pos S.labels.length with h0 | h0
    · exact h0
    · obtain ⟨a, ha, _⟩ := HLB.out.at h0
      rw [e] at ha; cases ha) (fun j u hu => by
    have hj := (List.getElem?_eq_some_iff.1 hu).1
    rw [flatL_length] at hj
    obtain ⟨a, ha, hla, _⟩ := HLB.out.at (show 0 < S.labels.length by omega)
    refine ⟨a, ha, hla, flatL_src (fun k x hk => ?_) j u hu⟩
    obtain ⟨a', ha', _, hc⟩ := HLB.out k x hk
    rw [ha] at ha'
    injection ha' with ha'
    subst ha'
    exact hc))
  go_wp2_with fail
  refine HRUN.out.mono ?_
  rintro e w2 ⟨LA2, lc2, rfl, hown, hcc, hb2⟩
  have hbx := (hb2.block w.heap.size (lt_of_block HBX.out)).trans HBX.out
  have hrx := (hb2.block (w.heap.size + 1) (lt_of_block HRX.out)).trans HRX.out
  have hbw := HBW.out.trans (hb2.mono HBW.out.size)
  have hvl := lt_of_block HBX.out
  have r0 : w2.cell? ⟨w.heap.size, 1, none⟩ = some (.slice LA S.labels.length lc) := by simp [World.cell?, hbx]
  have r1 : w2.frozen? ⟨w.heap.size, 1, none⟩ = false := by simp [World.frozen?, hbx]
  obtain ⟨v2, hv2⟩ : ∃ v, w2.setCell ⟨w.heap.size, 1, none⟩ (.slice LA2 S.labels.length lc2) = v := ⟨_, rfl⟩
  have hbx2 : v2.heap[w.heap.size]? = some (.cells #[.string S.name, .slice LA2 S.labels.length lc2, .slice IA S.init.length ic, .slice MA S.main.length mc, .int .i64 S.restart, .int .i64 S.grace, .int .i64 S.prio] 25 (0, 0)) := by rw [← hv2]; simpa using heap_setCell_same w2 w.heap.size 1 _ _ (.slice LA2 S.labels.length lc2) hbx
  have hrx2 := (show v2.heap[w.heap.size + 1]? = w2.heap[w.heap.size + 1]? by rw [← hv2]; exact Below.heap_setCell _ _ _ _ (by show w.heap.size + 1 ≠ w.heap.size; omega)).trans hrx
  have hbw2 : Below w.heap.size w v2 := by rw [← hv2]; exact hbw.setCell (p := ⟨w.heap.size, 1, none⟩) (Nat.le_refl _) _
  have q2 : v2.cell? ⟨w.heap.size, 1, none⟩ = some (.slice LA2 S.labels.length lc2) := by simp [World.cell?, hbx2]
  have hown2 : v2.ownsRow v1.heap.size 85 2 (.slice LA2 S.labels.length lc2) S.labels.length (flatL S.labels) := by
    rw [← hv2]; exact ownsRow_setCell_below hown (a := ⟨w.heap.size, 1, none⟩) hvl _
  have HRX2 := Lib.hid hrx2
  have HBX2 := Lib.hid hbx2
  have HBW2 := Lib.hid hbw2
  have HOWN := Lib.hid hown2
  have HVV : v1.heap.size ≤ v2.heap.size := by rw [← hv2]; simpa using hb2.size
  clear hbx hrx hbw hbx2 hrx2 hbw2 hown hown2 hb2 HRUN HLB
  have hll' : (S.labels.length : Int) ≤ 1000 := by omega
  obtain ⟨gg, hgg, hLA⟩ : ∃ gg, v1.heap.size ≤ gg ∧ ∀ a, LA2 = some a → a = ⟨gg, 0, none⟩ ∧ gg < v2.heap.size := by
    rcases HOWN.out.2 with ⟨e1, _⟩ | ⟨g, cap, cur, e1, e2, e3, _⟩
    · injection e1 with e1
      exact ⟨v1.heap.size, Nat.le_refl _, fun a ha => by rw [e1] at ha; cases ha⟩
    · injection e1 with e1
      exact ⟨g, e2, fun a ha => by rw [e1] at ha; injection ha with ha; exact ⟨ha.symm, lt_of_block e3⟩⟩
  have HLA := Lib.hid hLA
  clear hLA
  go_wp2_with fail
  go_loopw [16] (fun i wr => ∃ (k : Nat), k ≤ S.labels.length ∧ i = .int .i64 k ∧ Hid (wr.ownsRow v1.heap.size 85 2 (.slice LA2 S.labels.length lc2) S.labels.length (flatL S.labels) ∧ Kb gg v2.heap.size v2 wr)) (fun i _ => S.labels.length - (RowKit.intOf i).toNat)
  case atStart => exact ⟨0, Nat.zero_le _, rfl, Lib.hid ⟨HOWN.out, ⟨rfl, rfl, rfl, Nat.le_refl _, fun _ _ _ => rfl⟩⟩⟩
  case round =>
    obtain ⟨k, hk, rfl, HI⟩ := hrel
    by_cases hlt : k < S.labels.length
    · have hka : (k : Int) < (S.labels.length : Int) := by omega
      obtain ⟨x, hx⟩ : ∃ x, S.labels[k]? = some x := ⟨_, List.getElem?_eq_getElem hlt⟩
      obtain ⟨hxk, hxv⟩ := HLXX.out x (List.mem_of_getElem? hx)
      obtain ⟨f0, f1⟩ := flatL_at hx
      obtain ⟨a, rfl⟩ : ∃ a, LA2 = some a := by
        rcases HI.out.1.2 with ⟨_, h0⟩ | ⟨g, cap, cur, e1, _⟩
        · omega
        · injection e1 with e1; exact ⟨_, e1⟩
      obtain ⟨rfl, hgl⟩ := HLA.out a rfl
      have hsz := HI.out.2.size
      have st : LSt S.labels x k S.labels.length lc2 gg w.heap.size wr := ⟨hx, hlt, (World.cell?_of_block (w := v2) (HI.out.2.block w.heap.size (lt_of_block HBX2.out) (by omega))).trans q2, by have := lt_of_block HBX2.out; omega, by omega, by omega⟩
      have HST := Lib.hid st
      have HNEW := Lib.hid (ls_new st HI.out.1)
      have c0 : wr.cell? ⟨gg, k * 2, none⟩ = some (.string x.key) := by rw [HI.out.1.cellAt (k * 2) (by omega), f0]
      have c1 : wr.cell? ⟨gg, k * 2 + 1, none⟩ = some (.string x.val) := by rw [HI.out.1.cellAt (k * 2 + 1) (by omega), f1]
      have e0 : (⟨gg, 0, none⟩ : Addr).add (k * 2) = ⟨gg, k * 2, none⟩ := by unfold Addr.add; split <;> simp_all
      clear st f0 f1
      go_wp2_with fail
      go_region_held3 (fun w' => w'.ownsRow v1.heap.size 85 2 (.slice (some ⟨gg, 0, none⟩) S.labels.length lc2) S.labels.length (flatL S.labels) ∧ w'.heap[wr.heap.size]? = some (.cells #[.string x.key, .string x.val] 85 (0, 0)) ∧ w'.cell? ⟨w.heap.size, 1, none⟩ = some (.slice (some ⟨gg, 0, none⟩) S.labels.length lc2) ∧ w'.cell? ⟨wr.heap.size, 0, none⟩ = some (.string x.key) ∧ w'.cell? ⟨wr.heap.size, 1, none⟩ = some (.string x.val) ∧ w'.cell? ⟨gg, k * 2, none⟩ = some (.string x.key) ∧ w'.cell? ⟨gg, k * 2 + 1, none⟩ = some (.string x.val) ∧ w'.frozen? ⟨gg, k * 2, none⟩ = false ∧ w'.frozen? ⟨gg, k * 2 + 1, none⟩ = false ∧ Kb gg wr.heap.size wr w')
        (first
          | exact ls_keep HST.out (by assumption) hbn
          | exact ls_s1 HST.out (ls_s0 HST.out (by assumption))
          | exact ls_drew HNEW.out
          | exact ls_drew (by assumption)
          | go_keep)
        (first
          | (refine (Text.clone_any x.key (by omega) _).mono ?_; rintro e wn ⟨rfl, hbn⟩)
          | (refine (Text.clone_any x.val (by omega) _).mono ?_; rintro e wn ⟨rfl, hbn⟩))
      · have hfin : LS S.labels x k S.labels.length lc2 gg w.heap.size v1.heap.size wr ((wn.setCell ⟨gg, k * 2, none⟩ (.string x.key)).setCell ⟨gg, k * 2 + 1, none⟩ (.string x.val)) := by assumption
        have HF := Lib.hid (show ((wn.setCell ⟨gg, k * 2, none⟩ (.string x.key)).setCell ⟨gg, k * 2 + 1, none⟩ (.string x.val)).ownsRow v1.heap.size 85 2 (.slice (some ⟨gg, 0, none⟩) S.labels.length lc2) S.labels.length (flatL S.labels) ∧ Kb gg v2.heap.size v2 ((wn.setCell ⟨gg, k * 2, none⟩ (.string x.key)).setCell ⟨gg, k * 2 + 1, none⟩ (.string x.val)) from ⟨hfin.1, HI.out.2.trans hfin.2.2.2.2.2.2.2.2.2 hsz⟩)
        clear hfin
        go_wp2_with fail
        go_roundw
        case rel => exact ⟨k + 1, by omega, by go_num, HF⟩
        case measure => simp [RowKit.intOf]; omega
    · have hkk : k = S.labels.length := by omega
      have hsz := HI.out.2.size
      have hbw := Kb.below HBW2.out HI.out.2 HBW2.out.size (show w.heap.size ≤ gg by omega)
      have hbxw := (HI.out.2.block w.heap.size (lt_of_block HBX2.out) (by omega)).trans HBX2.out
      have g2 : wr.cell? ⟨w.heap.size, 2, none⟩ = some (.slice IA S.init.length ic) := by simp [World.cell?, hbxw]
      have HCI := Lib.hid (clones_any IA ic S.init hil HIX.out wr (HS.out.init.below hbw))
      have HBXW := Lib.hid hbxw
      have HRXW := Lib.hid ((HI.out.2.block (w.heap.size + 1) (lt_of_block HRX2.out) (by have := lt_of_block HRX.out; omega)).trans HRX2.out)
      have HBWR := Lib.hid hbw
      subst hkk
      clear hbw hbxw
      go_wp2_with fail
      refine HCI.out.mono ?_
      rintro e w3 ⟨IA2, ic2, rfl, hci, hci2, hb3⟩
      have hwv : w.heap.size + 2 ≤ v1.heap.size := by have := lt_of_block HRX.out; omega
      have hvr : v1.heap.size ≤ wr.heap.size := by have := HVV; omega
      have hbx3 := (hb3.block w.heap.size (lt_of_block HBXW.out)).trans HBXW.out
      have s0 : w3.cell? ⟨w.heap.size, 2, none⟩ = some (.slice IA S.init.length ic) := by simp [World.cell?, hbx3]
      have s1 : w3.frozen? ⟨w.heap.size, 2, none⟩ = false := by simp [World.frozen?, hbx3]
      obtain ⟨v3, hv3⟩ : ∃ v, w3.setCell ⟨w.heap.size, 2, none⟩ (.slice IA2 S.init.length ic2) = v := ⟨_, rfl⟩
      have hbxv3 : v3.heap[w.heap.size]? = some (.cells #[.string S.name, .slice LA2 S.labels.length lc2, .slice IA2 S.init.length ic2, .slice MA S.main.length mc, .int .i64 S.restart, .int .i64 S.grace, .int .i64 S.prio] 25 (0, 0)) := by rw [← hv3]; simpa using heap_setCell_same w3 w.heap.size 2 _ _ (.slice IA2 S.init.length ic2) hbx3
      have hbw3 : Below w.heap.size w v3 := by rw [← hv3]; exact (HBWR.out.trans (hb3.mono HBWR.out.size)).setCell (p := ⟨w.heap.size, 2, none⟩) (Nat.le_refl _) _
      have hab3 : Ab v1.heap.size wr v3 := by rw [← hv3]; exact (Ab.of_below hb3).set _ (show w.heap.size < v1.heap.size by omega) _
      have hci3 : CtrsFrom v1.heap.size v3 IA2 S.init := ctrs_ab (by rw [← hv3]; exact (Ab.of_below (Below.refl _ _)).set _ (show w.heap.size < v1.heap.size by omega) _) hvr hci
      have t3 : v3.cell? ⟨w.heap.size, 3, none⟩ = some (.slice MA S.main.length mc) := by simp [World.cell?, hbxv3]
      have HMID := Lib.hid (ctrs_mid hci)
      have HAB33 := Lib.hid (show Ab v1.heap.size w3 v3 by rw [← hv3]; exact (Ab.of_below (Below.refl _ _)).set _ (show w.heap.size < v1.heap.size by omega) _)
      have hsz3 : v3.heap.size = w3.heap.size := by rw [← hv3]; simp
      have HRX3 := Lib.hid ((show v3.heap[w.heap.size + 1]? = w3.heap[w.heap.size + 1]? by rw [← hv3]; exact Below.heap_setCell _ _ _ _ (by show w.heap.size + 1 ≠ w.heap.size; omega)).trans ((hb3.block (w.heap.size + 1) (lt_of_block HRXW.out)).trans HRXW.out))
      have HBX3 := Lib.hid hbxv3
      have HBW3 := Lib.hid hbw3
      have HAB3 := Lib.hid hab3
      have HC3 := Lib.hid hci3
      have HMI := Lib.hid (clones_any MA mc S.main hml HMX.out v3 (HS.out.main.below hbw3))
      clear hbx3 hbxv3 hbw3 hab3 hci3 hci hb3
      go_wp2_with fail
      refine HMI.out.mono ?_
      rintro e w4 ⟨MA2, mc2, rfl, hcm, hcm2, hb4⟩
      have hbx4 := (hb4.block w.heap.size (lt_of_block HBX3.out)).trans HBX3.out
      have n0 : w4.cell? ⟨w.heap.size, 3, none⟩ = some (.slice MA S.main.length mc) := by simp [World.cell?, hbx4]
      have n1 : w4.frozen? ⟨w.heap.size, 3, none⟩ = false := by simp [World.frozen?, hbx4]
      obtain ⟨v4, hv4⟩ : ∃ v, w4.setCell ⟨w.heap.size, 3, none⟩ (.slice MA2 S.main.length mc2) = v := ⟨_, rfl⟩
      have hbxv4 : v4.heap[w.heap.size]? = some (.cells #[.string S.name, .slice LA2 S.labels.length lc2, .slice IA2 S.init.length ic2, .slice MA2 S.main.length mc2, .int .i64 S.restart, .int .i64 S.grace, .int .i64 S.prio] 25 (0, 0)) := by rw [← hv4]; simpa using heap_setCell_same w4 w.heap.size 3 _ _ (.slice MA2 S.main.length mc2) hbx4
      have hbw4 : Below w.heap.size w v4 := by rw [← hv4]; exact (HBW3.out.trans (hb4.mono HBW3.out.size)).setCell (p := ⟨w.heap.size, 3, none⟩) (Nat.le_refl _) _
      have hab4 : Ab v1.heap.size v3 v4 := by rw [← hv4]; exact (Ab.of_below hb4).set _ (show w.heap.size < v1.heap.size by omega) _
      have hcm4 : CtrsFrom v1.heap.size v4 MA2 S.main := ctrs_ab (by rw [← hv4]; exact (Ab.of_below (Below.refl _ _)).set _ (show w.heap.size < v1.heap.size by omega) _) (by have := HAB3.out.size; omega) hcm
      have HC5 := Lib.hid (show CtrsFrom w3.heap.size v4 MA2 S.main by
        have h1 : CtrsFrom v3.heap.size v4 MA2 S.main := ctrs_ab (by rw [← hv4]; exact (Ab.of_below (Below.refl _ _)).set _ (show w.heap.size < v3.heap.size by have := HAB3.out.size; omega) _) (Nat.le_refl _) hcm
        rwa [hsz3] at h1)
      have d0 : v4.cell? ⟨w.heap.size, 0, none⟩ = some (.string S.name) := by simp [World.cell?, hbxv4]
      have d1 : v4.cell? ⟨w.heap.size, 1, none⟩ = some (.slice LA2 S.labels.length lc2) := by simp [World.cell?, hbxv4]
      have d2 : v4.cell? ⟨w.heap.size, 2, none⟩ = some (.slice IA2 S.init.length ic2) := by simp [World.cell?, hbxv4]
      have d3 : v4.cell? ⟨w.heap.size, 3, none⟩ = some (.slice MA2 S.main.length mc2) := by simp [World.cell?, hbxv4]
      have d4 : v4.cell? ⟨w.heap.size, 4, none⟩ = some (.int .i64 S.restart) := by simp [World.cell?, hbxv4]
      have d5 : v4.cell? ⟨w.heap.size, 5, none⟩ = some (.int .i64 S.grace) := by simp [World.cell?, hbxv4]
      have d6 : v4.cell? ⟨w.heap.size, 6, none⟩ = some (.int .i64 S.prio) := by simp [World.cell?, hbxv4]
      have HRX4 := Lib.hid ((show v4.heap[w.heap.size + 1]? = w4.heap[w.heap.size + 1]? by rw [← hv4]; exact Below.heap_setCell _ _ _ _ (by show w.heap.size + 1 ≠ w.heap.size; omega)).trans ((hb4.block (w.heap.size + 1) (lt_of_block HRX3.out)).trans HRX3.out))
      have HBW4 := Lib.hid hbw4
      have HAB4 := Lib.hid hab4
      have HC4 := Lib.hid hcm4
      clear hbx4 hbxv4 hbw4 hab4 hcm4 hcm hb4
      have z0 : v4.heap[w.heap.size + 1]? = some (.cells #[.string ⟨#[]⟩, .slice none 0 0, .slice none 0 0, .slice none 0 0, .int .i64 0, .int .i64 0, .int .i64 0] 25 (0, 0)) := HRX4.out
      have ab0 : Ab v1.heap.size v4 v4 := Ab.of_below (Below.refl _ _)
      have bw0 := HBW4.out
      have y0 : v4.cell? ⟨w.heap.size + 1, 0, none⟩ = some (.string ⟨#[]⟩) := by simp [World.cell?, z0]
      have fz0 : v4.frozen? ⟨w.heap.size + 1, 0, none⟩ = false := by simp [World.frozen?, z0]
      obtain ⟨x1, hx1⟩ : ∃ v, v4.setCell ⟨w.heap.size + 1, 0, none⟩ (.string S.name) = v := ⟨_, rfl⟩
      have z1 : x1.heap[w.heap.size + 1]? = some (.cells #[.string S.name, .slice none 0 0, .slice none 0 0, .slice none 0 0, .int .i64 0, .int .i64 0, .int .i64 0] 25 (0, 0)) := by rw [← hx1]; simpa using heap_setCell_same v4 (w.heap.size + 1) 0 _ _ (.string S.name) z0
      have ab1 : Ab v1.heap.size v4 x1 := by rw [← hx1]; exact ab0.set _ (show w.heap.size + 1 < v1.heap.size by omega) _
      have bw1 : Below w.heap.size w x1 := by rw [← hx1]; exact bw0.setCell (p := ⟨w.heap.size + 1, 0, none⟩) (by show w.heap.size ≤ w.heap.size + 1; omega) _
      have y1 : x1.cell? ⟨w.heap.size + 1, 1, none⟩ = some (.slice none 0 0) := by simp [World.cell?, z1]
      have fz1 : x1.frozen? ⟨w.heap.size + 1, 1, none⟩ = false := by simp [World.frozen?, z1]
      obtain ⟨x2, hx2⟩ : ∃ v, x1.setCell ⟨w.heap.size + 1, 1, none⟩ (.slice LA2 S.labels.length lc2) = v := ⟨_, rfl⟩
      have z2 : x2.heap[w.heap.size + 1]? = some (.cells #[.string S.name, .slice LA2 S.labels.length lc2, .slice none 0 0, .slice none 0 0, .int .i64 0, .int .i64 0, .int .i64 0] 25 (0, 0)) := by rw [← hx2]; simpa using heap_setCell_same x1 (w.heap.size + 1) 1 _ _ (.slice LA2 S.labels.length lc2) z1
      have ab2 : Ab v1.heap.size v4 x2 := by rw [← hx2]; exact ab1.set _ (show w.heap.size + 1 < v1.heap.size by omega) _
      have bw2 : Below w.heap.size w x2 := by rw [← hx2]; exact bw1.setCell (p := ⟨w.heap.size + 1, 1, none⟩) (by show w.heap.size ≤ w.heap.size + 1; omega) _
      have y2 : x2.cell? ⟨w.heap.size + 1, 2, none⟩ = some (.slice none 0 0) := by simp [World.cell?, z2]
      have fz2 : x2.frozen? ⟨w.heap.size + 1, 2, none⟩ = false := by simp [World.frozen?, z2]
      obtain ⟨x3, hx3⟩ : ∃ v, x2.setCell ⟨w.heap.size + 1, 2, none⟩ (.slice IA2 S.init.length ic2) = v := ⟨_, rfl⟩
      have z3 : x3.heap[w.heap.size + 1]? = some (.cells #[.string S.name, .slice LA2 S.labels.length lc2, .slice IA2 S.init.length ic2, .slice none 0 0, .int .i64 0, .int .i64 0, .int .i64 0] 25 (0, 0)) := by rw [← hx3]; simpa using heap_setCell_same x2 (w.heap.size + 1) 2 _ _ (.slice IA2 S.init.length ic2) z2
      have ab3 : Ab v1.heap.size v4 x3 := by rw [← hx3]; exact ab2.set _ (show w.heap.size + 1 < v1.heap.size by omega) _
      have bw3 : Below w.heap.size w x3 := by rw [← hx3]; exact bw2.setCell (p := ⟨w.heap.size + 1, 2, none⟩) (by show w.heap.size ≤ w.heap.size + 1; omega) _
      have y3 : x3.cell? ⟨w.heap.size + 1, 3, none⟩ = some (.slice none 0 0) := by simp [World.cell?, z3]
      have fz3 : x3.frozen? ⟨w.heap.size + 1, 3, none⟩ = false := by simp [World.frozen?, z3]
      obtain ⟨x4, hx4⟩ : ∃ v, x3.setCell ⟨w.heap.size + 1, 3, none⟩ (.slice MA2 S.main.length mc2) = v := ⟨_, rfl⟩
      have z4 : x4.heap[w.heap.size + 1]? = some (.cells #[.string S.name, .slice LA2 S.labels.length lc2, .slice IA2 S.init.length ic2, .slice MA2 S.main.length mc2, .int .i64 0, .int .i64 0, .int .i64 0] 25 (0, 0)) := by rw [← hx4]; simpa using heap_setCell_same x3 (w.heap.size + 1) 3 _ _ (.slice MA2 S.main.length mc2) z3
      have ab4 : Ab v1.heap.size v4 x4 := by rw [← hx4]; exact ab3.set _ (show w.heap.size + 1 < v1.heap.size by omega) _
      have bw4 : Below w.heap.size w x4 := by rw [← hx4]; exact bw3.setCell (p := ⟨w.heap.size + 1, 3, none⟩) (by show w.heap.size ≤ w.heap.size + 1; omega) _
      have y4 : x4.cell? ⟨w.heap.size + 1, 4, none⟩ = some (.int .i64 0) := by simp [World.cell?, z4]
      have fz4 : x4.frozen? ⟨w.heap.size + 1, 4, none⟩ = false := by simp [World.frozen?, z4]
      obtain ⟨x5, hx5⟩ : ∃ v, x4.setCell ⟨w.heap.size + 1, 4, none⟩ (.int .i64 S.restart) = v := ⟨_, rfl⟩
      have z5 : x5.heap[w.heap.size + 1]? = some (.cells #[.string S.name, .slice LA2 S.labels.length lc2, .slice IA2 S.init.length ic2, .slice MA2 S.main.length mc2, .int .i64 S.restart, .int .i64 0, .int .i64 0] 25 (0, 0)) := by rw [← hx5]; simpa using heap_setCell_same x4 (w.heap.size + 1) 4 _ _ (.int .i64 S.restart) z4
      have ab5 : Ab v1.heap.size v4 x5 := by rw [← hx5]; exact ab4.set _ (show w.heap.size + 1 < v1.heap.size by omega) _
      have bw5 : Below w.heap.size w x5 := by rw [← hx5]; exact bw4.setCell (p := ⟨w.heap.size + 1, 4, none⟩) (by show w.heap.size ≤ w.heap.size + 1; omega) _
      have y5 : x5.cell? ⟨w.heap.size + 1, 5, none⟩ = some (.int .i64 0) := by simp [World.cell?, z5]
      have fz5 : x5.frozen? ⟨w.heap.size + 1, 5, none⟩ = false := by simp [World.frozen?, z5]
      obtain ⟨x6, hx6⟩ : ∃ v, x5.setCell ⟨w.heap.size + 1, 5, none⟩ (.int .i64 S.grace) = v := ⟨_, rfl⟩
      have z6 : x6.heap[w.heap.size + 1]? = some (.cells #[.string S.name, .slice LA2 S.labels.length lc2, .slice IA2 S.init.length ic2, .slice MA2 S.main.length mc2, .int .i64 S.restart, .int .i64 S.grace, .int .i64 0] 25 (0, 0)) := by rw [← hx6]; simpa using heap_setCell_same x5 (w.heap.size + 1) 5 _ _ (.int .i64 S.grace) z5
      have ab6 : Ab v1.heap.size v4 x6 := by rw [← hx6]; exact ab5.set _ (show w.heap.size + 1 < v1.heap.size by omega) _
      have bw6 : Below w.heap.size w x6 := by rw [← hx6]; exact bw5.setCell (p := ⟨w.heap.size + 1, 5, none⟩) (by show w.heap.size ≤ w.heap.size + 1; omega) _
      have y6 : x6.cell? ⟨w.heap.size + 1, 6, none⟩ = some (.int .i64 0) := by simp [World.cell?, z6]
      have fz6 : x6.frozen? ⟨w.heap.size + 1, 6, none⟩ = false := by simp [World.frozen?, z6]
      obtain ⟨x7, hx7⟩ : ∃ v, x6.setCell ⟨w.heap.size + 1, 6, none⟩ (.int .i64 S.prio) = v := ⟨_, rfl⟩
      have z7 : x7.heap[w.heap.size + 1]? = some (.cells #[.string S.name, .slice LA2 S.labels.length lc2, .slice IA2 S.init.length ic2, .slice MA2 S.main.length mc2, .int .i64 S.restart, .int .i64 S.grace, .int .i64 S.prio] 25 (0, 0)) := by rw [← hx7]; simpa using heap_setCell_same x6 (w.heap.size + 1) 6 _ _ (.int .i64 S.prio) z6
      have ab7 : Ab v1.heap.size v4 x7 := by rw [← hx7]; exact ab6.set _ (show w.heap.size + 1 < v1.heap.size by omega) _
      have bw7 : Below w.heap.size w x7 := by rw [← hx7]; exact bw6.setCell (p := ⟨w.heap.size + 1, 6, none⟩) (by show w.heap.size ≤ w.heap.size + 1; omega) _
      have r0' : x7.cell? ⟨w.heap.size + 1, 0, none⟩ = some (.string S.name) := by simp [World.cell?, z7]
      have r1' : x7.cell? ⟨w.heap.size + 1, 1, none⟩ = some (.slice LA2 S.labels.length lc2) := by simp [World.cell?, z7]
      have r2' : x7.cell? ⟨w.heap.size + 1, 2, none⟩ = some (.slice IA2 S.init.length ic2) := by simp [World.cell?, z7]
      have r3' : x7.cell? ⟨w.heap.size + 1, 3, none⟩ = some (.slice MA2 S.main.length mc2) := by simp [World.cell?, z7]
      have r4' : x7.cell? ⟨w.heap.size + 1, 4, none⟩ = some (.int .i64 S.restart) := by simp [World.cell?, z7]
      have r5' : x7.cell? ⟨w.heap.size + 1, 5, none⟩ = some (.int .i64 S.grace) := by simp [World.cell?, z7]
      have r6' : x7.cell? ⟨w.heap.size + 1, 6, none⟩ = some (.int .i64 S.prio) := by simp [World.cell?, z7]
      have HAB := Lib.hid ab7
      have HBW7 := Lib.hid bw7
      clear z0 z1 z2 z3 z4 z5 z6 z7 ab0 ab1 ab2 ab3 ab4 ab5 ab6 ab7 bw0 bw1 bw2 bw3 bw4 bw5 bw6 bw7
      go_wp2_with fail
      refine bodyPost_ret (v := .agg #[.string S.name, .slice LA2 S.labels.length lc2, .slice IA2 S.init.length ic2, .slice MA2 S.main.length mc2, .int .i64 S.restart, .int .i64 S.grace, .int .i64 S.prio]) ?hres rfl ?_
      case hres =>
        simp [results, Tryz.results13, go_sem, r0', r1', r2', r3', r4', r5', r6']
      have hA47 : Ab v1.heap.size wr x7 := HAB3.out.trans (HAB4.out.trans HAB.out)
      obtain ⟨hl, hf⟩ := lbls_own HI.out.1
      have hI := ctrs_ab (HAB4.out.trans HAB.out) (Nat.le_refl _) HC3.out
      have hM := ctrs_ab HAB.out (Nat.le_refl _) HC4.out
      have hw1 : w.heap.size ≤ v1.heap.size := by omega
      have hA37 : Ab v1.heap.size w3 x7 := HAB33.out.trans (HAB4.out.trans HAB.out)
      have hr3 : w3.heap.size ≤ v4.heap.size := by have := HAB4.out.size; omega
      exact ⟨LA2, lc2, IA2, ic2, MA2, mc2, rfl, ⟨lbls_ab hA47 hl hf, ctrs_in hI, ctrs_in hM, HS.out.nl, HS.out.ni, HS.out.nm, HS.out.restart, HS.out.grace, HS.out.prio⟩, fun a ha => Nat.le_trans hw1 (hf a ha), (thaw_own HI.out.1).ab hA47 hf, ctrs_less hw1 hI, ctrs_less hw1 hM, hcc, hci2, hcm2, HBW7.out, w3.heap.size, HMID.out.keep hA37.size (by omega) (fun i h1 h2 => hA37.block i (by omega) h2), ctrs_ab (HAB.out.mono (by have := HAB3.out.size; omega)) (Nat.le_refl _) HC5.out⟩
end SpecOwn
end Go.Proofs.YtefkaebdfkjkgaaGreatDoor
