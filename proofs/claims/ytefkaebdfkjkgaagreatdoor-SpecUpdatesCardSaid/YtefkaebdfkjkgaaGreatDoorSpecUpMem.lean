/-
  A cell of a container in a row of one's own is written: the row holds the list with that container turned. Condition: the ports lie in blocks other than the row's.
-/
import Derived.Test.YtefkaebdfkjkgaaGreatDoorBookSpoil
import Derived.Test.YtefkaebdfkjkgaaGreatDoorSpecUpPure
set_option linter.unusedVariables false
set_option linter.unusedSimpArgs false
namespace Go.Proofs.YtefkaebdfkjkgaaGreatDoor
open Go.ChangeShapes Go.WideShapes Go.ChangeAt Go.RowKit Go.Lib
open Sd Lists Book
namespace SpecOwn

theorem add_offs (a : Addr) (n : Nat) : (a.add n).off = a.off + n := by
  unfold Addr.add
  split
  · rename_i h; subst h; simp
  · rfl
theorem addr_eq {p q : Addr} (h1 : p.block = q.block) (h2 : p.off = q.off) (h3 : p.spot = none) (h4 : q.spot = none) : p = q := by
  obtain ⟨a, b, c⟩ := p
  obtain ⟨d, e, f⟩ := q
  simp only at h1 h2 h3 h4
  subst h1 h2 h3 h4
  rfl
/-- a cell that is not the one written -/
theorem cell_off {w : World} {p q : Addr} {u v z : Value} (hp : w.cell? p = some v) (hq : w.cell? q = some z) (hne : q.off ≠ p.off) : (w.setCell p u).cell? q = some z := by
  rw [cell_set hp (cell_spot hq), if_neg (fun e => hne (by rw [e]))]
  exact hq
theorem cell_on {w : World} {p : Addr} {u v : Value} (hp : w.cell? p = some v) : (w.setCell p u).cell? p = some u := by
  rw [cell_set hp (cell_spot hp), if_pos rfl]
theorem cells_off {x : Ctr} {P : Option Addr} {c : Nat} {w : World} {a p : Addr} {u v : Value} (h : x.cellsAt P c w a) (hp : w.cell? p = some v) (hne : ∀ i, i < 11 → a.off + i ≠ p.off) : x.cellsAt P c (w.setCell p u) a := by
  obtain ⟨c0, c1, c2, c3, c4, c5, c6, c7, c8, c9, c10, hl⟩ := h
  exact ⟨cell_off hp c0 (hne 0 (by omega)), cell_off hp c1 (hne 1 (by omega)), cell_off hp c2 (hne 2 (by omega)), cell_off hp c3 (hne 3 (by omega)), cell_off hp c4 (hne 4 (by omega)), cell_off hp c5 (hne 5 (by omega)), cell_off hp c6 (hne 6 (by omega)), cell_off hp c7 (hne 7 (by omega)), cell_off hp c8 (hne 8 (by omega)), cell_off hp c9 (hne 9 (by omega)), cell_off hp c10 (hne 10 (by omega)), hl⟩
theorem nums_off {w : World} {P : Option Addr} {l : List Int} {p : Addr} {u : Value} (h : Nums .i64 w P l) (hne : ∀ q, P = some q → q.block ≠ p.block) : Nums .i64 (w.setCell p u) P l := by
  intro j z hj
  obtain ⟨hw, a, ha, hla, hca⟩ := h j z hj
  refine ⟨hw, a, ha, by simpa using hla, ?_⟩
  rw [World.cell?_of_block (w := w) (Below.heap_setCell _ _ _ _ (by rw [add_block]; exact hne a ha))]
  exact hca
theorem thaw_set {w : World} {A : Option Addr} {p : Addr} {u : Value} (h : Thaw w A) : Thaw (w.setCell p u) A := fun a ha => ⟨by simpa using (h a ha).1, fun j => by simpa using (h a ha).2 j⟩

/-- cell number r of container k is written -/
theorem ctrs_set {B : Nat} {w : World} {A : Option Addr} {l : List Ctr} (h : CtrsFrom B w A l) {k : Nat} {x : Ctr} (hk : l[k]? = some x) {a : Addr} (hA : A = some a) (r : Nat) (hr' : r < 11) (old u : Value) (y : Ctr)
    (hold : w.cell? ⟨(a.add (k * 11)).block, (a.add (k * 11)).off + r, none⟩ = some old) (hy : y.Fits) (hp : y.ports = x.ports)
    (hcell : ∀ P c, x.cellsAt P c w (a.add (k * 11)) → y.cellsAt P c (w.setCell ⟨(a.add (k * 11)).block, (a.add (k * 11)).off + r, none⟩ u) (a.add (k * 11))) :
    CtrsFrom B (w.setCell ⟨(a.add (k * 11)).block, (a.add (k * 11)).off + r, none⟩ u) A (l.set k y) := by
  intro j z hj
  have hl := (List.getElem?_eq_some_iff.1 hk).1
  by_cases hjk : k = j
  · subst hjk
    rw [List.getElem?_set_self hl] at hj
    obtain rfl := Option.some.inj hj
    obtain ⟨hf, a', P, c, hA', h1, h2, hc, hn, hP, tA, tP, hne⟩ := h k x hk
    rw [hA] at hA'
    obtain rfl := Option.some.inj hA'
    refine ⟨hy, a, P, c, hA, h1, by simpa using h2, hcell P c hc, ?_, hP, thaw_set tA, thaw_set tP, hne⟩
    rw [hp]
    exact nums_off hn (fun q hq => by rw [show (⟨(a.add (k * 11)).block, (a.add (k * 11)).off + r, none⟩ : Addr).block = a.block from add_block _ _]; exact hne q hq)
  · rw [List.getElem?_set_ne hjk] at hj
    obtain ⟨hf, a', P, c, hA', h1, h2, hc, hn, hP, tA, tP, hne⟩ := h j z hj
    rw [hA] at hA'
    obtain rfl := Option.some.inj hA'
    refine ⟨hf, a, P, c, hA, h1, by simpa using h2, cells_off hc hold (fun i hi => ?_), ?_, hP, thaw_set tA, thaw_set tP, hne⟩
    · show (a.add (j * 11)).off + i ≠ (a.add (k * 11)).off + r
      rw [add_offs, add_offs]
      omega
    · exact nums_off hn (fun q hq => by rw [show (⟨(a.add (k * 11)).block, (a.add (k * 11)).off + r, none⟩ : Addr).block = a.block from add_block _ _]; exact hne q hq)

theorem ctrs_img {B : Nat} {w : World} {A : Option Addr} {l : List Ctr} (h : CtrsFrom B w A l) {k : Nat} {x : Ctr} (hk : l[k]? = some x) {a : Addr} (hA : A = some a) (s : ByteArray) :
    CtrsFrom B (w.setCell ⟨(a.add (k * 11)).block, (a.add (k * 11)).off + 1, none⟩ (.string s)) A (l.set k { x with image := s }) := by
  obtain ⟨hf, a', P0, c0', hA', _, _, hc0, _⟩ := h k x hk
  rw [hA] at hA'
  obtain rfl := Option.some.inj hA'
  have hold := hc0.2.1
  refine ctrs_set h hk hA 1 (by omega) _ _ _ hold ⟨hf.rc, hf.rm, hf.rp, hf.lc, hf.lm, hf.lp, hf.ev, hf.fl, hf.ports⟩ rfl (fun P c hc => ?_)
  obtain ⟨c0, c1, c2, c3, c4, c5, c6, c7, c8, c9, c10, hl⟩ := hc
  have o : ∀ i, i ≠ 1 → (a.add (k * 11)).off + i ≠ (a.add (k * 11)).off + 1 := fun i hi => by omega
  exact ⟨cell_off hold c0 (o 0 (by omega)), cell_on hold, cell_off hold c2 (o 2 (by omega)), cell_off hold c3 (o 3 (by omega)), cell_off hold c4 (o 4 (by omega)), cell_off hold c5 (o 5 (by omega)), cell_off hold c6 (o 6 (by omega)), cell_off hold c7 (o 7 (by omega)), cell_off hold c8 (o 8 (by omega)), cell_off hold c9 (o 9 (by omega)), cell_off hold c10 (o 10 (by omega)), hl⟩
theorem ctrs_rc {B : Nat} {w : World} {A : Option Addr} {l : List Ctr} (h : CtrsFrom B w A l) {k : Nat} {x : Ctr} (hk : l[k]? = some x) {a : Addr} (hA : A = some a) (z : Int) (hz : I64 z) :
    CtrsFrom B (w.setCell ⟨(a.add (k * 11)).block, (a.add (k * 11)).off + 2, none⟩ (.int .i64 z)) A (l.set k { x with rc := z }) := by
  obtain ⟨hf, a', P0, c0', hA', _, _, hc0, _⟩ := h k x hk
  rw [hA] at hA'
  obtain rfl := Option.some.inj hA'
  have hold := hc0.2.2.1
  refine ctrs_set h hk hA 2 (by omega) _ _ _ hold ⟨hz, hf.rm, hf.rp, hf.lc, hf.lm, hf.lp, hf.ev, hf.fl, hf.ports⟩ rfl (fun P c hc => ?_)
  obtain ⟨c0, c1, c2, c3, c4, c5, c6, c7, c8, c9, c10, hl⟩ := hc
  have o : ∀ i, i ≠ 2 → (a.add (k * 11)).off + i ≠ (a.add (k * 11)).off + 2 := fun i hi => by omega
  exact ⟨cell_off hold c0 (o 0 (by omega)), cell_off hold c1 (o 1 (by omega)), cell_on hold, cell_off hold c3 (o 3 (by omega)), cell_off hold c4 (o 4 (by omega)), cell_off hold c5 (o 5 (by omega)), cell_off hold c6 (o 6 (by omega)), cell_off hold c7 (o 7 (by omega)), cell_off hold c8 (o 8 (by omega)), cell_off hold c9 (o 9 (by omega)), cell_off hold c10 (o 10 (by omega)), hl⟩
end SpecOwn
end Go.Proofs.YtefkaebdfkjkgaaGreatDoor
