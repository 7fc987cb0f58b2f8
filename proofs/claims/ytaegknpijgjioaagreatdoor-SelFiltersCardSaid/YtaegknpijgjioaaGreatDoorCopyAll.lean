/-
  The contracts of slices.Clone on numbers, labels and containers: the same elements in memory of the call's own. All that was there is left as it was. Condition: there are not too many. And what follows of it, part by part, each with its conditions.
-/
import Derived.Test.YtaegknpijgjioaaGreatDoorSpecSameG
import Derived.Test.YtaegknpijgjioaaGreatDoorSpecDataAll
import Derived.Test.YtaegknpijgjioaaGreatDoorAppendAny
import Derived.Test.YtaegknpijgjioaaGreatDoorSpecList
import Derived.Test.YtaegknpijgjioaaGreatDoorSpecRowAll
import Derived.Test.YtaegknpijgjioaaGreatDoorLawSpecAll
import Derived.Lib.SliceRun
import Derived.Deep.RegionHeld3
import Derived.RegionTactic
/- The contracts of slices.Clone on numbers, labels and containers: the same elements in memory of the call's own. All that was there is left as it was. Condition: there are not too many. -/
namespace Go.Proofs.YtaegknpijgjioaaGreatDoor
open Go.ChangeShapes Go.WideShapes Go.ChangeAt Go.RowKit Go.Lib
open Sd Lists
namespace SpecOwn

theorem info_label : (Tryz.prog.info? 49).map (fun i => (i.zero, i.size, i.bytes)) = some (some (.agg #[.string ⟨#[]⟩, .string ⟨#[]⟩]), 2, 32) := by kernel_rfl
set_option maxRecDepth 100000 in
theorem cloneInts_any (A : Option Addr) (c : Nat) (l : List Int) (hl : l.length ≤ 100000) (w : World) (h : Nums .i64 w A l) :
    Calls Tryz.prog 42 #[.slice A l.length c] w fun e w' => ∃ A' c', e = .returned (.slice A' l.length c') ∧ Nums .i64 w' A' l ∧ From w.heap.size A' ∧ Thaw w' A' ∧ l.length ≤ c' ∧ Below w.heap.size w w' := by
  have hq : ∀ v, (binOp .eql 31 (.slice A l.length c) (.slice none 0 0)).run Tryz.prog v = .ok (.bool A.isNone) v := fun v => Lib.run_eql_slice_nil v _ _ A l.length c 0 0 Tryz.underlying31
  cases A with
  | none =>
    have hz : l = [] := by
      cases hq : l with
      | nil => rfl
      | cons z zs =>
        obtain ⟨_, a, ha, _⟩ := h 0 z (by rw [hq]; rfl)
        cases ha
    subst hz
    have hq' : ∀ v, (binOp .eql 31 (.slice none 0 c) (.slice none 0 0)).run Tryz.prog v = .ok (.bool true) v := hq
    clear hq
    go_enter Tryz.func42, Tryz.ntmps42
    go_wp2
    go_ret
    exact ⟨none, 0, rfl, h, (fun a ha => by cases ha), (fun a ha => by cases ha), Nat.le_refl _, Below.refl _ _⟩
  | some a =>
    have H := Lib.hid h
    obtain ⟨i0, hi, hz0, hz1, hz2⟩ := info_parts info_int
    have hq' : ∀ v, (binOp .eql 31 (.slice (some a) l.length c) (.slice none 0 0)).run Tryz.prog v = .ok (.bool false) v := hq
    clear h hq
    go_enter Tryz.func42, Tryz.ntmps42
    go_wp2_with (at_builtin; refine wpList_append_own _ rfl _ _ 31 rfl w.heap.size 3 i0 (.int .i64 0) 1 8 Tryz.underlying31 hi hz0 hz1 hz2 rfl (by decide) _ _ _ rfl (World.ownsRow_made w #[] 0 (Nat.le_refl _) (Nat.zero_le _) rfl) a l.length c (l.map (Value.int .i64)) rfl ?qc1 ?qc2 ?qc3 ?qc4 ?qc5 ?qc6 ?_)
    case qc1 => simp
    case qc2 =>
      intro j u hj
      rw [List.getElem?_map] at hj
      obtain ⟨z, hz, rfl⟩ := Option.map_eq_some_iff.1 hj
      obtain ⟨_, a', ha', hla, hca⟩ := H.out j z hz
      injection ha' with ha'
      subst ha'
      exact (((Below.refl w.heap.size w).alloc (Nat.le_refl _) _).cell (by rw [add_block]; exact hla)).trans hca
    case qc3 => intro u hu; obtain ⟨x, _, rfl⟩ := List.mem_map.1 hu; rfl
    case qc4 => unfold maxLen; omega
    case qc5 => omega
    case qc6 => simp
    intro v' w1 hown hgrow hnil
    obtain ⟨A', c', rfl⟩ := own_form hown
    have hb : Below w.heap.size w w1 := ((Below.refl _ w).alloc (Nat.le_refl _) _).grown hgrow (by simp) (by intro k hk; simp [Value.ownBlock] at hk; omega)
    have hown2 : w1.ownsRow w.heap.size 3 1 (.slice A' (0 + l.length) c') l.length (l.map (Value.int .i64)) := by simpa using hown
    have HN := Lib.hid (show Nums .i64 w1 A' l from fun k z hz => by
      obtain ⟨a', ha', hc⟩ := nums_of_own hown2 k z hz
      exact ⟨(H.out k z hz).1, a', ha', by have := World.block_lt_of_cell? w1 _ hc; rwa [add_block] at this, hc⟩)
    have HF := Lib.hid (show From w.heap.size A' from fun x hx => (hown2.lt x.block (by rw [hx]; rfl)).1)
    have HTH := Lib.hid (show Thaw w1 A' from thaw_own (n := l.length) (c := c') (by simpa using hown2))
    have HC := Lib.hid (show l.length ≤ c' by
      rcases hown2.2 with ⟨e, h0⟩ | ⟨g, cap, cur, e, _, _, h1, _⟩
      · injection e with _ e2 e3; omega
      · injection e with _ e2 e3; omega)
    have HB := Lib.hid hb
    clear hown hown2 hgrow hnil hb
    go_wp2
    go_ret
    exact ⟨A', c', by simp, HN.out, HF.out, HTH.out, HC.out, HB.out⟩
theorem ctrs_held {w : World} {A : Option Addr} {l : List Ctr} (h : Ctrs w A l) : ∃ L : List Held, L.map (·.x) = l ∧ ∀ (k : Nat) (t : Held), L[k]? = some t → t.Ok w ∧ ∃ a, A = some a ∧ a.block < w.heap.size ∧ t.x.cellsAt t.P t.c w (a.add (k * 11)) := by
  obtain ⟨L, hL, hat⟩ := LawKit.list_of (Q := fun k (t : Held) => l[k]? = some t.x ∧ t.Ok w ∧ ∃ a, A = some a ∧ a.block < w.heap.size ∧ t.x.cellsAt t.P t.c w (a.add (k * 11))) l.length (fun k hk => by
    obtain ⟨t, a, h1, h2, h3, h4, h5⟩ := h.held hk
    exact ⟨t, by rw [List.getElem?_eq_getElem hk, h1], h2, a, h3, h4, h5⟩)
  refine ⟨L, ?_, fun k t hk => (hat k t hk).2⟩
  apply List.ext_getElem?
  intro k
  rw [List.getElem?_map]
  rcases Nat.lt_or_ge k L.length with hk | hk
  · rw [List.getElem?_eq_getElem hk]
    exact (hat k _ (List.getElem?_eq_getElem hk)).1.symm
  · rw [List.getElem?_eq_none hk, List.getElem?_eq_none (by omega)]; rfl
theorem info_ctr' : (Tryz.prog.info? 76).map (fun i => (i.zero, i.size, i.bytes)) = some (some (.agg #[.string ⟨#[]⟩, .string ⟨#[]⟩, .int .i64 0, .int .i64 0, .int .i64 0, .int .i64 0, .int .i64 0, .int .i64 0, .slice none 0 0, .int .i64 0, .int .i64 0]), 11, 120) := by kernel_rfl
set_option maxRecDepth 100000 in
theorem sliceLabels_any (A : Option Addr) (c : Nat) (n : Nat) (hn : n ≤ 100000) (l : List Lbl) (hlen : (flatL l).length = n * 2) (w : World) (hnone : A = none → n = 0) (hsrc : ∀ (j : Nat) u, (flatL l)[j]? = some u → ∃ a, A = some a ∧ a.block < w.heap.size ∧ w.cell? (a.add j) = some u) :
    Calls Tryz.prog 63 #[.slice A n c] w fun e w' => ∃ A' c', e = .returned (.slice A' n c') ∧ w'.ownsRow w.heap.size 49 2 (.slice A' n c') n (flatL l) ∧ n ≤ c' ∧ Below w.heap.size w w' := by
  have hq : ∀ v, (binOp .eql 22 (.slice A n c) (.slice none 0 0)).run Tryz.prog v = .ok (.bool A.isNone) v := fun v => Lib.run_eql_slice_nil v _ _ A n c 0 0 Tryz.underlying22
  cases A with
  | none =>
    obtain rfl : n = 0 := hnone rfl
    have HZ := Lib.hid (show (flatL l) = [] from List.eq_nil_of_length_eq_zero (by rw [hlen]))
    have hq' : ∀ v, (binOp .eql 22 (.slice none 0 c) (.slice none 0 0)).run Tryz.prog v = .ok (.bool true) v := hq
    clear hq
    go_enter Tryz.func63, Tryz.ntmps63
    go_wp2
    go_ret
    exact ⟨none, 0, rfl, by rw [HZ.out]; exact World.ownsRow_nil _ _ _ _, Below.refl _ _⟩
  | some a =>
    have H := Lib.hid hsrc
    obtain ⟨i0, hi, hz0, hz1, hz2⟩ := info_parts info_label
    have hq' : ∀ v, (binOp .eql 22 (.slice (some a) n c) (.slice none 0 0)).run Tryz.prog v = .ok (.bool false) v := hq
    clear hsrc hq
    go_enter Tryz.func63, Tryz.ntmps63
    go_wp2_with (at_builtin; refine wpList_append_own _ rfl _ _ 22 rfl w.heap.size 49 i0 _ 2 32 Tryz.underlying22 hi hz0 hz1 hz2 rfl (by decide) _ _ _ rfl (World.ownsRow_made w #[] 0 (Nat.le_refl _) (Nat.zero_le _) rfl) a n c (flatL l) rfl ?qc1 ?qc2 ?qc3 ?qc4 ?qc5 ?qc6 ?_)
    case qc1 => exact hlen
    case qc2 =>
      intro j u hj
      obtain ⟨a', ha', hla, hca⟩ := H.out j u hj
      injection ha' with ha'
      subst ha'
      exact (((Below.refl w.heap.size w).alloc (Nat.le_refl _) _).cell (by rw [add_block]; exact hla)).trans hca
    case qc3 => exact flatL_str l
    case qc4 => unfold maxLen; omega
    case qc5 => omega
    case qc6 => simp
    intro v' w1 hown hgrow hnil
    obtain ⟨A', c', rfl⟩ := own_form hown
    have hown2 : w1.ownsRow w.heap.size 49 2 (.slice A' (0 + n) c') n (flatL l) := by simpa using hown
    have HO := Lib.hid (show w1.ownsRow w.heap.size 49 2 (.slice A' n c') n (flatL l) by rw [Nat.zero_add] at hown2; exact hown2)
    have HC := Lib.hid (show n ≤ c' by
      rcases hown2.2 with ⟨e, h0⟩ | ⟨g, cap, cur, e, _, _, h1, _⟩
      · injection e with _ e2 e3; omega
      · injection e with _ e2 e3; omega)
    have HB := Lib.hid (show Below w.heap.size w w1 from ((Below.refl _ w).alloc (Nat.le_refl _) _).grown hgrow (by simp) (by intro k hk; simp [Value.ownBlock] at hk; omega))
    clear hown hown2 hgrow hnil
    go_wp2
    go_ret
    exact ⟨A', c', by simp, HO.out, HC.out, HB.out⟩
set_option maxRecDepth 100000 in
theorem sliceCtrs_any (A : Option Addr) (c : Nat) (n : Nat) (hn : n ≤ 100000) (L : List Held) (hlen : (flat L).length = n * 11) (w : World) (hnone : A = none → n = 0) (hsrc : ∀ (j : Nat) u, (flat L)[j]? = some u → ∃ a, A = some a ∧ a.block < w.heap.size ∧ w.cell? (a.add j) = some u) :
    Calls Tryz.prog 90 #[.slice A n c] w fun e w' => ∃ A' c', e = .returned (.slice A' n c') ∧ w'.ownsRow w.heap.size 76 11 (.slice A' n c') n (flat L) ∧ n ≤ c' ∧ Below w.heap.size w w' := by
  have hq : ∀ v, (binOp .eql 28 (.slice A n c) (.slice none 0 0)).run Tryz.prog v = .ok (.bool A.isNone) v := fun v => Lib.run_eql_slice_nil v _ _ A n c 0 0 Tryz.underlying28
  cases A with
  | none =>
    obtain rfl : n = 0 := hnone rfl
    have HZ := Lib.hid (show (flat L) = [] from List.eq_nil_of_length_eq_zero (by rw [hlen]))
    have hq' : ∀ v, (binOp .eql 28 (.slice none 0 c) (.slice none 0 0)).run Tryz.prog v = .ok (.bool true) v := hq
    clear hq
    go_enter Tryz.func90, Tryz.ntmps90
    go_wp2
    go_ret
    exact ⟨none, 0, rfl, by rw [HZ.out]; exact World.ownsRow_nil _ _ _ _, Below.refl _ _⟩
  | some a =>
    have H := Lib.hid hsrc
    obtain ⟨i0, hi, hz0, hz1, hz2⟩ := info_parts info_ctr'
    have hq' : ∀ v, (binOp .eql 28 (.slice (some a) n c) (.slice none 0 0)).run Tryz.prog v = .ok (.bool false) v := hq
    clear hsrc hq
    go_enter Tryz.func90, Tryz.ntmps90
    go_wp2_with (at_builtin; refine wpList_append_own _ rfl _ _ 28 rfl w.heap.size 76 i0 _ 11 120 Tryz.underlying28 hi hz0 hz1 hz2 rfl (by decide) _ _ _ rfl (World.ownsRow_made w #[] 0 (Nat.le_refl _) (Nat.zero_le _) rfl) a n c (flat L) rfl ?qc1 ?qc2 ?qc3 ?qc4 ?qc5 ?qc6 ?_)
    case qc1 => exact hlen
    case qc2 =>
      intro j u hj
      obtain ⟨a', ha', hla, hca⟩ := H.out j u hj
      injection ha' with ha'
      subst ha'
      exact (((Below.refl w.heap.size w).alloc (Nat.le_refl _) _).cell (by rw [add_block]; exact hla)).trans hca
    case qc3 => exact flat_cells L
    case qc4 => unfold maxLen; omega
    case qc5 => omega
    case qc6 => simp
    intro v' w1 hown hgrow hnil
    obtain ⟨A', c', rfl⟩ := own_form hown
    have hown2 : w1.ownsRow w.heap.size 76 11 (.slice A' (0 + n) c') n (flat L) := by simpa using hown
    have HO := Lib.hid (show w1.ownsRow w.heap.size 76 11 (.slice A' n c') n (flat L) by rw [Nat.zero_add] at hown2; exact hown2)
    have HC := Lib.hid (show n ≤ c' by
      rcases hown2.2 with ⟨e, h0⟩ | ⟨g, cap, cur, e, _, _, h1, _⟩
      · injection e with _ e2 e3; omega
      · injection e with _ e2 e3; omega)
    have HB := Lib.hid (show Below w.heap.size w w1 from ((Below.refl _ w).alloc (Nat.le_refl _) _).grown hgrow (by simp) (by intro k hk; simp [Value.ownBlock] at hk; omega))
    clear hown hown2 hgrow hnil
    go_wp2
    go_ret
    exact ⟨A', c', by simp, HO.out, HC.out, HB.out⟩
end SpecOwn
end Go.Proofs.YtaegknpijgjioaaGreatDoor

/- The contract of spec.clones: containers in memory of the call's own, their ports too. All that was there is left as it was. Condition: there are not too many; they are light. -/
namespace Go.Proofs.YtaegknpijgjioaaGreatDoor
open Go.ChangeShapes Go.WideShapes Go.ChangeAt Go.RowKit Go.Lib
open Sd Lists
namespace SpecOwn

/-- a row being cloned: those ahead of k have ports of their own -/
structure Half (w : World) (wr : World) (A : Option Addr) (c : Nat) (l : List Ctr) (k : Nat) (M : List Held) : Prop where
  own : wr.ownsRow w.heap.size 76 11 (.slice A l.length c) l.length (flat M)
  xs : M.map (·.x) = l
  done : ∀ (j : Nat) (t : Held), M[j]? = some t → j < k → t.Ok wr ∧ From w.heap.size t.P ∧ Thaw wr t.P ∧ ∀ a g, t.P = some a → A = some g → a.block ≠ g.block
  todo : ∀ (j : Nat) (t : Held), M[j]? = some t → k ≤ j → t.Ok w
  below : Below w.heap.size w wr
/-- a container's copy in a box of its own -/
def CB (t : Held) (b : Nat) (wr w' : World) : Prop := w'.heap[b]? = some (.cells #[.string t.x.name, .string t.x.image, .int .i64 t.x.rc, .int .i64 t.x.rm, .int .i64 t.x.rp, .int .i64 t.x.lc, .int .i64 t.x.lm, .int .i64 t.x.lp, .slice t.P t.x.ports.length t.c, .int .i64 t.x.ev, .int .i64 t.x.fl] 76 (0, 0)) ∧ w'.cell? ⟨b, 0, none⟩ = some (.string t.x.name) ∧ w'.cell? ⟨b, 1, none⟩ = some (.string t.x.image) ∧ w'.frozen? ⟨b, 0, none⟩ = false ∧ w'.frozen? ⟨b, 1, none⟩ = false ∧ Below b wr w'
theorem cb_of {t : Held} {b : Nat} {wr w' : World} (h : w'.heap[b]? = some (.cells #[.string t.x.name, .string t.x.image, .int .i64 t.x.rc, .int .i64 t.x.rm, .int .i64 t.x.rp, .int .i64 t.x.lc, .int .i64 t.x.lm, .int .i64 t.x.lp, .slice t.P t.x.ports.length t.c, .int .i64 t.x.ev, .int .i64 t.x.fl] 76 (0, 0))) (hb : Below b wr w') : CB t b wr w' :=
  ⟨h, by simp [World.cell?, h], by simp [World.cell?, h], by simp [World.frozen?, h], by simp [World.frozen?, h], hb⟩
theorem cb_keep {t : Held} {b : Nat} {wr w w' : World} (hb : Below w.heap.size w w') (h : CB t b wr w) : CB t b wr w' := cb_of ((hb.block b (lt_of_block h.1)).trans h.1) (h.2.2.2.2.2.trans (hb.mono (Nat.le_of_lt (lt_of_block h.1))))
theorem cb_s0 {t : Held} {b : Nat} {wr w : World} (h : CB t b wr w) : CB t b wr (w.setCell ⟨b, 0, none⟩ (.string t.x.name)) := cb_of (by simpa using heap_setCell_same w b 0 _ _ (.string t.x.name) h.1) (h.2.2.2.2.2.setCell (p := ⟨b, 0, none⟩) (Nat.le_refl _) _)
theorem cb_s1 {t : Held} {b : Nat} {wr w : World} (h : CB t b wr w) : CB t b wr (w.setCell ⟨b, 1, none⟩ (.string t.x.image)) := cb_of (by simpa using heap_setCell_same w b 1 _ _ (.string t.x.image) h.1) (h.2.2.2.2.2.setCell (p := ⟨b, 1, none⟩) (Nat.le_refl _) _)
theorem cb_drew {t : Held} {b : Nat} {wr w : World} (h : CB t b wr w) : CB t b wr w.drew := cb_of h.1 h.2.2.2.2.2.drew
theorem cb_new (t : Held) (w : World) : CB t w.heap.size w (w.alloc (.cells #[.string t.x.name, .string t.x.image, .int .i64 t.x.rc, .int .i64 t.x.rm, .int .i64 t.x.rp, .int .i64 t.x.lc, .int .i64 t.x.lm, .int .i64 t.x.lp, .slice t.P t.x.ports.length t.c, .int .i64 t.x.ev, .int .i64 t.x.fl] 76)) := cb_of (heap_alloc_new w _) ((Below.refl _ w).alloc (Nat.le_refl _) _)
theorem set_skip (t : Held) (X : List Value) (k i : Nat) (v : Value) : (t.cells ++ X).set ((k + 1) * 11 + i) v = t.cells ++ X.set (k * 11 + i) v := by
  rw [List.set_append_right _ _ (by rw [t.cells_length]; omega), t.cells_length, show (k + 1) * 11 + i - 11 = k * 11 + i by omega]
theorem flat_set : ∀ (M : List Held) (k : Nat) (u : Held), k < M.length → flat (M.set k u) = (((((((((((flat M).set (k * 11 + 0) (.string u.x.name)).set (k * 11 + 1) (.string u.x.image)).set (k * 11 + 2) (.int .i64 u.x.rc)).set (k * 11 + 3) (.int .i64 u.x.rm)).set (k * 11 + 4) (.int .i64 u.x.rp)).set (k * 11 + 5) (.int .i64 u.x.lc)).set (k * 11 + 6) (.int .i64 u.x.lm)).set (k * 11 + 7) (.int .i64 u.x.lp)).set (k * 11 + 8) (.slice u.P u.x.ports.length u.c)).set (k * 11 + 9) (.int .i64 u.x.ev)).set (k * 11 + 10) (.int .i64 u.x.fl)
  | [], _, _, h => by simp at h
  | t :: M, 0, u, _ => rfl
  | t :: M, k + 1, u, h => by
    rw [List.set_cons_succ, flat, flat_set M k u (by simpa using h), flat]
    simp only [set_skip]
/-- all but block g is as it was -/
structure Kg (g : Nat) (w v : World) : Prop where
  os : v.os = w.os
  tape : v.tape = w.tape
  output : v.output = w.output
  size : w.heap.size ≤ v.heap.size
  block : ∀ b, b ≠ g → v.heap[b]? = w.heap[b]?
theorem Kg.refl (g : Nat) (w : World) : Kg g w w := ⟨rfl, rfl, rfl, Nat.le_refl _, fun _ _ => rfl⟩
theorem Kg.set {g : Nat} {w v : World} (h : Kg g w v) (j : Nat) (u : Value) : Kg g w (v.setCell ⟨g, j, none⟩ u) :=
  ⟨h.os, h.tape, h.output, by simpa using h.size, fun b hb => (Below.heap_setCell v ⟨g, j, none⟩ u b hb).trans (h.block b hb)⟩
theorem Kg.below {g B : Nat} {a w v : World} (h : Kg g w v) (hb : Below B a w) (hg : B ≤ g) : Below B a v :=
  hb.trans ⟨h.os, h.tape, h.output, h.size, fun k hk => h.block k (by omega)⟩
theorem Kg.nums {g : Nat} {w v : World} (h : Kg g w v) {P : Option Addr} {l : List Int} (hn : Nums .i64 w P l) (hne : ∀ a, P = some a → a.block ≠ g) : Nums .i64 v P l := by
  intro j z hj
  obtain ⟨hw, a, ha, hla, hca⟩ := hn j z hj
  refine ⟨hw, a, ha, Nat.lt_of_lt_of_le hla h.size, ?_⟩
  rw [World.cell?_of_block (w := w) (h.block _ (by rw [add_block]; exact hne a ha))]
  exact hca
theorem Kg.thaw {g : Nat} {w v : World} (h : Kg g w v) {P : Option Addr} (hn : Thaw w P) (hne : ∀ a, P = some a → a.block ≠ g) : Thaw v P := hn.block h.size fun a ha => h.block _ (hne a ha)
theorem row_at {v : World} {B : Nat} {e : TypeId} {g n cap : Nat} {xs : List Value} (h : v.ownsRow B e 11 (.slice (some ⟨g, 0, none⟩) n cap) n xs) (j : Nat) (hj : j < n * 11) : ∃ u, v.cell? ⟨g, j, none⟩ = some u := by
  rw [h.cellAt j hj]
  have hl := h.1
  exact ⟨_, List.getElem?_eq_getElem (by omega)⟩
set_option maxRecDepth 100000 in
set_option maxHeartbeats 4000000 in
theorem clones_any (A : Option Addr) (c : Nat) (l : List Ctr) (hl : l.length ≤ 1000) (hlight : ∀ x ∈ l, x.name.size ≤ 1000 ∧ x.image.size ≤ 1000 ∧ x.ports.length ≤ 1000) (w : World) (h : Ctrs w A l) :
    Calls Tryz.prog 64 #[.slice A l.length c] w fun e w' => ∃ A' c', e = .returned (.slice A' l.length c') ∧ CtrsFrom w.heap.size w' A' l ∧ l.length ≤ c' ∧ Below w.heap.size w w' := by
  obtain ⟨L, hLx, hat⟩ := ctrs_held h
  have hLl : L.length = l.length := by rw [← hLx, List.length_map]
  have HLI := Lib.hid hlight
  have HAT := Lib.hid hat
  have HLX := Lib.hid hLx
  have hnone : A = none → l.length = 0 := fun e => by
    rcases Nat.eq_zero_or_pos l.length with h0 | h0
    · exact h0
    · obtain ⟨_, a, ha, _⟩ := hat 0 _ (List.getElem?_eq_getElem (by omega))
      rw [e] at ha; cases ha
  have hsrc : ∀ (j : Nat) u, (flat L)[j]? = some u → ∃ a, A = some a ∧ a.block < w.heap.size ∧ w.cell? (a.add j) = some u := fun j u hu => by
    have hj := (List.getElem?_eq_some_iff.1 hu).1
    rw [flat_length] at hj
    obtain ⟨_, a, ha, hla, _⟩ := hat 0 _ (List.getElem?_eq_getElem (by omega))
    refine ⟨a, ha, hla, flat_src (fun k t hk => ?_) j u hu⟩
    obtain ⟨_, a', ha', _, hc⟩ := hat k t hk
    rw [ha] at ha'
    injection ha' with ha'
    subst ha'
    exact hc
  have hlen : (flat L).length = l.length * 11 := by rw [flat_length, hLl]
  have HRUN := Lib.hid (sliceCtrs_any A c l.length (by omega) L hlen w hnone hsrc)
  have hl' : (l.length : Int) ≤ 1000 := by omega
  clear h hlight hat hLx hnone hsrc hlen
  go_enter Tryz.func64, Tryz.ntmps64
  go_wp2_with fail
  refine HRUN.out.mono ?_
  rintro e w1 ⟨A', c', rfl, hown, hcc, hb1⟩
  have HH := Lib.hid (show Half w w1 A' c' l 0 L from ⟨hown, HLX.out, fun j t _ hj => absurd hj (by omega), fun j t hj _ => (HAT.out j t hj).1, hb1⟩)
  clear hown hb1
  go_wp2_with fail
  go_loopw [9] (fun i wr => ∃ (k : Nat) (M : List Held), k ≤ l.length ∧ i = .int .i64 k ∧ Hid (Half w wr A' c' l k M)) (fun i _ => l.length - (RowKit.intOf i).toNat)
  case atStart => exact ⟨0, L, Nat.zero_le _, rfl, HH.out⟩
  case round =>
    obtain ⟨k, M, hk, rfl, HM⟩ := hrel
    by_cases hlt : k < l.length
    · have hka : (k : Int) < (l.length : Int) := by omega
      have hMl : M.length = l.length := by rw [← HM.out.xs, List.length_map]
      have hkM : k < M.length := by omega
      obtain ⟨t, ht⟩ : ∃ t, M[k] = t := ⟨_, rfl⟩
      have hMk : M[k]? = some t := by rw [List.getElem?_eq_getElem hkM, ht]
      have htx : l[k]? = some t.x := by rw [← HM.out.xs, List.getElem?_map, hMk]; rfl
      have hlx := HLI.out t.x (List.mem_of_getElem? htx)
      rcases HM.out.own.2 with ⟨e1, h0⟩ | ⟨g, cap, cur, e1, e2, e3, e4⟩
      · omega
      · injection e1 with e1 e5 e6
        subst e1
        subst e6
        have hgl := lt_of_block e3
        have hc : ∀ j, j < 11 → wr.cell? ⟨g, k * 11 + j, none⟩ = t.cells[j]? := fun j hj => by
          rw [HM.out.own.cellAt (k * 11 + j) (by omega), flat_at hMk j hj]
        have e0 : (⟨g, 0, none⟩ : Addr).add (k * 11) = ⟨g, k * 11, none⟩ := by unfold Addr.add; split <;> simp_all
        have f0 : wr.cell? ⟨g, k * 11, none⟩ = some (.string t.x.name) := hc 0 (by omega)
        have f1 : wr.cell? ⟨g, k * 11 + 1, none⟩ = some (.string t.x.image) := hc 1 (by omega)
        have f2 : wr.cell? ⟨g, k * 11 + 2, none⟩ = some (.int .i64 t.x.rc) := hc 2 (by omega)
        have f3 : wr.cell? ⟨g, k * 11 + 3, none⟩ = some (.int .i64 t.x.rm) := hc 3 (by omega)
        have f4 : wr.cell? ⟨g, k * 11 + 4, none⟩ = some (.int .i64 t.x.rp) := hc 4 (by omega)
        have f5 : wr.cell? ⟨g, k * 11 + 5, none⟩ = some (.int .i64 t.x.lc) := hc 5 (by omega)
        have f6 : wr.cell? ⟨g, k * 11 + 6, none⟩ = some (.int .i64 t.x.lm) := hc 6 (by omega)
        have f7 : wr.cell? ⟨g, k * 11 + 7, none⟩ = some (.int .i64 t.x.lp) := hc 7 (by omega)
        have f8 : wr.cell? ⟨g, k * 11 + 8, none⟩ = some (.slice t.P t.x.ports.length t.c) := hc 8 (by omega)
        have f9 : wr.cell? ⟨g, k * 11 + 9, none⟩ = some (.int .i64 t.x.ev) := hc 9 (by omega)
        have f10 : wr.cell? ⟨g, k * 11 + 10, none⟩ = some (.int .i64 t.x.fl) := hc 10 (by omega)
        clear hc ht
        go_wp2_with fail
        go_region_held3 (fun w' => w'.heap[wr.heap.size]? = some (.cells #[.string t.x.name, .string t.x.image, .int .i64 t.x.rc, .int .i64 t.x.rm, .int .i64 t.x.rp, .int .i64 t.x.lc, .int .i64 t.x.lm, .int .i64 t.x.lp, .slice t.P t.x.ports.length t.c, .int .i64 t.x.ev, .int .i64 t.x.fl] 76 (0, 0)) ∧ w'.cell? ⟨wr.heap.size, 0, none⟩ = some (.string t.x.name) ∧ w'.cell? ⟨wr.heap.size, 1, none⟩ = some (.string t.x.image) ∧ w'.frozen? ⟨wr.heap.size, 0, none⟩ = false ∧ w'.frozen? ⟨wr.heap.size, 1, none⟩ = false ∧ Below wr.heap.size wr w')
          (first
            | exact cb_keep hbn (by assumption)
            | exact cb_s0 (by assumption)
            | exact cb_s1 (by assumption)
            | exact cb_drew (cb_new _ _)
            | exact cb_new _ _
            | exact cb_drew (by assumption)
            | go_keep)
          (first
            | (refine (Text.clone_any t.x.name (by omega) _).mono ?_; rintro e wn ⟨rfl, hbn⟩)
            | (refine (Text.clone_any t.x.image (by omega) _).mono ?_; rintro e wn ⟨rfl, hbn⟩))
        · have hfin : CB t wr.heap.size wr ((wn.setCell ⟨wr.heap.size, 0, none⟩ (.string t.x.name)).setCell ⟨wr.heap.size, 1, none⟩ (.string t.x.image)) := by assumption
          obtain ⟨wz, hz⟩ : ∃ wz, (wn.setCell ⟨wr.heap.size, 0, none⟩ (.string t.x.name)).setCell ⟨wr.heap.size, 1, none⟩ (.string t.x.image) = wz := ⟨_, rfl⟩
          rw [hz] at hfin ⊢
          clear hz
          have HB := Lib.hid hfin
          obtain ⟨b0, hb0⟩ : ∃ b0, wr.heap.size = b0 := ⟨_, rfl⟩
          have HN := (HM.out.todo k t hMk (Nat.le_refl _)).ports
          have hbz : Below wr.heap.size wr wz := HB.out.2.2.2.2.2
          have HN' : Nums .i64 wz t.P t.x.ports := Nums.below HN (HM.out.below.trans (hbz.mono HM.out.below.size))
          rw [hb0]
          have k8 : wz.cell? ⟨b0, 8, none⟩ = some (.slice t.P t.x.ports.length t.c) := by rw [← hb0]; simp [World.cell?, HB.out.1]
          have HCI := Lib.hid (cloneInts_any t.P t.c t.x.ports (by omega) wz HN')
          clear HN' HN hbz hfin
          go_wp2_with fail
          refine HCI.out.mono ?_
          rintro e w5 ⟨P', q', rfl, hn5, hf5, ht5, hq5, hb5⟩
          have hcb : w5.heap[b0]? = some (.cells #[.string t.x.name, .string t.x.image, .int .i64 t.x.rc, .int .i64 t.x.rm, .int .i64 t.x.rp, .int .i64 t.x.lc, .int .i64 t.x.lm, .int .i64 t.x.lp, .slice t.P t.x.ports.length t.c, .int .i64 t.x.ev, .int .i64 t.x.fl] 76 (0, 0)) := by
            have h1 := HB.out.1
            rw [hb0] at h1
            exact (hb5.block b0 (lt_of_block h1)).trans h1
          have hbz : Below b0 wr wz := by have h1 := HB.out.2.2.2.2.2; rwa [hb0] at h1
          have hz0 : b0 < wz.heap.size := by have h1 := lt_of_block HB.out.1; omega
          have hb6 : Below b0 wr (w5.setCell ⟨b0, 8, none⟩ (.slice P' t.x.ports.length q')) := (hbz.trans (hb5.mono (by omega))).setCell (p := ⟨b0, 8, none⟩) (Nat.le_refl _) _
          have z0 : w5.frozen? ⟨b0, 8, none⟩ = false := by simp [World.frozen?, hcb]
          have z1 : w5.cell? ⟨b0, 8, none⟩ = some (.slice t.P t.x.ports.length t.c) := by simp [World.cell?, hcb]
          have h6 : (w5.setCell ⟨b0, 8, none⟩ (.slice P' t.x.ports.length q')).heap[b0]? = some (.cells #[.string t.x.name, .string t.x.image, .int .i64 t.x.rc, .int .i64 t.x.rm, .int .i64 t.x.rp, .int .i64 t.x.lc, .int .i64 t.x.lm, .int .i64 t.x.lp, .slice P' t.x.ports.length q', .int .i64 t.x.ev, .int .i64 t.x.fl] 76 (0, 0)) := by simpa using heap_setCell_same w5 b0 8 _ _ (.slice P' t.x.ports.length q') hcb
          have own6 : (w5.setCell ⟨b0, 8, none⟩ (.slice P' t.x.ports.length q')).ownsRow w.heap.size 76 11 (.slice (some ⟨g, 0, none⟩) l.length c') l.length (flat M) := ⟨HM.out.own.1, Or.inr ⟨g, c', cur, rfl, e2, (hb6.block g (by omega)).trans e3, e4⟩⟩
          have hn6 : Nums .i64 (w5.setCell ⟨b0, 8, none⟩ (.slice P' t.x.ports.length q')) P' t.x.ports := by
            intro j z hj
            obtain ⟨hw, a, ha, hla, hca⟩ := hn5 j z hj
            have := hf5 a ha
            refine ⟨hw, a, ha, by simpa using hla, ?_⟩
            rw [World.cell?_setCell_other _ _ _ _ (by intro e; have := congrArg Addr.block e; rw [add_block] at this; simp at this; omega)]
            exact hca
          have q0 : (w5.setCell ⟨b0, 8, none⟩ (.slice P' t.x.ports.length q')).cell? ⟨b0, 0, none⟩ = some (.string t.x.name) := by simp [World.cell?, h6]
          have q1 : (w5.setCell ⟨b0, 8, none⟩ (.slice P' t.x.ports.length q')).cell? ⟨b0, 1, none⟩ = some (.string t.x.image) := by simp [World.cell?, h6]
          have q2 : (w5.setCell ⟨b0, 8, none⟩ (.slice P' t.x.ports.length q')).cell? ⟨b0, 2, none⟩ = some (.int .i64 t.x.rc) := by simp [World.cell?, h6]
          have q3 : (w5.setCell ⟨b0, 8, none⟩ (.slice P' t.x.ports.length q')).cell? ⟨b0, 3, none⟩ = some (.int .i64 t.x.rm) := by simp [World.cell?, h6]
          have q4 : (w5.setCell ⟨b0, 8, none⟩ (.slice P' t.x.ports.length q')).cell? ⟨b0, 4, none⟩ = some (.int .i64 t.x.rp) := by simp [World.cell?, h6]
          have q5 : (w5.setCell ⟨b0, 8, none⟩ (.slice P' t.x.ports.length q')).cell? ⟨b0, 5, none⟩ = some (.int .i64 t.x.lc) := by simp [World.cell?, h6]
          have q6 : (w5.setCell ⟨b0, 8, none⟩ (.slice P' t.x.ports.length q')).cell? ⟨b0, 6, none⟩ = some (.int .i64 t.x.lm) := by simp [World.cell?, h6]
          have q7 : (w5.setCell ⟨b0, 8, none⟩ (.slice P' t.x.ports.length q')).cell? ⟨b0, 7, none⟩ = some (.int .i64 t.x.lp) := by simp [World.cell?, h6]
          have q8 : (w5.setCell ⟨b0, 8, none⟩ (.slice P' t.x.ports.length q')).cell? ⟨b0, 8, none⟩ = some (.slice P' t.x.ports.length q') := by simp [World.cell?, h6]
          have q9 : (w5.setCell ⟨b0, 8, none⟩ (.slice P' t.x.ports.length q')).cell? ⟨b0, 9, none⟩ = some (.int .i64 t.x.ev) := by simp [World.cell?, h6]
          have q10 : (w5.setCell ⟨b0, 8, none⟩ (.slice P' t.x.ports.length q')).cell? ⟨b0, 10, none⟩ = some (.int .i64 t.x.fl) := by simp [World.cell?, h6]
          have hf6 : From b0 P' := fun a ha => by have := hf5 a ha; omega
          have HB6 := Lib.hid hb6
          have HOWN := Lib.hid own6
          have HN6 := Lib.hid hn6
          have HT6 := Lib.hid (show Thaw (w5.setCell ⟨b0, 8, none⟩ (.slice P' t.x.ports.length q')) P' from ((Kg.refl b0 w5).set 8 _).thaw ht5 (fun a ha => by have := hf5 a ha; omega))
          clear ht5
          clear hb6 own6 hn6 hbz h6 hn5 hf5 hb5 HB HCI hcb
          obtain ⟨w6, hw6⟩ : ∃ w6, w5.setCell ⟨b0, 8, none⟩ (.slice P' t.x.ports.length q') = w6 := ⟨_, rfl⟩
          have HSET : ∀ ad u, ad = (⟨b0, 8, none⟩ : Addr) → u = Value.slice P' t.x.ports.length q' → w5.setCell ad u = w6 := by rintro _ _ rfl rfl; exact hw6
          rw [hw6] at HB6 HOWN HN6 HT6 q0 q1 q2 q3 q4 q5 q6 q7 q8 q9 q10
          have hkr : k * 11 + 11 ≤ l.length * 11 := by omega
          have o0 := HOWN.out
          obtain ⟨u0', y0⟩ := row_at o0 (k * 11) (by omega)
          have fz0 := o0.frozenAt (k * 11)
          have o1 := (o0.stored (k * 11) (.string t.x.name)).1
          obtain ⟨v1, hv1⟩ : ∃ v, w6.setCell ⟨g, k * 11, none⟩ (.string t.x.name) = v := ⟨_, rfl⟩
          rw [hv1] at o1
          have g1 : Kg g w6 v1 := by rw [← hv1]; exact (Kg.refl g w6).set _ _
          obtain ⟨u1', y1⟩ := row_at o1 (k * 11 + 1) (by omega)
          have fz1 := o1.frozenAt (k * 11 + 1)
          have o2 := (o1.stored (k * 11 + 1) (.string t.x.image)).1
          obtain ⟨v2, hv2⟩ : ∃ v, v1.setCell ⟨g, k * 11 + 1, none⟩ (.string t.x.image) = v := ⟨_, rfl⟩
          rw [hv2] at o2
          have g2 : Kg g w6 v2 := by rw [← hv2]; exact g1.set _ _
          obtain ⟨u2', y2⟩ := row_at o2 (k * 11 + 2) (by omega)
          have fz2 := o2.frozenAt (k * 11 + 2)
          have o3 := (o2.stored (k * 11 + 2) (.int .i64 t.x.rc)).1
          obtain ⟨v3, hv3⟩ : ∃ v, v2.setCell ⟨g, k * 11 + 2, none⟩ (.int .i64 t.x.rc) = v := ⟨_, rfl⟩
          rw [hv3] at o3
          have g3 : Kg g w6 v3 := by rw [← hv3]; exact g2.set _ _
          obtain ⟨u3', y3⟩ := row_at o3 (k * 11 + 3) (by omega)
          have fz3 := o3.frozenAt (k * 11 + 3)
          have o4 := (o3.stored (k * 11 + 3) (.int .i64 t.x.rm)).1
          obtain ⟨v4, hv4⟩ : ∃ v, v3.setCell ⟨g, k * 11 + 3, none⟩ (.int .i64 t.x.rm) = v := ⟨_, rfl⟩
          rw [hv4] at o4
          have g4 : Kg g w6 v4 := by rw [← hv4]; exact g3.set _ _
          obtain ⟨u4', y4⟩ := row_at o4 (k * 11 + 4) (by omega)
          have fz4 := o4.frozenAt (k * 11 + 4)
          have o5 := (o4.stored (k * 11 + 4) (.int .i64 t.x.rp)).1
          obtain ⟨v5, hv5⟩ : ∃ v, v4.setCell ⟨g, k * 11 + 4, none⟩ (.int .i64 t.x.rp) = v := ⟨_, rfl⟩
          rw [hv5] at o5
          have g5 : Kg g w6 v5 := by rw [← hv5]; exact g4.set _ _
          obtain ⟨u5', y5⟩ := row_at o5 (k * 11 + 5) (by omega)
          have fz5 := o5.frozenAt (k * 11 + 5)
          have o6 := (o5.stored (k * 11 + 5) (.int .i64 t.x.lc)).1
          obtain ⟨v6, hv6⟩ : ∃ v, v5.setCell ⟨g, k * 11 + 5, none⟩ (.int .i64 t.x.lc) = v := ⟨_, rfl⟩
          rw [hv6] at o6
          have g6 : Kg g w6 v6 := by rw [← hv6]; exact g5.set _ _
          obtain ⟨u6', y6⟩ := row_at o6 (k * 11 + 6) (by omega)
          have fz6 := o6.frozenAt (k * 11 + 6)
          have o7 := (o6.stored (k * 11 + 6) (.int .i64 t.x.lm)).1
          obtain ⟨v7, hv7⟩ : ∃ v, v6.setCell ⟨g, k * 11 + 6, none⟩ (.int .i64 t.x.lm) = v := ⟨_, rfl⟩
          rw [hv7] at o7
          have g7 : Kg g w6 v7 := by rw [← hv7]; exact g6.set _ _
          obtain ⟨u7', y7⟩ := row_at o7 (k * 11 + 7) (by omega)
          have fz7 := o7.frozenAt (k * 11 + 7)
          have o8 := (o7.stored (k * 11 + 7) (.int .i64 t.x.lp)).1
          obtain ⟨v8, hv8⟩ : ∃ v, v7.setCell ⟨g, k * 11 + 7, none⟩ (.int .i64 t.x.lp) = v := ⟨_, rfl⟩
          rw [hv8] at o8
          have g8 : Kg g w6 v8 := by rw [← hv8]; exact g7.set _ _
          obtain ⟨u8', y8⟩ := row_at o8 (k * 11 + 8) (by omega)
          have fz8 := o8.frozenAt (k * 11 + 8)
          have o9 := (o8.stored (k * 11 + 8) (.slice P' t.x.ports.length q')).1
          obtain ⟨v9, hv9⟩ : ∃ v, v8.setCell ⟨g, k * 11 + 8, none⟩ (.slice P' t.x.ports.length q') = v := ⟨_, rfl⟩
          rw [hv9] at o9
          have g9 : Kg g w6 v9 := by rw [← hv9]; exact g8.set _ _
          obtain ⟨u9', y9⟩ := row_at o9 (k * 11 + 9) (by omega)
          have fz9 := o9.frozenAt (k * 11 + 9)
          have o10 := (o9.stored (k * 11 + 9) (.int .i64 t.x.ev)).1
          obtain ⟨v10, hv10⟩ : ∃ v, v9.setCell ⟨g, k * 11 + 9, none⟩ (.int .i64 t.x.ev) = v := ⟨_, rfl⟩
          rw [hv10] at o10
          have g10 : Kg g w6 v10 := by rw [← hv10]; exact g9.set _ _
          obtain ⟨u10', y10⟩ := row_at o10 (k * 11 + 10) (by omega)
          have fz10 := o10.frozenAt (k * 11 + 10)
          have o11 := (o10.stored (k * 11 + 10) (.int .i64 t.x.fl)).1
          obtain ⟨v11, hv11⟩ : ∃ v, v10.setCell ⟨g, k * 11 + 10, none⟩ (.int .i64 t.x.fl) = v := ⟨_, rfl⟩
          rw [hv11] at o11
          have g11 : Kg g w6 v11 := by rw [← hv11]; exact g10.set _ _
          have HK := Lib.hid (show Kg g w6 v11 from g11)
          have HO11 := Lib.hid (show v11.ownsRow w.heap.size 76 11 (.slice (some ⟨g, 0, none⟩) l.length c') l.length (flat (M.set k ⟨t.x, P', q'⟩)) by rw [flat_set M k _ hkM]; exact o11)
          clear o0 o1 o2 o3 o4 o5 o6 o7 o8 o9 o10 o11 g1 g2 g3 g4 g5 g6 g7 g8 g9 g10 g11
          go_wp2_with fail
          go_roundw
          case rel =>
            refine ⟨k + 1, M.set k ⟨t.x, P', q'⟩, by omega, by go_num, ?_⟩
            have hM := HM.out
            have hwb : w.heap.size ≤ b0 := by rw [← hb0]; exact hM.below.size
            have hgb : g < b0 := by rw [← hb0]; exact hgl
            have hb6 := HB6.out
            refine Lib.hid ⟨HO11.out, ?_, fun j u hj hjk => ?_, fun j u hj hjk => hM.todo j u (by rwa [List.getElem?_set_ne (by omega)] at hj) (by omega), (HK.out.below (hM.below.trans (hb6.mono hwb)) e2)⟩
            · apply List.ext_getElem?
              intro j
              rw [List.getElem?_map]
              by_cases hjk : k = j
              · subst hjk
                rw [List.getElem?_set_self hkM, htx]; rfl
              · rw [List.getElem?_set_ne hjk, ← List.getElem?_map, hM.xs]
            · by_cases hjj : k = j
              · subst hjj
                rw [List.getElem?_set_self hkM, Option.some.injEq] at hj
                subst hj
                refine ⟨⟨(hM.todo k t hMk (Nat.le_refl _)).fits, HK.out.nums HN6.out (fun a ha => by have := hf6 a ha; omega), hq5⟩, fun a ha => by have := hf6 a ha; omega, HK.out.thaw HT6.out (fun a ha => by have := hf6 a ha; omega), fun a g' ha hg' => ?_⟩
                have := hf6 a ha
                injection hg' with hg'
                subst hg'
                show a.block ≠ g
                omega
              · rw [List.getElem?_set_ne hjj] at hj
                obtain ⟨ho, hf, ht, hne⟩ := hM.done j u hj (by omega)
                exact ⟨⟨ho.fits, HK.out.nums (Nums.below ho.ports (by rw [hb0]; exact hb6)) (fun a ha => hne a _ ha rfl), ho.room⟩, hf, HK.out.thaw (ht.below (by rw [hb0]; exact hb6)) (fun a ha => hne a _ ha rfl), hne⟩
          case measure => simp [RowKit.intOf]; omega
    · have hkk : k = l.length := by omega
      subst hkk
      go_wp2
      go_ret
      refine ⟨A', c', rfl, fun j x hj => ?_, hcc, HM.out.below⟩
      have hjl := (List.getElem?_eq_some_iff.1 hj).1
      have hMj := hj
      rw [← HM.out.xs, List.getElem?_map, Option.map_eq_some_iff] at hMj
      obtain ⟨t, ht, rfl⟩ := hMj
      obtain ⟨ho, hf, hth, hne⟩ := HM.out.done j t ht hjl
      rcases HM.out.own.2 with ⟨e1, h0⟩ | ⟨g, cap, cur, e1, e2, e3, e4⟩
      · omega
      · injection e1 with e1 e5 e6
        subst e1
        have hc : ∀ i, i < 11 → wr.cell? ⟨g, j * 11 + i, none⟩ = t.cells[i]? := fun i hi => by
          rw [HM.out.own.cellAt (j * 11 + i) (by omega), flat_at ht i hi]
        have e0 : (⟨g, 0, none⟩ : Addr).add (j * 11) = ⟨g, j * 11, none⟩ := by unfold Addr.add; split <;> simp_all
        refine ⟨ho.fits, _, t.P, t.c, rfl, e2, lt_of_block e3, ?_, ho.ports, hf, thaw_own HM.out.own, hth, fun p hp => hne p _ hp rfl⟩
        rw [e0]
        exact ⟨hc 0 (by omega), hc 1 (by omega), hc 2 (by omega), hc 3 (by omega), hc 4 (by omega), hc 5 (by omega), hc 6 (by omega), hc 7 (by omega), hc 8 (by omega), hc 9 (by omega), hc 10 (by omega), ho.room⟩
end SpecOwn
end Go.Proofs.YtaegknpijgjioaaGreatDoor

/- The contract of spec.Clone: the same spec in memory of the call's own, its lists and their ports too. All that was there is left as it was. Condition: it is light. -/
namespace Go.Proofs.YtaegknpijgjioaaGreatDoor
open Go.ChangeShapes Go.WideShapes Go.ChangeAt Go.RowKit Go.Lib
open Sd Lists
namespace SpecOwn

/-- what was there below block B is as it was, all but block g -/
structure Kb (g B : Nat) (w v : World) : Prop where
  os : v.os = w.os
  tape : v.tape = w.tape
  output : v.output = w.output
  size : w.heap.size ≤ v.heap.size
  block : ∀ b, b < B → b ≠ g → v.heap[b]? = w.heap[b]?
theorem Kb.of_below {g B : Nat} {w v : World} (h : Below B w v) : Kb g B w v := ⟨h.os, h.tape, h.output, h.size, fun b hb _ => h.block b hb⟩
theorem Kb.next {g B : Nat} {w v v' : World} (h : Kb g B w v) (hb : Below v.heap.size v v') (hB : B ≤ w.heap.size) : Kb g B w v' :=
  ⟨hb.os.trans h.os, hb.tape.trans h.tape, hb.output.trans h.output, Nat.le_trans h.size hb.size, fun b h1 h2 => (hb.block b (by have := h.size; omega)).trans (h.block b h1 h2)⟩
theorem Kb.set {g B : Nat} {w v : World} (h : Kb g B w v) (j : Nat) (u : Value) : Kb g B w (v.setCell ⟨g, j, none⟩ u) :=
  ⟨h.os, h.tape, h.output, by simpa using h.size, fun b h1 h2 => (Below.heap_setCell v ⟨g, j, none⟩ u b h2).trans (h.block b h1 h2)⟩
theorem Kb.trans {g B B' : Nat} {a b c : World} (h : Kb g B a b) (k : Kb g B' b c) (hB : B ≤ B') : Kb g B a c :=
  ⟨k.os.trans h.os, k.tape.trans h.tape, k.output.trans h.output, Nat.le_trans h.size k.size, fun i h1 h2 => (k.block i (by omega) h2).trans (h.block i h1 h2)⟩
theorem Kb.below {g B B' : Nat} {a b c : World} (h : Below B a b) (k : Kb g B' b c) (hB : B ≤ B') (hg : B ≤ g) : Below B a c :=
  h.trans ⟨k.os, k.tape, k.output, k.size, fun i hi => k.block i (by omega) (by omega)⟩
/-- writing what a row holds already -/
theorem row_same {v : World} {B : Nat} {e : TypeId} {size g n cap : Nat} {xs : List Value} (h : v.ownsRow B e size (.slice (some ⟨g, 0, none⟩) n cap) n xs) {j : Nat} {u : Value} (hu : xs[j]? = some u) : (v.setCell ⟨g, j, none⟩ u).ownsRow B e size (.slice (some ⟨g, 0, none⟩) n cap) n xs := by
  have h1 := (h.stored j u).1
  rwa [show xs.set j u = xs from by
    apply List.ext_getElem?
    intro i
    by_cases hij : j = i
    · subst hij
      rw [List.getElem?_set_self (List.getElem?_eq_some_iff.1 hu).1, hu]
    · rw [List.getElem?_set_ne hij]] at h1
/-- what a round's worlds have: the labels' row, the label's box, the cells that the round reads and writes -/
def LS (l : List Lbl) (x : Lbl) (k n c g B0 B : Nat) (wr w' : World) : Prop :=
  w'.ownsRow B 49 2 (.slice (some ⟨g, 0, none⟩) n c) n (flatL l) ∧ w'.heap[wr.heap.size]? = some (.cells #[.string x.key, .string x.val] 49 (0, 0)) ∧ w'.cell? ⟨B0, 1, none⟩ = some (.slice (some ⟨g, 0, none⟩) n c) ∧ w'.cell? ⟨wr.heap.size, 0, none⟩ = some (.string x.key) ∧ w'.cell? ⟨wr.heap.size, 1, none⟩ = some (.string x.val) ∧ w'.cell? ⟨g, k * 2, none⟩ = some (.string x.key) ∧ w'.cell? ⟨g, k * 2 + 1, none⟩ = some (.string x.val) ∧ w'.frozen? ⟨g, k * 2, none⟩ = false ∧ w'.frozen? ⟨g, k * 2 + 1, none⟩ = false ∧ Kb g wr.heap.size wr w'
/-- what stands throughout a round -/
structure LSt (l : List Lbl) (x : Lbl) (k n c g B0 : Nat) (wr : World) : Prop where
  at' : l[k]? = some x
  lt : k < n
  box : wr.cell? ⟨B0, 1, none⟩ = some (.slice (some ⟨g, 0, none⟩) n c)
  inb : B0 < wr.heap.size
  ne : B0 ≠ g
  row : g < wr.heap.size
theorem ls_of {l : List Lbl} {x : Lbl} {k n c g B0 B : Nat} {wr w' : World} (st : LSt l x k n c g B0 wr) (h1 : w'.ownsRow B 49 2 (.slice (some ⟨g, 0, none⟩) n c) n (flatL l)) (h2 : w'.heap[wr.heap.size]? = some (.cells #[.string x.key, .string x.val] 49 (0, 0))) (hk : Kb g wr.heap.size wr w') : LS l x k n c g B0 B wr w' := by
  have hl := st.lt
  obtain ⟨f0, f1⟩ := flatL_at st.at'
  refine ⟨h1, h2, ?_, by simp [World.cell?, h2], by simp [World.cell?, h2], by rw [h1.cellAt (k * 2) (by omega), f0], by rw [h1.cellAt (k * 2 + 1) (by omega), f1], h1.frozenAt _, h1.frozenAt _, hk⟩
  rw [World.cell?_of_block (w := wr) (hk.block B0 st.inb st.ne)]
  exact st.box
theorem ls_keep {l : List Lbl} {x : Lbl} {k n c g B0 B : Nat} {wr w w' : World} (st : LSt l x k n c g B0 wr) (h : LS l x k n c g B0 B wr w) (hb : Below w.heap.size w w') : LS l x k n c g B0 B wr w' := by
  refine ls_of st ?_ ((hb.block _ (lt_of_block h.2.1)).trans h.2.1) (h.2.2.2.2.2.2.2.2.2.next hb (Nat.le_refl _))
  rcases h.1.2 with ⟨e1, _⟩ | ⟨g', cap, cur, e1, e2, e3, e4⟩
  · cases e1
  · exact ⟨h.1.1, Or.inr ⟨g', cap, cur, e1, e2, (hb.block _ (lt_of_block e3)).trans e3, e4⟩⟩
theorem ls_s0 {l : List Lbl} {x : Lbl} {k n c g B0 B : Nat} {wr w : World} (st : LSt l x k n c g B0 wr) (h : LS l x k n c g B0 B wr w) : LS l x k n c g B0 B wr (w.setCell ⟨g, k * 2, none⟩ (.string x.key)) :=
  ls_of st (row_same h.1 (flatL_at st.at').1) ((Below.heap_setCell w ⟨g, k * 2, none⟩ _ _ (by have := st.row; show wr.heap.size ≠ g; omega)).trans h.2.1) (h.2.2.2.2.2.2.2.2.2.set _ _)
theorem ls_s1 {l : List Lbl} {x : Lbl} {k n c g B0 B : Nat} {wr w : World} (st : LSt l x k n c g B0 wr) (h : LS l x k n c g B0 B wr w) : LS l x k n c g B0 B wr (w.setCell ⟨g, k * 2 + 1, none⟩ (.string x.val)) :=
  ls_of st (row_same h.1 (flatL_at st.at').2) ((Below.heap_setCell w ⟨g, k * 2 + 1, none⟩ _ _ (by have := st.row; show wr.heap.size ≠ g; omega)).trans h.2.1) (h.2.2.2.2.2.2.2.2.2.set _ _)
theorem ls_drew {l : List Lbl} {x : Lbl} {k n c g B0 B : Nat} {wr w : World} (h : LS l x k n c g B0 B wr w) : LS l x k n c g B0 B wr w.drew := by
  obtain ⟨h1, h2, h3, h4, h5, h6, h7, h8, h9, h⟩ := h
  exact ⟨h1, h2, h3, h4, h5, h6, h7, h8, h9, ⟨h.os, h.tape, h.output, h.size, h.block⟩⟩
theorem ls_new {l : List Lbl} {x : Lbl} {k n c g B0 B : Nat} {wr : World} (st : LSt l x k n c g B0 wr) (h1 : wr.ownsRow B 49 2 (.slice (some ⟨g, 0, none⟩) n c) n (flatL l)) : LS l x k n c g B0 B wr (wr.alloc (.cells #[.string x.key, .string x.val] 49)) := by
  refine ls_of st ?_ (heap_alloc_new wr _) (Kb.of_below ((Below.refl _ wr).alloc (Nat.le_refl _) _))
  rcases h1.2 with ⟨e1, _⟩ | ⟨g', cap, cur, e1, e2, e3, e4⟩
  · cases e1
  · exact ⟨h1.1, Or.inr ⟨g', cap, cur, e1, e2, (Below.heap_alloc wr _ _ (lt_of_block e3)).trans e3, e4⟩⟩
/-- blocks from B on are as they were -/
structure Ab (B : Nat) (w w' : World) : Prop where
  size : w.heap.size ≤ w'.heap.size
  block : ∀ i, B ≤ i → i < w.heap.size → w'.heap[i]? = w.heap[i]?
theorem Ab.of_below {B : Nat} {w w' : World} (h : Below w.heap.size w w') : Ab B w w' := ⟨h.size, fun i _ hi => h.block i hi⟩
theorem Ab.set {B : Nat} {w w' : World} (h : Ab B w w') (p : Addr) (hp : p.block < B) (u : Value) : Ab B w (w'.setCell p u) :=
  ⟨by simpa using h.size, fun i h1 h2 => (Below.heap_setCell w' p u i (by omega)).trans (h.block i h1 h2)⟩
theorem Ab.trans {B : Nat} {a b c : World} (h : Ab B a b) (k : Ab B b c) : Ab B a c := ⟨Nat.le_trans h.size k.size, fun i h1 h2 => (k.block i h1 (by have := h.size; omega)).trans (h.block i h1 h2)⟩
theorem Thaw.ab {B : Nat} {w w' : World} {A : Option Addr} (h : Thaw w A) (k : Ab B w w') (hF : From B A) : Thaw w' A := h.block k.size fun a ha => k.block _ (hF a ha) (h a ha).1
theorem ctrs_ab {B : Nat} {w w' : World} (k : Ab B w w') {B' : Nat} (hB : B ≤ B') {A : Option Addr} {l : List Ctr} (h : CtrsFrom B' w A l) : CtrsFrom B w' A l := by
  intro j x hj
  obtain ⟨hf, a, P, c, hA, h1, h2, hc, hn, hP, tA, tP, hne⟩ := h j x hj
  refine ⟨hf, a, P, c, hA, by omega, by have := k.size; omega, hc.keep (by rw [add_block]; exact k.block _ (by omega) h2), ?_, fun p hp => by have := hP p hp; omega, tA.ab k (fun y hy => by rw [hA] at hy; injection hy with hy; subst hy; omega), tP.ab k (fun y hy => by have := hP y hy; omega), hne⟩
  intro i z hz
  obtain ⟨hw, p, hp, hl, hcp⟩ := hn i z hz
  have := hP p hp
  refine ⟨hw, p, hp, Nat.lt_of_lt_of_le hl k.size, ?_⟩
  rw [World.cell?_of_block (w := w) (k.block _ (by rw [add_block]; omega) (by rw [add_block]; exact hl))]
  exact hcp
theorem ctrs_in {B : Nat} {w : World} {A : Option Addr} {l : List Ctr} (h : CtrsFrom B w A l) : Ctrs w A l := by
  intro j x hj
  obtain ⟨hf, a, P, c, hA, h1, h2, hc, hn, hP, tA, tP, hne⟩ := h j x hj
  exact ⟨hf, a, P, c, hA, h2, hc, hn⟩
theorem ctrs_less {B B' : Nat} {w : World} {A : Option Addr} {l : List Ctr} (hB : B' ≤ B) (h : CtrsFrom B w A l) : CtrsFrom B' w A l := by
  intro j x hj
  obtain ⟨hf, a, P, c, hA, h1, h2, hc, hn, hP, tA, tP, hne⟩ := h j x hj
  exact ⟨hf, a, P, c, hA, Nat.le_trans hB h1, h2, hc, hn, fun p hp => Nat.le_trans hB (hP p hp), tA, tP, hne⟩
theorem Ab.mono {B B' : Nat} {w w' : World} (h : Ab B w w') (hB : B ≤ B') : Ab B' w w' := ⟨h.size, fun i h1 h2 => h.block i (by omega) h2⟩
/-- containers in blocks from lo to below hi, their ports too -/
def CtrsMid (lo hi : Nat) (w : World) (A : Option Addr) (l : List Ctr) : Prop := hi ≤ w.heap.size ∧ ∀ (k : Nat) (x : Ctr), l[k]? = some x → x.Fits ∧ ∃ a P c, A = some a ∧ lo ≤ a.block ∧ a.block < hi ∧ x.cellsAt P c w (a.add (k * 11)) ∧ Nums .i64 w P x.ports ∧ ∀ p, P = some p → lo ≤ p.block ∧ p.block < hi
theorem ctrs_mid {B : Nat} {w : World} {A : Option Addr} {l : List Ctr} (h : CtrsFrom B w A l) : CtrsMid B w.heap.size w A l := by
  refine ⟨Nat.le_refl _, fun j x hj => ?_⟩
  obtain ⟨hf, a, P, c, hA, h1, h2, hc, hn, hP, tA, tP, hne⟩ := h j x hj
  exact ⟨hf, a, P, c, hA, h1, h2, hc, hn, fun p hp => ⟨hP p hp, (tP p hp).1⟩⟩
theorem CtrsMid.keep {lo lo' hi : Nat} {w v : World} {A : Option Addr} {l : List Ctr} (h : CtrsMid lo hi w A l) (hs : w.heap.size ≤ v.heap.size) (hl : lo' ≤ lo) (hb : ∀ i, lo ≤ i → i < hi → v.heap[i]? = w.heap[i]?) : CtrsMid lo' hi v A l := by
  refine ⟨Nat.le_trans h.1 hs, fun j x hj => ?_⟩
  obtain ⟨hf, a, P, c, hA, h1, h2, hc, hn, hP⟩ := h.2 j x hj
  refine ⟨hf, a, P, c, hA, by omega, h2, hc.keep (by rw [add_block]; exact hb _ h1 h2), fun i z hz => ?_, fun p hp => by have := hP p hp; omega⟩
  obtain ⟨hw, p, hp, hl', hcp⟩ := hn i z hz
  have := hP p hp
  refine ⟨hw, p, hp, Nat.lt_of_lt_of_le hl' hs, ?_⟩
  rw [World.cell?_of_block (w := w) (hb _ (by rw [add_block]; omega) (by rw [add_block]; omega))]
  exact hcp
theorem CtrsMid.ctrs {lo hi : Nat} {w : World} {A : Option Addr} {l : List Ctr} (h : CtrsMid lo hi w A l) : Ctrs w A l := by
  intro j x hj
  obtain ⟨hf, a, P, c, hA, h1, h2, hc, hn, hP⟩ := h.2 j x hj
  exact ⟨hf, a, P, c, hA, Nat.lt_of_lt_of_le h2 h.1, hc, hn⟩
theorem lbls_ab {B : Nat} {w w' : World} (k : Ab B w w') {A : Option Addr} {l : List Lbl} (h : Lbls w A l) (hF : From B A) : Lbls w' A l := by
  intro j x hj
  obtain ⟨a, hA, h2, hc⟩ := h j x hj
  exact ⟨a, hA, by have := k.size; omega, hc.keep (by rw [add_block]; exact k.block _ (hF a hA) h2)⟩
theorem two_new (w : World) (o o' : Obj) : ((w.alloc o).alloc o').heap[w.heap.size]? = some o ∧ ((w.alloc o).alloc o').heap[w.heap.size + 1]? = some o' :=
  ⟨(Below.heap_alloc _ _ _ (by simp)).trans (heap_alloc_new w _), by have h := heap_alloc_new (w.alloc o) o'; rwa [show (w.alloc o).heap.size = w.heap.size + 1 by simp] at h⟩
set_option maxRecDepth 100000 in
set_option maxHeartbeats 4000000 in
theorem clone_any (S : Spc) (LA : Option Addr) (lc : Nat) (IA : Option Addr) (ic : Nat) (MA : Option Addr) (mc : Nat) (hnm : S.name.size ≤ 1000) (hll : S.labels.length ≤ 1000) (hlx : ∀ x ∈ S.labels, x.key.size ≤ 1000 ∧ x.val.size ≤ 1000) (hil : S.init.length ≤ 1000) (hix : ∀ x ∈ S.init, x.name.size ≤ 1000 ∧ x.image.size ≤ 1000 ∧ x.ports.length ≤ 1000) (hml : S.main.length ≤ 1000) (hmx : ∀ x ∈ S.main, x.name.size ≤ 1000 ∧ x.image.size ≤ 1000 ∧ x.ports.length ≤ 1000) (w : World) (hS : S.In w LA lc IA ic MA mc) :
    Calls Tryz.prog 41 #[.agg #[.string S.name, .slice LA S.labels.length lc, .slice IA S.init.length ic, .slice MA S.main.length mc, .int .i64 S.restart, .int .i64 S.grace, .int .i64 S.prio]] w fun e w' => ∃ LA' lc' IA' ic' MA' mc', e = .returned (.agg #[.string S.name, .slice LA' S.labels.length lc', .slice IA' S.init.length ic', .slice MA' S.main.length mc', .int .i64 S.restart, .int .i64 S.grace, .int .i64 S.prio]) ∧ S.In w' LA' lc' IA' ic' MA' mc' ∧ From w.heap.size LA' ∧ Thaw w' LA' ∧ CtrsFrom w.heap.size w' IA' S.init ∧ CtrsFrom w.heap.size w' MA' S.main ∧ S.labels.length ≤ lc' ∧ S.init.length ≤ ic' ∧ S.main.length ≤ mc' ∧ Below w.heap.size w w' ∧ ∃ hi, CtrsMid w.heap.size hi w' IA' S.init ∧ CtrsFrom hi w' MA' S.main := by
  have HS := Lib.hid hS
  have HLXX := Lib.hid hlx
  have HIX := Lib.hid hix
  have HMX := Lib.hid hmx
  clear hS hlx hix hmx
  go_enter Tryz.func41, Tryz.ntmps41
  go_wp2_with fail
  refine (Text.clone_any S.name (by omega) _).mono ?_
  rintro e w1 ⟨rfl, hb1⟩
  have hbx := (hb1.block w.heap.size (by simp; omega)).trans (two_new w _ _).1
  have hrx := (hb1.block (w.heap.size + 1) (by simp)).trans (two_new w _ _).2
  have hbw : Below w.heap.size w w1 := (((Below.refl _ w).alloc (Nat.le_refl _) _).alloc (by simp) _).trans (hb1.mono (by simp; omega))
  clear hb1
  have p0 : w1.cell? ⟨w.heap.size, 0, none⟩ = some (.string S.name) := by simp [World.cell?, hbx]
  have p1 : w1.frozen? ⟨w.heap.size, 0, none⟩ = false := by simp [World.frozen?, hbx]
  obtain ⟨v1, hv1⟩ : ∃ v, w1.setCell ⟨w.heap.size, 0, none⟩ (.string S.name) = v := ⟨_, rfl⟩
  have hbx1 : v1.heap[w.heap.size]? = some (.cells #[.string S.name, .slice LA S.labels.length lc, .slice IA S.init.length ic, .slice MA S.main.length mc, .int .i64 S.restart, .int .i64 S.grace, .int .i64 S.prio] 30 (0, 0)) := by rw [← hv1]; simpa using heap_setCell_same w1 w.heap.size 0 _ _ (.string S.name) hbx
  have hrx1 := (show v1.heap[w.heap.size + 1]? = w1.heap[w.heap.size + 1]? by rw [← hv1]; exact Below.heap_setCell _ _ _ _ (by show w.heap.size + 1 ≠ w.heap.size; omega)).trans hrx
  have hbw1 : Below w.heap.size w v1 := by rw [← hv1]; exact hbw.setCell (p := ⟨w.heap.size, 0, none⟩) (Nat.le_refl _) _
  have q1 : v1.cell? ⟨w.heap.size, 1, none⟩ = some (.slice LA S.labels.length lc) := by simp [World.cell?, hbx1]
  have HRX := Lib.hid hrx1
  have HBX := Lib.hid hbx1
  have HBW := Lib.hid hbw1
  clear hbx hrx hbw hbx1 hrx1 hbw1
  have HLB := Lib.hid (HS.out.labels.below HBW.out)
  have HRUN := Lib.hid (sliceLabels_any LA lc S.labels.length (by omega) S.labels (flatL_length _) v1 (fun e => by
    rcases Nat.eq_zero_or_pos S.labels.length with h0 | h0
    · exact h0
    · obtain ⟨a, ha, _⟩ := HLB.out.at h0
      rw [e] at ha; cases ha) (fun j u hu => by
    have hj := (List.getElem?_eq_some_iff.1 hu).1
    rw [flatL_length] at hj
    obtain ⟨a, ha, hla, _⟩ := HLB.out.at (show 0 < S.labels.length by omega)
    refine ⟨a, ha, hla, flatL_src (fun k x hk => ?_) j u hu⟩
    obtain ⟨a', ha', _, hc⟩ := HLB.out k x hk
    rw [ha] at ha'
    injection ha' with ha'
    subst ha'
    exact hc))
  go_wp2_with fail
  refine HRUN.out.mono ?_
  rintro e w2 ⟨LA2, lc2, rfl, hown, hcc, hb2⟩
  have hbx := (hb2.block w.heap.size (lt_of_block HBX.out)).trans HBX.out
  have hrx := (hb2.block (w.heap.size + 1) (lt_of_block HRX.out)).trans HRX.out
  have hbw := HBW.out.trans (hb2.mono HBW.out.size)
  have hvl := lt_of_block HBX.out
  have r0 : w2.cell? ⟨w.heap.size, 1, none⟩ = some (.slice LA S.labels.length lc) := by simp [World.cell?, hbx]
  have r1 : w2.frozen? ⟨w.heap.size, 1, none⟩ = false := by simp [World.frozen?, hbx]
  obtain ⟨v2, hv2⟩ : ∃ v, w2.setCell ⟨w.heap.size, 1, none⟩ (.slice LA2 S.labels.length lc2) = v := ⟨_, rfl⟩
  have hbx2 : v2.heap[w.heap.size]? = some (.cells #[.string S.name, .slice LA2 S.labels.length lc2, .slice IA S.init.length ic, .slice MA S.main.length mc, .int .i64 S.restart, .int .i64 S.grace, .int .i64 S.prio] 30 (0, 0)) := by rw [← hv2]; simpa using heap_setCell_same w2 w.heap.size 1 _ _ (.slice LA2 S.labels.length lc2) hbx
  have hrx2 := (show v2.heap[w.heap.size + 1]? = w2.heap[w.heap.size + 1]? by rw [← hv2]; exact Below.heap_setCell _ _ _ _ (by show w.heap.size + 1 ≠ w.heap.size; omega)).trans hrx
  have hbw2 : Below w.heap.size w v2 := by rw [← hv2]; exact hbw.setCell (p := ⟨w.heap.size, 1, none⟩) (Nat.le_refl _) _
  have q2 : v2.cell? ⟨w.heap.size, 1, none⟩ = some (.slice LA2 S.labels.length lc2) := by simp [World.cell?, hbx2]
  have hown2 : v2.ownsRow v1.heap.size 49 2 (.slice LA2 S.labels.length lc2) S.labels.length (flatL S.labels) := by
    rw [← hv2]; exact ownsRow_setCell_below hown (a := ⟨w.heap.size, 1, none⟩) hvl _
  have HRX2 := Lib.hid hrx2
  have HBX2 := Lib.hid hbx2
  have HBW2 := Lib.hid hbw2
  have HOWN := Lib.hid hown2
  have HVV : v1.heap.size ≤ v2.heap.size := by rw [← hv2]; simpa using hb2.size
  clear hbx hrx hbw hbx2 hrx2 hbw2 hown hown2 hb2 HRUN HLB
  have hll' : (S.labels.length : Int) ≤ 1000 := by omega
  obtain ⟨gg, hgg, hLA⟩ : ∃ gg, v1.heap.size ≤ gg ∧ ∀ a, LA2 = some a → a = ⟨gg, 0, none⟩ ∧ gg < v2.heap.size := by
    rcases HOWN.out.2 with ⟨e1, _⟩ | ⟨g, cap, cur, e1, e2, e3, _⟩
    · injection e1 with e1
      exact ⟨v1.heap.size, Nat.le_refl _, fun a ha => by rw [e1] at ha; cases ha⟩
    · injection e1 with e1
      exact ⟨g, e2, fun a ha => by rw [e1] at ha; injection ha with ha; exact ⟨ha.symm, lt_of_block e3⟩⟩
  have HLA := Lib.hid hLA
  clear hLA
  go_wp2_with fail
  go_loopw [16] (fun i wr => ∃ (k : Nat), k ≤ S.labels.length ∧ i = .int .i64 k ∧ Hid (wr.ownsRow v1.heap.size 49 2 (.slice LA2 S.labels.length lc2) S.labels.length (flatL S.labels) ∧ Kb gg v2.heap.size v2 wr)) (fun i _ => S.labels.length - (RowKit.intOf i).toNat)
  case atStart => exact ⟨0, Nat.zero_le _, rfl, Lib.hid ⟨HOWN.out, ⟨rfl, rfl, rfl, Nat.le_refl _, fun _ _ _ => rfl⟩⟩⟩
  case round =>
    obtain ⟨k, hk, rfl, HI⟩ := hrel
    by_cases hlt : k < S.labels.length
    · have hka : (k : Int) < (S.labels.length : Int) := by omega
      obtain ⟨x, hx⟩ : ∃ x, S.labels[k]? = some x := ⟨_, List.getElem?_eq_getElem hlt⟩
      obtain ⟨hxk, hxv⟩ := HLXX.out x (List.mem_of_getElem? hx)
      obtain ⟨f0, f1⟩ := flatL_at hx
      obtain ⟨a, rfl⟩ : ∃ a, LA2 = some a := by
        rcases HI.out.1.2 with ⟨_, h0⟩ | ⟨g, cap, cur, e1, _⟩
        · omega
        · injection e1 with e1; exact ⟨_, e1⟩
      obtain ⟨rfl, hgl⟩ := HLA.out a rfl
      have hsz := HI.out.2.size
      have st : LSt S.labels x k S.labels.length lc2 gg w.heap.size wr := ⟨hx, hlt, (World.cell?_of_block (w := v2) (HI.out.2.block w.heap.size (lt_of_block HBX2.out) (by omega))).trans q2, by have := lt_of_block HBX2.out; omega, by omega, by omega⟩
      have HST := Lib.hid st
      have HNEW := Lib.hid (ls_new st HI.out.1)
      have c0 : wr.cell? ⟨gg, k * 2, none⟩ = some (.string x.key) := by rw [HI.out.1.cellAt (k * 2) (by omega), f0]
      have c1 : wr.cell? ⟨gg, k * 2 + 1, none⟩ = some (.string x.val) := by rw [HI.out.1.cellAt (k * 2 + 1) (by omega), f1]
      have e0 : (⟨gg, 0, none⟩ : Addr).add (k * 2) = ⟨gg, k * 2, none⟩ := by unfold Addr.add; split <;> simp_all
      clear st f0 f1
      go_wp2_with fail
      go_region_held3 (fun w' => w'.ownsRow v1.heap.size 49 2 (.slice (some ⟨gg, 0, none⟩) S.labels.length lc2) S.labels.length (flatL S.labels) ∧ w'.heap[wr.heap.size]? = some (.cells #[.string x.key, .string x.val] 49 (0, 0)) ∧ w'.cell? ⟨w.heap.size, 1, none⟩ = some (.slice (some ⟨gg, 0, none⟩) S.labels.length lc2) ∧ w'.cell? ⟨wr.heap.size, 0, none⟩ = some (.string x.key) ∧ w'.cell? ⟨wr.heap.size, 1, none⟩ = some (.string x.val) ∧ w'.cell? ⟨gg, k * 2, none⟩ = some (.string x.key) ∧ w'.cell? ⟨gg, k * 2 + 1, none⟩ = some (.string x.val) ∧ w'.frozen? ⟨gg, k * 2, none⟩ = false ∧ w'.frozen? ⟨gg, k * 2 + 1, none⟩ = false ∧ Kb gg wr.heap.size wr w')
        (first
          | exact ls_keep HST.out (by assumption) hbn
          | exact ls_s1 HST.out (ls_s0 HST.out (by assumption))
          | exact ls_drew HNEW.out
          | exact ls_drew (by assumption)
          | go_keep)
        (first
          | (refine (Text.clone_any x.key (by omega) _).mono ?_; rintro e wn ⟨rfl, hbn⟩)
          | (refine (Text.clone_any x.val (by omega) _).mono ?_; rintro e wn ⟨rfl, hbn⟩))
      · have hfin : LS S.labels x k S.labels.length lc2 gg w.heap.size v1.heap.size wr ((wn.setCell ⟨gg, k * 2, none⟩ (.string x.key)).setCell ⟨gg, k * 2 + 1, none⟩ (.string x.val)) := by assumption
        have HF := Lib.hid (show ((wn.setCell ⟨gg, k * 2, none⟩ (.string x.key)).setCell ⟨gg, k * 2 + 1, none⟩ (.string x.val)).ownsRow v1.heap.size 49 2 (.slice (some ⟨gg, 0, none⟩) S.labels.length lc2) S.labels.length (flatL S.labels) ∧ Kb gg v2.heap.size v2 ((wn.setCell ⟨gg, k * 2, none⟩ (.string x.key)).setCell ⟨gg, k * 2 + 1, none⟩ (.string x.val)) from ⟨hfin.1, HI.out.2.trans hfin.2.2.2.2.2.2.2.2.2 hsz⟩)
        clear hfin
        go_wp2_with fail
        go_roundw
        case rel => exact ⟨k + 1, by omega, by go_num, HF⟩
        case measure => simp [RowKit.intOf]; omega
    · have hkk : k = S.labels.length := by omega
      have hsz := HI.out.2.size
      have hbw := Kb.below HBW2.out HI.out.2 HBW2.out.size (show w.heap.size ≤ gg by omega)
      have hbxw := (HI.out.2.block w.heap.size (lt_of_block HBX2.out) (by omega)).trans HBX2.out
      have g2 : wr.cell? ⟨w.heap.size, 2, none⟩ = some (.slice IA S.init.length ic) := by simp [World.cell?, hbxw]
      have HCI := Lib.hid (clones_any IA ic S.init hil HIX.out wr (HS.out.init.below hbw))
      have HBXW := Lib.hid hbxw
      have HRXW := Lib.hid ((HI.out.2.block (w.heap.size + 1) (lt_of_block HRX2.out) (by have := lt_of_block HRX.out; omega)).trans HRX2.out)
      have HBWR := Lib.hid hbw
      subst hkk
      clear hbw hbxw
      go_wp2_with fail
      refine HCI.out.mono ?_
      rintro e w3 ⟨IA2, ic2, rfl, hci, hci2, hb3⟩
      have hwv : w.heap.size + 2 ≤ v1.heap.size := by have := lt_of_block HRX.out; omega
      have hvr : v1.heap.size ≤ wr.heap.size := by have := HVV; omega
      have hbx3 := (hb3.block w.heap.size (lt_of_block HBXW.out)).trans HBXW.out
      have s0 : w3.cell? ⟨w.heap.size, 2, none⟩ = some (.slice IA S.init.length ic) := by simp [World.cell?, hbx3]
      have s1 : w3.frozen? ⟨w.heap.size, 2, none⟩ = false := by simp [World.frozen?, hbx3]
      obtain ⟨v3, hv3⟩ : ∃ v, w3.setCell ⟨w.heap.size, 2, none⟩ (.slice IA2 S.init.length ic2) = v := ⟨_, rfl⟩
      have hbxv3 : v3.heap[w.heap.size]? = some (.cells #[.string S.name, .slice LA2 S.labels.length lc2, .slice IA2 S.init.length ic2, .slice MA S.main.length mc, .int .i64 S.restart, .int .i64 S.grace, .int .i64 S.prio] 30 (0, 0)) := by rw [← hv3]; simpa using heap_setCell_same w3 w.heap.size 2 _ _ (.slice IA2 S.init.length ic2) hbx3
      have hbw3 : Below w.heap.size w v3 := by rw [← hv3]; exact (HBWR.out.trans (hb3.mono HBWR.out.size)).setCell (p := ⟨w.heap.size, 2, none⟩) (Nat.le_refl _) _
      have hab3 : Ab v1.heap.size wr v3 := by rw [← hv3]; exact (Ab.of_below hb3).set _ (show w.heap.size < v1.heap.size by omega) _
      have hci3 : CtrsFrom v1.heap.size v3 IA2 S.init := ctrs_ab (by rw [← hv3]; exact (Ab.of_below (Below.refl _ _)).set _ (show w.heap.size < v1.heap.size by omega) _) hvr hci
      have t3 : v3.cell? ⟨w.heap.size, 3, none⟩ = some (.slice MA S.main.length mc) := by simp [World.cell?, hbxv3]
      have HMID := Lib.hid (ctrs_mid hci)
      have HAB33 := Lib.hid (show Ab v1.heap.size w3 v3 by rw [← hv3]; exact (Ab.of_below (Below.refl _ _)).set _ (show w.heap.size < v1.heap.size by omega) _)
      have hsz3 : v3.heap.size = w3.heap.size := by rw [← hv3]; simp
      have HRX3 := Lib.hid ((show v3.heap[w.heap.size + 1]? = w3.heap[w.heap.size + 1]? by rw [← hv3]; exact Below.heap_setCell _ _ _ _ (by show w.heap.size + 1 ≠ w.heap.size; omega)).trans ((hb3.block (w.heap.size + 1) (lt_of_block HRXW.out)).trans HRXW.out))
      have HBX3 := Lib.hid hbxv3
      have HBW3 := Lib.hid hbw3
      have HAB3 := Lib.hid hab3
      have HC3 := Lib.hid hci3
      have HMI := Lib.hid (clones_any MA mc S.main hml HMX.out v3 (HS.out.main.below hbw3))
      clear hbx3 hbxv3 hbw3 hab3 hci3 hci hb3
      go_wp2_with fail
      refine HMI.out.mono ?_
      rintro e w4 ⟨MA2, mc2, rfl, hcm, hcm2, hb4⟩
      have hbx4 := (hb4.block w.heap.size (lt_of_block HBX3.out)).trans HBX3.out
      have n0 : w4.cell? ⟨w.heap.size, 3, none⟩ = some (.slice MA S.main.length mc) := by simp [World.cell?, hbx4]
      have n1 : w4.frozen? ⟨w.heap.size, 3, none⟩ = false := by simp [World.frozen?, hbx4]
      obtain ⟨v4, hv4⟩ : ∃ v, w4.setCell ⟨w.heap.size, 3, none⟩ (.slice MA2 S.main.length mc2) = v := ⟨_, rfl⟩
      have hbxv4 : v4.heap[w.heap.size]? = some (.cells #[.string S.name, .slice LA2 S.labels.length lc2, .slice IA2 S.init.length ic2, .slice MA2 S.main.length mc2, .int .i64 S.restart, .int .i64 S.grace, .int .i64 S.prio] 30 (0, 0)) := by rw [← hv4]; simpa using heap_setCell_same w4 w.heap.size 3 _ _ (.slice MA2 S.main.length mc2) hbx4
      have hbw4 : Below w.heap.size w v4 := by rw [← hv4]; exact (HBW3.out.trans (hb4.mono HBW3.out.size)).setCell (p := ⟨w.heap.size, 3, none⟩) (Nat.le_refl _) _
      have hab4 : Ab v1.heap.size v3 v4 := by rw [← hv4]; exact (Ab.of_below hb4).set _ (show w.heap.size < v1.heap.size by omega) _
      have hcm4 : CtrsFrom v1.heap.size v4 MA2 S.main := ctrs_ab (by rw [← hv4]; exact (Ab.of_below (Below.refl _ _)).set _ (show w.heap.size < v1.heap.size by omega) _) (by have := HAB3.out.size; omega) hcm
      have HC5 := Lib.hid (show CtrsFrom w3.heap.size v4 MA2 S.main by
        have h1 : CtrsFrom v3.heap.size v4 MA2 S.main := ctrs_ab (by rw [← hv4]; exact (Ab.of_below (Below.refl _ _)).set _ (show w.heap.size < v3.heap.size by have := HAB3.out.size; omega) _) (Nat.le_refl _) hcm
        rwa [hsz3] at h1)
      have d0 : v4.cell? ⟨w.heap.size, 0, none⟩ = some (.string S.name) := by simp [World.cell?, hbxv4]
      have d1 : v4.cell? ⟨w.heap.size, 1, none⟩ = some (.slice LA2 S.labels.length lc2) := by simp [World.cell?, hbxv4]
      have d2 : v4.cell? ⟨w.heap.size, 2, none⟩ = some (.slice IA2 S.init.length ic2) := by simp [World.cell?, hbxv4]
      have d3 : v4.cell? ⟨w.heap.size, 3, none⟩ = some (.slice MA2 S.main.length mc2) := by simp [World.cell?, hbxv4]
      have d4 : v4.cell? ⟨w.heap.size, 4, none⟩ = some (.int .i64 S.restart) := by simp [World.cell?, hbxv4]
      have d5 : v4.cell? ⟨w.heap.size, 5, none⟩ = some (.int .i64 S.grace) := by simp [World.cell?, hbxv4]
      have d6 : v4.cell? ⟨w.heap.size, 6, none⟩ = some (.int .i64 S.prio) := by simp [World.cell?, hbxv4]
      have HRX4 := Lib.hid ((show v4.heap[w.heap.size + 1]? = w4.heap[w.heap.size + 1]? by rw [← hv4]; exact Below.heap_setCell _ _ _ _ (by show w.heap.size + 1 ≠ w.heap.size; omega)).trans ((hb4.block (w.heap.size + 1) (lt_of_block HRX3.out)).trans HRX3.out))
      have HBW4 := Lib.hid hbw4
      have HAB4 := Lib.hid hab4
      have HC4 := Lib.hid hcm4
      clear hbx4 hbxv4 hbw4 hab4 hcm4 hcm hb4
      have z0 : v4.heap[w.heap.size + 1]? = some (.cells #[.string ⟨#[]⟩, .slice none 0 0, .slice none 0 0, .slice none 0 0, .int .i64 0, .int .i64 0, .int .i64 0] 30 (0, 0)) := HRX4.out
      have ab0 : Ab v1.heap.size v4 v4 := Ab.of_below (Below.refl _ _)
      have bw0 := HBW4.out
      have y0 : v4.cell? ⟨w.heap.size + 1, 0, none⟩ = some (.string ⟨#[]⟩) := by simp [World.cell?, z0]
      have fz0 : v4.frozen? ⟨w.heap.size + 1, 0, none⟩ = false := by simp [World.frozen?, z0]
      obtain ⟨x1, hx1⟩ : ∃ v, v4.setCell ⟨w.heap.size + 1, 0, none⟩ (.string S.name) = v := ⟨_, rfl⟩
      have z1 : x1.heap[w.heap.size + 1]? = some (.cells #[.string S.name, .slice none 0 0, .slice none 0 0, .slice none 0 0, .int .i64 0, .int .i64 0, .int .i64 0] 30 (0, 0)) := by rw [← hx1]; simpa using heap_setCell_same v4 (w.heap.size + 1) 0 _ _ (.string S.name) z0
      have ab1 : Ab v1.heap.size v4 x1 := by rw [← hx1]; exact ab0.set _ (show w.heap.size + 1 < v1.heap.size by omega) _
      have bw1 : Below w.heap.size w x1 := by rw [← hx1]; exact bw0.setCell (p := ⟨w.heap.size + 1, 0, none⟩) (by show w.heap.size ≤ w.heap.size + 1; omega) _
      have y1 : x1.cell? ⟨w.heap.size + 1, 1, none⟩ = some (.slice none 0 0) := by simp [World.cell?, z1]
      have fz1 : x1.frozen? ⟨w.heap.size + 1, 1, none⟩ = false := by simp [World.frozen?, z1]
      obtain ⟨x2, hx2⟩ : ∃ v, x1.setCell ⟨w.heap.size + 1, 1, none⟩ (.slice LA2 S.labels.length lc2) = v := ⟨_, rfl⟩
      have z2 : x2.heap[w.heap.size + 1]? = some (.cells #[.string S.name, .slice LA2 S.labels.length lc2, .slice none 0 0, .slice none 0 0, .int .i64 0, .int .i64 0, .int .i64 0] 30 (0, 0)) := by rw [← hx2]; simpa using heap_setCell_same x1 (w.heap.size + 1) 1 _ _ (.slice LA2 S.labels.length lc2) z1
      have ab2 : Ab v1.heap.size v4 x2 := by rw [← hx2]; exact ab1.set _ (show w.heap.size + 1 < v1.heap.size by omega) _
      have bw2 : Below w.heap.size w x2 := by rw [← hx2]; exact bw1.setCell (p := ⟨w.heap.size + 1, 1, none⟩) (by show w.heap.size ≤ w.heap.size + 1; omega) _
      have y2 : x2.cell? ⟨w.heap.size + 1, 2, none⟩ = some (.slice none 0 0) := by simp [World.cell?, z2]
      have fz2 : x2.frozen? ⟨w.heap.size + 1, 2, none⟩ = false := by simp [World.frozen?, z2]
      obtain ⟨x3, hx3⟩ : ∃ v, x2.setCell ⟨w.heap.size + 1, 2, none⟩ (.slice IA2 S.init.length ic2) = v := ⟨_, rfl⟩
      have z3 : x3.heap[w.heap.size + 1]? = some (.cells #[.string S.name, .slice LA2 S.labels.length lc2, .slice IA2 S.init.length ic2, .slice none 0 0, .int .i64 0, .int .i64 0, .int .i64 0] 30 (0, 0)) := by rw [← hx3]; simpa using heap_setCell_same x2 (w.heap.size + 1) 2 _ _ (.slice IA2 S.init.length ic2) z2
      have ab3 : Ab v1.heap.size v4 x3 := by rw [← hx3]; exact ab2.set _ (show w.heap.size + 1 < v1.heap.size by omega) _
      have bw3 : Below w.heap.size w x3 := by rw [← hx3]; exact bw2.setCell (p := ⟨w.heap.size + 1, 2, none⟩) (by show w.heap.size ≤ w.heap.size + 1; omega) _
      have y3 : x3.cell? ⟨w.heap.size + 1, 3, none⟩ = some (.slice none 0 0) := by simp [World.cell?, z3]
      have fz3 : x3.frozen? ⟨w.heap.size + 1, 3, none⟩ = false := by simp [World.frozen?, z3]
      obtain ⟨x4, hx4⟩ : ∃ v, x3.setCell ⟨w.heap.size + 1, 3, none⟩ (.slice MA2 S.main.length mc2) = v := ⟨_, rfl⟩
      have z4 : x4.heap[w.heap.size + 1]? = some (.cells #[.string S.name, .slice LA2 S.labels.length lc2, .slice IA2 S.init.length ic2, .slice MA2 S.main.length mc2, .int .i64 0, .int .i64 0, .int .i64 0] 30 (0, 0)) := by rw [← hx4]; simpa using heap_setCell_same x3 (w.heap.size + 1) 3 _ _ (.slice MA2 S.main.length mc2) z3
      have ab4 : Ab v1.heap.size v4 x4 := by rw [← hx4]; exact ab3.set _ (show w.heap.size + 1 < v1.heap.size by omega) _
      have bw4 : Below w.heap.size w x4 := by rw [← hx4]; exact bw3.setCell (p := ⟨w.heap.size + 1, 3, none⟩) (by show w.heap.size ≤ w.heap.size + 1; omega) _
      have y4 : x4.cell? ⟨w.heap.size + 1, 4, none⟩ = some (.int .i64 0) := by simp [World.cell?, z4]
      have fz4 : x4.frozen? ⟨w.heap.size + 1, 4, none⟩ = false := by simp [World.frozen?, z4]
      obtain ⟨x5, hx5⟩ : ∃ v, x4.setCell ⟨w.heap.size + 1, 4, none⟩ (.int .i64 S.restart) = v := ⟨_, rfl⟩
      have z5 : x5.heap[w.heap.size + 1]? = some (.cells #[.string S.name, .slice LA2 S.labels.length lc2, .slice IA2 S.init.length ic2, .slice MA2 S.main.length mc2, .int .i64 S.restart, .int .i64 0, .int .i64 0] 30 (0, 0)) := by rw [← hx5]; simpa using heap_setCell_same x4 (w.heap.size + 1) 4 _ _ (.int .i64 S.restart) z4
      have ab5 : Ab v1.heap.size v4 x5 := by rw [← hx5]; exact ab4.set _ (show w.heap.size + 1 < v1.heap.size by omega) _
      have bw5 : Below w.heap.size w x5 := by rw [← hx5]; exact bw4.setCell (p := ⟨w.heap.size + 1, 4, none⟩) (by show w.heap.size ≤ w.heap.size + 1; omega) _
      have y5 : x5.cell? ⟨w.heap.size + 1, 5, none⟩ = some (.int .i64 0) := by simp [World.cell?, z5]
      have fz5 : x5.frozen? ⟨w.heap.size + 1, 5, none⟩ = false := by simp [World.frozen?, z5]
      obtain ⟨x6, hx6⟩ : ∃ v, x5.setCell ⟨w.heap.size + 1, 5, none⟩ (.int .i64 S.grace) = v := ⟨_, rfl⟩
      have z6 : x6.heap[w.heap.size + 1]? = some (.cells #[.string S.name, .slice LA2 S.labels.length lc2, .slice IA2 S.init.length ic2, .slice MA2 S.main.length mc2, .int .i64 S.restart, .int .i64 S.grace, .int .i64 0] 30 (0, 0)) := by rw [← hx6]; simpa using heap_setCell_same x5 (w.heap.size + 1) 5 _ _ (.int .i64 S.grace) z5
      have ab6 : Ab v1.heap.size v4 x6 := by rw [← hx6]; exact ab5.set _ (show w.heap.size + 1 < v1.heap.size by omega) _
      have bw6 : Below w.heap.size w x6 := by rw [← hx6]; exact bw5.setCell (p := ⟨w.heap.size + 1, 5, none⟩) (by show w.heap.size ≤ w.heap.size + 1; omega) _
      have y6 : x6.cell? ⟨w.heap.size + 1, 6, none⟩ = some (.int .i64 0) := by simp [World.cell?, z6]
      have fz6 : x6.frozen? ⟨w.heap.size + 1, 6, none⟩ = false := by simp [World.frozen?, z6]
      obtain ⟨x7, hx7⟩ : ∃ v, x6.setCell ⟨w.heap.size + 1, 6, none⟩ (.int .i64 S.prio) = v := ⟨_, rfl⟩
      have z7 : x7.heap[w.heap.size + 1]? = some (.cells #[.string S.name, .slice LA2 S.labels.length lc2, .slice IA2 S.init.length ic2, .slice MA2 S.main.length mc2, .int .i64 S.restart, .int .i64 S.grace, .int .i64 S.prio] 30 (0, 0)) := by rw [← hx7]; simpa using heap_setCell_same x6 (w.heap.size + 1) 6 _ _ (.int .i64 S.prio) z6
      have ab7 : Ab v1.heap.size v4 x7 := by rw [← hx7]; exact ab6.set _ (show w.heap.size + 1 < v1.heap.size by omega) _
      have bw7 : Below w.heap.size w x7 := by rw [← hx7]; exact bw6.setCell (p := ⟨w.heap.size + 1, 6, none⟩) (by show w.heap.size ≤ w.heap.size + 1; omega) _
      have r0' : x7.cell? ⟨w.heap.size + 1, 0, none⟩ = some (.string S.name) := by simp [World.cell?, z7]
      have r1' : x7.cell? ⟨w.heap.size + 1, 1, none⟩ = some (.slice LA2 S.labels.length lc2) := by simp [World.cell?, z7]
      have r2' : x7.cell? ⟨w.heap.size + 1, 2, none⟩ = some (.slice IA2 S.init.length ic2) := by simp [World.cell?, z7]
      have r3' : x7.cell? ⟨w.heap.size + 1, 3, none⟩ = some (.slice MA2 S.main.length mc2) := by simp [World.cell?, z7]
      have r4' : x7.cell? ⟨w.heap.size + 1, 4, none⟩ = some (.int .i64 S.restart) := by simp [World.cell?, z7]
      have r5' : x7.cell? ⟨w.heap.size + 1, 5, none⟩ = some (.int .i64 S.grace) := by simp [World.cell?, z7]
      have r6' : x7.cell? ⟨w.heap.size + 1, 6, none⟩ = some (.int .i64 S.prio) := by simp [World.cell?, z7]
      have HAB := Lib.hid ab7
      have HBW7 := Lib.hid bw7
      clear z0 z1 z2 z3 z4 z5 z6 z7 ab0 ab1 ab2 ab3 ab4 ab5 ab6 ab7 bw0 bw1 bw2 bw3 bw4 bw5 bw6 bw7
      go_wp2_with fail
      refine bodyPost_ret (v := .agg #[.string S.name, .slice LA2 S.labels.length lc2, .slice IA2 S.init.length ic2, .slice MA2 S.main.length mc2, .int .i64 S.restart, .int .i64 S.grace, .int .i64 S.prio]) ?hres rfl ?_
      case hres =>
        simp [results, Tryz.results41, go_sem, r0', r1', r2', r3', r4', r5', r6']
      have hA47 : Ab v1.heap.size wr x7 := HAB3.out.trans (HAB4.out.trans HAB.out)
      obtain ⟨hl, hf⟩ := lbls_own HI.out.1
      have hI := ctrs_ab (HAB4.out.trans HAB.out) (Nat.le_refl _) HC3.out
      have hM := ctrs_ab HAB.out (Nat.le_refl _) HC4.out
      have hw1 : w.heap.size ≤ v1.heap.size := by omega
      have hA37 : Ab v1.heap.size w3 x7 := HAB33.out.trans (HAB4.out.trans HAB.out)
      have hr3 : w3.heap.size ≤ v4.heap.size := by have := HAB4.out.size; omega
      exact ⟨LA2, lc2, IA2, ic2, MA2, mc2, rfl, ⟨lbls_ab hA47 hl hf, ctrs_in hI, ctrs_in hM, HS.out.nl, HS.out.ni, HS.out.nm, HS.out.restart, HS.out.grace, HS.out.prio⟩, fun a ha => Nat.le_trans hw1 (hf a ha), (thaw_own HI.out.1).ab hA47 hf, ctrs_less hw1 hI, ctrs_less hw1 hM, hcc, hci2, hcm2, HBW7.out, w3.heap.size, HMID.out.keep hA37.size (by omega) (fun i h1 h2 => hA37.block i (by omega) h2), ctrs_ab (HAB.out.mono (by have := HAB3.out.size; omega)) (Nat.le_refl _) HC5.out⟩
end SpecOwn
end Go.Proofs.YtaegknpijgjioaaGreatDoor

/- The contracts of the laws' own helpers SpoilInts, SpoilLabels, SpoilSpec: what they write lies in the blocks from lo to hi; a cell there keeps its kind, a slice stays the same slice. Condition: the cells that are written are not frozen. -/
set_option linter.unusedVariables false
set_option linter.unusedSimpArgs false
namespace Go.Proofs.YtaegknpijgjioaaGreatDoor
open Go.ChangeShapes Go.WideShapes Go.ChangeAt Go.RowKit Go.Lib
open Sd Lists SpecOwn
namespace Book

/-- what was there is as it was, but for texts and numbers in the blocks from lo to hi, which are texts and numbers still -/
structure Kin (lo hi : Nat) (w v : World) : Prop where
  os : v.os = w.os
  tape : v.tape = w.tape
  output : v.output = w.output
  size : w.heap.size ≤ v.heap.size
  block : ∀ b, b < w.heap.size → (b < lo ∨ hi ≤ b) → v.heap[b]? = w.heap[b]?
  froz : ∀ p : Addr, p.block < w.heap.size → v.frozen? p = w.frozen? p
  sl : ∀ p A n c, w.cell? p = some (.slice A n c) → v.cell? p = some (.slice A n c)
  str : ∀ p s, w.cell? p = some (.string s) → ∃ t, v.cell? p = some (.string t)
  num : ∀ p z, w.cell? p = some (.int .i64 z) → ∃ y, v.cell? p = some (.int .i64 y)
theorem cell_lt {w : World} {p : Addr} {u : Value} (h : w.cell? p = some u) : p.block < w.heap.size := World.block_lt_of_cell? w _ h
theorem cell_spot {w : World} {p : Addr} {u : Value} (h : w.cell? p = some u) : p.spot = none := by
  unfold World.cell? at h
  split at h
  · split at h
    · cases h
    · cases hs : p.spot with
      | none => rfl
      | some x => simp_all
  · cases h
theorem Kin.of_below {lo hi : Nat} {w v : World} (h : Below w.heap.size w v) : Kin lo hi w v :=
  ⟨h.os, h.tape, h.output, h.size, fun b hb _ => h.block b hb, fun p hp => h.frozen hp,
    fun p A n c hc => (h.cell (cell_lt hc)).trans hc, fun p s hc => ⟨s, (h.cell (cell_lt hc)).trans hc⟩, fun p s hc => ⟨s, (h.cell (cell_lt hc)).trans hc⟩⟩
theorem Kin.trans {lo hi : Nat} {a b c : World} (h : Kin lo hi a b) (k : Kin lo hi b c) : Kin lo hi a c :=
  ⟨k.os.trans h.os, k.tape.trans h.tape, k.output.trans h.output, Nat.le_trans h.size k.size,
    fun i hi ho => (k.block i (Nat.lt_of_lt_of_le hi h.size) ho).trans (h.block i hi ho), fun p hp => (k.froz p (Nat.lt_of_lt_of_le hp h.size)).trans (h.froz p hp),
    fun p A n c hc => k.sl p A n c (h.sl p A n c hc),
    fun p s hc => by obtain ⟨t, ht⟩ := h.str p s hc; exact k.str p t ht, fun p s hc => by obtain ⟨t, ht⟩ := h.num p s hc; exact k.num p t ht⟩
theorem cell_set {w : World} {p q : Addr} {u v : Value} (h : w.cell? p = some v) (hq : q.spot = none) : (w.setCell p u).cell? q = if q = p then some u else w.cell? q := by
  have hp := cell_spot h
  obtain ⟨pb, po, ps⟩ := p
  obtain ⟨qb, qo, qs⟩ := q
  simp only at hp hq
  subst hp hq
  unfold World.cell? World.setCell at *
  by_cases hb : qb = pb
  · subst hb
    simp only [Array.getElem?_modify]
    cases hw : w.heap[qb]? with
    | none => simp [hw] at h
    | some o =>
      cases o with
      | cells c e f =>
        simp [hw] at h
        have hl : po < c.size := by
          rcases Nat.lt_or_ge po c.size with hl | hl
          · exact hl
          · rw [Array.getElem?_eq_none hl] at h; cases h
        by_cases ho : qo = po
        · subst ho
          simp [hl]
        · simp [Ne.symm ho]
      | _ => simp [hw] at h
  · have hn : ¬ pb = qb := fun e => hb e.symm
    simp [Array.getElem?_modify, hn]
theorem Kin.set {lo hi : Nat} {w v : World} (h : Kin lo hi w v) {p : Addr} {u y : Value} (h1 : lo ≤ p.block) (h2 : p.block < hi) (hc : v.cell? p = some y) (hk : (∃ s t, y = .string s ∧ u = .string t) ∨ ∃ a b, y = .int .i64 a ∧ u = .int .i64 b) : Kin lo hi w (v.setCell p u) := by
  refine h.trans ⟨rfl, rfl, rfl, by simp, fun b hb ho => Below.heap_setCell v p u b (by rcases ho with ho | ho <;> omega), fun q _ => by simp, ?_, ?_, ?_⟩
  · intro q A n c hq
    rw [cell_set hc (cell_spot hq)]
    by_cases e : q = p
    · subst e
      rw [hq] at hc
      injection hc with hc
      rcases hk with ⟨s, t, rfl, _⟩ | ⟨s, t, rfl, _⟩ <;> cases hc
    · rw [if_neg e]; exact hq
  · intro q s hq
    rw [cell_set hc (cell_spot hq)]
    by_cases e : q = p
    · subst e
      rw [hq] at hc
      injection hc with hc
      rcases hk with ⟨s, t, rfl, rfl⟩ | ⟨s, t, rfl, _⟩
      · exact ⟨t, if_pos rfl⟩
      · cases hc
    · exact ⟨s, by rw [if_neg e]; exact hq⟩
  · intro q s hq
    rw [cell_set hc (cell_spot hq)]
    by_cases e : q = p
    · subst e
      rw [hq] at hc
      injection hc with hc
      rcases hk with ⟨s, t, rfl, _⟩ | ⟨s, t, rfl, rfl⟩
      · cases hc
      · exact ⟨t, if_pos rfl⟩
    · exact ⟨s, by rw [if_neg e]; exact hq⟩
/-- n numbers that may be written -/
def WNums (lo hi : Nat) (w : World) (A : Option Addr) (n : Nat) : Prop := ∀ k : Nat, k < n → ∃ a z, A = some a ∧ lo ≤ a.block ∧ a.block < hi ∧ w.cell? (a.add k) = some (.int .i64 z) ∧ w.frozen? (a.add k) = false
/-- n labels that may be written -/
def WLbls (lo hi : Nat) (w : World) (A : Option Addr) (n : Nat) : Prop := ∀ k : Nat, k < n → ∃ a s t, A = some a ∧ lo ≤ a.block ∧ a.block < hi ∧ w.cell? (a.add (k * 2)) = some (.string s) ∧ w.cell? ⟨(a.add (k * 2)).block, (a.add (k * 2)).off + 1, none⟩ = some (.string t) ∧ w.frozen? (a.add (k * 2)) = false ∧ w.frozen? ⟨(a.add (k * 2)).block, (a.add (k * 2)).off + 1, none⟩ = false
/-- n containers whose names and ports may be written -/
def WCtrs (lo hi : Nat) (w : World) (A : Option Addr) (n : Nat) : Prop := ∀ k : Nat, k < n → ∃ a s P m c, A = some a ∧ lo ≤ a.block ∧ a.block < hi ∧ w.cell? (a.add (k * 11)) = some (.string s) ∧ w.frozen? (a.add (k * 11)) = false ∧ w.cell? ⟨(a.add (k * 11)).block, (a.add (k * 11)).off + 8, none⟩ = some (.slice P m c) ∧ m ≤ 1000 ∧ WNums lo hi w P m
theorem WNums.kin {lo hi : Nat} {w v : World} {A : Option Addr} {n : Nat} (h : WNums lo hi w A n) (k : Kin lo hi w v) : WNums lo hi v A n := by
  intro j hj
  obtain ⟨a, z, hA, h1, h2, hc, hf⟩ := h j hj
  obtain ⟨y, hy⟩ := k.num _ _ hc
  exact ⟨a, y, hA, h1, h2, hy, (k.froz _ (cell_lt hc)).trans hf⟩
theorem WLbls.kin {lo hi : Nat} {w v : World} {A : Option Addr} {n : Nat} (h : WLbls lo hi w A n) (k : Kin lo hi w v) : WLbls lo hi v A n := by
  intro j hj
  obtain ⟨a, s, t, hA, h1, h2, hc, hd, hf, hg⟩ := h j hj
  obtain ⟨y, hy⟩ := k.str _ _ hc
  obtain ⟨x, hx⟩ := k.str _ _ hd
  exact ⟨a, y, x, hA, h1, h2, hy, hx, (k.froz _ (cell_lt hc)).trans hf, (k.froz _ (cell_lt hd)).trans hg⟩
theorem WCtrs.kin {lo hi : Nat} {w v : World} {A : Option Addr} {n : Nat} (h : WCtrs lo hi w A n) (k : Kin lo hi w v) : WCtrs lo hi v A n := by
  intro j hj
  obtain ⟨a, s, P, m, c, hA, h1, h2, hc, hf, hp, hm, hn⟩ := h j hj
  obtain ⟨y, hy⟩ := k.str _ _ hc
  exact ⟨a, y, P, m, c, hA, h1, h2, hy, (k.froz _ (cell_lt hc)).trans hf, k.sl _ _ _ _ hp, hm, hn.kin k⟩
theorem Kin.below {lo hi B : Nat} {w v : World} (h : Kin lo hi w v) (hB : B ≤ lo) (hs : B ≤ w.heap.size) : Below B w v :=
  ⟨h.os, h.tape, h.output, h.size, fun i hi => h.block i (by omega) (.inl (by omega))⟩
theorem Kin.ab {lo hi : Nat} {w v : World} (h : Kin lo hi w v) : Ab hi w v := ⟨h.size, fun i h1 h2 => h.block i h2 (.inr h1)⟩
theorem thawed {w : World} {A : Option Addr} {a p : Addr} {u : Value} (hT : Thaw w A) (hA : A = some a) (hb : p.block = a.block) (hc : w.cell? p = some u) : w.frozen? p = false := by
  have hs := cell_spot hc
  obtain ⟨pb, po, ps⟩ := p
  simp only at hs hb
  subst hs hb
  exact (hT a hA).2 po
theorem wnums {lo hi : Nat} {w : World} {A : Option Addr} {l : List Int} (h : Nums .i64 w A l) (hF : From lo A) (hT : Thaw w A) (hh : w.heap.size ≤ hi) : WNums lo hi w A l.length := by
  intro k hk
  obtain ⟨_, a, hA, ha, hc⟩ := h k _ (List.getElem?_eq_getElem hk)
  exact ⟨a, _, hA, hF a hA, by omega, hc, thawed hT hA (by rw [add_block]) hc⟩
theorem wlbls {lo hi : Nat} {w : World} {A : Option Addr} {l : List Lbl} (h : Lbls w A l) (hF : From lo A) (hT : Thaw w A) (hh : w.heap.size ≤ hi) : WLbls lo hi w A l.length := by
  intro k hk
  obtain ⟨a, hA, ha, h0, h1⟩ := h.at hk
  exact ⟨a, _, _, hA, hF a hA, by omega, h0, h1, thawed hT hA (by rw [add_block]) h0, thawed hT hA (by show (a.add (k * 2)).block = _; rw [add_block]) h1⟩
theorem wctrs {lo hi : Nat} {w : World} {A : Option Addr} {l : List Ctr} (h : CtrsFrom lo w A l) (hp : ∀ x ∈ l, x.ports.length ≤ 1000) (hh : w.heap.size ≤ hi) : WCtrs lo hi w A l.length := by
  intro k hk
  obtain ⟨hf, a, P, c, hA, h1, h2, hc, hn, hP, tA, tP, _⟩ := h k _ (List.getElem?_eq_getElem hk)
  obtain ⟨c0, c1, c2, c3, c4, c5, c6, c7, c8, _⟩ := hc
  exact ⟨a, _, P, _, c, hA, h1, by omega, c0, thawed tA hA (by rw [add_block]) c0, c8, hp _ (List.getElem_mem hk), wnums hn hP tP hh⟩
end Book
end Go.Proofs.YtaegknpijgjioaaGreatDoor
