/-
  The contracts of slices.Clone on numbers, labels and containers: the same elements in memory of the call's own. All that was there is left as it was. Condition: there are not too many.
-/
import Derived.Test.YtefkaebdfkjkgaaGreatDoorSpecPorts
import Derived.Test.YtefkaebdfkjkgaaGreatDoorSpecAhead
import Derived.Test.YtefkaebdfkjkgaaGreatDoorLawSpecAll
import Derived.Lib.SliceRun
namespace Go.Proofs.YtefkaebdfkjkgaaGreatDoor
open Go.ChangeShapes Go.WideShapes Go.ChangeAt Go.RowKit Go.Lib
open Sd Lists
namespace SpecOwn

/-- from block B on -/
def From (B : Nat) (A : Option Addr) : Prop := ∀ a, A = some a → B ≤ a.block

/-- no cell of the block is frozen -/
def Thaw (w : World) (A : Option Addr) : Prop := ∀ a, A = some a → a.block < w.heap.size ∧ ∀ j, w.frozen? ⟨a.block, j, none⟩ = false
theorem thaw_own {w : World} {B : Nat} {e : TypeId} {size : Nat} {A : Option Addr} {n c : Nat} {xs : List Value} (h : w.ownsRow B e size (.slice A n c) n xs) : Thaw w A := by
  intro a ha
  subst ha
  rcases h.2 with ⟨e1, _⟩ | ⟨g, cap, cur, e1, e2, e3, _⟩
  · cases e1
  · injection e1 with e1 _ _
    injection e1 with e1
    subst e1
    exact ⟨lt_of_block e3, fun j => h.frozenAt j⟩
theorem Thaw.block {w w' : World} {A : Option Addr} (h : Thaw w A) (hs : w.heap.size ≤ w'.heap.size) (hb : ∀ a, A = some a → w'.heap[a.block]? = w.heap[a.block]?) : Thaw w' A := fun a ha =>
  ⟨Nat.lt_of_lt_of_le (h a ha).1 hs, fun j => (World.frozen?_of_block (w := w) (a := ⟨a.block, j, none⟩) (hb a ha)).trans ((h a ha).2 j)⟩
theorem Thaw.below {w w' : World} {A : Option Addr} (h : Thaw w A) (hb : Below w.heap.size w w') : Thaw w' A := h.block hb.size fun a ha => hb.block _ (h a ha).1

theorem info_label : (Tryz.prog.info? 85).map (fun i => (i.zero, i.size, i.bytes)) = some (some (.agg #[.string ⟨#[]⟩, .string ⟨#[]⟩]), 2, 32) := by kernel_rfl

set_option maxRecDepth 100000 in
theorem cloneInts_any (A : Option Addr) (c : Nat) (l : List Int) (hl : l.length ≤ 100000) (w : World) (h : Nums .i64 w A l) :
    Calls Tryz.prog 96 #[.slice A l.length c] w fun e w' => ∃ A' c', e = .returned (.slice A' l.length c') ∧ Nums .i64 w' A' l ∧ From w.heap.size A' ∧ Thaw w' A' ∧ l.length ≤ c' ∧ Below w.heap.size w w' := by
  have hq : ∀ v, (binOp .eql 31 (.slice A l.length c) (.slice none 0 0)).run Tryz.prog v = .ok (.bool A.isNone) v := fun v => Lib.run_eql_slice_nil v _ _ A l.length c 0 0 Tryz.underlying31
  cases A with
  | none =>
    have hz : l = [] := by
      cases hq : l with
      | nil => rfl
      | cons z zs =>
        obtain ⟨_, a, ha, _⟩ := h 0 z (by rw [hq]; rfl)
        cases ha
    subst hz
    have hq' : ∀ v, (binOp .eql 31 (.slice none 0 c) (.slice none 0 0)).run Tryz.prog v = .ok (.bool true) v := hq
    clear hq
    go_enter Tryz.func96, Tryz.ntmps96
    go_wp2
    go_ret
    exact ⟨none, 0, rfl, h, (fun a ha => by cases ha), (fun a ha => by cases ha), Nat.le_refl _, Below.refl _ _⟩
  | some a =>
    have H := Lib.hid h
    obtain ⟨i0, hi, hz0, hz1, hz2⟩ := info_parts info_int
    have hq' : ∀ v, (binOp .eql 31 (.slice (some a) l.length c) (.slice none 0 0)).run Tryz.prog v = .ok (.bool false) v := hq
    clear h hq
    go_enter Tryz.func96, Tryz.ntmps96
    go_wp2_with (at_builtin; refine wpList_append_own _ rfl _ _ 31 rfl w.heap.size 3 i0 (.int .i64 0) 1 8 Tryz.underlying31 hi hz0 hz1 hz2 rfl (by decide) _ _ _ rfl (World.ownsRow_made w #[] 0 (Nat.le_refl _) (Nat.zero_le _) rfl) a l.length c (l.map (Value.int .i64)) rfl ?qc1 ?qc2 ?qc3 ?qc4 ?qc5 ?qc6 ?_)
    case qc1 => simp
    case qc2 =>
      intro j u hj
      rw [List.getElem?_map] at hj
      obtain ⟨z, hz, rfl⟩ := Option.map_eq_some_iff.1 hj
      obtain ⟨_, a', ha', hla, hca⟩ := H.out j z hz
      injection ha' with ha'
      subst ha'
      exact (((Below.refl w.heap.size w).alloc (Nat.le_refl _) _).cell (by rw [add_block]; exact hla)).trans hca
    case qc3 => intro u hu; obtain ⟨x, _, rfl⟩ := List.mem_map.1 hu; rfl
    case qc4 => unfold maxLen; omega
    case qc5 => omega
    case qc6 => simp
    intro v' w1 hown hgrow hnil
    obtain ⟨A', c', rfl⟩ := own_form hown
    have hb : Below w.heap.size w w1 := ((Below.refl _ w).alloc (Nat.le_refl _) _).grown hgrow (by simp) (by intro k hk; simp [Value.ownBlock] at hk; omega)
    have hown2 : w1.ownsRow w.heap.size 3 1 (.slice A' (0 + l.length) c') l.length (l.map (Value.int .i64)) := by simpa using hown
    have HN := Lib.hid (show Nums .i64 w1 A' l from fun k z hz => by
      obtain ⟨a', ha', hc⟩ := nums_of_own hown2 k z hz
      exact ⟨(H.out k z hz).1, a', ha', by have := World.block_lt_of_cell? w1 _ hc; rwa [add_block] at this, hc⟩)
    have HF := Lib.hid (show From w.heap.size A' from fun x hx => (hown2.lt x.block (by rw [hx]; rfl)).1)
    have HTH := Lib.hid (show Thaw w1 A' from thaw_own (n := l.length) (c := c') (by simpa using hown2))
    have HC := Lib.hid (show l.length ≤ c' by
      rcases hown2.2 with ⟨e, h0⟩ | ⟨g, cap, cur, e, _, _, h1, _⟩
      · injection e with _ e2 e3; omega
      · injection e with _ e2 e3; omega)
    have HB := Lib.hid hb
    clear hown hown2 hgrow hnil hb
    go_wp2
    go_ret
    exact ⟨A', c', by simp, HN.out, HF.out, HTH.out, HC.out, HB.out⟩

theorem add_plus (a : Addr) (i j : Nat) : (a.add i).add j = a.add (i + j) := by
  unfold Addr.add
  by_cases h1 : i = 0
  · subst h1; simp
  · by_cases h2 : j = 0
    · subst h2; simp
    · rw [if_neg h1, if_neg h2, if_neg (by omega)]
      simp; omega
theorem add_pos (a : Addr) (r : Nat) (hr : r ≠ 0) : a.add r = ⟨a.block, a.off + r, none⟩ := by unfold Addr.add; rw [if_neg hr]

/-- labels, cell by cell -/
def flatL : List Lbl → List Value
  | [] => []
  | x :: l => .string x.key :: .string x.val :: flatL l
theorem flatL_length : ∀ l : List Lbl, (flatL l).length = l.length * 2
  | [] => rfl
  | x :: l => by rw [flatL, List.length_cons, List.length_cons, flatL_length l, List.length_cons]; omega
theorem flatL_at : ∀ {l : List Lbl} {k : Nat} {x : Lbl}, l[k]? = some x → (flatL l)[k * 2]? = some (.string x.key) ∧ (flatL l)[k * 2 + 1]? = some (.string x.val)
  | [], _, _, h => by simp at h
  | y :: l, 0, x, h => by
    simp only [List.getElem?_cons_zero, Option.some.injEq] at h
    subst h
    exact ⟨rfl, rfl⟩
  | y :: l, k + 1, x, h => by
    have ih := flatL_at (l := l) (k := k) (x := x) (by simpa using h)
    rw [flatL, show (k + 1) * 2 = k * 2 + 1 + 1 by omega]
    simpa using ih
theorem flatL_str : ∀ (l : List Lbl), ∀ u ∈ flatL l, u.oneCell' = true
  | [], u, h => by simp [flatL] at h
  | x :: l, u, h => by
    simp only [flatL, List.mem_cons] at h
    rcases h with rfl | rfl | h
    · rfl
    · rfl
    · exact flatL_str l u h
theorem flatL_src {w : World} {a : Addr} {l : List Lbl} (h : ∀ (k : Nat) (x : Lbl), l[k]? = some x → x.cellsAt w (a.add (k * 2))) : ∀ (j : Nat) u, (flatL l)[j]? = some u → w.cell? (a.add j) = some u := by
  intro j u hu
  have hj := (List.getElem?_eq_some_iff.1 hu).1
  rw [flatL_length] at hj
  have hk : j / 2 < l.length := by omega
  obtain ⟨h0, h1⟩ := flatL_at (List.getElem?_eq_getElem hk)
  obtain ⟨c0, c1⟩ := h (j / 2) _ (List.getElem?_eq_getElem hk)
  have hjj : j = j / 2 * 2 ∨ j = j / 2 * 2 + 1 := by omega
  generalize l[j / 2] = x at *
  generalize j / 2 = k at *
  rcases hjj with rfl | rfl
  · rw [h0] at hu
    obtain rfl := Option.some.inj hu
    exact c0
  · rw [h1] at hu
    obtain rfl := Option.some.inj hu
    rw [← add_plus, add_pos _ 1 (by omega)]
    exact c1

theorem flat_cells : ∀ (L : List Held), ∀ u ∈ flat L, u.oneCell' = true
  | [], u, h => by simp [flat] at h
  | t :: L, u, h => by
    rw [flat, List.mem_append] at h
    rcases h with h | h
    · simp only [Held.cells, Ctr.cells, List.mem_cons, List.not_mem_nil, or_false] at h
      rcases h with rfl | rfl | rfl | rfl | rfl | rfl | rfl | rfl | rfl | rfl | rfl <;> rfl
    · exact flat_cells L u h
theorem flat_src {w : World} {a : Addr} {L : List Held} (h : ∀ (k : Nat) (t : Held), L[k]? = some t → t.x.cellsAt t.P t.c w (a.add (k * 11))) : ∀ (j : Nat) u, (flat L)[j]? = some u → w.cell? (a.add j) = some u := by
  intro j u hu
  have hj := (List.getElem?_eq_some_iff.1 hu).1
  rw [flat_length] at hj
  have hk : j / 11 < L.length := by omega
  obtain ⟨r, hr⟩ : ∃ r, j = j / 11 * 11 + r := ⟨j % 11, by omega⟩
  have hr11 : r < 11 := by omega
  have hf := flat_at (List.getElem?_eq_getElem hk) r hr11
  have hc := h (j / 11) _ (List.getElem?_eq_getElem hk)
  generalize j / 11 = k at *
  subst hr
  rw [hu] at hf
  generalize L[k] = t at *
  obtain ⟨c0, c1, c2, c3, c4, c5, c6, c7, c8, c9, c10, _⟩ := hc
  rw [← add_plus]
  rcases (show r = 0 ∨ r = 1 ∨ r = 2 ∨ r = 3 ∨ r = 4 ∨ r = 5 ∨ r = 6 ∨ r = 7 ∨ r = 8 ∨ r = 9 ∨ r = 10 by omega) with rfl | rfl | rfl | rfl | rfl | rfl | rfl | rfl | rfl | rfl | rfl
  all_goals
    have hq := Option.some.inj hf
    subst hq
  · exact c0
  · rw [add_pos _ 1 (by omega)]; exact c1
  · rw [add_pos _ 2 (by omega)]; exact c2
  · rw [add_pos _ 3 (by omega)]; exact c3
  · rw [add_pos _ 4 (by omega)]; exact c4
  · rw [add_pos _ 5 (by omega)]; exact c5
  · rw [add_pos _ 6 (by omega)]; exact c6
  · rw [add_pos _ 7 (by omega)]; exact c7
  · rw [add_pos _ 8 (by omega)]; exact c8
  · rw [add_pos _ 9 (by omega)]; exact c9
  · rw [add_pos _ 10 (by omega)]; exact c10
theorem ctrs_held {w : World} {A : Option Addr} {l : List Ctr} (h : Ctrs w A l) : ∃ L : List Held, L.map (·.x) = l ∧ ∀ (k : Nat) (t : Held), L[k]? = some t → t.Ok w ∧ ∃ a, A = some a ∧ a.block < w.heap.size ∧ t.x.cellsAt t.P t.c w (a.add (k * 11)) := by
  obtain ⟨L, hL, hat⟩ := LawKit.list_of (Q := fun k (t : Held) => l[k]? = some t.x ∧ t.Ok w ∧ ∃ a, A = some a ∧ a.block < w.heap.size ∧ t.x.cellsAt t.P t.c w (a.add (k * 11))) l.length (fun k hk => by
    obtain ⟨t, a, h1, h2, h3, h4, h5⟩ := h.held hk
    exact ⟨t, by rw [List.getElem?_eq_getElem hk, h1], h2, a, h3, h4, h5⟩)
  refine ⟨L, ?_, fun k t hk => (hat k t hk).2⟩
  apply List.ext_getElem?
  intro k
  rw [List.getElem?_map]
  rcases Nat.lt_or_ge k L.length with hk | hk
  · rw [List.getElem?_eq_getElem hk]
    exact (hat k _ (List.getElem?_eq_getElem hk)).1.symm
  · rw [List.getElem?_eq_none hk, List.getElem?_eq_none (by omega)]; rfl
theorem info_ctr' : (Tryz.prog.info? 44).map (fun i => (i.zero, i.size, i.bytes)) = some (some (.agg #[.string ⟨#[]⟩, .string ⟨#[]⟩, .int .i64 0, .int .i64 0, .int .i64 0, .int .i64 0, .int .i64 0, .int .i64 0, .slice none 0 0, .int .i64 0, .int .i64 0]), 11, 120) := by kernel_rfl

set_option maxRecDepth 100000 in
theorem sliceLabels_any (A : Option Addr) (c : Nat) (n : Nat) (hn : n ≤ 100000) (l : List Lbl) (hlen : (flatL l).length = n * 2) (w : World) (hnone : A = none → n = 0) (hsrc : ∀ (j : Nat) u, (flatL l)[j]? = some u → ∃ a, A = some a ∧ a.block < w.heap.size ∧ w.cell? (a.add j) = some u) :
    Calls Tryz.prog 50 #[.slice A n c] w fun e w' => ∃ A' c', e = .returned (.slice A' n c') ∧ w'.ownsRow w.heap.size 85 2 (.slice A' n c') n (flatL l) ∧ n ≤ c' ∧ Below w.heap.size w w' := by
  have hq : ∀ v, (binOp .eql 22 (.slice A n c) (.slice none 0 0)).run Tryz.prog v = .ok (.bool A.isNone) v := fun v => Lib.run_eql_slice_nil v _ _ A n c 0 0 Tryz.underlying22
  cases A with
  | none =>
    obtain rfl : n = 0 := hnone rfl
    have HZ := Lib.hid (show (flatL l) = [] from List.eq_nil_of_length_eq_zero (by rw [hlen]))
    have hq' : ∀ v, (binOp .eql 22 (.slice none 0 c) (.slice none 0 0)).run Tryz.prog v = .ok (.bool true) v := hq
    clear hq
    go_enter Tryz.func50, Tryz.ntmps50
    go_wp2
    go_ret
    exact ⟨none, 0, rfl, by rw [HZ.out]; exact World.ownsRow_nil _ _ _ _, Below.refl _ _⟩
  | some a =>
    have H := Lib.hid hsrc
    obtain ⟨i0, hi, hz0, hz1, hz2⟩ := info_parts info_label
    have hq' : ∀ v, (binOp .eql 22 (.slice (some a) n c) (.slice none 0 0)).run Tryz.prog v = .ok (.bool false) v := hq
    clear hsrc hq
    go_enter Tryz.func50, Tryz.ntmps50
    go_wp2_with (at_builtin; refine wpList_append_own _ rfl _ _ 22 rfl w.heap.size 85 i0 _ 2 32 Tryz.underlying22 hi hz0 hz1 hz2 rfl (by decide) _ _ _ rfl (World.ownsRow_made w #[] 0 (Nat.le_refl _) (Nat.zero_le _) rfl) a n c (flatL l) rfl ?qc1 ?qc2 ?qc3 ?qc4 ?qc5 ?qc6 ?_)
    case qc1 => exact hlen
    case qc2 =>
      intro j u hj
      obtain ⟨a', ha', hla, hca⟩ := H.out j u hj
      injection ha' with ha'
      subst ha'
      exact (((Below.refl w.heap.size w).alloc (Nat.le_refl _) _).cell (by rw [add_block]; exact hla)).trans hca
    case qc3 => exact flatL_str l
    case qc4 => unfold maxLen; omega
    case qc5 => omega
    case qc6 => simp
    intro v' w1 hown hgrow hnil
    obtain ⟨A', c', rfl⟩ := own_form hown
    have hown2 : w1.ownsRow w.heap.size 85 2 (.slice A' (0 + n) c') n (flatL l) := by simpa using hown
    have HO := Lib.hid (show w1.ownsRow w.heap.size 85 2 (.slice A' n c') n (flatL l) by rw [Nat.zero_add] at hown2; exact hown2)
    have HC := Lib.hid (show n ≤ c' by
      rcases hown2.2 with ⟨e, h0⟩ | ⟨g, cap, cur, e, _, _, h1, _⟩
      · injection e with _ e2 e3; omega
      · injection e with _ e2 e3; omega)
    have HB := Lib.hid (show Below w.heap.size w w1 from ((Below.refl _ w).alloc (Nat.le_refl _) _).grown hgrow (by simp) (by intro k hk; simp [Value.ownBlock] at hk; omega))
    clear hown hown2 hgrow hnil
    go_wp2
    go_ret
    exact ⟨A', c', by simp, HO.out, HC.out, HB.out⟩

set_option maxRecDepth 100000 in
theorem sliceCtrs_any (A : Option Addr) (c : Nat) (n : Nat) (hn : n ≤ 100000) (L : List Held) (hlen : (flat L).length = n * 11) (w : World) (hnone : A = none → n = 0) (hsrc : ∀ (j : Nat) u, (flat L)[j]? = some u → ∃ a, A = some a ∧ a.block < w.heap.size ∧ w.cell? (a.add j) = some u) :
    Calls Tryz.prog 95 #[.slice A n c] w fun e w' => ∃ A' c', e = .returned (.slice A' n c') ∧ w'.ownsRow w.heap.size 44 11 (.slice A' n c') n (flat L) ∧ n ≤ c' ∧ Below w.heap.size w w' := by
  have hq : ∀ v, (binOp .eql 23 (.slice A n c) (.slice none 0 0)).run Tryz.prog v = .ok (.bool A.isNone) v := fun v => Lib.run_eql_slice_nil v _ _ A n c 0 0 Tryz.underlying23
  cases A with
  | none =>
    obtain rfl : n = 0 := hnone rfl
    have HZ := Lib.hid (show (flat L) = [] from List.eq_nil_of_length_eq_zero (by rw [hlen]))
    have hq' : ∀ v, (binOp .eql 23 (.slice none 0 c) (.slice none 0 0)).run Tryz.prog v = .ok (.bool true) v := hq
    clear hq
    go_enter Tryz.func95, Tryz.ntmps95
    go_wp2
    go_ret
    exact ⟨none, 0, rfl, by rw [HZ.out]; exact World.ownsRow_nil _ _ _ _, Below.refl _ _⟩
  | some a =>
    have H := Lib.hid hsrc
    obtain ⟨i0, hi, hz0, hz1, hz2⟩ := info_parts info_ctr'
    have hq' : ∀ v, (binOp .eql 23 (.slice (some a) n c) (.slice none 0 0)).run Tryz.prog v = .ok (.bool false) v := hq
    clear hsrc hq
    go_enter Tryz.func95, Tryz.ntmps95
    go_wp2_with (at_builtin; refine wpList_append_own _ rfl _ _ 23 rfl w.heap.size 44 i0 _ 11 120 Tryz.underlying23 hi hz0 hz1 hz2 rfl (by decide) _ _ _ rfl (World.ownsRow_made w #[] 0 (Nat.le_refl _) (Nat.zero_le _) rfl) a n c (flat L) rfl ?qc1 ?qc2 ?qc3 ?qc4 ?qc5 ?qc6 ?_)
    case qc1 => exact hlen
    case qc2 =>
      intro j u hj
      obtain ⟨a', ha', hla, hca⟩ := H.out j u hj
      injection ha' with ha'
      subst ha'
      exact (((Below.refl w.heap.size w).alloc (Nat.le_refl _) _).cell (by rw [add_block]; exact hla)).trans hca
    case qc3 => exact flat_cells L
    case qc4 => unfold maxLen; omega
    case qc5 => omega
    case qc6 => simp
    intro v' w1 hown hgrow hnil
    obtain ⟨A', c', rfl⟩ := own_form hown
    have hown2 : w1.ownsRow w.heap.size 44 11 (.slice A' (0 + n) c') n (flat L) := by simpa using hown
    have HO := Lib.hid (show w1.ownsRow w.heap.size 44 11 (.slice A' n c') n (flat L) by rw [Nat.zero_add] at hown2; exact hown2)
    have HC := Lib.hid (show n ≤ c' by
      rcases hown2.2 with ⟨e, h0⟩ | ⟨g, cap, cur, e, _, _, h1, _⟩
      · injection e with _ e2 e3; omega
      · injection e with _ e2 e3; omega)
    have HB := Lib.hid (show Below w.heap.size w w1 from ((Below.refl _ w).alloc (Nat.le_refl _) _).grown hgrow (by simp) (by intro k hk; simp [Value.ownBlock] at hk; omega))
    clear hown hown2 hgrow hnil
    go_wp2
    go_ret
    exact ⟨A', c', by simp, HO.out, HC.out, HB.out⟩
end SpecOwn
end Go.Proofs.YtefkaebdfkjkgaaGreatDoor
