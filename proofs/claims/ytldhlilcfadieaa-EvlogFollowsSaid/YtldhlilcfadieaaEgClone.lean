/-
  What evlog.clone makes of an event of a log: the same, its restarts in new memory; slices.Clone of numbers, and of nothing. What was there is left as it was. Condition: the restarts can be read.
-/
import Derived.Test.YtldhlilcfadieaaEgMem
import Derived.Lib.SliceRun
set_option linter.unusedVariables false
set_option linter.unusedSimpArgs false
namespace Go.Proofs.Ytldhlilcfadieaa
open Go.ChangeShapes Go.WideShapes Go.ChangeAt Go.RowKit Go.Lib
open Lists
namespace Eg

def over (A : Array Value) : Nat → List Value → Array Value
  | _, [] => A
  | o, v :: r => over (A.setIfInBounds o v) (o + 1) r
theorem box_over {b : Nat} {t : TypeId} : ∀ (vs : List Value) (o : Nat) {w : World} {A : Array Value}, w.heap[b]? = some (.cells A t (0, 0)) → (w.setCells b o vs).heap[b]? = some (.cells (over A o vs) t (0, 0))
  | [], _, _, _, h => h
  | v :: r, o, w, A, h => by
    rw [World.setCells]
    exact box_over r (o + 1) (box_set h o v rfl)
theorem box_into {w : World} {b : Nat} {A : Array Value} {t : TypeId} (h : w.heap[b]? = some (.cells A t (0, 0))) (o : Nat) (vs : List Value) {B : Array Value} (hB : over A o vs = B) : (w.setCells b o vs).heap[b]? = some (.cells B t (0, 0)) := by
  rw [← hB]; exact box_over vs o h
theorem over_15 (a0 a1 a2 a3 a4 a5 a6 a7 a8 a9 a10 a11 a12 a13 a14 b0 b1 b2 b3 b4 b5 b6 b7 b8 b9 b10 b11 b12 b13 b14 : Value) : over #[a0, a1, a2, a3, a4, a5, a6, a7, a8, a9, a10, a11, a12, a13, a14] 0 [b0, b1, b2, b3, b4, b5, b6, b7, b8, b9, b10, b11, b12, b13, b14] = #[b0, b1, b2, b3, b4, b5, b6, b7, b8, b9, b10, b11, b12, b13, b14] := by
  simp [over]
theorem setCells_other {b i : Nat} (hi : i ≠ b) : ∀ (vs : List Value) (o : Nat) (w : World), (w.setCells b o vs).heap[i]? = w.heap[i]? ∧ (w.setCells b o vs).heap.size = w.heap.size
  | [], _, _ => ⟨rfl, rfl⟩
  | v :: r, o, w => by
    rw [World.setCells]
    obtain ⟨h1, h2⟩ := setCells_other hi r (o + 1) (w.setCell ⟨b, o, none⟩ v)
    exact ⟨h1.trans (Below.heap_setCell _ _ _ _ hi), h2.trans (by simp [World.setCell])⟩
theorem below_cells {B b : Nat} {a : World} (hb : B ≤ b) : ∀ (vs : List Value) (o : Nat) {w : World}, Below B a w → Below B a (w.setCells b o vs)
  | [], _, _, h => h
  | u :: r, o, _, h => by
    rw [World.setCells]
    exact below_cells hb r (o + 1) (h.setCell (p := ⟨b, o, none⟩) hb u)
theorem box_there {w : World} {b : Nat} {A : Array Value} {t : TypeId} (h : w.heap[b]? = some (.cells A t (0, 0))) (o n : Nat) (hn : o + n ≤ A.size) : w.there b o n := fun j hj =>
  ⟨by rw [box_cell h (o + j) (Array.getElem?_eq_getElem (by omega))]; rfl, box_free h _⟩
theorem wpList_store_to {P : Program} {ops : Array Oper} {rest : List Oper} {op : Oper} {a : Act} {w v : World} {Q : Exit → Act → World → Prop} (hgd : op.guard = none) (ty : TypeId) (x y : Operand) (ho : op.op = .store ty x y)
    (b o : Nat) (cells : Array Value) (hx : a.eval x = .pointer (some ⟨b, o, none⟩)) (hy : a.eval y = .agg cells)
    (ht : w.there b o cells.size) (hi : (P.info? ty).map (·.size) = some cells.size) (h1 : cells.all (·.oneCell') = true) (hv : w.setCells b o cells.toList = v)
    (h : wpList P ops Q rest (a.put op.dst undef) v) : wpList P ops Q (op :: rest) a w :=
  wpList_store_mid hgd ty x y ho b o cells hx hy ht hi h1 (by rw [hv]; exact h)
theorem two_new (w : World) (o o' : Obj) : ((w.alloc o).alloc o').heap[w.heap.size]? = some o ∧ ((w.alloc o).alloc o').heap[w.heap.size + 1]? = some o' :=
  ⟨(Below.heap_alloc _ _ _ (by simp)).trans (heap_alloc_new w o), by have := heap_alloc_new (w.alloc o) o'; simpa using this⟩
theorem info_int : (Try.prog.info? 3).map (fun i => (i.zero, i.size, i.bytes)) = some (some (.int .i64 0), 1, 8) := by kernel_rfl

set_option maxRecDepth 100000 in
theorem cloneInts_any (A : Option Addr) (c : Nat) (l : List Int) (hl : l.length ≤ 100000) (w : World) (h : Nums .i64 w A l) :
    Calls Try.prog 21 #[.slice A l.length c] w fun e w' => ∃ A' c', e = .returned (.slice A' l.length c') ∧ Nums .i64 w' A' l ∧ (∀ a, A' = some a → w.heap.size ≤ a.block ∧ a.block < w'.heap.size) ∧ Below w.heap.size w w' := by
  have hq : ∀ v, (binOp .eql 36 (.slice A l.length c) (.slice none 0 0)).run Try.prog v = .ok (.bool A.isNone) v := fun v => Lib.run_eql_slice_nil v _ _ A l.length c 0 0 Try.underlying36
  cases A with
  | none =>
    have hz : l = [] := by
      cases hq : l with
      | nil => rfl
      | cons z zs =>
        obtain ⟨_, a, ha, _⟩ := h 0 z (by rw [hq]; rfl)
        cases ha
    subst hz
    have hq' : ∀ v, (binOp .eql 36 (.slice none 0 c) (.slice none 0 0)).run Try.prog v = .ok (.bool true) v := hq
    clear hq
    go_enter Try.func21, Try.ntmps21
    go_wp2
    go_ret
    exact ⟨none, 0, rfl, h, (fun a ha => by cases ha), Below.refl _ _⟩
  | some a =>
    have H := Lib.hid h
    obtain ⟨i0, hi, hz0, hz1, hz2⟩ := info_parts info_int
    have hq' : ∀ v, (binOp .eql 36 (.slice (some a) l.length c) (.slice none 0 0)).run Try.prog v = .ok (.bool false) v := hq
    clear h hq
    go_enter Try.func21, Try.ntmps21
    go_wp2_with (at_builtin; refine wpList_append_own _ rfl _ _ 36 rfl w.heap.size 3 i0 (.int .i64 0) 1 8 Try.underlying36 hi hz0 hz1 hz2 rfl (by decide) _ _ _ rfl (World.ownsRow_made w #[] 0 (Nat.le_refl _) (Nat.zero_le _) rfl) a l.length c (l.map (Value.int .i64)) rfl ?qc1 ?qc2 ?qc3 ?qc4 ?qc5 ?qc6 ?_)
    case qc1 => simp
    case qc2 =>
      intro j u hj
      rw [List.getElem?_map] at hj
      obtain ⟨z, hz, rfl⟩ := Option.map_eq_some_iff.1 hj
      obtain ⟨_, a', ha', hla, hca⟩ := H.out j z hz
      injection ha' with ha'
      subst ha'
      exact (((Below.refl w.heap.size w).alloc (Nat.le_refl _) _).cell (by rw [add_block]; exact hla)).trans hca
    case qc3 => intro u hu; obtain ⟨x, _, rfl⟩ := List.mem_map.1 hu; rfl
    case qc4 => unfold maxLen; omega
    case qc5 => omega
    case qc6 => simp
    intro v' w1 hown hgrow hnil
    obtain ⟨A', c', rfl⟩ := own_form hown
    have hb : Below w.heap.size w w1 := ((Below.refl _ w).alloc (Nat.le_refl _) _).grown hgrow (by simp) (by intro k hk; simp [Value.ownBlock] at hk; omega)
    have hown2 : w1.ownsRow w.heap.size 3 1 (.slice A' (0 + l.length) c') l.length (l.map (Value.int .i64)) := by simpa using hown
    have HN := Lib.hid (show Nums .i64 w1 A' l from fun k z hz => by
      have hk := (List.getElem?_eq_some_iff.1 hz).1
      obtain ⟨r, rfl⟩ := own_addr (by simpa using hown2) (show 0 < l.length by omega)
      have hc := World.ownsRow.cells hown2 (g := r) rfl k (.int .i64 z) (by rw [List.getElem?_map, hz]; rfl)
      exact ⟨(H.out k z hz).1, ⟨r, 0, none⟩, rfl, by have := World.block_lt_of_cell? w1 _ hc; rwa [add_block] at this, hc⟩)
    have HF := Lib.hid (show ∀ a, A' = some a → w.heap.size ≤ a.block ∧ a.block < w1.heap.size from fun a ha => owns_lt hown2 (by rw [ha]; rfl))
    have HB := Lib.hid hb
    clear hown hown2 hgrow hnil hb
    go_wp2
    go_ret
    exact ⟨A', c', by simp, HN.out, HF.out, HB.out⟩
theorem cloneLabels_none (w : World) : Calls Try.prog 23 #[.slice none 0 0] w fun e w' => e = .returned (.slice none 0 0) ∧ w = w' := by
  have hq' : ∀ v, (binOp .eql 32 (.slice none 0 0) (.slice none 0 0)).run Try.prog v = .ok (.bool true) v := fun v => Lib.run_eql_slice_nil v _ _ none 0 0 0 0 Try.underlying32
  go_enter Try.func23, Try.ntmps23
  go_wp2
  go_ret
  exact ⟨rfl, rfl⟩
theorem cloneCtrs_none (w : World) : Calls Try.prog 28 #[.slice none 0 0] w fun e w' => e = .returned (.slice none 0 0) ∧ w = w' := by
  have hq' : ∀ v, (binOp .eql 33 (.slice none 0 0) (.slice none 0 0)).run Try.prog v = .ok (.bool true) v := fun v => Lib.run_eql_slice_nil v _ _ none 0 0 0 0 Try.underlying33
  go_enter Try.func28, Try.ntmps28
  go_wp2
  go_ret
  exact ⟨rfl, rfl⟩
theorem lite_none (w : World) : Calls Try.prog 27 #[.string ⟨#[]⟩] w fun e w' => e = .returned (.string ⟨#[]⟩) ∧ w = w' := by
  go_enter Try.func27, Try.ntmps27
  go_wp2
  go_ret
  exact ⟨rfl, rfl⟩
theorem str_none (w : World) : Calls Try.prog 22 #[.string ⟨#[]⟩] w fun e w' => e = .returned (.string ⟨#[]⟩) ∧ w = w' := by
  go_enter Try.func22, Try.ntmps22
  go_wp2_with fail
  refine (lite_none _).mono ?_
  rintro e w' ⟨rfl, rfl⟩
  go_wp2
  go_ret
  exact ⟨rfl, rfl⟩
theorem clones_none (w : World) : Calls Try.prog 24 #[.slice none 0 0] w fun e w' => e = .returned (.slice none 0 0) ∧ w = w' := by
  go_enter Try.func24, Try.ntmps24
  go_wp2_with fail
  refine (cloneCtrs_none _).mono ?_
  rintro e w' ⟨rfl, rfl⟩
  go_wp2_with fail
  go_loop [9] (fun i => i = .int .i64 0) (fun _ => 0)
  case atStart => rfl
  case round =>
    obtain rfl := hrel
    go_wp2
    go_ret
    exact ⟨rfl, rfl⟩
end Eg
end Go.Proofs.Ytldhlilcfadieaa
