/-
  A table of ports in memory: its box, the row of its ports and owners; what a call keeps. No condition.
-/
import Derived.Test.YtgnfpcacpcnanaaChecked
import Derived.Test.YtgnfpcacpcnanaaKit
import Derived.Test.YtgnfpcacpcnanaaPtPure
import Derived.WalkKit
import Derived.ProofKit
import Derived.OwnWalk
import Derived.Lib.Hide
import Derived.Laws.Rows
import Derived.Laws.AppendOwn
import Derived.Maps.AppendAt
import Derived.Deep.MidRow
set_option linter.unusedVariables false
set_option linter.unusedSimpArgs false
namespace Go.Proofs.Ytgnfpcacpcnanaa
open Go.ChangeShapes Go.WideShapes Go.ChangeAt Go.RowKit Go.Lib
namespace Pt

theorem lt_of_block {w : World} {g : Nat} {o : Obj} (h : w.heap[g]? = some o) : g < w.heap.size := by
  rcases Nat.lt_or_ge g w.heap.size with hl | hl
  · exact hl
  · rw [Array.getElem?_eq_none hl] at h; cases h
theorem owns_of {w w' : World} {base : Nat} {e : TypeId} {size n : Nat} {v : Value} {xs : List Value} (h : w.ownsRow base e size v n xs) (hk : ∀ r, v.ownBlock = some r → w'.heap[r]? = w.heap[r]?) : w'.ownsRow base e size v n xs := by
  refine ⟨h.1, ?_⟩
  rcases h.2 with h0 | ⟨g, cap, cur, rfl, h1, h2, h3⟩
  · exact .inl h0
  · exact .inr ⟨g, cap, cur, rfl, h1, (hk g rfl).trans h2, h3⟩
theorem owns_at {w : World} {base : Nat} {e : TypeId} {size n : Nat} {v : Value} {xs : List Value} (h : w.ownsRow base e size v n xs) {r : Nat} (hr : v.ownBlock = some r) : base ≤ r ∧ ∃ cur, w.heap[r]? = some (.cells cur e (0, 0)) := by
  rcases h.2 with ⟨rfl, _⟩ | ⟨g, cap, cur, rfl, h1, h2, h3⟩
  · cases hr
  · injection hr with hr; subst hr; exact ⟨h1, cur, h2⟩
theorem owns_below {w w' : World} {base : Nat} {e : TypeId} {size n : Nat} {v : Value} {xs : List Value} (h : w.ownsRow base e size v n xs) (hb : Below w.heap.size w w') : w'.ownsRow base e size v n xs :=
  owns_of h fun r hr => by obtain ⟨_, cur, hc⟩ := owns_at h hr; exact hb.block r (lt_of_block hc)
theorem owns_base {w : World} {base b2 : Nat} {e : TypeId} {size n : Nat} {v : Value} {xs : List Value} (h : w.ownsRow base e size v n xs) (hb : b2 ≤ base) : w.ownsRow b2 e size v n xs := by
  refine ⟨h.1, ?_⟩
  rcases h.2 with h0 | ⟨g, cap, cur, rfl, h1, h2, h3⟩
  · exact .inl h0
  · exact .inr ⟨g, cap, cur, rfl, Nat.le_trans hb h1, h2, h3⟩
theorem own_form {w : World} {base : Nat} {t : TypeId} {size n : Nat} {v : Value} {xs : List Value} (h : w.ownsRow base t size v n xs) : ∃ A c, v = .slice A n c := by
  rcases h.2 with ⟨e1, e2⟩ | ⟨g, cap, cur, e1, _⟩
  · exact ⟨none, 0, by rw [e1, e2]⟩
  · exact ⟨_, _, e1⟩
theorem own_cap {w : World} {base : Nat} {t : TypeId} {size n : Nat} {A : Option Addr} {c : Nat} {xs : List Value} (h : w.ownsRow base t size (.slice A n c) n xs) : n ≤ c ∧ c ≤ 9223372036854775807 := by
  rcases h.2 with ⟨e1, e2⟩ | ⟨g, cap, cur, e1, _, _, h1, h2, _⟩
  · injection e1 with e1 e3 e4; subst e4 e3; exact ⟨Nat.le_refl _, by omega⟩
  · injection e1 with e1 e3 e4; subst e4; exact ⟨h1, by unfold maxLen at h2; exact h2⟩
/-- a row is nil, or lies in a block of its own -/
theorem own_addr {w : World} {base : Nat} {t : TypeId} {size n : Nat} {A : Option Addr} {c : Nat} {xs : List Value} (h : w.ownsRow base t size (.slice A n c) n xs) : (A = none ∧ n = 0 ∧ c = 0) ∨ ∃ r, A = some ⟨r, 0, none⟩ ∧ base ≤ r ∧ r < w.heap.size := by
  rcases h.2 with ⟨e1, e2⟩ | ⟨g, cap, cur, e1, h1, h2, _⟩
  · injection e1 with e1 e3 e4; exact .inl ⟨e1, e3, e4⟩
  · injection e1 with e1 e3 e4; exact .inr ⟨g, e1, h1, lt_of_block h2⟩
theorem box_cell {w : World} {g : Nat} {A : Array Value} {t : TypeId} (h : w.heap[g]? = some (.cells A t (0, 0))) (k : Nat) {v : Value} (hv : A[k]? = some v) : w.cell? ⟨g, k, none⟩ = some v := by
  simp [World.cell?, h, hv]
theorem box_free {w : World} {g : Nat} {A : Array Value} {t : TypeId} (h : w.heap[g]? = some (.cells A t (0, 0))) (k : Nat) : w.frozen? ⟨g, k, none⟩ = false := by
  simp [World.frozen?, h]
theorem box_set {w : World} {g : Nat} {A : Array Value} {t : TypeId} (h : w.heap[g]? = some (.cells A t (0, 0))) (k : Nat) (v : Value) {B : Array Value} (hB : A.setIfInBounds k v = B) : (w.setCell ⟨g, k, none⟩ v).heap[g]? = some (.cells B t (0, 0)) := by
  rw [← hB]; exact heap_setCell_same w g k _ _ v h

/-- the cells of a table's row -/
def flat : Tab → List Value
  | [] => []
  | x :: l => .int .i64 x.1 :: .int .i64 x.2 :: flat l
theorem flat_length : ∀ l : Tab, (flat l).length = l.length * 2
  | [] => rfl
  | x :: l => by simp only [flat, List.length_cons, flat_length l]; omega
theorem flat_cat : ∀ (a b : Tab), flat (a ++ b) = flat a ++ flat b
  | [], b => rfl
  | x :: a, b => by simp only [List.cons_append, flat, flat_cat a b]
theorem flat_drop : ∀ (l : Tab) (k : Nat), (flat l).drop (k * 2) = flat (l.drop k)
  | l, 0 => by simp
  | [], k + 1 => by simp [flat]
  | x :: l, k + 1 => by
    rw [flat, show (k + 1) * 2 = k * 2 + 1 + 1 by omega, List.drop_succ_cons, List.drop_succ_cons, flat_drop l k, List.drop_succ_cons]
theorem flat_take : ∀ (l : Tab) (k : Nat), (flat l).take (k * 2) = flat (l.take k)
  | l, 0 => by simp [flat]
  | [], k + 1 => by simp [flat]
  | x :: l, k + 1 => by
    rw [flat, show (k + 1) * 2 = k * 2 + 1 + 1 by omega, List.take_succ_cons, List.take_succ_cons, flat_take l k, List.take_succ_cons, flat]
theorem flat_at {l : Tab} {k : Nat} {x : Int × Int} (h : l[k]? = some x) : (flat l)[k * 2]? = some (.int .i64 x.1) ∧ (flat l)[k * 2 + 1]? = some (.int .i64 x.2) := by
  have hk := (List.getElem?_eq_some_iff.1 h).1
  have e := flat_drop l k
  rw [List.drop_eq_getElem_cons hk, (List.getElem?_eq_some_iff.1 h).2, flat] at e
  constructor
  · rw [← Nat.add_zero (k * 2), ← List.getElem?_drop, e]; rfl
  · rw [← List.getElem?_drop, e]; rfl
theorem flat_one : ∀ (l : Tab), ∀ u ∈ flat l, u.oneCell' = true
  | [], u, hu => by simp [flat] at hu
  | x :: l, u, hu => by
    simp only [flat, List.mem_cons] at hu
    rcases hu with rfl | rfl | hu
    · rfl
    · rfl
    · exact flat_one l u hu
/-- entry k of a row -/
theorem row_at {w : World} {base : Nat} {e : TypeId} {A : Option Addr} {c : Nat} {l : Tab} (h : w.ownsRow base e 2 (.slice A l.length c) l.length (flat l)) {k : Nat} {x : Int × Int} (hx : l[k]? = some x) :
    ∃ r, A = some ⟨r, 0, none⟩ ∧ r < w.heap.size ∧ w.cell? ⟨r, k * 2, none⟩ = some (.int .i64 x.1) ∧ w.cell? ⟨r, k * 2 + 1, none⟩ = some (.int .i64 x.2) := by
  have hk := (List.getElem?_eq_some_iff.1 hx).1
  rcases own_addr h with ⟨_, h2, _⟩ | ⟨r, rfl, _, hr⟩
  · omega
  · obtain ⟨h1, h2⟩ := flat_at hx
    exact ⟨r, rfl, hr, by rw [h.cellAt (k * 2) (by omega), h1], by rw [h.cellAt (k * 2 + 1) (by omega), h2]⟩

/-- a block that holds table entries -/
def IsT (w : World) (k : Nat) : Prop := ∃ cur, w.heap[k]? = some (.cells cur 59 (0, 0))
/-- what a call at the table g keeps: all below B, and all that is neither g nor a row of a table's -/
structure Kt (B g : Nat) (w w' : World) : Prop where
  os : w'.os = w.os
  tape : w'.tape = w.tape
  output : w'.output = w.output
  size : w.heap.size ≤ w'.heap.size
  block : ∀ k, k < w.heap.size → k ≠ g → (k < B ∨ ¬ IsT w k) → w'.heap[k]? = w.heap[k]?
theorem Kt.refl (B g : Nat) (w : World) : Kt B g w w := ⟨rfl, rfl, rfl, Nat.le_refl _, fun _ _ _ _ => rfl⟩
theorem Kt.trans {B g : Nat} {a b c : World} (h : Kt B g a b) (k : Kt B g b c) : Kt B g a c :=
  ⟨k.os.trans h.os, k.tape.trans h.tape, k.output.trans h.output, Nat.le_trans h.size k.size, fun i hi hg hd => by
    have e := h.block i hi hg hd
    refine (k.block i (Nat.lt_of_lt_of_le hi h.size) hg ?_).trans e
    rcases hd with hd | hd
    · exact .inl hd
    · exact .inr (fun ⟨cur, hc⟩ => hd ⟨cur, e ▸ hc⟩)⟩
theorem Kt.of_below {B g : Nat} {a b : World} (h : Below a.heap.size a b) : Kt B g a b := ⟨h.os, h.tape, h.output, h.size, fun k hk _ _ => h.block k hk⟩
theorem Kt.below {B g : Nat} {a b : World} (h : Kt B g a b) (hB : B ≤ a.heap.size) (hg : B ≤ g) : Below B a b := ⟨h.os, h.tape, h.output, h.size, fun k hk => h.block k (by omega) (by omega) (.inl hk)⟩

/-- the table at block g has the ports l -/
structure TbAt (B : Nat) (w : World) (g : Nat) (l : Tab) (A : Option Addr) (c : Nat) : Prop where
  hB : B ≤ g
  box : w.heap[g]? = some (.cells #[.slice A l.length c] 48 (0, 0))
  row : w.ownsRow B 59 2 (.slice A l.length c) l.length (flat l)
def Tb (B : Nat) (w : World) (g : Nat) (l : Tab) : Prop := ∃ A c, TbAt B w g l A c
theorem TbAt.lt {B : Nat} {w : World} {g : Nat} {l : Tab} {A : Option Addr} {c : Nat} (h : TbAt B w g l A c) : g < w.heap.size := lt_of_block h.box
theorem TbAt.cell {B : Nat} {w : World} {g : Nat} {l : Tab} {A : Option Addr} {c : Nat} (h : TbAt B w g l A c) : w.cell? ⟨g, 0, none⟩ = some (.slice A l.length c) := box_cell h.box 0 rfl
theorem TbAt.keep {B : Nat} {w w' : World} {g : Nat} {l : Tab} {A : Option Addr} {c : Nat} (h : TbAt B w g l A c) (hk : ∀ k, k < w.heap.size → (k = g ∨ IsT w k) → w'.heap[k]? = w.heap[k]?) : TbAt B w' g l A c :=
  ⟨h.hB, (hk g h.lt (.inl rfl)).trans h.box, owns_of h.row fun r hr => by obtain ⟨_, cur, hc⟩ := owns_at h.row hr; exact hk r (lt_of_block hc) (.inr ⟨cur, hc⟩)⟩
theorem TbAt.below {B : Nat} {w w' : World} {g : Nat} {l : Tab} {A : Option Addr} {c : Nat} (h : TbAt B w g l A c) (hb : Below w.heap.size w w') : TbAt B w' g l A c := h.keep fun k hk _ => hb.block k hk
theorem Tb.below {B : Nat} {w w' : World} {g : Nat} {l : Tab} (h : Tb B w g l) (hb : Below w.heap.size w w') : Tb B w' g l := by
  obtain ⟨A, c, h⟩ := h
  exact ⟨A, c, h.below hb⟩
theorem Tb.lt {B : Nat} {w : World} {g : Nat} {l : Tab} (h : Tb B w g l) : g < w.heap.size := by
  obtain ⟨A, c, h⟩ := h
  exact h.lt

theorem new_any (w : World) : Calls Try.prog 5 #[] w fun e w' => e = .returned (.pointer (some ⟨w.heap.size, 0, none⟩)) ∧ (∀ B, B ≤ w.heap.size → Tb B w' w.heap.size []) ∧ Below w.heap.size w w' := by
  go_enter Try.func5, Try.ntmps5
  go_wp2_with fail
  go_ret
  refine ⟨rfl, fun B hB => ⟨none, 0, hB, ?_, World.ownsRow_nil _ _ _ _⟩, (Below.refl _ _).alloc (Nat.le_refl _) _⟩
  exact heap_alloc_new w (.cells #[.slice none 0 0] 48)
theorem len_any {B : Nat} {g : Nat} {l : Tab} (w : World) (h : Tb B w g l) : Calls Try.prog 11 #[.pointer (some ⟨g, 0, none⟩)] w fun e w' => e = .returned (.int .i64 (l.length : Int)) ∧ w' = w := by
  obtain ⟨A, c, h⟩ := h
  have c0 := h.cell
  clear h
  go_enter Try.func11, Try.ntmps11
  go_wp2
  go_ret
  exact ⟨rfl, rfl⟩
end Pt
end Go.Proofs.Ytgnfpcacpcnanaa
