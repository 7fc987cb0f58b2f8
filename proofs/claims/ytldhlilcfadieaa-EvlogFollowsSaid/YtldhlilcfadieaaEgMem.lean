/-
  A log in memory: its box (events, floor, most), the row of its events, and what keeps it; events' cells. No condition.
-/
import Derived.Test.YtldhlilcfadieaaChecked
import Derived.Test.YtldhlilcfadieaaKit
import Derived.Test.YtldhlilcfadieaaLists
import Derived.Test.YtldhlilcfadieaaEgPure
import Derived.WalkKit
import Derived.ProofKit
import Derived.OwnWalk
import Derived.Lib.Hide
import Derived.Laws.Rows
import Derived.Laws.AppendOwn
import Derived.Maps.AppendAt
import Derived.Deep.MidRow
set_option linter.unusedVariables false
set_option linter.unusedSimpArgs false
namespace Go.Proofs.Ytldhlilcfadieaa
open Go.ChangeShapes Go.WideShapes Go.ChangeAt Go.RowKit Go.Lib
open Lists
namespace Eg

theorem lt_of_block {w : World} {g : Nat} {o : Obj} (h : w.heap[g]? = some o) : g < w.heap.size := by
  rcases Nat.lt_or_ge g w.heap.size with hl | hl
  · exact hl
  · rw [Array.getElem?_eq_none hl] at h; cases h
theorem owns_of {w w' : World} {base : Nat} {e : TypeId} {size n : Nat} {v : Value} {xs : List Value} (h : w.ownsRow base e size v n xs) (hk : ∀ r, v.ownBlock = some r → w'.heap[r]? = w.heap[r]?) : w'.ownsRow base e size v n xs := by
  refine ⟨h.1, ?_⟩
  rcases h.2 with h0 | ⟨g, cap, cur, rfl, h1, h2, h3⟩
  · exact .inl h0
  · exact .inr ⟨g, cap, cur, rfl, h1, (hk g rfl).trans h2, h3⟩
theorem owns_lt {w : World} {base : Nat} {e : TypeId} {size n : Nat} {v : Value} {xs : List Value} (h : w.ownsRow base e size v n xs) {r : Nat} (hr : v.ownBlock = some r) : base ≤ r ∧ r < w.heap.size := by
  rcases h.2 with ⟨rfl, _⟩ | ⟨g, cap, cur, rfl, h1, h2, h3⟩
  · cases hr
  · injection hr with hr; subst hr; exact ⟨h1, lt_of_block h2⟩
theorem own_form {w : World} {base : Nat} {t : TypeId} {size n : Nat} {v : Value} {xs : List Value} (h : w.ownsRow base t size v n xs) : ∃ A c, v = .slice A n c := by
  rcases h.2 with ⟨e1, e2⟩ | ⟨g, cap, cur, e1, _⟩
  · exact ⟨none, 0, by rw [e1, e2]⟩
  · exact ⟨_, _, e1⟩
theorem own_cap {w : World} {base : Nat} {t : TypeId} {size n : Nat} {A : Option Addr} {c : Nat} {xs : List Value} (h : w.ownsRow base t size (.slice A n c) n xs) : n ≤ c ∧ c ≤ maxLen := by
  rcases h.2 with ⟨e1, e2⟩ | ⟨g, cap, cur, e1, _, _, h1, h2, _⟩
  · injection e1 with e1 e3 e4; subst e4 e3; exact ⟨Nat.le_refl _, by unfold maxLen; omega⟩
  · injection e1 with e1 e3 e4; subst e4; exact ⟨h1, h2⟩
theorem own_addr {w : World} {base : Nat} {t : TypeId} {size n : Nat} {A : Option Addr} {c : Nat} {xs : List Value} (h : w.ownsRow base t size (.slice A n c) n xs) (hn : 0 < n) : ∃ r, A = some ⟨r, 0, none⟩ := by
  rcases h.2 with ⟨e1, e2⟩ | ⟨g, cap, cur, e1, _⟩
  · omega
  · injection e1 with e1 e3 e4; exact ⟨g, e1⟩
theorem box_cell {w : World} {g : Nat} {A : Array Value} {t : TypeId} (h : w.heap[g]? = some (.cells A t (0, 0))) (k : Nat) {v : Value} (hv : A[k]? = some v) : w.cell? ⟨g, k, none⟩ = some v := by
  simp [World.cell?, h, hv]
theorem box_free {w : World} {g : Nat} {A : Array Value} {t : TypeId} (h : w.heap[g]? = some (.cells A t (0, 0))) (k : Nat) : w.frozen? ⟨g, k, none⟩ = false := by
  simp [World.frozen?, h]
theorem box_set {w : World} {g : Nat} {A : Array Value} {t : TypeId} (h : w.heap[g]? = some (.cells A t (0, 0))) (k : Nat) (v : Value) {B : Array Value} (hB : A.setIfInBounds k v = B) : (w.setCell ⟨g, k, none⟩ v).heap[g]? = some (.cells B t (0, 0)) := by
  rw [← hB]; exact heap_setCell_same w g k _ _ v h
/-- the cells of a box from one on, for a load of a whole struct at once (Derived/Deep/MidRow) -/
theorem range_at {w : World} {b : Nat} {A : Array Value} {t : TypeId} (h : w.heap[b]? = some (.cells A t (0, 0))) (o : Nat) (cs : List Value) (hcs : (A.toList.drop o).take cs.length = cs) : w.rangeAt b o cs :=
  fun j v hv => box_cell h (o + j) (by
    have hj : j < cs.length := (List.getElem?_eq_some_iff.1 hv).1
    rw [← hcs, List.getElem?_take_of_lt hj, List.getElem?_drop] at hv
    simpa using hv)
theorem nums_move {w v : World} {P : Option Addr} {l : List Int} (h : Lists.Nums .i64 w P l) (hs : w.heap.size ≤ v.heap.size) (hb : ∀ a, P = some a → a.block < w.heap.size → v.heap[a.block]? = w.heap[a.block]?) : Lists.Nums .i64 v P l := by
  intro k z hk
  obtain ⟨h1, a, h2, h3, h4⟩ := h k z hk
  exact ⟨h1, a, h2, Nat.lt_of_lt_of_le h3 hs, (World.cell?_of_block (by rw [add_block]; exact hb a h2 h3)).trans h4⟩

/-- all that was there and that D says is as it was -/
structure Kp (D : Nat → Prop) (w w' : World) : Prop where
  os : w'.os = w.os
  tape : w'.tape = w.tape
  output : w'.output = w.output
  size : w.heap.size ≤ w'.heap.size
  block : ∀ k, k < w.heap.size → D k → w'.heap[k]? = w.heap[k]?
theorem Kp.refl (D : Nat → Prop) (w : World) : Kp D w w := ⟨rfl, rfl, rfl, Nat.le_refl _, fun _ _ _ => rfl⟩
theorem Kp.trans {D : Nat → Prop} {a b c : World} (h : Kp D a b) (k : Kp D b c) : Kp D a c :=
  ⟨k.os.trans h.os, k.tape.trans h.tape, k.output.trans h.output, Nat.le_trans h.size k.size, fun i hi hd => (k.block i (Nat.lt_of_lt_of_le hi h.size) hd).trans (h.block i hi hd)⟩
theorem Kp.of_below {D : Nat → Prop} {a b : World} (h : Below a.heap.size a b) : Kp D a b := ⟨h.os, h.tape, h.output, h.size, fun k hk _ => h.block k hk⟩
theorem Kp.below {D : Nat → Prop} {B : Nat} {a b : World} (h : Kp D a b) (hB : B ≤ a.heap.size) (hD : ∀ k, k < B → D k) : Below B a b := ⟨h.os, h.tape, h.output, h.size, fun k hk => h.block k (by omega) (hD k hk)⟩
theorem Kp.less {D D' : Nat → Prop} {a b : World} (h : Kp D a b) (hD : ∀ k, k < a.heap.size → D' k → D k) : Kp D' a b := ⟨h.os, h.tape, h.output, h.size, fun k hk hd => h.block k hk (hD k hk hd)⟩

structure Evt where
  kind : Int
  uid : Int
  rev : Nat
  RA : Option Addr
  rc : Nat
  zs : List Int
def Evt.vals (x : Evt) : List Value := [.int .i64 x.kind, .int .u64 x.rev, .int .i64 x.uid, .int .u64 0, .string ⟨#[]⟩, .slice none 0 0, .slice none 0 0, .slice none 0 0, .int .i64 0, .int .i64 0, .int .i64 0, .int .i64 0, .slice x.RA x.zs.length x.rc, .int .i64 0, .int .i64 0]
theorem vals_length (x : Evt) : x.vals.length = 15 := rfl
def flatE : List Evt → List Value
  | [] => []
  | x :: l => x.vals ++ flatE l
theorem flatE_length : ∀ l : List Evt, (flatE l).length = l.length * 15
  | [] => rfl
  | x :: l => by rw [flatE, List.length_append, flatE_length l, vals_length, List.length_cons]; omega
theorem flatE_cat : ∀ (a b : List Evt), flatE (a ++ b) = flatE a ++ flatE b
  | [], b => rfl
  | x :: a, b => by rw [List.cons_append, flatE, flatE, flatE_cat a b, List.append_assoc]
theorem flatE_drop : ∀ (l : List Evt) (k : Nat), (flatE l).drop (k * 15) = flatE (l.drop k)
  | l, 0 => by simp
  | [], k + 1 => by simp [flatE]
  | x :: l, k + 1 => by
    rw [flatE, List.drop_append, show (k + 1) * 15 - x.vals.length = k * 15 by rw [vals_length]; omega, List.drop_eq_nil_of_le (by rw [vals_length]; omega), List.nil_append, flatE_drop l k, List.drop_succ_cons]
theorem flatE_at {l : List Evt} {k : Nat} {x : Evt} (h : l[k]? = some x) {j : Nat} {v : Value} (hv : x.vals[j]? = some v) : (flatE l)[k * 15 + j]? = some v := by
  have hk := (List.getElem?_eq_some_iff.1 h).1
  have e := flatE_drop l k
  rw [List.drop_eq_getElem_cons hk, (List.getElem?_eq_some_iff.1 h).2, flatE] at e
  have hj : j < x.vals.length := (List.getElem?_eq_some_iff.1 hv).1
  rw [← List.getElem?_drop, e, List.getElem?_append_left hj]
  exact hv
theorem vals_one (x : Evt) : ∀ u ∈ x.vals, u.oneCell' = true := by
  intro u hu
  simp only [Evt.vals, List.mem_cons, List.not_mem_nil, or_false] at hu
  rcases hu with rfl | rfl | rfl | rfl | rfl | rfl | rfl | rfl | rfl | rfl | rfl | rfl | rfl | rfl | rfl <;> rfl
theorem flatE_one : ∀ (l : List Evt), ∀ u ∈ flatE l, u.oneCell' = true
  | [], u, hu => by simp [flatE] at hu
  | x :: l, u, hu => by
    rw [flatE, List.mem_append] at hu
    rcases hu with hu | hu
    · exact vals_one x u hu
    · exact flatE_one l u hu

/-- a log lies at block g: its events L, their row at A; D: blocks that are not the log's -/
structure LgAt (w : World) (g : Nat) (D : Nat → Prop) (L : List Evt) (A : Option Addr) (c fl mo : Nat) : Prop where
  box : w.heap[g]? = some (.cells #[.slice A L.length c, .int .u64 (fl : Nat), .int .i64 (mo : Nat)] 54 (0, 0))
  row : w.ownsRow 0 40 15 (.slice A L.length c) L.length (flatE L)
  dg : ¬ D g
  dr : ∀ r, (Value.slice A L.length c).ownBlock = some r → ¬ D r ∧ r ≠ g
  ev : ∀ x ∈ L, Nums .i64 w x.RA x.zs ∧ x.zs.length ≤ 1 ∧ ∀ a, x.RA = some a → a.block < w.heap.size ∧ ¬ D a.block ∧ a.block ≠ g ∧ some a.block ≠ (Value.slice A L.length c).ownBlock
/-- the same by its revisions -/
def Lg (w : World) (g : Nat) (D : Nat → Prop) (rs : List Nat) (fl mo : Nat) : Prop := ∃ L A c, L.map Evt.rev = rs ∧ LgAt w g D L A c fl mo
theorem LgAt.lt {w : World} {g : Nat} {D : Nat → Prop} {L : List Evt} {A : Option Addr} {c fl mo : Nat} (h : LgAt w g D L A c fl mo) : g < w.heap.size := lt_of_block h.box
theorem LgAt.move {w w' : World} {g : Nat} {D D' : Nat → Prop} {L : List Evt} {A : Option Addr} {c fl mo : Nat} (h : LgAt w g D L A c fl mo) (hs : w.heap.size ≤ w'.heap.size) (hb : ∀ b, b < w.heap.size → ¬ D b → w'.heap[b]? = w.heap[b]?) (hD : ∀ b, D' b → D b ∨ w.heap.size ≤ b) : LgAt w' g D' L A c fl mo := by
  have hno : ∀ b, b < w.heap.size → ¬ D b → ¬ D' b := fun b h1 h2 h3 => by rcases hD b h3 with h4 | h4; exact h2 h4; omega
  refine ⟨(hb g h.lt h.dg).trans h.box, owns_of h.row (fun r hr => hb r (owns_lt h.row hr).2 (h.dr r hr).1), hno g h.lt h.dg, fun r hr => ⟨hno r (owns_lt h.row hr).2 (h.dr r hr).1, (h.dr r hr).2⟩, fun x hx => ?_⟩
  obtain ⟨h1, h2, h3⟩ := h.ev x hx
  refine ⟨nums_move h1 hs (fun a ha hl => hb _ hl (h3 a ha).2.1), h2, fun a ha => ?_⟩
  obtain ⟨q0, q1, q2, q3⟩ := h3 a ha
  exact ⟨Nat.lt_of_lt_of_le q0 hs, hno _ q0 q1, q2, q3⟩
end Eg
end Go.Proofs.Ytldhlilcfadieaa
