/-
  What a splitter is in memory, what a call leaves of the rest, rows that are written in place, and the append of a text to a splitter's row. No condition.
-/
import Derived.Test.YtnbmfoidnnfpeaaChecked
import Derived.Test.YtnbmfoidnnfpeaaKit
import Derived.WalkKit
import Derived.ProofKit
import Derived.Lib.Hide
import Derived.Lib.AppendStr
import Derived.Laws.Rows
import Derived.Laws.BytesArg
import Derived.Laws.IdiomCopy
namespace Go.Proofs.Ytnbmfoidnnfpeaa
open Go.ChangeShapes Go.WideShapes Go.ChangeAt Go.RowKit Go.Lib
namespace Spl

theorem lt_of_block {w : World} {g : Nat} {o : Obj} (h : w.heap[g]? = some o) : g < w.heap.size := by
  rcases Nat.lt_or_ge g w.heap.size with hl | hl
  · exact hl
  · rw [Array.getElem?_eq_none hl] at h; cases h

/-- all that was there is as it was, but block g and the block r, if any -/
structure Turned (g : Nat) (r : Option Nat) (w w' : World) : Prop where
  os : w'.os = w.os
  tape : w'.tape = w.tape
  output : w'.output = w.output
  size : w.heap.size ≤ w'.heap.size
  block : ∀ k, k < w.heap.size → k ≠ g → some k ≠ r → w'.heap[k]? = w.heap[k]?

theorem Turned.refl (g : Nat) (r : Option Nat) (w : World) : Turned g r w w := ⟨rfl, rfl, rfl, Nat.le_refl _, fun _ _ _ _ => rfl⟩
theorem Turned.drew {g : Nat} {r : Option Nat} {a w : World} (h : Turned g r a w) : Turned g r a w.drew := ⟨h.os, h.tape, h.output, h.size, h.block⟩
theorem Turned.trans {g : Nat} {r r' : Option Nat} {a b c : World} (h : Turned g r a b) (k : Turned g r' b c) (hr : r' = r ∨ r' = none ∨ ∃ q, r' = some q ∧ a.heap.size ≤ q) : Turned g r a c := by
  refine ⟨k.os.trans h.os, k.tape.trans h.tape, k.output.trans h.output, Nat.le_trans h.size k.size, fun i hi hg hn => ?_⟩
  refine (k.block i (Nat.lt_of_lt_of_le hi h.size) hg ?_).trans (h.block i hi hg hn)
  rcases hr with rfl | rfl | ⟨q, rfl, hq⟩
  · exact hn
  · exact fun e => by cases e
  · intro e; injection e with e; omega
theorem Turned.some_of_none {g : Nat} {r : Option Nat} {a b : World} (h : Turned g none a b) : Turned g r a b := ⟨h.os, h.tape, h.output, h.size, fun k hk hg _ => h.block k hk hg (fun e => by cases e)⟩
theorem Turned.below {g B : Nat} {r : Option Nat} {a b : World} (h : Turned g r a b) (hB : B ≤ a.heap.size) (hg : B ≤ g) (hr : ∀ q, r = some q → B ≤ q) : Below B a b :=
  ⟨h.os, h.tape, h.output, h.size, fun k hk => h.block k (by omega) (by omega) (fun e => by have := hr k e.symm; omega)⟩
theorem Turned.of_below {g : Nat} {r : Option Nat} {a b : World} (h : Below a.heap.size a b) : Turned g r a b := ⟨h.os, h.tape, h.output, h.size, fun k hk _ _ => h.block k hk⟩
theorem Turned.setCell {g : Nat} {r : Option Nat} {a w : World} (h : Turned g r a w) {p : Addr} (hp : p.block = g ∨ some p.block = r) (u : Value) : Turned g r a (w.setCell p u) :=
  h.trans ⟨rfl, rfl, rfl, by simp [World.setCell], fun k _ hg hn => Below.heap_setCell _ _ _ _ (fun e => by
    rcases hp with h1 | h1
    · exact hg (e.trans h1)
    · exact hn (by rw [← h1, e]))⟩ (.inl rfl)

/-- a byte in memory -/
def cell8 (b : UInt8) : Value := .int .u8 (b.toNat : Int)
theorem strCells_cell8 (s : ByteArray) : strCells s = s.data.toList.map cell8 := rfl

/-- a splitter lies at block g: is it closed; its bytes; the block of its bytes, if any -/
def Sp (w : World) (g : Nat) (r : Option Nat) (cl : Bool) (xs : List UInt8) : Prop :=
  xs.length ≤ 8192 ∧ (cl = true → xs = []) ∧ ∃ A cap, w.heap[g]? = some (.cells #[.slice A xs.length cap, .bool cl] 44 (0, 0)) ∧
    w.ownsRow (g + 1) 5 1 (.slice A xs.length cap) xs.length (xs.map cell8) ∧ (Value.slice A xs.length cap).ownBlock = r

theorem owns_of {w w' : World} {base : Nat} {e : TypeId} {size n : Nat} {v : Value} {xs : List Value} (h : w.ownsRow base e size v n xs) (hk : ∀ r, v.ownBlock = some r → w'.heap[r]? = w.heap[r]?) : w'.ownsRow base e size v n xs := by
  refine ⟨h.1, ?_⟩
  rcases h.2 with h0 | ⟨g, cap, cur, rfl, h1, h2, h3⟩
  · exact .inl h0
  · exact .inr ⟨g, cap, cur, rfl, h1, (hk g rfl).trans h2, h3⟩
theorem owns_lt {w : World} {base : Nat} {e : TypeId} {size n : Nat} {v : Value} {xs : List Value} (h : w.ownsRow base e size v n xs) {r : Nat} (hr : v.ownBlock = some r) : base ≤ r ∧ r < w.heap.size := by
  rcases h.2 with ⟨rfl, _⟩ | ⟨g, cap, cur, rfl, h1, h2, h3⟩
  · cases hr
  · injection hr with hr; subst hr; exact ⟨h1, lt_of_block h2⟩

theorem Sp.lt {w : World} {g : Nat} {r : Option Nat} {cl : Bool} {xs : List UInt8} (h : Sp w g r cl xs) : g < w.heap.size := by
  obtain ⟨_, _, A, cap, h1, _⟩ := h; exact lt_of_block h1
theorem Sp.row {w : World} {g : Nat} {r : Option Nat} {cl : Bool} {xs : List UInt8} (h : Sp w g r cl xs) {q : Nat} (hq : r = some q) : g + 1 ≤ q ∧ q < w.heap.size := by
  obtain ⟨_, _, A, cap, _, h2, h3⟩ := h
  exact owns_lt h2 (h3.trans hq)
theorem Sp.len {w : World} {g : Nat} {r : Option Nat} {cl : Bool} {xs : List UInt8} (h : Sp w g r cl xs) : xs.length ≤ 8192 := h.1
/-- what leaves a splitter's blocks as they were leaves the splitter -/
theorem Sp.keep {w w' : World} {g : Nat} {r : Option Nat} {cl : Bool} {xs : List UInt8} (h : Sp w g r cl xs) (hg : w'.heap[g]? = w.heap[g]?) (hr : ∀ q, r = some q → w'.heap[q]? = w.heap[q]?) : Sp w' g r cl xs := by
  obtain ⟨h0, h4, A, cap, h1, h2, h3⟩ := h
  exact ⟨h0, h4, A, cap, hg.trans h1, owns_of h2 (fun q hq => hr q (h3.symm.trans hq)), h3⟩
theorem Sp.below {w w' : World} {g : Nat} {r : Option Nat} {cl : Bool} {xs : List UInt8} (h : Sp w g r cl xs) (hb : Below w.heap.size w w') : Sp w' g r cl xs :=
  h.keep (hb.block g h.lt) (fun q hq => hb.block q (h.row hq).2)

theorem two_cells {w : World} {g : Nat} {u v : Value} {t : TypeId} (h : w.heap[g]? = some (.cells #[u, v] t (0, 0))) :
    w.cell? ⟨g, 0, none⟩ = some u ∧ w.cell? ⟨g, 1, none⟩ = some v ∧ w.frozen? ⟨g, 0, none⟩ = false ∧ w.frozen? ⟨g, 1, none⟩ = false :=
  ⟨by simp [World.cell?, h], by simp [World.cell?, h], by simp [World.frozen?, h], by simp [World.frozen?, h]⟩
theorem two_set0 {w : World} {g : Nat} {u v : Value} {t : TypeId} (h : w.heap[g]? = some (.cells #[u, v] t (0, 0))) (x : Value) : (w.setCell ⟨g, 0, none⟩ x).heap[g]? = some (.cells #[x, v] t (0, 0)) := by
  simpa using heap_setCell_same w g 0 _ _ x h
theorem two_set1 {w : World} {g : Nat} {u v : Value} {t : TypeId} (h : w.heap[g]? = some (.cells #[u, v] t (0, 0))) (x : Value) : (w.setCell ⟨g, 1, none⟩ x).heap[g]? = some (.cells #[u, x] t (0, 0)) := by
  simpa using heap_setCell_same w g 1 _ _ x h

/-- A ROW THAT IS WRITTEN IN PLACE -/
theorem set_row (g : Nat) (t : TypeId) : ∀ (vs : List Value) (o : Nat) (w : World) (cur : Array Value), w.heap[g]? = some (.cells cur t (0, 0)) → o + vs.length ≤ cur.size →
    (∃ cur', (w.setCells g o vs).heap[g]? = some (.cells cur' t (0, 0)) ∧ cur'.size = cur.size ∧ ∀ i, cur'[i]? = if o ≤ i ∧ i < o + vs.length then vs[i - o]? else cur[i]?) ∧ Turned g none w (w.setCells g o vs)
  | [], o, w, cur, h, _ => ⟨⟨cur, h, rfl, fun i => by rw [if_neg (by simp only [List.length_nil]; omega)]⟩, Turned.refl _ _ _⟩
  | v :: vs, o, w, cur, h, hl => by
    have h1 := heap_setCell_same w g o cur t v h
    simp only [List.length_cons] at hl
    obtain ⟨⟨cur', h2, h3, h4⟩, h5⟩ := set_row g t vs (o + 1) (w.setCell ⟨g, o, none⟩ v) _ h1 (by simp; omega)
    refine ⟨⟨cur', h2, by simpa using h3, fun i => ?_⟩, ((Turned.refl g none w).setCell (p := ⟨g, o, none⟩) (.inl rfl) v).trans h5 (.inl rfl)⟩
    rw [h4 i, Array.getElem?_setIfInBounds]
    simp only [List.length_cons]
    by_cases c1 : o = i
    · subst c1
      rw [if_neg (by omega), if_pos rfl, if_pos (by omega), if_pos (by omega), Nat.sub_self]
      rfl
    · by_cases c2 : o + 1 ≤ i ∧ i < o + 1 + vs.length
      · rw [if_pos c2, if_pos (by omega), show i - o = (i - (o + 1)) + 1 by omega]
        rfl
      · rw [if_neg c2, if_neg c1, if_neg (by omega)]

/-- THE APPEND OF A TEXT: the row is the old one, or a new one -/
theorem run_append_str {P : Program} {w : World} (base : Nat) (t u ty e : TypeId) (i : TypeInfo) (ht : P.underlying t = some (.slice e)) (hu : P.underlying u = some .string) (hi : P.info? e = some i) (hz : i.zero = some (.int .u8 0))
    (hsize : i.size = 1) (hby : i.bytes = 1) (v : Value) (n : Nat) (xs : List Value) (hown : w.ownsRow base e 1 v n xs) (s : ByteArray)
    (hbytes : n + s.size ≤ 140737488355328) (hbase : base ≤ w.heap.size) :
    ∃ A cap w', (Builtin.append_ #[t, u] ty #[v, .string s]).run P w = .ok (.slice A (n + s.size) cap) w' ∧ w'.ownsRow base e 1 (.slice A (n + s.size) cap) (n + s.size) (xs ++ strCells s) ∧ w.grownBy w' v.ownBlock ∧
      ((Value.slice A (n + s.size) cap).ownBlock = v.ownBlock ∨ (Value.slice A (n + s.size) cap).ownBlock = some w.heap.size) := by
  have h63 : n + s.size ≤ maxLen := by unfold maxLen; omega
  obtain ⟨v', w', hr, h2, h3, h4⟩ := run_append_own_string (P := P) w base t u ty e i ht hu hi hz hsize hby v n xs hown s h63 hbytes hbase
  have hform : ∃ A cap, v' = .slice A (n + s.size) cap := by
    rcases h2.2 with ⟨rfl, e0⟩ | ⟨g', cap', cur', rfl, _⟩
    · exact ⟨none, 0, by rw [e0]⟩
    · exact ⟨_, _, rfl⟩
  obtain ⟨A, cap, rfl⟩ := hform
  refine ⟨A, cap, w', hr, h2, h3, ?_⟩
  rcases hown.2 with ⟨rfl, rfl⟩ | ⟨g, cap0, cur, rfl, hbg, hg, hnc, hcm, hcs, htake⟩
  · by_cases hm : s.size = 0
    · left
      rw [(h4.2 ⟨rfl, hm⟩)]
    · right
      have hr' := run_append_nil_string (P := P) w t u ty e i (.int .u8 0) ht hu hi hz s (by omega) (by omega) (by rw [hby]; omega)
      rw [hr'] at hr
      injection hr with e1 _
      rw [← e1]
      rfl
  · by_cases hroom : n + s.size ≤ cap0
    · left
      have hcs' : cur.size = cap0 := by simpa using hcs
      have hr' := run_append_room_string (P := P) w t u ty e i ht hu hi hsize g n cap0 cur hg s hroom (by omega)
      have hr'' := hr'.symm.trans ((congrArg (fun z => (Builtin.append_ #[t, u] z #[.slice (some ⟨g, 0, none⟩) n cap0, .string s]).run P w) rfl).trans hr)
      injection hr'' with e1 _
      rw [← e1]
      rfl
    · right
      have holds : ∀ j u, xs[j]? = some u → w.cell? ((⟨g, 0, none⟩ : Addr).add j) = some u := hown.cells (g := g) rfl
      have hxl : xs.length = n := by simpa using hown.1
      have hr' := run_append_grow_string (P := P) w t u ty e i (.int .u8 0) ht hu hi hz ⟨g, 0, none⟩ n cap0 xs (by rw [hsize]; simpa using hxl) holds s (by omega) (by omega) (by rw [hby]; exact growslice_fits (by omega) (by omega))
      have hr'' := hr'.symm.trans hr
      injection hr'' with e1 _
      rw [← e1]
      rfl

/-- the same, for the walk -/
theorem wpList_append_str {P : Program} {w : World} {ops : Array Oper} {rest : List Oper} {o : Oper} {a : Act} {Q : Exit → Act → World → Prop} (hgd : o.guard = none) (sl x : Operand) (t u : TypeId)
    (ho : o.op = .call { callee := .builtin .append, args := #[sl, x], argTypes := #[t, u] })
    (base : Nat) (e : TypeId) (i : TypeInfo) (ht : P.underlying t = some (.slice e)) (hu : P.underlying u = some .string) (hi : P.info? e = some i) (hz : i.zero = some (.int .u8 0))
    (hsize : i.size = 1) (hby : i.bytes = 1)
    (v : Value) (n : Nat) (xs : List Value) (hs : a.eval sl = v) (hown : w.ownsRow base e 1 v n xs) (s : ByteArray) (hx : a.eval x = .string s)
    (hbytes : n + s.size ≤ 140737488355328) (hbase : base ≤ w.heap.size)
    (h : ∀ A cap w', w'.ownsRow base e 1 (.slice A (n + s.size) cap) (n + s.size) (xs ++ strCells s) → w.grownBy w' v.ownBlock → ((Value.slice A (n + s.size) cap).ownBlock = v.ownBlock ∨ (Value.slice A (n + s.size) cap).ownBlock = some w.heap.size) →
      wpList P ops Q rest (a.put o.dst (.slice A (n + s.size) cap)) w') : wpList P ops Q (o :: rest) a w := by
  refine wpList_plain hgd fun K hK => ?_
  obtain ⟨A, cap, w', hr, h2, h3, h4⟩ := run_append_str (P := P) base t u o.type e i ht hu hi hz hsize hby v n xs hown s hbytes hbase
  unfold Oper.wp execOp
  simp only [ho, resolve, invoke, builtin, Sem.run_bind, Sem.run_pure, Result.andThen_ok, List.map_toArray, List.map_cons, List.map_nil, hs, hx, hr]
  exact hK _ _ (h A cap w' h2 h3 h4)
end Spl
end Go.Proofs.Ytnbmfoidnnfpeaa
