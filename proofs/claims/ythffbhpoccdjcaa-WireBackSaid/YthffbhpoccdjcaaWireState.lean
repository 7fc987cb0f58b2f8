/-
  What a writer and a reader are in memory, what a call leaves of the rest, and the append of a text to a writer's row. No condition.
-/
import Derived.Test.YthffbhpoccdjcaaChecked
import Derived.Test.YthffbhpoccdjcaaKit
import Derived.Test.YthffbhpoccdjcaaLebTake
import Derived.WalkKit
import Derived.ProofKit
import Derived.Lib.Hide
import Derived.Lib.AppendStr
import Derived.Laws.Rows
import Derived.Laws.BytesArg
namespace Go.Proofs.Ythffbhpoccdjcaa
open Go.ChangeShapes Go.WideShapes Go.ChangeAt Go.RowKit Go.Lib
namespace Wire

/-- the blocks of D are as they were -/
structure Kept (D : Nat → Prop) (w w' : World) : Prop where
  os : w'.os = w.os
  tape : w'.tape = w.tape
  output : w'.output = w.output
  size : w.heap.size ≤ w'.heap.size
  block : ∀ k, D k → w'.heap[k]? = w.heap[k]?

theorem Kept.refl (D : Nat → Prop) (w : World) : Kept D w w := ⟨rfl, rfl, rfl, Nat.le_refl _, fun _ _ => rfl⟩
theorem Kept.trans {D : Nat → Prop} {a b c : World} (h : Kept D a b) (k : Kept D b c) : Kept D a c :=
  ⟨k.os.trans h.os, k.tape.trans h.tape, k.output.trans h.output, Nat.le_trans h.size k.size, fun i hi => (k.block i hi).trans (h.block i hi)⟩
theorem Kept.mono {D D' : Nat → Prop} {w w' : World} (h : Kept D w w') (hD : ∀ k, D' k → D k) : Kept D' w w' := ⟨h.os, h.tape, h.output, h.size, fun k hk => h.block k (hD k hk)⟩
theorem Kept.of_below {D : Nat → Prop} {B : Nat} {w w' : World} (h : Below B w w') (hD : ∀ k, D k → k < B) : Kept D w w' := ⟨h.os, h.tape, h.output, h.size, fun k hk => h.block k (hD k hk)⟩
theorem Kept.below {D : Nat → Prop} {B : Nat} {w w' : World} (h : Kept D w w') (hD : ∀ k, k < B → D k) : Below B w w' := ⟨h.os, h.tape, h.output, h.size, fun k hk => h.block k (hD k hk)⟩
theorem Kept.setCell {D : Nat → Prop} {a w : World} (h : Kept D a w) {p : Addr} (hp : ¬ D p.block) (u : Value) : Kept D a (w.setCell p u) :=
  h.trans ⟨rfl, rfl, rfl, by simp [World.setCell], fun k hk => Below.heap_setCell _ _ _ _ (fun e => hp (e ▸ hk))⟩
theorem Kept.cell {D : Nat → Prop} {w w' : World} (h : Kept D w w') {p : Addr} (hp : D p.block) : w'.cell? p = w.cell? p := World.cell?_of_block (w := w) (h.block p.block hp)
theorem Kept.frozen {D : Nat → Prop} {w w' : World} (h : Kept D w w') {p : Addr} (hp : D p.block) : w'.frozen? p = w.frozen? p := World.frozen?_of_block (w := w) (h.block p.block hp)

/-- a byte in memory -/
def cell8 (b : UInt8) : Value := .int .u8 (b.toNat : Int)

/-- a writer lies at block g: its error is c, its bytes are xs; none of its memory lies in D -/
def Wr (w : World) (g : Nat) (D : Nat → Prop) (c : Int) (xs : List UInt8) : Prop :=
  (∀ k, D k → k < w.heap.size ∧ k ≠ g) ∧ ∃ A cap, w.heap[g]? = some (.cells #[.int .i64 c, .slice A xs.length cap] 41 (0, 0)) ∧
    w.ownsRow (g + 1) 5 1 (.slice A xs.length cap) xs.length (xs.map cell8) ∧ ∀ r, (Value.slice A xs.length cap).ownBlock = some r → ¬ D r

/-- a reader lies at block g: its error is c, and the bytes l are left -/
def Rd (w : World) (g : Nat) (c : Int) (l : List UInt8) : Prop := w.heap[g]? = some (.cells #[.int .i64 c, .string ⟨l.toArray⟩] 56 (0, 0))

theorem lt_of_block {w : World} {g : Nat} {o : Obj} (h : w.heap[g]? = some o) : g < w.heap.size := by
  rcases Nat.lt_or_ge g w.heap.size with hl | hl
  · exact hl
  · rw [Array.getElem?_eq_none hl] at h; cases h

theorem Rd.lt {w : World} {g : Nat} {c : Int} {l : List UInt8} (h : Rd w g c l) : g < w.heap.size := lt_of_block h
theorem Wr.lt {w : World} {g : Nat} {D : Nat → Prop} {c : Int} {xs : List UInt8} (h : Wr w g D c xs) : g < w.heap.size := by
  obtain ⟨_, A, cap, h1, _⟩ := h; exact lt_of_block h1
theorem Wr.not {w : World} {g : Nat} {D : Nat → Prop} {c : Int} {xs : List UInt8} (h : Wr w g D c xs) : ¬ D g := fun hd => (h.1 g hd).2 rfl

theorem two_cells {w : World} {g : Nat} {u v : Value} {t : TypeId} (h : w.heap[g]? = some (.cells #[u, v] t (0, 0))) :
    w.cell? ⟨g, 0, none⟩ = some u ∧ w.cell? ⟨g, 1, none⟩ = some v ∧ w.frozen? ⟨g, 0, none⟩ = false ∧ w.frozen? ⟨g, 1, none⟩ = false :=
  ⟨by simp [World.cell?, h], by simp [World.cell?, h], by simp [World.frozen?, h], by simp [World.frozen?, h]⟩

theorem two_set0 {w : World} {g : Nat} {u v : Value} {t : TypeId} (h : w.heap[g]? = some (.cells #[u, v] t (0, 0))) (x : Value) : (w.setCell ⟨g, 0, none⟩ x).heap[g]? = some (.cells #[x, v] t (0, 0)) := by
  simpa using heap_setCell_same w g 0 _ _ x h
theorem two_set1 {w : World} {g : Nat} {u v : Value} {t : TypeId} (h : w.heap[g]? = some (.cells #[u, v] t (0, 0))) (x : Value) : (w.setCell ⟨g, 1, none⟩ x).heap[g]? = some (.cells #[u, x] t (0, 0)) := by
  simpa using heap_setCell_same w g 1 _ _ x h

/-- the row of a writer is as it was while other blocks are written -/
theorem owns_of {w w' : World} {base : Nat} {e : TypeId} {size n : Nat} {v : Value} {xs : List Value} (h : w.ownsRow base e size v n xs) (hk : ∀ r, v.ownBlock = some r → w'.heap[r]? = w.heap[r]?) : w'.ownsRow base e size v n xs := by
  refine ⟨h.1, ?_⟩
  rcases h.2 with h0 | ⟨g, cap, cur, rfl, h1, h2, h3⟩
  · exact .inl h0
  · exact .inr ⟨g, cap, cur, rfl, h1, (hk g rfl).trans h2, h3⟩
theorem owns_lt {w : World} {base : Nat} {e : TypeId} {size n : Nat} {v : Value} {xs : List Value} (h : w.ownsRow base e size v n xs) {r : Nat} (hr : v.ownBlock = some r) : base ≤ r ∧ r < w.heap.size := by
  rcases h.2 with ⟨rfl, _⟩ | ⟨g, cap, cur, rfl, h1, h2, h3⟩
  · cases hr
  · injection hr with hr; subst hr; exact ⟨h1, lt_of_block h2⟩

/-- what leaves a writer's blocks as they were leaves the writer -/
theorem Wr.keep {w w' : World} {g : Nat} {D E : Nat → Prop} {c : Int} {xs : List UInt8} (h : Wr w g D c xs) (hk : Kept E w w') (hg : E g) (hE : ∀ k, k < w.heap.size → g < k → ¬ D k → E k) : Wr w' g D c xs := by
  obtain ⟨hD, A, cap, h1, h2, h3⟩ := h
  refine ⟨fun k hd => ⟨Nat.lt_of_lt_of_le (hD k hd).1 hk.size, (hD k hd).2⟩, A, cap, (hk.block g hg).trans h1, owns_of h2 (fun r hr => hk.block r ?_), h3⟩
  have := owns_lt h2 hr
  exact hE r this.2 (by omega) (h3 r hr)
theorem Wr.below {w w' : World} {g : Nat} {D : Nat → Prop} {c : Int} {xs : List UInt8} (h : Wr w g D c xs) (hb : Below w.heap.size w w') : Wr w' g D c xs :=
  h.keep (E := (· < w.heap.size)) (Kept.of_below hb (fun _ h => h)) h.lt (fun _ h _ _ => h)
/-- fewer blocks are asked for -/
theorem Wr.less {w : World} {g : Nat} {D D' : Nat → Prop} {c : Int} {xs : List UInt8} (h : Wr w g D c xs) (hD : ∀ k, D' k → D k) : Wr w g D' c xs := by
  obtain ⟨h0, A, cap, h1, h2, h3⟩ := h
  exact ⟨fun k hk => h0 k (hD k hk), A, cap, h1, h2, fun r hr hd => h3 r hr (hD r hd)⟩
/-- a new block is none of the writer's -/
theorem Wr.alloc {w : World} {g : Nat} {D : Nat → Prop} {c : Int} {xs : List UInt8} (h : Wr w g D c xs) (o : Obj) : Wr (w.alloc o) g (fun k => D k ∨ k = w.heap.size) c xs := by
  have hl := h.lt
  have h' := h.below ((Below.refl w.heap.size w).alloc (Nat.le_refl _) o)
  obtain ⟨h0, A, cap, h1, h2, h3⟩ := h'
  refine ⟨fun k hk => ?_, A, cap, h1, h2, fun r hr hd => ?_⟩
  · rcases hk with hk | rfl
    · exact h0 k hk
    · exact ⟨by simp, by omega⟩
  · rcases hd with hd | rfl
    · exact h3 r hr hd
    · obtain ⟨_, B, cap', i1, i2, i3⟩ := h
      rw [Below.heap_alloc w o g hl, i1] at h1
      injection h1 with h1
      injection h1 with h1
      simp at h1
      obtain ⟨rfl, rfl⟩ := h1
      have := owns_lt i2 hr
      omega
theorem Rd.keep {w w' : World} {g : Nat} {D : Nat → Prop} {c : Int} {l : List UInt8} (h : Rd w g c l) (hk : Kept D w w') (hg : D g) : Rd w' g c l := (hk.block g hg).trans h
theorem Rd.below {w w' : World} {g : Nat} {c : Int} {l : List UInt8} (h : Rd w g c l) (hb : Below w.heap.size w w') : Rd w' g c l := (hb.block g h.lt).trans h

/-- THE APPEND OF A TEXT: the row is the old one, or a new one -/
theorem run_append_str {P : Program} {w : World} (base : Nat) (t u ty e : TypeId) (i : TypeInfo) (ht : P.underlying t = some (.slice e)) (hu : P.underlying u = some .string) (hi : P.info? e = some i) (hz : i.zero = some (.int .u8 0))
    (hsize : i.size = 1) (hby : i.bytes = 1) (v : Value) (n : Nat) (xs : List Value) (hown : w.ownsRow base e 1 v n xs) (s : ByteArray)
    (hbytes : n + s.size ≤ 140737488355328) (hbase : base ≤ w.heap.size) :
    ∃ A cap w', (Builtin.append_ #[t, u] ty #[v, .string s]).run P w = .ok (.slice A (n + s.size) cap) w' ∧ w'.ownsRow base e 1 (.slice A (n + s.size) cap) (n + s.size) (xs ++ strCells s) ∧ w.grownBy w' v.ownBlock ∧
      ((Value.slice A (n + s.size) cap).ownBlock = v.ownBlock ∨ (Value.slice A (n + s.size) cap).ownBlock = some w.heap.size) := by
  have h63 : n + s.size ≤ maxLen := by unfold maxLen; omega
  obtain ⟨v', w', hr, h2, h3, h4⟩ := run_append_own_string (P := P) w base t u ty e i ht hu hi hz hsize hby v n xs hown s h63 hbytes hbase
  have hform : ∃ A cap, v' = .slice A (n + s.size) cap := by
    rcases h2.2 with ⟨rfl, e0⟩ | ⟨g', cap', cur', rfl, _⟩
    · exact ⟨none, 0, by rw [e0]⟩
    · exact ⟨_, _, rfl⟩
  obtain ⟨A, cap, rfl⟩ := hform
  refine ⟨A, cap, w', hr, h2, h3, ?_⟩
  rcases hown.2 with ⟨rfl, rfl⟩ | ⟨g, cap0, cur, rfl, hbg, hg, hnc, hcm, hcs, htake⟩
  · by_cases hm : s.size = 0
    · left
      rw [(h4.2 ⟨rfl, hm⟩)]
    · right
      have hr' := run_append_nil_string (P := P) w t u ty e i (.int .u8 0) ht hu hi hz s (by omega) (by omega) (by rw [hby]; omega)
      rw [hr'] at hr
      injection hr with e1 _
      rw [← e1]
      rfl
  · by_cases hroom : n + s.size ≤ cap0
    · left
      have hcs' : cur.size = cap0 := by simpa using hcs
      have hr' := run_append_room_string (P := P) w t u ty e i ht hu hi hsize g n cap0 cur hg s hroom (by omega)
      have hr'' := hr'.symm.trans ((congrArg (fun z => (Builtin.append_ #[t, u] z #[.slice (some ⟨g, 0, none⟩) n cap0, .string s]).run P w) rfl).trans hr)
      injection hr'' with e1 _
      rw [← e1]
      rfl
    · right
      have holds : ∀ j u, xs[j]? = some u → w.cell? ((⟨g, 0, none⟩ : Addr).add j) = some u := hown.cells (g := g) rfl
      have hxl : xs.length = n := by simpa using hown.1
      have hr' := run_append_grow_string (P := P) w t u ty e i (.int .u8 0) ht hu hi hz ⟨g, 0, none⟩ n cap0 xs (by rw [hsize]; simpa using hxl) holds s (by omega) (by omega) (by rw [hby]; exact growslice_fits (by omega) (by omega))
      have hr'' := hr'.symm.trans hr
      injection hr'' with e1 _
      rw [← e1]
      rfl

/-- the same, for the walk -/
theorem wpList_append_str {P : Program} {w : World} {ops : Array Oper} {rest : List Oper} {o : Oper} {a : Act} {Q : Exit → Act → World → Prop} (hgd : o.guard = none) (sl x : Operand) (t u : TypeId)
    (ho : o.op = .call { callee := .builtin .append, args := #[sl, x], argTypes := #[t, u] })
    (base : Nat) (e : TypeId) (i : TypeInfo) (ht : P.underlying t = some (.slice e)) (hu : P.underlying u = some .string) (hi : P.info? e = some i) (hz : i.zero = some (.int .u8 0))
    (hsize : i.size = 1) (hby : i.bytes = 1)
    (v : Value) (n : Nat) (xs : List Value) (hs : a.eval sl = v) (hown : w.ownsRow base e 1 v n xs) (s : ByteArray) (hx : a.eval x = .string s)
    (hbytes : n + s.size ≤ 140737488355328) (hbase : base ≤ w.heap.size)
    (h : ∀ A cap w', w'.ownsRow base e 1 (.slice A (n + s.size) cap) (n + s.size) (xs ++ strCells s) → w.grownBy w' v.ownBlock → ((Value.slice A (n + s.size) cap).ownBlock = v.ownBlock ∨ (Value.slice A (n + s.size) cap).ownBlock = some w.heap.size) →
      wpList P ops Q rest (a.put o.dst (.slice A (n + s.size) cap)) w') : wpList P ops Q (o :: rest) a w := by
  refine wpList_plain hgd fun K hK => ?_
  obtain ⟨A, cap, w', hr, h2, h3, h4⟩ := run_append_str (P := P) base t u o.type e i ht hu hi hz hsize hby v n xs hown s hbytes hbase
  unfold Oper.wp execOp
  simp only [ho, resolve, invoke, builtin, Sem.run_bind, Sem.run_pure, Result.andThen_ok, List.map_toArray, List.map_cons, List.map_nil, hs, hx, hr]
  exact hK _ _ (h A cap w' h2 h3 h4)
end Wire
end Go.Proofs.Ythffbhpoccdjcaa
