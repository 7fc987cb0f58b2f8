/-
 A call of the document's readers under way: its reader's box, its results' boxes, the value that it fills; whole structs loaded and stored. No condition.
-/
import Derived.Test.YtljbpelogjmciaaGreatDoorTellB
import Derived.Test.YtljbpelogjmciaaGreatDoorPackRefRead
set_option linter.unusedVariables false
set_option linter.unusedSimpArgs false
namespace Go.Proofs.YtljbpelogjmciaaGreatDoor
open Go.ChangeShapes Go.WideShapes Go.ChangeAt Go.RowKit Go.Lib
open LebMath WirePure Sd Wire SpecOwn SpecRef Book Pk
namespace Tl
theorem two_boxes (w : World) (o1 o2 : Obj) (w0 : World) (h : ((w.alloc o1).alloc o2) = w0) :
 Below w.heap.size w w0 ∧ w0.heap[w.heap.size]? = some o1 ∧ w0.heap[w.heap.size + 1]? = some o2 := by
 subst h
 have a1 := heap_alloc_new w o1
 have a2 := heap_alloc_new (w.alloc o1) o2
 have s1 : (w.alloc o1).heap.size = w.heap.size + 1 := by simp
 have k2 := ((Below.refl (w.heap.size + 1) (w.alloc o1)).alloc (by omega) o2).block
 rw [s1] at a2
 exact ⟨((Below.refl _ _).alloc (Nat.le_refl _) _).alloc (by omega) _, (k2 _ (by omega)).trans a1, a2⟩
theorem four_boxes (w : World) (o1 o2 o3 o4 : Obj) (w0 : World) (h : (((w.alloc o1).alloc o2).alloc o3).alloc o4 = w0) :
 Below w.heap.size w w0 ∧ w0.heap[w.heap.size]? = some o1 ∧ w0.heap[w.heap.size + 1]? = some o2 ∧ w0.heap[w.heap.size + 1 + 1]? = some o3 ∧ w0.heap[w.heap.size + 1 + 1 + 1]? = some o4 := by
 subst h
 have a1 := heap_alloc_new w o1
 have a2 := heap_alloc_new (w.alloc o1) o2
 have a3 := heap_alloc_new ((w.alloc o1).alloc o2) o3
 have a4 := heap_alloc_new (((w.alloc o1).alloc o2).alloc o3) o4
 have s1 : (w.alloc o1).heap.size = w.heap.size + 1 := by simp
 have s2 : ((w.alloc o1).alloc o2).heap.size = w.heap.size + 2 := by simp
 have s3 : (((w.alloc o1).alloc o2).alloc o3).heap.size = w.heap.size + 3 := by simp
 have k2 := ((Below.refl (w.heap.size + 1) (w.alloc o1)).alloc (by omega) o2).block
 have k3 := ((Below.refl (w.heap.size + 2) ((w.alloc o1).alloc o2)).alloc (by omega) o3).block
 have k4 := ((Below.refl (w.heap.size + 3) (((w.alloc o1).alloc o2).alloc o3)).alloc (by omega) o4).block
 rw [s1] at a2
 rw [s2] at a3
 rw [s3] at a4
 refine ⟨((((Below.refl _ _).alloc (Nat.le_refl _) _).alloc (by omega) _).alloc (by omega) _).alloc (by omega) _, ?_, ?_, ?_, a4⟩
 · exact (k4 _ (by omega)).trans ((k3 _ (by omega)).trans ((k2 _ (by omega)).trans a1))
 · exact (k4 _ (by omega)).trans ((k3 _ (by omega)).trans a2)
 · exact (k4 _ (by omega)).trans a3
structure Off (b x : Nat) (w v : World) : Prop where
 os : v.os = w.os
 tape : v.tape = w.tape
 output : v.output = w.output
 size : w.heap.size ≤ v.heap.size
 block : ∀ i, i < w.heap.size → i ≠ b → i ≠ x → v.heap[i]? = w.heap[i]?
theorem Off.refl (b x : Nat) (w : World) : Off b x w w := ⟨rfl, rfl, rfl, Nat.le_refl _, fun _ _ _ _ => rfl⟩
theorem Off.trans {b x : Nat} {u v w : World} (h : Off b x u v) (k : Off b x v w) : Off b x u w :=
 ⟨k.os.trans h.os, k.tape.trans h.tape, k.output.trans h.output, Nat.le_trans h.size k.size, fun i h1 h2 h3 => (k.block i (Nat.lt_of_lt_of_le h1 h.size) h2 h3).trans (h.block i h1 h2 h3)⟩
theorem Off.below {b x B : Nat} {u v w : World} (h : Off b x u v) (k : Below B v w) (hB : u.heap.size ≤ B) : Off b x u w :=
 ⟨k.os.trans h.os, k.tape.trans h.tape, k.output.trans h.output, Nat.le_trans h.size k.size, fun i h1 h2 h3 => (k.block i (by omega)).trans (h.block i h1 h2 h3)⟩
theorem Off.only1 {b x : Nat} {u v w : World} (h : Off b x u v) (k : Only b v w) : Off b x u w :=
 ⟨k.os.trans h.os, k.tape.trans h.tape, k.output.trans h.output, Nat.le_trans h.size k.size, fun i h1 h2 h3 => (k.block i h2).trans (h.block i h1 h2 h3)⟩
theorem Off.only2 {b x : Nat} {u v w : World} (h : Off b x u v) (k : Only x v w) : Off b x u w :=
 ⟨k.os.trans h.os, k.tape.trans h.tape, k.output.trans h.output, Nat.le_trans h.size k.size, fun i h1 h2 h3 => (k.block i h3).trans (h.block i h1 h2 h3)⟩
abbrev rdA (S : ByteArray) (A c : Int) : Array Value := #[.string S, .int .i64 A, .int .i64 c]
abbrev rdL (S : ByteArray) (A c : Int) : List Value := [.string S, .int .i64 A, .int .i64 c]
theorem over_3 (a b c d e f : Value) : over #[a, b, c] 0 [d, e, f] = #[d, e, f] := by simp [over]
structure BoxIs (w : World) (b : Nat) (A : Array Value) (t : TypeId) : Prop where
 at_ : w.heap[b]? = some (.cells A t (0, 0))
theorem ldR {ops : Array Oper} {rest : List Oper} {op : Oper} {a : Act} {w : World} {Q : Exit → Act → World → Prop} {x : Operand} {b : Nat} {S : ByteArray} {A c : Int} (hg : op.guard = none) (ho : op.op = .load 31 x)
 (hx : a.eval x = .pointer (some ⟨b, 0, none⟩)) (hX : BoxIs w b (rdA S A c) 31)
 (h : wpList Tryz.prog ops Q rest (a.put op.dst (.agg (rdA S A c))) w) : wpList Tryz.prog ops Q (op :: rest) a w :=
 wpList_load_mid hg _ _ ho _ _ hx _ _ (range_at hX.at_ 0 (rdL S A c) rfl) Tryz.underlying31 rfl (by kernel_rfl) h
theorem stR {ops : Array Oper} {rest : List Oper} {op : Oper} {a : Act} {w v : World} {Q : Exit → Act → World → Prop} {x y : Operand} {b : Nat} {S S' : ByteArray} {A c A' c' : Int} (hg : op.guard = none) (ho : op.op = .store 31 x y)
 (hx : a.eval x = .pointer (some ⟨b, 0, none⟩)) (hy : a.eval y = .agg (rdA S A c)) (hX : BoxIs w b (rdA S' A' c') 31) (hv : w.setCells b 0 (rdL S A c) = v)
 (h : wpList Tryz.prog ops Q rest (a.put op.dst undef) v) : wpList Tryz.prog ops Q (op :: rest) a w :=
 wpList_store_to hg _ _ _ ho _ _ _ hx hy (box_there hX.at_ 0 3 (by simp)) (by kernel_rfl) (by simp [Value.oneCell']) hv h
theorem ldB {ops : Array Oper} {rest : List Oper} {op : Oper} {a : Act} {w : World} {Q : Exit → Act → World → Prop} {x : Operand} {b o : Nat} {A : Array Value} {t : TypeId} (ty : TypeId) {d : TypeDesc} (hu : Tryz.prog.underlying ty = some d) (hd : d.isRow = true) (vs : List Value) (hi : (Tryz.prog.info? ty).map (·.size) = some vs.length) (hg : op.guard = none) (ho : op.op = .load ty x)
 (hx : a.eval x = .pointer (some ⟨b, o, none⟩)) (hX : BoxIs w b A t) (hA : (A.toList.drop o).take vs.length = vs)
 (h : wpList Tryz.prog ops Q rest (a.put op.dst (.agg vs.toArray)) w) : wpList Tryz.prog ops Q (op :: rest) a w :=
 wpList_load_mid hg _ _ ho _ _ hx _ _ (range_at hX.at_ o vs hA) hu hd hi h
theorem stB {ops : Array Oper} {rest : List Oper} {op : Oper} {a : Act} {w v : World} {Q : Exit → Act → World → Prop} {x y : Operand} {b o : Nat} {A : Array Value} {t : TypeId} (ty : TypeId) (vs : List Value) (hi : (Tryz.prog.info? ty).map (·.size) = some vs.length) (h1 : vs.toArray.all (·.oneCell') = true) (hg : op.guard = none) (ho : op.op = .store ty x y)
 (hx : a.eval x = .pointer (some ⟨b, o, none⟩)) (hy : a.eval y = .agg vs.toArray) (hX : BoxIs w b A t) (hA : o + vs.length ≤ A.size) (hv : w.setCells b o vs = v)
 (h : wpList Tryz.prog ops Q rest (a.put op.dst undef) v) : wpList Tryz.prog ops Q (op :: rest) a w :=
 wpList_store_to hg _ _ _ ho _ _ vs.toArray hx hy (box_there hX.at_ o _ (by simpa using hA)) (by simpa using hi) h1 (by simpa using hv) h
structure Rk (ws : World) (b x : Nat) (t : TypeId) (S : ByteArray) (A c : Int) (xs : List Value) (w : World) : Prop where
 ne : b ≠ x
 lb : b < ws.heap.size
 lx : x < ws.heap.size
 off : Off b x ws w
 r : w.heap[b]? = some (.cells (rdA S A c) 31 (0, 0))
 x_ : w.heap[x]? = some (.cells xs.toArray t (0, 0))
section
variable {ws : World} {b x : Nat} {t : TypeId} {S : ByteArray} {A c : Int} {xs : List Value} {w : World}
theorem Rk.rb (h : Rk ws b x t S A c xs w) : BoxIs w b (rdA S A c) 31 := ⟨h.r⟩
theorem Rk.xb (h : Rk ws b x t S A c xs w) : BoxIs w x xs.toArray t := ⟨h.x_⟩
theorem Rk.call {B : Nat} {v : World} (h : Rk ws b x t S A c xs w) (k : Below B w v) (hB : ws.heap.size ≤ B) : Rk ws b x t S A c xs v := by
 have := h.lb; have := h.lx
 exact ⟨h.ne, h.lb, h.lx, h.off.below k hB, (k.block _ (by omega)).trans h.r, (k.block _ (by omega)).trans h.x_⟩
theorem Rk.back {v : World} (h : Rk ws b x t S A c xs w) (k : Below w.heap.size w v) : Rk ws b x t S A c xs v := h.call k h.off.size
theorem Rk.read (h : Rk ws b x t S A c xs w) (A' c' : Int) : Rk ws b x t S A' c' xs (w.setCells b 0 (rdL S A' c')) := by
 have ho : Only b w (w.setCells b 0 (rdL S A' c')) := only_cells _ 0 (Only.refl _ _)
 exact ⟨h.ne, h.lb, h.lx, h.off.only1 ho, box_into h.r 0 _ (over_3 ..), (ho.block _ (Ne.symm h.ne)).trans h.x_⟩
theorem Rk.sets (h : Rk ws b x t S A c xs w) (o : Nat) (vs ys : List Value) (hy : over xs.toArray o vs = ys.toArray) : Rk ws b x t S A c ys (w.setCells x o vs) := by
 have ho : Only x w (w.setCells x o vs) := only_cells _ o (Only.refl _ _)
 exact ⟨h.ne, h.lb, h.lx, h.off.only2 ho, (ho.block _ h.ne).trans h.r, box_into h.x_ o _ hy⟩
theorem Rk.set (h : Rk ws b x t S A c xs w) (k : Nat) (v : Value) (ys : List Value) (hy : xs.set k v = ys) : Rk ws b x t S A c ys (w.setCell ⟨x, k, none⟩ v) := by
 have := h.sets k [v] ys (by rw [← hy]; simp [over])
 simpa [World.setCells] using this
theorem Rk.cell (h : Rk ws b x t S A c xs w) (k : Nat) {v : Value} (hv : xs[k]? = some v) : w.cell? ⟨x, k, none⟩ = some v := box_cell h.x_ k (by simpa using hv)
theorem Rk.free (h : Rk ws b x t S A c xs w) (k : Nat) : w.frozen? ⟨x, k, none⟩ = false := box_free h.x_ k
theorem Rk.step (h : Rk ws b x t S A c xs w) (A' c' : Int) : ∃ u v, w.alloc (.cells #[.string S, .int .i64 A', .int .i64 c'] 31) = u ∧ (u.cell? ⟨w.heap.size, 0, none⟩ = some (.string S) ∧ u.cell? ⟨w.heap.size, 1, none⟩ = some (.int .i64 A') ∧ u.cell? ⟨w.heap.size, 2, none⟩ = some (.int .i64 c'))
 ∧ BoxIs u b (rdA S A c) 31 ∧ u.setCells b 0 (rdL S A' c') = v ∧ Rk ws b x t S A' c' xs v ∧ Off b x w v := by
 have hq := heap_alloc_new w (.cells (rdA S A' c') 31)
 have hb1 : Below w.heap.size w (w.alloc (.cells (rdA S A' c') 31)) := (Below.refl _ _).alloc (Nat.le_refl _) _
 have hr := h.back hb1
 exact ⟨_, _, rfl, ⟨box_cell hq 0 rfl, box_cell hq 1 rfl, box_cell hq 2 rfl⟩, hr.rb, rfl, hr.read A' c', ((Off.refl _ _ _).below hb1 (Nat.le_refl _)).only1 (only_cells _ 0 (Only.refl _ _))⟩
theorem Rk.step2 (h : Rk ws b x t S A c xs w) (A' c' : Int) (ty : TypeId) (vs : Array Value) : ∃ u v, (w.alloc (.cells #[.string S, .int .i64 A', .int .i64 c'] 31)).alloc (.cells vs ty) = u ∧ (u.cell? ⟨w.heap.size, 0, none⟩ = some (.string S) ∧ u.cell? ⟨w.heap.size, 1, none⟩ = some (.int .i64 A') ∧ u.cell? ⟨w.heap.size, 2, none⟩ = some (.int .i64 c'))
 ∧ BoxIs u b (rdA S A c) 31 ∧ u.setCells b 0 (rdL S A' c') = v ∧ BoxIs v (w.heap.size + 1) vs ty ∧ Rk ws b x t S A' c' xs v ∧ Off b x w v := by
 obtain ⟨h2, hq, hs⟩ := two_boxes w (.cells (rdA S A' c') 31) (.cells vs ty) _ rfl
 have hr := h.back h2
 have o3 : Only b ((w.alloc (.cells (rdA S A' c') 31)).alloc (.cells vs ty)) (((w.alloc (.cells (rdA S A' c') 31)).alloc (.cells vs ty)).setCells b 0 (rdL S A' c')) := only_cells _ 0 (Only.refl _ _)
 have := h.lb; have := h.off.size
 exact ⟨_, _, rfl, ⟨box_cell hq 0 rfl, box_cell hq 1 rfl, box_cell hq 2 rfl⟩, hr.rb, rfl, ⟨(o3.block _ (by omega)).trans hs⟩, hr.read A' c', ((Off.refl _ _ _).below h2 (Nat.le_refl _)).only1 o3⟩
end
end Tl
end Go.Proofs.YtljbpelogjmciaaGreatDoor
