/-
  What a writer and a reader are in memory, what a call leaves of the rest, and the append of a text to a writer's row. No condition. And what follows of it, part by part, each with its conditions.
-/
import Derived.Test.YtaegknpijgjioaaGreatDoorChecked
import Derived.Test.YtaegknpijgjioaaGreatDoorKit
import Derived.Test.YtaegknpijgjioaaGreatDoorLebAll
import Derived.Test.YtaegknpijgjioaaGreatDoorShelf
import Derived.WalkKit
import Derived.ProofKit
import Derived.Lib.Hide
import Derived.Lib.AppendStr
import Derived.Laws.Rows
import Derived.Laws.BytesArg
import Derived.Deep.QuietTactic
import Derived.BigQuiet
import Derived.StillTailTactics
/- What a writer and a reader are in memory, what a call leaves of the rest, and the append of a text to a writer's row. No condition. -/
namespace Go.Proofs.YtaegknpijgjioaaGreatDoor
open Go.ChangeShapes Go.WideShapes Go.ChangeAt Go.RowKit Go.Lib
namespace Wire

/-- the blocks of D are as they were -/
structure Kept (D : Nat → Prop) (w w' : World) : Prop where
  os : w'.os = w.os
  tape : w'.tape = w.tape
  output : w'.output = w.output
  size : w.heap.size ≤ w'.heap.size
  block : ∀ k, D k → w'.heap[k]? = w.heap[k]?
theorem Kept.refl (D : Nat → Prop) (w : World) : Kept D w w := ⟨rfl, rfl, rfl, Nat.le_refl _, fun _ _ => rfl⟩
theorem Kept.trans {D : Nat → Prop} {a b c : World} (h : Kept D a b) (k : Kept D b c) : Kept D a c :=
  ⟨k.os.trans h.os, k.tape.trans h.tape, k.output.trans h.output, Nat.le_trans h.size k.size, fun i hi => (k.block i hi).trans (h.block i hi)⟩
theorem Kept.mono {D D' : Nat → Prop} {w w' : World} (h : Kept D w w') (hD : ∀ k, D' k → D k) : Kept D' w w' := ⟨h.os, h.tape, h.output, h.size, fun k hk => h.block k (hD k hk)⟩
theorem Kept.of_below {D : Nat → Prop} {B : Nat} {w w' : World} (h : Below B w w') (hD : ∀ k, D k → k < B) : Kept D w w' := ⟨h.os, h.tape, h.output, h.size, fun k hk => h.block k (hD k hk)⟩
theorem Kept.below {D : Nat → Prop} {B : Nat} {w w' : World} (h : Kept D w w') (hD : ∀ k, k < B → D k) : Below B w w' := ⟨h.os, h.tape, h.output, h.size, fun k hk => h.block k (hD k hk)⟩
theorem Kept.setCell {D : Nat → Prop} {a w : World} (h : Kept D a w) {p : Addr} (hp : ¬ D p.block) (u : Value) : Kept D a (w.setCell p u) :=
  h.trans ⟨rfl, rfl, rfl, by simp [World.setCell], fun k hk => Below.heap_setCell _ _ _ _ (fun e => hp (e ▸ hk))⟩
theorem Kept.cell {D : Nat → Prop} {w w' : World} (h : Kept D w w') {p : Addr} (hp : D p.block) : w'.cell? p = w.cell? p := World.cell?_of_block (w := w) (h.block p.block hp)
theorem Kept.frozen {D : Nat → Prop} {w w' : World} (h : Kept D w w') {p : Addr} (hp : D p.block) : w'.frozen? p = w.frozen? p := World.frozen?_of_block (w := w) (h.block p.block hp)
/-- a byte in memory -/
def cell8 (b : UInt8) : Value := .int .u8 (b.toNat : Int)
theorem lt_of_block {w : World} {g : Nat} {o : Obj} (h : w.heap[g]? = some o) : g < w.heap.size := by
  rcases Nat.lt_or_ge g w.heap.size with hl | hl
  · exact hl
  · rw [Array.getElem?_eq_none hl] at h; cases h
theorem two_cells {w : World} {g : Nat} {u v : Value} {t : TypeId} (h : w.heap[g]? = some (.cells #[u, v] t (0, 0))) :
    w.cell? ⟨g, 0, none⟩ = some u ∧ w.cell? ⟨g, 1, none⟩ = some v ∧ w.frozen? ⟨g, 0, none⟩ = false ∧ w.frozen? ⟨g, 1, none⟩ = false :=
  ⟨by simp [World.cell?, h], by simp [World.cell?, h], by simp [World.frozen?, h], by simp [World.frozen?, h]⟩
theorem two_set0 {w : World} {g : Nat} {u v : Value} {t : TypeId} (h : w.heap[g]? = some (.cells #[u, v] t (0, 0))) (x : Value) : (w.setCell ⟨g, 0, none⟩ x).heap[g]? = some (.cells #[x, v] t (0, 0)) := by
  simpa using heap_setCell_same w g 0 _ _ x h
theorem two_set1 {w : World} {g : Nat} {u v : Value} {t : TypeId} (h : w.heap[g]? = some (.cells #[u, v] t (0, 0))) (x : Value) : (w.setCell ⟨g, 1, none⟩ x).heap[g]? = some (.cells #[u, x] t (0, 0)) := by
  simpa using heap_setCell_same w g 1 _ _ x h
/-- the row of a writer is as it was while other blocks are written -/
theorem owns_of {w w' : World} {base : Nat} {e : TypeId} {size n : Nat} {v : Value} {xs : List Value} (h : w.ownsRow base e size v n xs) (hk : ∀ r, v.ownBlock = some r → w'.heap[r]? = w.heap[r]?) : w'.ownsRow base e size v n xs := by
  refine ⟨h.1, ?_⟩
  rcases h.2 with h0 | ⟨g, cap, cur, rfl, h1, h2, h3⟩
  · exact .inl h0
  · exact .inr ⟨g, cap, cur, rfl, h1, (hk g rfl).trans h2, h3⟩
theorem owns_lt {w : World} {base : Nat} {e : TypeId} {size n : Nat} {v : Value} {xs : List Value} (h : w.ownsRow base e size v n xs) {r : Nat} (hr : v.ownBlock = some r) : base ≤ r ∧ r < w.heap.size := by
  rcases h.2 with ⟨rfl, _⟩ | ⟨g, cap, cur, rfl, h1, h2, h3⟩
  · cases hr
  · injection hr with hr; subst hr; exact ⟨h1, lt_of_block h2⟩
/-- THE APPEND OF A TEXT: the row is the old one, or a new one -/
theorem run_append_str {P : Program} {w : World} (base : Nat) (t u ty e : TypeId) (i : TypeInfo) (ht : P.underlying t = some (.slice e)) (hu : P.underlying u = some .string) (hi : P.info? e = some i) (hz : i.zero = some (.int .u8 0))
    (hsize : i.size = 1) (hby : i.bytes = 1) (v : Value) (n : Nat) (xs : List Value) (hown : w.ownsRow base e 1 v n xs) (s : ByteArray)
    (hbytes : n + s.size ≤ 140737488355328) (hbase : base ≤ w.heap.size) :
    ∃ A cap w', (Builtin.append_ #[t, u] ty #[v, .string s]).run P w = .ok (.slice A (n + s.size) cap) w' ∧ w'.ownsRow base e 1 (.slice A (n + s.size) cap) (n + s.size) (xs ++ strCells s) ∧ w.grownBy w' v.ownBlock ∧
      ((Value.slice A (n + s.size) cap).ownBlock = v.ownBlock ∨ (Value.slice A (n + s.size) cap).ownBlock = some w.heap.size) := by
  have h63 : n + s.size ≤ maxLen := by unfold maxLen; omega
  obtain ⟨v', w', hr, h2, h3, h4⟩ := run_append_own_string (P := P) w base t u ty e i ht hu hi hz hsize hby v n xs hown s h63 hbytes hbase
  have hform : ∃ A cap, v' = .slice A (n + s.size) cap := by
    rcases h2.2 with ⟨rfl, e0⟩ | ⟨g', cap', cur', rfl, _⟩
    · exact ⟨none, 0, by rw [e0]⟩
    · exact ⟨_, _, rfl⟩
  obtain ⟨A, cap, rfl⟩ := hform
  refine ⟨A, cap, w', hr, h2, h3, ?_⟩
  rcases hown.2 with ⟨rfl, rfl⟩ | ⟨g, cap0, cur, rfl, hbg, hg, hnc, hcm, hcs, htake⟩
  · by_cases hm : s.size = 0
    · left
      rw [(h4.2 ⟨rfl, hm⟩)]
    · right
      have hr' := run_append_nil_string (P := P) w t u ty e i (.int .u8 0) ht hu hi hz s (by omega) (by omega) (by rw [hby]; omega)
      rw [hr'] at hr
      injection hr with e1 _
      rw [← e1]
      rfl
  · by_cases hroom : n + s.size ≤ cap0
    · left
      have hcs' : cur.size = cap0 := by simpa using hcs
      have hr' := run_append_room_string (P := P) w t u ty e i ht hu hi hsize g n cap0 cur hg s hroom (by omega)
      have hr'' := hr'.symm.trans ((congrArg (fun z => (Builtin.append_ #[t, u] z #[.slice (some ⟨g, 0, none⟩) n cap0, .string s]).run P w) rfl).trans hr)
      injection hr'' with e1 _
      rw [← e1]
      rfl
    · right
      have holds : ∀ j u, xs[j]? = some u → w.cell? ((⟨g, 0, none⟩ : Addr).add j) = some u := hown.cells (g := g) rfl
      have hxl : xs.length = n := by simpa using hown.1
      have hr' := run_append_grow_string (P := P) w t u ty e i (.int .u8 0) ht hu hi hz ⟨g, 0, none⟩ n cap0 xs (by rw [hsize]; simpa using hxl) holds s (by omega) (by omega) (by rw [hby]; exact growslice_fits (by omega) (by omega))
      have hr'' := hr'.symm.trans hr
      injection hr'' with e1 _
      rw [← e1]
      rfl
/-- the same, for the walk -/
theorem wpList_append_str {P : Program} {w : World} {ops : Array Oper} {rest : List Oper} {o : Oper} {a : Act} {Q : Exit → Act → World → Prop} (hgd : o.guard = none) (sl x : Operand) (t u : TypeId)
    (ho : o.op = .call { callee := .builtin .append, args := #[sl, x], argTypes := #[t, u] })
    (base : Nat) (e : TypeId) (i : TypeInfo) (ht : P.underlying t = some (.slice e)) (hu : P.underlying u = some .string) (hi : P.info? e = some i) (hz : i.zero = some (.int .u8 0))
    (hsize : i.size = 1) (hby : i.bytes = 1)
    (v : Value) (n : Nat) (xs : List Value) (hs : a.eval sl = v) (hown : w.ownsRow base e 1 v n xs) (s : ByteArray) (hx : a.eval x = .string s)
    (hbytes : n + s.size ≤ 140737488355328) (hbase : base ≤ w.heap.size)
    (h : ∀ A cap w', w'.ownsRow base e 1 (.slice A (n + s.size) cap) (n + s.size) (xs ++ strCells s) → w.grownBy w' v.ownBlock → ((Value.slice A (n + s.size) cap).ownBlock = v.ownBlock ∨ (Value.slice A (n + s.size) cap).ownBlock = some w.heap.size) →
      wpList P ops Q rest (a.put o.dst (.slice A (n + s.size) cap)) w') : wpList P ops Q (o :: rest) a w := by
  refine wpList_plain hgd fun K hK => ?_
  obtain ⟨A, cap, w', hr, h2, h3, h4⟩ := run_append_str (P := P) base t u o.type e i ht hu hi hz hsize hby v n xs hown s hbytes hbase
  unfold Oper.wp execOp
  simp only [ho, resolve, invoke, builtin, Sem.run_bind, Sem.run_pure, Result.andThen_ok, List.map_toArray, List.map_cons, List.map_nil, hs, hx, hr]
  exact hK _ _ (h A cap w' h2 h3 h4)
end Wire
end Go.Proofs.YtaegknpijgjioaaGreatDoor

/- The contracts of package wire's writers: each call writes the bytes that the chapter says, up to a first error, and leaves all else as it was. Condition: what is written has at most 2^47 bytes. -/
namespace Go.Proofs.YtaegknpijgjioaaGreatDoor
open Go.ChangeShapes Go.WideShapes Go.ChangeAt Go.RowKit Go.Lib
open LebMath WirePure
namespace Wire

/-- what is written behind, unless there is an error -/
def addB (c : Int) (xs ys : List UInt8) : List UInt8 := if c = 0 then xs ++ ys else xs
theorem addB_no (xs ys : List UInt8) : addB 0 xs ys = xs ++ ys := by simp [addB]
theorem addB_yes {c : Int} (h : c ≠ 0) (xs ys : List UInt8) : addB c xs ys = xs := by simp [addB, h]
theorem strCells_cell8 (s : ByteArray) : strCells s = s.data.toList.map cell8 := rfl
theorem addB_len (c : Int) (xs ys : List UInt8) : (addB c xs ys).length ≤ xs.length + ys.length := by
  unfold addB; split <;> simp
/-- a text's bytes -/
def txB (s : ByteArray) : List UInt8 := leb s.size ++ s.data.toList
theorem addB_two (c : Int) (xs ys zs : List UInt8) : addB c (addB c xs ys) zs = addB c xs (ys ++ zs) := by
  unfold addB; split <;> simp
/-- a truth's byte -/
def boB (b : Bool) : UInt8 := if b then 1 else 0
set_option maxRecDepth 100000 in
theorem run_bytes {w : World} {base : Nat} {A : Option Addr} {cap : Nat} {xs : List UInt8} (h : w.ownsRow base 5 1 (.slice A xs.length cap) xs.length (xs.map cell8)) :
    (convert 96 9 (.slice A xs.length cap)).run Tryz.prog w = .ok (.string ⟨xs.toArray⟩) w := by
  have hh := h
  rcases h.2 with ⟨e, h0⟩ | ⟨g, cap', cur, e, _⟩
  · have hx : xs = [] := List.length_eq_zero_iff.1 h0
    subst hx
    injection e with e1 e2 e3
    subst e1
    exact run_convert_bytes_nil (P := Tryz.prog) (w := w) 96 5 Tryz.underlying96 Tryz.underlying5 _ _ 9 Tryz.underlying9
  · injection e with e1 e2 e3
    subst e1
    have hc := hh.cells (g := g) rfl
    have := run_convert_bytes_arg (P := Tryz.prog) w 96 5 Tryz.underlying96 Tryz.underlying5 g 0 xs.length cap (xs.map (fun b => (b.toNat : Int))) (by simp)
      (fun i hi => by
        have h1 := hc i (cell8 xs[i]) (by simp [List.getElem?_eq_getElem hi])
        have e : (⟨g, 0, none⟩ : Addr).add i = ⟨g, 0 + i, none⟩ := by unfold Addr.add; split <;> simp_all
        rw [← e, h1]
        simp [cell8, List.getElem?_eq_getElem hi]) 9 Tryz.underlying9
    rw [this]
    congr 2
    unfold strOfNums
    have e : ((fun n : Int => UInt8.ofNat n.toNat) ∘ fun b : UInt8 => (b.toNat : Int)) = id := by funext b; simp
    rw [List.map_map, e, List.map_id]
end Wire
end Go.Proofs.YtaegknpijgjioaaGreatDoor

/- The contracts of package wire's readers: each call reads what the chapter says, up to a first error, changes its reader alone, and leaves all else as it was. Condition: the bytes that are left are no more than a Go string may have. -/
namespace Go.Proofs.YtaegknpijgjioaaGreatDoor
open Go.ChangeShapes Go.WideShapes Go.ChangeAt Go.RowKit Go.Lib
open LebMath WirePure
namespace Wire

/-- all that was there is as it was, but for the reader at g -/
def Aside (g : Nat) (w w' : World) : Prop := Kept (fun k => k < w.heap.size ∧ k ≠ g) w w'
theorem Aside.refl (g : Nat) (w : World) : Aside g w w := Kept.refl _ _
theorem Aside.trans {g : Nat} {a b c : World} (h : Aside g a b) (k : Aside g b c) : Aside g a c :=
  Kept.trans h (Kept.mono k (fun _ hi => ⟨Nat.lt_of_lt_of_le hi.1 h.size, hi.2⟩))
theorem Aside.of_below {g : Nat} {w w' : World} (h : Below w.heap.size w w') : Aside g w w' := Kept.of_below h (fun _ h => h.1)
theorem Aside.setCell {g : Nat} {a w : World} (h : Aside g a w) (o : Nat) (u : Value) : Aside g a (w.setCell ⟨g, o, none⟩ u) := Kept.setCell h (fun hd => hd.2 rfl) u
theorem Aside.drew {g : Nat} {a w : World} (h : Aside g a w) (n : Nat) : Aside g a (w.drewN n) := ⟨h.os, h.tape, h.output, h.size, h.block⟩
/-- a text's bytes behind the first k -/
theorem rest_eq (s : ByteArray) (k : Nat) : s.extract k s.size = ⟨(s.data.toList.drop k).toArray⟩ := by
  apply ByteArray.ext
  apply Array.ext'
  simp [List.extract_eq_take_drop]
  exact List.take_of_length_le (by rw [List.length_drop, Array.length_toList]; exact Nat.le_refl _)
theorem first_eq (s : ByteArray) (k : Nat) : s.extract 0 k = ⟨(s.data.toList.take k).toArray⟩ := by
  apply ByteArray.ext
  apply Array.ext'
  simp [List.extract_eq_take_drop]
theorem ret_why {l : List UInt8} {d : Int} (h : why l = d) : Ending.returned (.int .i64 d) = .returned (.int .i64 (why l)) := by rw [h]
end Wire
end Go.Proofs.YtaegknpijgjioaaGreatDoor

/- The contracts of a reader's Num, Big, Text, Bool, Code, Left, End: each reads what the chapter says, up to a first error, and leaves all but its reader as it was. Condition: the bytes that are left are no more than a Go string in memory may have. -/
namespace Go.Proofs.YtaegknpijgjioaaGreatDoor
open Go.ChangeShapes Go.WideShapes Go.ChangeAt Go.RowKit Go.Lib
open LebMath WirePure
namespace Wire

/-- the greatest number that is read: a most below 0 counts as 0 -/
def mostN (m : Int) : Nat := (max m 0).toNat
theorem mostN_le {m : Int} (h : m ≤ 9223372036854775807) : mostN m ≤ maxLen := by unfold mostN maxLen; omega
theorem mostN_cast (m : Int) : ((mostN m : Nat) : Int) = max m 0 := by unfold mostN; omega
theorem mostN_wrap {m : Int} (h : m ≤ 9223372036854775807) : IntKind.u64.wrap (max m 0) = ((mostN m : Nat) : Int) := by
  rw [mostN_cast]; exact IntWalk.u64_in _ (by omega)
theorem mostN_nat (n : Nat) : mostN (n : Int) = n := by unfold mostN; omega
theorem clone_any (s : ByteArray) (hs : s.size ≤ 281474976710656) (w : World) :
    Calls Tryz.prog 51 #[.string s] w fun e w' => e = .returned (.string s) ∧ Below w.heap.size w w' := by
  go_enter Tryz.func51, Tryz.ntmps51
  go_wp2_with fail
  refine (Any.stringslite_Clone Tryz.laysM316 s _ hs).mono ?_
  rintro e w' ⟨rfl, hb⟩
  go_wp2_with fail
  go_ret
  exact ⟨rfl, hb⟩
theorem neq_of {t u : List UInt8} (h : t ≠ u) : (t == u) = false := by simpa using h
theorem eq_of {t u : List UInt8} (h : t = u) : (t == u) = true := by simpa using h
theorem ret_bool {b d : Bool} (h : b = d) : Ending.returned (.bool b) = .returned (.bool d) := by rw [h]
end Wire
end Go.Proofs.YtaegknpijgjioaaGreatDoor
