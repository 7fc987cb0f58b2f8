/-
  What the statements of chapter 4 write and read: a list of values in memory, their bytes. No condition.
-/
import Derived.Test.YthffbhpoccdjcaaWireWorks
import Derived.Test.YthffbhpoccdjcaaRegionLine
namespace Go.Proofs.Ythffbhpoccdjcaa
open Go.ChangeShapes Go.WideShapes Go.ChangeAt Go.RowKit Go.Lib
open LebMath WirePure
namespace Wire

/-- a value to be written: its kind, a number, a great one, a text -/
structure Val where
  kind : Int
  n : Int
  big : Nat
  s : ByteArray

/-- its cells -/
def Val.cellsAt (x : Val) (w : World) (a : Addr) : Prop :=
  w.cell? a = some (.int .i64 x.kind) ∧ w.cell? ⟨a.block, a.off + 1, none⟩ = some (.int .i64 x.n) ∧ w.cell? ⟨a.block, a.off + 2, none⟩ = some (.int .u64 (x.big : Nat)) ∧ w.cell? ⟨a.block, a.off + 3, none⟩ = some (.string x.s)
/-- its numbers fit -/
def Val.fits (x : Val) : Prop := x.kind ≤ 9223372036854775807 ∧ -9223372036854775808 ≤ x.kind ∧ x.n ≤ 9223372036854775807 ∧ -9223372036854775808 ≤ x.n ∧ x.big < 18446744073709551616

/-- a list of values at A -/
def Vals (w : World) (A : Option Addr) (l : List Val) : Prop := ∀ (k : Nat) (x : Val), l[k]? = some x → x.fits ∧ ∃ a, A = some a ∧ a.block < w.heap.size ∧ x.cellsAt w (a.add (k * 4))

theorem add_block (a : Addr) (n : Nat) : (a.add n).block = a.block := by unfold Addr.add; split <;> rfl

theorem Val.cellsAt.keep {x : Val} {w w' : World} {a : Addr} (h : x.cellsAt w a) (hb : w'.heap[a.block]? = w.heap[a.block]?) : x.cellsAt w' a := by
  have e : ∀ p : Addr, p.block = a.block → w'.cell? p = w.cell? p := fun p hp => World.cell?_of_block (by rw [hp]; exact hb)
  unfold Val.cellsAt at *
  rw [e a rfl, e ⟨a.block, a.off + 1, none⟩ rfl, e ⟨a.block, a.off + 2, none⟩ rfl, e ⟨a.block, a.off + 3, none⟩ rfl]
  exact h

theorem Vals.keep {w w' : World} {A : Option Addr} {l : List Val} (h : Vals w A l) (hb : Below w.heap.size w w') : Vals w' A l := by
  intro k x hk
  obtain ⟨hf, a, hA, ha, hc⟩ := h k x hk
  exact ⟨hf, a, hA, Nat.lt_of_lt_of_le ha hb.size, hc.keep (by rw [add_block]; exact hb.block _ ha)⟩

theorem mostN_nat_le {x : Val} (h : x.fits) : mostN x.n ≤ maxLen := mostN_le h.2.2.1

/-- a list of numbers at A -/
def Nums (q : IntKind) (w : World) (A : Option Addr) (l : List Int) : Prop := ∀ (k : Nat) (x : Int), l[k]? = some x → (Lit.int q x).wf = true ∧ ∃ a, A = some a ∧ a.block < w.heap.size ∧ w.cell? (a.add k) = some (.int q x)

/-- the bytes of a value, as it is written and read again -/
def valB (x : Val) : List UInt8 := if x.kind = 0 then leb (mostN x.n) else if x.kind = 1 then leb x.big else if x.kind = 2 then txB x.s else [boB (decide (0 < x.n))]
def valsB (l : List Val) : List UInt8 := l.flatMap valB

theorem txB_len {s : ByteArray} (hs : s.size ≤ 300) : (txB s).length ≤ 310 := by
  unfold txB
  have := leb_le_ten (n := s.size) (by omega)
  rw [List.length_append]
  have e : s.data.toList.length = s.size := Array.length_toList
  omega

theorem valB_len {x : Val} (hf : x.fits) (hs : x.s.size ≤ 300) : (valB x).length ≤ 310 := by
  obtain ⟨h1, h2, h3, h4, h5⟩ := hf
  unfold valB
  split
  · have := leb_le_ten (n := mostN x.n) (by unfold mostN; omega)
    omega
  · split
    · have := leb_le_ten h5
      omega
    · split
      · unfold txB
        have := leb_le_ten (n := x.s.size) (by omega)
        rw [List.length_append]
        have e : x.s.data.toList.length = x.s.size := Array.length_toList
        omega
      · simp

theorem valsB_len {l : List Val} (h : ∀ x ∈ l, x.fits ∧ x.s.size ≤ 300) : (valsB l).length ≤ l.length * 310 := by
  induction l with
  | nil => simp [valsB]
  | cons x l ih =>
    have h1 := valB_len (h x (by simp)).1 (h x (by simp)).2
    have h2 := ih (fun y hy => h y (by simp [hy]))
    unfold valsB at h2 ⊢
    rw [List.flatMap_cons, List.length_append, List.length_cons]
    omega

theorem valsB_snoc (l : List Val) (k : Nat) (x : Val) (hk : l[k]? = some x) : valsB (l.take (k + 1)) = valsB (l.take k) ++ valB x := by
  unfold valsB
  rw [List.take_add_one, hk]
  simp

theorem valsB_next (l : List Val) (k : Nat) (x : Val) (hk : l[k]? = some x) : valsB (l.drop k) = valB x ++ valsB (l.drop (k + 1)) := by
  obtain ⟨h1, h2⟩ := List.getElem?_eq_some_iff.1 hk
  rw [List.drop_eq_getElem_cons h1, h2]
  simp [valsB]
/-- a region with one call that reads: the reader's state ahead of it and behind it, and what each operation leaves -/
def rdPlan (h : Nat) (c0 c1 : Int) (l0 l1 : List UInt8) (c : Nat) (X : Nat → Value) : Line.Plan where
  A := Aside h
  refl := Aside.refl h
  trans := Aside.trans
  below := Aside.of_below
  cs := [c]
  G := fun j w => if j = 0 then Rd w h c0 l0 else Rd w h c1 l1
  F := fun i v _ => v = X i
  keepG := fun j w w' hg hb => by
    split at hg
    · next e => rw [if_pos e]; exact hg.below hb
    · next e => rw [if_neg e]; exact hg.below hb
  keepF := fun _ _ _ _ hf _ => hf

theorem rd_quiet {h : Nat} {c0 c1 : Int} {l0 l1 : List UInt8} {c i : Nat} {X : Nat → Value} (hi : i ≠ c) : i ∉ (rdPlan h c0 c1 l0 l1 c X).cs := by simpa [rdPlan] using hi

/-- a slot that an operation waits for -/
theorem dep_val {h : Nat} {c0 c1 : Int} {l0 l1 : List UInt8} {c : Nat} {X : Nat → Value} {ops : Array Oper} {o : Oper} {a : Act} {w : World}
    (hdep : ∀ e ∈ o.after, Region.binds .any e = true → ∀ oj d, ops[e.on]? = some oj → oj.dst = some d → (rdPlan h c0 c1 l0 l1 c X).F e.on (a.tmps.getD d undef) w) (j d : Nat) (hj : Loose.depB ops o j d = true) : a.tmps.getD d undef = X j :=
  Loose.dep_of (F := (rdPlan h c0 c1 l0 l1 c X).F) hdep j d hj

/-- a value in a box of its own -/
def Box (w : World) (b : Nat) (x : Val) : Prop := w.heap[b]? = some (.cells #[.int .i64 x.kind, .int .i64 x.n, .int .u64 (x.big : Nat), .string x.s] 27 (0, 0))
theorem Box.lt {w : World} {b : Nat} {x : Val} (h : Box w b x) : b < w.heap.size := lt_of_block h
theorem Box.aside {g : Nat} {w w' : World} {b : Nat} {x : Val} (h : Box w b x) (hb : b ≠ g) (hk : Aside g w w') : Box w' b x := (hk.block b ⟨h.lt, hb⟩).trans h
theorem Box.cells {w : World} {b : Nat} {x : Val} (h : Box w b x) : w.cell? ⟨b, 0, none⟩ = some (.int .i64 x.kind) ∧ w.cell? ⟨b, 1, none⟩ = some (.int .i64 x.n) ∧ w.cell? ⟨b, 2, none⟩ = some (.int .u64 (x.big : Nat)) ∧ w.cell? ⟨b, 3, none⟩ = some (.string x.s) := by
  unfold Box at h
  simp [World.cell?, h]
end Wire
end Go.Proofs.Ythffbhpoccdjcaa
