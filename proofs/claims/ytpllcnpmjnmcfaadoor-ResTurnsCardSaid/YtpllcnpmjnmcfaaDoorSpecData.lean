/-
  Specs in memory: labels, containers, a spec's value; what keeps them. No condition.
-/
import Derived.Test.YtpllcnpmjnmcfaaDoorLists
import Derived.Test.YtpllcnpmjnmcfaaDoorKit
import Derived.Lib.Hide
namespace Go.Proofs.YtpllcnpmjnmcfaaDoor
open Go.RowKit
namespace Sd
open Lists

/-- a label -/
structure Lbl where
  key : ByteArray
  val : ByteArray
/-- a container: its name, its image, what it asks for, what it may have, its ports, its probe -/
structure Ctr where
  name : ByteArray
  image : ByteArray
  rc : Int
  rm : Int
  rp : Int
  lc : Int
  lm : Int
  lp : Int
  ports : List Int
  ev : Int
  fl : Int
/-- a spec -/
structure Spc where
  name : ByteArray
  labels : List Lbl
  init : List Ctr
  main : List Ctr
  restart : Int
  grace : Int
  prio : Int
def I64 (z : Int) : Prop := -9223372036854775808 ≤ z ∧ z ≤ 9223372036854775807
/-- the cells of a label -/
def Lbl.cellsAt (x : Lbl) (w : World) (a : Addr) : Prop := w.cell? a = some (.string x.key) ∧ w.cell? ⟨a.block, a.off + 1, none⟩ = some (.string x.val)
/-- the cells of a container, its ports at P, with room for c -/
def Ctr.cells (x : Ctr) (P : Option Addr) (c : Nat) : List Value :=
  [.string x.name, .string x.image, .int .i64 x.rc, .int .i64 x.rm, .int .i64 x.rp, .int .i64 x.lc, .int .i64 x.lm, .int .i64 x.lp, .slice P x.ports.length c, .int .i64 x.ev, .int .i64 x.fl]
def Ctr.cellsAt (x : Ctr) (P : Option Addr) (c : Nat) (w : World) (a : Addr) : Prop :=
  w.cell? a = some (.string x.name) ∧ w.cell? ⟨a.block, a.off + 1, none⟩ = some (.string x.image) ∧
  w.cell? ⟨a.block, a.off + 2, none⟩ = some (.int .i64 x.rc) ∧ w.cell? ⟨a.block, a.off + 3, none⟩ = some (.int .i64 x.rm) ∧ w.cell? ⟨a.block, a.off + 4, none⟩ = some (.int .i64 x.rp) ∧
  w.cell? ⟨a.block, a.off + 5, none⟩ = some (.int .i64 x.lc) ∧ w.cell? ⟨a.block, a.off + 6, none⟩ = some (.int .i64 x.lm) ∧ w.cell? ⟨a.block, a.off + 7, none⟩ = some (.int .i64 x.lp) ∧
  w.cell? ⟨a.block, a.off + 8, none⟩ = some (.slice P x.ports.length c) ∧ w.cell? ⟨a.block, a.off + 9, none⟩ = some (.int .i64 x.ev) ∧ w.cell? ⟨a.block, a.off + 10, none⟩ = some (.int .i64 x.fl) ∧ x.ports.length ≤ c
/-- its numbers fit -/
structure Ctr.Fits (x : Ctr) : Prop where
  rc : I64 x.rc
  rm : I64 x.rm
  rp : I64 x.rp
  lc : I64 x.lc
  lm : I64 x.lm
  lp : I64 x.lp
  ev : I64 x.ev
  fl : I64 x.fl
  ports : x.ports.length ≤ 9223372036854775807
/-- a list of labels at A -/
def Lbls (w : World) (A : Option Addr) (l : List Lbl) : Prop := ∀ (k : Nat) (x : Lbl), l[k]? = some x → ∃ a, A = some a ∧ a.block < w.heap.size ∧ x.cellsAt w (a.add (k * 2))
/-- a list of containers at A -/
def Ctrs (w : World) (A : Option Addr) (l : List Ctr) : Prop := ∀ (k : Nat) (x : Ctr), l[k]? = some x → x.Fits ∧ ∃ a P c, A = some a ∧ a.block < w.heap.size ∧ x.cellsAt P c w (a.add (k * 11)) ∧ Nums .i64 w P x.ports
/-- a spec's value, and its lists -/
structure Spc.In (S : Spc) (w : World) (LA : Option Addr) (lc : Nat) (IA : Option Addr) (ic : Nat) (MA : Option Addr) (mc : Nat) : Prop where
  labels : Lbls w LA S.labels
  init : Ctrs w IA S.init
  main : Ctrs w MA S.main
  nl : S.labels.length ≤ 9223372036854775807
  ni : S.init.length ≤ 9223372036854775807
  nm : S.main.length ≤ 9223372036854775807
  restart : I64 S.restart
  grace : I64 S.grace
  prio : I64 S.prio
def Spc.cells (S : Spc) (LA : Option Addr) (lc : Nat) (IA : Option Addr) (ic : Nat) (MA : Option Addr) (mc : Nat) : Array Value :=
  #[.string S.name, .slice LA S.labels.length lc, .slice IA S.init.length ic, .slice MA S.main.length mc, .int .i64 S.restart, .int .i64 S.grace, .int .i64 S.prio]
theorem Lbl.cellsAt.keep {x : Lbl} {w w' : World} {a : Addr} (h : x.cellsAt w a) (hb : w'.heap[a.block]? = w.heap[a.block]?) : x.cellsAt w' a := by
  have e : ∀ p : Addr, p.block = a.block → w'.cell? p = w.cell? p := fun p hp => World.cell?_of_block (by rw [hp]; exact hb)
  unfold Lbl.cellsAt at *
  rw [e a rfl, e ⟨a.block, a.off + 1, none⟩ rfl]
  exact h
theorem Ctr.cellsAt.keep {x : Ctr} {P : Option Addr} {c : Nat} {w w' : World} {a : Addr} (h : x.cellsAt P c w a) (hb : w'.heap[a.block]? = w.heap[a.block]?) : x.cellsAt P c w' a := by
  have e : ∀ p : Addr, p.block = a.block → w'.cell? p = w.cell? p := fun p hp => World.cell?_of_block (by rw [hp]; exact hb)
  unfold Ctr.cellsAt at *
  rw [e a rfl, e ⟨a.block, a.off + 1, none⟩ rfl, e ⟨a.block, a.off + 2, none⟩ rfl, e ⟨a.block, a.off + 3, none⟩ rfl, e ⟨a.block, a.off + 4, none⟩ rfl, e ⟨a.block, a.off + 5, none⟩ rfl, e ⟨a.block, a.off + 6, none⟩ rfl, e ⟨a.block, a.off + 7, none⟩ rfl, e ⟨a.block, a.off + 8, none⟩ rfl, e ⟨a.block, a.off + 9, none⟩ rfl, e ⟨a.block, a.off + 10, none⟩ rfl]
  exact h
theorem Nums.below {q : IntKind} {w w' : World} {A : Option Addr} {l : List Int} (h : Nums q w A l) (hb : Below w.heap.size w w') : Nums q w' A l := by
  intro k x hk
  obtain ⟨h1, a, hA, ha, hc⟩ := h k x hk
  exact ⟨h1, a, hA, Nat.lt_of_lt_of_le ha hb.size, (hb.cell (p := a.add k) (by rw [add_block]; exact ha)).trans hc⟩
theorem Lbls.below {w w' : World} {A : Option Addr} {l : List Lbl} (h : Lbls w A l) (hb : Below w.heap.size w w') : Lbls w' A l := by
  intro k x hk
  obtain ⟨a, hA, ha, hc⟩ := h k x hk
  exact ⟨a, hA, Nat.lt_of_lt_of_le ha hb.size, hc.keep (by rw [add_block]; exact hb.block _ ha)⟩
theorem Ctrs.below {w w' : World} {A : Option Addr} {l : List Ctr} (h : Ctrs w A l) (hb : Below w.heap.size w w') : Ctrs w' A l := by
  intro k x hk
  obtain ⟨hf, a, P, c, hA, ha, hc, hn⟩ := h k x hk
  exact ⟨hf, a, P, c, hA, Nat.lt_of_lt_of_le ha hb.size, hc.keep (by rw [add_block]; exact hb.block _ ha), Nums.below hn hb⟩
theorem Spc.In.below {S : Spc} {w w' : World} {LA : Option Addr} {lc : Nat} {IA : Option Addr} {ic : Nat} {MA : Option Addr} {mc : Nat} (h : S.In w LA lc IA ic MA mc) (hb : Below w.heap.size w w') : S.In w' LA lc IA ic MA mc :=
  ⟨h.labels.below hb, h.init.below hb, h.main.below hb, h.nl, h.ni, h.nm, h.restart, h.grace, h.prio⟩
theorem Lbls.at {w : World} {A : Option Addr} {l : List Lbl} (h : Lbls w A l) {k : Nat} (hk : k < l.length) : ∃ a, A = some a ∧ a.block < w.heap.size ∧ (l[k]).cellsAt w (a.add (k * 2)) := h k _ (List.getElem?_eq_getElem hk)
theorem Ctrs.at {w : World} {A : Option Addr} {l : List Ctr} (h : Ctrs w A l) {k : Nat} (hk : k < l.length) : (l[k]).Fits ∧ ∃ a P c, A = some a ∧ a.block < w.heap.size ∧ (l[k]).cellsAt P c w (a.add (k * 11)) ∧ Nums .i64 w P (l[k]).ports := h k _ (List.getElem?_eq_getElem hk)
end Sd
end Go.Proofs.YtpllcnpmjnmcfaaDoor
