/-
  The contract of the document's word on a spec (provostref06.Check). Condition: the spec is light (Book.Light).
-/
import Derived.Test.YtaegknpijgjioaaGreatDoorSpecOne
import Derived.Test.YtaegknpijgjioaaGreatDoorSpecRowAll
import Derived.Test.YtaegknpijgjioaaGreatDoorSpecDataAll
import Derived.Test.YtaegknpijgjioaaGreatDoorAppendAny
namespace Go.Proofs.YtaegknpijgjioaaGreatDoor
open Go.ChangeShapes Go.WideShapes Go.ChangeAt Go.RowKit Go.Lib
open Sd Lists Go.Sort
namespace SpecRef

/-- a spec in a box of its own -/
def SBox (S : Spc) (LA : Option Addr) (lc : Nat) (IA : Option Addr) (ic : Nat) (MA : Option Addr) (mc : Nat) (w : World) (b : Nat) : Prop :=
  w.heap[b]? = some (.cells #[.string S.name, .slice LA S.labels.length lc, .slice IA S.init.length ic, .slice MA S.main.length mc, .int .i64 S.restart, .int .i64 S.grace, .int .i64 S.prio] 30 (0, 0))
structure SCells (S : Spc) (LA : Option Addr) (lc : Nat) (IA : Option Addr) (ic : Nat) (MA : Option Addr) (mc : Nat) (w : World) (b : Nat) : Prop where
  c0 : w.cell? ⟨b, 0, none⟩ = some (.string S.name)
  c1 : w.cell? ⟨b, 1, none⟩ = some (.slice LA S.labels.length lc)
  c2 : w.cell? ⟨b, 2, none⟩ = some (.slice IA S.init.length ic)
  c3 : w.cell? ⟨b, 3, none⟩ = some (.slice MA S.main.length mc)
  c4 : w.cell? ⟨b, 4, none⟩ = some (.int .i64 S.restart)
  c5 : w.cell? ⟨b, 5, none⟩ = some (.int .i64 S.grace)
  c6 : w.cell? ⟨b, 6, none⟩ = some (.int .i64 S.prio)
theorem SBox.cells {S : Spc} {LA : Option Addr} {lc : Nat} {IA : Option Addr} {ic : Nat} {MA : Option Addr} {mc : Nat} {w : World} {b : Nat} (h : SBox S LA lc IA ic MA mc w b) : SCells S LA lc IA ic MA mc w b := by
  unfold SBox at h
  constructor <;> simp [World.cell?, h]
theorem SBox.lt {S : Spc} {LA : Option Addr} {lc : Nat} {IA : Option Addr} {ic : Nat} {MA : Option Addr} {mc : Nat} {w : World} {b : Nat} (h : SBox S LA lc IA ic MA mc w b) : b < w.heap.size := by
  rcases Nat.lt_or_ge b w.heap.size with hl | hl
  · exact hl
  · unfold SBox at h; rw [Array.getElem?_eq_none hl] at h; cases h
theorem SBox.below {S : Spc} {LA : Option Addr} {lc : Nat} {IA : Option Addr} {ic : Nat} {MA : Option Addr} {mc : Nat} {w w' : World} {b : Nat} (h : SBox S LA lc IA ic MA mc w b) (hb : Below w.heap.size w w') : SBox S LA lc IA ic MA mc w' b := (hb.block b h.lt).trans h
theorem info_ctr : (Tryz.prog.info? 76).map (fun i => (i.zero, i.size, i.bytes)) = some (some (.agg #[.string ⟨#[]⟩, .string ⟨#[]⟩, .int .i64 0, .int .i64 0, .int .i64 0, .int .i64 0, .int .i64 0, .int .i64 0, .slice none 0 0, .int .i64 0, .int .i64 0]), 11, 120) := by kernel_rfl
/-- the containers from k on, those ahead being known -/
def CHere (name : ByteArray) (init : Bool) (pre l : List Ctr) (k : Nat) : Prop := ctrsFrom name init 0 pre l = ctrsFrom name init k (pre ++ l.take k) (l.drop k)
theorem chere_zero (name : ByteArray) (init : Bool) (pre l : List Ctr) : CHere name init pre l 0 := by unfold CHere; simp
theorem chere_end {name : ByteArray} {init : Bool} {pre l : List Ctr} {k : Nat} (h : CHere name init pre l k) (hk : l.length ≤ k) : ctrsFrom name init 0 pre l = fine := by
  unfold CHere at h
  rw [h, List.drop_eq_nil_of_le hk]; rfl
theorem chere_at {name : ByteArray} {init : Bool} {pre l : List Ctr} {k : Nat} (h : CHere name init pre l k) (hk : k < l.length) : ctrsFrom name init 0 pre l =
    if (oneV l[k] (pre ++ l.take k) init).1 ≠ 0 then ((oneV l[k] (pre ++ l.take k) init).1, atB name k ++ ⟨#[46]⟩ ++ (oneV l[k] (pre ++ l.take k) init).2) else ctrsFrom name init (k + 1) (pre ++ l.take k ++ [l[k]]) (l.drop (k + 1)) := by
  unfold CHere at h
  rw [h, List.drop_eq_getElem_cons hk]; rfl
theorem chere_next {name : ByteArray} {init : Bool} {pre l : List Ctr} {k : Nat} (h : CHere name init pre l k) (hk : k < l.length) (h1 : (oneV l[k] (pre ++ l.take k) init).1 = 0) : CHere name init pre l (k + 1) := by
  have := chere_at h hk
  rw [if_neg (by rw [h1]; simp)] at this
  unfold CHere
  rw [this, List.take_succ_eq_append_getElem hk, List.append_assoc]
theorem ports_size (l : List Ctr) : ∀ (zs : List Int) (k : Nat) (seen : List Int), k + zs.length ≤ 1000 → (portsFrom l k seen zs).2.size ≤ 40
  | [], _, _, _ => by show (0 : Nat) ≤ 40; omega
  | z :: zs, k, seen, h => by
    have ha : (atB t_ports k).size ≤ 40 := Nat.le_trans (atB_size t_ports k (by simp at h; omega)) (by decide)
    rw [portsFrom]
    split
    · exact ha
    · split
      · exact ha
      · exact ports_size l zs (k + 1) _ (by simp at h; omega)
theorem one_size (x : Ctr) (l : List Ctr) (init : Bool) (hp : x.ports.length ≤ 1000) : (oneV x l init).2.size ≤ 40 := by
  have hr : ∀ n, (t_req ++ t_res n).size ≤ 40 := fun n => by
    unfold t_res
    split
    · decide
    · split <;> decide
  have hl : ∀ n, (t_lim ++ t_res n).size ≤ 40 := fun n => by
    unfold t_res
    split
    · decide
    · split <;> decide
  unfold oneV
  split; · decide
  split; · decide
  split; · decide
  split; · exact hr _
  split; · exact hl _
  split; · decide
  split
  · exact ports_size l x.ports 0 [] (by omega)
  · unfold probeV
    split; · decide
    split <;> decide
end SpecRef
end Go.Proofs.YtaegknpijgjioaaGreatDoor
