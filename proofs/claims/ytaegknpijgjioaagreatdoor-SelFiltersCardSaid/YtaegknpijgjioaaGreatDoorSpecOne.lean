/-
  The contract of the document's word on a container (provostref06.one). Condition: what is looked at is not too long.
-/
import Derived.Test.YtaegknpijgjioaaGreatDoorSpecRefAll
import Derived.Test.YtaegknpijgjioaaGreatDoorRegionAll
import Derived.Laws.Tables
import Derived.Lib.QuietBelow
namespace Go.Proofs.YtaegknpijgjioaaGreatDoor
open Go.ChangeShapes Go.WideShapes Go.ChangeAt Go.RowKit Go.Lib
open Sd Lists Go.Sort Loose
namespace SpecRef

/-- a container in a box of its own -/
def Box (x : Ctr) (P : Option Addr) (c : Nat) (w : World) (b : Nat) : Prop :=
  w.heap[b]? = some (.cells #[.string x.name, .string x.image, .int .i64 x.rc, .int .i64 x.rm, .int .i64 x.rp, .int .i64 x.lc, .int .i64 x.lm, .int .i64 x.lp, .slice P x.ports.length c, .int .i64 x.ev, .int .i64 x.fl] 76 (0, 0))
structure BoxCells (x : Ctr) (P : Option Addr) (c : Nat) (w : World) (b : Nat) : Prop where
  c0 : w.cell? ⟨b, 0, none⟩ = some (.string x.name)
  c1 : w.cell? ⟨b, 1, none⟩ = some (.string x.image)
  c2 : w.cell? ⟨b, 2, none⟩ = some (.int .i64 x.rc)
  c3 : w.cell? ⟨b, 3, none⟩ = some (.int .i64 x.rm)
  c4 : w.cell? ⟨b, 4, none⟩ = some (.int .i64 x.rp)
  c5 : w.cell? ⟨b, 5, none⟩ = some (.int .i64 x.lc)
  c6 : w.cell? ⟨b, 6, none⟩ = some (.int .i64 x.lm)
  c7 : w.cell? ⟨b, 7, none⟩ = some (.int .i64 x.lp)
  c8 : w.cell? ⟨b, 8, none⟩ = some (.slice P x.ports.length c)
  c9 : w.cell? ⟨b, 9, none⟩ = some (.int .i64 x.ev)
  c10 : w.cell? ⟨b, 10, none⟩ = some (.int .i64 x.fl)
theorem Box.cells {x : Ctr} {P : Option Addr} {c : Nat} {w : World} {b : Nat} (h : Box x P c w b) : BoxCells x P c w b := by
  unfold Box at h
  constructor <;> simp [World.cell?, h]
theorem Box.lt {x : Ctr} {P : Option Addr} {c : Nat} {w : World} {b : Nat} (h : Box x P c w b) : b < w.heap.size := by
  rcases Nat.lt_or_ge b w.heap.size with hl | hl
  · exact hl
  · unfold Box at h; rw [Array.getElem?_eq_none hl] at h; cases h
theorem Box.below {x : Ctr} {P : Option Addr} {c : Nat} {w w' : World} {b : Nat} (h : Box x P c w b) (hb : Below w.heap.size w w') : Box x P c w' b := (hb.block b h.lt).trans h
/-- what the walk stands on: the container's box, those ahead, its ports -/
structure On (x : Ctr) (P : Option Addr) (c : Nat) (A : Option Addr) (l : List Ctr) (w0 : World) (b : Nat) (w : World) : Prop where
  box : Box x P c w b
  ahead : Ctrs w A l
  ports : Nums .i64 w P x.ports
  below : Below w0.heap.size w0 w
theorem On.next {x : Ctr} {P : Option Addr} {c : Nat} {A : Option Addr} {l : List Ctr} {w0 : World} {b : Nat} {w w' : World} (h : On x P c A l w0 b w) (hb : Below w.heap.size w w') : On x P c A l w0 b w' :=
  ⟨h.box.below hb, h.ahead.below hb, Nums.below h.ports hb, h.below.trans (hb.mono h.below.size)⟩
/-- the three names, in a row of their own -/
def Names (w : World) (N : Nat) : Prop := w.heap[N]? = some (.cells #[.string t_cpu, .string t_mem, .string t_pids] 9 (0, 0))
theorem Names.below {w w' : World} {N : Nat} (h : Names w N) (hb : Below w.heap.size w w') : Names w' N := by
  have hl : N < w.heap.size := by
    rcases Nat.lt_or_ge N w.heap.size with hl | hl
    · exact hl
    · unfold Names at h; rw [Array.getElem?_eq_none hl] at h; cases h
  exact (hb.block N hl).trans h
theorem Names.cell {w : World} {N : Nat} (h : Names w N) (k : Nat) (hk : k < 3) : w.cell? ⟨N, k, none⟩ = some (.string (t_res k)) := by
  unfold Names at h
  obtain rfl | rfl | rfl : k = 0 ∨ k = 1 ∨ k = 2 := by omega
  · simp only [World.cell?]; rw [h]; rfl
  · simp only [World.cell?]; rw [h]; rfl
  · simp only [World.cell?]; rw [h]; rfl
theorem res_size (k : Nat) : (t_res k).size ≤ 4 := by
  unfold t_res
  split
  · decide
  · split <;> decide
theorem numsV_range (free : Bool) (a b c l m n : Int) : numsV free a b c l m n = -1 ∨ ∃ k : Nat, k < 3 ∧ numsV free a b c l m n = k := by
  unfold numsV
  split
  · exact .inr ⟨0, by omega, rfl⟩
  · split
    · exact .inr ⟨1, by omega, rfl⟩
    · split
      · exact .inr ⟨2, by omega, rfl⟩
      · exact .inl rfl
theorem oneV_ports {x : Ctr} {l : List Ctr} {init : Bool} (h1 : isName x.name = true) (h2 : (l.any fun y => y.name.toList == x.name.toList) = false) (h3 : isImage x.image = true) (h4 : numsV false x.rc x.rm x.rp 0 0 0 = -1) (h5 : numsV true x.lc x.lm x.lp x.rc x.rm x.rp = -1)
    (h6 : ¬(3 < x.ports.length ∨ (init = true ∧ 0 < x.ports.length))) : oneV x l init = if (portsFrom l 0 [] x.ports).1 ≠ 0 then portsFrom l 0 [] x.ports else probeV x.ev x.fl init := by
  unfold oneV
  rw [if_neg (by rw [h1]; simp), if_neg (by rw [h2]; simp), if_neg (by rw [h3]; simp), if_neg (by rw [h4]; omega), if_neg (by rw [h5]; omega), if_neg h6]
theorem any_name {l : List Ctr} {s : ByteArray} {k : Nat} (hk : k < l.length) (h : (l[k].name.toList == s.toList) = true) : (l.any fun c => c.name.toList == s.toList) = true := List.any_eq_true.2 ⟨_, List.getElem_mem hk, h⟩
theorem none_name {l : List Ctr} {s : ByteArray} (h : ∀ c ∈ l, (c.name.toList == s.toList) = false) : (l.any fun c => c.name.toList == s.toList) = false := by
  cases e : l.any fun c => c.name.toList == s.toList
  · rfl
  · obtain ⟨c, hc, hq⟩ := List.any_eq_true.1 e
    rw [h c hc] at hq; cases hq
/-- a container that has ports alone -/
def justPorts (P : Option Addr) (k c : Nat) : Array Value := #[.string ⟨#[]⟩, .string ⟨#[]⟩, .int .i64 0, .int .i64 0, .int .i64 0, .int .i64 0, .int .i64 0, .int .i64 0, .slice P k c, .int .i64 0, .int .i64 0]
theorem build_ports (P : Option Addr) (k c : Nat) (w : World) : (Instr.build 76 #[(4, .slice P k c)]).run Tryz.prog w = .ok (.agg (justPorts P k c)) w := run_build w _ _ _ (by kernel_rfl)
/-- a row of one such container -/
def Row1 (P : Option Addr) (k c : Nat) (v : Value) (w : World) : Prop := ∃ g, v = .slice (some ⟨g, 0, none⟩) 1 1 ∧ w.heap[g]? = some (.cells (justPorts P k c) 76 (0, 0))
theorem ctrs_one {P : Option Addr} {k c g : Nat} {w : World} {zs : List Int} (h : w.heap[g]? = some (.cells (justPorts P k c) 76 (0, 0))) (hz : Nums .i64 w P zs) (hk : zs.length = k) (hc : k ≤ c) (hl : k ≤ 1000) :
    Ctrs w (some ⟨g, 0, none⟩) [⟨⟨#[]⟩, ⟨#[]⟩, 0, 0, 0, 0, 0, 0, zs, 0, 0⟩] := by
  intro i x hx
  have hg : g < w.heap.size := by
    rcases Nat.lt_or_ge g w.heap.size with hl | hl
    · exact hl
    · rw [Array.getElem?_eq_none hl] at h; cases h
  rcases i with _ | i
  · simp only [List.getElem?_cons_zero, Option.some.injEq] at hx
    subst hx
    subst hk
    refine ⟨by constructor <;> first | exact (show I64 0 from ⟨by decide, by decide⟩) | (show zs.length ≤ 9223372036854775807; omega), _, P, c, rfl, hg, ?_, hz⟩
    unfold Ctr.cellsAt
    unfold justPorts at h
    simp [World.cell?, h, Addr.add, hc]
  · simp at hx
theorem has_one (l : List Int) (q : Int) : hasV [⟨⟨#[]⟩, ⟨#[]⟩, 0, 0, 0, 0, 0, 0, l, 0, 0⟩] q = l.contains q := by simp [hasV]
/-- what each operation leaves -/
def F25 (A : Option Addr) (n cap : Nat) (b : Nat) (p : Addr) (m c k : Nat) (q : Int) (o : Bool) : Nat → Value → World → Prop
  | 0 => fun v _ => v = .slice A n cap
  | 1 => fun v _ => v = .pointer (some ⟨b, 8, none⟩)
  | 2 => fun v _ => v = .slice (some p) m c
  | 3 => fun v _ => v = .int .i64 (k : Nat)
  | 4 => fun v _ => v = .pointer (some (p.add k))
  | 5 => fun v _ => v = .int .i64 q
  | 6 => fun v _ => v = .bool false
  | 7 => fun v _ => v = .bool false
  | 8 => fun v _ => v = .pointer (some ⟨b, 8, none⟩)
  | 9 => fun v _ => v = .slice (some p) m c
  | 10 => fun v _ => v = .int .i64 (k : Nat)
  | 11 => fun v _ => v = .slice (some p) k c
  | 12 => fun v _ => v = .agg (justPorts (some p) k c)
  | 13 => Row1 (some p) k c
  | 14 => fun v _ => v = .pointer (some ⟨b, 8, none⟩)
  | 15 => fun v _ => v = .slice (some p) m c
  | 16 => fun v _ => v = .int .i64 (k : Nat)
  | 17 => fun v _ => v = .pointer (some (p.add k))
  | 18 => fun v _ => v = .int .i64 q
  | 19 => fun v _ => v = .bool o
  | _ => fun v _ => v = .bool o
theorem F25_keep (A : Option Addr) (n cap : Nat) (b : Nat) (p : Addr) (m c k : Nat) (q : Int) (o : Bool) (i : Nat) (v : Value) (w w' : World) (h : F25 A n cap b p m c k q o i v w) (hb : Below w.heap.size w w') : F25 A n cap b p m c k q o i v w' := by
  unfold F25 at h ⊢
  split at h <;> first
    | exact h
    | (obtain ⟨g, e, hg⟩ := h
       have hl : g < w.heap.size := by
         rcases Nat.lt_or_ge g w.heap.size with hl | hl
         · exact hl
         · rw [Array.getElem?_eq_none hl] at hg; cases hg
       exact ⟨g, e, (hb.block g hl).trans hg⟩)
/-- a slot written in a frame that stands written out -/
theorem put_lit (l : List Value) (ds : List Deferred) (d : Nat) (v : Value) : (Act.mk l.toArray ds).put (some d) v = Act.mk (l.set d v).toArray ds := by
  simp [Act.put]
/-- the ports: from k on -/
def PHere (l : List Ctr) (ports : List Int) (k : Nat) : Prop := portsFrom l 0 [] ports = portsFrom l k (ports.take k) (ports.drop k)
theorem phere_zero (l : List Ctr) (ports : List Int) : PHere l ports 0 := rfl
theorem phere_end {l : List Ctr} {ports : List Int} {k : Nat} (h : PHere l ports k) (hk : ports.length ≤ k) : portsFrom l 0 [] ports = fine := by
  unfold PHere at h
  rw [h, List.drop_eq_nil_of_le hk]; rfl
theorem phere_at {l : List Ctr} {ports : List Int} {k : Nat} (h : PHere l ports k) (hk : k < ports.length) : portsFrom l 0 [] ports =
    if ports[k] < 1 ∨ 65535 < ports[k] then (1, atB t_ports k) else if hasV l ports[k] || (ports.take k).contains ports[k] then (150, atB t_ports k) else portsFrom l (k + 1) (ports.take k ++ [ports[k]]) (ports.drop (k + 1)) := by
  unfold PHere at h
  rw [h, List.drop_eq_getElem_cons hk]; rfl
theorem phere_next {l : List Ctr} {ports : List Int} {k : Nat} (h : PHere l ports k) (hk : k < ports.length) (h1 : ¬(ports[k] < 1 ∨ 65535 < ports[k])) (h2 : (hasV l ports[k] || (ports.take k).contains ports[k]) = false) : PHere l ports (k + 1) := by
  have := phere_at h hk
  rw [if_neg h1, if_neg (by rw [h2]; simp)] at this
  unfold PHere
  rw [this, List.take_succ_eq_append_getElem hk]
end SpecRef
end Go.Proofs.YtaegknpijgjioaaGreatDoor
