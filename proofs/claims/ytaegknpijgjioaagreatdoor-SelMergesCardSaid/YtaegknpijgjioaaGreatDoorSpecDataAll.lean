/-
  A list of texts, and a list of numbers, in memory. No condition. And what follows of it, part by part, each with its conditions.
-/
import Derived.Test.YtaegknpijgjioaaGreatDoorKit
import Derived.Test.YtaegknpijgjioaaGreatDoorChecked
import Derived.Lib.Hide
import Derived.WalkKit
import Derived.ProofKit
import Derived.Deep.QuietTactic
import Derived.BigQuiet
import Derived.Laws.StructEq
import Derived.KernelRfl
/- A list of texts, and a list of numbers, in memory. No condition. -/
namespace Go.Proofs.YtaegknpijgjioaaGreatDoor
open Go.RowKit
namespace Lists

theorem add_block (a : Addr) (k : Nat) : (a.add k).block = a.block := by
  unfold Addr.add; split <;> rfl
/-- the slice at A holds the texts xs -/
def Texts (w : World) (A : Option Addr) (xs : List ByteArray) : Prop := ∀ (k : Nat) (x : ByteArray), xs[k]? = some x → ∃ a, A = some a ∧ a.block < w.heap.size ∧ w.cell? (a.add k) = some (.string x)
/-- the slice at A holds the numbers zs -/
def Nums (q : IntKind) (w : World) (A : Option Addr) (zs : List Int) : Prop := ∀ (k : Nat) (z : Int), zs[k]? = some z → (Lit.int q z).wf = true ∧ ∃ a, A = some a ∧ a.block < w.heap.size ∧ w.cell? (a.add k) = some (.int q z)
theorem Texts.at {w : World} {A : Option Addr} {xs : List ByteArray} (h : Texts w A xs) {k : Nat} (hk : k < xs.length) : ∃ a, A = some a ∧ a.block < w.heap.size ∧ w.cell? (a.add k) = some (.string xs[k]) := h k _ (List.getElem?_eq_getElem hk)
theorem Nums.at {q : IntKind} {w : World} {A : Option Addr} {zs : List Int} (h : Nums q w A zs) {k : Nat} (hk : k < zs.length) : (Lit.int q zs[k]).wf = true ∧ ∃ a, A = some a ∧ a.block < w.heap.size ∧ w.cell? (a.add k) = some (.int q zs[k]) := h k _ (List.getElem?_eq_getElem hk)
end Lists
end Go.Proofs.YtaegknpijgjioaaGreatDoor

/- Specs in memory: labels, containers, a spec's value; what keeps them. No condition. -/
namespace Go.Proofs.YtaegknpijgjioaaGreatDoor
open Go.RowKit
namespace Sd
open Lists

/-- a label -/
structure Lbl where
  key : ByteArray
  val : ByteArray
/-- a container: its name, its image, what it asks for, what it may have, its ports, its probe -/
structure Ctr where
  name : ByteArray
  image : ByteArray
  rc : Int
  rm : Int
  rp : Int
  lc : Int
  lm : Int
  lp : Int
  ports : List Int
  ev : Int
  fl : Int
/-- a spec -/
structure Spc where
  name : ByteArray
  labels : List Lbl
  init : List Ctr
  main : List Ctr
  restart : Int
  grace : Int
  prio : Int
def I64 (z : Int) : Prop := -9223372036854775808 ≤ z ∧ z ≤ 9223372036854775807
/-- the cells of a label -/
def Lbl.cellsAt (x : Lbl) (w : World) (a : Addr) : Prop := w.cell? a = some (.string x.key) ∧ w.cell? ⟨a.block, a.off + 1, none⟩ = some (.string x.val)
/-- the cells of a container, its ports at P, with room for c -/
def Ctr.cells (x : Ctr) (P : Option Addr) (c : Nat) : List Value :=
  [.string x.name, .string x.image, .int .i64 x.rc, .int .i64 x.rm, .int .i64 x.rp, .int .i64 x.lc, .int .i64 x.lm, .int .i64 x.lp, .slice P x.ports.length c, .int .i64 x.ev, .int .i64 x.fl]
def Ctr.cellsAt (x : Ctr) (P : Option Addr) (c : Nat) (w : World) (a : Addr) : Prop :=
  w.cell? a = some (.string x.name) ∧ w.cell? ⟨a.block, a.off + 1, none⟩ = some (.string x.image) ∧
  w.cell? ⟨a.block, a.off + 2, none⟩ = some (.int .i64 x.rc) ∧ w.cell? ⟨a.block, a.off + 3, none⟩ = some (.int .i64 x.rm) ∧ w.cell? ⟨a.block, a.off + 4, none⟩ = some (.int .i64 x.rp) ∧
  w.cell? ⟨a.block, a.off + 5, none⟩ = some (.int .i64 x.lc) ∧ w.cell? ⟨a.block, a.off + 6, none⟩ = some (.int .i64 x.lm) ∧ w.cell? ⟨a.block, a.off + 7, none⟩ = some (.int .i64 x.lp) ∧
  w.cell? ⟨a.block, a.off + 8, none⟩ = some (.slice P x.ports.length c) ∧ w.cell? ⟨a.block, a.off + 9, none⟩ = some (.int .i64 x.ev) ∧ w.cell? ⟨a.block, a.off + 10, none⟩ = some (.int .i64 x.fl) ∧ x.ports.length ≤ c
/-- its numbers fit -/
structure Ctr.Fits (x : Ctr) : Prop where
  rc : I64 x.rc
  rm : I64 x.rm
  rp : I64 x.rp
  lc : I64 x.lc
  lm : I64 x.lm
  lp : I64 x.lp
  ev : I64 x.ev
  fl : I64 x.fl
  ports : x.ports.length ≤ 9223372036854775807
/-- a list of labels at A -/
def Lbls (w : World) (A : Option Addr) (l : List Lbl) : Prop := ∀ (k : Nat) (x : Lbl), l[k]? = some x → ∃ a, A = some a ∧ a.block < w.heap.size ∧ x.cellsAt w (a.add (k * 2))
/-- a list of containers at A -/
def Ctrs (w : World) (A : Option Addr) (l : List Ctr) : Prop := ∀ (k : Nat) (x : Ctr), l[k]? = some x → x.Fits ∧ ∃ a P c, A = some a ∧ a.block < w.heap.size ∧ x.cellsAt P c w (a.add (k * 11)) ∧ Nums .i64 w P x.ports
/-- a spec's value, and its lists -/
structure Spc.In (S : Spc) (w : World) (LA : Option Addr) (lc : Nat) (IA : Option Addr) (ic : Nat) (MA : Option Addr) (mc : Nat) : Prop where
  labels : Lbls w LA S.labels
  init : Ctrs w IA S.init
  main : Ctrs w MA S.main
  nl : S.labels.length ≤ 9223372036854775807
  ni : S.init.length ≤ 9223372036854775807
  nm : S.main.length ≤ 9223372036854775807
  restart : I64 S.restart
  grace : I64 S.grace
  prio : I64 S.prio
def Spc.cells (S : Spc) (LA : Option Addr) (lc : Nat) (IA : Option Addr) (ic : Nat) (MA : Option Addr) (mc : Nat) : Array Value :=
  #[.string S.name, .slice LA S.labels.length lc, .slice IA S.init.length ic, .slice MA S.main.length mc, .int .i64 S.restart, .int .i64 S.grace, .int .i64 S.prio]
theorem Lbl.cellsAt.keep {x : Lbl} {w w' : World} {a : Addr} (h : x.cellsAt w a) (hb : w'.heap[a.block]? = w.heap[a.block]?) : x.cellsAt w' a := by
  have e : ∀ p : Addr, p.block = a.block → w'.cell? p = w.cell? p := fun p hp => World.cell?_of_block (by rw [hp]; exact hb)
  unfold Lbl.cellsAt at *
  rw [e a rfl, e ⟨a.block, a.off + 1, none⟩ rfl]
  exact h
theorem Ctr.cellsAt.keep {x : Ctr} {P : Option Addr} {c : Nat} {w w' : World} {a : Addr} (h : x.cellsAt P c w a) (hb : w'.heap[a.block]? = w.heap[a.block]?) : x.cellsAt P c w' a := by
  have e : ∀ p : Addr, p.block = a.block → w'.cell? p = w.cell? p := fun p hp => World.cell?_of_block (by rw [hp]; exact hb)
  unfold Ctr.cellsAt at *
  rw [e a rfl, e ⟨a.block, a.off + 1, none⟩ rfl, e ⟨a.block, a.off + 2, none⟩ rfl, e ⟨a.block, a.off + 3, none⟩ rfl, e ⟨a.block, a.off + 4, none⟩ rfl, e ⟨a.block, a.off + 5, none⟩ rfl, e ⟨a.block, a.off + 6, none⟩ rfl, e ⟨a.block, a.off + 7, none⟩ rfl, e ⟨a.block, a.off + 8, none⟩ rfl, e ⟨a.block, a.off + 9, none⟩ rfl, e ⟨a.block, a.off + 10, none⟩ rfl]
  exact h
theorem Nums.below {q : IntKind} {w w' : World} {A : Option Addr} {l : List Int} (h : Nums q w A l) (hb : Below w.heap.size w w') : Nums q w' A l := by
  intro k x hk
  obtain ⟨h1, a, hA, ha, hc⟩ := h k x hk
  exact ⟨h1, a, hA, Nat.lt_of_lt_of_le ha hb.size, (hb.cell (p := a.add k) (by rw [add_block]; exact ha)).trans hc⟩
theorem Lbls.below {w w' : World} {A : Option Addr} {l : List Lbl} (h : Lbls w A l) (hb : Below w.heap.size w w') : Lbls w' A l := by
  intro k x hk
  obtain ⟨a, hA, ha, hc⟩ := h k x hk
  exact ⟨a, hA, Nat.lt_of_lt_of_le ha hb.size, hc.keep (by rw [add_block]; exact hb.block _ ha)⟩
theorem Ctrs.below {w w' : World} {A : Option Addr} {l : List Ctr} (h : Ctrs w A l) (hb : Below w.heap.size w w') : Ctrs w' A l := by
  intro k x hk
  obtain ⟨hf, a, P, c, hA, ha, hc, hn⟩ := h k x hk
  exact ⟨hf, a, P, c, hA, Nat.lt_of_lt_of_le ha hb.size, hc.keep (by rw [add_block]; exact hb.block _ ha), Nums.below hn hb⟩
theorem Spc.In.below {S : Spc} {w w' : World} {LA : Option Addr} {lc : Nat} {IA : Option Addr} {ic : Nat} {MA : Option Addr} {mc : Nat} (h : S.In w LA lc IA ic MA mc) (hb : Below w.heap.size w w') : S.In w' LA lc IA ic MA mc :=
  ⟨h.labels.below hb, h.init.below hb, h.main.below hb, h.nl, h.ni, h.nm, h.restart, h.grace, h.prio⟩
theorem Lbls.at {w : World} {A : Option Addr} {l : List Lbl} (h : Lbls w A l) {k : Nat} (hk : k < l.length) : ∃ a, A = some a ∧ a.block < w.heap.size ∧ (l[k]).cellsAt w (a.add (k * 2)) := h k _ (List.getElem?_eq_getElem hk)
theorem Ctrs.at {w : World} {A : Option Addr} {l : List Ctr} (h : Ctrs w A l) {k : Nat} (hk : k < l.length) : (l[k]).Fits ∧ ∃ a P c, A = some a ∧ a.block < w.heap.size ∧ (l[k]).cellsAt P c w (a.add (k * 11)) ∧ Nums .i64 w P (l[k]).ports := h k _ (List.getElem?_eq_getElem hk)
end Sd
end Go.Proofs.YtaegknpijgjioaaGreatDoor

/- The contract of the laws' own helper LightSpec: is a spec not too long? No condition. -/
namespace Go.Proofs.YtaegknpijgjioaaGreatDoor
open Go.ChangeShapes Go.WideShapes Go.ChangeAt Go.RowKit Go.Lib
open Sd Lists
namespace Book

def lightC (x : Ctr) : Prop := x.name.size ≤ 100 ∧ x.image.size ≤ 100 ∧ x.ports.length ≤ 10
def lightL (x : Lbl) : Prop := x.key.size ≤ 100 ∧ x.val.size ≤ 100
/-- a list of containers that is not too long -/
def lightCs (l : List Ctr) : Prop := ∀ x ∈ l, lightC x
def lightLs (l : List Lbl) : Prop := ∀ x ∈ l, lightL x
/-- a spec that is not too long -/
def Light (S : Spc) : Prop := (S.name.size ≤ 100 ∧ S.labels.length ≤ 10 ∧ S.init.length ≤ 8 ∧ S.main.length ≤ 8) ∧ lightLs S.labels ∧ lightCs S.init ∧ lightCs S.main
def lightCsB (l : List Ctr) : Bool := l.all fun x => decide (x.name.size ≤ 100) && decide (x.image.size ≤ 100) && decide (x.ports.length ≤ 10)
def lightLsB (l : List Lbl) : Bool := l.all fun x => decide (x.key.size ≤ 100) && decide (x.val.size ≤ 100)
def LightB (S : Spc) : Bool := decide (S.name.size ≤ 100) && decide (S.labels.length ≤ 10) && decide (S.init.length ≤ 8) && decide (S.main.length ≤ 8) && lightLsB S.labels && lightCsB S.init && lightCsB S.main
theorem lightCsB_iff {l : List Ctr} : lightCsB l = true ↔ lightCs l := by simp [lightCsB, lightCs, lightC, and_assoc]
theorem lightLsB_iff {l : List Lbl} : lightLsB l = true ↔ lightLs l := by simp [lightLsB, lightLs, lightL]
theorem LightB_iff {S : Spc} : LightB S = true ↔ Light S := by simp [LightB, Light, lightCsB_iff, lightLsB_iff, and_assoc]
theorem lightCsB_of {l : List Ctr} (h : lightCs l) : lightCsB l = true := lightCsB_iff.2 h
theorem lightCsB_not {l : List Ctr} (h : ¬ lightCs l) : lightCsB l = false := by
  cases e : lightCsB l
  · rfl
  · exact absurd (lightCsB_iff.1 e) h
theorem LightB_not {S : Spc} (h : ¬ Light S) : LightB S = false := by
  cases e : LightB S
  · rfl
  · exact absurd (LightB_iff.1 e) h
theorem ret_bool {a b : Bool} (h : a = b) : Ending.returned (.bool a) = .returned (.bool b) := by rw [h]
set_option maxRecDepth 100000 in
theorem lightCs_any (A : Option Addr) (cap : Nat) (l : List Ctr) (hl : l.length ≤ 9223372036854775807) (w : World) (h : Ctrs w A l) :
    Calls Tryz.prog 23 #[.slice A l.length cap] w fun e w' => e = .returned (.bool (lightCsB l)) ∧ w = w' := by
  have H := Lib.hid h
  clear h
  have hl' : (l.length : Int) ≤ 9223372036854775807 := by omega
  clear hl
  go_enter Tryz.func23, Tryz.ntmps23
  go_wp2_with fail
  go_loop [3] (fun i => ∃ k : Nat, k ≤ l.length ∧ i = .int .i64 k ∧ Hid (∀ x ∈ l.take k, lightC x)) (fun i => l.length - (RowKit.intOf i).toNat)
  case atStart => exact ⟨0, Nat.zero_le _, rfl, fun x hx => by simp at hx⟩
  case round =>
    obtain ⟨k, hk, rfl, HA⟩ := hrel
    by_cases hlt : k < l.length
    · obtain ⟨hF, a, P, c, rfl, ha, hc, hN⟩ := H.out.at hlt
      have hp := hF.ports
      obtain ⟨x, hx⟩ : ∃ x, l[k] = x := ⟨_, rfl⟩
      rw [hx] at hc hp
      obtain ⟨h0, h1, _, _, _, _, _, _, h8, _, _⟩ := hc
      have HX := Lib.hid hx
      clear hx hF ha hN
      by_cases hy : lightC x
      · obtain ⟨y0, y1, y2⟩ := hy
        have HY := Lib.hid (show lightC x from ⟨y0, y1, y2⟩)
        go_wp2
        go_round
        case rel =>
          refine ⟨k + 1, by omega, by go_num, ?_⟩
          intro z hz
          rw [List.take_succ_eq_append_getElem hlt, HX.out] at hz
          rcases List.mem_append.1 hz with hz | hz
          · exact HA.out z hz
          · rw [List.mem_singleton.1 hz]; exact HY.out
        case measure => simp [RowKit.intOf]; omega
      · have HN := Lib.hid (show lightCsB l = false from lightCsB_not (fun hh => hy (hh x (HX.out ▸ List.getElem_mem hlt))))
        have hy' : 100 < x.name.size ∨ 100 < x.image.size ∨ 10 < x.ports.length := by
          unfold lightC at hy
          omega
        clear hy
        by_cases y0 : 100 < x.name.size
        · clear hy'
          go_wp2
          go_ret
          exact ⟨ret_bool HN.out.symm, rfl⟩
        · by_cases y1 : 100 < x.image.size
          · clear hy'
            go_wp2
            go_ret
            exact ⟨ret_bool HN.out.symm, rfl⟩
          · have y2 : 10 < x.ports.length := by omega
            clear hy'
            go_wp2
            go_ret
            exact ⟨ret_bool HN.out.symm, rfl⟩
    · have HN := Lib.hid (show lightCsB l = true from lightCsB_of (fun x hx => HA.out x (by rw [List.take_of_length_le (by omega)]; exact hx)))
      go_wp2
      go_ret
      exact ⟨ret_bool HN.out.symm, rfl⟩
set_option maxRecDepth 100000 in
set_option maxHeartbeats 1000000 in
/-- LIGHTSPEC -/
theorem light_any (S : Spc) (LA : Option Addr) (lc : Nat) (IA : Option Addr) (ic : Nat) (MA : Option Addr) (mc : Nat) (w : World) (h : S.In w LA lc IA ic MA mc) :
    Calls Tryz.prog 9 #[.agg #[.string S.name, .slice LA S.labels.length lc, .slice IA S.init.length ic, .slice MA S.main.length mc, .int .i64 S.restart, .int .i64 S.grace, .int .i64 S.prio]] w fun e w' => e = .returned (.bool (LightB S)) ∧ Below w.heap.size w w' := by
  have H := Lib.hid h
  have hl' : (S.labels.length : Int) ≤ 9223372036854775807 := by have := h.nl; omega
  have hi' : (S.init.length : Int) ≤ 9223372036854775807 := by have := h.ni; omega
  have hm' : (S.main.length : Int) ≤ 9223372036854775807 := by have := h.nm; omega
  clear h
  have HB := fun o => Lib.hid (show Below w.heap.size w (w.alloc o) from (Below.refl _ _).alloc (Nat.le_refl _) _)
  by_cases hc : S.name.size ≤ 100 ∧ S.labels.length ≤ 10 ∧ S.init.length ≤ 8 ∧ S.main.length ≤ 8
  · obtain ⟨y0, y1, y2, y3⟩ := hc
    have HC := Lib.hid (show S.name.size ≤ 100 ∧ S.labels.length ≤ 10 ∧ S.init.length ≤ 8 ∧ S.main.length ≤ 8 from ⟨y0, y1, y2, y3⟩)
    go_enter Tryz.func9, Tryz.ntmps9
    go_wp2_with fail
    have HI := Lib.hid (H.out.below (HB (.cells #[.string S.name, .slice LA S.labels.length lc, .slice IA S.init.length ic, .slice MA S.main.length mc, .int .i64 S.restart, .int .i64 S.grace, .int .i64 S.prio] 30)).out)
    go_loop [4] (fun i => ∃ k : Nat, k ≤ S.labels.length ∧ i = .int .i64 k ∧ Hid (∀ x ∈ S.labels.take k, lightL x)) (fun i => S.labels.length - (RowKit.intOf i).toNat)
    case atStart => exact ⟨0, Nat.zero_le _, rfl, fun x hx => by simp at hx⟩
    case round =>
      obtain ⟨k, hk, rfl, HA⟩ := hrel
      by_cases hlt : k < S.labels.length
      · obtain ⟨a, rfl, ha, hc⟩ := HI.out.labels.at hlt
        obtain ⟨x, hx⟩ : ∃ x, S.labels[k] = x := ⟨_, rfl⟩
        rw [hx] at hc
        obtain ⟨h0, h1⟩ := hc
        have HX := Lib.hid hx
        clear hx ha
        by_cases hy : lightL x
        · obtain ⟨y0, y1⟩ := hy
          have HY := Lib.hid (show lightL x from ⟨y0, y1⟩)
          go_wp2
          go_round
          case rel =>
            refine ⟨k + 1, by omega, by go_num, ?_⟩
            intro z hz
            rw [List.take_succ_eq_append_getElem hlt, HX.out] at hz
            rcases List.mem_append.1 hz with hz | hz
            · exact HA.out z hz
            · rw [List.mem_singleton.1 hz]; exact HY.out
          case measure => simp [RowKit.intOf]; omega
        · have HN := Lib.hid (show LightB S = false from LightB_not (fun hh => hy (hh.2.1 x (HX.out ▸ List.getElem_mem hlt))))
          have hy' : 100 < x.key.size ∨ 100 < x.val.size := by
            unfold lightL at hy
            omega
          clear hy
          by_cases y0 : 100 < x.key.size
          · clear hy'
            go_wp2
            go_ret
            exact ⟨ret_bool HN.out.symm, (HB _).out⟩
          · have y1 : 100 < x.val.size := by omega
            clear hy'
            go_wp2
            go_ret
            exact ⟨ret_bool HN.out.symm, (HB _).out⟩
      · have HLS := Lib.hid (show lightLs S.labels from fun x hx => HA.out x (by rw [List.take_of_length_le (by omega)]; exact hx))
        go_wp2_with fail
        refine (lightCs_any IA ic S.init HI.out.ni _ HI.out.init).mono ?_
        rintro e w' ⟨rfl, rfl⟩
        cases hci : lightCsB S.init with
        | false =>
          have HN := Lib.hid (show LightB S = false from LightB_not (fun hh => by rw [lightCsB_of hh.2.2.1] at hci; cases hci))
          clear hci
          go_wp2
          go_ret
          exact ⟨ret_bool HN.out.symm, (HB _).out⟩
        | true =>
          have HCI := Lib.hid (lightCsB_iff.1 hci)
          clear hci
          go_wp2_with fail
          refine (lightCs_any MA mc S.main HI.out.nm _ HI.out.main).mono ?_
          rintro e w' ⟨rfl, rfl⟩
          cases hcm : lightCsB S.main with
          | false =>
            have HN := Lib.hid (show LightB S = false from LightB_not (fun hh => by rw [lightCsB_of hh.2.2.2] at hcm; cases hcm))
            clear hcm
            go_wp2
            go_ret
            exact ⟨ret_bool HN.out.symm, (HB _).out⟩
          | true =>
            have HN := Lib.hid (show LightB S = true from LightB_iff.2 ⟨HC.out, HLS.out, HCI.out, lightCsB_iff.1 hcm⟩)
            clear hcm
            go_wp2
            go_ret
            exact ⟨ret_bool HN.out.symm, (HB _).out⟩
  · have HN := Lib.hid (show LightB S = false from LightB_not (fun hh => hc hh.1))
    have hc' : 100 < S.name.size ∨ 10 < S.labels.length ∨ 8 < S.init.length ∨ 8 < S.main.length := by omega
    clear hc
    by_cases y0 : 100 < S.name.size
    · clear hc'
      go_enter Tryz.func9, Tryz.ntmps9
      go_wp2
      go_ret
      exact ⟨ret_bool HN.out.symm, (HB _).out⟩
    · by_cases y1 : 10 < S.labels.length
      · clear hc'
        go_enter Tryz.func9, Tryz.ntmps9
        go_wp2
        go_ret
        exact ⟨ret_bool HN.out.symm, (HB _).out⟩
      · by_cases y2 : 8 < S.init.length
        · clear hc'
          go_enter Tryz.func9, Tryz.ntmps9
          go_wp2
          go_ret
          exact ⟨ret_bool HN.out.symm, (HB _).out⟩
        · have y3 : 8 < S.main.length := by omega
          clear hc'
          go_enter Tryz.func9, Tryz.ntmps9
          go_wp2
          go_ret
          exact ⟨ret_bool HN.out.symm, (HB _).out⟩
end Book
end Go.Proofs.YtaegknpijgjioaaGreatDoor

/- The contracts of the laws' own helpers SameInts, SameLabels, SameContainers, SameSpec: are lists of numbers, of labels, of containers, are specs the same? No condition. -/
namespace Go.Proofs.YtaegknpijgjioaaGreatDoor
open Go.ChangeShapes Go.WideShapes Go.ChangeAt Go.RowKit Go.Lib
open Sd Lists
namespace Book

/-- the same member by member, by a test -/
def sameAll {α : Type} (f : α → α → Bool) : List α → List α → Bool
  | [], [] => true
  | x :: xs, y :: ys => f x y && sameAll f xs ys
  | [], _ :: _ => false
  | _ :: _, [] => false
theorem sameAll_iff {α : Type} {f : α → α → Bool} (hf : ∀ x y, f x y = true ↔ x = y) : ∀ a b : List α, sameAll f a b = true ↔ a = b
  | [], [] => by simp [sameAll]
  | x :: xs, y :: ys => by simp [sameAll, hf, sameAll_iff hf xs ys]
  | [], _ :: _ => by simp [sameAll]
  | _ :: _, [] => by simp [sameAll]
theorem text_eq (a b : ByteArray) : a.toList = b.toList ↔ a = b := by
  rw [ByteArray.toList_eq, ByteArray.toList_eq]
  exact ⟨fun h => ByteArray.ext (Array.ext' h), fun h => by rw [h]⟩
def sameIs (a b : List Int) : Bool := sameAll (fun x y => x == y) a b
theorem sameIs_iff {a b : List Int} : sameIs a b = true ↔ a = b := sameAll_iff (by simp) a b
def sameL (x y : Lbl) : Bool := x.key.toList == y.key.toList && x.val.toList == y.val.toList
theorem sameL_iff (x y : Lbl) : sameL x y = true ↔ x = y := by
  cases x; cases y; simp [sameL, text_eq]
def sameLs (a b : List Lbl) : Bool := sameAll sameL a b
theorem sameLs_iff {a b : List Lbl} : sameLs a b = true ↔ a = b := sameAll_iff sameL_iff a b
def sameC (x y : Ctr) : Bool := x.name.toList == y.name.toList && x.image.toList == y.image.toList && (x.rc == y.rc && x.rm == y.rm && x.rp == y.rp) && (x.lc == y.lc && x.lm == y.lm && x.lp == y.lp) && sameIs x.ports y.ports && (x.ev == y.ev && x.fl == y.fl)
theorem sameC_iff (x y : Ctr) : sameC x y = true ↔ x = y := by
  cases x; cases y; simp [sameC, sameIs_iff, and_assoc, text_eq]
def sameCs (a b : List Ctr) : Bool := sameAll sameC a b
theorem sameCs_iff {a b : List Ctr} : sameCs a b = true ↔ a = b := sameAll_iff sameC_iff a b
def sameS (S T : Spc) : Bool := S.name.toList == T.name.toList && sameLs S.labels T.labels && sameCs S.init T.init && sameCs S.main T.main && S.restart == T.restart && S.grace == T.grace && S.prio == T.prio
theorem sameS_iff (S T : Spc) : sameS S T = true ↔ S = T := by
  cases S; cases T; simp [sameS, sameLs_iff, sameCs_iff, and_assoc, text_eq]
theorem bool_of {a : Bool} {p : Prop} (h : a = true ↔ p) : (p → a = true) ∧ (¬ p → a = false) :=
  ⟨h.2, fun hn => by
    cases a
    · rfl
    · exact absurd (h.1 rfl) hn⟩
/-- the loop's head: so far the same, or not the same at all -/
def Far {α : Type} (a b : List α) (k : Nat) (sm : Bool) : Prop := (sm = true → a.length = b.length ∧ a.take k = b.take k) ∧ (sm = false → a ≠ b)
theorem Far.start {α : Type} (a b : List α) : Far a b 0 (decide (a.length = b.length)) :=
  ⟨fun h => ⟨of_decide_eq_true h, by simp⟩, fun h e => of_decide_eq_false h (by rw [e])⟩
theorem Far.next {α : Type} {a b : List α} {k : Nat} (h : Far a b k true) (ha : k < a.length) (hb : k < b.length) {t : Bool} (ht : t = true ↔ a[k] = b[k]) : Far a b (k + 1) t := by
  refine ⟨fun e => ⟨(h.1 rfl).1, ?_⟩, fun e e' => ?_⟩
  · rw [List.take_succ_eq_append_getElem ha, List.take_succ_eq_append_getElem hb, (h.1 rfl).2, ht.1 e]
  · subst e'
    rw [ht.2 rfl] at e
    cases e
theorem Far.done {α : Type} {a b : List α} {k : Nat} {sm : Bool} (h : Far a b k sm) (hk : sm = true → a.length ≤ k) : sm = true ↔ a = b := by
  constructor
  · intro e
    have h1 := h.1 e
    have h2 := hk e
    rw [List.take_of_length_le h2, List.take_of_length_le (by omega)] at h1
    exact h1.2
  · intro e
    cases sm
    · exact absurd e (h.2 rfl)
    · rfl
theorem far_start {α : Type} (a b : List α) : Hid (Far a b 0 ((a.length : Int) == (b.length : Int))) := by
  have := Far.start a b
  have e : ((a.length : Int) == (b.length : Int)) = decide (a.length = b.length) := by
    rw [Bool.eq_iff_iff]; simp; omega
  rw [e]
  exact this
theorem ret_b {a b : Bool} (h : a = b) : Ending.returned (.bool a) = .returned (.bool b) := by rw [h]
theorem same_bool {a b : Bool} (h : a = true ↔ b = true) : a = b := by cases a <;> cases b <;> simp_all
def resB (a b c a' b' c' : Int) : Bool := a == a' && b == b' && c == c'
def probeB (a b a' b' : Int) : Bool := a == a' && b == b'
theorem eql_label (x y : Lbl) (v : World) : (binOp BinOp.eql 49 (.agg #[.string x.key, .string x.val]) (.agg #[.string y.key, .string y.val])).run Tryz.prog v = .ok (.bool (sameL x y)) v := by
  have hS : Tryz.prog.underlying 49 = some (.struct (Tryz.prog.fieldsOf 49)) := by kernel_rfl
  have hp : Tryz.prog.stoodInHeld 49 = false := by kernel_rfl
  have u := Tryz.underlying9
  have a := Tryz.isAgg9
  have z := Tryz.sizeOf9
  rw [run_eql_struct, show (10000 : Nat) = 9999 + 1 from rfl, run_equalIn_agg v 9999 49 _ _ hS hp]
  simp only [Program.fieldsOf, Tryz.underlying49]
  go_simp
  unfold sameL
  by_cases h1 : x.key.toList = y.key.toList <;> by_cases h2 : x.val.toList = y.val.toList <;> simp [h1, h2]
theorem eql_res (a b c a' b' c' : Int) (v : World) : (binOp BinOp.eql 72 (.agg #[.int .i64 a, .int .i64 b, .int .i64 c]) (.agg #[.int .i64 a', .int .i64 b', .int .i64 c'])).run Tryz.prog v = .ok (.bool (resB a b c a' b' c')) v := by
  have hS : Tryz.prog.underlying 72 = some (.struct (Tryz.prog.fieldsOf 72)) := by kernel_rfl
  have hp : Tryz.prog.stoodInHeld 72 = false := by kernel_rfl
  have u := Tryz.underlying3
  have a0 := Tryz.isAgg3
  have z := Tryz.sizeOf3
  rw [run_eql_struct, show (10000 : Nat) = 9999 + 1 from rfl, run_equalIn_agg v 9999 72 _ _ hS hp]
  simp only [Program.fieldsOf, Tryz.underlying72]
  go_simp
  unfold resB
  by_cases h1 : a = a' <;> by_cases h2 : b = b' <;> by_cases h3 : c = c' <;> simp [h1, h2, h3]
theorem eql_probe (a b a' b' : Int) (v : World) : (binOp BinOp.eql 74 (.agg #[.int .i64 a, .int .i64 b]) (.agg #[.int .i64 a', .int .i64 b'])).run Tryz.prog v = .ok (.bool (probeB a b a' b')) v := by
  have hS : Tryz.prog.underlying 74 = some (.struct (Tryz.prog.fieldsOf 74)) := by kernel_rfl
  have hp : Tryz.prog.stoodInHeld 74 = false := by kernel_rfl
  have u := Tryz.underlying3
  have a0 := Tryz.isAgg3
  have z := Tryz.sizeOf3
  rw [run_eql_struct, show (10000 : Nat) = 9999 + 1 from rfl, run_equalIn_agg v 9999 74 _ _ hS hp]
  simp only [Program.fieldsOf, Tryz.underlying74]
  go_simp
  unfold probeB
  by_cases h1 : a = a' <;> by_cases h2 : b = b' <;> simp [h1, h2]
set_option maxRecDepth 100000 in
theorem sameInts_any (A : Option Addr) (ac : Nat) (a : List Int) (B : Option Addr) (bc : Nat) (b : List Int) (hl : a.length ≤ 9223372036854775807) (hm : b.length ≤ 9223372036854775807) (w : World) (hA : Nums .i64 w A a) (hB : Nums .i64 w B b) :
    Calls Tryz.prog 40 #[.slice A a.length ac, .slice B b.length bc] w fun e w' => e = .returned (.bool (sameIs a b)) ∧ Below w.heap.size w w' := by
  have HA := Lib.hid hA
  have HB := Lib.hid hB
  have hl' : (a.length : Int) ≤ 9223372036854775807 := by omega
  have hm' : (b.length : Int) ≤ 9223372036854775807 := by omega
  clear hA hB hl hm
  go_enter Tryz.func40, Tryz.ntmps40
  go_wp2_with fail
  go_loopw [5, 6] (fun sm i wr => ∃ (k : Nat) (s : Bool), k ≤ a.length ∧ sm = .bool s ∧ i = .int .i64 k ∧ Hid (Below w.heap.size w wr) ∧ Hid (Far a b k s)) (fun _ i _ => a.length - (RowKit.intOf i).toNat)
  case atStart => exact ⟨0, _, Nat.zero_le _, rfl, rfl, Below.refl _ _, far_start a b⟩
  case round =>
    obtain ⟨k, s, hk, rfl, rfl, HW, HF⟩ := hrel
    cases s with
    | false =>
      have HD := Lib.hid (show false = sameIs a b from same_bool ((HF.out.done (fun h => by cases h)).trans sameIs_iff.symm))
      go_wp2
      go_ret
      exact ⟨ret_b HD.out, HW.out⟩
    | true =>
      have hlen := (HF.out.1 rfl).1
      by_cases hlt : k < a.length
      · have hlb : k < b.length := by omega
        obtain ⟨_, p, rfl, hp, hc⟩ := (Nums.below HA.out HW.out).at hlt
        obtain ⟨_, q, rfl, hq, hd⟩ := (Nums.below HB.out HW.out).at hlb
        obtain ⟨t, ht⟩ : ∃ t : Bool, (a[k] == b[k]) = t := ⟨_, rfl⟩
        have HN := Lib.hid (show Far a b (k + 1) t from HF.out.next hlt hlb (by rw [← ht]; exact beq_iff_eq))
        obtain ⟨x, hx⟩ : ∃ x, a[k] = x := ⟨_, rfl⟩
        obtain ⟨y, hy⟩ : ∃ y, b[k] = y := ⟨_, rfl⟩
        rw [hx] at hc ht
        rw [hy] at hd ht
        clear hx hy hp hq hlen
        have hka : (k : Int) < (a.length : Int) := by omega
        have hkb : (k : Int) < (b.length : Int) := by omega
        go_wp2_with fail
        go_quiet (fail)
        go_wp2
        go_roundw
        case rel => exact ⟨k + 1, t, by omega, rfl, by go_num, HW.out.trans ((Kit.below_drewN _ _ _).mono HW.out.size), HN.out⟩
        case measure => simp [RowKit.intOf]; omega
      · have HD := Lib.hid (show true = sameIs a b from same_bool ((HF.out.done (fun _ => by omega)).trans sameIs_iff.symm))
        have hka : ¬ (k : Int) < (a.length : Int) := by omega
        clear hlen
        go_wp2
        go_ret
        exact ⟨ret_b HD.out, HW.out⟩
set_option maxRecDepth 100000 in
theorem sameLabels_any (A : Option Addr) (ac : Nat) (a : List Lbl) (B : Option Addr) (bc : Nat) (b : List Lbl) (hl : a.length ≤ 9223372036854775807) (hm : b.length ≤ 9223372036854775807) (w : World) (hA : Lbls w A a) (hB : Lbls w B b) :
    Calls Tryz.prog 16 #[.slice A a.length ac, .slice B b.length bc] w fun e w' => e = .returned (.bool (sameLs a b)) ∧ Below w.heap.size w w' := by
  have HA := Lib.hid hA
  have HB := Lib.hid hB
  have hl' : (a.length : Int) ≤ 9223372036854775807 := by omega
  have hm' : (b.length : Int) ≤ 9223372036854775807 := by omega
  have hgd : Tryz.prog.eqGuardType Tryz.prog.depth 49 = false := by kernel_rfl
  clear hA hB hl hm
  go_enter Tryz.func16, Tryz.ntmps16
  go_wp2_with fail
  go_loopw [5, 6] (fun sm i wr => ∃ (k : Nat) (s : Bool), k ≤ a.length ∧ sm = .bool s ∧ i = .int .i64 k ∧ Hid (Below w.heap.size w wr) ∧ Hid (Far a b k s)) (fun _ i _ => a.length - (RowKit.intOf i).toNat)
  case atStart => exact ⟨0, _, Nat.zero_le _, rfl, rfl, Below.refl _ _, far_start a b⟩
  case round =>
    obtain ⟨k, s, hk, rfl, rfl, HW, HF⟩ := hrel
    cases s with
    | false =>
      have HD := Lib.hid (show false = sameLs a b from same_bool ((HF.out.done (fun h => by cases h)).trans sameLs_iff.symm))
      go_wp2
      go_ret
      exact ⟨ret_b HD.out, HW.out⟩
    | true =>
      have hlen := (HF.out.1 rfl).1
      by_cases hlt : k < a.length
      · have hlb : k < b.length := by omega
        obtain ⟨p, rfl, hp, hc⟩ := (HA.out.below HW.out).at hlt
        obtain ⟨q, rfl, hq, hd⟩ := (HB.out.below HW.out).at hlb
        obtain ⟨t, ht⟩ : ∃ t : Bool, sameL a[k] b[k] = t := ⟨_, rfl⟩
        have HN := Lib.hid (show Far a b (k + 1) t from HF.out.next hlt hlb (by rw [← ht]; exact sameL_iff _ _))
        obtain ⟨x, hx⟩ : ∃ x, a[k] = x := ⟨_, rfl⟩
        obtain ⟨y, hy⟩ : ∃ y, b[k] = y := ⟨_, rfl⟩
        rw [hx] at hc ht
        rw [hy] at hd ht
        have heq := fun v => eql_label x y v
        rw [ht] at heq
        obtain ⟨c0, c1⟩ := hc
        obtain ⟨d0, d1⟩ := hd
        clear hx hy hp hq hlen ht
        have hka : (k : Int) < (a.length : Int) := by omega
        have hkb : (k : Int) < (b.length : Int) := by omega
        go_wp2_with fail
        go_quiet (fail)
        go_wp2
        go_roundw
        case rel => exact ⟨k + 1, t, by omega, rfl, by go_num, HW.out.trans ((Kit.below_drewN _ _ _).mono HW.out.size), HN.out⟩
        case measure => simp [RowKit.intOf]; omega
      · have HD := Lib.hid (show true = sameLs a b from same_bool ((HF.out.done (fun _ => by omega)).trans sameLs_iff.symm))
        have hka : ¬ (k : Int) < (a.length : Int) := by omega
        clear hlen
        go_wp2
        go_ret
        exact ⟨ret_b HD.out, HW.out⟩
set_option maxRecDepth 100000 in
set_option maxHeartbeats 1000000 in
theorem sameContainers_any (A : Option Addr) (ac : Nat) (a : List Ctr) (B : Option Addr) (bc : Nat) (b : List Ctr) (hl : a.length ≤ 9223372036854775807) (hm : b.length ≤ 9223372036854775807) (w : World) (hA : Ctrs w A a) (hB : Ctrs w B b) :
    Calls Tryz.prog 62 #[.slice A a.length ac, .slice B b.length bc] w fun e w' => e = .returned (.bool (sameCs a b)) ∧ Below w.heap.size w w' := by
  have HA := Lib.hid hA
  have HB := Lib.hid hB
  have hl' : (a.length : Int) ≤ 9223372036854775807 := by omega
  have hm' : (b.length : Int) ≤ 9223372036854775807 := by omega
  have hgr : Tryz.prog.eqGuardType Tryz.prog.depth 72 = false := by kernel_rfl
  have hgp : Tryz.prog.eqGuardType Tryz.prog.depth 74 = false := by kernel_rfl
  clear hA hB hl hm
  go_enter Tryz.func62, Tryz.ntmps62
  go_wp2_with fail
  go_loopw [5, 6] (fun sm i wr => ∃ (k : Nat) (s : Bool), k ≤ a.length ∧ sm = .bool s ∧ i = .int .i64 k ∧ Hid (Below w.heap.size w wr) ∧ Hid (Far a b k s)) (fun _ i _ => a.length - (RowKit.intOf i).toNat)
  case atStart => exact ⟨0, _, Nat.zero_le _, rfl, rfl, Below.refl _ _, far_start a b⟩
  case round =>
    obtain ⟨k, s, hk, rfl, rfl, HW, HF⟩ := hrel
    cases s with
    | false =>
      have HD := Lib.hid (show false = sameCs a b from same_bool ((HF.out.done (fun h => by cases h)).trans sameCs_iff.symm))
      go_wp2
      go_ret
      exact ⟨ret_b HD.out, HW.out⟩
    | true =>
      have hlen := (HF.out.1 rfl).1
      by_cases hlt : k < a.length
      · have hlb : k < b.length := by omega
        obtain ⟨fa, p, P, pc, rfl, hp, hc, nP⟩ := (HA.out.below HW.out).at hlt
        obtain ⟨fb, q, Q, qc, rfl, hq, hd, nQ⟩ := (HB.out.below HW.out).at hlb
        obtain ⟨t, ht⟩ : ∃ t : Bool, sameC a[k] b[k] = t := ⟨_, rfl⟩
        have HN := Lib.hid (show Far a b (k + 1) t from HF.out.next hlt hlb (by rw [← ht]; exact sameC_iff _ _))
        obtain ⟨x, hx⟩ : ∃ x, a[k] = x := ⟨_, rfl⟩
        obtain ⟨y, hy⟩ : ∃ y, b[k] = y := ⟨_, rfl⟩
        rw [hx] at hc ht nP fa
        rw [hy] at hd ht nQ fb
        have hxp := fa.ports
        have hyp := fb.ports
        obtain ⟨c0, c1, c2, c3, c4, c5, c6, c7, c8, c9, c10, _⟩ := hc
        have hd' := fun o => hd.keep (w' := wr.alloc o) (by rw [add_block]; exact Below.heap_alloc wr o _ hq)
        have d0 := fun o => (hd' o).1
        have d1 := fun o => (hd' o).2.1
        have d2 := fun o => (hd' o).2.2.1
        have d3 := fun o => (hd' o).2.2.2.1
        have d4 := fun o => (hd' o).2.2.2.2.1
        have d5 := fun o => (hd' o).2.2.2.2.2.1
        have d6 := fun o => (hd' o).2.2.2.2.2.2.1
        have d7 := fun o => (hd' o).2.2.2.2.2.2.2.1
        have d8 := fun o => (hd' o).2.2.2.2.2.2.2.2.1
        have d9 := fun o => (hd' o).2.2.2.2.2.2.2.2.2.1
        have d10 := fun o => (hd' o).2.2.2.2.2.2.2.2.2.2.1
        clear hd hd'
        have NP := Lib.hid nP
        have NQ := Lib.hid nQ
        unfold sameC at ht
        obtain ⟨b0, e0⟩ : ∃ b0 : Bool, (x.name.toList == y.name.toList) = b0 := ⟨_, rfl⟩
        obtain ⟨b1, e1⟩ : ∃ b1 : Bool, (x.image.toList == y.image.toList) = b1 := ⟨_, rfl⟩
        obtain ⟨b2, e2⟩ : ∃ b2 : Bool, resB x.rc x.rm x.rp y.rc y.rm y.rp = b2 := ⟨_, rfl⟩
        obtain ⟨b3, e3⟩ : ∃ b3 : Bool, resB x.lc x.lm x.lp y.lc y.lm y.lp = b3 := ⟨_, rfl⟩
        obtain ⟨b4, e4⟩ : ∃ b4 : Bool, sameIs x.ports y.ports = b4 := ⟨_, rfl⟩
        obtain ⟨b5, e5⟩ : ∃ b5 : Bool, probeB x.ev x.fl y.ev y.fl = b5 := ⟨_, rfl⟩
        have q2 := fun v => eql_res x.rc x.rm x.rp y.rc y.rm y.rp v
        have q3 := fun v => eql_res x.lc x.lm x.lp y.lc y.lm y.lp v
        have q5 := fun v => eql_probe x.ev x.fl y.ev y.fl v
        rw [e2] at q2
        rw [e3] at q3
        rw [e5] at q5
        rw [e0, e1, e4, show (x.rc == y.rc && x.rm == y.rm && x.rp == y.rp) = b2 from e2, show (x.lc == y.lc && x.lm == y.lm && x.lp == y.lp) = b3 from e3, show (x.ev == y.ev && x.fl == y.fl) = b5 from e5] at ht
        have E4 := Lib.hid e4
        have HT := Lib.hid ht
        clear hx hy hp hq hlen nP nQ fa fb e2 e3 e4 e5 ht
        have hka : (k : Int) < (a.length : Int) := by omega
        have hkb : (k : Int) < (b.length : Int) := by omega
        cases b0 with
        | false =>
          have hT : t = false := by have := HT.out; simpa using this.symm
          subst hT
          go_wp2
          go_roundw
          case rel => exact ⟨k + 1, false, by omega, rfl, by go_num, HW.out.trans (((((Below.refl _ _).alloc (Nat.le_refl _) _).alloc (by simp) _)).mono HW.out.size), HN.out⟩
          case measure => simp [RowKit.intOf]; omega
        | true =>
          cases b1 with
          | false =>
            have hT : t = false := by have := HT.out; simpa using this.symm
            subst hT
            go_wp2
            go_roundw
            case rel => exact ⟨k + 1, false, by omega, rfl, by go_num, HW.out.trans (((((Below.refl _ _).alloc (Nat.le_refl _) _).alloc (by simp) _)).mono HW.out.size), HN.out⟩
            case measure => simp [RowKit.intOf]; omega
          | true =>
            cases b2 with
            | false =>
              have hT : t = false := by have := HT.out; simpa using this.symm
              subst hT
              go_wp2
              go_roundw
              case rel => exact ⟨k + 1, false, by omega, rfl, by go_num, HW.out.trans (((((Below.refl _ _).alloc (Nat.le_refl _) _).alloc (by simp) _)).mono HW.out.size), HN.out⟩
              case measure => simp [RowKit.intOf]; omega
            | true =>
              cases b3 with
              | false =>
                have hT : t = false := by have := HT.out; simpa using this.symm
                subst hT
                go_wp2
                go_roundw
                case rel => exact ⟨k + 1, false, by omega, rfl, by go_num, HW.out.trans (((((Below.refl _ _).alloc (Nat.le_refl _) _).alloc (by simp) _)).mono HW.out.size), HN.out⟩
                case measure => simp [RowKit.intOf]; omega
              | true =>
                go_wp2_with fail
                have hb0 : ∀ o o', Below wr.heap.size wr ((wr.alloc o).alloc o') := fun o o' => ((Below.refl _ _).alloc (Nat.le_refl _) _).alloc (by simp) _
                refine (sameInts_any P pc x.ports Q qc y.ports hxp hyp _ (Nums.below NP.out (hb0 _ _)) (Nums.below NQ.out (hb0 _ _))).mono ?_
                rintro e w5 ⟨rfl, hb5⟩
                have HB5 := Lib.hid (HW.out.trans (((hb0 _ _).trans (hb5.mono (by simp; omega))).mono HW.out.size))
                obtain ⟨hcell, hfroz⟩ := Kit.bcell hb5
                rw [E4.out]
                clear hb0 hb5 d0 d1 d2 d3 d4 d5 d6 d7 d8 d9 d10 c0 c1 c2 c3 c4 c5 c6 c7 c8 c9 c10
                cases b4 with
                | false =>
                  have hT : t = false := by have := HT.out; simpa using this.symm
                  subst hT
                  go_wp2
                  go_roundw
                  case rel => exact ⟨k + 1, false, by omega, rfl, by go_num, HB5.out, HN.out⟩
                  case measure => simp [RowKit.intOf]; omega
                | true =>
                  have hT : t = b5 := by have := HT.out; simpa using this.symm
                  subst hT
                  go_wp2
                  go_roundw
                  case rel => exact ⟨k + 1, t, by omega, rfl, by go_num, HB5.out, HN.out⟩
                  case measure => simp [RowKit.intOf]; omega
      · have HD := Lib.hid (show true = sameCs a b from same_bool ((HF.out.done (fun _ => by omega)).trans sameCs_iff.symm))
        have hka : ¬ (k : Int) < (a.length : Int) := by omega
        clear hlen
        go_wp2
        go_ret
        exact ⟨ret_b HD.out, HW.out⟩
end Book
end Go.Proofs.YtaegknpijgjioaaGreatDoor
