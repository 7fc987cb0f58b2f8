/-
  The contract of the laws' own helper LightSpec: is a spec not too long? No condition.
-/
import Derived.Test.YtbichomjpmmjmaaGreatDoorNu0
import Derived.Test.YtbichomjpmmjmaaGreatDoorChecked
import Derived.Test.YtbichomjpmmjmaaGreatDoorNu8
import Derived.Test.YtbichomjpmmjmaaGreatDoorNu2
import Derived.WalkKit
import Derived.ProofKit
import Derived.Maps.AppendAt
import Derived.OwnWalk
namespace Go.Proofs.YtbichomjpmmjmaaGreatDoor
open Go.ChangeShapes Go.WideShapes Go.ChangeAt Go.RowKit Go.Lib
open Sd Lists
namespace Book
def lightC (x : Ctr) : Prop := x.name.size ≤ 100 ∧ x.image.size ≤ 100 ∧ x.ports.length ≤ 10
def lightL (x : Lbl) : Prop := x.key.size ≤ 100 ∧ x.val.size ≤ 100
/-- a list of containers that is not too long -/
def lightCs (l : List Ctr) : Prop := ∀ x ∈ l, lightC x
def lightLs (l : List Lbl) : Prop := ∀ x ∈ l, lightL x
/-- a spec that is not too long -/
def Light (S : Spc) : Prop := (S.name.size ≤ 100 ∧ S.labels.length ≤ 10 ∧ S.init.length ≤ 8 ∧ S.main.length ≤ 8) ∧ lightLs S.labels ∧ lightCs S.init ∧ lightCs S.main
def lightCsB (l : List Ctr) : Bool := l.all fun x => decide (x.name.size ≤ 100) && decide (x.image.size ≤ 100) && decide (x.ports.length ≤ 10)
def lightLsB (l : List Lbl) : Bool := l.all fun x => decide (x.key.size ≤ 100) && decide (x.val.size ≤ 100)
def LightB (S : Spc) : Bool := decide (S.name.size ≤ 100) && decide (S.labels.length ≤ 10) && decide (S.init.length ≤ 8) && decide (S.main.length ≤ 8) && lightLsB S.labels && lightCsB S.init && lightCsB S.main
theorem lightCsB_iff {l : List Ctr} : lightCsB l = true ↔ lightCs l := by simp [lightCsB, lightCs, lightC, and_assoc]
theorem lightLsB_iff {l : List Lbl} : lightLsB l = true ↔ lightLs l := by simp [lightLsB, lightLs, lightL]
theorem LightB_iff {S : Spc} : LightB S = true ↔ Light S := by simp [LightB, Light, lightCsB_iff, lightLsB_iff, and_assoc]
theorem lightCsB_of {l : List Ctr} (h : lightCs l) : lightCsB l = true := lightCsB_iff.2 h
theorem lightCsB_not {l : List Ctr} (h : ¬ lightCs l) : lightCsB l = false := by
  cases e : lightCsB l
  · rfl
  · exact absurd (lightCsB_iff.1 e) h
theorem LightB_not {S : Spc} (h : ¬ Light S) : LightB S = false := by
  cases e : LightB S
  · rfl
  · exact absurd (LightB_iff.1 e) h
theorem ret_bool {a b : Bool} (h : a = b) : Ending.returned (.bool a) = .returned (.bool b) := by rw [h]
set_option maxRecDepth 100000 in
theorem lightCs_any (A : Option Addr) (cap : Nat) (l : List Ctr) (hl : l.length ≤ 9223372036854775807) (w : World) (h : Ctrs w A l) :
    Calls Tryz.prog 31 #[.slice A l.length cap] w fun e w' => e = .returned (.bool (lightCsB l)) ∧ w = w' := by
  have H := Lib.hid h
  clear h
  have hl' : (l.length : Int) ≤ 9223372036854775807 := by omega
  clear hl
  go_enter Tryz.func31, Tryz.ntmps31
  go_wp2_with fail
  go_loop [3] (fun i => ∃ k : Nat, k ≤ l.length ∧ i = .int .i64 k ∧ Hid (∀ x ∈ l.take k, lightC x)) (fun i => l.length - (RowKit.intOf i).toNat)
  case atStart => exact ⟨0, Nat.zero_le _, rfl, fun x hx => by simp at hx⟩
  case round =>
    obtain ⟨k, hk, rfl, HA⟩ := hrel
    by_cases hlt : k < l.length
    · obtain ⟨hF, a, P, c, rfl, ha, hc, hN⟩ := H.out.at hlt
      have hp := hF.ports
      obtain ⟨x, hx⟩ : ∃ x, l[k] = x := ⟨_, rfl⟩
      rw [hx] at hc hp
      obtain ⟨h0, h1, _, _, _, _, _, _, h8, _, _⟩ := hc
      have HX := Lib.hid hx
      clear hx hF ha hN
      by_cases hy : lightC x
      · obtain ⟨y0, y1, y2⟩ := hy
        have HY := Lib.hid (show lightC x from ⟨y0, y1, y2⟩)
        go_wp2
        go_round
        case rel =>
          refine ⟨k + 1, by omega, by go_num, ?_⟩
          intro z hz
          rw [List.take_succ_eq_append_getElem hlt, HX.out] at hz
          rcases List.mem_append.1 hz with hz | hz
          · exact HA.out z hz
          · rw [List.mem_singleton.1 hz]; exact HY.out
        case measure => simp [RowKit.intOf]; omega
      · have HN := Lib.hid (show lightCsB l = false from lightCsB_not (fun hh => hy (hh x (HX.out ▸ List.getElem_mem hlt))))
        have hy' : 100 < x.name.size ∨ 100 < x.image.size ∨ 10 < x.ports.length := by
          unfold lightC at hy
          omega
        clear hy
        by_cases y0 : 100 < x.name.size
        · clear hy'
          go_wp2
          go_ret
          exact ⟨ret_bool HN.out.symm, rfl⟩
        · by_cases y1 : 100 < x.image.size
          · clear hy'
            go_wp2
            go_ret
            exact ⟨ret_bool HN.out.symm, rfl⟩
          · have y2 : 10 < x.ports.length := by omega
            clear hy'
            go_wp2
            go_ret
            exact ⟨ret_bool HN.out.symm, rfl⟩
    · have HN := Lib.hid (show lightCsB l = true from lightCsB_of (fun x hx => HA.out x (by rw [List.take_of_length_le (by omega)]; exact hx)))
      go_wp2
      go_ret
      exact ⟨ret_bool HN.out.symm, rfl⟩
set_option maxRecDepth 100000 in
set_option maxHeartbeats 1000000 in
/-- LIGHTSPEC -/
theorem light_any (S : Spc) (LA : Option Addr) (lc : Nat) (IA : Option Addr) (ic : Nat) (MA : Option Addr) (mc : Nat) (w : World) (h : S.In w LA lc IA ic MA mc) :
    Calls Tryz.prog 8 #[.agg #[.string S.name, .slice LA S.labels.length lc, .slice IA S.init.length ic, .slice MA S.main.length mc, .int .i64 S.restart, .int .i64 S.grace, .int .i64 S.prio]] w fun e w' => e = .returned (.bool (LightB S)) ∧ Below w.heap.size w w' := by
  have H := Lib.hid h
  have hl' : (S.labels.length : Int) ≤ 9223372036854775807 := by have := h.nl; omega
  have hi' : (S.init.length : Int) ≤ 9223372036854775807 := by have := h.ni; omega
  have hm' : (S.main.length : Int) ≤ 9223372036854775807 := by have := h.nm; omega
  clear h
  have HB := fun o => Lib.hid (show Below w.heap.size w (w.alloc o) from (Below.refl _ _).alloc (Nat.le_refl _) _)
  by_cases hc : S.name.size ≤ 100 ∧ S.labels.length ≤ 10 ∧ S.init.length ≤ 8 ∧ S.main.length ≤ 8
  · obtain ⟨y0, y1, y2, y3⟩ := hc
    have HC := Lib.hid (show S.name.size ≤ 100 ∧ S.labels.length ≤ 10 ∧ S.init.length ≤ 8 ∧ S.main.length ≤ 8 from ⟨y0, y1, y2, y3⟩)
    go_enter Tryz.func8, Tryz.ntmps8
    go_wp2_with fail
    have HI := Lib.hid (H.out.below (HB (.cells #[.string S.name, .slice LA S.labels.length lc, .slice IA S.init.length ic, .slice MA S.main.length mc, .int .i64 S.restart, .int .i64 S.grace, .int .i64 S.prio] 35)).out)
    go_loop [4] (fun i => ∃ k : Nat, k ≤ S.labels.length ∧ i = .int .i64 k ∧ Hid (∀ x ∈ S.labels.take k, lightL x)) (fun i => S.labels.length - (RowKit.intOf i).toNat)
    case atStart => exact ⟨0, Nat.zero_le _, rfl, fun x hx => by simp at hx⟩
    case round =>
      obtain ⟨k, hk, rfl, HA⟩ := hrel
      by_cases hlt : k < S.labels.length
      · obtain ⟨a, rfl, ha, hc⟩ := HI.out.labels.at hlt
        obtain ⟨x, hx⟩ : ∃ x, S.labels[k] = x := ⟨_, rfl⟩
        rw [hx] at hc
        obtain ⟨h0, h1⟩ := hc
        have HX := Lib.hid hx
        clear hx ha
        by_cases hy : lightL x
        · obtain ⟨y0, y1⟩ := hy
          have HY := Lib.hid (show lightL x from ⟨y0, y1⟩)
          go_wp2
          go_round
          case rel =>
            refine ⟨k + 1, by omega, by go_num, ?_⟩
            intro z hz
            rw [List.take_succ_eq_append_getElem hlt, HX.out] at hz
            rcases List.mem_append.1 hz with hz | hz
            · exact HA.out z hz
            · rw [List.mem_singleton.1 hz]; exact HY.out
          case measure => simp [RowKit.intOf]; omega
        · have HN := Lib.hid (show LightB S = false from LightB_not (fun hh => hy (hh.2.1 x (HX.out ▸ List.getElem_mem hlt))))
          have hy' : 100 < x.key.size ∨ 100 < x.val.size := by
            unfold lightL at hy
            omega
          clear hy
          by_cases y0 : 100 < x.key.size
          · clear hy'
            go_wp2
            go_ret
            exact ⟨ret_bool HN.out.symm, (HB _).out⟩
          · have y1 : 100 < x.val.size := by omega
            clear hy'
            go_wp2
            go_ret
            exact ⟨ret_bool HN.out.symm, (HB _).out⟩
      · have HLS := Lib.hid (show lightLs S.labels from fun x hx => HA.out x (by rw [List.take_of_length_le (by omega)]; exact hx))
        go_wp2_with fail
        refine (lightCs_any IA ic S.init HI.out.ni _ HI.out.init).mono ?_
        rintro e w' ⟨rfl, rfl⟩
        cases hci : lightCsB S.init with
        | false =>
          have HN := Lib.hid (show LightB S = false from LightB_not (fun hh => by rw [lightCsB_of hh.2.2.1] at hci; cases hci))
          clear hci
          go_wp2
          go_ret
          exact ⟨ret_bool HN.out.symm, (HB _).out⟩
        | true =>
          have HCI := Lib.hid (lightCsB_iff.1 hci)
          clear hci
          go_wp2_with fail
          refine (lightCs_any MA mc S.main HI.out.nm _ HI.out.main).mono ?_
          rintro e w' ⟨rfl, rfl⟩
          cases hcm : lightCsB S.main with
          | false =>
            have HN := Lib.hid (show LightB S = false from LightB_not (fun hh => by rw [lightCsB_of hh.2.2.2] at hcm; cases hcm))
            clear hcm
            go_wp2
            go_ret
            exact ⟨ret_bool HN.out.symm, (HB _).out⟩
          | true =>
            have HN := Lib.hid (show LightB S = true from LightB_iff.2 ⟨HC.out, HLS.out, HCI.out, lightCsB_iff.1 hcm⟩)
            clear hcm
            go_wp2
            go_ret
            exact ⟨ret_bool HN.out.symm, (HB _).out⟩
  · have HN := Lib.hid (show LightB S = false from LightB_not (fun hh => hc hh.1))
    have hc' : 100 < S.name.size ∨ 10 < S.labels.length ∨ 8 < S.init.length ∨ 8 < S.main.length := by omega
    clear hc
    by_cases y0 : 100 < S.name.size
    · clear hc'
      go_enter Tryz.func8, Tryz.ntmps8
      go_wp2
      go_ret
      exact ⟨ret_bool HN.out.symm, (HB _).out⟩
    · by_cases y1 : 10 < S.labels.length
      · clear hc'
        go_enter Tryz.func8, Tryz.ntmps8
        go_wp2
        go_ret
        exact ⟨ret_bool HN.out.symm, (HB _).out⟩
      · by_cases y2 : 8 < S.init.length
        · clear hc'
          go_enter Tryz.func8, Tryz.ntmps8
          go_wp2
          go_ret
          exact ⟨ret_bool HN.out.symm, (HB _).out⟩
        · have y3 : 8 < S.main.length := by omega
          clear hc'
          go_enter Tryz.func8, Tryz.ntmps8
          go_wp2
          go_ret
          exact ⟨ret_bool HN.out.symm, (HB _).out⟩
end Book
end Go.Proofs.YtbichomjpmmjmaaGreatDoor

/-
  The contract of the document's word on a spec (provostref06.Check). Condition: the spec is light (Book.Light).
-/
namespace Go.Proofs.YtbichomjpmmjmaaGreatDoor
open Go.ChangeShapes Go.WideShapes Go.ChangeAt Go.RowKit Go.Lib
open Sd Lists Go.Sort
namespace SpecRef
/-- a spec in a box of its own -/
def SBox (S : Spc) (LA : Option Addr) (lc : Nat) (IA : Option Addr) (ic : Nat) (MA : Option Addr) (mc : Nat) (w : World) (b : Nat) : Prop :=
  w.heap[b]? = some (.cells #[.string S.name, .slice LA S.labels.length lc, .slice IA S.init.length ic, .slice MA S.main.length mc, .int .i64 S.restart, .int .i64 S.grace, .int .i64 S.prio] 35 (0, 0))
structure SCells (S : Spc) (LA : Option Addr) (lc : Nat) (IA : Option Addr) (ic : Nat) (MA : Option Addr) (mc : Nat) (w : World) (b : Nat) : Prop where
  c0 : w.cell? ⟨b, 0, none⟩ = some (.string S.name)
  c1 : w.cell? ⟨b, 1, none⟩ = some (.slice LA S.labels.length lc)
  c2 : w.cell? ⟨b, 2, none⟩ = some (.slice IA S.init.length ic)
  c3 : w.cell? ⟨b, 3, none⟩ = some (.slice MA S.main.length mc)
  c4 : w.cell? ⟨b, 4, none⟩ = some (.int .i64 S.restart)
  c5 : w.cell? ⟨b, 5, none⟩ = some (.int .i64 S.grace)
  c6 : w.cell? ⟨b, 6, none⟩ = some (.int .i64 S.prio)
theorem SBox.cells {S : Spc} {LA : Option Addr} {lc : Nat} {IA : Option Addr} {ic : Nat} {MA : Option Addr} {mc : Nat} {w : World} {b : Nat} (h : SBox S LA lc IA ic MA mc w b) : SCells S LA lc IA ic MA mc w b := by
  unfold SBox at h
  constructor <;> simp [World.cell?, h]
theorem SBox.lt {S : Spc} {LA : Option Addr} {lc : Nat} {IA : Option Addr} {ic : Nat} {MA : Option Addr} {mc : Nat} {w : World} {b : Nat} (h : SBox S LA lc IA ic MA mc w b) : b < w.heap.size := by
  rcases Nat.lt_or_ge b w.heap.size with hl | hl
  · exact hl
  · unfold SBox at h; rw [Array.getElem?_eq_none hl] at h; cases h
theorem SBox.below {S : Spc} {LA : Option Addr} {lc : Nat} {IA : Option Addr} {ic : Nat} {MA : Option Addr} {mc : Nat} {w w' : World} {b : Nat} (h : SBox S LA lc IA ic MA mc w b) (hb : Below w.heap.size w w') : SBox S LA lc IA ic MA mc w' b := (hb.block b h.lt).trans h
end SpecRef
end Go.Proofs.YtbichomjpmmjmaaGreatDoor

/-
  What is taken, in memory: a box of two slices, each with a row of its own behind the box; what a call that adds to it leaves as it was; an addition. No condition.
-/
namespace Go.Proofs.YtbichomjpmmjmaaGreatDoor
open Go.ChangeShapes Go.WideShapes Go.ChangeAt Go.RowKit Go.Lib
open Sd Lists
namespace SpecOwn
theorem two_cells {w : World} {g : Nat} {u v : Value} {t : TypeId} (h : w.heap[g]? = some (.cells #[u, v] t (0, 0))) :
    w.cell? ⟨g, 0, none⟩ = some u ∧ w.cell? ⟨g, 1, none⟩ = some v ∧ w.frozen? ⟨g, 0, none⟩ = false ∧ w.frozen? ⟨g, 1, none⟩ = false :=
  ⟨by simp [World.cell?, h], by simp [World.cell?, h], by simp [World.frozen?, h], by simp [World.frozen?, h]⟩
theorem two_set0 {w : World} {g : Nat} {u v : Value} {t : TypeId} (h : w.heap[g]? = some (.cells #[u, v] t (0, 0))) (x : Value) : (w.setCell ⟨g, 0, none⟩ x).heap[g]? = some (.cells #[x, v] t (0, 0)) := by
  simpa using heap_setCell_same w g 0 _ _ x h
theorem two_set1 {w : World} {g : Nat} {u v : Value} {t : TypeId} (h : w.heap[g]? = some (.cells #[u, v] t (0, 0))) (x : Value) : (w.setCell ⟨g, 1, none⟩ x).heap[g]? = some (.cells #[u, x] t (0, 0)) := by
  simpa using heap_setCell_same w g 1 _ _ x h
theorem lt_of_block {w : World} {g : Nat} {o : Obj} (h : w.heap[g]? = some o) : g < w.heap.size := by
  rcases Nat.lt_or_ge g w.heap.size with hl | hl
  · exact hl
  · rw [Array.getElem?_eq_none hl] at h; cases h
theorem owns_of {w w' : World} {base : Nat} {e : TypeId} {size n : Nat} {v : Value} {xs : List Value} (h : w.ownsRow base e size v n xs) (hk : ∀ r, v.ownBlock = some r → w'.heap[r]? = w.heap[r]?) : w'.ownsRow base e size v n xs := by
  refine ⟨h.1, ?_⟩
  rcases h.2 with h0 | ⟨g, cap, cur, rfl, h1, h2, h3⟩
  · exact .inl h0
  · exact .inr ⟨g, cap, cur, rfl, h1, (hk g rfl).trans h2, h3⟩
/-- a block of a slice in the box g -/
def InRow (g : Nat) (w : World) (b : Nat) : Prop := ∃ i a n c, w.cell? ⟨g, i, none⟩ = some (.slice (some a) n c) ∧ a.block = b
structure Ok (g : Nat) (w : World) : Prop where
  lt : g < w.heap.size
  rows : ∀ b, InRow g w b → b < w.heap.size
/-- a block that is neither the box nor one of its rows -/
def Off (g : Nat) (w : World) (b : Nat) : Prop := b < w.heap.size ∧ b ≠ g ∧ ¬ InRow g w b
/-- what was there is as it was, but the box g and its rows -/
structure Av (g : Nat) (w w' : World) : Prop where
  os : w'.os = w.os
  tape : w'.tape = w.tape
  output : w'.output = w.output
  size : w.heap.size ≤ w'.heap.size
  low : ∀ k, k < g → k < w.heap.size → w'.heap[k]? = w.heap[k]?
  ok : Ok g w → Ok g w' ∧ ∀ b, Off g w b → Off g w' b ∧ w'.heap[b]? = w.heap[b]?
theorem Av.refl (g : Nat) (w : World) : Av g w w := ⟨rfl, rfl, rfl, Nat.le_refl _, fun _ _ _ => rfl, fun h => ⟨h, fun _ hb => ⟨hb, rfl⟩⟩⟩
theorem Av.trans {g : Nat} {a b c : World} (h : Av g a b) (k : Av g b c) : Av g a c :=
  ⟨k.os.trans h.os, k.tape.trans h.tape, k.output.trans h.output, Nat.le_trans h.size k.size, fun i hi hl => (k.low i hi (Nat.lt_of_lt_of_le hl h.size)).trans (h.low i hi hl), fun hok => ⟨(k.ok (h.ok hok).1).1, fun b hb => by
    obtain ⟨h1, h2⟩ := (h.ok hok).2 b hb
    obtain ⟨h3, h4⟩ := (k.ok (h.ok hok).1).2 b h1
    exact ⟨h3, h4.trans h2⟩⟩⟩
theorem InRow.of_same {g : Nat} {w w' : World} (h : w'.heap[g]? = w.heap[g]?) {b : Nat} (hb : InRow g w' b) : InRow g w b := by
  obtain ⟨i, a, n, c, h1, h2⟩ := hb
  exact ⟨i, a, n, c, (World.cell?_of_block (w := w) (w' := w') (a := ⟨g, i, none⟩) h).symm.trans h1, h2⟩
theorem Av.of_any {g : Nat} {w w' : World} (hb : Below w.heap.size w w') : Av g w w' :=
  ⟨hb.os, hb.tape, hb.output, hb.size, fun k _ hl => hb.block k hl, fun hok => ⟨⟨Nat.lt_of_lt_of_le hok.lt hb.size, fun b h => Nat.lt_of_lt_of_le (hok.rows b (h.of_same (hb.block g hok.lt))) hb.size⟩,
    fun b h => ⟨⟨Nat.lt_of_lt_of_le h.1 hb.size, h.2.1, fun hr => h.2.2 (hr.of_same (hb.block g hok.lt))⟩, hb.block b h.1⟩⟩⟩
theorem Av.of_below {g : Nat} {w w' : World} (hb : Below w.heap.size w w') (_ : g < w.heap.size) : Av g w w' := .of_any hb
/-- what is made new is none of the rows -/
theorem Ok.fresh {g : Nat} {w w' : World} (h : Ok g w) (hb : Below w.heap.size w w') {b : Nat} (h1 : w.heap.size ≤ b) (h2 : b < w'.heap.size) : Off g w' b :=
  ⟨h2, fun e => by have := h.lt; omega, fun hr => by have := h.rows b (hr.of_same (hb.block g h.lt)); omega⟩
/-- what is taken: the names N, the ports P -/
structure TkV (w : World) (g : Nat) (A : Option Addr) (c : Nat) (B : Option Addr) (d : Nat) (N : List ByteArray) (P : List Int) : Prop where
  box : w.heap[g]? = some (.cells #[.slice A N.length c, .slice B P.length d] 120 (0, 0))
  names : w.ownsRow (g + 1) 9 1 (.slice A N.length c) N.length (N.map Value.string)
  ports : w.ownsRow (g + 1) 3 1 (.slice B P.length d) P.length (P.map (Value.int .i64))
def Tk (w : World) (g : Nat) (N : List ByteArray) (P : List Int) : Prop := ∃ A c B d, TkV w g A c B d N P
theorem TkV.lt {w : World} {g : Nat} {A : Option Addr} {c : Nat} {B : Option Addr} {d : Nat} {N : List ByteArray} {P : List Int} (h : TkV w g A c B d N P) : g < w.heap.size := lt_of_block h.box
theorem TkV.ok {w : World} {g : Nat} {A : Option Addr} {c : Nat} {B : Option Addr} {d : Nat} {N : List ByteArray} {P : List Int} (h : TkV w g A c B d N P) : Ok g w := by
  refine ⟨h.lt, ?_⟩
  rintro b ⟨i, a, n, k, h1, rfl⟩
  obtain ⟨c0, c1, _, _⟩ := two_cells h.box
  rcases i with _ | _ | i
  · have e := Option.some.inj (c0.symm.trans h1)
    exact (h.names.lt a.block (by rw [e]; rfl)).2
  · have e := Option.some.inj (c1.symm.trans h1)
    exact (h.ports.lt a.block (by rw [e]; rfl)).2
  · simp [World.cell?, h.box] at h1
theorem TkV.keep {w w' : World} {g : Nat} {A : Option Addr} {c : Nat} {B : Option Addr} {d : Nat} {N : List ByteArray} {P : List Int} (h : TkV w g A c B d N P) (hb : Below w.heap.size w w') : TkV w' g A c B d N P :=
  ⟨(hb.block g h.lt).trans h.box, owns_of h.names fun r hr => hb.block r (h.names.lt r hr).2, owns_of h.ports fun r hr => hb.block r (h.ports.lt r hr).2⟩
theorem Tk.keep {w w' : World} {g : Nat} {N : List ByteArray} {P : List Int} (h : Tk w g N P) (hb : Below w.heap.size w w') : Tk w' g N P := by
  obtain ⟨A, c, B, d, h⟩ := h
  exact ⟨A, c, B, d, h.keep hb⟩
theorem Tk.lt {w : World} {g : Nat} {N : List ByteArray} {P : List Int} (h : Tk w g N P) : g < w.heap.size := by
  obtain ⟨A, c, B, d, h⟩ := h
  exact h.lt
theorem Tk.ok {w : World} {g : Nat} {N : List ByteArray} {P : List Int} (h : Tk w g N P) : Ok g w := by
  obtain ⟨A, c, B, d, h⟩ := h
  exact h.ok
/-- the two rows are not one -/
theorem TkV.apart {w : World} {g : Nat} {A : Option Addr} {c : Nat} {B : Option Addr} {d : Nat} {N : List ByteArray} {P : List Int} (h : TkV w g A c B d N P) {r : Nat} (h1 : (Value.slice A N.length c).ownBlock = some r) (h2 : (Value.slice B P.length d).ownBlock = some r) : False := by
  rcases h.names.2 with ⟨e, _⟩ | ⟨g1, cap, cur, e, _, hh, _⟩
  · rw [e] at h1; cases h1
  · rcases h.ports.2 with ⟨e2, _⟩ | ⟨g2, cap2, cur2, e2, _, hh2, _⟩
    · rw [e2] at h2; cases h2
    · rw [e] at h1
      rw [e2] at h2
      obtain rfl : g1 = r := Option.some.inj h1
      obtain rfl : g2 = g1 := Option.some.inj h2
      rw [hh] at hh2
      injection hh2 with h3
      injection h3 with _ h4 _
      exact absurd h4 (by decide)
theorem own_form {w : World} {base : Nat} {t : TypeId} {size n : Nat} {v : Value} {xs : List Value} (h : w.ownsRow base t size v n xs) : ∃ A c, v = .slice A n c := by
  rcases h.2 with ⟨h1, h0⟩ | ⟨g, cap, cur, h1, _⟩
  · exact ⟨none, 0, by rw [h1, h0]⟩
  · exact ⟨_, _, h1⟩
/-- a name more -/
theorem TkV.push_name {w w2 : World} {g : Nat} {A : Option Addr} {c : Nat} {B : Option Addr} {d : Nat} {N : List ByteArray} {P : List Int} (h : TkV w g A c B d N P) (o : Obj) (s : ByteArray) (v' : Value)
    (hown : w2.ownsRow (g + 1) 9 1 v' (N.length + 1) (N.map Value.string ++ [.string s])) (hg : (w.alloc o).grownBy w2 (Value.slice A N.length c).ownBlock)
    (hloc : v'.ownBlock = (Value.slice A N.length c).ownBlock ∨ v'.ownBlock = some (w.heap.size + 1)) :
    Tk (w2.setCell ⟨g, 0, none⟩ v') g (N ++ [s]) P ∧ Av g w (w2.setCell ⟨g, 0, none⟩ v') := by
  have hb1 : Below w.heap.size w (w.alloc o) := (Below.refl _ _).alloc (Nat.le_refl _) _
  have h1 := h.keep hb1
  have hnew : w.heap.size + 1 = (w.alloc o).heap.size := by simp
  rw [hnew] at hloc
  clear hnew
  generalize hw1 : w.alloc o = w1 at *
  have hN : ∀ k, (Value.slice A N.length c).ownBlock = some k → g + 1 ≤ k ∧ k < w1.heap.size := fun k hk => h1.names.lt k hk
  have hgb : w2.heap[g]? = w1.heap[g]? := hg.block g h1.lt (fun e => by have := hN g e.symm; omega)
  have hbox2 : w2.heap[g]? = some (.cells #[.slice A N.length c, .slice B P.length d] 120 (0, 0)) := hgb.trans h1.box
  have hbox3 := two_set0 hbox2 v'
  have hoth : ∀ k, k ≠ g → (w2.setCell ⟨g, 0, none⟩ v').heap[k]? = w2.heap[k]? := fun k hk => Below.heap_setCell _ _ _ _ hk
  have hsz : (w2.setCell ⟨g, 0, none⟩ v').heap.size = w2.heap.size := by simp [World.setCell]
  obtain ⟨A', c', rfl⟩ := own_form hown
  have hpo : ∀ r, (Value.slice B P.length d).ownBlock = some r → w2.heap[r]? = w1.heap[r]? := fun r hr => hg.block r (h1.ports.lt r hr).2 (fun e => h1.apart e.symm hr)
  have hT : TkV (w2.setCell ⟨g, 0, none⟩ (.slice A' (N.length + 1) c')) g A' c' B d (N ++ [s]) P := by
    refine ⟨?_, ?_, ?_⟩
    · rw [List.length_append]; exact hbox3
    · rw [List.length_append, List.map_append]
      exact owns_of hown fun r hr => hoth r (by have := (hown.lt r hr).1; omega)
    · refine owns_of (owns_of h1.ports hpo) fun r hr => hoth r (by have := (h1.ports.lt r hr).1; omega)
  refine ⟨⟨_, _, _, _, hT⟩, hg.os.trans hb1.os, hg.tape.trans hb1.tape, hg.output.trans hb1.output, by rw [hsz]; exact Nat.le_trans hb1.size hg.size, fun k hk _ => ?_, fun hok => ⟨hT.ok, fun b hb => ?_⟩⟩
  · rw [hoth k (by omega), hg.block k (by have := h1.lt; omega) (fun e => by have := hN k e.symm; omega), hb1.block k (by have := h.lt; omega)]
  · obtain ⟨b1, b2, b3⟩ := hb
    obtain ⟨c0, c1, _, _⟩ := two_cells h.box
    have hne : some b ≠ (Value.slice A N.length c).ownBlock := fun e => by
      cases A with
      | none => cases e
      | some a => exact b3 ⟨0, a, _, _, c0, (Option.some.inj e).symm⟩
    have hne2 : some b ≠ (Value.slice B P.length d).ownBlock := fun e => by
      cases B with
      | none => cases e
      | some a => exact b3 ⟨1, a, _, _, c1, (Option.some.inj e).symm⟩
    refine ⟨⟨by rw [hsz]; have := hb1.size; have := hg.size; omega, b2, ?_⟩, ?_⟩
    · rintro ⟨i, a, n, k, e1, rfl⟩
      obtain ⟨d0, d1, _, _⟩ := two_cells hT.box
      simp only [List.length_append, List.length_singleton] at d0 d1
      rcases i with _ | _ | i
      · have e := Option.some.inj (d0.symm.trans e1)
        have e' : (Value.slice A' (N.length + 1) c').ownBlock = some a.block := congrArg Value.ownBlock e
        rcases hloc with hl | hl
        · exact hne (e'.symm.trans hl)
        · have := Option.some.inj (e'.symm.trans hl)
          have := hb1.size
          omega
      · have e := Option.some.inj (d1.symm.trans e1)
        exact hne2 (congrArg Value.ownBlock e).symm
      · simp [World.cell?, hT.box] at e1
    · rw [hoth b b2, hg.block b (by have := hb1.size; omega) hne, hb1.block b b1]
/-- a port more -/
theorem TkV.push_port {w w2 : World} {g : Nat} {A : Option Addr} {c : Nat} {B : Option Addr} {d : Nat} {N : List ByteArray} {P : List Int} (h : TkV w g A c B d N P) (o : Obj) (z : Int) (v' : Value)
    (hown : w2.ownsRow (g + 1) 3 1 v' (P.length + 1) (P.map (Value.int .i64) ++ [.int .i64 z])) (hg : (w.alloc o).grownBy w2 (Value.slice B P.length d).ownBlock)
    (hloc : v'.ownBlock = (Value.slice B P.length d).ownBlock ∨ v'.ownBlock = some (w.heap.size + 1)) :
    Tk (w2.setCell ⟨g, 1, none⟩ v') g N (P ++ [z]) ∧ Av g w (w2.setCell ⟨g, 1, none⟩ v') := by
  have hb1 : Below w.heap.size w (w.alloc o) := (Below.refl _ _).alloc (Nat.le_refl _) _
  have h1 := h.keep hb1
  have hnew : w.heap.size + 1 = (w.alloc o).heap.size := by simp
  rw [hnew] at hloc
  clear hnew
  generalize hw1 : w.alloc o = w1 at *
  have hN : ∀ k, (Value.slice B P.length d).ownBlock = some k → g + 1 ≤ k ∧ k < w1.heap.size := fun k hk => h1.ports.lt k hk
  have hgb : w2.heap[g]? = w1.heap[g]? := hg.block g h1.lt (fun e => by have := hN g e.symm; omega)
  have hbox2 : w2.heap[g]? = some (.cells #[.slice A N.length c, .slice B P.length d] 120 (0, 0)) := hgb.trans h1.box
  have hbox3 := two_set1 hbox2 v'
  have hoth : ∀ k, k ≠ g → (w2.setCell ⟨g, 1, none⟩ v').heap[k]? = w2.heap[k]? := fun k hk => Below.heap_setCell _ _ _ _ hk
  have hsz : (w2.setCell ⟨g, 1, none⟩ v').heap.size = w2.heap.size := by simp [World.setCell]
  obtain ⟨A', c', rfl⟩ := own_form hown
  have hpo : ∀ r, (Value.slice A N.length c).ownBlock = some r → w2.heap[r]? = w1.heap[r]? := fun r hr => hg.block r (h1.names.lt r hr).2 (fun e => h1.apart hr e.symm)
  have hT : TkV (w2.setCell ⟨g, 1, none⟩ (.slice A' (P.length + 1) c')) g A c A' c' N (P ++ [z]) := by
    refine ⟨?_, ?_, ?_⟩
    · rw [List.length_append]; exact hbox3
    · refine owns_of (owns_of h1.names hpo) fun r hr => hoth r (by have := (h1.names.lt r hr).1; omega)
    · rw [List.length_append, List.map_append]
      exact owns_of hown fun r hr => hoth r (by have := (hown.lt r hr).1; omega)
  refine ⟨⟨_, _, _, _, hT⟩, hg.os.trans hb1.os, hg.tape.trans hb1.tape, hg.output.trans hb1.output, by rw [hsz]; exact Nat.le_trans hb1.size hg.size, fun k hk _ => ?_, fun hok => ⟨hT.ok, fun b hb => ?_⟩⟩
  · rw [hoth k (by omega), hg.block k (by have := h1.lt; omega) (fun e => by have := hN k e.symm; omega), hb1.block k (by have := h.lt; omega)]
  · obtain ⟨b1, b2, b3⟩ := hb
    obtain ⟨c0, c1, _, _⟩ := two_cells h.box
    have hne : some b ≠ (Value.slice A N.length c).ownBlock := fun e => by
      cases A with
      | none => cases e
      | some a => exact b3 ⟨0, a, _, _, c0, (Option.some.inj e).symm⟩
    have hne2 : some b ≠ (Value.slice B P.length d).ownBlock := fun e => by
      cases B with
      | none => cases e
      | some a => exact b3 ⟨1, a, _, _, c1, (Option.some.inj e).symm⟩
    refine ⟨⟨by rw [hsz]; have := hb1.size; have := hg.size; omega, b2, ?_⟩, ?_⟩
    · rintro ⟨i, a, n, k, e1, rfl⟩
      obtain ⟨d0, d1, _, _⟩ := two_cells hT.box
      simp only [List.length_append, List.length_singleton] at d0 d1
      rcases i with _ | _ | i
      · have e := Option.some.inj (d0.symm.trans e1)
        exact hne (congrArg Value.ownBlock e).symm
      · have e := Option.some.inj (d1.symm.trans e1)
        have e' : (Value.slice A' (P.length + 1) c').ownBlock = some a.block := congrArg Value.ownBlock e
        rcases hloc with hl | hl
        · exact hne2 (e'.symm.trans hl)
        · have := Option.some.inj (e'.symm.trans hl)
          have := hb1.size
          omega
      · simp [World.cell?, hT.box] at e1
    · rw [hoth b b2, hg.block b (by have := hb1.size; omega) hne2, hb1.block b b1]
end SpecOwn
end Go.Proofs.YtbichomjpmmjmaaGreatDoor

/-
  The contracts of slices.Contains and slices.Index on texts and on numbers: is one of them that? All is left as it was. Condition: the list is a list.
-/
namespace Go.Proofs.YtbichomjpmmjmaaGreatDoor
open Go.ChangeShapes Go.WideShapes Go.ChangeAt Go.RowKit Go.Lib
open Sd Lists
namespace SpecOwn
/-- the number of the first for which it holds; -1: none -/
def idxN {α : Type} (p : α → Bool) : Nat → List α → Int
  | _, [] => -1
  | k, x :: l => if p x = true then (k : Int) else idxN p (k + 1) l
theorem idxN_some {α : Type} (p : α → Bool) : ∀ (l : List α) (k : Nat), l.any p = true → 0 ≤ idxN p k l
  | [], _, h => by simp at h
  | x :: l, k, h => by
    rw [idxN]
    split
    · omega
    · rename_i h0
      exact idxN_some p l (k + 1) (by simpa [h0] using h)
theorem idxN_none {α : Type} (p : α → Bool) : ∀ (l : List α) (k : Nat), l.any p = false → idxN p k l = -1
  | [], _, _ => rfl
  | x :: l, k, h => by
    simp only [List.any_cons, Bool.or_eq_false_iff] at h
    rw [idxN, if_neg (by simp [h.1])]
    exact idxN_none p l (k + 1) h.2
theorem index_texts (s : ByteArray) (A : Option Addr) (c : Nat) (N : List ByteArray) (hn : N.length ≤ 9223372036854775807) (w : World) (h : Texts w A N) :
    Calls Tryz.prog 154 #[.slice A N.length c, .string s] w fun e w' => e = .returned (.int .i64 (idxN (fun y => s.toList == y.toList) 0 N)) ∧ w = w' := by
  have H := Lib.hid h
  clear h
  have hn' : (N.length : Int) ≤ 9223372036854775807 := by omega
  obtain ⟨R, hR⟩ : ∃ R, idxN (fun y => s.toList == y.toList) 0 N = R := ⟨_, rfl⟩
  rw [hR]
  have HR := Lib.hid hR
  clear hR
  go_enter Tryz.func154, Tryz.ntmps154
  go_wp2
  go_loop [8] (fun i => ∃ k : Nat, k ≤ N.length ∧ i = .int .i64 k ∧ Hid (R = idxN (fun y => s.toList == y.toList) k (N.drop k))) (fun i => N.length - (RowKit.intOf i).toNat)
  case atStart => exact ⟨0, Nat.zero_le _, rfl, by unfold Hid; rw [← HR.out, List.drop_zero]⟩
  case round =>
    obtain ⟨k, hk, rfl, HK⟩ := hrel
    by_cases hlt : k < N.length
    · obtain ⟨a, rfl, ha, hc⟩ := H.out.at hlt
      have HD := Lib.hid (List.drop_eq_getElem_cons hlt)
      obtain ⟨x, hx⟩ : ∃ x, N[k] = x := ⟨_, rfl⟩
      rw [hx] at hc
      have HX := Lib.hid hx
      have hkn : (k : Int) < (N.length : Int) := by omega
      clear hx
      cases hq : (s.toList == x.toList) with
      | true =>
        have HE := Lib.hid (show R = (k : Int) by rw [HK.out, HD.out, HX.out, idxN, if_pos hq])
        go_wp2
        go_ret
        exact ⟨by rw [HE.out]; rfl, rfl⟩
      | false =>
        have HE := Lib.hid (show R = idxN (fun y => s.toList == y.toList) (k + 1) (N.drop (k + 1)) by rw [HK.out, HD.out, HX.out, idxN, if_neg (by rw [hq]; simp)])
        go_wp2
        go_round
        case rel => exact ⟨k + 1, by omega, by go_num, HE.out⟩
        case measure => simp [RowKit.intOf]; omega
    · have HE := Lib.hid (show R = -1 by rw [HK.out, List.drop_eq_nil_of_le (by omega)]; rfl)
      go_wp2
      go_ret
      exact ⟨by rw [HE.out]; rfl, rfl⟩
theorem index_nums (z : Int) (A : Option Addr) (c : Nat) (P : List Int) (hn : P.length ≤ 9223372036854775807) (w : World) (h : ∀ (k : Nat) (x : Int), P[k]? = some x → ∃ a, A = some a ∧ w.cell? (a.add k) = some (.int .i64 x)) :
    Calls Tryz.prog 157 #[.slice A P.length c, .int .i64 z] w fun e w' => e = .returned (.int .i64 (idxN (fun y => z == y) 0 P)) ∧ w = w' := by
  have H := Lib.hid h
  clear h
  have hn' : (P.length : Int) ≤ 9223372036854775807 := by omega
  obtain ⟨R, hR⟩ : ∃ R, idxN (fun y => z == y) 0 P = R := ⟨_, rfl⟩
  rw [hR]
  have HR := Lib.hid hR
  clear hR
  go_enter Tryz.func157, Tryz.ntmps157
  go_wp2
  go_loop [8] (fun i => ∃ k : Nat, k ≤ P.length ∧ i = .int .i64 k ∧ Hid (R = idxN (fun y => z == y) k (P.drop k))) (fun i => P.length - (RowKit.intOf i).toNat)
  case atStart => exact ⟨0, Nat.zero_le _, rfl, by unfold Hid; rw [← HR.out, List.drop_zero]⟩
  case round =>
    obtain ⟨k, hk, rfl, HK⟩ := hrel
    by_cases hlt : k < P.length
    · obtain ⟨a, rfl, hc⟩ := H.out k P[k] (List.getElem?_eq_getElem hlt)
      have HD := Lib.hid (List.drop_eq_getElem_cons hlt)
      obtain ⟨x, hx⟩ : ∃ x, P[k] = x := ⟨_, rfl⟩
      rw [hx] at hc
      have HX := Lib.hid hx
      have hkn : (k : Int) < (P.length : Int) := by omega
      clear hx
      cases hq : (z == x) with
      | true =>
        have HE := Lib.hid (show R = (k : Int) by rw [HK.out, HD.out, HX.out, idxN, if_pos hq])
        go_wp2
        go_ret
        exact ⟨by rw [HE.out]; rfl, rfl⟩
      | false =>
        have HE := Lib.hid (show R = idxN (fun y => z == y) (k + 1) (P.drop (k + 1)) by rw [HK.out, HD.out, HX.out, idxN, if_neg (by rw [hq]; simp)])
        go_wp2
        go_round
        case rel => exact ⟨k + 1, by omega, by go_num, HE.out⟩
        case measure => simp [RowKit.intOf]; omega
    · have HE := Lib.hid (show R = -1 by rw [HK.out, List.drop_eq_nil_of_le (by omega)]; rfl)
      go_wp2
      go_ret
      exact ⟨by rw [HE.out]; rfl, rfl⟩
theorem contains_texts (s : ByteArray) (A : Option Addr) (c : Nat) (N : List ByteArray) (hn : N.length ≤ 9223372036854775807) (w : World) (h : Texts w A N) :
    Calls Tryz.prog 138 #[.slice A N.length c, .string s] w fun e w' => e = .returned (.bool (N.any fun y => y.toList == s.toList)) ∧ w = w' := by
  have hcm : (N.any fun y => y.toList == s.toList) = N.any fun y => s.toList == y.toList := by congr 1; funext y; exact Bool.beq_comm
  rw [hcm]
  have H := Lib.hid h
  clear h hcm
  obtain ⟨b, hb⟩ : ∃ b, (N.any fun y => s.toList == y.toList) = b := ⟨_, rfl⟩
  rw [hb]
  obtain ⟨z, hz⟩ : ∃ z, idxN (fun y => s.toList == y.toList) 0 N = z := ⟨_, rfl⟩
  have HZ := Lib.hid hz
  cases b with
  | true =>
    have h0 : 0 ≤ z := hz ▸ idxN_some _ N 0 hb
    clear hb hz
    go_enter Tryz.func138, Tryz.ntmps138
    go_wp2_with fail
    refine (index_texts s A c N hn _ H.out).mono ?_
    rw [HZ.out]
    rintro e w1 ⟨rfl, rfl⟩
    go_wp2
    go_ret
    exact ⟨rfl, rfl⟩
  | false =>
    obtain rfl : -1 = z := hz ▸ (idxN_none _ N 0 hb).symm
    clear hb hz
    go_enter Tryz.func138, Tryz.ntmps138
    go_wp2_with fail
    refine (index_texts s A c N hn _ H.out).mono ?_
    rw [HZ.out]
    rintro e w1 ⟨rfl, rfl⟩
    go_wp2
    go_ret
    exact ⟨rfl, rfl⟩
theorem contains_nums (z : Int) (A : Option Addr) (c : Nat) (P : List Int) (hn : P.length ≤ 9223372036854775807) (w : World) (h : ∀ (k : Nat) (x : Int), P[k]? = some x → ∃ a, A = some a ∧ w.cell? (a.add k) = some (.int .i64 x)) :
    Calls Tryz.prog 141 #[.slice A P.length c, .int .i64 z] w fun e w' => e = .returned (.bool (P.contains z)) ∧ w = w' := by
  have hcm : P.contains z = P.any fun y => z == y := by
    rw [List.contains_eq_any_beq]
  rw [hcm]
  have H := Lib.hid h
  clear h hcm
  obtain ⟨b, hb⟩ : ∃ b, (P.any fun y => z == y) = b := ⟨_, rfl⟩
  rw [hb]
  obtain ⟨y, hy⟩ : ∃ y, idxN (fun y => z == y) 0 P = y := ⟨_, rfl⟩
  have HZ := Lib.hid hy
  cases b with
  | true =>
    have h0 : 0 ≤ y := hy ▸ idxN_some _ P 0 hb
    clear hb hy
    go_enter Tryz.func141, Tryz.ntmps141
    go_wp2_with fail
    refine (index_nums z A c P hn _ H.out).mono ?_
    rw [HZ.out]
    rintro e w1 ⟨rfl, rfl⟩
    go_wp2
    go_ret
    exact ⟨rfl, rfl⟩
  | false =>
    obtain rfl : -1 = y := hy ▸ (idxN_none _ P 0 hb).symm
    clear hb hy
    go_enter Tryz.func141, Tryz.ntmps141
    go_wp2_with fail
    refine (index_nums z A c P hn _ H.out).mono ?_
    rw [HZ.out]
    rintro e w1 ⟨rfl, rfl⟩
    go_wp2
    go_ret
    exact ⟨rfl, rfl⟩
end SpecOwn
end Go.Proofs.YtbichomjpmmjmaaGreatDoor

/-
  The contracts of (*taken).takeName and (*taken).takePorts: what is said of a name, of ports, and what is taken behind. All that was there is left as it was, but what is taken. Conditions: as SpecStep; few are taken; the texts are short.
-/
namespace Go.Proofs.YtbichomjpmmjmaaGreatDoor
open Go.ChangeShapes Go.WideShapes Go.ChangeAt Go.RowKit Go.Lib
open Sd Lists
namespace SpecOwn
theorem info_int : (Tryz.prog.info? 3).map (fun i => (i.zero, i.size, i.bytes)) = some (some (.int .i64 0), 1, 8) := by kernel_rfl
/-- a call ends with what says y, in blocks off what is taken -/
def Took (g : Nat) (y : Say) (N : List ByteArray) (P : List Int) (w : World) (e : Ending) (w' : World) : Prop :=
  ∃ E, e = .returned E ∧ Says (Off g w') w' E y ∧ Av g w w' ∧ Tk w' g N P
theorem tells_off {g : Nat} {y : Say} {w w1 w' : World} {E : Value} {N : List ByteArray} {P : List Int} (hT : Tk w1 g N P) (hb1 : Below w.heap.size w w1) (hg : g < w.heap.size) (h : Tells y w1 (.returned E) w') : Took g y N P w (.returned E) w' := by
  obtain ⟨E', he, h1, h2⟩ := h
  injection he with he
  subst he
  refine ⟨_, rfl, ?_, Av.of_below (hb1.trans (h2.mono hb1.size)) hg, hT.keep h2⟩
  rcases h1 with h1 | ⟨h0, hs, p, hp, hr⟩
  · exact .inl h1
  · refine .inr ⟨h0, hs, p, ?_, hr⟩
    refine IsIn.keep (w' := w') hp fun b hd hlt => ⟨hT.ok.fresh h2 hd hlt, rfl⟩
theorem tells_on {g : Nat} {y : Say} {w w1 w' : World} {E : Value} {N : List ByteArray} {P : List Int} (hT : Tk w1 g N P) (hA : Av g w w1) (h : Tells y w1 (.returned E) w') : Took g y N P w (.returned E) w' := by
  obtain ⟨E', he, h1, h2, h3⟩ := tells_off hT (Below.refl _ _) hT.lt h
  exact ⟨E', he, h1, hA.trans h2, h3⟩
theorem Av.base {g : Nat} {w0 w w' : World} (h : Av g w w') (hb : Below w0.heap.size w0 w) (hB : w0.heap.size ≤ g) : Below w0.heap.size w0 w' :=
  ⟨h.os.trans hb.os, h.tape.trans hb.tape, h.output.trans hb.output, Nat.le_trans hb.size h.size, fun k hk => (h.low k (Nat.lt_of_lt_of_le hk hB) (Nat.lt_of_lt_of_le hk hb.size)).trans (hb.block k hk)⟩
theorem texts_of_own {w : World} {base : Nat} {A : Option Addr} {n c : Nat} {p : List ByteArray} (h : w.ownsRow base 9 1 (.slice A n c) p.length (p.map Value.string)) : Texts w A p := by
  rcases h.2 with ⟨h1, h0⟩ | ⟨g, cap, cur, h1, _⟩
  · obtain rfl : p = [] := List.eq_nil_of_length_eq_zero h0
    exact fun k x hx => by simp at hx
  · injection h1 with e1 e2 e3
    subst e1
    intro k x hx
    have hc := h.cells (g := g) rfl k (.string x) (by rw [List.getElem?_map, hx]; rfl)
    exact ⟨_, rfl, (h.lt g rfl).2, hc⟩
theorem nums_of_own {w : World} {base : Nat} {A : Option Addr} {n c : Nat} {p : List Int} (h : w.ownsRow base 3 1 (.slice A n c) p.length (p.map (Value.int .i64))) :
    ∀ (k : Nat) (x : Int), p[k]? = some x → ∃ a, A = some a ∧ w.cell? (a.add k) = some (.int .i64 x) := by
  rcases h.2 with ⟨h1, h0⟩ | ⟨g, cap, cur, h1, _⟩
  · obtain rfl : p = [] := List.eq_nil_of_length_eq_zero h0
    exact fun k x hx => by simp at hx
  · injection h1 with e1 e2 e3
    subst e1
    intro k x hx
    exact ⟨_, rfl, h.cells (g := g) rfl k (.int .i64 x) (by rw [List.getElem?_map, hx]; rfl)⟩
set_option maxRecDepth 100000 in
set_option maxHeartbeats 1000000 in
theorem takeName_any (g : Nat) (s : ByteArray) (N : List ByteArray) (P : List Int) (hs : s.size ≤ 1000) (hN : N.length ≤ 1000) (w : World) (hL : SLaid w) (hT : Tk w g N P) :
    Calls Tryz.prog 107 #[.pointer (some ⟨g, 0, none⟩), .string s] w (Took g (nameN s N) (nameAfter s N) P w) := by
  have HL := Lib.hid hL
  have HT := Lib.hid hT
  obtain ⟨A, c, B, d, hV⟩ := hT
  have HV := Lib.hid hV
  obtain ⟨c0, c1, f0, f1⟩ := two_cells hV.box
  have hg := hV.lt
  have HTX := Lib.hid (texts_of_own hV.names)
  obtain ⟨i0, hi, hz0, hz1, hz2⟩ := info_parts Err.info_string
  clear hL hV
  cases hname : TextPure.nameL s.data.toList with
  | false =>
    have HE := Lib.hid (show nameN s N = newV 30 t_name by unfold nameN newV; rw [if_pos (show isName s = false from hname), if_neg (by decide)])
    have HA := Lib.hid (show nameAfter s N = N by unfold nameAfter; rw [HE.out]; rfl)
    have HC := Lib.hid (show Text.codeN (TextPure.nameL s.data.toList) 30 = 30 by rw [hname]; rfl)
    clear hname
    go_enter Tryz.func107, Tryz.ntmps107
    go_wp2_with fail
    refine (Text.name_any s (by unfold maxLen; omega) _ HL.out.text).mono ?_
    rw [HC.out]
    rintro e w1 ⟨rfl, rfl⟩
    go_wp2_with fail
    refine (new_says 30 t_name w.heap.size 1 _ (by decide) (by simp [t_name])).mono ?_
    rintro e w1 ⟨E, rfl, hE, hb⟩
    have HX := Lib.hid (tells_off (HT.out.keep ((Below.refl _ w).alloc (Nat.le_refl _) _)) ((Below.refl _ w).alloc (Nat.le_refl _) _) hg ⟨E, rfl, hE, hb⟩)
    clear hE hb
    go_wp2_with fail
    go_ret
    rw [HE.out, HA.out]
    exact HX.out
  | true =>
    have HC := Lib.hid (show Text.codeN (TextPure.nameL s.data.toList) 30 = 0 by rw [hname]; rfl)
    cases hin : N.any (fun y => y.toList == s.toList) with
    | true =>
      have HE := Lib.hid (show nameN s N = newV 7 t_name by unfold nameN newV; rw [if_neg (show ¬ isName s = false by show ¬ TextPure.nameL _ = _; rw [hname]; simp), if_pos hin, if_neg (by decide)])
      have HA := Lib.hid (show nameAfter s N = N by unfold nameAfter; rw [HE.out]; rfl)
      have HI := Lib.hid hin
      clear hname hin
      go_enter Tryz.func107, Tryz.ntmps107
      go_wp2_with fail
      refine (Text.name_any s (by unfold maxLen; omega) _ HL.out.text).mono ?_
      rw [HC.out]
      rintro e w1 ⟨rfl, rfl⟩
      go_wp2_with fail
      refine (contains_texts s A c N (by omega) _ HTX.out).mono ?_
      rw [HI.out]
      rintro e w1 ⟨rfl, rfl⟩
      go_wp2_with fail
      refine (new_says 7 t_name w.heap.size 1 _ (by decide) (by simp [t_name])).mono ?_
      rintro e w1 ⟨E, rfl, hE, hb⟩
      have HX := Lib.hid (tells_off (HT.out.keep ((Below.refl _ w).alloc (Nat.le_refl _) _)) ((Below.refl _ w).alloc (Nat.le_refl _) _) hg ⟨E, rfl, hE, hb⟩)
      clear hE hb
      go_wp2_with fail
      go_ret
      rw [HE.out, HA.out]
      exact HX.out
    | false =>
      have HE := Lib.hid (show nameN s N = fine by unfold nameN; rw [if_neg (show ¬ isName s = false by show ¬ TextPure.nameL _ = _; rw [hname]; simp), if_neg (by rw [hin]; simp)])
      have HA := Lib.hid (show nameAfter s N = N ++ [s] by unfold nameAfter; rw [HE.out]; rfl)
      have HI := Lib.hid hin
      clear hname hin
      go_enter Tryz.func107, Tryz.ntmps107
      go_wp2_with fail
      refine (Text.name_any s (by unfold maxLen; omega) _ HL.out.text).mono ?_
      rw [HC.out]
      rintro e w1 ⟨rfl, rfl⟩
      go_wp2_with fail
      refine (contains_texts s A c N (by omega) _ HTX.out).mono ?_
      rw [HI.out]
      rintro e w1 ⟨rfl, rfl⟩
      go_wp2_with (at_builtin; refine wpList_append_own_at _ rfl _ _ 118 rfl (g + 1) 9 i0 (.string ⟨#[]⟩) 1 16 Tryz.underlying118 hi hz0 hz1 hz2 rfl (by decide) _ _ _ rfl (HV.out.names.alloc _) ⟨w.heap.size, 0, none⟩ 1 1 [.string s] rfl rfl (cell_one_new _ _ _) (by intro u hu; simp at hu; subst hu; rfl) (by unfold maxLen; omega) (by omega) (by simp; omega) ?_)
      intro v' w7 hown' hgrow hnil hloc
      obtain ⟨A', c', rfl⟩ := own_form hown'
      have HP := Lib.hid (HV.out.push_name (.cells #[.string s] 9) s _ hown' hgrow hloc)
      have hsame : w7.heap[g]? = w.heap[g]? := by
        have h1 := hgrow.block g (by simp; omega) (fun e => by have := (HV.out.names.lt g e.symm).1; omega)
        rw [h1]
        exact ((Below.refl w.heap.size w).alloc (Nat.le_refl _) _).block g hg
      have hcell : w7.cell? ⟨g, 0, none⟩ = some (.slice A N.length c) := (World.cell?_of_block (w := w) (a := ⟨g, 0, none⟩) hsame).trans c0
      have hfz : w7.frozen? ⟨g, 0, none⟩ = false := (World.frozen?_of_block (w := w) (a := ⟨g, 0, none⟩) hsame).trans f0
      clear hown' hgrow hnil hloc hsame c0 c1 f0 f1
      go_wp2
      go_ret
      rw [HE.out, HA.out]
      exact ⟨_, rfl, .inl ⟨rfl, rfl⟩, HP.out.2, HP.out.1⟩
set_option maxRecDepth 100000 in
set_option maxHeartbeats 2000000 in
theorem takePorts_any (w0 : World) (hL : SLaid w0) (g : Nat) (hg0 : w0.heap.size ≤ g) (LA : Option Addr) (lc : Nat) (l : List Int) (most : Int) (hl : Nums .i64 w0 LA l) (hll : l.length ≤ 1000) (N : List ByteArray) (P : List Int) (hP : P.length ≤ 1000)
    (w : World) (hb0 : Below w0.heap.size w0 w) (hT : Tk w g N P) :
    Calls Tryz.prog 111 #[.pointer (some ⟨g, 0, none⟩), .slice LA l.length lc, .int .i64 most] w (Took g (portsL P most l) N (portsLAfter P most l) w) := by
  have HL := Lib.hid hL
  have HT := Lib.hid hT
  have HN := Lib.hid hl
  have HB := Lib.hid hb0
  have hlt := hT.lt
  obtain ⟨i0, hi, hz0, hz1, hz2⟩ := info_parts info_int
  clear hL hT hl hb0
  by_cases hm : most < (l.length : Int)
  · have HE := Lib.hid (show portsL P most l = newV 2 t_ports by unfold portsL newV; rw [if_pos hm, if_neg (by decide)])
    have HA := Lib.hid (show portsLAfter P most l = P by unfold portsLAfter; rw [if_pos hm])
    go_enter Tryz.func111, Tryz.ntmps111
    go_wp2_with fail
    refine (new_says 2 t_ports w.heap.size 1 _ (by decide) (by simp [t_ports])).mono ?_
    rintro e w1 ⟨E, rfl, hE, hb⟩
    have HX := Lib.hid (tells_off (HT.out.keep ((Below.refl _ w).alloc (Nat.le_refl _) _)) ((Below.refl _ w).alloc (Nat.le_refl _) _) hlt ⟨E, rfl, hE, hb⟩)
    clear hE hb
    go_wp2_with fail
    go_ret
    rw [HE.out, HA.out]
    exact HX.out
  · have HE := Lib.hid (show portsL P most l = portsN P 0 l by unfold portsL; rw [if_neg hm])
    have HA := Lib.hid (show portsLAfter P most l = portsAfter P l by unfold portsLAfter; rw [if_neg hm])
    go_enter Tryz.func111, Tryz.ntmps111
    go_wp2_with fail
    go_loopw [19] (fun i wr => ∃ (k : Nat) (Q : List Int), k ≤ l.length ∧ i = .int .i64 k ∧ Q.length ≤ P.length + k ∧ Hid (Tk wr g N Q) ∧ Hid (Av g w wr) ∧ Hid (portsN P 0 l = portsN Q k (l.drop k)) ∧ Hid (portsAfter P l = portsAfter Q (l.drop k))) (fun i _ => l.length - (RowKit.intOf i).toNat)
    case atStart => exact ⟨0, P, Nat.zero_le _, rfl, by omega, HT.out, Av.refl _ _, by unfold Hid; rw [List.drop_zero], by unfold Hid; rw [List.drop_zero]⟩
    case round =>
      obtain ⟨k, Q, hk, rfl, hQ, HTk, HAv, H1, H2⟩ := hrel
      by_cases hkl : k < l.length
      · have hkn : (k : Int) < (l.length : Int) := by omega
        have HBr := Lib.hid (HAv.out.base HB.out hg0)
        obtain ⟨hwf, a, rfl, ha, hc⟩ := (Nums.below HN.out HBr.out).at hkl
        have HD := Lib.hid (List.drop_eq_getElem_cons hkl)
        obtain ⟨z, hz⟩ : ∃ z, l[k] = z := ⟨_, rfl⟩
        rw [hz] at hc hwf
        have HZ := Lib.hid hz
        clear hz
        go_wp2_with fail
        refine (member_any t_ports k (by decide) (by omega) wr (HL.out.below HBr.out).tab).mono ?_
        rintro e w1 ⟨rfl, hb1⟩
        have hasz : (atB t_ports k).size ≤ 100 := Nat.le_trans (SpecRef.atB_size t_ports k (by omega)) (by decide)
        obtain ⟨u, hu⟩ : ∃ u, atB t_ports k = u := ⟨_, rfl⟩
        rw [hu] at hasz ⊢
        have HU := Lib.hid hu
        have HT1 := Lib.hid (HTk.out.keep hb1)
        have HA1 := Lib.hid (HAv.out.trans (Av.of_below hb1 HTk.out.lt))
        clear hu hc hb1
        go_wp2_with fail
        refine (within_any z 1 65535 u (by omega) w1).mono ?_
        by_cases hr : z < 1 ∨ 65535 < z
        · have HV : Hid (withinV z 1 65535 u = (1, u)) := by unfold Hid withinV; rw [if_pos hr]
          have HF := Lib.hid (show portsN P 0 l = (1, u) by rw [H1.out, HD.out, HZ.out, portsN, if_pos hr, HU.out])
          have HG := Lib.hid (show portsAfter P l = Q by rw [H2.out, HD.out, HZ.out, portsAfter, if_pos hr])
          rw [HV.out]
          rintro e w2 ⟨E, rfl, hE, hb2⟩
          have HX := Lib.hid (tells_on HT1.out HA1.out ⟨E, rfl, hE, hb2⟩)
          obtain ⟨uu, xx, rfl⟩ : ∃ uu xx, E = .iface uu xx := by
            rcases hE.form with h | h
            · have := hE.nil_iff.1 h
              simp at this
            · exact h
          clear hE hb2 hr
          go_wp2
          go_ret
          rw [HE.out, HA.out, HF.out, HG.out]
          exact HX.out
        · have HV : Hid (withinV z 1 65535 u = fine) := by unfold Hid withinV; rw [if_neg hr]
          rw [HV.out]
          rintro e w2 ⟨E, rfl, hE, hb2⟩
          obtain rfl : E = .nilIface := hE.nil_iff.2 rfl
          have HT2 := Lib.hid (HT1.out.keep hb2)
          have HA2 := Lib.hid (HA1.out.trans (Av.of_below hb2 HT1.out.lt))
          obtain ⟨A, c, B, d, hV⟩ := HT2.out
          have HV2 := Lib.hid hV
          obtain ⟨c0, c1, f0, f1⟩ := two_cells hV.box
          have hg2 := hV.lt
          have HNU := Lib.hid (nums_of_own hV.ports)
          have HR := Lib.hid hr
          clear hE hb2 hV hr
          go_wp2_with fail
          refine (contains_nums z B d Q (by omega) _ HNU.out).mono ?_
          cases hin : Q.contains z with
          | true =>
            have HF := Lib.hid (show portsN P 0 l = newV 150 u by rw [H1.out, HD.out, HZ.out, portsN, if_neg HR.out, if_pos hin, HU.out]; rfl)
            have HG := Lib.hid (show portsAfter P l = Q by rw [H2.out, HD.out, HZ.out, portsAfter, if_neg HR.out, if_pos hin])
            clear hin
            rintro e w3 ⟨rfl, rfl⟩
            go_wp2_with fail
            refine (new_says 150 u w2.heap.size 1 _ (by omega) (by simp)).mono ?_
            rintro e w3 ⟨E, rfl, hE, hb3⟩
            have hal : Below w2.heap.size w2 (w2.alloc (.cells #[.string u] 9)) := (Below.refl _ _).alloc (Nat.le_refl _) _
            have HX := Lib.hid (tells_on (HT2.out.keep hal) (HA2.out.trans (Av.of_below hal hg2)) ⟨E, rfl, hE, hb3⟩)
            clear hE hb3 hal c0 c1 f0 f1
            go_wp2_with fail
            go_ret
            rw [HE.out, HA.out, HF.out, HG.out]
            exact HX.out
          | false =>
            have HF := Lib.hid (show portsN P 0 l = portsN (Q ++ [z]) (k + 1) (l.drop (k + 1)) by rw [H1.out, HD.out, HZ.out, portsN, if_neg HR.out, if_neg (by rw [hin]; simp)])
            have HG := Lib.hid (show portsAfter P l = portsAfter (Q ++ [z]) (l.drop (k + 1)) by rw [H2.out, HD.out, HZ.out, portsAfter, if_neg HR.out, if_neg (by rw [hin]; simp)])
            clear hin
            rintro e w3 ⟨rfl, rfl⟩
            go_wp2_with (at_builtin; refine wpList_append_own_at _ rfl _ _ 49 rfl (g + 1) 3 i0 (.int .i64 0) 1 8 Tryz.underlying49 hi hz0 hz1 hz2 rfl (by decide) _ _ _ rfl (HV2.out.ports.alloc _) ⟨w2.heap.size, 0, none⟩ 1 1 [.int .i64 z] rfl rfl (cell_one_new _ _ _) (by intro u hu; simp at hu; subst hu; rfl) (by unfold maxLen; omega) (by omega) (by simp; omega) ?_)
            intro v' w7 hown' hgrow hnil hloc
            obtain ⟨A', c', rfl⟩ := own_form hown'
            have HP := Lib.hid (HV2.out.push_port (.cells #[.int .i64 z] 3) z _ hown' hgrow hloc)
            have hsame : w7.heap[g]? = w2.heap[g]? := by
              have h1 := hgrow.block g (by simp; omega) (fun e => by have := (HV2.out.ports.lt g e.symm).1; omega)
              rw [h1]
              exact ((Below.refl w2.heap.size w2).alloc (Nat.le_refl _) _).block g hg2
            have hcell : w7.cell? ⟨g, 1, none⟩ = some (.slice B Q.length d) := (World.cell?_of_block (w := w2) (a := ⟨g, 1, none⟩) hsame).trans c1
            have hfz : w7.frozen? ⟨g, 1, none⟩ = false := (World.frozen?_of_block (w := w2) (a := ⟨g, 1, none⟩) hsame).trans f1
            clear hown' hgrow hnil hloc hsame c0 c1 f0 f1
            go_wp2
            go_roundw
            case rel => exact ⟨k + 1, Q ++ [z], by omega, by go_num, by simp; omega, HP.out.1, HA2.out.trans HP.out.2, HF.out, HG.out⟩
            case measure => simp [RowKit.intOf]; omega
      · have HF := Lib.hid (show portsN P 0 l = fine by rw [H1.out, List.drop_eq_nil_of_le (by omega)]; rfl)
        have HG := Lib.hid (show portsAfter P l = Q by rw [H2.out, List.drop_eq_nil_of_le (by omega)]; rfl)
        go_wp2
        go_ret
        rw [HE.out, HA.out, HF.out, HG.out]
        exact ⟨_, rfl, .inl ⟨rfl, rfl⟩, HAv.out, HTk.out⟩
end SpecOwn
end Go.Proofs.YtbichomjpmmjmaaGreatDoor
