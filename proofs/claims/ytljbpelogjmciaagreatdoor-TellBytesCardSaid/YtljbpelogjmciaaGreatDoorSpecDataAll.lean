/-
 A list of texts, and a list of numbers, in memory. No condition. And what follows of it, part by part, each with its conditions.
-/
import Derived.Test.YtljbpelogjmciaaGreatDoorKit
import Derived.Test.YtljbpelogjmciaaGreatDoorChecked
import Derived.Lib.Hide
import Derived.WalkKit
import Derived.ProofKit
import Derived.Deep.QuietTactic
import Derived.BigQuiet
import Derived.Laws.StructEq
import Derived.KernelRfl
namespace Go.Proofs.YtljbpelogjmciaaGreatDoor
open Go.RowKit
namespace Lists
theorem add_block (a : Addr) (k : Nat) : (a.add k).block = a.block := by
 unfold Addr.add; split <;> rfl
def Texts (w : World) (A : Option Addr) (xs : List ByteArray) : Prop := ∀ (k : Nat) (x : ByteArray), xs[k]? = some x → ∃ a, A = some a ∧ a.block < w.heap.size ∧ w.cell? (a.add k) = some (.string x)
def Nums (q : IntKind) (w : World) (A : Option Addr) (zs : List Int) : Prop := ∀ (k : Nat) (z : Int), zs[k]? = some z → (Lit.int q z).wf = true ∧ ∃ a, A = some a ∧ a.block < w.heap.size ∧ w.cell? (a.add k) = some (.int q z)
theorem Texts.at {w : World} {A : Option Addr} {xs : List ByteArray} (h : Texts w A xs) {k : Nat} (hk : k < xs.length) : ∃ a, A = some a ∧ a.block < w.heap.size ∧ w.cell? (a.add k) = some (.string xs[k]) := h k _ (List.getElem?_eq_getElem hk)
theorem Nums.at {q : IntKind} {w : World} {A : Option Addr} {zs : List Int} (h : Nums q w A zs) {k : Nat} (hk : k < zs.length) : (Lit.int q zs[k]).wf = true ∧ ∃ a, A = some a ∧ a.block < w.heap.size ∧ w.cell? (a.add k) = some (.int q zs[k]) := h k _ (List.getElem?_eq_getElem hk)
end Lists
end Go.Proofs.YtljbpelogjmciaaGreatDoor
namespace Go.Proofs.YtljbpelogjmciaaGreatDoor
open Go.RowKit
namespace Sd
open Lists
structure Lbl where
 key : ByteArray
 val : ByteArray
structure Ctr where
 name : ByteArray
 image : ByteArray
 rc : Int
 rm : Int
 rp : Int
 lc : Int
 lm : Int
 lp : Int
 ports : List Int
 ev : Int
 fl : Int
structure Spc where
 name : ByteArray
 labels : List Lbl
 init : List Ctr
 main : List Ctr
 restart : Int
 grace : Int
 prio : Int
def I64 (z : Int) : Prop := -9223372036854775808 ≤ z ∧ z ≤ 9223372036854775807
def Lbl.cellsAt (x : Lbl) (w : World) (a : Addr) : Prop := w.cell? a = some (.string x.key) ∧ w.cell? ⟨a.block, a.off + 1, none⟩ = some (.string x.val)
def Ctr.cells (x : Ctr) (P : Option Addr) (c : Nat) : List Value :=
 [.string x.name, .string x.image, .int .i64 x.rc, .int .i64 x.rm, .int .i64 x.rp, .int .i64 x.lc, .int .i64 x.lm, .int .i64 x.lp, .slice P x.ports.length c, .int .i64 x.ev, .int .i64 x.fl]
def Ctr.cellsAt (x : Ctr) (P : Option Addr) (c : Nat) (w : World) (a : Addr) : Prop :=
 w.cell? a = some (.string x.name) ∧ w.cell? ⟨a.block, a.off + 1, none⟩ = some (.string x.image) ∧
 w.cell? ⟨a.block, a.off + 2, none⟩ = some (.int .i64 x.rc) ∧ w.cell? ⟨a.block, a.off + 3, none⟩ = some (.int .i64 x.rm) ∧ w.cell? ⟨a.block, a.off + 4, none⟩ = some (.int .i64 x.rp) ∧
 w.cell? ⟨a.block, a.off + 5, none⟩ = some (.int .i64 x.lc) ∧ w.cell? ⟨a.block, a.off + 6, none⟩ = some (.int .i64 x.lm) ∧ w.cell? ⟨a.block, a.off + 7, none⟩ = some (.int .i64 x.lp) ∧
 w.cell? ⟨a.block, a.off + 8, none⟩ = some (.slice P x.ports.length c) ∧ w.cell? ⟨a.block, a.off + 9, none⟩ = some (.int .i64 x.ev) ∧ w.cell? ⟨a.block, a.off + 10, none⟩ = some (.int .i64 x.fl) ∧ x.ports.length ≤ c
structure Ctr.Fits (x : Ctr) : Prop where
 rc : I64 x.rc
 rm : I64 x.rm
 rp : I64 x.rp
 lc : I64 x.lc
 lm : I64 x.lm
 lp : I64 x.lp
 ev : I64 x.ev
 fl : I64 x.fl
 ports : x.ports.length ≤ 9223372036854775807
def Lbls (w : World) (A : Option Addr) (l : List Lbl) : Prop := ∀ (k : Nat) (x : Lbl), l[k]? = some x → ∃ a, A = some a ∧ a.block < w.heap.size ∧ x.cellsAt w (a.add (k * 2))
def Ctrs (w : World) (A : Option Addr) (l : List Ctr) : Prop := ∀ (k : Nat) (x : Ctr), l[k]? = some x → x.Fits ∧ ∃ a P c, A = some a ∧ a.block < w.heap.size ∧ x.cellsAt P c w (a.add (k * 11)) ∧ Nums .i64 w P x.ports
structure Spc.In (S : Spc) (w : World) (LA : Option Addr) (lc : Nat) (IA : Option Addr) (ic : Nat) (MA : Option Addr) (mc : Nat) : Prop where
 labels : Lbls w LA S.labels
 init : Ctrs w IA S.init
 main : Ctrs w MA S.main
 nl : S.labels.length ≤ 9223372036854775807
 ni : S.init.length ≤ 9223372036854775807
 nm : S.main.length ≤ 9223372036854775807
 restart : I64 S.restart
 grace : I64 S.grace
 prio : I64 S.prio
theorem Lbl.cellsAt.keep {x : Lbl} {w w' : World} {a : Addr} (h : x.cellsAt w a) (hb : w'.heap[a.block]? = w.heap[a.block]?) : x.cellsAt w' a := by
 have e : ∀ p : Addr, p.block = a.block → w'.cell? p = w.cell? p := fun p hp => World.cell?_of_block (by rw [hp]; exact hb)
 unfold Lbl.cellsAt at *
 rw [e a rfl, e ⟨a.block, a.off + 1, none⟩ rfl]
 exact h
theorem Ctr.cellsAt.keep {x : Ctr} {P : Option Addr} {c : Nat} {w w' : World} {a : Addr} (h : x.cellsAt P c w a) (hb : w'.heap[a.block]? = w.heap[a.block]?) : x.cellsAt P c w' a := by
 have e : ∀ p : Addr, p.block = a.block → w'.cell? p = w.cell? p := fun p hp => World.cell?_of_block (by rw [hp]; exact hb)
 unfold Ctr.cellsAt at *
 rw [e a rfl, e ⟨a.block, a.off + 1, none⟩ rfl, e ⟨a.block, a.off + 2, none⟩ rfl, e ⟨a.block, a.off + 3, none⟩ rfl, e ⟨a.block, a.off + 4, none⟩ rfl, e ⟨a.block, a.off + 5, none⟩ rfl, e ⟨a.block, a.off + 6, none⟩ rfl, e ⟨a.block, a.off + 7, none⟩ rfl, e ⟨a.block, a.off + 8, none⟩ rfl, e ⟨a.block, a.off + 9, none⟩ rfl, e ⟨a.block, a.off + 10, none⟩ rfl]
 exact h
theorem Nums.below {q : IntKind} {w w' : World} {A : Option Addr} {l : List Int} (h : Nums q w A l) (hb : Below w.heap.size w w') : Nums q w' A l := by
 intro k x hk
 obtain ⟨h1, a, hA, ha, hc⟩ := h k x hk
 exact ⟨h1, a, hA, Nat.lt_of_lt_of_le ha hb.size, (hb.cell (p := a.add k) (by rw [add_block]; exact ha)).trans hc⟩
theorem Lbls.below {w w' : World} {A : Option Addr} {l : List Lbl} (h : Lbls w A l) (hb : Below w.heap.size w w') : Lbls w' A l := by
 intro k x hk
 obtain ⟨a, hA, ha, hc⟩ := h k x hk
 exact ⟨a, hA, Nat.lt_of_lt_of_le ha hb.size, hc.keep (by rw [add_block]; exact hb.block _ ha)⟩
theorem Ctrs.below {w w' : World} {A : Option Addr} {l : List Ctr} (h : Ctrs w A l) (hb : Below w.heap.size w w') : Ctrs w' A l := by
 intro k x hk
 obtain ⟨hf, a, P, c, hA, ha, hc, hn⟩ := h k x hk
 exact ⟨hf, a, P, c, hA, Nat.lt_of_lt_of_le ha hb.size, hc.keep (by rw [add_block]; exact hb.block _ ha), Nums.below hn hb⟩
theorem Spc.In.below {S : Spc} {w w' : World} {LA : Option Addr} {lc : Nat} {IA : Option Addr} {ic : Nat} {MA : Option Addr} {mc : Nat} (h : S.In w LA lc IA ic MA mc) (hb : Below w.heap.size w w') : S.In w' LA lc IA ic MA mc :=
 ⟨h.labels.below hb, h.init.below hb, h.main.below hb, h.nl, h.ni, h.nm, h.restart, h.grace, h.prio⟩
theorem Lbls.at {w : World} {A : Option Addr} {l : List Lbl} (h : Lbls w A l) {k : Nat} (hk : k < l.length) : ∃ a, A = some a ∧ a.block < w.heap.size ∧ (l[k]).cellsAt w (a.add (k * 2)) := h k _ (List.getElem?_eq_getElem hk)
theorem Ctrs.at {w : World} {A : Option Addr} {l : List Ctr} (h : Ctrs w A l) {k : Nat} (hk : k < l.length) : (l[k]).Fits ∧ ∃ a P c, A = some a ∧ a.block < w.heap.size ∧ (l[k]).cellsAt P c w (a.add (k * 11)) ∧ Nums .i64 w P (l[k]).ports := h k _ (List.getElem?_eq_getElem hk)
end Sd
end Go.Proofs.YtljbpelogjmciaaGreatDoor
namespace Go.Proofs.YtljbpelogjmciaaGreatDoor
open Go.ChangeShapes Go.WideShapes Go.ChangeAt Go.RowKit Go.Lib
open Sd Lists
namespace Book
def lightC (x : Ctr) : Prop := x.name.size ≤ 100 ∧ x.image.size ≤ 100 ∧ x.ports.length ≤ 10
def lightL (x : Lbl) : Prop := x.key.size ≤ 100 ∧ x.val.size ≤ 100
def lightCs (l : List Ctr) : Prop := ∀ x ∈ l, lightC x
def lightLs (l : List Lbl) : Prop := ∀ x ∈ l, lightL x
def Light (S : Spc) : Prop := (S.name.size ≤ 100 ∧ S.labels.length ≤ 10 ∧ S.init.length ≤ 8 ∧ S.main.length ≤ 8) ∧ lightLs S.labels ∧ lightCs S.init ∧ lightCs S.main
def lightCsB (l : List Ctr) : Bool := l.all fun x => decide (x.name.size ≤ 100) && decide (x.image.size ≤ 100) && decide (x.ports.length ≤ 10)
def lightLsB (l : List Lbl) : Bool := l.all fun x => decide (x.key.size ≤ 100) && decide (x.val.size ≤ 100)
def LightB (S : Spc) : Bool := decide (S.name.size ≤ 100) && decide (S.labels.length ≤ 10) && decide (S.init.length ≤ 8) && decide (S.main.length ≤ 8) && lightLsB S.labels && lightCsB S.init && lightCsB S.main
theorem lightCsB_iff {l : List Ctr} : lightCsB l = true ↔ lightCs l := by simp [lightCsB, lightCs, lightC, and_assoc]
theorem lightLsB_iff {l : List Lbl} : lightLsB l = true ↔ lightLs l := by simp [lightLsB, lightLs, lightL]
theorem LightB_iff {S : Spc} : LightB S = true ↔ Light S := by simp [LightB, Light, lightCsB_iff, lightLsB_iff, and_assoc]
theorem lightCsB_of {l : List Ctr} (h : lightCs l) : lightCsB l = true := lightCsB_iff.2 h
theorem lightCsB_not {l : List Ctr} (h : ¬ lightCs l) : lightCsB l = false := by
 cases e : lightCsB l
 · rfl
 · exact absurd (lightCsB_iff.1 e) h
theorem LightB_not {S : Spc} (h : ¬ Light S) : LightB S = false := by
 cases e : LightB S
 · rfl
 · exact absurd (LightB_iff.1 e) h
theorem ret_bool {a b : Bool} (h : a = b) : Ending.returned (.bool a) = .returned (.bool b) := by rw [h]
set_option maxRecDepth 100000 in
theorem lightCs_any (A : Option Addr) (cap : Nat) (l : List Ctr) (hl : l.length ≤ 9223372036854775807) (w : World) (h : Ctrs w A l) :
 Calls Tryz.prog 98 #[.slice A l.length cap] w fun e w' => e = .returned (.bool (lightCsB l)) ∧ w = w' := by
 have H := Lib.hid h
 clear h
 have hl' : (l.length : Int) ≤ 9223372036854775807 := by omega
 clear hl
 go_enter Tryz.func98, Tryz.ntmps98
 go_wp2_with fail
 go_loop [3] (fun i => ∃ k : Nat, k ≤ l.length ∧ i = .int .i64 k ∧ Hid (∀ x ∈ l.take k, lightC x)) (fun i => l.length - (RowKit.intOf i).toNat)
 case atStart => exact ⟨0, Nat.zero_le _, rfl, fun x hx => by simp at hx⟩
 case round =>
  obtain ⟨k, hk, rfl, HA⟩ := hrel
  by_cases hlt : k < l.length
  · obtain ⟨hF, a, P, c, rfl, ha, hc, hN⟩ := H.out.at hlt
    have hp := hF.ports
    obtain ⟨x, hx⟩ : ∃ x, l[k] = x := ⟨_, rfl⟩
    rw [hx] at hc hp
    obtain ⟨h0, h1, _, _, _, _, _, _, h8, _, _⟩ := hc
    have HX := Lib.hid hx
    clear hx hF ha hN
    by_cases hy : lightC x
    · obtain ⟨y0, y1, y2⟩ := hy
      have HY := Lib.hid (show lightC x from ⟨y0, y1, y2⟩)
      go_wp2
      go_round
      case rel =>
       refine ⟨k + 1, by omega, by go_num, ?_⟩
       intro z hz
       rw [List.take_succ_eq_append_getElem hlt, HX.out] at hz
       rcases List.mem_append.1 hz with hz | hz
       · exact HA.out z hz
       · rw [List.mem_singleton.1 hz]; exact HY.out
      case measure => simp [RowKit.intOf]; omega
    · have HN := Lib.hid (show lightCsB l = false from lightCsB_not (fun hh => hy (hh x (HX.out ▸ List.getElem_mem hlt))))
      have hy' : 100 < x.name.size ∨ 100 < x.image.size ∨ 10 < x.ports.length := by
       unfold lightC at hy
       omega
      clear hy
      by_cases y0 : 100 < x.name.size
      · clear hy'
        go_wp2
        go_ret
        exact ⟨ret_bool HN.out.symm, rfl⟩
      · by_cases y1 : 100 < x.image.size
        · clear hy'
          go_wp2
          go_ret
          exact ⟨ret_bool HN.out.symm, rfl⟩
        · have y2 : 10 < x.ports.length := by omega
          clear hy'
          go_wp2
          go_ret
          exact ⟨ret_bool HN.out.symm, rfl⟩
  · have HN := Lib.hid (show lightCsB l = true from lightCsB_of (fun x hx => HA.out x (by rw [List.take_of_length_le (by omega)]; exact hx)))
    go_wp2
    go_ret
    exact ⟨ret_bool HN.out.symm, rfl⟩
set_option maxRecDepth 100000 in
set_option maxHeartbeats 1000000 in
theorem light_any (S : Spc) (LA : Option Addr) (lc : Nat) (IA : Option Addr) (ic : Nat) (MA : Option Addr) (mc : Nat) (w : World) (h : S.In w LA lc IA ic MA mc) :
 Calls Tryz.prog 48 #[.agg #[.string S.name, .slice LA S.labels.length lc, .slice IA S.init.length ic, .slice MA S.main.length mc, .int .i64 S.restart, .int .i64 S.grace, .int .i64 S.prio]] w fun e w' => e = .returned (.bool (LightB S)) ∧ Below w.heap.size w w' := by
 have H := Lib.hid h
 have hl' : (S.labels.length : Int) ≤ 9223372036854775807 := by have := h.nl; omega
 have hi' : (S.init.length : Int) ≤ 9223372036854775807 := by have := h.ni; omega
 have hm' : (S.main.length : Int) ≤ 9223372036854775807 := by have := h.nm; omega
 clear h
 have HB := fun o => Lib.hid (show Below w.heap.size w (w.alloc o) from (Below.refl _ _).alloc (Nat.le_refl _) _)
 by_cases hc : S.name.size ≤ 100 ∧ S.labels.length ≤ 10 ∧ S.init.length ≤ 8 ∧ S.main.length ≤ 8
 · obtain ⟨y0, y1, y2, y3⟩ := hc
   have HC := Lib.hid (show S.name.size ≤ 100 ∧ S.labels.length ≤ 10 ∧ S.init.length ≤ 8 ∧ S.main.length ≤ 8 from ⟨y0, y1, y2, y3⟩)
   go_enter Tryz.func48, Tryz.ntmps48
   go_wp2_with fail
   have HI := Lib.hid (H.out.below (HB (.cells #[.string S.name, .slice LA S.labels.length lc, .slice IA S.init.length ic, .slice MA S.main.length mc, .int .i64 S.restart, .int .i64 S.grace, .int .i64 S.prio] 28)).out)
   go_loop [4] (fun i => ∃ k : Nat, k ≤ S.labels.length ∧ i = .int .i64 k ∧ Hid (∀ x ∈ S.labels.take k, lightL x)) (fun i => S.labels.length - (RowKit.intOf i).toNat)
   case atStart => exact ⟨0, Nat.zero_le _, rfl, fun x hx => by simp at hx⟩
   case round =>
    obtain ⟨k, hk, rfl, HA⟩ := hrel
    by_cases hlt : k < S.labels.length
    · obtain ⟨a, rfl, ha, hc⟩ := HI.out.labels.at hlt
      obtain ⟨x, hx⟩ : ∃ x, S.labels[k] = x := ⟨_, rfl⟩
      rw [hx] at hc
      obtain ⟨h0, h1⟩ := hc
      have HX := Lib.hid hx
      clear hx ha
      by_cases hy : lightL x
      · obtain ⟨y0, y1⟩ := hy
        have HY := Lib.hid (show lightL x from ⟨y0, y1⟩)
        go_wp2
        go_round
        case rel =>
         refine ⟨k + 1, by omega, by go_num, ?_⟩
         intro z hz
         rw [List.take_succ_eq_append_getElem hlt, HX.out] at hz
         rcases List.mem_append.1 hz with hz | hz
         · exact HA.out z hz
         · rw [List.mem_singleton.1 hz]; exact HY.out
        case measure => simp [RowKit.intOf]; omega
      · have HN := Lib.hid (show LightB S = false from LightB_not (fun hh => hy (hh.2.1 x (HX.out ▸ List.getElem_mem hlt))))
        have hy' : 100 < x.key.size ∨ 100 < x.val.size := by
         unfold lightL at hy
         omega
        clear hy
        by_cases y0 : 100 < x.key.size
        · clear hy'
          go_wp2
          go_ret
          exact ⟨ret_bool HN.out.symm, (HB _).out⟩
        · have y1 : 100 < x.val.size := by omega
          clear hy'
          go_wp2
          go_ret
          exact ⟨ret_bool HN.out.symm, (HB _).out⟩
    · have HLS := Lib.hid (show lightLs S.labels from fun x hx => HA.out x (by rw [List.take_of_length_le (by omega)]; exact hx))
      go_wp2_with fail
      refine (lightCs_any IA ic S.init HI.out.ni _ HI.out.init).mono ?_
      rintro e w' ⟨rfl, rfl⟩
      cases hci : lightCsB S.init with
      | false =>
       have HN := Lib.hid (show LightB S = false from LightB_not (fun hh => by rw [lightCsB_of hh.2.2.1] at hci; cases hci))
       clear hci
       go_wp2
       go_ret
       exact ⟨ret_bool HN.out.symm, (HB _).out⟩
      | true =>
       have HCI := Lib.hid (lightCsB_iff.1 hci)
       clear hci
       go_wp2_with fail
       refine (lightCs_any MA mc S.main HI.out.nm _ HI.out.main).mono ?_
       rintro e w' ⟨rfl, rfl⟩
       cases hcm : lightCsB S.main with
       | false =>
        have HN := Lib.hid (show LightB S = false from LightB_not (fun hh => by rw [lightCsB_of hh.2.2.2] at hcm; cases hcm))
        clear hcm
        go_wp2
        go_ret
        exact ⟨ret_bool HN.out.symm, (HB _).out⟩
       | true =>
        have HN := Lib.hid (show LightB S = true from LightB_iff.2 ⟨HC.out, HLS.out, HCI.out, lightCsB_iff.1 hcm⟩)
        clear hcm
        go_wp2
        go_ret
        exact ⟨ret_bool HN.out.symm, (HB _).out⟩
 · have HN := Lib.hid (show LightB S = false from LightB_not (fun hh => hc hh.1))
   have hc' : 100 < S.name.size ∨ 10 < S.labels.length ∨ 8 < S.init.length ∨ 8 < S.main.length := by omega
   clear hc
   by_cases y0 : 100 < S.name.size
   · clear hc'
     go_enter Tryz.func48, Tryz.ntmps48
     go_wp2
     go_ret
     exact ⟨ret_bool HN.out.symm, (HB _).out⟩
   · by_cases y1 : 10 < S.labels.length
     · clear hc'
       go_enter Tryz.func48, Tryz.ntmps48
       go_wp2
       go_ret
       exact ⟨ret_bool HN.out.symm, (HB _).out⟩
     · by_cases y2 : 8 < S.init.length
       · clear hc'
         go_enter Tryz.func48, Tryz.ntmps48
         go_wp2
         go_ret
         exact ⟨ret_bool HN.out.symm, (HB _).out⟩
       · have y3 : 8 < S.main.length := by omega
         clear hc'
         go_enter Tryz.func48, Tryz.ntmps48
         go_wp2
         go_ret
         exact ⟨ret_bool HN.out.symm, (HB _).out⟩
end Book
end Go.Proofs.YtljbpelogjmciaaGreatDoor
namespace Go.Proofs.YtljbpelogjmciaaGreatDoor
open Go.ChangeShapes Go.WideShapes Go.ChangeAt Go.RowKit Go.Lib
open Sd Lists
namespace Book
def sameAll {α : Type} (f : α → α → Bool) : List α → List α → Bool
 | [], [] => true
 | x :: xs, y :: ys => f x y && sameAll f xs ys
 | [], _ :: _ => false
 | _ :: _, [] => false
theorem sameAll_iff {α : Type} {f : α → α → Bool} (hf : ∀ x y, f x y = true ↔ x = y) : ∀ a b : List α, sameAll f a b = true ↔ a = b
 | [], [] => by simp [sameAll]
 | x :: xs, y :: ys => by simp [sameAll, hf, sameAll_iff hf xs ys]
 | [], _ :: _ => by simp [sameAll]
 | _ :: _, [] => by simp [sameAll]
theorem text_eq (a b : ByteArray) : a.toList = b.toList ↔ a = b := by
 rw [ByteArray.toList_eq, ByteArray.toList_eq]
 exact ⟨fun h => ByteArray.ext (Array.ext' h), fun h => by rw [h]⟩
def sameIs (a b : List Int) : Bool := sameAll (fun x y => x == y) a b
theorem sameIs_iff {a b : List Int} : sameIs a b = true ↔ a = b := sameAll_iff (by simp) a b
def sameL (x y : Lbl) : Bool := x.key.toList == y.key.toList && x.val.toList == y.val.toList
theorem sameL_iff (x y : Lbl) : sameL x y = true ↔ x = y := by
 cases x; cases y; simp [sameL, text_eq]
def sameLs (a b : List Lbl) : Bool := sameAll sameL a b
theorem sameLs_iff {a b : List Lbl} : sameLs a b = true ↔ a = b := sameAll_iff sameL_iff a b
def sameC (x y : Ctr) : Bool := x.name.toList == y.name.toList && x.image.toList == y.image.toList && (x.rc == y.rc && x.rm == y.rm && x.rp == y.rp) && (x.lc == y.lc && x.lm == y.lm && x.lp == y.lp) && sameIs x.ports y.ports && (x.ev == y.ev && x.fl == y.fl)
theorem sameC_iff (x y : Ctr) : sameC x y = true ↔ x = y := by
 cases x; cases y; simp [sameC, sameIs_iff, and_assoc, text_eq]
def sameCs (a b : List Ctr) : Bool := sameAll sameC a b
theorem sameCs_iff {a b : List Ctr} : sameCs a b = true ↔ a = b := sameAll_iff sameC_iff a b
def sameS (S T : Spc) : Bool := S.name.toList == T.name.toList && sameLs S.labels T.labels && sameCs S.init T.init && sameCs S.main T.main && S.restart == T.restart && S.grace == T.grace && S.prio == T.prio
theorem sameS_iff (S T : Spc) : sameS S T = true ↔ S = T := by
 cases S; cases T; simp [sameS, sameLs_iff, sameCs_iff, and_assoc, text_eq]
def Far {α : Type} (a b : List α) (k : Nat) (sm : Bool) : Prop := (sm = true → a.length = b.length ∧ a.take k = b.take k) ∧ (sm = false → a ≠ b)
theorem Far.next {α : Type} {a b : List α} {k : Nat} (h : Far a b k true) (ha : k < a.length) (hb : k < b.length) {t : Bool} (ht : t = true ↔ a[k] = b[k]) : Far a b (k + 1) t := by
 refine ⟨fun e => ⟨(h.1 rfl).1, ?_⟩, fun e e' => ?_⟩
 · rw [List.take_succ_eq_append_getElem ha, List.take_succ_eq_append_getElem hb, (h.1 rfl).2, ht.1 e]
 · subst e'
   rw [ht.2 rfl] at e
   cases e
theorem Far.done {α : Type} {a b : List α} {k : Nat} {sm : Bool} (h : Far a b k sm) (hk : sm = true → a.length ≤ k) : sm = true ↔ a = b := by
 constructor
 · intro e
   have h1 := h.1 e
   have h2 := hk e
   rw [List.take_of_length_le h2, List.take_of_length_le (by omega)] at h1
   exact h1.2
 · intro e
   cases sm
   · exact absurd e (h.2 rfl)
   · rfl
theorem ret_b {a b : Bool} (h : a = b) : Ending.returned (.bool a) = .returned (.bool b) := by rw [h]
theorem same_bool {a b : Bool} (h : a = true ↔ b = true) : a = b := by cases a <;> cases b <;> simp_all
def resB (a b c a' b' c' : Int) : Bool := a == a' && b == b' && c == c'
def probeB (a b a' b' : Int) : Bool := a == a' && b == b'
theorem eql_label (x y : Lbl) (v : World) : (binOp BinOp.eql 140 (.agg #[.string x.key, .string x.val]) (.agg #[.string y.key, .string y.val])).run Tryz.prog v = .ok (.bool (sameL x y)) v := by
 have hS : Tryz.prog.underlying 140 = some (.struct (Tryz.prog.fieldsOf 140)) := by kernel_rfl
 have hp : Tryz.prog.stoodInHeld 140 = false := by kernel_rfl
 have u := Tryz.underlying9
 have a := Tryz.isAgg9
 have z := Tryz.sizeOf9
 rw [run_eql_struct, show (10000 : Nat) = 9999 + 1 from rfl, run_equalIn_agg v 9999 140 _ _ hS hp]
 simp only [Program.fieldsOf, Tryz.underlying140]
 go_simp
 unfold sameL
 by_cases h1 : x.key.toList = y.key.toList <;> by_cases h2 : x.val.toList = y.val.toList <;> simp [h1, h2]
theorem eql_res (a b c a' b' c' : Int) (v : World) : (binOp BinOp.eql 70 (.agg #[.int .i64 a, .int .i64 b, .int .i64 c]) (.agg #[.int .i64 a', .int .i64 b', .int .i64 c'])).run Tryz.prog v = .ok (.bool (resB a b c a' b' c')) v := by
 have hS : Tryz.prog.underlying 70 = some (.struct (Tryz.prog.fieldsOf 70)) := by kernel_rfl
 have hp : Tryz.prog.stoodInHeld 70 = false := by kernel_rfl
 have u := Tryz.underlying3
 have a0 := Tryz.isAgg3
 have z := Tryz.sizeOf3
 rw [run_eql_struct, show (10000 : Nat) = 9999 + 1 from rfl, run_equalIn_agg v 9999 70 _ _ hS hp]
 simp only [Program.fieldsOf, Tryz.underlying70]
 go_simp
 unfold resB
 by_cases h1 : a = a' <;> by_cases h2 : b = b' <;> by_cases h3 : c = c' <;> simp [h1, h2, h3]
theorem eql_probe (a b a' b' : Int) (v : World) : (binOp BinOp.eql 72 (.agg #[.int .i64 a, .int .i64 b]) (.agg #[.int .i64 a', .int .i64 b'])).run Tryz.prog v = .ok (.bool (probeB a b a' b')) v := by
 have hS : Tryz.prog.underlying 72 = some (.struct (Tryz.prog.fieldsOf 72)) := by kernel_rfl
 have hp : Tryz.prog.stoodInHeld 72 = false := by kernel_rfl
 have u := Tryz.underlying3
 have a0 := Tryz.isAgg3
 have z := Tryz.sizeOf3
 rw [run_eql_struct, show (10000 : Nat) = 9999 + 1 from rfl, run_equalIn_agg v 9999 72 _ _ hS hp]
 simp only [Program.fieldsOf, Tryz.underlying72]
 go_simp
 unfold probeB
 by_cases h1 : a = a' <;> by_cases h2 : b = b' <;> simp [h1, h2]
end Book
end Go.Proofs.YtljbpelogjmciaaGreatDoor
namespace Go.Proofs.YtljbpelogjmciaaGreatDoor
open Go.ChangeShapes Go.WideShapes Go.ChangeAt Go.RowKit Go.Lib
open Sd Lists
namespace Book
end Book
end Go.Proofs.YtljbpelogjmciaaGreatDoor
