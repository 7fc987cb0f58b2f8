/-
 A list of texts, and a list of numbers, in memory. No condition. And what follows of it, part by part, each with its conditions.
-/
import Derived.Test.YtljbpelogjmciaaGreatDoorKit
import Derived.Test.YtljbpelogjmciaaGreatDoorChecked
import Derived.Lib.Hide
import Derived.WalkKit
import Derived.ProofKit
import Derived.Deep.QuietTactic
import Derived.BigQuiet
import Derived.Laws.StructEq
import Derived.KernelRfl
set_option maxRecDepth 100000
namespace Go.Proofs.YtljbpelogjmciaaGreatDoor
open Go.RowKit
namespace Lists
theorem add_block (a : Addr) (k : Nat) : (a.add k).block = a.block := by
 unfold Addr.add; split <;> rfl
def Texts (w : World) (A : Option Addr) (xs : List ByteArray) : Prop := ∀ (k : Nat) (x : ByteArray), xs[k]? = some x → ∃ a, A = some a ∧ a.block < w.heap.size ∧ w.cell? (a.add k) = some (.string x)
def Nums (q : IntKind) (w : World) (A : Option Addr) (zs : List Int) : Prop := ∀ (k : Nat) (z : Int), zs[k]? = some z → (Lit.int q z).wf = true ∧ ∃ a, A = some a ∧ a.block < w.heap.size ∧ w.cell? (a.add k) = some (.int q z)
theorem Texts.at {w : World} {A : Option Addr} {xs : List ByteArray} (h : Texts w A xs) {k : Nat} (hk : k < xs.length) : ∃ a, A = some a ∧ a.block < w.heap.size ∧ w.cell? (a.add k) = some (.string xs[k]) := h k _ (List.getElem?_eq_getElem hk)
theorem Nums.at {q : IntKind} {w : World} {A : Option Addr} {zs : List Int} (h : Nums q w A zs) {k : Nat} (hk : k < zs.length) : (Lit.int q zs[k]).wf = true ∧ ∃ a, A = some a ∧ a.block < w.heap.size ∧ w.cell? (a.add k) = some (.int q zs[k]) := h k _ (List.getElem?_eq_getElem hk)
end Lists
end Go.Proofs.YtljbpelogjmciaaGreatDoor
namespace Go.Proofs.YtljbpelogjmciaaGreatDoor
open Go.RowKit
namespace Sd
open Lists
structure Lbl where
 key : ByteArray
 val : ByteArray
structure Ctr where
 name : ByteArray
 image : ByteArray
 rc : Int
 rm : Int
 rp : Int
 lc : Int
 lm : Int
 lp : Int
 ports : List Int
 ev : Int
 fl : Int
structure Spc where
 name : ByteArray
 labels : List Lbl
 init : List Ctr
 main : List Ctr
 restart : Int
 grace : Int
 prio : Int
def I64 (z : Int) : Prop := -9223372036854775808 ≤ z ∧ z ≤ 9223372036854775807
def Lbl.cellsAt (x : Lbl) (w : World) (a : Addr) : Prop := w.cell? a = some (.string x.key) ∧ w.cell? ⟨a.block, a.off + 1, none⟩ = some (.string x.val)
def Ctr.cells (x : Ctr) (P : Option Addr) (c : Nat) : List Value :=
 [.string x.name, .string x.image, .int .i64 x.rc, .int .i64 x.rm, .int .i64 x.rp, .int .i64 x.lc, .int .i64 x.lm, .int .i64 x.lp, .slice P x.ports.length c, .int .i64 x.ev, .int .i64 x.fl]
def Ctr.cellsAt (x : Ctr) (P : Option Addr) (c : Nat) (w : World) (a : Addr) : Prop :=
 w.cell? a = some (.string x.name) ∧ w.cell? ⟨a.block, a.off + 1, none⟩ = some (.string x.image) ∧
 w.cell? ⟨a.block, a.off + 2, none⟩ = some (.int .i64 x.rc) ∧ w.cell? ⟨a.block, a.off + 3, none⟩ = some (.int .i64 x.rm) ∧ w.cell? ⟨a.block, a.off + 4, none⟩ = some (.int .i64 x.rp) ∧
 w.cell? ⟨a.block, a.off + 5, none⟩ = some (.int .i64 x.lc) ∧ w.cell? ⟨a.block, a.off + 6, none⟩ = some (.int .i64 x.lm) ∧ w.cell? ⟨a.block, a.off + 7, none⟩ = some (.int .i64 x.lp) ∧
 w.cell? ⟨a.block, a.off + 8, none⟩ = some (.slice P x.ports.length c) ∧ w.cell? ⟨a.block, a.off + 9, none⟩ = some (.int .i64 x.ev) ∧ w.cell? ⟨a.block, a.off + 10, none⟩ = some (.int .i64 x.fl) ∧ x.ports.length ≤ c
structure Ctr.Fits (x : Ctr) : Prop where
 rc : I64 x.rc
 rm : I64 x.rm
 rp : I64 x.rp
 lc : I64 x.lc
 lm : I64 x.lm
 lp : I64 x.lp
 ev : I64 x.ev
 fl : I64 x.fl
 ports : x.ports.length ≤ 9223372036854775807
def Lbls (w : World) (A : Option Addr) (l : List Lbl) : Prop := ∀ (k : Nat) (x : Lbl), l[k]? = some x → ∃ a, A = some a ∧ a.block < w.heap.size ∧ x.cellsAt w (a.add (k * 2))
def Ctrs (w : World) (A : Option Addr) (l : List Ctr) : Prop := ∀ (k : Nat) (x : Ctr), l[k]? = some x → x.Fits ∧ ∃ a P c, A = some a ∧ a.block < w.heap.size ∧ x.cellsAt P c w (a.add (k * 11)) ∧ Nums .i64 w P x.ports
structure Spc.In (S : Spc) (w : World) (LA : Option Addr) (lc : Nat) (IA : Option Addr) (ic : Nat) (MA : Option Addr) (mc : Nat) : Prop where
 labels : Lbls w LA S.labels
 init : Ctrs w IA S.init
 main : Ctrs w MA S.main
 nl : S.labels.length ≤ 9223372036854775807
 ni : S.init.length ≤ 9223372036854775807
 nm : S.main.length ≤ 9223372036854775807
 restart : I64 S.restart
 grace : I64 S.grace
 prio : I64 S.prio
def Spc.cells (S : Spc) (LA : Option Addr) (lc : Nat) (IA : Option Addr) (ic : Nat) (MA : Option Addr) (mc : Nat) : Array Value :=
 #[.string S.name, .slice LA S.labels.length lc, .slice IA S.init.length ic, .slice MA S.main.length mc, .int .i64 S.restart, .int .i64 S.grace, .int .i64 S.prio]
theorem Lbl.cellsAt.keep {x : Lbl} {w w' : World} {a : Addr} (h : x.cellsAt w a) (hb : w'.heap[a.block]? = w.heap[a.block]?) : x.cellsAt w' a := by
 have e : ∀ p : Addr, p.block = a.block → w'.cell? p = w.cell? p := fun p hp => World.cell?_of_block (by rw [hp]; exact hb)
 unfold Lbl.cellsAt at *
 rw [e a rfl, e ⟨a.block, a.off + 1, none⟩ rfl]
 exact h
theorem Ctr.cellsAt.keep {x : Ctr} {P : Option Addr} {c : Nat} {w w' : World} {a : Addr} (h : x.cellsAt P c w a) (hb : w'.heap[a.block]? = w.heap[a.block]?) : x.cellsAt P c w' a := by
 have e : ∀ p : Addr, p.block = a.block → w'.cell? p = w.cell? p := fun p hp => World.cell?_of_block (by rw [hp]; exact hb)
 unfold Ctr.cellsAt at *
 rw [e a rfl, e ⟨a.block, a.off + 1, none⟩ rfl, e ⟨a.block, a.off + 2, none⟩ rfl, e ⟨a.block, a.off + 3, none⟩ rfl, e ⟨a.block, a.off + 4, none⟩ rfl, e ⟨a.block, a.off + 5, none⟩ rfl, e ⟨a.block, a.off + 6, none⟩ rfl, e ⟨a.block, a.off + 7, none⟩ rfl, e ⟨a.block, a.off + 8, none⟩ rfl, e ⟨a.block, a.off + 9, none⟩ rfl, e ⟨a.block, a.off + 10, none⟩ rfl]
 exact h
theorem Nums.below {q : IntKind} {w w' : World} {A : Option Addr} {l : List Int} (h : Nums q w A l) (hb : Below w.heap.size w w') : Nums q w' A l := by
 intro k x hk
 obtain ⟨h1, a, hA, ha, hc⟩ := h k x hk
 exact ⟨h1, a, hA, Nat.lt_of_lt_of_le ha hb.size, (hb.cell (p := a.add k) (by rw [add_block]; exact ha)).trans hc⟩
theorem Lbls.below {w w' : World} {A : Option Addr} {l : List Lbl} (h : Lbls w A l) (hb : Below w.heap.size w w') : Lbls w' A l := by
 intro k x hk
 obtain ⟨a, hA, ha, hc⟩ := h k x hk
 exact ⟨a, hA, Nat.lt_of_lt_of_le ha hb.size, hc.keep (by rw [add_block]; exact hb.block _ ha)⟩
theorem Ctrs.below {w w' : World} {A : Option Addr} {l : List Ctr} (h : Ctrs w A l) (hb : Below w.heap.size w w') : Ctrs w' A l := by
 intro k x hk
 obtain ⟨hf, a, P, c, hA, ha, hc, hn⟩ := h k x hk
 exact ⟨hf, a, P, c, hA, Nat.lt_of_lt_of_le ha hb.size, hc.keep (by rw [add_block]; exact hb.block _ ha), Nums.below hn hb⟩
theorem Spc.In.below {S : Spc} {w w' : World} {LA : Option Addr} {lc : Nat} {IA : Option Addr} {ic : Nat} {MA : Option Addr} {mc : Nat} (h : S.In w LA lc IA ic MA mc) (hb : Below w.heap.size w w') : S.In w' LA lc IA ic MA mc :=
 ⟨h.labels.below hb, h.init.below hb, h.main.below hb, h.nl, h.ni, h.nm, h.restart, h.grace, h.prio⟩
theorem Lbls.at {w : World} {A : Option Addr} {l : List Lbl} (h : Lbls w A l) {k : Nat} (hk : k < l.length) : ∃ a, A = some a ∧ a.block < w.heap.size ∧ (l[k]).cellsAt w (a.add (k * 2)) := h k _ (List.getElem?_eq_getElem hk)
theorem Ctrs.at {w : World} {A : Option Addr} {l : List Ctr} (h : Ctrs w A l) {k : Nat} (hk : k < l.length) : (l[k]).Fits ∧ ∃ a P c, A = some a ∧ a.block < w.heap.size ∧ (l[k]).cellsAt P c w (a.add (k * 11)) ∧ Nums .i64 w P (l[k]).ports := h k _ (List.getElem?_eq_getElem hk)
end Sd
end Go.Proofs.YtljbpelogjmciaaGreatDoor
namespace Go.Proofs.YtljbpelogjmciaaGreatDoor
open Go.ChangeShapes Go.WideShapes Go.ChangeAt Go.RowKit Go.Lib
open Sd Lists
namespace Book
def lightC (x : Ctr) : Prop := x.name.size ≤ 100 ∧ x.image.size ≤ 100 ∧ x.ports.length ≤ 10
def lightL (x : Lbl) : Prop := x.key.size ≤ 100 ∧ x.val.size ≤ 100
def lightCs (l : List Ctr) : Prop := ∀ x ∈ l, lightC x
def lightLs (l : List Lbl) : Prop := ∀ x ∈ l, lightL x
def Light (S : Spc) : Prop := (S.name.size ≤ 100 ∧ S.labels.length ≤ 10 ∧ S.init.length ≤ 8 ∧ S.main.length ≤ 8) ∧ lightLs S.labels ∧ lightCs S.init ∧ lightCs S.main
def sameAll {α : Type} (f : α → α → Bool) : List α → List α → Bool
 | [], [] => true
 | x :: xs, y :: ys => f x y && sameAll f xs ys
 | [], _ :: _ => false
 | _ :: _, [] => false
theorem sameAll_iff {α : Type} {f : α → α → Bool} (hf : ∀ x y, f x y = true ↔ x = y) : ∀ a b : List α, sameAll f a b = true ↔ a = b
 | [], [] => by simp [sameAll]
 | x :: xs, y :: ys => by simp [sameAll, hf, sameAll_iff hf xs ys]
 | [], _ :: _ => by simp [sameAll]
 | _ :: _, [] => by simp [sameAll]
theorem text_eq (a b : ByteArray) : a.toList = b.toList ↔ a = b := by
 rw [ByteArray.toList_eq, ByteArray.toList_eq]
 exact ⟨fun h => ByteArray.ext (Array.ext' h), fun h => by rw [h]⟩
def sameIs (a b : List Int) : Bool := sameAll (fun x y => x == y) a b
theorem sameIs_iff {a b : List Int} : sameIs a b = true ↔ a = b := sameAll_iff (by simp) a b
def sameL (x y : Lbl) : Bool := x.key.toList == y.key.toList && x.val.toList == y.val.toList
theorem sameL_iff (x y : Lbl) : sameL x y = true ↔ x = y := by
 cases x; cases y; simp [sameL, text_eq]
def sameLs (a b : List Lbl) : Bool := sameAll sameL a b
theorem sameLs_iff {a b : List Lbl} : sameLs a b = true ↔ a = b := sameAll_iff sameL_iff a b
def sameC (x y : Ctr) : Bool := x.name.toList == y.name.toList && x.image.toList == y.image.toList && (x.rc == y.rc && x.rm == y.rm && x.rp == y.rp) && (x.lc == y.lc && x.lm == y.lm && x.lp == y.lp) && sameIs x.ports y.ports && (x.ev == y.ev && x.fl == y.fl)
theorem sameC_iff (x y : Ctr) : sameC x y = true ↔ x = y := by
 cases x; cases y; simp [sameC, sameIs_iff, and_assoc, text_eq]
def sameCs (a b : List Ctr) : Bool := sameAll sameC a b
theorem sameCs_iff {a b : List Ctr} : sameCs a b = true ↔ a = b := sameAll_iff sameC_iff a b
def sameS (S T : Spc) : Bool := S.name.toList == T.name.toList && sameLs S.labels T.labels && sameCs S.init T.init && sameCs S.main T.main && S.restart == T.restart && S.grace == T.grace && S.prio == T.prio
theorem sameS_iff (S T : Spc) : sameS S T = true ↔ S = T := by
 cases S; cases T; simp [sameS, sameLs_iff, sameCs_iff, and_assoc, text_eq]
def Far {α : Type} (a b : List α) (k : Nat) (sm : Bool) : Prop := (sm = true → a.length = b.length ∧ a.take k = b.take k) ∧ (sm = false → a ≠ b)
theorem Far.start {α : Type} (a b : List α) : Far a b 0 (decide (a.length = b.length)) :=
 ⟨fun h => ⟨of_decide_eq_true h, by simp⟩, fun h e => of_decide_eq_false h (by rw [e])⟩
theorem Far.next {α : Type} {a b : List α} {k : Nat} (h : Far a b k true) (ha : k < a.length) (hb : k < b.length) {t : Bool} (ht : t = true ↔ a[k] = b[k]) : Far a b (k + 1) t := by
 refine ⟨fun e => ⟨(h.1 rfl).1, ?_⟩, fun e e' => ?_⟩
 · rw [List.take_succ_eq_append_getElem ha, List.take_succ_eq_append_getElem hb, (h.1 rfl).2, ht.1 e]
 · subst e'
   rw [ht.2 rfl] at e
   cases e
theorem Far.done {α : Type} {a b : List α} {k : Nat} {sm : Bool} (h : Far a b k sm) (hk : sm = true → a.length ≤ k) : sm = true ↔ a = b := by
 constructor
 · intro e
   have h1 := h.1 e
   have h2 := hk e
   rw [List.take_of_length_le h2, List.take_of_length_le (by omega)] at h1
   exact h1.2
 · intro e
   cases sm
   · exact absurd e (h.2 rfl)
   · rfl
theorem far_start {α : Type} (a b : List α) : Hid (Far a b 0 ((a.length : Int) == (b.length : Int))) := by
 have := Far.start a b
 have e : ((a.length : Int) == (b.length : Int)) = decide (a.length = b.length) := by
  rw [Bool.eq_iff_iff]; simp; omega
 rw [e]
 exact this
theorem ret_b {a b : Bool} (h : a = b) : Ending.returned (.bool a) = .returned (.bool b) := by rw [h]
theorem same_bool {a b : Bool} (h : a = true ↔ b = true) : a = b := by cases a <;> cases b <;> simp_all
def resB (a b c a' b' c' : Int) : Bool := a == a' && b == b' && c == c'
def probeB (a b a' b' : Int) : Bool := a == a' && b == b'
theorem eql_label (x y : Lbl) (v : World) : (binOp BinOp.eql 140 (.agg #[.string x.key, .string x.val]) (.agg #[.string y.key, .string y.val])).run Tryz.prog v = .ok (.bool (sameL x y)) v := by
 have hS : Tryz.prog.underlying 140 = some (.struct (Tryz.prog.fieldsOf 140)) := by kernel_rfl
 have hp : Tryz.prog.stoodInHeld 140 = false := by kernel_rfl
 have u := Tryz.underlying9
 have a := Tryz.isAgg9
 have z := Tryz.sizeOf9
 rw [run_eql_struct, show (10000 : Nat) = 9999 + 1 from rfl, run_equalIn_agg v 9999 140 _ _ hS hp]
 simp only [Program.fieldsOf, Tryz.underlying140]
 go_simp
 unfold sameL
 by_cases h1 : x.key.toList = y.key.toList <;> by_cases h2 : x.val.toList = y.val.toList <;> simp [h1, h2]
theorem eql_res (a b c a' b' c' : Int) (v : World) : (binOp BinOp.eql 70 (.agg #[.int .i64 a, .int .i64 b, .int .i64 c]) (.agg #[.int .i64 a', .int .i64 b', .int .i64 c'])).run Tryz.prog v = .ok (.bool (resB a b c a' b' c')) v := by
 have hS : Tryz.prog.underlying 70 = some (.struct (Tryz.prog.fieldsOf 70)) := by kernel_rfl
 have hp : Tryz.prog.stoodInHeld 70 = false := by kernel_rfl
 have u := Tryz.underlying3
 have a0 := Tryz.isAgg3
 have z := Tryz.sizeOf3
 rw [run_eql_struct, show (10000 : Nat) = 9999 + 1 from rfl, run_equalIn_agg v 9999 70 _ _ hS hp]
 simp only [Program.fieldsOf, Tryz.underlying70]
 go_simp
 unfold resB
 by_cases h1 : a = a' <;> by_cases h2 : b = b' <;> by_cases h3 : c = c' <;> simp [h1, h2, h3]
theorem eql_probe (a b a' b' : Int) (v : World) : (binOp BinOp.eql 72 (.agg #[.int .i64 a, .int .i64 b]) (.agg #[.int .i64 a', .int .i64 b'])).run Tryz.prog v = .ok (.bool (probeB a b a' b')) v := by
 have hS : Tryz.prog.underlying 72 = some (.struct (Tryz.prog.fieldsOf 72)) := by kernel_rfl
 have hp : Tryz.prog.stoodInHeld 72 = false := by kernel_rfl
 have u := Tryz.underlying3
 have a0 := Tryz.isAgg3
 have z := Tryz.sizeOf3
 rw [run_eql_struct, show (10000 : Nat) = 9999 + 1 from rfl, run_equalIn_agg v 9999 72 _ _ hS hp]
 simp only [Program.fieldsOf, Tryz.underlying72]
 go_simp
 unfold probeB
 by_cases h1 : a = a' <;> by_cases h2 : b = b' <;> simp [h1, h2]
theorem sameInts_any (A : Option Addr) (ac : Nat) (a : List Int) (B : Option Addr) (bc : Nat) (b : List Int) (hl : a.length ≤ 9223372036854775807) (hm : b.length ≤ 9223372036854775807) (w : World) (hA : Nums .i64 w A a) (hB : Nums .i64 w B b) :
 Calls Tryz.prog 51 #[.slice A a.length ac, .slice B b.length bc] w fun e w' => e = .returned (.bool (sameIs a b)) ∧ Below w.heap.size w w' := by
 have HA := hid hA
 have HB := hid hB
 have hl' : (a.length : Int) ≤ 9223372036854775807 := by omega
 have hm' : (b.length : Int) ≤ 9223372036854775807 := by omega
 clear hA hB hl hm
 go_enter Tryz.func51, Tryz.ntmps51
 go_wp2_with fail
 go_loopw [5, 6] (fun sm i wr => ∃ (k : Nat) (s : Bool), k ≤ a.length ∧ sm = .bool s ∧ i = .int .i64 k ∧ Hid (Below w.heap.size w wr) ∧ Hid (Far a b k s)) (fun _ i _ => a.length - (RowKit.intOf i).toNat)
 case atStart => exact ⟨0, _, Nat.zero_le _, rfl, rfl, Below.refl _ _, far_start a b⟩
 case round =>
  obtain ⟨k, s, hk, rfl, rfl, HW, HF⟩ := hrel
  cases s with
  | false =>
   have HD := hid (show false = sameIs a b from same_bool ((HF.out.done (fun h => by cases h)).trans sameIs_iff.symm)); go_wp2
   go_ret
   exact ⟨ret_b HD.out, HW.out⟩
  | true =>
   have hlen := (HF.out.1 rfl).1
   by_cases hlt : k < a.length
   · have hlb : k < b.length := by omega
     obtain ⟨_, p, rfl, hp, hc⟩ := (Nums.below HA.out HW.out).at hlt
     obtain ⟨_, q, rfl, hq, hd⟩ := (Nums.below HB.out HW.out).at hlb
     obtain ⟨t, ht⟩ : ∃ t : Bool, (a[k] == b[k]) = t := ⟨_, rfl⟩; have HN := hid (show Far a b (k + 1) t from HF.out.next hlt hlb (by rw [← ht]; exact beq_iff_eq)); obtain ⟨x, hx⟩ : ∃ x, a[k] = x := ⟨_, rfl⟩; obtain ⟨y, hy⟩ : ∃ y, b[k] = y := ⟨_, rfl⟩
     rw [hx] at hc ht
     rw [hy] at hd ht
     clear hx hy hp hq hlen
     have hka : (k : Int) < (a.length : Int) := by omega
     have hkb : (k : Int) < (b.length : Int) := by omega
     go_wp2_with fail
     go_quiet (fail)
     go_wp2
     go_roundw
     case rel => exact ⟨k + 1, t, by omega, rfl, by go_num, HW.out.trans ((Kit.below_drewN _ _ _).mono HW.out.size), HN.out⟩
     case measure => simp [RowKit.intOf]; omega
   · have HD := hid (show true = sameIs a b from same_bool ((HF.out.done (fun _ => by omega)).trans sameIs_iff.symm))
     have hka : ¬ (k : Int) < (a.length : Int) := by omega
     clear hlen; go_wp2
     go_ret
     exact ⟨ret_b HD.out, HW.out⟩
theorem sameLabels_any (A : Option Addr) (ac : Nat) (a : List Lbl) (B : Option Addr) (bc : Nat) (b : List Lbl) (hl : a.length ≤ 9223372036854775807) (hm : b.length ≤ 9223372036854775807) (w : World) (hA : Lbls w A a) (hB : Lbls w B b) :
 Calls Tryz.prog 46 #[.slice A a.length ac, .slice B b.length bc] w fun e w' => e = .returned (.bool (sameLs a b)) ∧ Below w.heap.size w w' := by
 have HA := hid hA
 have HB := hid hB
 have hl' : (a.length : Int) ≤ 9223372036854775807 := by omega
 have hm' : (b.length : Int) ≤ 9223372036854775807 := by omega
 have hgd : Tryz.prog.eqGuardType Tryz.prog.depth 140 = false := by kernel_rfl
 clear hA hB hl hm
 go_enter Tryz.func46, Tryz.ntmps46
 go_wp2_with fail
 go_loopw [5, 6] (fun sm i wr => ∃ (k : Nat) (s : Bool), k ≤ a.length ∧ sm = .bool s ∧ i = .int .i64 k ∧ Hid (Below w.heap.size w wr) ∧ Hid (Far a b k s)) (fun _ i _ => a.length - (RowKit.intOf i).toNat)
 case atStart => exact ⟨0, _, Nat.zero_le _, rfl, rfl, Below.refl _ _, far_start a b⟩
 case round =>
  obtain ⟨k, s, hk, rfl, rfl, HW, HF⟩ := hrel
  cases s with
  | false =>
   have HD := hid (show false = sameLs a b from same_bool ((HF.out.done (fun h => by cases h)).trans sameLs_iff.symm)); go_wp2
   go_ret
   exact ⟨ret_b HD.out, HW.out⟩
  | true =>
   have hlen := (HF.out.1 rfl).1
   by_cases hlt : k < a.length
   · have hlb : k < b.length := by omega
     obtain ⟨p, rfl, hp, hc⟩ := (HA.out.below HW.out).at hlt
     obtain ⟨q, rfl, hq, hd⟩ := (HB.out.below HW.out).at hlb
     obtain ⟨t, ht⟩ : ∃ t : Bool, sameL a[k] b[k] = t := ⟨_, rfl⟩; have HN := hid (show Far a b (k + 1) t from HF.out.next hlt hlb (by rw [← ht]; exact sameL_iff _ _)); obtain ⟨x, hx⟩ : ∃ x, a[k] = x := ⟨_, rfl⟩; obtain ⟨y, hy⟩ : ∃ y, b[k] = y := ⟨_, rfl⟩
     rw [hx] at hc ht
     rw [hy] at hd ht
     have heq := fun v => eql_label x y v
     rw [ht] at heq
     obtain ⟨c0, c1⟩ := hc
     obtain ⟨d0, d1⟩ := hd
     clear hx hy hp hq hlen ht
     have hka : (k : Int) < (a.length : Int) := by omega
     have hkb : (k : Int) < (b.length : Int) := by omega
     go_wp2_with fail
     go_quiet (fail)
     go_wp2
     go_roundw
     case rel => exact ⟨k + 1, t, by omega, rfl, by go_num, HW.out.trans ((Kit.below_drewN _ _ _).mono HW.out.size), HN.out⟩
     case measure => simp [RowKit.intOf]; omega
   · have HD := hid (show true = sameLs a b from same_bool ((HF.out.done (fun _ => by omega)).trans sameLs_iff.symm))
     have hka : ¬ (k : Int) < (a.length : Int) := by omega
     clear hlen; go_wp2
     go_ret
     exact ⟨ret_b HD.out, HW.out⟩
set_option maxHeartbeats 1000000 in
theorem sameContainers_any (A : Option Addr) (ac : Nat) (a : List Ctr) (B : Option Addr) (bc : Nat) (b : List Ctr) (hl : a.length ≤ 9223372036854775807) (hm : b.length ≤ 9223372036854775807) (w : World) (hA : Ctrs w A a) (hB : Ctrs w B b) :
 Calls Tryz.prog 47 #[.slice A a.length ac, .slice B b.length bc] w fun e w' => e = .returned (.bool (sameCs a b)) ∧ Below w.heap.size w w' := by
 have HA := hid hA
 have HB := hid hB
 have hl' : (a.length : Int) ≤ 9223372036854775807 := by omega
 have hm' : (b.length : Int) ≤ 9223372036854775807 := by omega
 have hgr : Tryz.prog.eqGuardType Tryz.prog.depth 70 = false := by kernel_rfl
 have hgp : Tryz.prog.eqGuardType Tryz.prog.depth 72 = false := by kernel_rfl
 clear hA hB hl hm
 go_enter Tryz.func47, Tryz.ntmps47
 go_wp2_with fail
 go_loopw [5, 6] (fun sm i wr => ∃ (k : Nat) (s : Bool), k ≤ a.length ∧ sm = .bool s ∧ i = .int .i64 k ∧ Hid (Below w.heap.size w wr) ∧ Hid (Far a b k s)) (fun _ i _ => a.length - (RowKit.intOf i).toNat)
 case atStart => exact ⟨0, _, Nat.zero_le _, rfl, rfl, Below.refl _ _, far_start a b⟩
 case round =>
  obtain ⟨k, s, hk, rfl, rfl, HW, HF⟩ := hrel
  cases s with
  | false =>
   have HD := hid (show false = sameCs a b from same_bool ((HF.out.done (fun h => by cases h)).trans sameCs_iff.symm)); go_wp2
   go_ret
   exact ⟨ret_b HD.out, HW.out⟩
  | true =>
   have hlen := (HF.out.1 rfl).1
   by_cases hlt : k < a.length
   · have hlb : k < b.length := by omega
     obtain ⟨fa, p, P, pc, rfl, hp, hc, nP⟩ := (HA.out.below HW.out).at hlt
     obtain ⟨fb, q, Q, qc, rfl, hq, hd, nQ⟩ := (HB.out.below HW.out).at hlb
     obtain ⟨t, ht⟩ : ∃ t : Bool, sameC a[k] b[k] = t := ⟨_, rfl⟩; have HN := hid (show Far a b (k + 1) t from HF.out.next hlt hlb (by rw [← ht]; exact sameC_iff _ _)); obtain ⟨x, hx⟩ : ∃ x, a[k] = x := ⟨_, rfl⟩; obtain ⟨y, hy⟩ : ∃ y, b[k] = y := ⟨_, rfl⟩
     rw [hx] at hc ht nP fa
     rw [hy] at hd ht nQ fb
     have hxp := fa.ports
     have hyp := fb.ports
     obtain ⟨c0, c1, c2, c3, c4, c5, c6, c7, c8, c9, c10, _⟩ := hc
     have hd' := fun o => hd.keep (w' := wr.alloc o) (by rw [add_block]; exact Below.heap_alloc wr o _ hq)
     have d0 := fun o => (hd' o).1
     have d1 := fun o => (hd' o).2.1
     have d2 := fun o => (hd' o).2.2.1
     have d3 := fun o => (hd' o).2.2.2.1
     have d4 := fun o => (hd' o).2.2.2.2.1
     have d5 := fun o => (hd' o).2.2.2.2.2.1
     have d6 := fun o => (hd' o).2.2.2.2.2.2.1
     have d7 := fun o => (hd' o).2.2.2.2.2.2.2.1
     have d8 := fun o => (hd' o).2.2.2.2.2.2.2.2.1
     have d9 := fun o => (hd' o).2.2.2.2.2.2.2.2.2.1
     have d10 := fun o => (hd' o).2.2.2.2.2.2.2.2.2.2.1
     clear hd hd'
     have NP := hid nP
     have NQ := hid nQ
     unfold sameC at ht
     obtain ⟨b0, e0⟩ : ∃ b0 : Bool, (x.name.toList == y.name.toList) = b0 := ⟨_, rfl⟩; obtain ⟨b1, e1⟩ : ∃ b1 : Bool, (x.image.toList == y.image.toList) = b1 := ⟨_, rfl⟩; obtain ⟨b2, e2⟩ : ∃ b2 : Bool, resB x.rc x.rm x.rp y.rc y.rm y.rp = b2 := ⟨_, rfl⟩; obtain ⟨b3, e3⟩ : ∃ b3 : Bool, resB x.lc x.lm x.lp y.lc y.lm y.lp = b3 := ⟨_, rfl⟩; obtain ⟨b4, e4⟩ : ∃ b4 : Bool, sameIs x.ports y.ports = b4 := ⟨_, rfl⟩; obtain ⟨b5, e5⟩ : ∃ b5 : Bool, probeB x.ev x.fl y.ev y.fl = b5 := ⟨_, rfl⟩
     have q2 := fun v => eql_res x.rc x.rm x.rp y.rc y.rm y.rp v
     have q3 := fun v => eql_res x.lc x.lm x.lp y.lc y.lm y.lp v
     have q5 := fun v => eql_probe x.ev x.fl y.ev y.fl v
     rw [e2] at q2
     rw [e3] at q3
     rw [e5] at q5
     rw [e0, e1, e4, show (x.rc == y.rc && x.rm == y.rm && x.rp == y.rp) = b2 from e2, show (x.lc == y.lc && x.lm == y.lm && x.lp == y.lp) = b3 from e3, show (x.ev == y.ev && x.fl == y.fl) = b5 from e5] at ht
     have E4 := hid e4
     have HT := hid ht
     clear hx hy hp hq hlen nP nQ fa fb e2 e3 e4 e5 ht
     have hka : (k : Int) < (a.length : Int) := by omega
     have hkb : (k : Int) < (b.length : Int) := by omega
     cases b0 with
     | false =>
      have hT : t = false := by have := HT.out; simpa using this.symm
      subst hT; go_wp2
      go_roundw
      case rel => exact ⟨k + 1, false, by omega, rfl, by go_num, HW.out.trans (((((Below.refl _ _).alloc (Nat.le_refl _) _).alloc (by simp) _)).mono HW.out.size), HN.out⟩
      case measure => simp [RowKit.intOf]; omega
     | true =>
      cases b1 with
      | false =>
       have hT : t = false := by have := HT.out; simpa using this.symm
       subst hT; go_wp2
       go_roundw
       case rel => exact ⟨k + 1, false, by omega, rfl, by go_num, HW.out.trans (((((Below.refl _ _).alloc (Nat.le_refl _) _).alloc (by simp) _)).mono HW.out.size), HN.out⟩
       case measure => simp [RowKit.intOf]; omega
      | true =>
       cases b2 with
       | false =>
        have hT : t = false := by have := HT.out; simpa using this.symm
        subst hT; go_wp2
        go_roundw
        case rel => exact ⟨k + 1, false, by omega, rfl, by go_num, HW.out.trans (((((Below.refl _ _).alloc (Nat.le_refl _) _).alloc (by simp) _)).mono HW.out.size), HN.out⟩
        case measure => simp [RowKit.intOf]; omega
       | true =>
        cases b3 with
        | false =>
         have hT : t = false := by have := HT.out; simpa using this.symm
         subst hT; go_wp2
         go_roundw
         case rel => exact ⟨k + 1, false, by omega, rfl, by go_num, HW.out.trans (((((Below.refl _ _).alloc (Nat.le_refl _) _).alloc (by simp) _)).mono HW.out.size), HN.out⟩
         case measure => simp [RowKit.intOf]; omega
        | true =>
         go_wp2_with fail
         have hb0 : ∀ o o', Below wr.heap.size wr ((wr.alloc o).alloc o') := fun o o' => ((Below.refl _ _).alloc (Nat.le_refl _) _).alloc (by simp) _
         refine (sameInts_any P pc x.ports Q qc y.ports hxp hyp _ (Nums.below NP.out (hb0 _ _)) (Nums.below NQ.out (hb0 _ _))).mono ?_
         rintro e w5 ⟨rfl, hb5⟩; have HB5 := hid (HW.out.trans (((hb0 _ _).trans (hb5.mono (by simp; omega))).mono HW.out.size))
         obtain ⟨hcell, hfroz⟩ := Kit.bcell hb5
         rw [E4.out]; clear hb0 hb5 d0 d1 d2 d3 d4 d5 d6 d7 d8 d9 d10 c0 c1 c2 c3 c4 c5 c6 c7 c8 c9 c10
         cases b4 with
         | false =>
          have hT : t = false := by have := HT.out; simpa using this.symm
          subst hT; go_wp2
          go_roundw
          case rel => exact ⟨k + 1, false, by omega, rfl, by go_num, HB5.out, HN.out⟩
          case measure => simp [RowKit.intOf]; omega
         | true =>
          have hT : t = b5 := by have := HT.out; simpa using this.symm
          subst hT; go_wp2
          go_roundw
          case rel => exact ⟨k + 1, t, by omega, rfl, by go_num, HB5.out, HN.out⟩
          case measure => simp [RowKit.intOf]; omega
   · have HD := hid (show true = sameCs a b from same_bool ((HF.out.done (fun _ => by omega)).trans sameCs_iff.symm))
     have hka : ¬ (k : Int) < (a.length : Int) := by omega
     clear hlen; go_wp2
     go_ret
     exact ⟨ret_b HD.out, HW.out⟩
set_option maxHeartbeats 2000000 in
theorem sameSpec_any (S : Spc) (LA : Option Addr) (lc : Nat) (IA : Option Addr) (ic : Nat) (MA : Option Addr) (mc : Nat) (T : Spc) (LB : Option Addr) (ld : Nat) (IB : Option Addr) (id : Nat) (MB : Option Addr) (md : Nat) (w : World) (hS : S.In w LA lc IA ic MA mc) (hT : T.In w LB ld IB id MB md) :
 Calls Tryz.prog 13 #[.agg #[.string S.name, .slice LA S.labels.length lc, .slice IA S.init.length ic, .slice MA S.main.length mc, .int .i64 S.restart, .int .i64 S.grace, .int .i64 S.prio], .agg #[.string T.name, .slice LB T.labels.length ld, .slice IB T.init.length id, .slice MB T.main.length md, .int .i64 T.restart, .int .i64 T.grace, .int .i64 T.prio]] w
  fun e w' => e = .returned (.bool (sameS S T)) ∧ Below w.heap.size w w' := by
 have HS := hid hS
 have HT := hid hT
 have hb0 : ∀ o o', Below w.heap.size w ((w.alloc o).alloc o') := fun o o' => ((Below.refl _ _).alloc (Nat.le_refl _) _).alloc (by simp) _
 have HB0 := hid hb0
 obtain ⟨b0, e0⟩ : ∃ b0 : Bool, (S.name.toList == T.name.toList) = b0 := ⟨_, rfl⟩
 obtain ⟨b1, e1⟩ : ∃ b1 : Bool, sameLs S.labels T.labels = b1 := ⟨_, rfl⟩
 obtain ⟨b2, e2⟩ : ∃ b2 : Bool, sameCs S.init T.init = b2 := ⟨_, rfl⟩
 obtain ⟨b3, e3⟩ : ∃ b3 : Bool, sameCs S.main T.main = b3 := ⟨_, rfl⟩
 obtain ⟨b4, e4⟩ : ∃ b4 : Bool, (S.restart == T.restart) = b4 := ⟨_, rfl⟩
 obtain ⟨b5, e5⟩ : ∃ b5 : Bool, (S.grace == T.grace) = b5 := ⟨_, rfl⟩
 obtain ⟨b6, e6⟩ : ∃ b6 : Bool, (S.prio == T.prio) = b6 := ⟨_, rfl⟩
 have HR := hid (show (b0 && b1 && b2 && b3 && b4 && b5 && b6) = sameS S T by rw [← e0, ← e1, ← e2, ← e3, ← e4, ← e5, ← e6]; rfl)
 have E1 := hid e1
 have E2 := hid e2
 have E3 := hid e3
 clear hS hT hb0 e1 e2 e3
 go_enter Tryz.func13, Tryz.ntmps13
 cases b0 with
 | false =>
  have HD := hid (show false = sameS S T from by have := HR.out; simpa using this); go_wp2
  go_ret
  exact ⟨ret_b HD.out, HB0.out _ _⟩
 | true =>
  go_wp2_with fail
  refine (sameLabels_any LA lc S.labels LB ld T.labels HS.out.nl HT.out.nl _ (HS.out.below (HB0.out _ _)).labels (HT.out.below (HB0.out _ _)).labels).mono ?_
  rintro e w5 ⟨rfl, hb5⟩; have HB5 := hid ((HB0.out _ _).trans (hb5.mono (by simp; omega)))
  obtain ⟨hcell, hfroz⟩ := Kit.bcell hb5
  have hz5 : w.heap.size + 1 < w5.heap.size := by have := hb5.size; simp at this; omega
  have hy5 : w.heap.size < w5.heap.size := by omega
  rw [E1.out]; clear hb5
  cases b1 with
  | false =>
   have HD := hid (show false = sameS S T from by have := HR.out; simpa using this); go_wp2
   go_ret
   exact ⟨ret_b HD.out, HB5.out⟩
  | true =>
   go_wp2_with fail
   refine (sameContainers_any IA ic S.init IB id T.init HS.out.ni HT.out.ni _ (HS.out.below (HB5.out)).init (HT.out.below (HB5.out)).init).mono ?_
   rintro e w6 ⟨rfl, hb6⟩; have HB6 := hid (HB5.out.trans (hb6.mono HB5.out.size))
   obtain ⟨hcell6, hfroz6⟩ := Kit.bcell hb6
   have hz6 : w.heap.size + 1 < w6.heap.size := Nat.lt_of_lt_of_le hz5 hb6.size
   have hy6 : w.heap.size < w6.heap.size := by omega
   rw [E2.out]; clear hb6
   cases b2 with
   | false =>
    have HD := hid (show false = sameS S T from by have := HR.out; simpa using this); go_wp2
    go_ret
    exact ⟨ret_b HD.out, HB6.out⟩
   | true =>
    go_wp2_with fail
    refine (sameContainers_any MA mc S.main MB md T.main HS.out.nm HT.out.nm _ (HS.out.below (HB6.out)).main (HT.out.below (HB6.out)).main).mono ?_
    rintro e w7 ⟨rfl, hb7⟩; have HB7 := hid (HB6.out.trans (hb7.mono HB6.out.size))
    obtain ⟨hcell7, hfroz7⟩ := Kit.bcell hb7
    have hz7 : w.heap.size + 1 < w7.heap.size := Nat.lt_of_lt_of_le hz6 hb7.size
    have hy7 : w.heap.size < w7.heap.size := by omega
    rw [E3.out]; clear hb7
    cases b3 with
    | false =>
     have HD := hid (show false = sameS S T from by have := HR.out; simpa using this); go_wp2
     go_ret
     exact ⟨ret_b HD.out, HB7.out⟩
    | true =>
     cases b4 with
     | false =>
      have HD := hid (show false = sameS S T from by have := HR.out; simpa using this); go_wp2
      go_ret
      exact ⟨ret_b HD.out, HB7.out⟩
     | true =>
      cases b5 with
      | false =>
       have HD := hid (show false = sameS S T from by have := HR.out; simpa using this); go_wp2
       go_ret
       exact ⟨ret_b HD.out, HB7.out⟩
      | true =>
       have HD := hid (show b6 = sameS S T from by have := HR.out; simpa using this); go_wp2
       go_ret
       exact ⟨ret_b HD.out, HB7.out⟩
end Book
end Go.Proofs.YtljbpelogjmciaaGreatDoor
