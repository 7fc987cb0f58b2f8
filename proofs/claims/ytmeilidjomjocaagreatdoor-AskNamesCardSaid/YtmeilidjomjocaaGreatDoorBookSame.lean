/-
  The contracts of the laws' own helpers SameInts, SameLabels, SameContainers, SameSpec: are lists of numbers, of labels, of containers, are specs the same? No condition.
-/
import Derived.Test.YtmeilidjomjocaaGreatDoorSpecData
import Derived.Test.YtmeilidjomjocaaGreatDoorChecked
import Derived.WalkKit
import Derived.ProofKit
import Derived.Deep.QuietTactic
import Derived.BigQuiet
import Derived.Laws.StructEq
import Derived.KernelRfl
namespace Go.Proofs.YtmeilidjomjocaaGreatDoor
open Go.ChangeShapes Go.WideShapes Go.ChangeAt Go.RowKit Go.Lib
open Sd Lists
namespace Book

/-- the same member by member, by a test -/
def sameAll {α : Type} (f : α → α → Bool) : List α → List α → Bool
  | [], [] => true
  | x :: xs, y :: ys => f x y && sameAll f xs ys
  | [], _ :: _ => false
  | _ :: _, [] => false

theorem sameAll_iff {α : Type} {f : α → α → Bool} (hf : ∀ x y, f x y = true ↔ x = y) : ∀ a b : List α, sameAll f a b = true ↔ a = b
  | [], [] => by simp [sameAll]
  | x :: xs, y :: ys => by simp [sameAll, hf, sameAll_iff hf xs ys]
  | [], _ :: _ => by simp [sameAll]
  | _ :: _, [] => by simp [sameAll]

theorem text_eq (a b : ByteArray) : a.toList = b.toList ↔ a = b := by
  rw [ByteArray.toList_eq, ByteArray.toList_eq]
  exact ⟨fun h => ByteArray.ext (Array.ext' h), fun h => by rw [h]⟩

def sameIs (a b : List Int) : Bool := sameAll (fun x y => x == y) a b
theorem sameIs_iff {a b : List Int} : sameIs a b = true ↔ a = b := sameAll_iff (by simp) a b
def sameL (x y : Lbl) : Bool := x.key.toList == y.key.toList && x.val.toList == y.val.toList
theorem sameL_iff (x y : Lbl) : sameL x y = true ↔ x = y := by
  cases x; cases y; simp [sameL, text_eq]
def sameLs (a b : List Lbl) : Bool := sameAll sameL a b
theorem sameLs_iff {a b : List Lbl} : sameLs a b = true ↔ a = b := sameAll_iff sameL_iff a b
def sameC (x y : Ctr) : Bool := x.name.toList == y.name.toList && x.image.toList == y.image.toList && (x.rc == y.rc && x.rm == y.rm && x.rp == y.rp) && (x.lc == y.lc && x.lm == y.lm && x.lp == y.lp) && sameIs x.ports y.ports && (x.ev == y.ev && x.fl == y.fl)
theorem sameC_iff (x y : Ctr) : sameC x y = true ↔ x = y := by
  cases x; cases y; simp [sameC, sameIs_iff, and_assoc, text_eq]
def sameCs (a b : List Ctr) : Bool := sameAll sameC a b
theorem sameCs_iff {a b : List Ctr} : sameCs a b = true ↔ a = b := sameAll_iff sameC_iff a b
def sameS (S T : Spc) : Bool := S.name.toList == T.name.toList && sameLs S.labels T.labels && sameCs S.init T.init && sameCs S.main T.main && S.restart == T.restart && S.grace == T.grace && S.prio == T.prio
theorem sameS_iff (S T : Spc) : sameS S T = true ↔ S = T := by
  cases S; cases T; simp [sameS, sameLs_iff, sameCs_iff, and_assoc, text_eq]

theorem bool_of {a : Bool} {p : Prop} (h : a = true ↔ p) : (p → a = true) ∧ (¬ p → a = false) :=
  ⟨h.2, fun hn => by
    cases a
    · rfl
    · exact absurd (h.1 rfl) hn⟩

/-- the loop's head: so far the same, or not the same at all -/
def Far {α : Type} (a b : List α) (k : Nat) (sm : Bool) : Prop := (sm = true → a.length = b.length ∧ a.take k = b.take k) ∧ (sm = false → a ≠ b)
theorem Far.start {α : Type} (a b : List α) : Far a b 0 (decide (a.length = b.length)) :=
  ⟨fun h => ⟨of_decide_eq_true h, by simp⟩, fun h e => of_decide_eq_false h (by rw [e])⟩
theorem Far.next {α : Type} {a b : List α} {k : Nat} (h : Far a b k true) (ha : k < a.length) (hb : k < b.length) {t : Bool} (ht : t = true ↔ a[k] = b[k]) : Far a b (k + 1) t := by
  refine ⟨fun e => ⟨(h.1 rfl).1, ?_⟩, fun e e' => ?_⟩
  · rw [List.take_succ_eq_append_getElem ha, List.take_succ_eq_append_getElem hb, (h.1 rfl).2, ht.1 e]
  · subst e'
    rw [ht.2 rfl] at e
    cases e
theorem Far.done {α : Type} {a b : List α} {k : Nat} {sm : Bool} (h : Far a b k sm) (hk : sm = true → a.length ≤ k) : sm = true ↔ a = b := by
  constructor
  · intro e
    have h1 := h.1 e
    have h2 := hk e
    rw [List.take_of_length_le h2, List.take_of_length_le (by omega)] at h1
    exact h1.2
  · intro e
    cases sm
    · exact absurd e (h.2 rfl)
    · rfl

theorem far_start {α : Type} (a b : List α) : Hid (Far a b 0 ((a.length : Int) == (b.length : Int))) := by
  have := Far.start a b
  have e : ((a.length : Int) == (b.length : Int)) = decide (a.length = b.length) := by
    rw [Bool.eq_iff_iff]; simp; omega
  rw [e]
  exact this
theorem ret_b {a b : Bool} (h : a = b) : Ending.returned (.bool a) = .returned (.bool b) := by rw [h]
theorem same_bool {a b : Bool} (h : a = true ↔ b = true) : a = b := by cases a <;> cases b <;> simp_all

def resB (a b c a' b' c' : Int) : Bool := a == a' && b == b' && c == c'
def probeB (a b a' b' : Int) : Bool := a == a' && b == b'

theorem eql_label (x y : Lbl) (v : World) : (binOp BinOp.eql 131 (.agg #[.string x.key, .string x.val]) (.agg #[.string y.key, .string y.val])).run Tryz.prog v = .ok (.bool (sameL x y)) v := by
  have hS : Tryz.prog.underlying 131 = some (.struct (Tryz.prog.fieldsOf 131)) := by kernel_rfl
  have hp : Tryz.prog.stoodInHeld 131 = false := by kernel_rfl
  have u := Tryz.underlying9
  have a := Tryz.isAgg9
  have z := Tryz.sizeOf9
  rw [run_eql_struct, show (10000 : Nat) = 9999 + 1 from rfl, run_equalIn_agg v 9999 131 _ _ hS hp]
  simp only [Program.fieldsOf, Tryz.underlying131]
  go_simp
  unfold sameL
  by_cases h1 : x.key.toList = y.key.toList <;> by_cases h2 : x.val.toList = y.val.toList <;> simp [h1, h2]
theorem eql_res (a b c a' b' c' : Int) (v : World) : (binOp BinOp.eql 69 (.agg #[.int .i64 a, .int .i64 b, .int .i64 c]) (.agg #[.int .i64 a', .int .i64 b', .int .i64 c'])).run Tryz.prog v = .ok (.bool (resB a b c a' b' c')) v := by
  have hS : Tryz.prog.underlying 69 = some (.struct (Tryz.prog.fieldsOf 69)) := by kernel_rfl
  have hp : Tryz.prog.stoodInHeld 69 = false := by kernel_rfl
  have u := Tryz.underlying3
  have a0 := Tryz.isAgg3
  have z := Tryz.sizeOf3
  rw [run_eql_struct, show (10000 : Nat) = 9999 + 1 from rfl, run_equalIn_agg v 9999 69 _ _ hS hp]
  simp only [Program.fieldsOf, Tryz.underlying69]
  go_simp
  unfold resB
  by_cases h1 : a = a' <;> by_cases h2 : b = b' <;> by_cases h3 : c = c' <;> simp [h1, h2, h3]
theorem eql_probe (a b a' b' : Int) (v : World) : (binOp BinOp.eql 72 (.agg #[.int .i64 a, .int .i64 b]) (.agg #[.int .i64 a', .int .i64 b'])).run Tryz.prog v = .ok (.bool (probeB a b a' b')) v := by
  have hS : Tryz.prog.underlying 72 = some (.struct (Tryz.prog.fieldsOf 72)) := by kernel_rfl
  have hp : Tryz.prog.stoodInHeld 72 = false := by kernel_rfl
  have u := Tryz.underlying3
  have a0 := Tryz.isAgg3
  have z := Tryz.sizeOf3
  rw [run_eql_struct, show (10000 : Nat) = 9999 + 1 from rfl, run_equalIn_agg v 9999 72 _ _ hS hp]
  simp only [Program.fieldsOf, Tryz.underlying72]
  go_simp
  unfold probeB
  by_cases h1 : a = a' <;> by_cases h2 : b = b' <;> simp [h1, h2]

set_option maxRecDepth 100000 in
theorem sameInts_any (A : Option Addr) (ac : Nat) (a : List Int) (B : Option Addr) (bc : Nat) (b : List Int) (hl : a.length ≤ 9223372036854775807) (hm : b.length ≤ 9223372036854775807) (w : World) (hA : Nums .i64 w A a) (hB : Nums .i64 w B b) :
    Calls Tryz.prog 88 #[.slice A a.length ac, .slice B b.length bc] w fun e w' => e = .returned (.bool (sameIs a b)) ∧ Below w.heap.size w w' := by
  have HA := Lib.hid hA
  have HB := Lib.hid hB
  have hl' : (a.length : Int) ≤ 9223372036854775807 := by omega
  have hm' : (b.length : Int) ≤ 9223372036854775807 := by omega
  clear hA hB hl hm
  go_enter Tryz.func88, Tryz.ntmps88
  go_wp2_with fail
  go_loopw [5, 6] (fun sm i wr => ∃ (k : Nat) (s : Bool), k ≤ a.length ∧ sm = .bool s ∧ i = .int .i64 k ∧ Hid (Below w.heap.size w wr) ∧ Hid (Far a b k s)) (fun _ i _ => a.length - (RowKit.intOf i).toNat)
  case atStart => exact ⟨0, _, Nat.zero_le _, rfl, rfl, Below.refl _ _, far_start a b⟩
  case round =>
    obtain ⟨k, s, hk, rfl, rfl, HW, HF⟩ := hrel
    cases s with
    | false =>
      have HD := Lib.hid (show false = sameIs a b from same_bool ((HF.out.done (fun h => by cases h)).trans sameIs_iff.symm))
      go_wp2
      go_ret
      exact ⟨ret_b HD.out, HW.out⟩
    | true =>
      have hlen := (HF.out.1 rfl).1
      by_cases hlt : k < a.length
      · have hlb : k < b.length := by omega
        obtain ⟨_, p, rfl, hp, hc⟩ := (Nums.below HA.out HW.out).at hlt
        obtain ⟨_, q, rfl, hq, hd⟩ := (Nums.below HB.out HW.out).at hlb
        obtain ⟨t, ht⟩ : ∃ t : Bool, (a[k] == b[k]) = t := ⟨_, rfl⟩
        have HN := Lib.hid (show Far a b (k + 1) t from HF.out.next hlt hlb (by rw [← ht]; exact beq_iff_eq))
        obtain ⟨x, hx⟩ : ∃ x, a[k] = x := ⟨_, rfl⟩
        obtain ⟨y, hy⟩ : ∃ y, b[k] = y := ⟨_, rfl⟩
        rw [hx] at hc ht
        rw [hy] at hd ht
        clear hx hy hp hq hlen
        have hka : (k : Int) < (a.length : Int) := by omega
        have hkb : (k : Int) < (b.length : Int) := by omega
        go_wp2_with fail
        go_quiet (fail)
        go_wp2
        go_roundw
        case rel => exact ⟨k + 1, t, by omega, rfl, by go_num, HW.out.trans ((Kit.below_drewN _ _ _).mono HW.out.size), HN.out⟩
        case measure => simp [RowKit.intOf]; omega
      · have HD := Lib.hid (show true = sameIs a b from same_bool ((HF.out.done (fun _ => by omega)).trans sameIs_iff.symm))
        have hka : ¬ (k : Int) < (a.length : Int) := by omega
        clear hlen
        go_wp2
        go_ret
        exact ⟨ret_b HD.out, HW.out⟩

set_option maxRecDepth 100000 in
theorem sameLabels_any (A : Option Addr) (ac : Nat) (a : List Lbl) (B : Option Addr) (bc : Nat) (b : List Lbl) (hl : a.length ≤ 9223372036854775807) (hm : b.length ≤ 9223372036854775807) (w : World) (hA : Lbls w A a) (hB : Lbls w B b) :
    Calls Tryz.prog 45 #[.slice A a.length ac, .slice B b.length bc] w fun e w' => e = .returned (.bool (sameLs a b)) ∧ Below w.heap.size w w' := by
  have HA := Lib.hid hA
  have HB := Lib.hid hB
  have hl' : (a.length : Int) ≤ 9223372036854775807 := by omega
  have hm' : (b.length : Int) ≤ 9223372036854775807 := by omega
  have hgd : Tryz.prog.eqGuardType Tryz.prog.depth 131 = false := by kernel_rfl
  clear hA hB hl hm
  go_enter Tryz.func45, Tryz.ntmps45
  go_wp2_with fail
  go_loopw [5, 6] (fun sm i wr => ∃ (k : Nat) (s : Bool), k ≤ a.length ∧ sm = .bool s ∧ i = .int .i64 k ∧ Hid (Below w.heap.size w wr) ∧ Hid (Far a b k s)) (fun _ i _ => a.length - (RowKit.intOf i).toNat)
  case atStart => exact ⟨0, _, Nat.zero_le _, rfl, rfl, Below.refl _ _, far_start a b⟩
  case round =>
    obtain ⟨k, s, hk, rfl, rfl, HW, HF⟩ := hrel
    cases s with
    | false =>
      have HD := Lib.hid (show false = sameLs a b from same_bool ((HF.out.done (fun h => by cases h)).trans sameLs_iff.symm))
      go_wp2
      go_ret
      exact ⟨ret_b HD.out, HW.out⟩
    | true =>
      have hlen := (HF.out.1 rfl).1
      by_cases hlt : k < a.length
      · have hlb : k < b.length := by omega
        obtain ⟨p, rfl, hp, hc⟩ := (HA.out.below HW.out).at hlt
        obtain ⟨q, rfl, hq, hd⟩ := (HB.out.below HW.out).at hlb
        obtain ⟨t, ht⟩ : ∃ t : Bool, sameL a[k] b[k] = t := ⟨_, rfl⟩
        have HN := Lib.hid (show Far a b (k + 1) t from HF.out.next hlt hlb (by rw [← ht]; exact sameL_iff _ _))
        obtain ⟨x, hx⟩ : ∃ x, a[k] = x := ⟨_, rfl⟩
        obtain ⟨y, hy⟩ : ∃ y, b[k] = y := ⟨_, rfl⟩
        rw [hx] at hc ht
        rw [hy] at hd ht
        have heq := fun v => eql_label x y v
        rw [ht] at heq
        obtain ⟨c0, c1⟩ := hc
        obtain ⟨d0, d1⟩ := hd
        clear hx hy hp hq hlen ht
        have hka : (k : Int) < (a.length : Int) := by omega
        have hkb : (k : Int) < (b.length : Int) := by omega
        go_wp2_with fail
        go_quiet (fail)
        go_wp2
        go_roundw
        case rel => exact ⟨k + 1, t, by omega, rfl, by go_num, HW.out.trans ((Kit.below_drewN _ _ _).mono HW.out.size), HN.out⟩
        case measure => simp [RowKit.intOf]; omega
      · have HD := Lib.hid (show true = sameLs a b from same_bool ((HF.out.done (fun _ => by omega)).trans sameLs_iff.symm))
        have hka : ¬ (k : Int) < (a.length : Int) := by omega
        clear hlen
        go_wp2
        go_ret
        exact ⟨ret_b HD.out, HW.out⟩

set_option maxRecDepth 100000 in
set_option maxHeartbeats 1000000 in
theorem sameContainers_any (A : Option Addr) (ac : Nat) (a : List Ctr) (B : Option Addr) (bc : Nat) (b : List Ctr) (hl : a.length ≤ 9223372036854775807) (hm : b.length ≤ 9223372036854775807) (w : World) (hA : Ctrs w A a) (hB : Ctrs w B b) :
    Calls Tryz.prog 46 #[.slice A a.length ac, .slice B b.length bc] w fun e w' => e = .returned (.bool (sameCs a b)) ∧ Below w.heap.size w w' := by
  have HA := Lib.hid hA
  have HB := Lib.hid hB
  have hl' : (a.length : Int) ≤ 9223372036854775807 := by omega
  have hm' : (b.length : Int) ≤ 9223372036854775807 := by omega
  have hgr : Tryz.prog.eqGuardType Tryz.prog.depth 69 = false := by kernel_rfl
  have hgp : Tryz.prog.eqGuardType Tryz.prog.depth 72 = false := by kernel_rfl
  clear hA hB hl hm
  go_enter Tryz.func46, Tryz.ntmps46
  go_wp2_with fail
  go_loopw [5, 6] (fun sm i wr => ∃ (k : Nat) (s : Bool), k ≤ a.length ∧ sm = .bool s ∧ i = .int .i64 k ∧ Hid (Below w.heap.size w wr) ∧ Hid (Far a b k s)) (fun _ i _ => a.length - (RowKit.intOf i).toNat)
  case atStart => exact ⟨0, _, Nat.zero_le _, rfl, rfl, Below.refl _ _, far_start a b⟩
  case round =>
    obtain ⟨k, s, hk, rfl, rfl, HW, HF⟩ := hrel
    cases s with
    | false =>
      have HD := Lib.hid (show false = sameCs a b from same_bool ((HF.out.done (fun h => by cases h)).trans sameCs_iff.symm))
      go_wp2
      go_ret
      exact ⟨ret_b HD.out, HW.out⟩
    | true =>
      have hlen := (HF.out.1 rfl).1
      by_cases hlt : k < a.length
      · have hlb : k < b.length := by omega
        obtain ⟨fa, p, P, pc, rfl, hp, hc, nP⟩ := (HA.out.below HW.out).at hlt
        obtain ⟨fb, q, Q, qc, rfl, hq, hd, nQ⟩ := (HB.out.below HW.out).at hlb
        obtain ⟨t, ht⟩ : ∃ t : Bool, sameC a[k] b[k] = t := ⟨_, rfl⟩
        have HN := Lib.hid (show Far a b (k + 1) t from HF.out.next hlt hlb (by rw [← ht]; exact sameC_iff _ _))
        obtain ⟨x, hx⟩ : ∃ x, a[k] = x := ⟨_, rfl⟩
        obtain ⟨y, hy⟩ : ∃ y, b[k] = y := ⟨_, rfl⟩
        rw [hx] at hc ht nP fa
        rw [hy] at hd ht nQ fb
        have hxp := fa.ports
        have hyp := fb.ports
        obtain ⟨c0, c1, c2, c3, c4, c5, c6, c7, c8, c9, c10, _⟩ := hc
        have hd' := fun o => hd.keep (w' := wr.alloc o) (by rw [add_block]; exact Below.heap_alloc wr o _ hq)
        have d0 := fun o => (hd' o).1
        have d1 := fun o => (hd' o).2.1
        have d2 := fun o => (hd' o).2.2.1
        have d3 := fun o => (hd' o).2.2.2.1
        have d4 := fun o => (hd' o).2.2.2.2.1
        have d5 := fun o => (hd' o).2.2.2.2.2.1
        have d6 := fun o => (hd' o).2.2.2.2.2.2.1
        have d7 := fun o => (hd' o).2.2.2.2.2.2.2.1
        have d8 := fun o => (hd' o).2.2.2.2.2.2.2.2.1
        have d9 := fun o => (hd' o).2.2.2.2.2.2.2.2.2.1
        have d10 := fun o => (hd' o).2.2.2.2.2.2.2.2.2.2.1
        clear hd hd'
        have NP := Lib.hid nP
        have NQ := Lib.hid nQ
        unfold sameC at ht
        obtain ⟨b0, e0⟩ : ∃ b0 : Bool, (x.name.toList == y.name.toList) = b0 := ⟨_, rfl⟩
        obtain ⟨b1, e1⟩ : ∃ b1 : Bool, (x.image.toList == y.image.toList) = b1 := ⟨_, rfl⟩
        obtain ⟨b2, e2⟩ : ∃ b2 : Bool, resB x.rc x.rm x.rp y.rc y.rm y.rp = b2 := ⟨_, rfl⟩
        obtain ⟨b3, e3⟩ : ∃ b3 : Bool, resB x.lc x.lm x.lp y.lc y.lm y.lp = b3 := ⟨_, rfl⟩
        obtain ⟨b4, e4⟩ : ∃ b4 : Bool, sameIs x.ports y.ports = b4 := ⟨_, rfl⟩
        obtain ⟨b5, e5⟩ : ∃ b5 : Bool, probeB x.ev x.fl y.ev y.fl = b5 := ⟨_, rfl⟩
        have q2 := fun v => eql_res x.rc x.rm x.rp y.rc y.rm y.rp v
        have q3 := fun v => eql_res x.lc x.lm x.lp y.lc y.lm y.lp v
        have q5 := fun v => eql_probe x.ev x.fl y.ev y.fl v
        rw [e2] at q2
        rw [e3] at q3
        rw [e5] at q5
        rw [e0, e1, e4, show (x.rc == y.rc && x.rm == y.rm && x.rp == y.rp) = b2 from e2, show (x.lc == y.lc && x.lm == y.lm && x.lp == y.lp) = b3 from e3, show (x.ev == y.ev && x.fl == y.fl) = b5 from e5] at ht
        have E4 := Lib.hid e4
        have HT := Lib.hid ht
        clear hx hy hp hq hlen nP nQ fa fb e2 e3 e4 e5 ht
        have hka : (k : Int) < (a.length : Int) := by omega
        have hkb : (k : Int) < (b.length : Int) := by omega
        cases b0 with
        | false =>
          have hT : t = false := by have := HT.out; simpa using this.symm
          subst hT
          go_wp2
          go_roundw
          case rel => exact ⟨k + 1, false, by omega, rfl, by go_num, HW.out.trans (((((Below.refl _ _).alloc (Nat.le_refl _) _).alloc (by simp) _)).mono HW.out.size), HN.out⟩
          case measure => simp [RowKit.intOf]; omega
        | true =>
          cases b1 with
          | false =>
            have hT : t = false := by have := HT.out; simpa using this.symm
            subst hT
            go_wp2
            go_roundw
            case rel => exact ⟨k + 1, false, by omega, rfl, by go_num, HW.out.trans (((((Below.refl _ _).alloc (Nat.le_refl _) _).alloc (by simp) _)).mono HW.out.size), HN.out⟩
            case measure => simp [RowKit.intOf]; omega
          | true =>
            cases b2 with
            | false =>
              have hT : t = false := by have := HT.out; simpa using this.symm
              subst hT
              go_wp2
              go_roundw
              case rel => exact ⟨k + 1, false, by omega, rfl, by go_num, HW.out.trans (((((Below.refl _ _).alloc (Nat.le_refl _) _).alloc (by simp) _)).mono HW.out.size), HN.out⟩
              case measure => simp [RowKit.intOf]; omega
            | true =>
              cases b3 with
              | false =>
                have hT : t = false := by have := HT.out; simpa using this.symm
                subst hT
                go_wp2
                go_roundw
                case rel => exact ⟨k + 1, false, by omega, rfl, by go_num, HW.out.trans (((((Below.refl _ _).alloc (Nat.le_refl _) _).alloc (by simp) _)).mono HW.out.size), HN.out⟩
                case measure => simp [RowKit.intOf]; omega
              | true =>
                go_wp2_with fail
                have hb0 : ∀ o o', Below wr.heap.size wr ((wr.alloc o).alloc o') := fun o o' => ((Below.refl _ _).alloc (Nat.le_refl _) _).alloc (by simp) _
                refine (sameInts_any P pc x.ports Q qc y.ports hxp hyp _ (Nums.below NP.out (hb0 _ _)) (Nums.below NQ.out (hb0 _ _))).mono ?_
                rintro e w5 ⟨rfl, hb5⟩
                have HB5 := Lib.hid (HW.out.trans (((hb0 _ _).trans (hb5.mono (by simp; omega))).mono HW.out.size))
                obtain ⟨hcell, hfroz⟩ := Kit.bcell hb5
                rw [E4.out]
                clear hb0 hb5 d0 d1 d2 d3 d4 d5 d6 d7 d8 d9 d10 c0 c1 c2 c3 c4 c5 c6 c7 c8 c9 c10
                cases b4 with
                | false =>
                  have hT : t = false := by have := HT.out; simpa using this.symm
                  subst hT
                  go_wp2
                  go_roundw
                  case rel => exact ⟨k + 1, false, by omega, rfl, by go_num, HB5.out, HN.out⟩
                  case measure => simp [RowKit.intOf]; omega
                | true =>
                  have hT : t = b5 := by have := HT.out; simpa using this.symm
                  subst hT
                  go_wp2
                  go_roundw
                  case rel => exact ⟨k + 1, t, by omega, rfl, by go_num, HB5.out, HN.out⟩
                  case measure => simp [RowKit.intOf]; omega
      · have HD := Lib.hid (show true = sameCs a b from same_bool ((HF.out.done (fun _ => by omega)).trans sameCs_iff.symm))
        have hka : ¬ (k : Int) < (a.length : Int) := by omega
        clear hlen
        go_wp2
        go_ret
        exact ⟨ret_b HD.out, HW.out⟩
end Book
end Go.Proofs.YtmeilidjomjocaaGreatDoor
