/-
  The contract of spec.Labels: what is said of labels. All that was there is left as it was. Conditions: as SpecStep; the texts are short.
-/
import Derived.Test.YtpllcnpmjnmcfaaDoorRc17
import Derived.Test.YtpllcnpmjnmcfaaDoorRc1
import Derived.Test.YtpllcnpmjnmcfaaDoorChecked
import Derived.Test.YtpllcnpmjnmcfaaDoorRc3
import Derived.Test.YtpllcnpmjnmcfaaDoorRc5
import Derived.Test.YtpllcnpmjnmcfaaDoorRc13
import Derived.Test.YtpllcnpmjnmcfaaDoorRc12
import Derived.Deep.QuietTactic
import Derived.BigQuiet
import Derived.WalkKit
import Derived.ProofKit
import Derived.IntWalk
import Derived.Laws.Tables
import Derived.Lib.QuietBelow
namespace Go.Proofs.YtpllcnpmjnmcfaaDoor
open Go.ChangeShapes Go.WideShapes Go.ChangeAt Go.RowKit Go.Lib
open Sd Lists
namespace SpecOwn

theorem cell_new (w : World) (v : Value) (t : TypeId) : (w.alloc (.cells #[v] t)).cell? ⟨w.heap.size, 0, none⟩ = some v := by simp
theorem less_total : ∀ a b : List UInt8, (Op.bytesLess a b || (a == b)) = !(Op.bytesLess b a)
  | [], [] => rfl
  | [], b :: y => by simp [Op.bytesLess]
  | a :: x, [] => by simp [Op.bytesLess]
  | a :: x, b :: y => by
    have ih := less_total x y
    simp only [Op.bytesLess]
    by_cases h1 : a = b
    · subst h1
      simpa using ih
    · have h2 : (a == b) = false := by simpa using h1
      have h3 : (b == a) = false := by simpa using fun e => h1 e.symm
      have h4 : (a :: x == b :: y) = false := by simp [h1]
      rw [h4]
      simp only [h2, h3, Bool.false_and, Bool.or_false]
      have : ¬ (a < b) ↔ b < a := by
        constructor
        · intro h; exact UInt8.lt_of_le_of_ne (UInt8.not_lt.1 h) (fun e => h1 e.symm)
        · intro h h'; exact absurd (UInt8.lt_trans h h') (UInt8.lt_irrefl _)
      by_cases h : a < b
      · have h' : ¬ b < a := fun e => (this.2 e) h
        simp [h, h']
      · have h' : b < a := this.1 h
        simp [h, h']
def LBox (x : Lbl) (w : World) (b : Nat) : Prop := w.heap[b]? = some (.cells #[.string x.key, .string x.val] 64 (0, 0))
theorem LBox.keep {x : Lbl} {w w' : World} {b : Nat} (h : LBox x w b) (hb : Below w.heap.size w w') : LBox x w' b := (hb.block b (lt_of_block h)).trans h
set_option maxRecDepth 100000 in
set_option maxHeartbeats 4000000 in
theorem labels_gen (name : ByteArray) (A : Option Addr) (cap : Nat) (l : List Lbl) (hn : name.size ≤ 1000) (hl : l.length ≤ 9223372036854775807) (hlight : ∀ x ∈ l, x.key.size < 4294967281 ∧ x.val.size ≤ 4294967281) (w : World) (hL : SLaid w) (h : Lbls w A l) :
    Calls Tryd.prog 46 #[.string name, .slice A l.length cap] w (Tells (labelsV name l) w) := by
  have H := Lib.hid h
  have HLI := Lib.hid hlight
  have HN := Lib.hid hn
  have HL := Lib.hid hL
  have hl' : (l.length : Int) ≤ 9223372036854775807 := by omega
  clear h hlight hL
  have said : ∀ (c : Int) (s : ByteArray) (w1 : World), c ≠ 0 → labelsV name l = (c, s) → Below w.heap.size w w1 → ∀ e w2, Tells (newV c s) w1 e w2 → Tells (labelsV name l) w e w2 := by
    intro c s w1 h0 he hb e w2 ht
    rw [he]
    have : newV c s = (c, s) := if_neg h0
    rw [← this]
    exact tells_mono ht hb
  have SAID := Lib.hid said
  clear said
  by_cases h4 : 4 < l.length
  · have HE := Lib.hid (show labelsV name l = (2, name) by unfold labelsV; rw [if_pos h4])
    go_enter Tryd.func46, Tryd.ntmps46
    go_wp2_with fail
    refine (new_says 2 name w.heap.size 1 _ (by omega) (by simp)).mono ?_
    rintro e w2 hE
    have HX := Lib.hid (SAID.out 2 name _ (by decide) HE.out ((Below.refl w.heap.size w).alloc (Nat.le_refl _) _) e w2 hE)
    obtain ⟨E, rfl, _⟩ := hE
    go_wp2_with fail
    go_ret
    exact HX.out
  · have HE := Lib.hid (show SpecRef.LHere name l 0 by unfold SpecRef.LHere labelsV; rw [if_neg h4]; rfl)
    have H4 := Lib.hid h4
    go_enter Tryd.func46, Tryd.ntmps46
    go_wp2_with fail
    go_loopw [18] (fun i wr => ∃ k : Nat, k ≤ l.length ∧ i = .int .i64 k ∧ Hid (SpecRef.LHere name l k) ∧ Hid (Below w.heap.size w wr)) (fun i _ => l.length - (RowKit.intOf i).toNat)
    case atStart => exact ⟨0, Nat.zero_le _, rfl, HE.out, Below.refl _ _⟩
    case round =>
      obtain ⟨k, hk, rfl, HK, HW⟩ := hrel
      by_cases hlt : k < l.length
      · obtain ⟨p, rfl, hp, hc⟩ := (H.out.below HW.out).at hlt
        obtain ⟨x, hx⟩ : ∃ x, l[k] = x := ⟨_, rfl⟩
        rw [hx] at hc
        have hxm : x ∈ l := hx ▸ List.getElem_mem hlt
        have hkx := (HLI.out x hxm).1
        have hvx := (HLI.out x hxm).2
        obtain ⟨c0, c1⟩ := hc
        have HX := Lib.hid hx
        clear hx hxm
        have hkn : (k : Int) < (l.length : Int) := by omega
        have HS := Lib.hid (show labelsV name l = labelsFrom name k (if k = 0 then none else l[k - 1]?) (x :: l.drop (k + 1)) by
          have := HK.out
          unfold SpecRef.LHere at this
          rw [this, List.drop_eq_getElem_cons hlt, HX.out])
        have hks := HN.out
        have hasz := SpecRef.atB_size name k (by omega)
        go_wp2_with fail
        obtain ⟨w3, hw3⟩ : ∃ w3, wr.alloc (.cells #[.string x.key, .string x.val] 64) = w3 := ⟨_, rfl⟩
        have hb3 : Below wr.heap.size wr w3 := by rw [← hw3]; exact (Below.refl _ _).alloc (Nat.le_refl _) _
        have HBX3 := Lib.hid (show LBox x w3 wr.heap.size by rw [← hw3]; exact heap_alloc_new wr _)
        have HW3 := Lib.hid (HW.out.trans (hb3.mono HW.out.size))
        rw [hw3]
        obtain ⟨bx, hbx⟩ : ∃ b, wr.heap.size = b := ⟨_, rfl⟩
        rw [hbx] at HBX3 ⊢
        clear hw3 hbx hb3 c0 c1 hp
        refine (member_any name k (by omega) (by omega) w3 (HL.out.below HW3.out).tab).mono ?_
        rintro e w4 ⟨rfl, hb4⟩
        have HBX4 := Lib.hid (HBX3.out.keep hb4)
        have HW4 := Lib.hid (HW3.out.trans (hb4.mono HW3.out.size))
        obtain ⟨u, hu⟩ : ∃ u, atB name k = u := ⟨_, rfl⟩
        rw [hu] at hasz ⊢
        have HU := Lib.hid hu
        have hadd1 : ∀ v, (Op.stringOp .add u ⟨#[46, 107, 101, 121]⟩).run Tryd.prog v = .ok (.string (u ++ ⟨#[46, 107, 101, 121]⟩)) v := fun v => run_string_add_sum v _ _ (by show _ + 4 ≤ _; omega)
        have hadd2 : ∀ v, (Op.stringOp .add u ⟨#[46, 118, 97, 108]⟩).run Tryd.prog v = .ok (.string (u ++ ⟨#[46, 118, 97, 108]⟩)) v := fun v => run_string_add_sum v _ _ (by show _ + 4 ≤ _; omega)
        have hkz : (u ++ ⟨#[46, 107, 101, 121]⟩ : ByteArray).size ≤ 100000 := by rw [ByteArray.size_append]; show _ + 4 ≤ _; omega
        have hvz : (u ++ ⟨#[46, 118, 97, 108]⟩ : ByteArray).size ≤ 100000 := by rw [ByteArray.size_append]; show _ + 4 ≤ _; omega
        obtain ⟨d0, d1, _, _⟩ := two_cells HBX4.out
        clear hb4 hu
        go_wp2_with fail
        refine (Text.key_any x.key (by omega) w4 (HL.out.below HW4.out).text).mono ?_
        rintro e w5 ⟨rfl, hb5⟩
        have HBX5 := Lib.hid (HBX4.out.keep hb5)
        have HW5 := Lib.hid (HW4.out.trans (hb5.mono HW4.out.size))
        clear hb5 d0 d1
        cases hkey : TextPure.keyL x.key.data.toList with
        | false =>
          have HC : Hid (Text.codeN false 31 = 31) := Lib.hid rfl
          rw [HC.out]
          have HD := Lib.hid (show labelsV name l = (31, u ++ t_key) by rw [HS.out, labelsFrom_cons, if_pos (show isKey x.key = false from hkey), HU.out])
          clear hkey
          go_wp2_with fail
          refine (new_says 31 (u ++ t_key) w5.heap.size 1 _ hkz (by simp [t_key])).mono ?_
          rintro e w6 hE
          have HF := Lib.hid (SAID.out 31 _ _ (by decide) HD.out (HW5.out.alloc HW5.out.size _) e w6 hE)
          obtain ⟨E, rfl, _⟩ := hE
          go_wp2_with fail
          go_ret
          exact HF.out
        | true =>
          have HC : Hid (Text.codeN true 31 = 0) := Lib.hid rfl
          rw [HC.out]
          have HKEY := Lib.hid hkey
          clear hkey
          obtain ⟨d0, d1, _, _⟩ := two_cells HBX5.out
          obtain ⟨o, ho⟩ : ∃ o, notMore (if k = 0 then none else l[k - 1]?) x = o := ⟨_, rfl⟩
          have HO := Lib.hid ho
          rcases k with _ | m
          · have ho' : o = false := by rw [← ho]; rfl
            subst ho'
            clear ho
            go_wp2_with fail
            go_quiet (fail)
            go_wp2_with fail
            refine (Text.val_any x.val (by unfold maxLen; omega) _ (HL.out.below (HW5.out.trans ((Kit.below_drewN _ _ _).mono HW5.out.size))).text).mono ?_
            rintro e w6 ⟨rfl, rfl⟩
            cases hval : TextPure.valL x.val.data.toList with
            | false =>
              have HC2 : Hid (Text.codeN false 32 = 32) := Lib.hid rfl
              rw [HC2.out]
              have HD := Lib.hid (show labelsV name l = (32, u ++ t_val) by rw [HS.out, labelsFrom_cons, if_neg (show ¬ isKey x.key = false by show ¬ TextPure.keyL _ = _; rw [HKEY.out]; simp), if_neg (show ¬ notMore _ x = true by rw [HO.out]; simp), if_pos (show isVal x.val = false from hval), HU.out])
              clear hval
              go_wp2_with fail
              refine (new_says 32 (u ++ t_val) _ 1 _ hvz (cell_new _ _ _)).mono ?_
              rintro e w7 hE
              have HF := Lib.hid (SAID.out 32 _ _ (by decide) HD.out (HW5.out.trans (((Kit.below_drewN _ _ _).alloc (Nat.le_refl _) _).mono HW5.out.size)) e w7 hE)
              obtain ⟨E, rfl, _⟩ := hE
              go_wp2_with fail
              go_ret
              exact HF.out
            | true =>
              have HC2 : Hid (Text.codeN true 32 = 0) := Lib.hid rfl
              rw [HC2.out]
              have HNX := Lib.hid (show SpecRef.LHere name l (0 + 1) by
                unfold SpecRef.LHere
                rw [HS.out, labelsFrom_cons, if_neg (show ¬ isKey x.key = false by show ¬ TextPure.keyL _ = _; rw [HKEY.out]; simp), if_neg (show ¬ notMore _ x = true by rw [HO.out]; simp), if_neg (show ¬ isVal x.val = false by show ¬ TextPure.valL _ = _; rw [hval]; simp), if_neg (by omega), show 0 + 1 - 1 = 0 by omega, List.getElem?_eq_getElem hlt, HX.out])
              clear hval
              go_wp2
              go_roundw
              case rel => exact ⟨0 + 1, by omega, by go_num, HNX.out, HW5.out.trans ((Kit.below_drewN _ _ _).mono HW5.out.size)⟩
              case measure => simp [RowKit.intOf]; omega
          · obtain ⟨p', hpp, hpb, hcp⟩ := (H.out.below HW5.out).at (k := m) (by omega)
            injection hpp with hpp
            subst hpp
            obtain ⟨y, hy⟩ : ∃ y, l[m] = y := ⟨_, rfl⟩
            have ho' : o = !(Op.bytesLess y.key.toList x.key.toList) := by
              rw [← ho, if_neg (by omega), show m + 1 - 1 = m by omega, List.getElem?_eq_getElem (by omega), hy]; rfl
            rw [hy] at hcp
            obtain ⟨g0, g1⟩ := hcp
            have hwr : IntKind.i64.wrap (m : Int) = (m : Int) := IntWalk.i64_in _ (by omega)
            have hm0 : (0 : Int) ≤ (m : Int) := by omega
            have hmn : (m : Int) < (l.length : Int) := by omega
            have hmn1 : (m : Int) + 1 < (l.length : Int) := by omega
            have hmn2 : m < l.length := by omega
            have hp0 : (0 : Int) ≤ (m : Int) + 1 := by omega
            have hp1 : ((m : Int) + 1).toNat = m + 1 := by omega
            clear ho hy g1
            cases o with
            | true =>
              have hbl : Op.bytesLess y.key.toList x.key.toList = false := by simpa using ho'.symm
              have hge : ∀ v, (binOp .leq 9 (.string x.key) (.string y.key)).run Tryd.prog v = .ok (.bool true) v := fun v => by
                have ht := less_total x.key.toList y.key.toList
                rw [hbl] at ht
                simp [binOp, Op.stringOp]; simpa using ht
              clear ho' hbl
              go_wp2_with fail
              go_quiet (fail)
              have HD := Lib.hid (show labelsV name l = (4, u ++ t_key) by rw [HS.out, labelsFrom_cons, if_neg (show ¬ isKey x.key = false by show ¬ TextPure.keyL _ = _; rw [HKEY.out]; simp), if_pos HO.out, HU.out])
              go_wp2_with fail
              refine (new_says 4 (u ++ t_key) _ 1 _ hkz (cell_new _ _ _)).mono ?_
              rintro e w7 hE
              have HF := Lib.hid (SAID.out 4 _ _ (by decide) HD.out (HW5.out.trans (((Kit.below_drewN _ _ _).alloc (Nat.le_refl _) _).mono HW5.out.size)) e w7 hE)
              obtain ⟨E, rfl, _⟩ := hE
              go_wp2_with fail
              go_ret
              exact HF.out
            | false =>
              have hbl : Op.bytesLess y.key.toList x.key.toList = true := by simpa using ho'.symm
              have hge : ∀ v, (binOp .leq 9 (.string x.key) (.string y.key)).run Tryd.prog v = .ok (.bool false) v := fun v => by
                have ht := less_total x.key.toList y.key.toList
                rw [hbl] at ht
                simp [binOp, Op.stringOp]; simpa using ht
              clear ho' hbl
              go_wp2_with fail
              go_quiet (fail)
              go_wp2_with fail
              refine (Text.val_any x.val (by unfold maxLen; omega) _ (HL.out.below (HW5.out.trans ((Kit.below_drewN _ _ _).mono HW5.out.size))).text).mono ?_
              rintro e w6 ⟨rfl, rfl⟩
              cases hval : TextPure.valL x.val.data.toList with
              | false =>
                have HC2 : Hid (Text.codeN false 32 = 32) := Lib.hid rfl
                rw [HC2.out]
                have HD := Lib.hid (show labelsV name l = (32, u ++ t_val) by rw [HS.out, labelsFrom_cons, if_neg (show ¬ isKey x.key = false by show ¬ TextPure.keyL _ = _; rw [HKEY.out]; simp), if_neg (show ¬ notMore _ x = true by rw [HO.out]; simp), if_pos (show isVal x.val = false from hval), HU.out])
                clear hval
                go_wp2_with fail
                refine (new_says 32 (u ++ t_val) _ 1 _ hvz (cell_new _ _ _)).mono ?_
                rintro e w7 hE
                have HF := Lib.hid (SAID.out 32 _ _ (by decide) HD.out (HW5.out.trans (((Kit.below_drewN _ _ _).alloc (Nat.le_refl _) _).mono HW5.out.size)) e w7 hE)
                obtain ⟨E, rfl, _⟩ := hE
                go_wp2_with fail
                go_ret
                exact HF.out
              | true =>
                have HC2 : Hid (Text.codeN true 32 = 0) := Lib.hid rfl
                rw [HC2.out]
                have HNX := Lib.hid (show SpecRef.LHere name l ((m + 1) + 1) by
                  unfold SpecRef.LHere
                  rw [HS.out, labelsFrom_cons, if_neg (show ¬ isKey x.key = false by show ¬ TextPure.keyL _ = _; rw [HKEY.out]; simp), if_neg (show ¬ notMore _ x = true by rw [HO.out]; simp), if_neg (show ¬ isVal x.val = false by show ¬ TextPure.valL _ = _; rw [hval]; simp), if_neg (by omega), show (m + 1) + 1 - 1 = (m + 1) by omega, List.getElem?_eq_getElem hlt, HX.out])
                clear hval
                go_wp2
                go_roundw
                case rel => exact ⟨(m + 1) + 1, by omega, by go_num, HNX.out, HW5.out.trans ((Kit.below_drewN _ _ _).mono HW5.out.size)⟩
                case measure => simp [RowKit.intOf]; omega
      · have HD := Lib.hid (show labelsV name l = fine by have := HK.out; unfold SpecRef.LHere at this; rw [this, List.drop_eq_nil_of_le (by omega)]; rfl)
        go_wp2
        go_ret
        rw [HD.out]
        exact told_fine _ _ HW.out
theorem labels_any (name : ByteArray) (A : Option Addr) (cap : Nat) (l : List Lbl) (hn : name.size ≤ 1000) (hl : l.length ≤ 9223372036854775807) (hlight : ∀ x ∈ l, x.key.size ≤ 100 ∧ x.val.size ≤ 100) (w : World) (hL : SLaid w) (h : Lbls w A l) :
    Calls Tryd.prog 46 #[.string name, .slice A l.length cap] w (Tells (labelsV name l) w) :=
  labels_gen name A cap l hn hl (fun x hx => by have := hlight x hx; omega) w hL h
end SpecOwn
end Go.Proofs.YtpllcnpmjnmcfaaDoor

/-
  The contracts of the document's numbers and ports (provostref06.numbers, Has). No condition.
-/
namespace Go.Proofs.YtpllcnpmjnmcfaaDoor
open Go.ChangeShapes Go.WideShapes Go.ChangeAt Go.RowKit Go.Lib
open Sd Lists
namespace SpecRef

theorem numV_yes {free : Bool} {x y : Int} (h0 : free = false ∨ x ≠ 0) (h1 : x < y ∨ 1099511627776 < x) : numV free x y = true := by
  have a1 : (decide (x < y) || decide (big < x)) = true := by
    rcases h1 with h1 | h1
    · rw [decide_eq_true h1]; rfl
    · rw [decide_eq_true (show big < x from h1)]; exact Bool.or_true _
  have a0 : (!free || x != 0) = true := by
    rcases h0 with rfl | h0
    · rfl
    · rw [show (x != 0) = true by simpa using h0]; exact Bool.or_true _
  unfold numV
  rw [a0, a1]; rfl
theorem numV_not {free : Bool} {x y : Int} (h : (free = true ∧ x = 0) ∨ (¬ x < y ∧ ¬ 1099511627776 < x)) : numV free x y = false := by
  unfold numV
  rcases h with ⟨rfl, rfl⟩ | ⟨h1, h2⟩
  · rfl
  · rw [decide_eq_false h1, decide_eq_false (show ¬ big < x from h2)]; exact Bool.and_false _
/-- the three, by number -/
def nth3 (a b c : Int) (k : Nat) : Int := if k = 0 then a else if k = 1 then b else c
theorem numsV_none {free : Bool} {a b c l m n : Int} (h : ∀ j, j < 3 → numV free (nth3 a b c j) (nth3 l m n j) = false) : numsV free a b c l m n = -1 := by
  have h0 := h 0 (by omega)
  have h1 := h 1 (by omega)
  have h2 := h 2 (by omega)
  simp only [nth3] at h0 h1 h2
  simp at h1 h2 h0
  unfold numsV
  simp [h0, h1, h2]
theorem numsV_some {free : Bool} {a b c l m n : Int} {k : Nat} (hk : k < 3) (h : ∀ j, j < k → numV free (nth3 a b c j) (nth3 l m n j) = false) (h1 : numV free (nth3 a b c k) (nth3 l m n k) = true) : numsV free a b c l m n = k := by
  unfold numsV
  obtain rfl | rfl | rfl : k = 0 ∨ k = 1 ∨ k = 2 := by omega
  · have h1' : numV free a l = true := h1
    simp [h1']
  · have h0' : numV free a l = false := h 0 (by omega)
    have h1' : numV free b m = true := h1
    simp [h0', h1']
  · have h0' : numV free a l = false := h 0 (by omega)
    have h2' : numV free b m = false := h 1 (by omega)
    have h1' : numV free c n = true := h1
    simp [h0', h1', h2']
theorem box_three (w : World) (a b c : Int) (t : TypeId) (k : Nat) (hk : k < 3) : (w.alloc (.cells #[.int .i64 a, .int .i64 b, .int .i64 c] t)).cell? ⟨w.heap.size, k, none⟩ = some (.int .i64 (nth3 a b c k)) := by
  have h := heap_alloc_new w (.cells #[.int .i64 a, .int .i64 b, .int .i64 c] t)
  obtain rfl | rfl | rfl : k = 0 ∨ k = 1 ∨ k = 2 := by omega
  · simp only [World.cell?]; rw [h]; rfl
  · simp only [World.cell?]; rw [h]; rfl
  · simp only [World.cell?]; rw [h]; rfl
theorem ret_i {a b : Int} (h : a = b) : Ending.returned (.int .i64 a) = .returned (.int .i64 b) := by rw [h]
end SpecRef
end Go.Proofs.YtpllcnpmjnmcfaaDoor

/-
  The contract of the document's Has (provostref06.Has): has one of some containers a port? No condition.
-/
namespace Go.Proofs.YtpllcnpmjnmcfaaDoor
open Go.ChangeShapes Go.WideShapes Go.ChangeAt Go.RowKit Go.Lib
open Sd Lists
namespace SpecRef

theorem ret_b {a b : Bool} (h : a = b) : Ending.returned (.bool a) = .returned (.bool b) := by rw [h]
theorem hasV_no {l : List Ctr} {p : Int} (h : ∀ x ∈ l, ∀ q ∈ x.ports, q ≠ p) : hasV l p = false := by
  cases e : hasV l p
  · rfl
  · obtain ⟨x, hx, hq⟩ := List.any_eq_true.1 e
    exact absurd rfl (h x hx p (by simpa using hq))
theorem hasV_yes {l : List Ctr} {p : Int} {x : Ctr} (hx : x ∈ l) (hq : p ∈ x.ports) : hasV l p = true := List.any_eq_true.2 ⟨x, hx, by simpa using hq⟩
end SpecRef
end Go.Proofs.YtpllcnpmjnmcfaaDoor

/-
  The contract of the document's word on a container (provostref06.one). Condition: what is looked at is not too long.
-/
namespace Go.Proofs.YtpllcnpmjnmcfaaDoor
open Go.ChangeShapes Go.WideShapes Go.ChangeAt Go.RowKit Go.Lib
open Sd Lists Go.Sort Loose
namespace SpecRef

/-- a container in a box of its own -/
def Box (x : Ctr) (P : Option Addr) (c : Nat) (w : World) (b : Nat) : Prop :=
  w.heap[b]? = some (.cells #[.string x.name, .string x.image, .int .i64 x.rc, .int .i64 x.rm, .int .i64 x.rp, .int .i64 x.lc, .int .i64 x.lm, .int .i64 x.lp, .slice P x.ports.length c, .int .i64 x.ev, .int .i64 x.fl] 50 (0, 0))
structure BoxCells (x : Ctr) (P : Option Addr) (c : Nat) (w : World) (b : Nat) : Prop where
  c0 : w.cell? ⟨b, 0, none⟩ = some (.string x.name)
  c1 : w.cell? ⟨b, 1, none⟩ = some (.string x.image)
  c2 : w.cell? ⟨b, 2, none⟩ = some (.int .i64 x.rc)
  c3 : w.cell? ⟨b, 3, none⟩ = some (.int .i64 x.rm)
  c4 : w.cell? ⟨b, 4, none⟩ = some (.int .i64 x.rp)
  c5 : w.cell? ⟨b, 5, none⟩ = some (.int .i64 x.lc)
  c6 : w.cell? ⟨b, 6, none⟩ = some (.int .i64 x.lm)
  c7 : w.cell? ⟨b, 7, none⟩ = some (.int .i64 x.lp)
  c8 : w.cell? ⟨b, 8, none⟩ = some (.slice P x.ports.length c)
  c9 : w.cell? ⟨b, 9, none⟩ = some (.int .i64 x.ev)
  c10 : w.cell? ⟨b, 10, none⟩ = some (.int .i64 x.fl)
theorem Box.cells {x : Ctr} {P : Option Addr} {c : Nat} {w : World} {b : Nat} (h : Box x P c w b) : BoxCells x P c w b := by
  unfold Box at h
  constructor <;> simp [World.cell?, h]
theorem Box.lt {x : Ctr} {P : Option Addr} {c : Nat} {w : World} {b : Nat} (h : Box x P c w b) : b < w.heap.size := by
  rcases Nat.lt_or_ge b w.heap.size with hl | hl
  · exact hl
  · unfold Box at h; rw [Array.getElem?_eq_none hl] at h; cases h
theorem Box.below {x : Ctr} {P : Option Addr} {c : Nat} {w w' : World} {b : Nat} (h : Box x P c w b) (hb : Below w.heap.size w w') : Box x P c w' b := (hb.block b h.lt).trans h
/-- what the walk stands on: the container's box, those ahead, its ports -/
structure On (x : Ctr) (P : Option Addr) (c : Nat) (A : Option Addr) (l : List Ctr) (w0 : World) (b : Nat) (w : World) : Prop where
  box : Box x P c w b
  ahead : Ctrs w A l
  ports : Nums .i64 w P x.ports
  below : Below w0.heap.size w0 w
theorem On.next {x : Ctr} {P : Option Addr} {c : Nat} {A : Option Addr} {l : List Ctr} {w0 : World} {b : Nat} {w w' : World} (h : On x P c A l w0 b w) (hb : Below w.heap.size w w') : On x P c A l w0 b w' :=
  ⟨h.box.below hb, h.ahead.below hb, Nums.below h.ports hb, h.below.trans (hb.mono h.below.size)⟩
/-- the three names, in a row of their own -/
def Names (w : World) (N : Nat) : Prop := w.heap[N]? = some (.cells #[.string t_cpu, .string t_mem, .string t_pids] 9 (0, 0))
theorem Names.below {w w' : World} {N : Nat} (h : Names w N) (hb : Below w.heap.size w w') : Names w' N := by
  have hl : N < w.heap.size := by
    rcases Nat.lt_or_ge N w.heap.size with hl | hl
    · exact hl
    · unfold Names at h; rw [Array.getElem?_eq_none hl] at h; cases h
  exact (hb.block N hl).trans h
theorem Names.cell {w : World} {N : Nat} (h : Names w N) (k : Nat) (hk : k < 3) : w.cell? ⟨N, k, none⟩ = some (.string (t_res k)) := by
  unfold Names at h
  obtain rfl | rfl | rfl : k = 0 ∨ k = 1 ∨ k = 2 := by omega
  · simp only [World.cell?]; rw [h]; rfl
  · simp only [World.cell?]; rw [h]; rfl
  · simp only [World.cell?]; rw [h]; rfl
theorem res_size (k : Nat) : (t_res k).size ≤ 4 := by
  unfold t_res
  split
  · decide
  · split <;> decide
theorem numsV_range (free : Bool) (a b c l m n : Int) : numsV free a b c l m n = -1 ∨ ∃ k : Nat, k < 3 ∧ numsV free a b c l m n = k := by
  unfold numsV
  split
  · exact .inr ⟨0, by omega, rfl⟩
  · split
    · exact .inr ⟨1, by omega, rfl⟩
    · split
      · exact .inr ⟨2, by omega, rfl⟩
      · exact .inl rfl
theorem oneV_ports {x : Ctr} {l : List Ctr} {init : Bool} (h1 : isName x.name = true) (h2 : (l.any fun y => y.name.toList == x.name.toList) = false) (h3 : isImage x.image = true) (h4 : numsV false x.rc x.rm x.rp 0 0 0 = -1) (h5 : numsV true x.lc x.lm x.lp x.rc x.rm x.rp = -1)
    (h6 : ¬(3 < x.ports.length ∨ (init = true ∧ 0 < x.ports.length))) : oneV x l init = if (portsFrom l 0 [] x.ports).1 ≠ 0 then portsFrom l 0 [] x.ports else probeV x.ev x.fl init := by
  unfold oneV
  rw [if_neg (by rw [h1]; simp), if_neg (by rw [h2]; simp), if_neg (by rw [h3]; simp), if_neg (by rw [h4]; omega), if_neg (by rw [h5]; omega), if_neg h6]
theorem any_name {l : List Ctr} {s : ByteArray} {k : Nat} (hk : k < l.length) (h : (l[k].name.toList == s.toList) = true) : (l.any fun c => c.name.toList == s.toList) = true := List.any_eq_true.2 ⟨_, List.getElem_mem hk, h⟩
theorem none_name {l : List Ctr} {s : ByteArray} (h : ∀ c ∈ l, (c.name.toList == s.toList) = false) : (l.any fun c => c.name.toList == s.toList) = false := by
  cases e : l.any fun c => c.name.toList == s.toList
  · rfl
  · obtain ⟨c, hc, hq⟩ := List.any_eq_true.1 e
    rw [h c hc] at hq; cases hq
/-- a container that has ports alone -/
def justPorts (P : Option Addr) (k c : Nat) : Array Value := #[.string ⟨#[]⟩, .string ⟨#[]⟩, .int .i64 0, .int .i64 0, .int .i64 0, .int .i64 0, .int .i64 0, .int .i64 0, .slice P k c, .int .i64 0, .int .i64 0]
theorem build_ports (P : Option Addr) (k c : Nat) (w : World) : (Instr.build 50 #[(4, .slice P k c)]).run Tryd.prog w = .ok (.agg (justPorts P k c)) w := run_build w _ _ _ (by kernel_rfl)
/-- a row of one such container -/
def Row1 (P : Option Addr) (k c : Nat) (v : Value) (w : World) : Prop := ∃ g, v = .slice (some ⟨g, 0, none⟩) 1 1 ∧ w.heap[g]? = some (.cells (justPorts P k c) 50 (0, 0))
theorem ctrs_one {P : Option Addr} {k c g : Nat} {w : World} {zs : List Int} (h : w.heap[g]? = some (.cells (justPorts P k c) 50 (0, 0))) (hz : Nums .i64 w P zs) (hk : zs.length = k) (hc : k ≤ c) (hl : k ≤ 1000) :
    Ctrs w (some ⟨g, 0, none⟩) [⟨⟨#[]⟩, ⟨#[]⟩, 0, 0, 0, 0, 0, 0, zs, 0, 0⟩] := by
  intro i x hx
  have hg : g < w.heap.size := by
    rcases Nat.lt_or_ge g w.heap.size with hl | hl
    · exact hl
    · rw [Array.getElem?_eq_none hl] at h; cases h
  rcases i with _ | i
  · simp only [List.getElem?_cons_zero, Option.some.injEq] at hx
    subst hx
    subst hk
    refine ⟨by constructor <;> first | exact (show I64 0 from ⟨by decide, by decide⟩) | (show zs.length ≤ 9223372036854775807; omega), _, P, c, rfl, hg, ?_, hz⟩
    unfold Ctr.cellsAt
    unfold justPorts at h
    simp [World.cell?, h, Addr.add, hc]
  · simp at hx
theorem has_one (l : List Int) (q : Int) : hasV [⟨⟨#[]⟩, ⟨#[]⟩, 0, 0, 0, 0, 0, 0, l, 0, 0⟩] q = l.contains q := by simp [hasV]
/-- what each operation leaves -/
def F25 (A : Option Addr) (n cap : Nat) (b : Nat) (p : Addr) (m c k : Nat) (q : Int) (o : Bool) : Nat → Value → World → Prop
  | 0 => fun v _ => v = .slice A n cap
  | 1 => fun v _ => v = .pointer (some ⟨b, 8, none⟩)
  | 2 => fun v _ => v = .slice (some p) m c
  | 3 => fun v _ => v = .int .i64 (k : Nat)
  | 4 => fun v _ => v = .pointer (some (p.add k))
  | 5 => fun v _ => v = .int .i64 q
  | 6 => fun v _ => v = .bool false
  | 7 => fun v _ => v = .bool false
  | 8 => fun v _ => v = .pointer (some ⟨b, 8, none⟩)
  | 9 => fun v _ => v = .slice (some p) m c
  | 10 => fun v _ => v = .int .i64 (k : Nat)
  | 11 => fun v _ => v = .slice (some p) k c
  | 12 => fun v _ => v = .agg (justPorts (some p) k c)
  | 13 => Row1 (some p) k c
  | 14 => fun v _ => v = .pointer (some ⟨b, 8, none⟩)
  | 15 => fun v _ => v = .slice (some p) m c
  | 16 => fun v _ => v = .int .i64 (k : Nat)
  | 17 => fun v _ => v = .pointer (some (p.add k))
  | 18 => fun v _ => v = .int .i64 q
  | 19 => fun v _ => v = .bool o
  | _ => fun v _ => v = .bool o
theorem F25_keep (A : Option Addr) (n cap : Nat) (b : Nat) (p : Addr) (m c k : Nat) (q : Int) (o : Bool) (i : Nat) (v : Value) (w w' : World) (h : F25 A n cap b p m c k q o i v w) (hb : Below w.heap.size w w') : F25 A n cap b p m c k q o i v w' := by
  unfold F25 at h ⊢
  split at h <;> first
    | exact h
    | (obtain ⟨g, e, hg⟩ := h
       have hl : g < w.heap.size := by
         rcases Nat.lt_or_ge g w.heap.size with hl | hl
         · exact hl
         · rw [Array.getElem?_eq_none hl] at hg; cases hg
       exact ⟨g, e, (hb.block g hl).trans hg⟩)
/-- a slot written in a frame that stands written out -/
theorem put_lit (l : List Value) (ds : List Deferred) (d : Nat) (v : Value) : (Act.mk l.toArray ds).put (some d) v = Act.mk (l.set d v).toArray ds := by
  simp [Act.put]
/-- the ports: from k on -/
def PHere (l : List Ctr) (ports : List Int) (k : Nat) : Prop := portsFrom l 0 [] ports = portsFrom l k (ports.take k) (ports.drop k)
theorem phere_zero (l : List Ctr) (ports : List Int) : PHere l ports 0 := rfl
theorem phere_end {l : List Ctr} {ports : List Int} {k : Nat} (h : PHere l ports k) (hk : ports.length ≤ k) : portsFrom l 0 [] ports = fine := by
  unfold PHere at h
  rw [h, List.drop_eq_nil_of_le hk]; rfl
theorem phere_at {l : List Ctr} {ports : List Int} {k : Nat} (h : PHere l ports k) (hk : k < ports.length) : portsFrom l 0 [] ports =
    if ports[k] < 1 ∨ 65535 < ports[k] then (1, atB t_ports k) else if hasV l ports[k] || (ports.take k).contains ports[k] then (150, atB t_ports k) else portsFrom l (k + 1) (ports.take k ++ [ports[k]]) (ports.drop (k + 1)) := by
  unfold PHere at h
  rw [h, List.drop_eq_getElem_cons hk]; rfl
theorem phere_next {l : List Ctr} {ports : List Int} {k : Nat} (h : PHere l ports k) (hk : k < ports.length) (h1 : ¬(ports[k] < 1 ∨ 65535 < ports[k])) (h2 : (hasV l ports[k] || (ports.take k).contains ports[k]) = false) : PHere l ports (k + 1) := by
  have := phere_at h hk
  rw [if_neg h1, if_neg (by rw [h2]; simp)] at this
  unfold PHere
  rw [this, List.take_succ_eq_append_getElem hk]
end SpecRef
end Go.Proofs.YtpllcnpmjnmcfaaDoor

/-
  The contract of the laws' own helper LightSpec: is a spec not too long? No condition.
-/
namespace Go.Proofs.YtpllcnpmjnmcfaaDoor
open Go.ChangeShapes Go.WideShapes Go.ChangeAt Go.RowKit Go.Lib
open Sd Lists
namespace Book

def lightC (x : Ctr) : Prop := x.name.size ≤ 100 ∧ x.image.size ≤ 100 ∧ x.ports.length ≤ 10
def lightL (x : Lbl) : Prop := x.key.size ≤ 100 ∧ x.val.size ≤ 100
/-- a list of containers that is not too long -/
def lightCs (l : List Ctr) : Prop := ∀ x ∈ l, lightC x
def lightLs (l : List Lbl) : Prop := ∀ x ∈ l, lightL x
/-- a spec that is not too long -/
def Light (S : Spc) : Prop := (S.name.size ≤ 100 ∧ S.labels.length ≤ 10 ∧ S.init.length ≤ 8 ∧ S.main.length ≤ 8) ∧ lightLs S.labels ∧ lightCs S.init ∧ lightCs S.main

def lightCsB (l : List Ctr) : Bool := l.all fun x => decide (x.name.size ≤ 100) && decide (x.image.size ≤ 100) && decide (x.ports.length ≤ 10)
def lightLsB (l : List Lbl) : Bool := l.all fun x => decide (x.key.size ≤ 100) && decide (x.val.size ≤ 100)
def LightB (S : Spc) : Bool := decide (S.name.size ≤ 100) && decide (S.labels.length ≤ 10) && decide (S.init.length ≤ 8) && decide (S.main.length ≤ 8) && lightLsB S.labels && lightCsB S.init && lightCsB S.main

theorem lightCsB_iff {l : List Ctr} : lightCsB l = true ↔ lightCs l := by simp [lightCsB, lightCs, lightC, and_assoc]
theorem lightLsB_iff {l : List Lbl} : lightLsB l = true ↔ lightLs l := by simp [lightLsB, lightLs, lightL]
theorem LightB_iff {S : Spc} : LightB S = true ↔ Light S := by simp [LightB, Light, lightCsB_iff, lightLsB_iff, and_assoc]
theorem lightCsB_of {l : List Ctr} (h : lightCs l) : lightCsB l = true := lightCsB_iff.2 h
theorem lightCsB_not {l : List Ctr} (h : ¬ lightCs l) : lightCsB l = false := by
  cases e : lightCsB l
  · rfl
  · exact absurd (lightCsB_iff.1 e) h
theorem LightB_not {S : Spc} (h : ¬ Light S) : LightB S = false := by
  cases e : LightB S
  · rfl
  · exact absurd (LightB_iff.1 e) h
theorem ret_bool {a b : Bool} (h : a = b) : Ending.returned (.bool a) = .returned (.bool b) := by rw [h]

set_option maxRecDepth 100000 in
theorem lightCs_any (A : Option Addr) (cap : Nat) (l : List Ctr) (hl : l.length ≤ 9223372036854775807) (w : World) (h : Ctrs w A l) :
    Calls Tryd.prog 41 #[.slice A l.length cap] w fun e w' => e = .returned (.bool (lightCsB l)) ∧ w = w' := by
  have H := Lib.hid h
  clear h
  have hl' : (l.length : Int) ≤ 9223372036854775807 := by omega
  clear hl
  go_enter Tryd.func41, Tryd.ntmps41
  go_wp2_with fail
  go_loop [3] (fun i => ∃ k : Nat, k ≤ l.length ∧ i = .int .i64 k ∧ Hid (∀ x ∈ l.take k, lightC x)) (fun i => l.length - (RowKit.intOf i).toNat)
  case atStart => exact ⟨0, Nat.zero_le _, rfl, fun x hx => by simp at hx⟩
  case round =>
    obtain ⟨k, hk, rfl, HA⟩ := hrel
    by_cases hlt : k < l.length
    · obtain ⟨hF, a, P, c, rfl, ha, hc, hN⟩ := H.out.at hlt
      have hp := hF.ports
      obtain ⟨x, hx⟩ : ∃ x, l[k] = x := ⟨_, rfl⟩
      rw [hx] at hc hp
      obtain ⟨h0, h1, _, _, _, _, _, _, h8, _, _⟩ := hc
      have HX := Lib.hid hx
      clear hx hF ha hN
      by_cases hy : lightC x
      · obtain ⟨y0, y1, y2⟩ := hy
        have HY := Lib.hid (show lightC x from ⟨y0, y1, y2⟩)
        go_wp2
        go_round
        case rel =>
          refine ⟨k + 1, by omega, by go_num, ?_⟩
          intro z hz
          rw [List.take_succ_eq_append_getElem hlt, HX.out] at hz
          rcases List.mem_append.1 hz with hz | hz
          · exact HA.out z hz
          · rw [List.mem_singleton.1 hz]; exact HY.out
        case measure => simp [RowKit.intOf]; omega
      · have HN := Lib.hid (show lightCsB l = false from lightCsB_not (fun hh => hy (hh x (HX.out ▸ List.getElem_mem hlt))))
        have hy' : 100 < x.name.size ∨ 100 < x.image.size ∨ 10 < x.ports.length := by
          unfold lightC at hy
          omega
        clear hy
        by_cases y0 : 100 < x.name.size
        · clear hy'
          go_wp2
          go_ret
          exact ⟨ret_bool HN.out.symm, rfl⟩
        · by_cases y1 : 100 < x.image.size
          · clear hy'
            go_wp2
            go_ret
            exact ⟨ret_bool HN.out.symm, rfl⟩
          · have y2 : 10 < x.ports.length := by omega
            clear hy'
            go_wp2
            go_ret
            exact ⟨ret_bool HN.out.symm, rfl⟩
    · have HN := Lib.hid (show lightCsB l = true from lightCsB_of (fun x hx => HA.out x (by rw [List.take_of_length_le (by omega)]; exact hx)))
      go_wp2
      go_ret
      exact ⟨ret_bool HN.out.symm, rfl⟩

set_option maxRecDepth 100000 in
set_option maxHeartbeats 1000000 in
/-- LIGHTSPEC -/
theorem light_any (S : Spc) (LA : Option Addr) (lc : Nat) (IA : Option Addr) (ic : Nat) (MA : Option Addr) (mc : Nat) (w : World) (h : S.In w LA lc IA ic MA mc) :
    Calls Tryd.prog 24 #[.agg #[.string S.name, .slice LA S.labels.length lc, .slice IA S.init.length ic, .slice MA S.main.length mc, .int .i64 S.restart, .int .i64 S.grace, .int .i64 S.prio]] w fun e w' => e = .returned (.bool (LightB S)) ∧ Below w.heap.size w w' := by
  have H := Lib.hid h
  have hl' : (S.labels.length : Int) ≤ 9223372036854775807 := by have := h.nl; omega
  have hi' : (S.init.length : Int) ≤ 9223372036854775807 := by have := h.ni; omega
  have hm' : (S.main.length : Int) ≤ 9223372036854775807 := by have := h.nm; omega
  clear h
  have HB := fun o => Lib.hid (show Below w.heap.size w (w.alloc o) from (Below.refl _ _).alloc (Nat.le_refl _) _)
  by_cases hc : S.name.size ≤ 100 ∧ S.labels.length ≤ 10 ∧ S.init.length ≤ 8 ∧ S.main.length ≤ 8
  · obtain ⟨y0, y1, y2, y3⟩ := hc
    have HC := Lib.hid (show S.name.size ≤ 100 ∧ S.labels.length ≤ 10 ∧ S.init.length ≤ 8 ∧ S.main.length ≤ 8 from ⟨y0, y1, y2, y3⟩)
    go_enter Tryd.func24, Tryd.ntmps24
    go_wp2_with fail
    have HI := Lib.hid (H.out.below (HB (.cells #[.string S.name, .slice LA S.labels.length lc, .slice IA S.init.length ic, .slice MA S.main.length mc, .int .i64 S.restart, .int .i64 S.grace, .int .i64 S.prio] 40)).out)
    go_loop [4] (fun i => ∃ k : Nat, k ≤ S.labels.length ∧ i = .int .i64 k ∧ Hid (∀ x ∈ S.labels.take k, lightL x)) (fun i => S.labels.length - (RowKit.intOf i).toNat)
    case atStart => exact ⟨0, Nat.zero_le _, rfl, fun x hx => by simp at hx⟩
    case round =>
      obtain ⟨k, hk, rfl, HA⟩ := hrel
      by_cases hlt : k < S.labels.length
      · obtain ⟨a, rfl, ha, hc⟩ := HI.out.labels.at hlt
        obtain ⟨x, hx⟩ : ∃ x, S.labels[k] = x := ⟨_, rfl⟩
        rw [hx] at hc
        obtain ⟨h0, h1⟩ := hc
        have HX := Lib.hid hx
        clear hx ha
        by_cases hy : lightL x
        · obtain ⟨y0, y1⟩ := hy
          have HY := Lib.hid (show lightL x from ⟨y0, y1⟩)
          go_wp2
          go_round
          case rel =>
            refine ⟨k + 1, by omega, by go_num, ?_⟩
            intro z hz
            rw [List.take_succ_eq_append_getElem hlt, HX.out] at hz
            rcases List.mem_append.1 hz with hz | hz
            · exact HA.out z hz
            · rw [List.mem_singleton.1 hz]; exact HY.out
          case measure => simp [RowKit.intOf]; omega
        · have HN := Lib.hid (show LightB S = false from LightB_not (fun hh => hy (hh.2.1 x (HX.out ▸ List.getElem_mem hlt))))
          have hy' : 100 < x.key.size ∨ 100 < x.val.size := by
            unfold lightL at hy
            omega
          clear hy
          by_cases y0 : 100 < x.key.size
          · clear hy'
            go_wp2
            go_ret
            exact ⟨ret_bool HN.out.symm, (HB _).out⟩
          · have y1 : 100 < x.val.size := by omega
            clear hy'
            go_wp2
            go_ret
            exact ⟨ret_bool HN.out.symm, (HB _).out⟩
      · have HLS := Lib.hid (show lightLs S.labels from fun x hx => HA.out x (by rw [List.take_of_length_le (by omega)]; exact hx))
        go_wp2_with fail
        refine (lightCs_any IA ic S.init HI.out.ni _ HI.out.init).mono ?_
        rintro e w' ⟨rfl, rfl⟩
        cases hci : lightCsB S.init with
        | false =>
          have HN := Lib.hid (show LightB S = false from LightB_not (fun hh => by rw [lightCsB_of hh.2.2.1] at hci; cases hci))
          clear hci
          go_wp2
          go_ret
          exact ⟨ret_bool HN.out.symm, (HB _).out⟩
        | true =>
          have HCI := Lib.hid (lightCsB_iff.1 hci)
          clear hci
          go_wp2_with fail
          refine (lightCs_any MA mc S.main HI.out.nm _ HI.out.main).mono ?_
          rintro e w' ⟨rfl, rfl⟩
          cases hcm : lightCsB S.main with
          | false =>
            have HN := Lib.hid (show LightB S = false from LightB_not (fun hh => by rw [lightCsB_of hh.2.2.2] at hcm; cases hcm))
            clear hcm
            go_wp2
            go_ret
            exact ⟨ret_bool HN.out.symm, (HB _).out⟩
          | true =>
            have HN := Lib.hid (show LightB S = true from LightB_iff.2 ⟨HC.out, HLS.out, HCI.out, lightCsB_iff.1 hcm⟩)
            clear hcm
            go_wp2
            go_ret
            exact ⟨ret_bool HN.out.symm, (HB _).out⟩
  · have HN := Lib.hid (show LightB S = false from LightB_not (fun hh => hc hh.1))
    have hc' : 100 < S.name.size ∨ 10 < S.labels.length ∨ 8 < S.init.length ∨ 8 < S.main.length := by omega
    clear hc
    by_cases y0 : 100 < S.name.size
    · clear hc'
      go_enter Tryd.func24, Tryd.ntmps24
      go_wp2
      go_ret
      exact ⟨ret_bool HN.out.symm, (HB _).out⟩
    · by_cases y1 : 10 < S.labels.length
      · clear hc'
        go_enter Tryd.func24, Tryd.ntmps24
        go_wp2
        go_ret
        exact ⟨ret_bool HN.out.symm, (HB _).out⟩
      · by_cases y2 : 8 < S.init.length
        · clear hc'
          go_enter Tryd.func24, Tryd.ntmps24
          go_wp2
          go_ret
          exact ⟨ret_bool HN.out.symm, (HB _).out⟩
        · have y3 : 8 < S.main.length := by omega
          clear hc'
          go_enter Tryd.func24, Tryd.ntmps24
          go_wp2
          go_ret
          exact ⟨ret_bool HN.out.symm, (HB _).out⟩
end Book
end Go.Proofs.YtpllcnpmjnmcfaaDoor

/-
  The contract of the document's word on a spec (provostref06.Check). Condition: the spec is light (Book.Light).
-/
namespace Go.Proofs.YtpllcnpmjnmcfaaDoor
open Go.ChangeShapes Go.WideShapes Go.ChangeAt Go.RowKit Go.Lib
open Sd Lists Go.Sort
namespace SpecRef

/-- a spec in a box of its own -/
def SBox (S : Spc) (LA : Option Addr) (lc : Nat) (IA : Option Addr) (ic : Nat) (MA : Option Addr) (mc : Nat) (w : World) (b : Nat) : Prop :=
  w.heap[b]? = some (.cells #[.string S.name, .slice LA S.labels.length lc, .slice IA S.init.length ic, .slice MA S.main.length mc, .int .i64 S.restart, .int .i64 S.grace, .int .i64 S.prio] 40 (0, 0))
structure SCells (S : Spc) (LA : Option Addr) (lc : Nat) (IA : Option Addr) (ic : Nat) (MA : Option Addr) (mc : Nat) (w : World) (b : Nat) : Prop where
  c0 : w.cell? ⟨b, 0, none⟩ = some (.string S.name)
  c1 : w.cell? ⟨b, 1, none⟩ = some (.slice LA S.labels.length lc)
  c2 : w.cell? ⟨b, 2, none⟩ = some (.slice IA S.init.length ic)
  c3 : w.cell? ⟨b, 3, none⟩ = some (.slice MA S.main.length mc)
  c4 : w.cell? ⟨b, 4, none⟩ = some (.int .i64 S.restart)
  c5 : w.cell? ⟨b, 5, none⟩ = some (.int .i64 S.grace)
  c6 : w.cell? ⟨b, 6, none⟩ = some (.int .i64 S.prio)
theorem SBox.cells {S : Spc} {LA : Option Addr} {lc : Nat} {IA : Option Addr} {ic : Nat} {MA : Option Addr} {mc : Nat} {w : World} {b : Nat} (h : SBox S LA lc IA ic MA mc w b) : SCells S LA lc IA ic MA mc w b := by
  unfold SBox at h
  constructor <;> simp [World.cell?, h]
theorem SBox.lt {S : Spc} {LA : Option Addr} {lc : Nat} {IA : Option Addr} {ic : Nat} {MA : Option Addr} {mc : Nat} {w : World} {b : Nat} (h : SBox S LA lc IA ic MA mc w b) : b < w.heap.size := by
  rcases Nat.lt_or_ge b w.heap.size with hl | hl
  · exact hl
  · unfold SBox at h; rw [Array.getElem?_eq_none hl] at h; cases h
theorem SBox.below {S : Spc} {LA : Option Addr} {lc : Nat} {IA : Option Addr} {ic : Nat} {MA : Option Addr} {mc : Nat} {w w' : World} {b : Nat} (h : SBox S LA lc IA ic MA mc w b) (hb : Below w.heap.size w w') : SBox S LA lc IA ic MA mc w' b := (hb.block b h.lt).trans h
theorem info_ctr : (Tryd.prog.info? 50).map (fun i => (i.zero, i.size, i.bytes)) = some (some (.agg #[.string ⟨#[]⟩, .string ⟨#[]⟩, .int .i64 0, .int .i64 0, .int .i64 0, .int .i64 0, .int .i64 0, .int .i64 0, .slice none 0 0, .int .i64 0, .int .i64 0]), 11, 120) := by kernel_rfl
/-- the containers from k on, those ahead being known -/
def CHere (name : ByteArray) (init : Bool) (pre l : List Ctr) (k : Nat) : Prop := ctrsFrom name init 0 pre l = ctrsFrom name init k (pre ++ l.take k) (l.drop k)
theorem chere_zero (name : ByteArray) (init : Bool) (pre l : List Ctr) : CHere name init pre l 0 := by unfold CHere; simp
theorem chere_end {name : ByteArray} {init : Bool} {pre l : List Ctr} {k : Nat} (h : CHere name init pre l k) (hk : l.length ≤ k) : ctrsFrom name init 0 pre l = fine := by
  unfold CHere at h
  rw [h, List.drop_eq_nil_of_le hk]; rfl
theorem chere_at {name : ByteArray} {init : Bool} {pre l : List Ctr} {k : Nat} (h : CHere name init pre l k) (hk : k < l.length) : ctrsFrom name init 0 pre l =
    if (oneV l[k] (pre ++ l.take k) init).1 ≠ 0 then ((oneV l[k] (pre ++ l.take k) init).1, atB name k ++ ⟨#[46]⟩ ++ (oneV l[k] (pre ++ l.take k) init).2) else ctrsFrom name init (k + 1) (pre ++ l.take k ++ [l[k]]) (l.drop (k + 1)) := by
  unfold CHere at h
  rw [h, List.drop_eq_getElem_cons hk]; rfl
theorem chere_next {name : ByteArray} {init : Bool} {pre l : List Ctr} {k : Nat} (h : CHere name init pre l k) (hk : k < l.length) (h1 : (oneV l[k] (pre ++ l.take k) init).1 = 0) : CHere name init pre l (k + 1) := by
  have := chere_at h hk
  rw [if_neg (by rw [h1]; simp)] at this
  unfold CHere
  rw [this, List.take_succ_eq_append_getElem hk, List.append_assoc]
theorem ports_size (l : List Ctr) : ∀ (zs : List Int) (k : Nat) (seen : List Int), k + zs.length ≤ 1000 → (portsFrom l k seen zs).2.size ≤ 40
  | [], _, _, _ => by show (0 : Nat) ≤ 40; omega
  | z :: zs, k, seen, h => by
    have ha : (atB t_ports k).size ≤ 40 := Nat.le_trans (atB_size t_ports k (by simp at h; omega)) (by decide)
    rw [portsFrom]
    split
    · exact ha
    · split
      · exact ha
      · exact ports_size l zs (k + 1) _ (by simp at h; omega)
theorem one_size (x : Ctr) (l : List Ctr) (init : Bool) (hp : x.ports.length ≤ 1000) : (oneV x l init).2.size ≤ 40 := by
  have hr : ∀ n, (t_req ++ t_res n).size ≤ 40 := fun n => by
    unfold t_res
    split
    · decide
    · split <;> decide
  have hl : ∀ n, (t_lim ++ t_res n).size ≤ 40 := fun n => by
    unfold t_res
    split
    · decide
    · split <;> decide
  unfold oneV
  split; · decide
  split; · decide
  split; · decide
  split; · exact hr _
  split; · exact hl _
  split; · decide
  split
  · exact ports_size l x.ports 0 [] (by omega)
  · unfold probeV
    split; · decide
    split <;> decide
end SpecRef
end Go.Proofs.YtpllcnpmjnmcfaaDoor
