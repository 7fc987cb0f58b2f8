/-
  The contracts of sel.Text and of the document's Text (provostref11.Text): the text of any labels. All that was there is left as it was. Condition: the labels are few and short. And what follows of it, part by part, each with its conditions.
-/
import Derived.Test.YtaegknpijgjioaaGreatDoorSelPure
import Derived.Test.YtaegknpijgjioaaGreatDoorSpecErrAll
import Derived.Test.YtaegknpijgjioaaGreatDoorTextAll
import Derived.Test.YtaegknpijgjioaaGreatDoorShelf
import Derived.Test.YtaegknpijgjioaaGreatDoorSpecRowAll
import Derived.Test.YtaegknpijgjioaaGreatDoorSpecDataAll
import Derived.Test.YtaegknpijgjioaaGreatDoorSpecRefAll
import Derived.OwnWalk
import Derived.Lib.Join
import Derived.Laws.AppendOwn
import Derived.Deep.RegionHeld3
import Derived.RegionTactic
/- The contracts of sel.Text and of the document's Text (provostref11.Text): the text of any labels. All that was there is left as it was. Condition: the labels are few and short. -/
set_option linter.unusedVariables false
set_option linter.unusedSimpArgs false
namespace Go.Proofs.YtaegknpijgjioaaGreatDoor
open Go.ChangeShapes Go.WideShapes Go.ChangeAt Go.RowKit Go.Lib
open Sd Lists SpecOwn Book
namespace Sl

theorem joinC_join (c : UInt8) : ∀ xs : List (List UInt8), joinC c xs = Lib.join xs [c]
  | [] => rfl
  | [x] => by rw [joinC, Lib.join_one]
  | x :: y :: l => by
    rw [joinC, joinC_join c (y :: l), Lib.join_cons, Lib.join_cons]
    simp [Lib.joinTail]
/-- one label's text -/
def labB (x : Lbl) : ByteArray := x.key ++ ⟨#[61]⟩ ++ x.val
theorem labB_lab (x : Lbl) : (labB x).data.toList = lab x := by
  unfold labB lab
  simp
theorem text_join (l : List Lbl) : Lib.join ((l.map labB).map (·.data.toList)) [44] = textL l := by
  rw [textL_join, joinC_join, List.map_map]
  congr 1
  apply List.map_congr_left
  intro x _
  exact labB_lab x
/-- labels that are few and short -/
structure Short (l : List Lbl) : Prop where
  few : l.length ≤ 1000
  each : ∀ x ∈ l, x.key.size ≤ 3000 ∧ x.val.size ≤ 3000
theorem lab_len {x : Lbl} (h : x.key.size ≤ 3000 ∧ x.val.size ≤ 3000) : (lab x).length ≤ 6001 := by
  unfold lab
  rw [List.length_append, List.length_cons, Array.length_toList, Array.length_toList]
  have h1 : x.key.data.size = x.key.size := rfl
  have h2 : x.val.data.size = x.val.size := rfl
  omega
theorem textL_len : ∀ {l : List Lbl}, (∀ x ∈ l, x.key.size ≤ 3000 ∧ x.val.size ≤ 3000) → (textL l).length ≤ l.length * 6002
  | [], _ => by simp [textL]
  | [x], h => by
    have := lab_len (h x (by simp))
    rw [textL, List.length_singleton]
    omega
  | x :: y :: l, h => by
    have h1 := lab_len (h x (by simp))
    have h2 := textL_len (l := y :: l) fun z hz => h z (by simp [hz])
    rw [textL, List.length_append, List.length_cons, List.length_cons, List.length_cons] at *
    omega
theorem Short.len {l : List Lbl} (h : Short l) : (textL l).length ≤ 6002000 := by
  have := textL_len h.each
  have := h.few
  omega
theorem Right.short {l : List Lbl} (h : Right l) : Short l :=
  ⟨by have := h.few; omega, fun x hx => ⟨by have := h.key_len hx; omega, by have := h.val_len hx; omega⟩⟩
theorem lab_size (x : Lbl) : (lab x).length = x.key.size + x.val.size + 1 := by
  unfold lab
  rw [List.length_append, List.length_cons, Array.length_toList, Array.length_toList]
  have h2 : x.key.data.size = x.key.size := rfl
  have h3 : x.val.data.size = x.val.size := rfl
  omega
theorem textL_few : ∀ {l : List Lbl}, (∀ x ∈ l, x.key.size ≤ 33 ∧ x.val.size ≤ 16) → (textL l).length ≤ l.length * 51
  | [], _ => by simp [textL]
  | [x], h => by
    have h1 := h x (by simp)
    rw [textL, List.length_singleton, lab_size]
    omega
  | x :: y :: l, h => by
    have h1 := h x (by simp)
    have h4 := textL_few (l := y :: l) fun z hz => h z (by simp [hz])
    rw [List.length_cons] at h4
    rw [textL, List.length_append, List.length_cons, List.length_cons, List.length_cons, lab_size]
    omega
theorem Right.text_len {l : List Lbl} (h : Right l) : (textL l).length ≤ 204 := by
  have := textL_few fun x hx => ⟨h.key_len hx, h.val_len hx⟩
  have := h.few
  omega
theorem info_str : (Tryz.prog.info? 9).map (fun i => (i.zero, i.size, i.bytes)) = some (some (.string ⟨#[]⟩), 1, 16) := by kernel_rfl
theorem join_rowC {w : World} {base : Nat} {v : Value} (p : List ByteArray) (h : w.ownsRow base 9 1 v p.length (p.map Value.string)) (hp : p.length ≤ 1000000) (hlen : (Lib.join (p.map (·.data.toList)) [44]).length ≤ 140737488355328) :
    Calls Tryz.prog 37 #[v, .string ⟨#[44]⟩] w fun e w' => e = .returned (.string ⟨(Lib.join (p.map (·.data.toList)) [44]).toArray⟩) ∧ Below w.heap.size w w' := by
  rcases h.2 with ⟨rfl, h0⟩ | ⟨g, cap, cur, rfl, e2, e3, e4, e5, e6, e7⟩
  · obtain rfl : p = [] := List.eq_nil_of_length_eq_zero h0
    refine (Any.strings_Join_none Tryz.lays156 Tryz.Builder_Extra_156 none 0 ⟨#[44]⟩ w).mono ?_
    rintro e w' ⟨rfl, rfl⟩
    exact ⟨rfl, Below.refl _ _⟩
  · have hlt : g < w.heap.size := by
      rcases Nat.lt_or_ge g w.heap.size with hl | hl
      · exact hl
      · rw [Array.getElem?_eq_none hl] at e3; cases e3
    refine (Any.strings_Join Tryz.lays156 Tryz.Builder_Extra_156 g 0 cap p ⟨#[44]⟩ w ?_ hlt (by omega) e4 hlen).mono ?_
    · intro j x hx
      have := h.cells (g := g) rfl j (.string x) (by rw [List.getElem?_map, hx]; rfl)
      rw [Nat.zero_add]
      rcases j with _ | j
      · exact this
      · simpa [Addr.add] using this
    · rintro e w' ⟨rfl, hb⟩
      exact ⟨rfl, hb⟩
theorem take_one {α : Type} {l : List α} {k : Nat} {x : α} (h : l[k]? = some x) : l.take (k + 1) = l.take k ++ [x] := by
  obtain ⟨hk, rfl⟩ := List.getElem?_eq_some_iff.1 h
  exact List.take_succ_eq_append_getElem hk
set_option maxRecDepth 100000 in
set_option maxHeartbeats 1000000 in
theorem text_any (A : Option Addr) (c : Nat) (l : List Lbl) (hs : Short l) (w : World) (hA : Lbls w A l) :
    Calls Tryz.prog 19 #[.slice A l.length c] w fun e w' => e = .returned (.string ⟨(textL l).toArray⟩) ∧ Below w.heap.size w w' := by
  obtain ⟨i0, hi, hz0, hz1, hz2⟩ := info_parts info_str
  have HA := Lib.hid hA
  have HS := Lib.hid hs
  have hs1 := hs.few
  have hs' : (l.length : Int) ≤ 1000 := by omega
  have HLEN := Lib.hid hs.len
  clear hA hs
  go_enter Tryz.func19, Tryz.ntmps19
  go_wp2_with (at_make; refine wpList_make_own w rfl _ _ 69 rfl w.heap.size 9 i0 _ 1 Tryz.underlying69 hi hz0 hz1 .i64 .i64 _ l.length rfl rfl rfl ?c1 ?c2 (Nat.le_refl _) ?_)
  case c1 => rw [hz2]; omega
  case c2 => unfold maxLen; omega
  intro w1 hown hgr
  have HW1 := Lib.hid (show Below w.heap.size w w1 from (Below.refl _ w).grown hgr (Nat.le_refl _) (by intro j hj; cases hj))
  have HO1 := Lib.hid hown
  clear hown hgr
  go_wp2_with fail
  go_loopw [3, 11] (fun v i wr => ∃ k : Nat, k ≤ l.length ∧ i = .int .i64 k ∧ Hid (wr.ownsRow w.heap.size 9 1 v k (((l.take k).map labB).map Value.string)) ∧ Hid (Below w.heap.size w wr)) (fun _ i _ => l.length - (RowKit.intOf i).toNat)
  case atStart => exact ⟨0, Nat.zero_le _, rfl, by unfold Hid; simpa using HO1.out, HW1.out⟩
  case round =>
    obtain ⟨k, hk, rfl, HR, HW⟩ := hrel
    by_cases hlt : k < l.length
    · obtain ⟨p, rfl, hp, hc⟩ := (HA.out.below HW.out).at hlt
      obtain ⟨x, hx⟩ : ∃ x, l[k] = x := ⟨_, rfl⟩
      rw [hx] at hc
      have hxs := HS.out.each x (hx ▸ List.getElem_mem hlt)
      have hlb : (labB x).size ≤ 6001 := by have := lab_len hxs; rw [← labB_lab, Array.length_toList] at this; exact this
      have HX := Lib.hid (take_one (l := l) (k := k) (x := x) (by rw [List.getElem?_eq_getElem hlt, hx]))
      obtain ⟨c0, c1⟩ := hc
      have hkn : (k : Int) < (l.length : Int) := by omega
      clear hx hp
      have a1 : ∀ v, (Op.stringOp .add x.key ⟨#[61]⟩).run Tryz.prog v = .ok (.string (x.key ++ ⟨#[61]⟩)) v := fun v => run_string_add_sum v _ _ (by show _ + 1 ≤ _; omega)
      have a2 : ∀ v, (Op.stringOp .add (x.key ++ ⟨#[61]⟩) x.val).run Tryz.prog v = .ok (.string (labB x)) v := fun v => run_string_add_sum v _ _ (by rw [ByteArray.size_append]; show _ + 1 + _ ≤ _; omega)
      obtain ⟨y, hy⟩ : ∃ y, labB x = y := ⟨_, rfl⟩
      rw [hy] at a2 hlb
      have HY := Lib.hid hy
      have HB2 := Lib.hid ((HW.out.alloc HW.out.size (.cells #[.string x.key, .string x.val] 49)).alloc (by simp; have := HW.out.size; omega) (.cells #[.string y] 9))
      have HR2 := Lib.hid ((HR.out.alloc (.cells #[.string x.key, .string x.val] 49)).alloc (.cells #[.string y] 9))
      have hsw := HW.out.size
      clear hy
      go_wp2_with (at_builtin; refine wpList_append_own _ rfl _ _ 69 rfl w.heap.size 9 i0 (.string ⟨#[]⟩) 1 16 Tryz.underlying69 hi hz0 hz1 hz2 rfl (by decide) _ _ _ rfl HR2.out _ 1 1 [.string y] rfl rfl ?c1 ?c2 ?c3 ?c4 ?c5 ?_)
      case c1 =>
        intro j u hu
        rcases j with _ | j
        · obtain rfl : Value.string y = u := by simpa using hu
          have h := cell_new (wr.alloc (.cells #[.string x.key, .string x.val] 49)) (.string y) 9
          rw [show (wr.alloc (.cells #[.string x.key, .string x.val] 49)).heap.size = wr.heap.size + 1 by simp] at h
          exact h
        · simp at hu
      case c2 => intro u hu; simp at hu; subst hu; rfl
      case c3 => unfold maxLen; omega
      case c4 => omega
      case c5 => simp; omega
      intro v' w2 hown' hgrow _
      have HN := Lib.hid (HB2.out.grown hgrow (by simp; omega) (fun j hj => (HR.out.lt j hj).1))
      have HW2 := Lib.hid hown'
      clear hown' hgrow HR HR2
      go_wp2_with fail
      go_roundw
      case rel =>
        refine ⟨k + 1, by omega, by go_num, ?_, HN.out⟩
        have h2 := HW2.out
        unfold Hid
        rw [HX.out, List.map_append, List.map_append, List.map_singleton, List.map_singleton, HY.out]
        have e : List.map Value.string (List.map labB (List.take k l)) = List.take k (List.map (Value.string ∘ labB) l) := by simp [List.map_take]
        rw [e]
        exact h2
      case measure => simp [RowKit.intOf]; omega
    · have hkl : k = l.length := by omega
      have HR2 := Lib.hid (show wr.ownsRow w.heap.size 9 1 u3 (l.map labB).length ((l.map labB).map Value.string) by
        have := HR.out
        rw [List.take_of_length_le (by omega), hkl] at this
        rw [List.length_map]
        exact this)
      have HJ := Lib.hid (text_join l)
      subst hkl
      clear HR
      go_wp2_with fail
      refine (join_rowC (l.map labB) HR2.out (by rw [List.length_map]; omega) (by rw [HJ.out]; have := HLEN.out; omega)).mono ?_
      rw [HJ.out]
      rintro e w3 ⟨rfl, hb3⟩
      have HW3 := Lib.hid (HW.out.trans (hb3.mono HW.out.size))
      clear hb3
      go_wp2_with fail
      go_ret
      exact ⟨rfl, HW3.out⟩
theorem textL_snoc : ∀ (l : List Lbl) (x : Lbl), textL (l ++ [x]) = if l = [] then lab x else textL l ++ 44 :: lab x
  | [], x => rfl
  | [y], x => rfl
  | y :: z :: l, x => by
    rw [List.cons_append, List.cons_append, textL, ← List.cons_append, textL_snoc (z :: l) x, if_neg (by simp), if_neg (by simp), textL]
    simp
theorem cat_lab (T : List UInt8) (x : Lbl) : (⟨T.toArray⟩ : ByteArray) ++ x.key ++ ⟨#[61]⟩ ++ x.val = ⟨(T ++ lab x).toArray⟩ := by
  apply ByteArray.ext
  apply Array.ext'
  unfold lab
  simp
theorem cat_comma (T : List UInt8) : (⟨T.toArray⟩ : ByteArray) ++ ⟨#[44]⟩ = ⟨(T ++ [44]).toArray⟩ := by
  apply ByteArray.ext
  apply Array.ext'
  simp
set_option maxRecDepth 100000 in
set_option maxHeartbeats 1000000 in
theorem text_ref (A : Option Addr) (c : Nat) (l : List Lbl) (hs : Short l) (w : World) (hA : Lbls w A l) :
    Calls Tryz.prog 20 #[.slice A l.length c] w fun e w' => e = .returned (.string ⟨(textL l).toArray⟩) ∧ Below w.heap.size w w' := by
  have HA := Lib.hid hA
  have HS := Lib.hid hs
  have hs1 := hs.few
  have hs' : (l.length : Int) ≤ 1000 := by omega
  clear hA hs
  go_enter Tryz.func20, Tryz.ntmps20
  go_wp2_with fail
  go_loopw [3, 4] (fun v i wr => ∃ k : Nat, k ≤ l.length ∧ i = .int .i64 k ∧ v = .string ⟨(textL (l.take k)).toArray⟩ ∧ Hid (Below w.heap.size w wr)) (fun _ i _ => l.length - (RowKit.intOf i).toNat)
  case atStart => exact ⟨0, Nat.zero_le _, rfl, rfl, Below.refl _ _⟩
  case round =>
    obtain ⟨k, hk, rfl, rfl, HW⟩ := hrel
    by_cases hlt : k < l.length
    · obtain ⟨p, rfl, hp, hc⟩ := (HA.out.below HW.out).at hlt
      obtain ⟨x, hx⟩ : ∃ x, l[k] = x := ⟨_, rfl⟩
      rw [hx] at hc
      have hxs := HS.out.each x (hx ▸ List.getElem_mem hlt)
      have htl : (textL (l.take k)).length ≤ 6002000 := by
        have := textL_len (l := l.take k) (fun y hy => HS.out.each y (List.mem_of_mem_take hy))
        rw [List.length_take] at this
        omega
      have HX := Lib.hid (take_one (l := l) (k := k) (x := x) (by rw [List.getElem?_eq_getElem hlt, hx]))
      obtain ⟨c0, c1⟩ := hc
      have hkn : (k : Int) < (l.length : Int) := by omega
      clear hx hp
      obtain ⟨T, hT⟩ : ∃ T, textL (l.take k) = T := ⟨_, rfl⟩
      rw [hT] at htl ⊢
      have HT := Lib.hid hT
      clear hT
      have main : ∀ (U : List UInt8) (hU : U.length ≤ 6002001), ∃ S : ByteArray, S = ⟨U.toArray⟩ ∧ S.size ≤ 6002001 := fun U hU => ⟨_, rfl, by show U.toArray.size ≤ _; simpa using hU⟩
      by_cases h0 : k = 0
      · have HE := Lib.hid (show textL (l.take (k + 1)) = T ++ lab x by
          rw [HX.out, textL_snoc, ← HT.out, h0]; rfl)
        obtain ⟨S, hS, hSz⟩ := main T (by omega)
        rw [← hS]
        have HSS := Lib.hid hS
        have a1 : ∀ v, (Op.stringOp .add S x.key).run Tryz.prog v = .ok (.string (S ++ x.key)) v := fun v => run_string_add_sum v _ _ (by omega)
        have a2 : ∀ v, (Op.stringOp .add (S ++ x.key) ⟨#[61]⟩).run Tryz.prog v = .ok (.string (S ++ x.key ++ ⟨#[61]⟩)) v := fun v => run_string_add_sum v _ _ (by rw [ByteArray.size_append]; show _ + _ + 1 ≤ _; omega)
        have a3 : ∀ v, (Op.stringOp .add (S ++ x.key ++ ⟨#[61]⟩) x.val).run Tryz.prog v = .ok (.string (S ++ x.key ++ ⟨#[61]⟩ ++ x.val)) v := fun v => run_string_add_sum v _ _ (by rw [ByteArray.size_append, ByteArray.size_append]; show _ + _ + 1 + _ ≤ _; omega)
        have hk0 : ¬ (0 : Int) < (k : Int) := by omega
        clear hS h0 main
        go_wp2_with fail
        go_quiet (fail)
        go_wp2
        go_roundw
        case rel => exact ⟨k + 1, by omega, by go_num, by rw [HE.out, ← cat_lab, HSS.out], HW.out.trans ((Kit.below_drewN _ _ _).mono HW.out.size)⟩
        case measure => simp [RowKit.intOf]; omega
      · have HE := Lib.hid (show textL (l.take (k + 1)) = (T ++ [44]) ++ lab x by
          rw [HX.out, textL_snoc, if_neg (by intro e; have := congrArg List.length e; rw [List.length_take, List.length_nil] at this; omega), HT.out]; simp)
        obtain ⟨S, hS, hSz⟩ := main (T ++ [44]) (by simp; omega)
        have a0 : ∀ v, (Op.stringOp .add (⟨T.toArray⟩ : ByteArray) ⟨#[44]⟩).run Tryz.prog v = .ok (.string S) v := fun v => by
          rw [hS, ← cat_comma]
          exact run_string_add_sum v _ _ (by show T.toArray.size + 1 ≤ _; simp; omega)
        have HSS := Lib.hid hS
        have a1 : ∀ v, (Op.stringOp .add S x.key).run Tryz.prog v = .ok (.string (S ++ x.key)) v := fun v => run_string_add_sum v _ _ (by omega)
        have a2 : ∀ v, (Op.stringOp .add (S ++ x.key) ⟨#[61]⟩).run Tryz.prog v = .ok (.string (S ++ x.key ++ ⟨#[61]⟩)) v := fun v => run_string_add_sum v _ _ (by rw [ByteArray.size_append]; show _ + _ + 1 ≤ _; omega)
        have a3 : ∀ v, (Op.stringOp .add (S ++ x.key ++ ⟨#[61]⟩) x.val).run Tryz.prog v = .ok (.string (S ++ x.key ++ ⟨#[61]⟩ ++ x.val)) v := fun v => run_string_add_sum v _ _ (by rw [ByteArray.size_append, ByteArray.size_append]; show _ + _ + 1 + _ ≤ _; omega)
        have hk0 : (0 : Int) < (k : Int) := by omega
        clear hS h0 main
        go_wp2_with fail
        go_quiet (fail)
        go_wp2
        go_roundw
        case rel => exact ⟨k + 1, by omega, by go_num, by rw [HE.out, ← cat_lab, HSS.out], HW.out.trans ((Kit.below_drewN _ _ _).mono HW.out.size)⟩
        case measure => simp [RowKit.intOf]; omega
    · have HE := Lib.hid (show textL (l.take k) = textL l by rw [List.take_of_length_le (by omega)])
      go_wp2_with fail
      go_ret
      exact ⟨by rw [← HE.out]; rfl, HW.out⟩
end Sl
end Go.Proofs.YtaegknpijgjioaaGreatDoor

/- The contract of sel.ownTexts: a row of the caller's own gets texts of its own, which are the same; what was there below the row's block is as it was. Condition: the row's texts are short. -/
set_option linter.unusedVariables false
set_option linter.unusedSimpArgs false
namespace Go.Proofs.YtaegknpijgjioaaGreatDoor
open Go.ChangeShapes Go.WideShapes Go.ChangeAt Go.RowKit Go.Lib
open Sd Lists SpecOwn Book
namespace Sl

/-- what was there below block B is as it was, all but block g -/
structure Kx (g B : Nat) (w v : World) : Prop where
  os : v.os = w.os
  tape : v.tape = w.tape
  output : v.output = w.output
  size : w.heap.size ≤ v.heap.size
  block : ∀ b, b < B → b ≠ g → v.heap[b]? = w.heap[b]?
theorem Kx.of_below {g B : Nat} {w v : World} (h : Below B w v) : Kx g B w v := ⟨h.os, h.tape, h.output, h.size, fun b hb _ => h.block b hb⟩
theorem Kx.next {g B : Nat} {w v v' : World} (h : Kx g B w v) (hb : Below v.heap.size v v') (hB : B ≤ w.heap.size) : Kx g B w v' :=
  ⟨hb.os.trans h.os, hb.tape.trans h.tape, hb.output.trans h.output, Nat.le_trans h.size hb.size, fun b h1 h2 => (hb.block b (by have := h.size; omega)).trans (h.block b h1 h2)⟩
theorem Kx.set {g B : Nat} {w v : World} (h : Kx g B w v) (j : Nat) (u : Value) : Kx g B w (v.setCell ⟨g, j, none⟩ u) :=
  ⟨h.os, h.tape, h.output, by simpa using h.size, fun b h1 h2 => (Below.heap_setCell v ⟨g, j, none⟩ u b h2).trans (h.block b h1 h2)⟩
theorem Kx.trans {g B B' : Nat} {a b c : World} (h : Kx g B a b) (k : Kx g B' b c) (hB : B ≤ B') : Kx g B a c :=
  ⟨k.os.trans h.os, k.tape.trans h.tape, k.output.trans h.output, Nat.le_trans h.size k.size, fun i h1 h2 => (k.block i (by omega) h2).trans (h.block i h1 h2)⟩
theorem Kx.mono {g B B' : Nat} {w v : World} (h : Kx g B' w v) (hB : B ≤ B') : Kx g B w v := ⟨h.os, h.tape, h.output, h.size, fun b h1 h2 => h.block b (by omega) h2⟩
theorem Kx.below {g B : Nat} {a b : World} (k : Kx g B a b) (hg : B ≤ g) : Below B a b := ⟨k.os, k.tape, k.output, k.size, fun i hi => k.block i hi (by omega)⟩
/-- writing what a row holds already -/
theorem row_again {v : World} {B : Nat} {e : TypeId} {size g n cap : Nat} {xs : List Value} (h : v.ownsRow B e size (.slice (some ⟨g, 0, none⟩) n cap) n xs) {j : Nat} {u : Value} (hu : xs[j]? = some u) : (v.setCell ⟨g, j, none⟩ u).ownsRow B e size (.slice (some ⟨g, 0, none⟩) n cap) n xs := by
  have h1 := (h.stored j u).1
  rwa [show xs.set j u = xs from by
    apply List.ext_getElem?
    intro i
    by_cases hij : j = i
    · subst hij
      rw [List.getElem?_set_self (List.getElem?_eq_some_iff.1 hu).1, hu]
    · rw [List.getElem?_set_ne hij]] at h1
/-- what a round's worlds have: the row, the label's box, the cells that the round reads and writes -/
def OX (l : List Lbl) (x : Lbl) (k n c g B : Nat) (wr w' : World) : Prop :=
  w'.ownsRow B 49 2 (.slice (some ⟨g, 0, none⟩) n c) n (flatL l) ∧ w'.heap[wr.heap.size]? = some (.cells #[.string x.key, .string x.val] 49 (0, 0)) ∧ w'.cell? ⟨wr.heap.size, 0, none⟩ = some (.string x.key) ∧ w'.cell? ⟨wr.heap.size, 1, none⟩ = some (.string x.val) ∧ w'.cell? ⟨g, k * 2, none⟩ = some (.string x.key) ∧ w'.cell? ⟨g, k * 2 + 1, none⟩ = some (.string x.val) ∧ w'.frozen? ⟨g, k * 2, none⟩ = false ∧ w'.frozen? ⟨g, k * 2 + 1, none⟩ = false ∧ Kx g wr.heap.size wr w'
structure OXt (l : List Lbl) (x : Lbl) (k n c g : Nat) (wr : World) : Prop where
  at' : l[k]? = some x
  lt : k < n
  row : g < wr.heap.size
theorem ox_of {l : List Lbl} {x : Lbl} {k n c g B : Nat} {wr w' : World} (st : OXt l x k n c g wr) (h1 : w'.ownsRow B 49 2 (.slice (some ⟨g, 0, none⟩) n c) n (flatL l)) (h2 : w'.heap[wr.heap.size]? = some (.cells #[.string x.key, .string x.val] 49 (0, 0))) (hk : Kx g wr.heap.size wr w') : OX l x k n c g B wr w' := by
  have hl := st.lt
  obtain ⟨f0, f1⟩ := flatL_at st.at'
  exact ⟨h1, h2, by simp [World.cell?, h2], by simp [World.cell?, h2], by rw [h1.cellAt (k * 2) (by omega), f0], by rw [h1.cellAt (k * 2 + 1) (by omega), f1], h1.frozenAt _, h1.frozenAt _, hk⟩
theorem ox_keep {l : List Lbl} {x : Lbl} {k n c g B : Nat} {wr w w' : World} (st : OXt l x k n c g wr) (h : OX l x k n c g B wr w) (hb : Below w.heap.size w w') : OX l x k n c g B wr w' := by
  refine ox_of st ?_ ((hb.block _ (lt_of_block h.2.1)).trans h.2.1) (h.2.2.2.2.2.2.2.2.next hb (Nat.le_refl _))
  rcases h.1.2 with ⟨e1, _⟩ | ⟨g', cap, cur, e1, e2, e3, e4⟩
  · cases e1
  · exact ⟨h.1.1, Or.inr ⟨g', cap, cur, e1, e2, (hb.block _ (lt_of_block e3)).trans e3, e4⟩⟩
theorem ox_s0 {l : List Lbl} {x : Lbl} {k n c g B : Nat} {wr w : World} (st : OXt l x k n c g wr) (h : OX l x k n c g B wr w) : OX l x k n c g B wr (w.setCell ⟨g, k * 2, none⟩ (.string x.key)) :=
  ox_of st (row_again h.1 (flatL_at st.at').1) ((Below.heap_setCell w ⟨g, k * 2, none⟩ _ _ (by have := st.row; show wr.heap.size ≠ g; omega)).trans h.2.1) (h.2.2.2.2.2.2.2.2.set _ _)
theorem ox_s1 {l : List Lbl} {x : Lbl} {k n c g B : Nat} {wr w : World} (st : OXt l x k n c g wr) (h : OX l x k n c g B wr w) : OX l x k n c g B wr (w.setCell ⟨g, k * 2 + 1, none⟩ (.string x.val)) :=
  ox_of st (row_again h.1 (flatL_at st.at').2) ((Below.heap_setCell w ⟨g, k * 2 + 1, none⟩ _ _ (by have := st.row; show wr.heap.size ≠ g; omega)).trans h.2.1) (h.2.2.2.2.2.2.2.2.set _ _)
theorem ox_drew {l : List Lbl} {x : Lbl} {k n c g B : Nat} {wr w : World} (h : OX l x k n c g B wr w) : OX l x k n c g B wr w.drew := by
  obtain ⟨h1, h2, h4, h5, h6, h7, h8, h9, h⟩ := h
  exact ⟨h1, h2, h4, h5, h6, h7, h8, h9, ⟨h.os, h.tape, h.output, h.size, h.block⟩⟩
theorem ox_new {l : List Lbl} {x : Lbl} {k n c g B : Nat} {wr : World} (st : OXt l x k n c g wr) (h1 : wr.ownsRow B 49 2 (.slice (some ⟨g, 0, none⟩) n c) n (flatL l)) : OX l x k n c g B wr (wr.alloc (.cells #[.string x.key, .string x.val] 49)) := by
  refine ox_of st ?_ (heap_alloc_new wr _) (Kx.of_below ((Below.refl _ wr).alloc (Nat.le_refl _) _))
  rcases h1.2 with ⟨e1, _⟩ | ⟨g', cap, cur, e1, e2, e3, e4⟩
  · cases e1
  · exact ⟨h1.1, Or.inr ⟨g', cap, cur, e1, e2, (Below.heap_alloc wr _ _ (lt_of_block e3)).trans e3, e4⟩⟩
set_option maxRecDepth 100000 in
set_option maxHeartbeats 4000000 in
theorem ownTexts_some (B g : Nat) (c : Nat) (l : List Lbl) (hg : B ≤ g) (hl : l.length ≤ 1000) (hx : ∀ x ∈ l, x.key.size ≤ 3000 ∧ x.val.size ≤ 3000) (w : World) (h : w.ownsRow B 49 2 (.slice (some ⟨g, 0, none⟩) l.length c) l.length (flatL l)) (hgl : g < w.heap.size) :
    Calls Tryz.prog 32 #[.slice (some ⟨g, 0, none⟩) l.length c] w fun e w' => e = .returned (.tuple #[]) ∧ w'.ownsRow B 49 2 (.slice (some ⟨g, 0, none⟩) l.length c) l.length (flatL l) ∧ Kx g w.heap.size w w' := by
  have H := Lib.hid h
  have HX := Lib.hid hx
  have hl' : (l.length : Int) ≤ 1000 := by omega
  clear h hx
  go_enter Tryz.func32, Tryz.ntmps32
  go_wp2_with fail
  go_loopw [6] (fun i wr => ∃ (k : Nat), k ≤ l.length ∧ i = .int .i64 k ∧ Hid (wr.ownsRow B 49 2 (.slice (some ⟨g, 0, none⟩) l.length c) l.length (flatL l) ∧ Kx g w.heap.size w wr)) (fun i _ => l.length - (RowKit.intOf i).toNat)
  case atStart => exact ⟨0, Nat.zero_le _, rfl, Lib.hid ⟨H.out, ⟨rfl, rfl, rfl, Nat.le_refl _, fun _ _ _ => rfl⟩⟩⟩
  case round =>
    obtain ⟨k, hk, rfl, HI⟩ := hrel
    by_cases hlt : k < l.length
    · have hka : (k : Int) < (l.length : Int) := by omega
      obtain ⟨x, hx⟩ : ∃ x, l[k]? = some x := ⟨_, List.getElem?_eq_getElem hlt⟩
      obtain ⟨hxk, hxv⟩ := HX.out x (List.mem_of_getElem? hx)
      obtain ⟨f0, f1⟩ := flatL_at hx
      have hsz := HI.out.2.size
      have st : OXt l x k l.length c g wr := ⟨hx, hlt, by omega⟩
      have HST := Lib.hid st
      have HNEW := Lib.hid (ox_new st HI.out.1)
      have c0 : wr.cell? ⟨g, k * 2, none⟩ = some (.string x.key) := by rw [HI.out.1.cellAt (k * 2) (by omega), f0]
      have c1 : wr.cell? ⟨g, k * 2 + 1, none⟩ = some (.string x.val) := by rw [HI.out.1.cellAt (k * 2 + 1) (by omega), f1]
      have e0 : (⟨g, 0, none⟩ : Addr).add (k * 2) = ⟨g, k * 2, none⟩ := by unfold Addr.add; split <;> simp_all
      clear st f0 f1
      go_wp2_with fail
      go_region_held3 (fun w' => w'.ownsRow B 49 2 (.slice (some ⟨g, 0, none⟩) l.length c) l.length (flatL l) ∧ w'.heap[wr.heap.size]? = some (.cells #[.string x.key, .string x.val] 49 (0, 0)) ∧ w'.cell? ⟨wr.heap.size, 0, none⟩ = some (.string x.key) ∧ w'.cell? ⟨wr.heap.size, 1, none⟩ = some (.string x.val) ∧ w'.cell? ⟨g, k * 2, none⟩ = some (.string x.key) ∧ w'.cell? ⟨g, k * 2 + 1, none⟩ = some (.string x.val) ∧ w'.frozen? ⟨g, k * 2, none⟩ = false ∧ w'.frozen? ⟨g, k * 2 + 1, none⟩ = false ∧ Kx g wr.heap.size wr w')
        (first
          | exact ox_keep HST.out (by assumption) hbn
          | exact ox_s1 HST.out (ox_s0 HST.out (by assumption))
          | exact ox_drew HNEW.out
          | exact ox_drew (by assumption)
          | go_keep)
        (first
          | (refine (Text.clone_any x.key (by omega) _).mono ?_; rintro e wn ⟨rfl, hbn⟩)
          | (refine (Text.clone_any x.val (by omega) _).mono ?_; rintro e wn ⟨rfl, hbn⟩))
      · have hfin : OX l x k l.length c g B wr ((wn.setCell ⟨g, k * 2, none⟩ (.string x.key)).setCell ⟨g, k * 2 + 1, none⟩ (.string x.val)) := by assumption
        have HF := Lib.hid (show ((wn.setCell ⟨g, k * 2, none⟩ (.string x.key)).setCell ⟨g, k * 2 + 1, none⟩ (.string x.val)).ownsRow B 49 2 (.slice (some ⟨g, 0, none⟩) l.length c) l.length (flatL l) ∧ Kx g w.heap.size w ((wn.setCell ⟨g, k * 2, none⟩ (.string x.key)).setCell ⟨g, k * 2 + 1, none⟩ (.string x.val)) from ⟨hfin.1, HI.out.2.trans hfin.2.2.2.2.2.2.2.2 hsz⟩)
        clear hfin
        go_wp2_with fail
        go_roundw
        case rel => exact ⟨k + 1, by omega, by go_num, HF⟩
        case measure => simp [RowKit.intOf]; omega
    · go_wp2_with fail
      first | go_end0 | refine bodyPost_ret (results_none rfl _ _ _) rfl ?_
      exact ⟨rfl, HI.out.1, HI.out.2⟩
theorem ownTexts_none (c : Nat) (w : World) :
    Calls Tryz.prog 32 #[.slice none 0 c] w fun e w' => e = .returned (.tuple #[]) ∧ w = w' := by
  go_enter Tryz.func32, Tryz.ntmps32
  go_wp2_with fail
  refine wp_loop_rounds 1 ?_
  rw [rounds_succ]
  go_wp2_with fail
  first | go_end0 | refine bodyPost_ret (results_none rfl _ _ _) rfl ?_
  exact ⟨rfl, rfl⟩
end Sl
end Go.Proofs.YtaegknpijgjioaaGreatDoor

/- The contract of sel.Parse: the selector of a text, in memory of the call's own, or the code. All that was there is left as it was. Condition: the text has at most 2000 bytes. -/
set_option linter.unusedVariables false
set_option linter.unusedSimpArgs false
namespace Go.Proofs.YtaegknpijgjioaaGreatDoor
open Go.ChangeShapes Go.WideShapes Go.ChangeAt Go.RowKit Go.Lib
open Sd Lists SpecOwn Book TextPure
namespace Sl

/-- the label of a part, as strings.Cut tells it -/
def partL (p : ByteArray) : Lbl := ⟨Text.fstB p 61, Text.sndB p 61⟩
theorem cutL_yes {p : ByteArray} (h : Text.hasB p 61 = true) : cutL p.data.toList = some (partL p) := by
  unfold cutL
  rw [show (cut p.data.toList [61]).2.2 = Text.hasB p 61 from rfl, h]
  rfl
theorem cutL_no {p : ByteArray} (h : Text.hasB p 61 = false) : cutL p.data.toList = none := by
  unfold cutL
  rw [show (cut p.data.toList [61]).2.2 = Text.hasB p 61 from rfl, h]
  rfl
theorem partL_len {p : ByteArray} {n : Nat} (h : p.size ≤ n) : (partL p).key.size ≤ n ∧ (partL p).val.size ≤ n :=
  ⟨Nat.le_trans (Text.fstB_size p 61) h, Nat.le_trans (Text.sndB_size p 61) h⟩
theorem pieces_has {r : ByteArray} (h : Text.hasB r 44 = true) : pieces 44 r.data.toList = (Text.fstB r 44).data.toList :: pieces 44 (Text.sndB r 44).data.toList := by
  rw [cut_pieces, show (cut r.data.toList [44]).2.2 = Text.hasB r 44 from rfl, h]
  unfold Text.fstB Text.sndB
  simp
theorem pieces_not {r : ByteArray} (h : Text.hasB r 44 = false) : pieces 44 r.data.toList = [(Text.fstB r 44).data.toList] := by
  rw [cut_pieces, show (cut r.data.toList [44]).2.2 = Text.hasB r 44 from rfl, h]
  unfold Text.fstB
  simp
theorem snd_less {r : ByteArray} (h : Text.hasB r 44 = true) : (Text.sndB r 44).size + 1 ≤ r.size := by
  have hj := cut_join 44 r.data.toList (show (cut r.data.toList [44]).2.2 = true from h)
  have hl := congrArg List.length hj
  rw [List.length_append, List.length_cons, Array.length_toList] at hl
  have h1 : r.data.size = r.size := rfl
  have h2 : (Text.sndB r 44).size = (cut r.data.toList [44]).2.1.length := by
    show (cut r.data.toList [44]).2.1.toArray.size = _
    simp
  omega
theorem snd_none {r : ByteArray} (h : Text.hasB r 44 = false) : (Text.sndB r 44).size = 0 := by
  have hn := (cut_none 44 r.data.toList (show (cut r.data.toList [44]).2.2 = false from h)).2
  show (cut r.data.toList [44]).2.1.toArray.size = _
  rw [hn]; rfl
theorem flatL_app : ∀ (l : List Lbl) (x : Lbl), flatL (l ++ [x]) = flatL l ++ [.string x.key, .string x.val]
  | [], x => rfl
  | y :: l, x => by rw [List.cons_append, flatL, flatL_app l x, flatL]; rfl
theorem allL_cons_none {p : List UInt8} {r : List (List UInt8)} (h : cutL p = none) : allL (p :: r) = none := by rw [allL, h]
theorem allL_cons_some {p : List UInt8} {r : List (List UInt8)} {x : Lbl} (h : cutL p = some x) : allL (p :: r) = (allL r).map (x :: ·) := by
  rw [allL, h]
  cases allL r <;> rfl
/-- the loop's head: what is read, what is left, whether there is more -/
structure PSt (s : ByteArray) (done : List Lbl) (r : ByteArray) (b : Bool) : Prop where
  len : r.size ≤ s.size
  each : ∀ x ∈ done, x.key.size ≤ s.size ∧ x.val.size ≤ s.size
  more : b = true → labelsOf s.data.toList = (allL (pieces 44 r.data.toList)).map (done ++ ·)
  done : b = false → labelsOf s.data.toList = some done
theorem PSt.none {s r : ByteArray} {done : List Lbl} (h : PSt s done r true) (ho : Text.hasB (Text.fstB r 44) 61 = false) : parseV s.data.toList = ([], 3) := by
  have hm := h.more rfl
  unfold parseV
  have : labelsOf s.data.toList = Option.none := by
    rw [hm]
    cases hh : Text.hasB r 44 with
    | true => rw [pieces_has hh, allL_cons_none (cutL_no ho)]; rfl
    | false => rw [pieces_not hh, allL_cons_none (cutL_no ho)]; rfl
  rw [this]
theorem PSt.next {s r : ByteArray} {done : List Lbl} (h : PSt s done r true) (ho : Text.hasB (Text.fstB r 44) 61 = true) : PSt s (done ++ [partL (Text.fstB r 44)]) (Text.sndB r 44) (Text.hasB r 44) := by
  have hm := h.more rfl
  refine ⟨Nat.le_trans (Text.sndB_size r 44) h.len, fun x hx => ?_, fun hb => ?_, fun hb => ?_⟩
  · rcases List.mem_append.1 hx with hx | hx
    · exact h.each x hx
    · rw [List.mem_singleton] at hx
      subst hx
      exact partL_len (Nat.le_trans (Text.fstB_size r 44) h.len)
  · rw [hm, pieces_has hb, allL_cons_some (cutL_yes ho)]
    cases allL (pieces 44 (Text.sndB r 44).data.toList) <;> simp
  · rw [hm, pieces_not hb, allL_cons_some (cutL_yes ho)]
    rfl
theorem PSt.start (s : ByteArray) : PSt s [] s (!(s.toList.isEmpty)) := by
  refine ⟨Nat.le_refl _, fun x hx => by simp at hx, fun hb => ?_, fun hb => ?_⟩
  · unfold labelsOf
    rw [ByteArray.toList_eq] at hb
    rw [if_neg (by cases h : s.data.toList with
      | nil => rw [h] at hb; cases hb
      | cons x l => simp)]
    cases allL (pieces 44 s.data.toList) <;> rfl
  · unfold labelsOf
    rw [ByteArray.toList_eq] at hb
    rw [if_pos (by cases h : s.data.toList with
      | nil => rfl
      | cons x l => rw [h] at hb; cases hb)]
theorem PSt.fine {s r : ByteArray} {done : List Lbl} (h : PSt s done r false) (hc : (labelsV ⟨#[]⟩ (done.take 5)).1 = 0) : done.length ≤ 4 ∧ parseV s.data.toList = (done, 0) := by
  rw [code_take _ ⟨#[]⟩] at hc
  have h4 := (right_of hc).few
  refine ⟨h4, ?_⟩
  unfold parseV
  rw [h.done rfl]
  simp only
  rw [if_pos hc]
theorem PSt.bad {s r : ByteArray} {done : List Lbl} (h : PSt s done r false) (hc : (labelsV ⟨#[]⟩ (done.take 5)).1 ≠ 0) : parseV s.data.toList = ([], (labelsV ⟨#[]⟩ (done.take 5)).1) := by
  rw [code_take _ ⟨#[]⟩] at hc ⊢
  unfold parseV
  rw [h.done rfl]
  simp only
  rw [if_neg hc]
def sizeV : Value → Nat
  | .string b => b.size
  | _ => 0
def moreV : Value → Nat
  | .bool true => 1
  | _ => 0
/-- what Parse hands back -/
def Parsed (s : ByteArray) (w : World) (e : Ending) (w' : World) : Prop :=
  ∃ A c, e = .returned (.tuple #[.slice A (parseV s.data.toList).1.length c, .int .i64 (parseV s.data.toList).2]) ∧ Lbls w' A (parseV s.data.toList).1 ∧ From w.heap.size A ∧ Below w.heap.size w w'
theorem lbls_nil (w : World) (A : Option Addr) : Lbls w A [] := fun k x hk => by simp at hk
theorem from_none (B : Nat) : From B none := fun a h => by cases h
theorem parsed_nil {s : ByteArray} {w w' : World} {c : Int} (h : parseV s.data.toList = ([], c)) (hb : Below w.heap.size w w') : Parsed s w (.returned (.tuple #[.slice none 0 0, .int .i64 c])) w' := by
  unfold Parsed
  rw [h]
  exact ⟨none, 0, rfl, lbls_nil _ _, from_none _, hb⟩
set_option maxRecDepth 100000 in
set_option maxHeartbeats 4000000 in
theorem parse_any (s : ByteArray) (hs : s.size ≤ 2000) (w : World) (hL : SLaid w) :
    Calls Tryz.prog 17 #[.string s] w (Parsed s w) := by
  obtain ⟨i0, hi, hz0, hz1, hz2⟩ := info_parts (show (Tryz.prog.info? 49).map (fun i => (i.zero, i.size, i.bytes)) = some (some (.agg #[.string ⟨#[]⟩, .string ⟨#[]⟩]), 2, 32) by kernel_rfl)
  have HL := Lib.hid hL
  have HS := Lib.hid hs
  have HP0 := Lib.hid (PSt.start s)
  clear hL
  go_enter Tryz.func17, Tryz.ntmps17
  go_wp2_with fail
  go_loopw [0, 4, 5] (fun sv v m wr => ∃ (r : ByteArray) (done : List Lbl) (b : Bool), sv = .string r ∧ m = .bool b ∧ Hid (PSt s done r b) ∧ Hid (wr.ownsRow w.heap.size 49 2 v (done.take 5).length (flatL (done.take 5))) ∧ Hid (Below w.heap.size w wr)) (fun sv _ m _ => sizeV sv + moreV m)
  case atStart => exact ⟨s, [], _, rfl, rfl, HP0.out, World.ownsRow_nil _ _ _ _, Below.refl _ _⟩
  case round =>
    obtain ⟨r, done, b, rfl, rfl, HP, HR, HW⟩ := hrel
    have h5 : (done.take 5).length = min 5 done.length := List.length_take
    obtain ⟨n, hn⟩ : ∃ n, (done.take 5).length = n := ⟨_, rfl⟩
    obtain ⟨F, hF⟩ : ∃ F, done.take 5 = F := ⟨_, rfl⟩
    rw [hn] at HR h5
    rw [hF] at HR
    have HNN := Lib.hid hn
    have HFF := Lib.hid hF
    have hn5 : n ≤ 5 := by omega
    have H5 := Lib.hid h5
    clear hn hF h5
    obtain ⟨A, c, rfl⟩ := own_form HR.out
    cases b with
    | true =>
      have hrs := HP.out.len
      have hps := Text.fstB_size r 44
      have HM := Lib.hid (show moreV (.bool true) = 1 from rfl)
      go_wp2_with fail
      refine (Text.cut_any r 44 (by omega) _ (HL.out.below HW.out).text).mono ?_
      rintro e w1 ⟨rfl, hb1⟩
      have HW1 := Lib.hid (HW.out.trans (hb1.mono HW.out.size))
      have HR1 := Lib.hid (Err.own_keep HR.out hb1)
      clear hb1
      obtain ⟨p, hp⟩ : ∃ p, Text.fstB r 44 = p := ⟨_, rfl⟩
      have HPP := Lib.hid hp
      rw [hp] at hps ⊢
      clear hp
      go_wp2_with fail
      refine (Text.cut_any p 61 (by omega) _ (HL.out.below HW1.out).text).mono ?_
      rintro e w2 ⟨rfl, hb2⟩
      have HW2 := Lib.hid (HW1.out.trans (hb2.mono HW1.out.size))
      have HR2 := Lib.hid (Err.own_keep HR1.out hb2)
      clear hb2
      cases ho : Text.hasB p 61 with
      | false =>
        have HE := Lib.hid (HP.out.none (by rw [HPP.out]; exact ho))
        clear ho
        go_wp2_with fail
        go_ret2
        exact parsed_nil HE.out HW2.out
      | true =>
        have HN := Lib.hid (HP.out.next (by rw [HPP.out]; exact ho))
        obtain ⟨t, ht⟩ : ∃ t, Text.hasB r 44 = t := ⟨_, rfl⟩
        have hless : (Text.sndB r 44).size + moreV (.bool t) < r.size + 1 := by
          cases t with
          | true => have := snd_less ht; show _ + 1 < _; omega
          | false => have := snd_none ht; show _ + 0 < _; omega
        have HLESS := Lib.hid hless
        obtain ⟨kx, hkx⟩ : ∃ z, Text.fstB p 61 = z := ⟨_, rfl⟩
        obtain ⟨vx, hvx⟩ : ∃ z, Text.sndB p 61 = z := ⟨_, rfl⟩
        have HN2 := Lib.hid (show PSt s (done ++ [⟨kx, vx⟩]) (Text.sndB r 44) t by
          have h := HN.out
          rw [HPP.out, ht] at h
          unfold partL at h
          rw [hkx, hvx] at h
          exact h)
        rw [ht, hkx, hvx]
        obtain ⟨r2, hr2⟩ : ∃ z, Text.sndB r 44 = z := ⟨_, rfl⟩
        rw [hr2] at HN2 HLESS ⊢
        clear ho HN ht hless hkx hvx hr2
        clear HR1 HR
        by_cases h4 : n ≤ 4
        · have hT := Lib.hid (show (done ++ [(⟨kx, vx⟩ : Lbl)]).take 5 = F ++ [⟨kx, vx⟩] by
            have := H5.out; rw [← HFF.out, List.take_append, List.take_of_length_le (l := done) (by omega), List.take_of_length_le (by simp; omega)])
          have h4' : (n : Int) ≤ 4 := by omega
          have HB3 := Lib.hid (HW2.out.alloc HW2.out.size (.cells #[.string kx, .string vx] 49))
          have HR3 := Lib.hid (HR2.out.alloc (.cells #[.string kx, .string vx] 49))
          have hsw := HW2.out.size
          go_wp2_with (at_builtin; refine wpList_append_own _ rfl _ _ 22 rfl w.heap.size 49 i0 _ 2 32 Tryz.underlying22 hi hz0 hz1 hz2 rfl (by decide) _ _ _ rfl HR3.out ⟨w2.heap.size, 0, none⟩ 1 1 [.string kx, .string vx] rfl rfl ?c1 ?c2 ?c3 ?c4 ?c5 ?_)
          case c1 =>
            intro j u hu
            rcases j with _ | _ | j
            · obtain rfl : Value.string kx = u := by simpa using hu
              show (w2.alloc (Obj.cells #[.string kx, .string vx] 49)).cell? ⟨w2.heap.size, 0, none⟩ = _
              simp
            · obtain rfl : Value.string vx = u := by simpa using hu
              show (w2.alloc (Obj.cells #[.string kx, .string vx] 49)).cell? ⟨w2.heap.size, 1, none⟩ = _
              simp
            · simp at hu
          case c2 =>
            intro u hu
            simp only [List.mem_cons, List.not_mem_nil, or_false] at hu
            rcases hu with rfl | rfl <;> rfl
          case c3 => unfold maxLen; omega
          case c4 => omega
          case c5 => simp; omega
          intro v' w3 hown' hgrow _
          have HN3 := Lib.hid (HB3.out.grown hgrow (by simp; omega) (fun j hj => (HR2.out.lt j hj).1))
          have HW3 := Lib.hid hown'
          clear hown' hgrow HR2 HR3
          go_wp2_with fail
          go_roundw
          case rel =>
            refine ⟨r2, done ++ [(⟨kx, vx⟩ : Lbl)], t, rfl, rfl, HN2.out, ?_, HN3.out⟩
            have h2 := HW3.out
            unfold Hid
            rw [hT.out, flatL_app, List.length_append, ← HFF.out, HNN.out, HFF.out]
            exact h2
          case measure => exact HLESS.out
        · have hT := Lib.hid (show (done ++ [(⟨kx, vx⟩ : Lbl)]).take 5 = F by
            have := H5.out; rw [← HFF.out, List.take_append_of_le_length (by omega)])
          have h4' : ¬ (n : Int) ≤ 4 := by omega
          go_wp2_with fail
          go_roundw
          case rel =>
            refine ⟨r2, done ++ [(⟨kx, vx⟩ : Lbl)], t, rfl, rfl, HN2.out, ?_, HW2.out⟩
            have h2 := HR2.out
            unfold Hid
            rw [hT.out, ← HFF.out, HNN.out, HFF.out]
            exact h2
          case measure => exact HLESS.out
    | false =>
      have HFL := Lib.hid (show F.length = n by rw [← HFF.out]; exact HNN.out)
      have HLBS := Lib.hid (show Lbls wr A F by
        have h := HR.out
        rw [← HFL.out] at h
        exact (lbls_own h).1)
      have HSH := Lib.hid (show ∀ x ∈ F, x.key.size ≤ 2000 ∧ x.val.size ≤ 2000 from fun x hx => by
        rw [← HFF.out] at hx
        have := HP.out.each x (List.mem_of_mem_take hx)
        omega)
      have HLG := Lib.hid (show Calls Tryz.prog 35 #[.string ⟨#[]⟩, .slice A n c] wr (Tells (labelsV ⟨#[]⟩ F) wr) by
        have h := labels_gen ⟨#[]⟩ A c F (by decide) (by rw [HFL.out]; omega) (fun x hx => by have := HSH.out x hx; omega) wr (HL.out.below HW.out) HLBS.out
        rw [HFL.out] at h
        exact h)
      go_wp2_with fail
      refine HLG.out.mono ?_
      rintro e w1 ⟨E, rfl, hE, hb1⟩
      have HW1 := Lib.hid (HW.out.trans (hb1.mono HW.out.size))
      have HR1 := Lib.hid (Err.own_keep HR.out hb1)
      have E1 := Lib.hid hE
      have hform := hE.form
      have hnil := hE.nil_iff
      clear hE hb1
      by_cases hz : (labelsV ⟨#[]⟩ F).1 = 0
      · obtain ⟨h4, he⟩ := HP.out.fine (by rw [HFF.out]; exact hz)
        have HE := Lib.hid he
        obtain rfl : E = .nilIface := hnil.2 hz
        obtain rfl : F = done := by rw [← HFF.out]; exact List.take_of_length_le (by omega)
        obtain rfl : F.length = n := HFL.out
        clear hform hnil hz HLBS HLG HR E1 he
        go_wp2_with fail
        rcases HR1.out.2 with ⟨e1, h0⟩ | ⟨g, cap, cur, e1, e2, e3, e4⟩
        · injection e1 with e1
          subst e1
          have hd : F = [] := List.eq_nil_of_length_eq_zero h0
          subst hd
          refine (ownTexts_none c w1).mono ?_
          rintro e w2 ⟨rfl, rfl⟩
          go_wp2_with fail
          go_ret2
          unfold Parsed
          rw [HE.out]
          exact ⟨none, _, rfl, lbls_nil _ _, from_none _, HW1.out⟩
        · injection e1 with e1 e5 e6
          subst e1
          refine (ownTexts_some w.heap.size g c F e2 (by omega) (fun x hx => by have := HSH.out x hx; omega) w1 HR1.out (lt_of_block e3)).mono ?_
          rintro e w2 ⟨rfl, hown2, hk2⟩
          have HO2 := Lib.hid (lbls_own hown2)
          have HB2 := Lib.hid (HW1.out.trans ((hk2.mono HW1.out.size).below e2))
          clear hown2 hk2
          go_wp2_with fail
          go_ret2
          unfold Parsed
          rw [HE.out]
          exact ⟨_, _, rfl, HO2.out.1, HO2.out.2, HB2.out⟩
      · have HE := Lib.hid (HP.out.bad (by rw [HFF.out]; exact hz))
        rw [HFF.out] at HE
        rcases hform with rfl | ⟨uu, xx, rfl⟩
        · exact absurd (hnil.1 rfl) hz
        · clear hnil hz
          go_wp2_with fail
          refine (code_says E1.out (HL.out.below HW1.out).err).mono ?_
          rintro e w2 ⟨rfl, hb2⟩
          have HW2 := Lib.hid (HW1.out.trans (hb2.mono HW1.out.size))
          clear hb2
          go_wp2_with fail
          go_ret2
          exact parsed_nil HE.out HW2.out
end Sl
end Go.Proofs.YtaegknpijgjioaaGreatDoor

/- The contracts of what looks for labels: slices.Index and slices.Contains at labels, sel.Fits, sel.Covers, sel.Get; the document's has, Fits, Get (provostref11). All that was there is left as it was. Conditions: the lists are lists; a value is short where it is cloned. -/
set_option linter.unusedVariables false
set_option linter.unusedSimpArgs false
namespace Go.Proofs.YtaegknpijgjioaaGreatDoor
open Go.ChangeShapes Go.WideShapes Go.ChangeAt Go.RowKit Go.Lib
open Sd Lists SpecOwn Book
namespace Sl

/-- the number of the first for which it holds; -1: none -/
def idxP {α : Type} (p : α → Bool) : Nat → List α → Int
  | _, [] => -1
  | k, x :: l => if p x = true then (k : Int) else idxP p (k + 1) l
theorem idxP_some {α : Type} (p : α → Bool) : ∀ (l : List α) (k : Nat), l.any p = true → 0 ≤ idxP p k l
  | [], _, h => by simp at h
  | x :: l, k, h => by
    rw [idxP]
    split
    · omega
    · rename_i h0
      exact idxP_some p l (k + 1) (by simpa [h0] using h)
theorem idxP_none {α : Type} (p : α → Bool) : ∀ (l : List α) (k : Nat), l.any p = false → idxP p k l = -1
  | [], _, _ => rfl
  | x :: l, k, h => by
    simp only [List.any_cons, Bool.or_eq_false_iff] at h
    rw [idxP, if_neg (by simp [h.1])]
    exact idxP_none p l (k + 1) h.2
theorem sameL_comm (x y : Lbl) : sameL x y = sameL y x := same_bool (by rw [sameL_iff, sameL_iff]; exact eq_comm)
set_option maxRecDepth 100000 in
theorem index_label (x : Lbl) (A : Option Addr) (c : Nat) (l : List Lbl) (hn : l.length ≤ 9223372036854775807) (w : World) (h : Lbls w A l) :
    Calls Tryz.prog 61 #[.slice A l.length c, .agg #[.string x.key, .string x.val]] w fun e w' => e = .returned (.int .i64 (idxP (fun y => sameL y x) 0 l)) ∧ Below w.heap.size w w' := by
  have H := Lib.hid h
  have hn' : (l.length : Int) ≤ 9223372036854775807 := by omega
  have hgd : Tryz.prog.eqGuardType Tryz.prog.depth 49 = false := by kernel_rfl
  clear h
  obtain ⟨R, hR⟩ : ∃ R, idxP (fun y => sameL y x) 0 l = R := ⟨_, rfl⟩
  rw [hR]
  have HR := Lib.hid hR
  clear hR
  go_enter Tryz.func61, Tryz.ntmps61
  go_wp2_with fail
  obtain ⟨w1, hw1⟩ : ∃ v, w.alloc (.cells #[.string x.key, .string x.val] 49) = v := ⟨_, rfl⟩
  have HB1 := Lib.hid (show Below w.heap.size w w1 by rw [← hw1]; exact (Below.refl _ _).alloc (Nat.le_refl _) _)
  have HX1 := Lib.hid (show LBox x w1 w.heap.size by rw [← hw1]; exact heap_alloc_new w _)
  rw [hw1]
  obtain ⟨bx, hbx⟩ : ∃ b, w.heap.size = b := ⟨_, rfl⟩
  rw [hbx] at HX1 ⊢
  have HBX := Lib.hid hbx
  clear hw1 hbx
  go_loopw [8] (fun i wr => ∃ k : Nat, k ≤ l.length ∧ i = .int .i64 k ∧ Hid (R = idxP (fun y => sameL y x) k (l.drop k)) ∧ Hid (Below w1.heap.size w1 wr)) (fun i _ => l.length - (RowKit.intOf i).toNat)
  case atStart => exact ⟨0, Nat.zero_le _, rfl, by unfold Hid; rw [← HR.out, List.drop_zero], Below.refl _ _⟩
  case round =>
    obtain ⟨k, hk, rfl, HK, HW⟩ := hrel
    have HWW := Lib.hid (HB1.out.trans (HW.out.mono HB1.out.size))
    by_cases hlt : k < l.length
    · obtain ⟨p, rfl, hp, hc⟩ := (H.out.below HWW.out).at hlt
      have HD := Lib.hid (List.drop_eq_getElem_cons hlt)
      obtain ⟨y, hy⟩ : ∃ y, l[k] = y := ⟨_, rfl⟩
      rw [hy] at hc
      have HY := Lib.hid hy
      obtain ⟨c0, c1⟩ := hc
      obtain ⟨d0, d1, _, _⟩ := two_cells (HX1.out.keep HW.out)
      obtain ⟨t, ht⟩ : ∃ t : Bool, sameL y x = t := ⟨_, rfl⟩
      have heq := fun v => eql_label x y v
      rw [sameL_comm, ht] at heq
      have HT := Lib.hid ht
      have hkn : (k : Int) < (l.length : Int) := by omega
      clear hy hp ht
      cases t with
      | true =>
        have HE := Lib.hid (show R = (k : Int) by rw [HK.out, HD.out, HY.out, idxP, if_pos HT.out])
        go_wp2_with fail
        go_quiet (fail)
        go_wp2
        go_ret
        exact ⟨by rw [HE.out]; rfl, HWW.out.trans ((Kit.below_drewN _ _ _).mono HWW.out.size)⟩
      | false =>
        have HE := Lib.hid (show R = idxP (fun y => sameL y x) (k + 1) (l.drop (k + 1)) by rw [HK.out, HD.out, HY.out, idxP, if_neg (by rw [HT.out]; simp)])
        go_wp2_with fail
        go_quiet (fail)
        go_wp2
        go_roundw
        case rel => exact ⟨k + 1, by omega, by go_num, HE.out, HW.out.trans ((Kit.below_drewN _ _ _).mono HW.out.size)⟩
        case measure => simp [RowKit.intOf]; omega
    · have HE := Lib.hid (show R = -1 by rw [HK.out, List.drop_eq_nil_of_le (by omega)]; rfl)
      go_wp2
      go_ret
      exact ⟨by rw [HE.out]; rfl, HWW.out⟩
theorem hasL_any (l : List Lbl) (x : Lbl) : hasL l x = l.any fun y => sameL y x := rfl
set_option maxRecDepth 100000 in
theorem contains_label (x : Lbl) (A : Option Addr) (c : Nat) (l : List Lbl) (hn : l.length ≤ 9223372036854775807) (w : World) (h : Lbls w A l) :
    Calls Tryz.prog 38 #[.slice A l.length c, .agg #[.string x.key, .string x.val]] w fun e w' => e = .returned (.bool (hasL l x)) ∧ Below w.heap.size w w' := by
  have H := Lib.hid h
  clear h
  obtain ⟨b, hb⟩ : ∃ b, hasL l x = b := ⟨_, rfl⟩
  rw [hb]
  obtain ⟨z, hz⟩ : ∃ z, idxP (fun y => sameL y x) 0 l = z := ⟨_, rfl⟩
  have HZ := Lib.hid hz
  have HI := Lib.hid (show ∀ w1, Below w.heap.size w w1 → Calls Tryz.prog 61 #[.slice A l.length c, .agg #[.string x.key, .string x.val]] w1 fun e w' => e = .returned (.int .i64 z) ∧ Below w1.heap.size w1 w' from fun w1 hb1 => by have h := index_label x A c l hn w1 (H.out.below hb1); rw [hz] at h; exact h)
  have hz0 : 0 ≤ z ∧ b = true ∨ z = -1 ∧ b = false := by
    cases b with
    | true => exact .inl ⟨hz ▸ idxP_some _ l 0 hb, rfl⟩
    | false => exact .inr ⟨hz ▸ idxP_none _ l 0 hb, rfl⟩
  clear hb hz HZ
  rcases hz0 with ⟨h0, rfl⟩ | ⟨rfl, rfl⟩
  all_goals
    go_enter Tryz.func38, Tryz.ntmps38
    go_wp2_with fail
    refine (HI.out _ ((Below.refl _ _).alloc (Nat.le_refl _) _)).mono ?_
    rintro e w1 ⟨rfl, hb⟩
    have HB := Lib.hid (((Below.refl w.heap.size w).alloc (Nat.le_refl _) _).trans (hb.mono (by simp)))
    clear hb
    go_wp2
    go_ret
    exact ⟨rfl, HB.out⟩
theorem fitsL_nil (l : List Lbl) : fitsL [] l = true := rfl
theorem fitsL_cons (x : Lbl) (s l : List Lbl) : fitsL (x :: s) l = (hasL l x && fitsL s l) := rfl
set_option maxRecDepth 100000 in
theorem fits_any (A : Option Addr) (c : Nat) (s : List Lbl) (B : Option Addr) (d : Nat) (l : List Lbl) (hs : s.length ≤ 9223372036854775807) (hl : l.length ≤ 9223372036854775807) (w : World) (hA : Lbls w A s) (hB : Lbls w B l) :
    Calls Tryz.prog 21 #[.slice A s.length c, .slice B l.length d] w fun e w' => e = .returned (.bool (fitsL s l)) ∧ Below w.heap.size w w' := by
  have HA := Lib.hid hA
  have HB := Lib.hid hB
  have hs' : (s.length : Int) ≤ 9223372036854775807 := by omega
  clear hA hB
  obtain ⟨R, hR⟩ : ∃ R, fitsL s l = R := ⟨_, rfl⟩
  rw [hR]
  have HR := Lib.hid hR
  clear hR
  go_enter Tryz.func21, Tryz.ntmps21
  go_wp2_with fail
  go_loopw [9] (fun i wr => ∃ k : Nat, k ≤ s.length ∧ i = .int .i64 k ∧ Hid (R = fitsL (s.drop k) l) ∧ Hid (Below w.heap.size w wr)) (fun i _ => s.length - (RowKit.intOf i).toNat)
  case atStart => exact ⟨0, Nat.zero_le _, rfl, by unfold Hid; rw [← HR.out, List.drop_zero], Below.refl _ _⟩
  case round =>
    obtain ⟨k, hk, rfl, HK, HW⟩ := hrel
    by_cases hlt : k < s.length
    · obtain ⟨p, rfl, hp, hc⟩ := (HA.out.below HW.out).at hlt
      have HD := Lib.hid (List.drop_eq_getElem_cons hlt)
      obtain ⟨x, hx⟩ : ∃ x, s[k] = x := ⟨_, rfl⟩
      rw [hx] at hc
      have HX := Lib.hid hx
      obtain ⟨c0, c1⟩ := hc
      have hkn : (k : Int) < (s.length : Int) := by omega
      clear hx hp
      go_wp2_with fail
      have HN := Lib.hid ((Below.refl wr.heap.size wr).alloc (Nat.le_refl _) (.cells #[.string x.key, .string x.val] 49))
      have HWN := Lib.hid (HW.out.trans (HN.out.mono HW.out.size))
      refine (contains_label x B d l hl _ (HB.out.below HWN.out)).mono ?_
      rintro e w2 ⟨rfl, hb2⟩
      have HW2 := Lib.hid (HWN.out.trans (hb2.mono HWN.out.size))
      clear hb2
      cases hh : hasL l x with
      | false =>
        have HE := Lib.hid (show R = false by rw [HK.out, HD.out, HX.out, fitsL_cons, hh]; rfl)
        clear hh
        go_wp2_with fail
        go_ret
        exact ⟨by rw [HE.out]; rfl, HW2.out⟩
      | true =>
        have HE := Lib.hid (show R = fitsL (s.drop (k + 1)) l by rw [HK.out, HD.out, HX.out, fitsL_cons, hh, Bool.true_and])
        clear hh
        go_wp2_with fail
        go_roundw
        case rel => exact ⟨k + 1, by omega, by go_num, HE.out, HW2.out⟩
        case measure => simp [RowKit.intOf]; omega
    · have HE := Lib.hid (show R = true by rw [HK.out, List.drop_eq_nil_of_le (by omega), fitsL_nil])
      go_wp2_with fail
      go_ret
      exact ⟨by rw [HE.out]; rfl, HW.out⟩
theorem covers_any (A : Option Addr) (c : Nat) (s : List Lbl) (B : Option Addr) (d : Nat) (l : List Lbl) (hs : s.length ≤ 9223372036854775807) (hl : l.length ≤ 9223372036854775807) (w : World) (hA : Lbls w A s) (hB : Lbls w B l) :
    Calls Tryz.prog 22 #[.slice A s.length c, .slice B l.length d] w fun e w' => e = .returned (.bool (fitsL s l)) ∧ Below w.heap.size w w' := by
  go_enter Tryz.func22, Tryz.ntmps22
  go_wp2_with fail
  refine (fits_any A c s B d l hs hl w hA hB).mono ?_
  rintro e w2 ⟨rfl, hb2⟩
  go_wp2
  go_ret
  exact ⟨rfl, hb2⟩
/-- the value of a key -/
def getV (l : List Lbl) (k : ByteArray) : ByteArray := (getL l k).getD ⟨#[]⟩
def getB (l : List Lbl) (k : ByteArray) : Bool := (getL l k).isSome
theorem getL_nil (k : ByteArray) : getL [] k = none := rfl
theorem getL_yes {x : Lbl} {l : List Lbl} {k : ByteArray} (h : (x.key.toList == k.toList) = true) : getL (x :: l) k = some x.val := by
  unfold getL; rw [List.find?_cons, h]; rfl
theorem getL_no {x : Lbl} {l : List Lbl} {k : ByteArray} (h : (x.key.toList == k.toList) = false) : getL (x :: l) k = getL l k := by
  unfold getL; rw [List.find?_cons, h]
theorem ret_get {l : List Lbl} {k v : ByteArray} {b : Bool} {R : Option ByteArray} (h : getL l k = R) (h1 : R.getD ⟨#[]⟩ = v) (h2 : R.isSome = b) : Ending.returned (.tuple #[.string v, .bool b]) = .returned (.tuple #[.string (getV l k), .bool (getB l k)]) := by
  unfold getV getB; rw [h, h1, h2]
/-! ### the document's -/
set_option maxRecDepth 100000 in
theorem has_ref (x : Lbl) (A : Option Addr) (c : Nat) (l : List Lbl) (hn : l.length ≤ 9223372036854775807) (w : World) (h : Lbls w A l) :
    Calls Tryz.prog 24 #[.slice A l.length c, .agg #[.string x.key, .string x.val]] w fun e w' => e = .returned (.bool (hasL l x)) ∧ Below w.heap.size w w' := by
  have H := Lib.hid h
  have hn' : (l.length : Int) ≤ 9223372036854775807 := by omega
  have hgd : Tryz.prog.eqGuardType Tryz.prog.depth 49 = false := by kernel_rfl
  clear h
  obtain ⟨R, hR⟩ : ∃ R, hasL l x = R := ⟨_, rfl⟩
  rw [hR]
  have HR := Lib.hid hR
  clear hR
  go_enter Tryz.func24, Tryz.ntmps24
  go_wp2_with fail
  obtain ⟨w1, hw1⟩ : ∃ v, w.alloc (.cells #[.string x.key, .string x.val] 49) = v := ⟨_, rfl⟩
  have HB1 := Lib.hid (show Below w.heap.size w w1 by rw [← hw1]; exact (Below.refl _ _).alloc (Nat.le_refl _) _)
  have HX1 := Lib.hid (show LBox x w1 w.heap.size by rw [← hw1]; exact heap_alloc_new w _)
  rw [hw1]
  obtain ⟨bx, hbx⟩ : ∃ b, w.heap.size = b := ⟨_, rfl⟩
  rw [hbx] at HX1 ⊢
  have HBX := Lib.hid hbx
  clear hw1 hbx
  go_loopw [5] (fun i wr => ∃ k : Nat, k ≤ l.length ∧ i = .int .i64 k ∧ Hid (R = hasL (l.drop k) x) ∧ Hid (Below w1.heap.size w1 wr)) (fun i _ => l.length - (RowKit.intOf i).toNat)
  case atStart => exact ⟨0, Nat.zero_le _, rfl, by unfold Hid; rw [← HR.out, List.drop_zero], Below.refl _ _⟩
  case round =>
    obtain ⟨k, hk, rfl, HK, HW⟩ := hrel
    have HWW := Lib.hid (HB1.out.trans (HW.out.mono HB1.out.size))
    by_cases hlt : k < l.length
    · obtain ⟨p, rfl, hp, hc⟩ := (H.out.below HWW.out).at hlt
      have HD := Lib.hid (List.drop_eq_getElem_cons hlt)
      obtain ⟨y, hy⟩ : ∃ y, l[k] = y := ⟨_, rfl⟩
      rw [hy] at hc
      have HY := Lib.hid hy
      obtain ⟨c0, c1⟩ := hc
      obtain ⟨d0, d1, _, _⟩ := two_cells (HX1.out.keep HW.out)
      obtain ⟨t, ht⟩ : ∃ t : Bool, sameL y x = t := ⟨_, rfl⟩
      have heq := fun v => eql_label y x v
      rw [ht] at heq
      have HT := Lib.hid ht
      have hkn : (k : Int) < (l.length : Int) := by omega
      clear hy hp ht
      cases t with
      | true =>
        have HE := Lib.hid (show R = true by rw [HK.out, HD.out, HY.out, hasL_any, List.any_cons, HT.out]; rfl)
        go_wp2_with fail
        go_quiet (fail)
        go_wp2
        go_ret
        exact ⟨by rw [HE.out]; rfl, HWW.out.trans ((Kit.below_drewN _ _ _).mono HWW.out.size)⟩
      | false =>
        have HE := Lib.hid (show R = hasL (l.drop (k + 1)) x by rw [HK.out, HD.out, HY.out, hasL_any, List.any_cons, HT.out]; rfl)
        go_wp2_with fail
        go_quiet (fail)
        go_wp2
        go_roundw
        case rel => exact ⟨k + 1, by omega, by go_num, HE.out, HW.out.trans ((Kit.below_drewN _ _ _).mono HW.out.size)⟩
        case measure => simp [RowKit.intOf]; omega
    · have HE := Lib.hid (show R = false by rw [HK.out, List.drop_eq_nil_of_le (by omega)]; rfl)
      go_wp2
      go_ret
      exact ⟨by rw [HE.out]; rfl, HWW.out⟩
set_option maxRecDepth 100000 in
theorem fits_ref (A : Option Addr) (c : Nat) (s : List Lbl) (B : Option Addr) (d : Nat) (l : List Lbl) (hs : s.length ≤ 9223372036854775807) (hl : l.length ≤ 9223372036854775807) (w : World) (hA : Lbls w A s) (hB : Lbls w B l) :
    Calls Tryz.prog 10 #[.slice A s.length c, .slice B l.length d] w fun e w' => e = .returned (.bool (fitsL s l)) ∧ Below w.heap.size w w' := by
  have HA := Lib.hid hA
  have HB := Lib.hid hB
  have hs' : (s.length : Int) ≤ 9223372036854775807 := by omega
  clear hA hB
  obtain ⟨R, hR⟩ : ∃ R, fitsL s l = R := ⟨_, rfl⟩
  rw [hR]
  have HR := Lib.hid hR
  clear hR
  go_enter Tryz.func10, Tryz.ntmps10
  go_wp2_with fail
  go_loopw [5] (fun i wr => ∃ k : Nat, k ≤ s.length ∧ i = .int .i64 k ∧ Hid (R = fitsL (s.drop k) l) ∧ Hid (Below w.heap.size w wr)) (fun i _ => s.length - (RowKit.intOf i).toNat)
  case atStart => exact ⟨0, Nat.zero_le _, rfl, by unfold Hid; rw [← HR.out, List.drop_zero], Below.refl _ _⟩
  case round =>
    obtain ⟨k, hk, rfl, HK, HW⟩ := hrel
    by_cases hlt : k < s.length
    · obtain ⟨p, rfl, hp, hc⟩ := (HA.out.below HW.out).at hlt
      have HD := Lib.hid (List.drop_eq_getElem_cons hlt)
      obtain ⟨x, hx⟩ : ∃ x, s[k] = x := ⟨_, rfl⟩
      rw [hx] at hc
      have HX := Lib.hid hx
      obtain ⟨c0, c1⟩ := hc
      have hkn : (k : Int) < (s.length : Int) := by omega
      clear hx hp
      go_wp2_with fail
      refine (has_ref x B d l hl wr (HB.out.below HW.out)).mono ?_
      rintro e w2 ⟨rfl, hb2⟩
      have HW2 := Lib.hid (HW.out.trans (hb2.mono HW.out.size))
      clear hb2
      cases hh : hasL l x with
      | false =>
        have HE := Lib.hid (show R = false by rw [HK.out, HD.out, HX.out, fitsL_cons, hh]; rfl)
        clear hh
        go_wp2_with fail
        go_ret
        exact ⟨by rw [HE.out]; rfl, HW2.out⟩
      | true =>
        have HE := Lib.hid (show R = fitsL (s.drop (k + 1)) l by rw [HK.out, HD.out, HX.out, fitsL_cons, hh, Bool.true_and])
        clear hh
        go_wp2_with fail
        go_roundw
        case rel => exact ⟨k + 1, by omega, by go_num, HE.out, HW2.out⟩
        case measure => simp [RowKit.intOf]; omega
    · have HE := Lib.hid (show R = true by rw [HK.out, List.drop_eq_nil_of_le (by omega), fitsL_nil])
      go_wp2_with fail
      go_ret
      exact ⟨by rw [HE.out]; rfl, HW.out⟩
set_option maxRecDepth 100000 in
theorem get_ref (A : Option Addr) (c : Nat) (l : List Lbl) (key : ByteArray) (hl : l.length ≤ 9223372036854775807) (w : World) (hA : Lbls w A l) :
    Calls Tryz.prog 33 #[.slice A l.length c, .string key] w fun e w' => e = .returned (.tuple #[.string (getV l key), .bool (getB l key)]) ∧ w = w' := by
  have HA := Lib.hid hA
  have hs' : (l.length : Int) ≤ 9223372036854775807 := by omega
  clear hA
  obtain ⟨R, hR⟩ : ∃ R, getL l key = R := ⟨_, rfl⟩
  have HR := Lib.hid hR
  clear hR
  go_enter Tryz.func33, Tryz.ntmps33
  go_wp2_with fail
  go_loop [6] (fun i => ∃ k : Nat, k ≤ l.length ∧ i = .int .i64 k ∧ Hid (R = getL (l.drop k) key)) (fun i => l.length - (RowKit.intOf i).toNat)
  case atStart => exact ⟨0, Nat.zero_le _, rfl, by unfold Hid; rw [← HR.out, List.drop_zero]⟩
  case round =>
    obtain ⟨k, hk, rfl, HK⟩ := hrel
    by_cases hlt : k < l.length
    · obtain ⟨p, rfl, hp, hc⟩ := HA.out.at hlt
      have HD := Lib.hid (List.drop_eq_getElem_cons hlt)
      obtain ⟨x, hx⟩ : ∃ x, l[k] = x := ⟨_, rfl⟩
      rw [hx] at hc
      have HX := Lib.hid hx
      obtain ⟨c0, c1⟩ := hc
      have hkn : (k : Int) < (l.length : Int) := by omega
      clear hx hp
      cases hh : (x.key.toList == key.toList) with
      | false =>
        have HE := Lib.hid (show R = getL (l.drop (k + 1)) key by rw [HK.out, HD.out, HX.out, getL_no hh])
        go_wp2_with fail
        go_round
        case rel => exact ⟨k + 1, by omega, by go_num, HE.out⟩
        case measure => simp [RowKit.intOf]; omega
      | true =>
        have HE := Lib.hid (show R = some x.val by rw [HK.out, HD.out, HX.out, getL_yes hh])
        go_wp2_with fail
        go_ret2
        exact ⟨ret_get HR.out (by rw [HE.out]; rfl) (by rw [HE.out]; rfl), rfl⟩
    · have HE := Lib.hid (show R = none by rw [HK.out, List.drop_eq_nil_of_le (by omega), getL_nil])
      go_wp2_with fail
      go_ret2
      exact ⟨ret_get HR.out (by rw [HE.out]; rfl) (by rw [HE.out]; rfl), rfl⟩
end Sl
end Go.Proofs.YtaegknpijgjioaaGreatDoor

/- The chapter's example of package sel holds (provostlaw11.works); provostlaw11.right and light: are labels a selector, are they not too much? Condition: the listed variables hold what the program's text lays (SLaid). -/
set_option linter.unusedVariables false
set_option linter.unusedSimpArgs false
namespace Go.Proofs.YtaegknpijgjioaaGreatDoor
open Go.ChangeShapes Go.WideShapes Go.ChangeAt Go.RowKit Go.Lib
open Sd Lists SpecOwn Book TextPure
namespace Sl

def rightL (l : List Lbl) : Bool := (labelsV ⟨#[115, 101, 108]⟩ l).1 == 0
theorem right_yes {l : List Lbl} (h : rightL l = true) : Right l := right_of (by simpa [rightL] using h)
theorem right_any (A : Option Addr) (c : Nat) (l : List Lbl) (hl : l.length ≤ 9223372036854775807) (w : World) (hA : Lbls w A l) :
    Calls Tryz.prog 13 #[.slice A l.length c] w fun e w' => e = .returned (.bool (rightL l)) ∧ Below w.heap.size w w' := by
  obtain ⟨R, hR⟩ : ∃ R, rightL l = R := ⟨_, rfl⟩
  have hlab := SpecRef.labels_ref_all ⟨#[115, 101, 108]⟩ A c l (by decide) hl w hA
  unfold rightL at hR
  obtain ⟨y, hy⟩ : ∃ y, labelsV ⟨#[115, 101, 108]⟩ l = y := ⟨_, rfl⟩
  rw [hy] at hlab hR
  have HE := Lib.hid (show rightL l = R by unfold rightL; rw [hy]; exact hR)
  have HLAB := Lib.hid hlab
  clear hlab hy hA
  go_enter Tryz.func13, Tryz.ntmps13
  go_wp2_with fail
  refine HLAB.out.mono ?_
  rintro e w1 ⟨rfl, hb⟩
  have HB := Lib.hid hb
  clear hb
  go_wp2_with fail
  go_ret
  exact ⟨by rw [HE.out]; rfl, HB.out⟩
/-- a spec of labels alone -/
def LSp (l : List Lbl) : Spc := ⟨⟨#[]⟩, l, [], [], 0, 0, 0⟩
theorem lsp_in {w : World} {A : Option Addr} {c : Nat} {l : List Lbl} (h : Lbls w A l) (hn : l.length ≤ 9223372036854775807) : (LSp l).In w A c none 0 none 0 :=
  ⟨h, fun k x hk => by simp [LSp] at hk, fun k x hk => by simp [LSp] at hk, hn, by simp [LSp], by simp [LSp], (show I64 0 from ⟨by decide, by decide⟩), (show I64 0 from ⟨by decide, by decide⟩), (show I64 0 from ⟨by decide, by decide⟩)⟩
def lightLL (l : List Lbl) : Bool := LightB (LSp l)
theorem lightL_yes {l : List Lbl} (h : lightLL l = true) : l.length ≤ 10 ∧ ∀ x ∈ l, x.key.size ≤ 100 ∧ x.val.size ≤ 100 := by
  have h1 := LightB_iff.1 h
  exact ⟨h1.1.2.1, h1.2.1⟩
theorem Short.of_light {l : List Lbl} (h : lightLL l = true) : Short l := by
  obtain ⟨h1, h2⟩ := lightL_yes h
  exact ⟨by omega, fun x hx => by have := h2 x hx; omega⟩
theorem lightl_any (A : Option Addr) (c : Nat) (l : List Lbl) (hl : l.length ≤ 9223372036854775807) (w : World) (hA : Lbls w A l) :
    Calls Tryz.prog 7 #[.slice A l.length c] w fun e w' => e = .returned (.bool (lightLL l)) ∧ Below w.heap.size w w' := by
  have HLI := Lib.hid (show Calls Tryz.prog 9 #[.agg #[.string ⟨#[]⟩, .slice A l.length c, .slice none 0 0, .slice none 0 0, .int .i64 0, .int .i64 0, .int .i64 0]] w fun e w' => e = .returned (.bool (lightLL l)) ∧ Below w.heap.size w w' from light_any (LSp l) A c none 0 none 0 w (lsp_in hA hl))
  obtain ⟨R, hR⟩ : ∃ R, lightLL l = R := ⟨_, rfl⟩
  rw [hR] at HLI ⊢
  clear hR hA
  go_enter Tryz.func7, Tryz.ntmps7
  go_wp2_with fail
  refine HLI.out.mono ?_
  rintro e w1 ⟨rfl, hb⟩
  have HB := Lib.hid hb
  clear hb
  go_wp2_with fail
  go_ret
  exact ⟨rfl, HB.out⟩
/-- the example -/
def L2 : List Lbl := [⟨⟨#[97]⟩, ⟨#[120]⟩⟩, ⟨⟨#[98]⟩, ⟨#[]⟩⟩]
theorem parse_l2 : parseV [97, 61, 120, 44, 98, 61] = (L2, 0) := by kernel_rfl
theorem parse_bad : parseV [97, 61, 120, 44] = ([], 3) := by kernel_rfl
theorem text_l2 : (⟨(textL L2).toArray⟩ : ByteArray) = ⟨#[97, 61, 120, 44, 98, 61]⟩ := by kernel_rfl
theorem short_l2 : Short L2 := ⟨by decide, fun x hx => by
  unfold L2 at hx
  simp only [List.mem_cons, List.not_mem_nil, or_false] at hx
  rcases hx with rfl | rfl <;> (constructor <;> decide)⟩
theorem parse_1 (w : World) (hL : SLaid w) : Calls Tryz.prog 17 #[.string ⟨#[97, 61, 120, 44, 98, 61]⟩] w fun e w' => ∃ A c, e = .returned (.tuple #[.slice A 2 c, .int .i64 0]) ∧ Lbls w' A L2 ∧ Below w.heap.size w w' := by
  refine (parse_any ⟨#[97, 61, 120, 44, 98, 61]⟩ (by decide) w hL).mono ?_
  rintro e w' ⟨A, c, rfl, h1, _, hb⟩
  rw [parse_l2] at h1 ⊢
  exact ⟨A, c, rfl, h1, hb⟩
theorem parse_2 (w : World) (hL : SLaid w) : Calls Tryz.prog 17 #[.string ⟨#[97, 61, 120, 44]⟩] w fun e w' => ∃ A c, e = .returned (.tuple #[.slice A 0 c, .int .i64 3]) ∧ Below w.heap.size w w' := by
  refine (parse_any ⟨#[97, 61, 120, 44]⟩ (by decide) w hL).mono ?_
  rintro e w' ⟨A, c, rfl, h1, _, hb⟩
  rw [parse_bad]
  exact ⟨A, c, rfl, hb⟩
theorem text_1 (A : Option Addr) (c : Nat) (w : World) (h : Lbls w A L2) : Calls Tryz.prog 19 #[.slice A 2 c] w fun e w' => e = .returned (.string ⟨#[97, 61, 120, 44, 98, 61]⟩) ∧ Below w.heap.size w w' := by
  refine (text_any A c L2 short_l2 w h).mono ?_
  rw [text_l2]
  rintro e w' h
  exact h
theorem fits_1 (w : World) : Calls Tryz.prog 21 #[.slice none 0 0, .slice none 0 0] w fun e w' => e = .returned (.bool true) ∧ Below w.heap.size w w' :=
  fits_any none 0 [] none 0 [] (by decide) (by decide) w (lbls_nil _ _) (lbls_nil _ _)
theorem fits_2 (A : Option Addr) (c : Nat) (w : World) (h : Lbls w A L2) : Calls Tryz.prog 21 #[.slice A 2 c, .slice none 0 0] w fun e w' => e = .returned (.bool false) ∧ Below w.heap.size w w' :=
  fits_any A c L2 none 0 [] (by decide) (by decide) w h (lbls_nil _ _)
theorem eql_1 (v : World) : (binOp BinOp.eql 49 (.agg #[.string ⟨#[97]⟩, .string ⟨#[120]⟩]) (.agg #[.string ⟨#[97]⟩, .string ⟨#[120]⟩])).run Tryz.prog v = .ok (.bool true) v := by
  have h := eql_label ⟨⟨#[97]⟩, ⟨#[120]⟩⟩ ⟨⟨#[97]⟩, ⟨#[120]⟩⟩ v
  rw [(sameL_iff _ _).2 rfl] at h
  exact h
set_option maxRecDepth 100000 in
set_option maxHeartbeats 4000000 in
theorem works_any (w : World) (hL : SLaid w) :
    Calls Tryz.prog 8 #[] w fun e w' => e = .returned (.bool true) ∧ Below w.heap.size w w' := by
  have HL := Lib.hid hL
  have hgd : Tryz.prog.eqGuardType Tryz.prog.depth 49 = false := by kernel_rfl
  have heq := eql_1
  clear hL
  go_enter Tryz.func8, Tryz.ntmps8
  go_wp2_with fail
  refine (parse_1 w HL.out).mono ?_
  rintro e w1 ⟨A, c, rfl, hA, hb1⟩
  have B1 := Lib.hid hb1
  have H1 := Lib.hid hA
  clear hA hb1
  go_wp2_with fail
  refine (parse_2 w1 (HL.out.below B1.out)).mono ?_
  rintro e w2 ⟨A2, c2, rfl, hb2⟩
  have B2 := Lib.hid (B1.out.trans (hb2.mono B1.out.size))
  have H2 := Lib.hid (H1.out.below hb2)
  clear hb2
  obtain ⟨p, rfl, hp, hc0, hc1⟩ := H2.out 0 _ rfl
  rw [show p.add (0 * 2) = p from by simp [Addr.add]] at hc0
  rw [show p.add (0 * 2) = p from by simp [Addr.add]] at hc1
  clear hp
  go_wp2_with fail
  clear hc0 hc1
  refine (text_1 _ c w2 H2.out).mono ?_
  rintro e w3 ⟨rfl, hb3⟩
  have B3 := Lib.hid (B2.out.trans (hb3.mono B2.out.size))
  have H3 := Lib.hid (H2.out.below hb3)
  clear hb3
  go_wp2_with fail
  refine (fits_1 w3).mono ?_
  rintro e w4 ⟨rfl, hb4⟩
  have B4 := Lib.hid (B3.out.trans (hb4.mono B3.out.size))
  have H4 := Lib.hid (H3.out.below hb4)
  clear hb4
  go_wp2_with fail
  refine (fits_2 _ c w4 H4.out).mono ?_
  rintro e w5 ⟨rfl, hb5⟩
  have B5 := Lib.hid (B4.out.trans (hb5.mono B4.out.size))
  clear hb5
  go_wp2_with fail
  go_ret
  exact ⟨rfl, B5.out⟩
end Sl
end Go.Proofs.YtaegknpijgjioaaGreatDoor
