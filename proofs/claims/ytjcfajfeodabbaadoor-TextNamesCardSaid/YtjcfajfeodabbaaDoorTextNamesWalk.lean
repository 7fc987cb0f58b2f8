/-
  The walk of the law provost/provostlaw03.TextNames: it answers true, and leaves all that was there as it was. Conditions: the table and internal/bytealg.MaxLen hold what they may (Laid); the texts are no longer than a Go string may be.
-/
import Derived.Test.YtjcfajfeodabbaaDoorTextWorks
import Derived.Test.YtjcfajfeodabbaaDoorTextMore
import Derived.Laws.Concat
namespace Go.Proofs.YtjcfajfeodabbaaDoor
open Go.ChangeShapes Go.WideShapes Go.ChangeAt Go.RowKit
open TextPure
namespace Text

set_option maxRecDepth 100000 in
set_option maxHeartbeats 2000000 in
theorem textNames_walk (s t : ByteArray) (at0 : Int) (hs : s.size ≤ maxLen) (ht : t.size ≤ maxLen) (ha : (Lit.int .i64 at0).wf = true) (w : World) (hL : Laid w) :
    Calls Tryd.prog 6 #[.string s, .string t, .int .i64 at0] w fun e w' => e = .returned (.bool true) ∧ Below w.heap.size w w' := by
  have HL := Lib.hid hL
  clear hL
  have HS := Lib.hid hs
  have HT := Lib.hid ht
  clear hs ht
  have hc0 : ∀ c, codeN true c = 0 := fun c => rfl
  have hc1 : ∀ c, codeN false c = c := fun c => rfl
  go_enter Tryd.func6, Tryd.ntmps6
  go_wp2_with fail
  refine (works_any _ HL.out).mono ?_
  rintro e w1 ⟨rfl, hb⟩
  have HB1 := Lib.hid hb
  have HL1 := Lib.hid (HL.out.below hb)
  clear hb HL
  go_wp2_with fail
  refine (name_any s HS.out _ HL1.out).mono ?_
  rintro e w' ⟨rfl, rfl⟩
  cases hn : nameL s.data.toList with
  | false =>
    go_wp2_with fail
    go_ret
    exact ⟨rfl, HB1.out⟩
  | true =>
  go_wp2_with fail
  refine (name_any t HT.out _ HL1.out).mono ?_
  rintro e w' ⟨rfl, rfl⟩
  cases hm : nameL t.data.toList with
  | false =>
    go_wp2_with fail
    go_ret
    exact ⟨rfl, HB1.out⟩
  | true =>
  obtain ⟨s1, s16⟩ := sizes_name hn
  obtain ⟨t1, t16⟩ := sizes_name hm
  have k1 := Lib.hid (show codeN (keyL s.data.toList) 31 = 0 by rw [name_key hn]; rfl)
  have k2 := Lib.hid (show codeN (valL s.data.toList) 32 = 0 by rw [name_val hn]; rfl)
  have k3 := Lib.hid (show codeN (imageB (s ++ ⟨#[58, 49]⟩)) 33 = 0 by rw [name_image hn]; rfl)
  have k4 := Lib.hid (show codeN (keyL (s ++ ⟨#[47]⟩ ++ t).data.toList) 31 = 0 by rw [names_key hn hm]; rfl)
  have k5 := Lib.hid (show codeN (keyL (s ++ ⟨#[47]⟩ ++ t ++ ⟨#[47]⟩ ++ s).data.toList) 31 = 31 by rw [three_key hn]; rfl)
  have k6 := Lib.hid (show codeN (nameL (s ++ ⟨#[47]⟩ ++ t).data.toList) 30 = 30 by rw [two_name]; rfl)
  have y3 : (s ++ ⟨#[58, 49]⟩).size = s.size + 2 := by rw [ByteArray.size_append]; rfl
  have y0 : (s ++ ⟨#[47]⟩).size = s.size + 1 := by rw [ByteArray.size_append]; rfl
  have y4 : (s ++ ⟨#[47]⟩ ++ t).size = s.size + 1 + t.size := by rw [ByteArray.size_append, y0]
  have y5 : (s ++ ⟨#[47]⟩ ++ t ++ ⟨#[47]⟩).size = s.size + 1 + t.size + 1 := by rw [ByteArray.size_append, y4]; rfl
  have y6 : (s ++ ⟨#[47]⟩ ++ t ++ ⟨#[47]⟩ ++ s).size = s.size + 1 + t.size + 1 + s.size := by rw [ByteArray.size_append, y5]
  have z3 := Lib.hid (show (s ++ ⟨#[58, 49]⟩).size ≤ 100 by omega)
  have z4 := Lib.hid (show (s ++ ⟨#[47]⟩ ++ t).size ≤ 100 by omega)
  have z6 := Lib.hid (show (s ++ ⟨#[47]⟩ ++ t ++ ⟨#[47]⟩ ++ s).size ≤ 100 by omega)
  have a1 : ∀ v, (Op.stringOp .add s ⟨#[58, 49]⟩).run Tryd.prog v = .ok (.string (s ++ ⟨#[58, 49]⟩)) v := fun v => run_string_add_sum v _ _ (by show _ + 2 ≤ _; omega)
  have a2 : ∀ v, (Op.stringOp .add s ⟨#[47]⟩).run Tryd.prog v = .ok (.string (s ++ ⟨#[47]⟩)) v := fun v => run_string_add_sum v _ _ (by show _ + 1 ≤ _; omega)
  have a3 : ∀ v, (Op.stringOp .add (s ++ ⟨#[47]⟩) t).run Tryd.prog v = .ok (.string (s ++ ⟨#[47]⟩ ++ t)) v := fun v => run_string_add_sum v _ _ (by rw [y0]; omega)
  have a4 : ∀ v, (Op.stringOp .add (s ++ ⟨#[47]⟩ ++ t) ⟨#[47]⟩).run Tryd.prog v = .ok (.string (s ++ ⟨#[47]⟩ ++ t ++ ⟨#[47]⟩)) v := fun v => run_string_add_sum v _ _ (by rw [y4]; show _ + 1 ≤ _; omega)
  have a5 : ∀ v, (Op.stringOp .add (s ++ ⟨#[47]⟩ ++ t ++ ⟨#[47]⟩) s).run Tryd.prog v = .ok (.string (s ++ ⟨#[47]⟩ ++ t ++ ⟨#[47]⟩ ++ s)) v := fun v => run_string_add_sum v _ _ (by rw [y5]; omega)
  clear y0 y3 y4 y5 y6
  have hs100 : s.size ≤ 100 := by omega
  go_wp2_with fail
  refine (key_is s 0 hs100 k1.out _ HL1.out).mono ?_
  rintro e w2 ⟨rfl, hb⟩
  have HB2 := Lib.hid (HB1.out.trans (hb.mono HB1.out.size))
  have HL2 := Lib.hid (HL1.out.below hb)
  clear hb HB1 HL1
  go_wp2_with fail
  refine (val_is s 0 hs100 k2.out _ HL2.out).mono ?_
  rintro e w' ⟨rfl, rfl⟩
  go_wp2_with fail
  refine (image_is _ 0 ?q1 ?q2 _ HL2.out).mono ?_
  case q1 => exact z3.out
  case q2 => exact k3.out
  rintro e w3 ⟨rfl, hb⟩
  have HB3 := Lib.hid (HB2.out.trans (hb.mono HB2.out.size))
  have HL3 := Lib.hid (HL2.out.below hb)
  clear hb HB2 HL2
  go_wp2_with fail
  refine (key_is _ 0 ?q1 ?q2 _ HL3.out).mono ?_
  case q1 => exact z4.out
  case q2 => exact k4.out
  rintro e w4 ⟨rfl, hb⟩
  have HB4 := Lib.hid (HB3.out.trans (hb.mono HB3.out.size))
  have HL4 := Lib.hid (HL3.out.below hb)
  clear hb HB3 HL3
  go_wp2_with fail
  refine (key_is _ 31 ?q1 ?q2 _ HL4.out).mono ?_
  case q1 => exact z6.out
  case q2 => exact k5.out
  rintro e w5 ⟨rfl, hb⟩
  have HB5 := Lib.hid (HB4.out.trans (hb.mono HB4.out.size))
  have HL5 := Lib.hid (HL4.out.below hb)
  clear hb HB4 HL4
  go_wp2_with fail
  refine (name_is _ 30 ?q1 ?q2 _ HL5.out).mono ?_
  case q1 => exact z4.out
  case q2 => exact k6.out
  rintro e w' ⟨rfl, rfl⟩
  clear a1 a2 a3 a4 a5 k1 k2 k3 k4 k5 k6 z3 z4 z6
  by_cases ha1 : at0 < 1
  · go_wp2_with fail
    go_ret
    exact ⟨rfl, HB5.out⟩
  by_cases ha2 : (s.size : Int) ≤ at0
  · go_wp2_with fail
    go_ret
    exact ⟨rfl, HB5.out⟩
  obtain ⟨n, rfl⟩ : ∃ n : Nat, at0 = n := ⟨at0.toNat, by omega⟩
  have n1 : 1 ≤ n := by omega
  have n2 : n < s.size := by omega
  have i1 : (((n : Int) - 1).toNat) = n - 1 := by omega
  have i2 : (0 : Int) ≤ (n : Int) - 1 ∧ (n : Int) - 1 < s.size := by omega
  have i3 : n - 1 < s.size := by omega
  have i4 : (1 : Int) ≤ n := by omega
  have i5 : IntKind.i64.wrap ((n : Int) - 1) = (n : Int) - 1 := IntWalk.i64_in _ (by omega)
  have i6 : (n : Int) - 1 < s.size := by omega
  have i7 : ¬ (n : Int) < 1 := by omega
  have i8 : ¬ (s.size : Int) ≤ n := by omega
  have i9 : (n : Int) < s.size := by omega
  by_cases d1 : s[n - 1].toNat = 45
  · have d1' : ((s[n - 1].toNat : Int) == 45) = true := by rw [d1]; rfl
    go_wp2_with fail
    go_ret
    exact ⟨rfl, HB5.out⟩
  have d1' : ((s[n - 1].toNat : Int) == 45) = false := beq_false_of_ne (by omega)
  by_cases d2 : s[n].toNat = 45
  · have d2' : ((s[n].toNat : Int) == 45) = true := by rw [d2]; rfl
    go_wp2_with fail
    go_ret
    exact ⟨rfl, HB5.out⟩
  have d2' : ((s[n].toNat : Int) == 45) = false := beq_false_of_ne (by omega)
  have f1 := Lib.hid (show codeN (nameL (s.extract 0 n).data.toList) 30 = 0 by rw [name_first hn n1 n2 d1]; rfl)
  have f2 := Lib.hid (show codeN (nameL (s.extract n s.size).data.toList) 30 = 0 by rw [name_rest hn n2 d2]; rfl)
  have g1 := Lib.hid (show (s.extract 0 n).size ≤ 100 by rw [ByteArray.size_extract]; omega)
  have g2 := Lib.hid (show (s.extract n s.size).size ≤ 100 by rw [ByteArray.size_extract]; omega)
  go_wp2_with fail
  refine (name_is _ 0 ?q1 ?q2 _ HL5.out).mono ?_
  case q1 => exact g1.out
  case q2 => exact f1.out
  rintro e w' ⟨rfl, rfl⟩
  go_wp2_with fail
  refine (name_is _ 0 ?q1 ?q2 _ HL5.out).mono ?_
  case q1 => exact g2.out
  case q2 => exact f2.out
  rintro e w' ⟨rfl, rfl⟩
  go_wp2_with fail
  go_ret
  exact ⟨rfl, HB5.out⟩
end Text
end Go.Proofs.YtjcfajfeodabbaaDoor
