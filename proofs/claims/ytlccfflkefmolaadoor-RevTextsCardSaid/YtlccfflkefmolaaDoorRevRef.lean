/-
  The contracts of the document's text of a number and number of a text. Conditions: the number is one of 64 bits; the text is no longer than a Go string may be.
-/
import Derived.Test.YtlccfflkefmolaaDoorRevMath
import Derived.Test.YtlccfflkefmolaaDoorOneByte
import Derived.Test.YtlccfflkefmolaaDoorKit
import Derived.Test.YtlccfflkefmolaaDoorRegionLoose
import Derived.ShutString
namespace Go.Proofs.YtlccfflkefmolaaDoor
open Go.ChangeShapes Go.WideShapes Go.ChangeAt Go.RowKit
open TextMath OneByte Go.Lib RevMath
namespace Rv
open Loose

/-- what each operation leaves -/
def FT (n : Nat) (L : List UInt8) (c : UInt8) : Nat → Value → World → Prop
  | 0 => fun v _ => v = .int .u64 (n : Nat)
  | 1 => fun v _ => v = .int .u64 ((n / 10 : Nat) : Int)
  | 2 => fun v _ => v = .string ⟨(L).toArray⟩
  | 3 => fun v _ => v = .int .u64 (n : Nat)
  | 4 => fun v _ => v = .int .u64 ((n % 10 : Nat) : Int)
  | 5 => fun v _ => v = .int .u64 ((48 + n % 10 : Nat) : Int)
  | 6 => fun v _ => v = .int .u8 ((48 + n % 10 : Nat) : Int)
  | 7 => fun v w => ∃ g, v = .slice (some ⟨g, 0, none⟩) 1 1 ∧ w.cell? ⟨g, 0, none⟩ = some (.int .u8 ((48 + n % 10 : Nat) : Int))
  | 8 => fun v _ => v = .string ⟨#[c]⟩
  | 9 => fun v _ => v = .string (ByteArray.mk (L).toArray ++ ByteArray.mk #[c])
  | _ => fun v _ => v = .string (ByteArray.mk (L).toArray ++ ByteArray.mk #[c])
theorem lt_of_cell {w : World} {a : Addr} {v : Value} (h : w.cell? a = some v) : a.block < w.heap.size := by
  rcases Nat.lt_or_ge a.block w.heap.size with hl | hl
  · exact hl
  · simp [World.cell?, Array.getElem?_eq_none hl] at h
theorem FT_keep (n : Nat) (L : List UInt8) (c : UInt8) (i : Nat) (v : Value) (w w' : World) (h : FT n L c i v w) (hb : Below w.heap.size w w') : FT n L c i v w' := by
  unfold FT at h ⊢
  split at h <;> first | exact h | (obtain ⟨g, h1, h2⟩ := h; exact ⟨g, h1, (hb.cell (lt_of_cell h2)).trans h2⟩)

theorem put_lit (l : List Value) (ds : List Deferred) (d : Nat) (v : Value) : (Act.mk l.toArray ds).put (some d) v = Act.mk (l.set d v).toArray ds := by
  simp [Act.put]
theorem ret_app {l m : List UInt8} {c : UInt8} (h : m = l ++ [c]) : Ending.returned (.string (ByteArray.mk l.toArray ++ ByteArray.mk #[c])) = .returned (.string ⟨m.toArray⟩) := by
  have e := ByteArray.mk_append_mk l [c]
  rw [h, ← e]
theorem wrapdig (n : Nat) : IntKind.u64.wrap (48 + (n : Int) % 10) = 48 + (n : Int) % 10 := by rw [IntKind.wrap_u64]; omega
theorem wrapdig8 (n : Nat) : IntKind.u8.wrap (48 + (n : Int) % 10) = 48 + (n : Int) % 10 := by rw [IntKind.wrap_u8]; omega

set_option maxRecDepth 20000 in
set_option maxHeartbeats 2000000 in
theorem reftext_any (n : Nat) : ∀ (w : World), n < 18446744073709551616 →
    Calls Tryd.prog 15 #[.int .u64 n] w fun e w' => e = .returned (.string ⟨(decDigits n).toArray⟩) ∧ Below w.heap.size w w' := by
  induction n using Nat.strongRecOn with
  | _ n ih =>
    intro w h
    by_cases h10 : n < 10
    · have hw : IntKind.u64.wrap (48 + (n : Int)) = 48 + (n : Int) := by rw [IntKind.wrap_u64]; omega
      obtain ⟨c, hc⟩ : ∃ c : UInt8, c = UInt8.ofNat (48 + n) := ⟨_, rfl⟩
      have hone := run_one (48 + (n : Int)) c (by rw [hc, toNat_digit (by omega)]; push_cast; rfl)
      have HD : Hid (decDigits n = [c]) := by show _ = _; rw [decDigits_one h10, hc]
      clear hc ih
      go_enter Tryd.func15, Tryd.ntmps15
      go_wp2_with fail
      go_ret
      refine ⟨by rw [HD.out]; rfl, (Below.refl _ _).alloc (Nat.le_refl _) _⟩
    · obtain ⟨c, hc⟩ : ∃ c : UInt8, c = UInt8.ofNat (48 + n % 10) := ⟨_, rfl⟩
      have HONE := Lib.hid (run_one ((48 + n % 10 : Nat) : Int) c (by rw [hc, toNat_digit (by omega)]))
      have HD : Hid (decDigits n = decDigits (n / 10) ++ [c]) := by show _ = _; rw [decDigits, dif_neg h10, hc]
      have IH : Hid (∀ w : World, n / 10 < 18446744073709551616 → Calls Tryd.prog 15 #[.int .u64 ((n / 10 : Nat) : Int)] w fun e w' => e = .returned (.string ⟨(decDigits (n / 10)).toArray⟩) ∧ Below w.heap.size w w') := Lib.hid (ih (n / 10) (by omega))
      have HQ := Lib.hid (Int.natCast_ediv n 10)
      have HW2 : Hid (IntKind.u64.wrap ((n : Int) / 10) = (n : Int) / 10) := by show _ = _; rw [IntKind.wrap_u64]; omega
      have HT : Hid ((n : Int).tmod 10 = (n : Int) % 10) := Lib.hid (Int.tmod_eq_emod_of_nonneg (by omega))
      have HSZ : Hid ((decDigits (n / 10)).length ≤ 9223372036854775806) := by show _ ≤ _; rw [decDigits_length]; have := nDigits_le20 (n / 10) (by omega); omega
      have HW := Lib.hid (wrapdig n)
      have HW8 := Lib.hid (wrapdig8 n)
      clear hc ih
      generalize decDigits (n / 10) = L at *
      go_enter Tryd.func15, Tryd.ntmps15
      go_wp2_with fail
      refine Loose.wp_region_walk (by kernel_rfl) (by kernel_rfl) (FT n L c) (FT_keep n L c) ?_ ?_
      · refine ⟨?_, ?_, ?_, ?_, ?_, ?_, ?_, ?_, ?_, ?_, ?_, trivial⟩
        · intro a w1 hfr hdep
          have f0 : a.tmps.getD 0 undef = .int .u64 (n : Nat) := hfr.slot 0 (by kernel_rfl)
          refine Step.value rfl (v := .int .u64 (n : Nat)) (w' := w1) ?_ rfl (Below.refl _ _)
          simp [go_sem, Act.eval, f0]
        · intro a w1 hfr hdep
          have hq := HQ.out
          have hq2 := HW2.out
          have e0 : a.tmps.getD 10 undef = .int .u64 (n : Nat) := dep_of hdep 0 10 (by kernel_rfl)
          refine Step.value rfl (v := .int .u64 ((n / 10 : Nat) : Int)) (w' := w1) ?_ rfl (Below.refl _ _)
          simp [go_sem, Act.eval, e0, hq2]
        · intro a w1 hfr hdep
          have e0 : a.tmps.getD 11 undef = .int .u64 ((n / 10 : Nat) : Int) := dep_of hdep 1 11 (by kernel_rfl)
          refine Step.call rfl (f := 15) (args := #[.int .u64 ((n / 10 : Nat) : Int)]) ?_ ?_
          · simp [go_sem, Act.eval, e0]
          · refine (IH.out _ (by omega)).mono ?_
            rintro e w2 ⟨rfl, hb⟩
            exact ⟨_, rfl, rfl, hb⟩
        · intro a w1 hfr hdep
          have f0 : a.tmps.getD 0 undef = .int .u64 (n : Nat) := hfr.slot 0 (by kernel_rfl)
          refine Step.value rfl (v := .int .u64 (n : Nat)) (w' := w1) ?_ rfl (Below.refl _ _)
          simp [go_sem, Act.eval, f0]
        · intro a w1 hfr hdep
          have hq := HT.out
          have e0 : a.tmps.getD 13 undef = .int .u64 (n : Nat) := dep_of hdep 3 13 (by kernel_rfl)
          refine Step.value rfl (v := .int .u64 ((n % 10 : Nat) : Int)) (w' := w1) ?_ rfl (Below.refl _ _)
          simp [go_sem, Act.eval, e0, hq]
        · intro a w1 hfr hdep
          have hw := HW.out
          have e0 : a.tmps.getD 14 undef = .int .u64 ((n % 10 : Nat) : Int) := dep_of hdep 4 14 (by kernel_rfl)
          refine Step.value rfl (v := .int .u64 ((48 + n % 10 : Nat) : Int)) (w' := w1) ?_ rfl (Below.refl _ _)
          simp [go_sem, Act.eval, e0, hw]
        · intro a w1 hfr hdep
          have hw := HW8.out
          have e0 : a.tmps.getD 15 undef = .int .u64 ((48 + n % 10 : Nat) : Int) := dep_of hdep 5 15 (by kernel_rfl)
          refine Step.value rfl (v := .int .u8 ((48 + n % 10 : Nat) : Int)) (w' := w1) ?_ rfl (Below.refl _ _)
          simp [go_sem, Act.eval, e0, hw]
        · intro a w1 hfr hdep
          have e0 : a.tmps.getD 16 undef = .int .u8 ((48 + n % 10 : Nat) : Int) := dep_of hdep 6 16 (by kernel_rfl)
          refine Step.value rfl (v := .slice (some ⟨w1.heap.size, 0, none⟩) 1 1) (w' := (w1.alloc (.cells #[.int .u8 ((48 + n % 10 : Nat) : Int)] 5))) ?_ ⟨_, rfl, by simp [World.cell?_alloc_new]⟩ ((Below.refl _ _).alloc (Nat.le_refl _) _)
          rw [Array.getD_eq_getD_getElem?] at e0; simp [go_sem, Act.eval, e0]
        · intro a w1 hfr hdep
          obtain ⟨g, e0, hcell⟩ := (dep_of hdep 7 17 (by kernel_rfl) : (fun v w => ∃ g, v = .slice (some ⟨g, 0, none⟩) 1 1 ∧ w.cell? ⟨g, 0, none⟩ = some (.int .u8 ((48 + n % 10 : Nat) : Int))) (a.tmps.getD 17 undef) w1)
          refine Step.value rfl (v := .string ⟨#[c]⟩) (w' := w1) ?_ rfl (Below.refl _ _)
          simp [go_sem, Act.eval, e0, HONE.out w1 g hcell]
        · intro a w1 hfr hdep
          have hsz := HSZ.out
          have e0 : a.tmps.getD 12 undef = .string ⟨(L).toArray⟩ := dep_of hdep 2 12 (by kernel_rfl)
          have e1 : a.tmps.getD 18 undef = .string ⟨#[c]⟩ := dep_of hdep 8 18 (by kernel_rfl)
          refine Step.value rfl (v := .string (ByteArray.mk (L).toArray ++ ByteArray.mk #[c])) (w' := w1) ?_ rfl (Below.refl _ _)
          simp [go_sem, Act.eval, e0, e1, hsz]
        · intro a w1 hfr hdep
          have e0 : a.tmps.getD 19 undef = .string (ByteArray.mk (L).toArray ++ ByteArray.mk #[c]) := dep_of hdep 9 19 (by kernel_rfl)
          refine Step.value rfl (v := .string (ByteArray.mk (L).toArray ++ ByteArray.mk #[c])) (w' := w1) ?_ rfl (Below.refl _ _)
          simp [go_sem, Act.eval, e0]
      · intro v0 v1 v2 v3 v4 v5 v6 v7 v8 v9 v10 w6 hb6 hC
        obtain rfl : v10 = .string (ByteArray.mk L.toArray ++ ByteArray.mk #[c]) := hC.2
        clear hC
        simp only [put_lit, List.set_cons_succ, List.set_cons_zero]
        go_wp2
        go_ret
        exact ⟨ret_app HD.out, hb6⟩

theorem val_step (s : ByteArray) (k : Nat) (h : k < s.size) : decVal 0 (s.data.toList.take (k + 1)) = decVal 0 (s.data.toList.take k) * 10 + (s[k].toNat - 48) := by
  have e : s.data.toList.take (k + 1) = s.data.toList.take k ++ [s[k]] := by rw [List.take_succ_eq_append_getElem (by simpa using h)]; rfl
  rw [e, decVal_append, decVal_cons, decVal_nil]

theorem part_step (s : ByteArray) (k : Nat) (h : k < s.size) (h1 : 48 ≤ (s[k].toNat : Int)) : IntKind.u64.wrap (IntKind.u64.wrap (IntKind.u64.wrap (10 * (headV s.data.toList k : Int)) + (s[k].toNat : Int)) - 48) = (headV s.data.toList (k + 1) : Int) := by
  rw [IntKind.wrap_u64, IntKind.wrap_u64, IntKind.wrap_u64]
  unfold headV
  rw [val_step s k h]
  generalize decVal 0 (s.data.toList.take k) = V
  generalize s[k].toNat = c at *
  omega

theorem ret_yes {l : List UInt8} {V : Nat} (h : revV l = (V, true)) :
    Ending.returned (.tuple #[.int .u64 V, .bool true]) = .returned (.tuple #[.int .u64 (revV l).1, .bool (revV l).2]) := by rw [h]

theorem ret_no {l : List UInt8} (h : revV l = (0, false)) :
    Ending.returned (.tuple #[.int .u64 0, .bool false]) = .returned (.tuple #[.int .u64 (revV l).1, .bool (revV l).2]) := by rw [h]; rfl

set_option maxRecDepth 20000 in
set_option maxHeartbeats 4000000 in
theorem refparse_any (s : ByteArray) (w : World) (hs : s.size ≤ maxLen) :
    Calls Tryd.prog 13 #[.string s] w fun e w' => e = .returned (.tuple #[.int .u64 (revV s.data.toList).1, .bool (revV s.data.toList).2]) ∧ Below w.heap.size w w' := by
  unfold maxLen at hs
  have hlen : s.data.toList.length = s.size := by rw [Array.length_toList]; rfl
  have HL := Lib.hid hlen
  clear hlen
  by_cases hz : s.size < 1
  · have HP : Hid (revV s.data.toList = (0, false)) := revV_no (.inl (List.eq_nil_of_length_eq_zero (by rw [HL.out]; omega)))
    go_enter Tryd.func13, Tryd.ntmps13
    go_wp2_with fail
    go_ret2
    exact ⟨ret_no HP.out, Below.refl _ _⟩
  by_cases h20 : 20 < s.size
  · have HP : Hid (revV s.data.toList = (0, false)) := revV_no (.inr (.inl (by rw [HL.out]; exact h20)))
    go_enter Tryd.func13, Tryd.ntmps13
    go_wp2_with fail
    go_ret2
    exact ⟨ret_no HP.out, Below.refl _ _⟩
  go_enter Tryd.func13, Tryd.ntmps13
  go_wp2_with fail
  go_loop [4, 5] (fun u i => ∃ k : Nat, k ≤ s.size ∧ i = .int .i64 k ∧ u = .int .u64 (headV s.data.toList k : Nat)) (fun _ i => s.size - (intOf i).toNat)
  case atStart => exact ⟨0, Nat.zero_le _, rfl, rfl⟩
  case round =>
    obtain ⟨k, hk, rfl, rfl⟩ := hrel
    by_cases hlt : k < s.size
    · have hb : (s[k].toNat : Int) < 256 := by have := s[k].toNat_lt; omega
      by_cases hd : 48 ≤ (s[k].toNat : Int) ∧ (s[k].toNat : Int) ≤ 57
      · obtain ⟨hd1, hd2⟩ := hd
        have HS := Lib.hid (part_step s k hlt hd1)
        generalize headV s.data.toList k = V at *
        go_wp2_with fail
        go_round
        case rel => exact ⟨k + 1, by omega, by go_num, congrArg (Value.int .u64) HS.out⟩
        case measure => simp [intOf]; omega
      · have HP : Hid (revV s.data.toList = (0, false)) := revV_no (.inr (.inr ⟨s[k], by
            have : s.data.toList[k]? = some s[k] := by simp [hlt]; rfl
            exact List.mem_of_getElem? this, by
            rw [Bool.eq_false_iff]; intro h; have := digit_iff.1 h; omega⟩))
        have hd' : (s[k].toNat : Int) < 48 ∨ (48 ≤ (s[k].toNat : Int) ∧ 57 < (s[k].toNat : Int)) := by omega
        clear hd
        rcases hd' with hd | ⟨hd1, hd2⟩
        all_goals
          go_wp2_with fail
          go_ret2
          exact ⟨ret_no HP.out, Below.refl _ _⟩
    · obtain rfl : k = s.size := by omega
      have hpart : headV s.data.toList s.size = decVal 0 s.data.toList % 18446744073709551616 := by unfold headV; rw [List.take_of_length_le (by rw [HL.out]; omega)]
      have hV : headV s.data.toList s.size < 18446744073709551616 := by rw [hpart]; omega
      have HM := Lib.hid (revV_mod (l := s.data.toList))
      have HU := Lib.hid (revV_unlike (l := s.data.toList))
      rw [← hpart] at HM HU
      clear hpart
      generalize headV s.data.toList s.size = V at *
      by_cases heq : decDigits V = s.data.toList
      · have ec : (decDigits V == s.toList) = true := by rw [ByteArray.toList_eq, heq]; simp
        have HQ := Lib.hid (HM.out heq)
        clear heq HM HU
        go_wp2_with fail
        refine (reftext_any V _ hV).mono ?_
        rintro e w1 ⟨rfl, hb1⟩
        go_wp2_with fail
        go_ret2
        exact ⟨ret_yes HQ.out, hb1⟩
      · have ec : (decDigits V == s.toList) = false := by rw [ByteArray.toList_eq]; simpa using heq
        have HQ := Lib.hid (HU.out heq)
        clear heq HM HU
        go_wp2_with fail
        refine (reftext_any V _ hV).mono ?_
        rintro e w1 ⟨rfl, hb1⟩
        go_wp2_with fail
        go_ret2
        exact ⟨ret_no HQ.out, hb1⟩
end Rv
end Go.Proofs.YtlccfflkefmolaaDoor
