/-
 The document's own great (provostref09): a revision in decimal digits. Condition: it is a uint64.
-/
import Derived.Test.YtljbpelogjmciaaGreatDoorNumRefText
set_option linter.unusedVariables false
set_option linter.unusedSimpArgs false
namespace Go.Proofs.YtljbpelogjmciaaGreatDoor
open Go.ChangeShapes Go.WideShapes Go.ChangeAt Go.RowKit Go.Lib
namespace TellGreat
open NumRefText NumMath TextMath OneByte
theorem inv_le {u k m : Nat} {t : List UInt8} (h : Inv u k t m) (hu : u < 18446744073709551616) : t.length ≤ 20 ∧ k = t.length ∧ (1 ≤ k → m ≠ 0 → k < 20) := by
 have hl : (decDigits u).length ≤ 20 := by rw [decDigits_length]; exact nDigits_le20 u (by omega)
 rcases h with ⟨rfl, rfl, rfl⟩ | ⟨h1, h2, h3⟩
 · simp
 · rw [h3, List.length_append] at hl
   refine ⟨by omega, h2, fun _ hm => ?_⟩
   unfold rest at hl
   rw [if_neg hm, decDigits_length] at hl
   have := nDigits_pos m
   omega
set_option maxRecDepth 20000 in
set_option maxHeartbeats 2000000 in
theorem great_any (n : Nat) (w : World) (hn : n < 18446744073709551616) :
 Calls Tryz.prog 68 #[.int .u64 n] w fun e w' => e = .returned (.string ⟨(decDigits n).toArray⟩) ∧ Below w.heap.size w w' := by
 go_enter Tryz.func68, Tryz.ntmps68
 go_wp2_with fail
 go_loopw [0, 3, 4] (fun u s i wr => ∃ (k : Nat) (t : List UInt8) (m : Nat), s = .string ⟨t.toArray⟩ ∧ u = .int .u64 (m : Nat) ∧ i = .int .i64 (k : Nat) ∧ Hid (Inv n k t m) ∧ m < 18446744073709551616 ∧ Hid (Below w.heap.size w wr)) (fun _ _ i _ => 21 - (intOf i).toNat)
 case atStart => exact ⟨0, [], n, rfl, rfl, rfl, .inl ⟨rfl, rfl, rfl⟩, hn, Below.refl _ _⟩
 case round =>
  obtain ⟨k, t, m, rfl, rfl, rfl, HI, hm, HB⟩ := hrel
  have hle := inv_le HI.out hn
  have hlen := hle.1
  have hkl : k ≤ 20 := by omega
  by_cases hgo : k = 0 ∨ m ≠ 0
  · obtain ⟨c, hc⟩ : ∃ c : UInt8, c = UInt8.ofNat (48 + m % 10) := ⟨_, rfl⟩
    have hone := run_one (48 + (m : Int) % 10) c (by rw [hc, toNat_digit (by omega)]; push_cast; rfl)
    have HS := Lib.hid (HI.out.step hgo c hc)
    have hgo' : (k = 0 ∧ ((k : Int) == 0) = true) ∨ (((k : Int) == 0) = false ∧ (0 : Int) < (m : Int) ∧ (k : Int) < 20) := by
     by_cases hk : k = 0
     · exact .inl ⟨hk, beq_iff_eq.2 (by omega)⟩
     · have := hle.2.2 (by omega) (by omega)
       exact .inr ⟨beq_eq_false_iff_ne.2 (by omega), by omega, by omega⟩
    clear hc hgo hle
    rcases hgo' with ⟨hk, e0⟩ | ⟨e0, e1, e2⟩
    all_goals
     try clear hk
     go_wp2_with fail
     go_roundw
     case rel => exact ⟨k + 1, [c] ++ t, m / 10, congrArg Value.string (ByteArray.mk_append_mk [c] t), by push_cast; rfl, by go_num, HS, by omega, HB.out.alloc HB.out.size _⟩
     case measure => simp [intOf]; omega
  · obtain rfl : m = 0 := by omega
    have hk1 : 1 ≤ k := by omega
    have e0 : ((k : Int) == 0) = false := beq_eq_false_iff_ne.2 (by omega)
    have HD := Lib.hid (HI.out.done hk1)
    clear hgo hle
    go_wp2_with fail
    go_ret
    exact ⟨by rw [← HD.out]; rfl, HB.out⟩
end TellGreat
end Go.Proofs.YtljbpelogjmciaaGreatDoor
