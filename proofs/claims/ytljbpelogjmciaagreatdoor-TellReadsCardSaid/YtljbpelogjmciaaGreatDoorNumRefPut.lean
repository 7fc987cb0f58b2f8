/-
 The contract of the document's answer to num.Put: it returns the bytes of a number, and leaves all that was there as it was. Condition: the number has 64 bits.
-/
import Derived.Test.YtljbpelogjmciaaGreatDoorLebAll
import Derived.Test.YtljbpelogjmciaaGreatDoorKit
import Derived.Deep.RegionWith
namespace Go.Proofs.YtljbpelogjmciaaGreatDoor
open Go.ChangeShapes Go.WideShapes Go.ChangeAt Go.RowKit
open LebMath OneByte
namespace NumRefPut
set_option maxRecDepth 20000 in
set_option maxHeartbeats 1000000 in
theorem refPut_k (k : Nat) : ∀ (n : Nat) (w : World), n < 128 ^ k → n < 18446744073709551616 →
 Calls Tryz.prog 70 #[.int .u64 n] w fun e w' => e = .returned (.string ⟨(leb n).toArray⟩) ∧ Below w.heap.size w w' := by
 induction k with
 | zero =>
  intro n w hk hn
  obtain rfl : n = 0 := by simp at hk; exact hk
  have hone := run_one 0 0 rfl
  have HF := Lib.hid (leb_small (n := 0) (by omega))
  go_enter Tryz.func70, Tryz.ntmps70
  go_wp2_with fail
  go_ret
  exact ⟨NumPut.ret_str HF.out, (Below.refl _ _).alloc (Nat.le_refl _) _⟩
 | succ k ih =>
  intro n w hk hn
  have IH := Lib.hid ih
  clear ih
  have HK := Lib.hid hk
  clear hk
  by_cases hs : n < 128
  · have hone := run_one (n : Int) (UInt8.ofNat n) (by rw [toNat_ofNat (by omega)])
    have HF := Lib.hid (leb_small hs)
    go_enter Tryz.func70, Tryz.ntmps70
    go_wp2_with fail
    go_ret
    exact ⟨NumPut.ret_str HF.out, (Below.refl _ _).alloc (Nat.le_refl _) _⟩
  · obtain ⟨c, hc⟩ : ∃ c : UInt8, c = UInt8.ofNat (n % 128 + 128) := ⟨_, rfl⟩
    obtain ⟨q, hq⟩ : ∃ q : Nat, q = n / 128 := ⟨_, rfl⟩
    have hm : (n : Int).tmod 128 = (n : Int) % 128 := Int.tmod_eq_emod_of_nonneg (by omega)
    have e1 : IntKind.u8.wrap (IntKind.u64.wrap ((n : Int).tmod 128 + 128)) = (c.toNat : Int) := by
     rw [hm, IntWalk.u64_in _ (by omega), IntWalk.u8_in _ (by omega), hc, toNat_ofNat (by omega)]; push_cast; rfl
    clear hm
    have e2 : IntKind.u64.wrap ((n : Int) / 128) = (q : Int) := by
     rw [IntWalk.u64_in _ (by omega), hq]; push_cast; rfl
    have hone := run_one (c.toNat : Int) c rfl
    have HF : Hid (leb n = [c] ++ leb q) := by show _ = _; rw [leb_big (by omega), hc, hq]; rfl
    have hq64 : q < 18446744073709551616 := by omega
    have HQ : Hid (q < 128 ^ k) := by
     show _ < _
     rw [hq, Nat.div_lt_iff_lt_mul (by omega)]
     have := HK.out
     rw [Nat.pow_succ] at this; exact this
    clear hc hq
    have hq10 : (leb q).length ≤ 10 := leb_le_ten hq64
    go_enter Tryz.func70, Tryz.ntmps70
    go_wp2_with fail
    go_region_with (go_at_call 70; refine (IH.out q _ HQ.out hq64).mono ?_; rintro e w1 ⟨rfl, hb1⟩; obtain ⟨hcell, hfroz⟩ := Kit.bcell hb1)
    all_goals
     go_wp2_with fail
     go_ret
     refine ⟨ret_cat HF.out, ?_⟩
     first
      | exact ((Below.refl _ _).drew.alloc (Nat.le_refl _) _).trans (hb1.mono (by simp))
      | exact ((Below.refl _ _).drew.trans hb1).alloc hb1.size _
theorem refPut_any (n : Nat) (w : World) (hn : n < 18446744073709551616) :
 Calls Tryz.prog 70 #[.int .u64 n] w fun e w' => e = .returned (.string ⟨(leb n).toArray⟩) ∧ Below w.heap.size w w' :=
 refPut_k 10 n w (Nat.lt_of_lt_of_le hn (by decide)) hn
end NumRefPut
end Go.Proofs.YtljbpelogjmciaaGreatDoor
