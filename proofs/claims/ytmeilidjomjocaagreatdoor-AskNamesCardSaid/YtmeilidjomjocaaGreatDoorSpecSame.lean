/-
  The contracts of slices.Equal on labels, slices.EqualFunc on containers, spec.Same: whether labels, containers, specs are the same. All that was there is left as it was. No condition.
-/
import Derived.Test.YtmeilidjomjocaaGreatDoorSpecEqual
import Derived.Test.YtmeilidjomjocaaGreatDoorBookSameSpec
namespace Go.Proofs.YtmeilidjomjocaaGreatDoor
open Go.ChangeShapes Go.WideShapes Go.ChangeAt Go.RowKit Go.Lib
open Sd Lists Book
namespace SpecOwn

set_option maxRecDepth 100000 in
set_option maxHeartbeats 2000000 in
theorem equalFunc_any (A : Option Addr) (ac : Nat) (a : List Ctr) (B : Option Addr) (bc : Nat) (b : List Ctr) (hl : a.length ≤ 9223372036854775807) (w : World) (hA : Ctrs w A a) (hB : Ctrs w B b) :
    Calls Tryz.prog 143 #[.slice A a.length ac, .slice B b.length bc, .func (.func 144) #[] #[]] w fun e w' => e = .returned (.bool (sameCs a b)) ∧ Below w.heap.size w w' := by
  have HA := Lib.hid hA
  have HB := Lib.hid hB
  have hl' : (a.length : Int) ≤ 9223372036854775807 := by omega
  clear hA hB
  by_cases hlen : a.length = b.length
  · have HLEN := Lib.hid hlen
    rw [← hlen]
    clear hlen
    go_enter Tryz.func143, Tryz.ntmps143
    go_wp2_with fail
    go_loopw [17] (fun i wr => ∃ k : Nat, k ≤ a.length ∧ i = .int .i64 k ∧ Hid (Below w.heap.size w wr) ∧ Hid (Far a b k true)) (fun i _ => a.length - (RowKit.intOf i).toNat)
    case atStart => exact ⟨0, Nat.zero_le _, rfl, Below.refl _ _, ⟨fun _ => ⟨HLEN.out, by simp⟩, fun h => by cases h⟩⟩
    case round =>
      obtain ⟨k, hk, rfl, HW, HF⟩ := hrel
      by_cases hlt : k < a.length
      · have hlb : k < b.length := by have := HLEN.out; omega
        obtain ⟨fa, p, P, pc, rfl, hp, hc, nP⟩ := (HA.out.below HW.out).at hlt
        obtain ⟨fb, q, Q, qc, rfl, hq, hd, nQ⟩ := (HB.out.below HW.out).at hlb
        have HN := fun (t : Bool) (ht : t = true ↔ a[k] = b[k]) => HF.out.next hlt hlb ht
        obtain ⟨x, hx⟩ : ∃ x, a[k] = x := ⟨_, rfl⟩
        obtain ⟨y, hy⟩ : ∃ y, b[k] = y := ⟨_, rfl⟩
        rw [hx] at hc HN nP fa
        rw [hy] at hd HN nQ fb
        have hxp := fa.ports
        have hka : (k : Int) < (a.length : Int) := by omega
        obtain ⟨c0, c1, c2, c3, c4, c5, c6, c7, c8, c9, c10, _⟩ := hc
        have hd' := fun o => hd.keep (w' := wr.alloc o) (by rw [add_block]; exact Below.heap_alloc wr o _ hq)
        have d0 := fun o => (hd' o).1
        have d1 := fun o => (hd' o).2.1
        have d2 := fun o => (hd' o).2.2.1
        have d3 := fun o => (hd' o).2.2.2.1
        have d4 := fun o => (hd' o).2.2.2.2.1
        have d5 := fun o => (hd' o).2.2.2.2.2.1
        have d6 := fun o => (hd' o).2.2.2.2.2.2.1
        have d7 := fun o => (hd' o).2.2.2.2.2.2.2.1
        have d8 := fun o => (hd' o).2.2.2.2.2.2.2.2.1
        have d9 := fun o => (hd' o).2.2.2.2.2.2.2.2.2.1
        have d10 := fun o => (hd' o).2.2.2.2.2.2.2.2.2.2.1
        have NP := Lib.hid nP
        have NQ := Lib.hid nQ
        clear hd hd' hx hy hp hq nP nQ fa fb
        have hb0 := fun o o' => ((Below.refl wr.heap.size wr).alloc (Nat.le_refl _) o).alloc (show wr.heap.size ≤ (wr.alloc o).heap.size by simp) o'
        have HB0 := Lib.hid hb0
        clear hb0
        go_wp2_with fail
        refine (alike_any x P pc y Q qc hxp _ (Nums.below NP.out (HB0.out _ _)) (Nums.below NQ.out (HB0.out _ _))).mono ?_
        rintro e w5 ⟨rfl, hb5⟩
        have HB5 := Lib.hid (HW.out.trans (((HB0.out _ _).trans (hb5.mono (by simp; omega))).mono HW.out.size))
        clear hb5 c0 c1 c2 c3 c4 c5 c6 c7 c8 c9 c10 d0 d1 d2 d3 d4 d5 d6 d7 d8 d9 d10
        cases he : alikeB x y with
        | true =>
          have HNX := Lib.hid (HN true (by rw [← sameC_iff x y, ← alikeB_same, he]))
          clear HN he
          go_wp2
          go_roundw
          case rel => exact ⟨k + 1, by omega, by go_num, HB5.out, HNX.out⟩
          case measure => simp [RowKit.intOf]; omega
        | false =>
          have HNX := Lib.hid (HN false (by rw [← sameC_iff x y, ← alikeB_same, he]))
          have HD := Lib.hid (show false = sameCs a b from same_bool ((show false = true ↔ a = b from ⟨fun h => (by cases h), fun h => absurd h (HNX.out.2 rfl)⟩).trans sameCs_iff.symm))
          clear HN he
          go_wp2
          go_ret
          exact ⟨ret_b HD.out, HB5.out⟩
      · have HD := Lib.hid (show true = sameCs a b from same_bool ((HF.out.done (fun _ => by omega)).trans sameCs_iff.symm))
        go_wp2
        go_ret
        exact ⟨ret_b HD.out, HW.out⟩
  · have hne : ((a.length : Int) == (b.length : Int)) = false := by simp; omega
    have HD := Lib.hid (show false = sameCs a b from same_bool ((show false = true ↔ a = b from ⟨fun h => (by cases h), fun h => absurd (by rw [h]) hlen⟩).trans sameCs_iff.symm))
    clear hlen
    go_enter Tryz.func143, Tryz.ntmps143
    go_wp2
    go_ret
    exact ⟨ret_b HD.out, Below.refl _ _⟩
end SpecOwn
end Go.Proofs.YtmeilidjomjocaaGreatDoor
