/-
  The contract of num.Put: it returns the bytes of a number, makes one block of its own, and leaves all that was there as it was. Condition: the number has 64 bits.
-/
import Derived.Test.YtmeilidjomjocaaGreatDoorChecked
import Derived.Test.YtmeilidjomjocaaGreatDoorLebMath
import Derived.WalkKit
import Derived.ProofKit
import Derived.Lib.Hide
import Derived.Laws.BytesArg
namespace Go.Proofs.YtmeilidjomjocaaGreatDoor
open Go.ChangeShapes Go.WideShapes Go.ChangeAt Go.RowKit
open LebMath
namespace NumPut

/-- ten places, the first of them filled -/
def arrOf (bs : List UInt8) : Array Value := (bs.map (fun b => Value.int .u8 (b.toNat : Int)) ++ List.replicate (10 - bs.length) (Value.int .u8 0)).toArray

theorem arrOf_next {bs : List UInt8} (h : bs.length < 10) : (arrOf bs)[bs.length]? = some (.int .u8 0) := by
  unfold arrOf
  simp only [List.getElem?_toArray]
  rw [List.getElem?_append_right (by simp)]
  obtain ⟨k, hk⟩ : ∃ k, 10 - bs.length = k + 1 := ⟨9 - bs.length, by omega⟩
  rw [hk, List.replicate_succ]
  simp

theorem arrOf_size {bs : List UInt8} (h : bs.length ≤ 10) : (arrOf bs).size = 10 := by
  unfold arrOf; simp; omega

theorem arrOf_set {bs : List UInt8} (h : bs.length < 10) (c : UInt8) (v : Int) (hv : v = c.toNat) : (arrOf bs).setIfInBounds bs.length (.int .u8 v) = arrOf (bs ++ [c]) := by
  subst hv
  unfold arrOf
  simp only [List.setIfInBounds_toArray]
  congr 1
  rw [List.set_append_right _ _ (by simp)]
  obtain ⟨k, hk⟩ : ∃ k, 10 - bs.length = k + 1 := ⟨9 - bs.length, by omega⟩
  rw [hk, List.replicate_succ]
  simp
  omega

theorem arrOf_at {bs : List UInt8} {i : Nat} (h : i < bs.length) : (arrOf bs)[i]? = some (.int .u8 ((bs.map (fun b => (b.toNat : Int))).getD i 0)) := by
  unfold arrOf
  simp only [List.getElem?_toArray]
  rw [List.getElem?_append_left (by simpa using h)]
  simp [List.getElem?_eq_getElem h]

set_option maxRecDepth 100000 in
theorem run_text (bs : List UInt8) (w : World) (n : Nat) (hn : n = bs.length) (c : Nat) :
    (convert 156 9 (.slice (some ⟨w.heap.size, 0, none⟩) n c)).run Tryz.prog (w.alloc (.cells (arrOf bs) 239)) = .ok (.string ⟨bs.toArray⟩) (w.alloc (.cells (arrOf bs) 239)) := by
  subst hn
  have := run_convert_bytes_arg (P := Tryz.prog) (w.alloc (.cells (arrOf bs) 239)) 156 5 Tryz.underlying156 Tryz.underlying5 w.heap.size 0 bs.length c (bs.map (fun b => (b.toNat : Int))) (by simp)
    (fun i hi => by rw [World.cell?_alloc_at _ _ _ _ rfl, Nat.zero_add, arrOf_at hi]) 9 Tryz.underlying9
  rw [this]
  congr 3
  unfold strOfNums
  have e : ((fun n : Int => UInt8.ofNat n.toNat) ∘ fun b : UInt8 => (b.toNat : Int)) = id := by funext b; simp
  rw [List.map_map, e, List.map_id]

theorem ret_str {l l' : List UInt8} (h : l' = l) : Ending.returned (.string ⟨l.toArray⟩) = .returned (.string ⟨l'.toArray⟩) := by rw [h]

theorem run_cut (W : World) (a : Addr) (n : Nat) (h : n < 10) :
    (Instr.sliceAt 239 (.pointer (some a)) none (some (.int .i64 ((n : Int) + 1))) none).run Tryz.prog W = .ok (.slice (some a) (n + 1) 10) W := by
  have hal : Tryz.prog.arrayLen 239 = 10 := by kernel_rfl
  rw [run_sliceAt_array_h W 239 a (by kernel_rfl) .i64 _ (by omega) (by rw [hal]; omega), hal]
  have hs : (sizeOf (Tryz.prog.elem 239)).run Tryz.prog W = .ok 1 W := by kernel_rfl
  rw [hs]
  simp only [Result.andThen, slicedAt]
  rw [show ((n : Int) + 1).toNat = n + 1 by omega]
  simp [Addr.add]

set_option maxRecDepth 20000 in
set_option maxHeartbeats 1000000 in
theorem put_any (n : Nat) (w : World) (hn : n < 18446744073709551616) :
    Calls Tryz.prog 146 #[.int .u64 n] w fun e w' => e = .returned (.string ⟨(leb n).toArray⟩) ∧ Below w.heap.size w w' := by
  have h10 := leb_le_ten hn
  go_enter Tryz.func146, Tryz.ntmps146
  go_wp2
  go_loopw [0, 4] (fun x i wr => ∃ (bs : List UInt8) (m : Nat), i = .int .i64 (bs.length : Nat) ∧ x = .int .u64 (m : Nat) ∧ Hid (leb n = bs ++ leb m) ∧ Hid (m < 18446744073709551616) ∧ Hid (wr = w.alloc (.cells (arrOf bs) 239))) (fun x _ _ => (intOf x).toNat)
  case atStart => exact ⟨[], n, rfl, rfl, rfl, hn, rfl⟩
  case round =>
    obtain ⟨bs, m, rfl, rfl, HL, HM, HW⟩ := hrel
    have hw := HW.out
    subst hw
    clear HW
    have hlen : (leb n).length = bs.length + (leb m).length := by rw [HL.out]; simp
    have hm := HM.out
    by_cases hbig : 128 ≤ m
    · have hm1 : (leb m).length = (leb (m / 128)).length + 1 := by rw [leb_big hbig]; rfl
      have hm2 := leb_pos (m / 128)
      have hb : bs.length ≤ 8 := by omega
      have HN := Lib.hid (arrOf_next (bs := bs) (by omega))
      have hnext := HN.out
      clear hlen hm1 hm2 h10
      have hbi : (bs.length : Int) < 10 := by omega
      obtain ⟨c, hc⟩ : ∃ c : UInt8, c = UInt8.ofNat (m % 128 + 128) := ⟨_, rfl⟩
      have hset := arrOf_set (bs := bs) (by omega) c ((m : Int) % 128 + 128) (by rw [hc, toNat_ofNat (by omega)]; push_cast; rfl)
      have HF : Hid (leb n = (bs ++ [c]) ++ leb (m / 128)) := by show _ = _; rw [HL.out, leb_big hbig, hc]; simp
      clear hc
      go_wp2
      go_roundw
      case rel => exact ⟨_, m / 128, by simp, rfl, HF, (show m / 128 < _ by omega), rfl⟩
      case measure => simp [intOf]; omega
    · have hm1 : (leb m).length = 1 := by rw [leb_small (by omega)]; rfl
      have hb : bs.length ≤ 9 := by omega
      have HN := Lib.hid (arrOf_next (bs := bs) (by omega))
      have hnext := HN.out
      clear hlen hm1 h10
      have hbi : (bs.length : Int) < 10 := by omega
      have hset := arrOf_set (bs := bs) (by omega) (UInt8.ofNat m) (m : Int) (by rw [toNat_ofNat (by omega)])
      have hcut := fun W => run_cut W ⟨w.heap.size, 0, none⟩ bs.length (by omega)
      have htext := run_text (bs ++ [UInt8.ofNat m]) w (bs.length + 1) (by simp) 10
      have HF : Hid (leb n = bs ++ [UInt8.ofNat m]) := by show _ = _; rw [HL.out, leb_small (by omega)]
      go_wp2
      go_ret
      exact ⟨ret_str HF.out, (Below.refl _ _).alloc (Nat.le_refl _) _⟩
end NumPut
end Go.Proofs.YtmeilidjomjocaaGreatDoor
