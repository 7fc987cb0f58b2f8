/-
  The contracts of frame.Put and of the document's own: a text's frame, or that it is too long. Condition: of the document's: the text is not too long.
-/
import Derived.Test.YtnbmfoidnnfpeaaFrameState
import Derived.Test.YtnbmfoidnnfpeaaFramePure
import Derived.Laws.Concat
import Derived.IntWalk
namespace Go.Proofs.Ytnbmfoidnnfpeaa
open Go.ChangeShapes Go.WideShapes Go.ChangeAt Go.RowKit Go.Lib
open FramePure
namespace Spl

theorem run_two (v u : Int) (c d : UInt8) (hv : v = c.toNat) (hu : u = d.toNat) (W : World) (b : Nat) (h : W.cell? ⟨b, 0, none⟩ = some (.int .u8 v)) (h1 : W.cell? ⟨b, 1, none⟩ = some (.int .u8 u)) :
    (convert 23 9 (.slice (some ⟨b, 0, none⟩) 2 2)).run Try.prog W = .ok (.string ⟨[c, d].toArray⟩) W := by
  subst hv hu
  have := run_convert_bytes_arg (P := Try.prog) W 23 5 Try.underlying23 Try.underlying5 b 0 2 2 [(c.toNat : Int), (d.toNat : Int)] (by simp)
    (fun i hi => by
      obtain rfl | rfl : i = 0 ∨ i = 1 := by omega
      · simpa using h
      · simpa using h1) 9 Try.underlying9
  rw [this]
  congr 3
  unfold strOfNums
  simp

def frB (s : ByteArray) : ByteArray := ⟨(fr s.data.toList).toArray⟩
theorem fr_cat (s : ByteArray) : (⟨#[UInt8.ofNat (s.size % 256), UInt8.ofNat (s.size / 256)]⟩ : ByteArray) ++ s = frB s := by
  apply ByteArray.ext
  apply Array.ext'
  simp [frB, fr]
theorem frB_size (s : ByteArray) : (frB s).size = s.size + 2 := by
  show (fr s.data.toList).toArray.size = _
  rw [List.size_toArray, fr_len, Array.length_toList]
  rfl

theorem ofNat_toNat {n : Nat} (h : n < 256) : (UInt8.ofNat n).toNat = n := by
  rw [UInt8.toNat_ofNat']
  omega

theorem put_long (s : ByteArray) (h : 2048 < s.size) (w : World) :
    Calls Try.prog 7 #[.string s] w fun e w' => e = .returned (.tuple #[.string ⟨#[]⟩, .int .i64 2]) ∧ w = w' := by
  go_enter Try.func7, Try.ntmps7
  go_wp2
  go_ret2
  exact ⟨rfl, rfl⟩

theorem put_any (s : ByteArray) (h : s.size ≤ 2048) (w : World) :
    Calls Try.prog 7 #[.string s] w fun e w' => e = .returned (.tuple #[.string (frB s), .int .i64 0]) ∧ Below w.heap.size w w' := by
  obtain ⟨c, hc⟩ : ∃ c : UInt8, c = UInt8.ofNat (s.size % 256) := ⟨_, rfl⟩
  obtain ⟨d, hd⟩ : ∃ d : UInt8, d = UInt8.ofNat (s.size / 256) := ⟨_, rfl⟩
  have hct : (c.toNat : Int) = s.size % 256 := by rw [hc, ofNat_toNat (by omega)]; omega
  have hdt : (d.toNat : Int) = s.size / 256 := by rw [hd, ofNat_toNat (by omega)]; omega
  have hone := fun W b v u hv hu => run_two v u c d hv hu W b
  have hadd : ∀ v, (Op.stringOp .add ⟨[c, d].toArray⟩ s).run Try.prog v = .ok (.string ((⟨[c, d].toArray⟩ : ByteArray) ++ s)) v := fun v => run_string_add_sum v _ _ (by show 2 + _ ≤ _; omega)
  have HF := Lib.hid (show (⟨[c, d].toArray⟩ : ByteArray) ++ s = frB s by rw [hc, hd]; exact fr_cat s)
  clear hc hd
  go_enter Try.func7, Try.ntmps7
  go_wp2
  go_ret2
  exact ⟨congrArg (fun x => Ending.returned (.tuple #[.string x, .int .i64 0])) HF.out, (Below.refl _ _).alloc (Nat.le_refl _) _⟩

/-- the document's frame -/
theorem refput_any (s : ByteArray) (h : s.size ≤ 2048) (w : World) :
    Calls Try.prog 8 #[.string s] w fun e w' => e = .returned (.string (frB s)) ∧ Below w.heap.size w w' := by
  obtain ⟨c, hc⟩ : ∃ c : UInt8, c = UInt8.ofNat (s.size % 256) := ⟨_, rfl⟩
  obtain ⟨d, hd⟩ : ∃ d : UInt8, d = UInt8.ofNat (s.size / 256) := ⟨_, rfl⟩
  have hct : (c.toNat : Int) = s.size % 256 := by rw [hc, ofNat_toNat (by omega)]; omega
  have hdt : (d.toNat : Int) = s.size / 256 := by rw [hd, ofNat_toNat (by omega)]; omega
  have hone := fun W b v u hv hu => run_two v u c d hv hu W b
  have hadd : ∀ v, (Op.stringOp .add ⟨[c, d].toArray⟩ s).run Try.prog v = .ok (.string ((⟨[c, d].toArray⟩ : ByteArray) ++ s)) v := fun v => run_string_add_sum v _ _ (by show 2 + _ ≤ _; omega)
  have HF := Lib.hid (show (⟨[c, d].toArray⟩ : ByteArray) ++ s = frB s by rw [hc, hd]; exact fr_cat s)
  clear hc hd
  go_enter Try.func8, Try.ntmps8
  go_wp2
  go_ret
  exact ⟨congrArg (fun x => Ending.returned (.string x)) HF.out, (Below.refl _ _).alloc (Nat.le_refl _) _⟩
end Spl
end Go.Proofs.Ytnbmfoidnnfpeaa
