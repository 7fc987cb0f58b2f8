/-
 What was written is read; the document's bytes of a text are as the chapter says. Condition: the text has at most 2^47 bytes.
-/
import Derived.Test.YtljbpelogjmciaaGreatDoorWireAll
import Derived.Test.YtljbpelogjmciaaGreatDoorNumRefPut
import Derived.Laws.Concat
namespace Go.Proofs.YtljbpelogjmciaaGreatDoor
open Go.ChangeShapes Go.WideShapes Go.ChangeAt Go.RowKit Go.Lib
open LebMath WirePure
namespace Wire
theorem bytes_ref (s : ByteArray) (hs : s.size ≤ 140737488351232) (w : World) :
 Calls Tryz.prog 72 #[.string s] w fun e w' => e = .returned (.string ⟨(txB s).toArray⟩) ∧ Below w.heap.size w w' := by
 have hw : IntKind.u64.wrap (s.size : Int) = s.size := IntWalk.u64_in _ (by omega)
 have HS := Lib.hid hs
 have h10 := leb_le_ten (n := s.size) (by omega)
 have hadd : ∀ v, (Op.stringOp .add ⟨(leb s.size).toArray⟩ s).run Tryz.prog v = .ok (.string ((⟨(leb s.size).toArray⟩ : ByteArray) ++ s)) v := fun v => run_string_add_sum v _ _ (by
  show (leb s.size).toArray.size + s.size ≤ _
  rw [List.size_toArray]; omega)
 have E := Lib.hid (show ((⟨(leb s.size).toArray⟩ : ByteArray) ++ s) = ⟨(txB s).toArray⟩ by
  apply ByteArray.ext
  apply Array.ext'
  simp [txB])
 clear hs h10
 go_enter Tryz.func72, Tryz.ntmps72
 go_wp2_with fail
 refine (NumRefPut.refPut_any s.size w (by have := HS.out; omega)).mono ?_
 rintro e w1 ⟨rfl, hb⟩
 have HB := Lib.hid hb
 clear hb
 go_wp2_with fail
 go_ret
 exact ⟨congrArg (fun x => Ending.returned (.string x)) E.out, HB.out⟩
end Wire
end Go.Proofs.YtljbpelogjmciaaGreatDoor
