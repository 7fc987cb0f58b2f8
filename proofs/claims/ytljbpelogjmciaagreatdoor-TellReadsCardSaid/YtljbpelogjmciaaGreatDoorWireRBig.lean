/-
 The contract of a reader's Big. Condition: as WireReads.
-/
import Derived.Test.YtljbpelogjmciaaGreatDoorWireAll
namespace Go.Proofs.YtljbpelogjmciaaGreatDoor
open Go.ChangeShapes Go.WideShapes Go.ChangeAt Go.RowKit Go.Lib
open LebMath WirePure
namespace Wire
theorem rbig_any (g : Nat) (c : Int) (l : List UInt8) (hl : l.length ≤ maxLen) (w : World) (h : Rd w g c l) :
 Calls Tryz.prog 124 #[.pointer (some ⟨g, 0, none⟩)] w fun e w' => e = .returned (.int .u64 (numV 18446744073709551615 c l)) ∧ Rd w' g (numE 18446744073709551615 c l) (numL 18446744073709551615 c l) ∧ Aside g w w' := by
 have H := hid h
 have HL := hid hl
 clear h hl
 go_enter Tryz.func124, Tryz.ntmps124
 go_wp2_with fail
 refine (number_any g 18446744073709551615 (by decide) c l HL.out w H.out).mono ?_
 rintro e w3 ⟨rfl, h3, k3⟩
 have H3 := hid h3
 have K3 := hid k3
 clear h3 k3
 go_wp2
 go_ret
 exact ⟨rfl, H3.out, K3.out⟩
end Wire
end Go.Proofs.YtljbpelogjmciaaGreatDoor
