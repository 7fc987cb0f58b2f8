/-
  The contract of (*taken).container: what is said of a container, and what is taken behind. All that was there is left as it was, but what is taken. Conditions: as SpecTake.
-/
import Derived.Test.YtaegknpijgjioaaGreatDoorSpecReq
namespace Go.Proofs.YtaegknpijgjioaaGreatDoor
open Go.ChangeShapes Go.WideShapes Go.ChangeAt Go.RowKit Go.Lib
open Sd Lists
namespace SpecOwn

/-- what each operation leaves -/
def FBox (g b1 b2 : Nat) (x : Ctr) (N : List ByteArray) (P : List Int) (PA : Option Addr) (pc : Nat) (mp me : Int) : Nat → Value → World → Prop
  | 0 => fun v _ => v = .pointer (some ⟨g, 0, none⟩)
  | 1 => fun v _ => v = .pointer (some ⟨b1, 0, none⟩)
  | 2 => fun v _ => v = .string x.name
  | 3 => SaysK (KO g) (nameN x.name N)
  | 4 => fun v _ => v = .pointer (some ⟨b1, 1, none⟩)
  | 5 => fun v _ => v = .string x.image
  | 6 => fun v _ => v = .int .i64 (Text.codeN (Text.imageB x.image) 33)
  | 7 => TextK (KO g) t_image
  | 8 => SaysK (KO g) (newV (Text.codeN (Text.imageB x.image) 33) t_image)
  | 9 => fun v _ => v = .pointer (some ⟨b1, 2, none⟩)
  | 10 => fun v _ => v = .agg #[.int .i64 x.rc, .int .i64 x.rm, .int .i64 x.rp]
  | 11 => SaysK (KO g) (reqN x.rc x.rm x.rp)
  | 12 => fun v _ => v = .pointer (some ⟨b1, 5, none⟩)
  | 13 => fun v _ => v = .agg #[.int .i64 x.lc, .int .i64 x.lm, .int .i64 x.lp]
  | 14 => fun v _ => v = .pointer (some ⟨b1, 2, none⟩)
  | 15 => fun v _ => v = .agg #[.int .i64 x.rc, .int .i64 x.rm, .int .i64 x.rp]
  | 16 => SaysK (KO g) (limN x.lc x.lm x.lp x.rc x.rm x.rp)
  | 17 => fun v _ => v = .pointer (some ⟨g, 0, none⟩)
  | 18 => fun v _ => v = .pointer (some ⟨b1, 8, none⟩)
  | 19 => fun v _ => v = .slice PA x.ports.length pc
  | 20 => fun v _ => v = .pointer (some ⟨b2, 2, none⟩)
  | 21 => fun v _ => v = .int .i64 mp
  | 22 => SaysK (KO g) (portsL P mp x.ports)
  | 23 => fun v _ => v = .pointer (some ⟨b1, 9, none⟩)
  | 24 => fun v _ => v = .agg #[.int .i64 x.ev, .int .i64 x.fl]
  | 25 => fun v _ => v = .pointer (some ⟨b2, 3, none⟩)
  | 26 => fun v _ => v = .int .i64 me
  | 27 => SaysK (KO g) (probeN x.ev x.fl me)
  | 28 => RowK (KO g) [nameN x.name N, newV (Text.codeN (Text.imageB x.image) 33) t_image, reqN x.rc x.rm x.rp, limN x.lc x.lm x.lp x.rc x.rm x.rp, portsL P mp x.ports, probeN x.ev x.fl me]
  | 29 => SaysK (KO g) (firstV [nameN x.name N, newV (Text.codeN (Text.imageB x.image) 33) t_image, reqN x.rc x.rm x.rp, limN x.lc x.lm x.lp x.rc x.rm x.rp, portsL P mp x.ports, probeN x.ev x.fl me])
  | _ => SaysK (KO g) (firstV [nameN x.name N, newV (Text.codeN (Text.imageB x.image) 33) t_image, reqN x.rc x.rm x.rp, limN x.lc x.lm x.lp x.rc x.rm x.rp, portsL P mp x.ports, probeN x.ev x.fl me])
theorem FBox_keep (g b1 b2 : Nat) (x : Ctr) (N : List ByteArray) (P : List Int) (PA : Option Addr) (pc : Nat) (mp me : Int) (i : Nat) (v : Value) (w w' : World) (h : FBox g b1 b2 x N P PA pc mp me i v w) (hb : Av g w w') : FBox g b1 b2 x N P PA pc mp me i v w' := by
  unfold FBox at h ⊢
  split at h <;> first | exact h | exact TextK.keep h (ko_keep hb) | exact SaysK.keep h (ko_keep hb) | exact RowK.keep h (ko_keep hb)
end SpecOwn
end Go.Proofs.YtaegknpijgjioaaGreatDoor
