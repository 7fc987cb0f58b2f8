/-
  The contracts of spec's req, lim and probe: what is said of what a container asks for, of what it may have, of its probe. All that was there is left as it was. No condition.
-/
import Derived.Test.YtaegknpijgjioaaGreatDoorSpecErrAll
namespace Go.Proofs.YtaegknpijgjioaaGreatDoor
open Go.ChangeShapes Go.WideShapes Go.ChangeAt Go.RowKit Go.Lib
open Sd Lists
namespace SpecOwn

/-- what each operation leaves -/
def Freq (B : Nat) (x0 x1 x2 : Int) : Nat → Value → World → Prop
  | 0 => fun v _ => v = .pointer (some ⟨B, 0, none⟩)
  | 1 => fun v _ => v = .int .i64 x0
  | 2 => SaysK (KB B) (withinV x0 0 big (t_req ++ t_cpu))
  | 3 => fun v _ => v = .pointer (some ⟨B, 1, none⟩)
  | 4 => fun v _ => v = .int .i64 x1
  | 5 => SaysK (KB B) (withinV x1 0 big (t_req ++ t_mem))
  | 6 => fun v _ => v = .pointer (some ⟨B, 2, none⟩)
  | 7 => fun v _ => v = .int .i64 x2
  | 8 => SaysK (KB B) (withinV x2 0 big (t_req ++ t_pids))
  | 9 => RowK (KB B) [withinV x0 0 big (t_req ++ t_cpu), withinV x1 0 big (t_req ++ t_mem), withinV x2 0 big (t_req ++ t_pids)]
  | 10 => SaysK (KB B) (firstV [withinV x0 0 big (t_req ++ t_cpu), withinV x1 0 big (t_req ++ t_mem), withinV x2 0 big (t_req ++ t_pids)])
  | _ => SaysK (KB B) (firstV [withinV x0 0 big (t_req ++ t_cpu), withinV x1 0 big (t_req ++ t_mem), withinV x2 0 big (t_req ++ t_pids)])
theorem Freq_keep (B : Nat) (x0 x1 x2 : Int) (i : Nat) (v : Value) (w w' : World) (h : Freq B x0 x1 x2 i v w) (hb : Below w.heap.size w w') : Freq B x0 x1 x2 i v w' := by
  unfold Freq at h ⊢
  split at h <;> first | exact h | exact TextK.keep h (kb_keep hb) | exact SaysK.keep h (kb_keep hb) | exact RowK.keep h (kb_keep hb)
/-- what each operation leaves -/
def Flim (B : Nat) (x0 x1 x2 y0 y1 y2 : Int) : Nat → Value → World → Prop
  | 0 => fun v _ => v = .pointer (some ⟨B, 0, none⟩)
  | 1 => fun v _ => v = .int .i64 x0
  | 2 => fun v _ => v = .pointer (some ⟨B + 1, 0, none⟩)
  | 3 => fun v _ => v = .int .i64 y0
  | 4 => SaysK (KB B) (limitV x0 y0 (t_lim ++ t_cpu))
  | 5 => fun v _ => v = .pointer (some ⟨B, 1, none⟩)
  | 6 => fun v _ => v = .int .i64 x1
  | 7 => fun v _ => v = .pointer (some ⟨B + 1, 1, none⟩)
  | 8 => fun v _ => v = .int .i64 y1
  | 9 => SaysK (KB B) (limitV x1 y1 (t_lim ++ t_mem))
  | 10 => fun v _ => v = .pointer (some ⟨B, 2, none⟩)
  | 11 => fun v _ => v = .int .i64 x2
  | 12 => fun v _ => v = .pointer (some ⟨B + 1, 2, none⟩)
  | 13 => fun v _ => v = .int .i64 y2
  | 14 => SaysK (KB B) (limitV x2 y2 (t_lim ++ t_pids))
  | 15 => RowK (KB B) [limitV x0 y0 (t_lim ++ t_cpu), limitV x1 y1 (t_lim ++ t_mem), limitV x2 y2 (t_lim ++ t_pids)]
  | 16 => SaysK (KB B) (firstV [limitV x0 y0 (t_lim ++ t_cpu), limitV x1 y1 (t_lim ++ t_mem), limitV x2 y2 (t_lim ++ t_pids)])
  | _ => SaysK (KB B) (firstV [limitV x0 y0 (t_lim ++ t_cpu), limitV x1 y1 (t_lim ++ t_mem), limitV x2 y2 (t_lim ++ t_pids)])
theorem Flim_keep (B : Nat) (x0 x1 x2 y0 y1 y2 : Int) (i : Nat) (v : Value) (w w' : World) (h : Flim B x0 x1 x2 y0 y1 y2 i v w) (hb : Below w.heap.size w w') : Flim B x0 x1 x2 y0 y1 y2 i v w' := by
  unfold Flim at h ⊢
  split at h <;> first | exact h | exact TextK.keep h (kb_keep hb) | exact SaysK.keep h (kb_keep hb) | exact RowK.keep h (kb_keep hb)
/-- what each operation leaves -/
def Fprobe0 (B : Nat) (fl every : Int) : Nat → Value → World → Prop
  | 0 => fun v _ => v = .pointer (some ⟨B, 0, none⟩)
  | 1 => fun v _ => v = .int .i64 0
  | 2 => fun v _ => v = .int .i64 every
  | 3 => SaysK (KB B) (withinV 0 0 every t_every)
  | 4 => fun v _ => v = .pointer (some ⟨B, 1, none⟩)
  | 5 => fun v _ => v = .int .i64 fl
  | 6 => fun v _ => v = .int .i64 0
  | 7 => fun v _ => v = .int .i64 0
  | 8 => SaysK (KB B) (withinV fl 0 0 t_fails)
  | 9 => RowK (KB B) [withinV 0 0 every t_every, withinV fl 0 0 t_fails]
  | 10 => SaysK (KB B) (firstV [withinV 0 0 every t_every, withinV fl 0 0 t_fails])
  | _ => SaysK (KB B) (firstV [withinV 0 0 every t_every, withinV fl 0 0 t_fails])
theorem Fprobe0_keep (B : Nat) (fl every : Int) (i : Nat) (v : Value) (w w' : World) (h : Fprobe0 B fl every i v w) (hb : Below w.heap.size w w') : Fprobe0 B fl every i v w' := by
  unfold Fprobe0 at h ⊢
  split at h <;> first | exact h | exact TextK.keep h (kb_keep hb) | exact SaysK.keep h (kb_keep hb) | exact RowK.keep h (kb_keep hb)
/-- what each operation leaves -/
def Fprobe1 (B : Nat) (ev fl every : Int) : Nat → Value → World → Prop
  | 0 => fun v _ => v = .pointer (some ⟨B, 0, none⟩)
  | 1 => fun v _ => v = .int .i64 ev
  | 2 => fun v _ => v = .int .i64 every
  | 3 => SaysK (KB B) (withinV ev 0 every t_every)
  | 4 => fun v _ => v = .pointer (some ⟨B, 1, none⟩)
  | 5 => fun v _ => v = .int .i64 fl
  | 6 => fun v _ => v = .int .i64 1
  | 7 => fun v _ => v = .int .i64 10
  | 8 => SaysK (KB B) (withinV fl 1 10 t_fails)
  | 9 => RowK (KB B) [withinV ev 0 every t_every, withinV fl 1 10 t_fails]
  | 10 => SaysK (KB B) (firstV [withinV ev 0 every t_every, withinV fl 1 10 t_fails])
  | _ => SaysK (KB B) (firstV [withinV ev 0 every t_every, withinV fl 1 10 t_fails])
theorem Fprobe1_keep (B : Nat) (ev fl every : Int) (i : Nat) (v : Value) (w w' : World) (h : Fprobe1 B ev fl every i v w) (hb : Below w.heap.size w w') : Fprobe1 B ev fl every i v w' := by
  unfold Fprobe1 at h ⊢
  split at h <;> first | exact h | exact TextK.keep h (kb_keep hb) | exact SaysK.keep h (kb_keep hb) | exact RowK.keep h (kb_keep hb)
end SpecOwn
end Go.Proofs.YtaegknpijgjioaaGreatDoor
