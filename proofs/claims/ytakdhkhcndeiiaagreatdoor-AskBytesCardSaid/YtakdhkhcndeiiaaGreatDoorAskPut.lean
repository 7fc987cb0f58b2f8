/-
 The contracts of ask's put, Bytes: the bytes that the plain functions say, or Check's code; what the writer does not own is left as it was. Conditions: as AskCheck.
-/
import Derived.Test.YtakdhkhcndeiiaaGreatDoorAskAll
set_option linter.unusedVariables false
set_option linter.unusedSimpArgs false
namespace Go.Proofs.YtakdhkhcndeiiaaGreatDoor
open Go.ChangeShapes Go.WideShapes Go.ChangeAt Go.RowKit Go.Lib
open LebMath WirePure Sd Wire SpecOwn SpecRef Book Pk
namespace Ak

set_option maxRecDepth 100000 in
theorem put_0 (g : Nat) (D : Nat → Prop) (xs : List UInt8) (c : Cal) (LA : Option Addr) (lc : Nat) (IA : Option Addr) (ic : Nat) (MA : Option Addr) (mc : Nat) (SA : Option Addr) (sc : Nat) (hLt : LightC c) (hz : xs.length + 100000000 ≤ 140737488355328) (w0 w : World) (hb : Below w0.heap.size w0 w) (hD : ∀ k, k < w0.heap.size → D k) (hS : c.In w0 LA lc IA ic MA mc SA) (hL : SLaid w) (h : Wr w g D 0 xs) (hk : (checkF c 0).1 = 0) :
 Calls Tryz.prog 77 #[.pointer (some ⟨g, 0, none⟩), .agg #[.int .i64 c.kind, .int .i64 c.uid, .int .u64 c.rev, .string c.spec.name, .slice LA c.spec.labels.length lc, .slice IA c.spec.init.length ic, .slice MA c.spec.main.length mc, .int .i64 c.spec.restart, .int .i64 c.spec.grace, .int .i64 c.spec.prio, .int .i64 c.grace, .int .i64 c.ctr, .int .i64 c.id, .int .i64 c.most, .string c.data, .slice SA c.sel.length sc], .int .i64 0] w fun e w' => e = .returned (.tuple #[]) ∧ Wr w' g D 0 (xs ++ putF c 0) ∧ Kept D w w' := by
 have hok := checkF_ok hk hS.rev
 have HOK := Lib.hid hok
 have HK := Lib.hid hk
 have HS := Lib.hid hS
 have HL := Lib.hid hL
 have HLT := Lib.hid hLt
 have HB0 := Lib.hid hb
 have HD := Lib.hid hD
 obtain ⟨w1, hw1⟩ : ∃ v, w.alloc (.cells #[.int .i64 c.kind, .int .i64 c.uid, .int .u64 c.rev, .string c.spec.name, .slice LA c.spec.labels.length lc, .slice IA c.spec.init.length ic, .slice MA c.spec.main.length mc, .int .i64 c.spec.restart, .int .i64 c.spec.grace, .int .i64 c.spec.prio, .int .i64 c.grace, .int .i64 c.ctr, .int .i64 c.id, .int .i64 c.most, .string c.data, .slice SA c.sel.length sc] 41) = v := ⟨_, rfl⟩
 have hb1 : Below w.heap.size w w1 := by rw [← hw1]; exact (Below.refl _ _).alloc (Nat.le_refl _) _
 have X := Lib.hid (show w1.heap[w.heap.size]? = some (.cells #[.int .i64 c.kind, .int .i64 c.uid, .int .u64 c.rev, .string c.spec.name, .slice LA c.spec.labels.length lc, .slice IA c.spec.init.length ic, .slice MA c.spec.main.length mc, .int .i64 c.spec.restart, .int .i64 c.spec.grace, .int .i64 c.spec.prio, .int .i64 c.grace, .int .i64 c.ctr, .int .i64 c.id, .int .i64 c.most, .string c.data, .slice SA c.sel.length sc] 41) by rw [← hw1]; exact heap_alloc_new w _)
 have H1 := Lib.hid (show Wr w1 g (fun k => D k ∨ k = w.heap.size) 0 xs by rw [← hw1]; exact h.alloc _)
 have KB1 := Lib.hid (show Kept D w w1 from Kept.of_below hb1 (fun k hk => (h.1 k hk).1))
 have HL1 := Lib.hid (hL.below hb1)
 have HB1 := Lib.hid (hb.trans (hb1.mono hb.size))
 clear hok hk hS hL hLt hb hD h hb1
 have c1 := box_cell X.out 1 rfl
 go_enter Tryz.func77, Tryz.ntmps77
 go_wp2_with fail
 refine (num_wr g (fun k => D k ∨ k = w.heap.size) 0 xs c.uid 1073741824 (by decide) (show (intC 1073741824 (by decide)).ok c.uid from HOK.out) (by omega) w1 H1.out).mono ?_
 rintro e w2 ⟨rfl, h2, k2⟩
 rw [addB_no] at h2
 have HW := Lib.hid (show Wr w2 g D 0 (xs ++ putF c 0) from h2.less (D' := D) (fun k hk => .inl hk))
 have HKP := Lib.hid (KB1.out.trans (k2.mono (fun k hk => .inl hk)))
 clear h2 k2
 go_wp2
 first
 | go_end0
 | refine bodyPost_ret (results_none rfl _ _ _) rfl ?_
 exact ⟨rfl, HW.out, HKP.out⟩

set_option maxRecDepth 100000 in
theorem put_1 (g : Nat) (D : Nat → Prop) (xs : List UInt8) (c : Cal) (LA : Option Addr) (lc : Nat) (IA : Option Addr) (ic : Nat) (MA : Option Addr) (mc : Nat) (SA : Option Addr) (sc : Nat) (hLt : LightC c) (hz : xs.length + 100000000 ≤ 140737488355328) (w0 w : World) (hb : Below w0.heap.size w0 w) (hD : ∀ k, k < w0.heap.size → D k) (hS : c.In w0 LA lc IA ic MA mc SA) (hL : SLaid w) (h : Wr w g D 0 xs) (hk : (checkF c 1).1 = 0) :
 Calls Tryz.prog 77 #[.pointer (some ⟨g, 0, none⟩), .agg #[.int .i64 c.kind, .int .i64 c.uid, .int .u64 c.rev, .string c.spec.name, .slice LA c.spec.labels.length lc, .slice IA c.spec.init.length ic, .slice MA c.spec.main.length mc, .int .i64 c.spec.restart, .int .i64 c.spec.grace, .int .i64 c.spec.prio, .int .i64 c.grace, .int .i64 c.ctr, .int .i64 c.id, .int .i64 c.most, .string c.data, .slice SA c.sel.length sc], .int .i64 1] w fun e w' => e = .returned (.tuple #[]) ∧ Wr w' g D 0 (xs ++ putF c 1) ∧ Kept D w w' := by
 have hok := checkF_ok hk hS.rev
 have HOK := Lib.hid hok
 have HK := Lib.hid hk
 have HS := Lib.hid hS
 have HL := Lib.hid hL
 have HLT := Lib.hid hLt
 have HB0 := Lib.hid hb
 have HD := Lib.hid hD
 obtain ⟨w1, hw1⟩ : ∃ v, w.alloc (.cells #[.int .i64 c.kind, .int .i64 c.uid, .int .u64 c.rev, .string c.spec.name, .slice LA c.spec.labels.length lc, .slice IA c.spec.init.length ic, .slice MA c.spec.main.length mc, .int .i64 c.spec.restart, .int .i64 c.spec.grace, .int .i64 c.spec.prio, .int .i64 c.grace, .int .i64 c.ctr, .int .i64 c.id, .int .i64 c.most, .string c.data, .slice SA c.sel.length sc] 41) = v := ⟨_, rfl⟩
 have hb1 : Below w.heap.size w w1 := by rw [← hw1]; exact (Below.refl _ _).alloc (Nat.le_refl _) _
 have X := Lib.hid (show w1.heap[w.heap.size]? = some (.cells #[.int .i64 c.kind, .int .i64 c.uid, .int .u64 c.rev, .string c.spec.name, .slice LA c.spec.labels.length lc, .slice IA c.spec.init.length ic, .slice MA c.spec.main.length mc, .int .i64 c.spec.restart, .int .i64 c.spec.grace, .int .i64 c.spec.prio, .int .i64 c.grace, .int .i64 c.ctr, .int .i64 c.id, .int .i64 c.most, .string c.data, .slice SA c.sel.length sc] 41) by rw [← hw1]; exact heap_alloc_new w _)
 have H1 := Lib.hid (show Wr w1 g (fun k => D k ∨ k = w.heap.size) 0 xs by rw [← hw1]; exact h.alloc _)
 have KB1 := Lib.hid (show Kept D w w1 from Kept.of_below hb1 (fun k hk => (h.1 k hk).1))
 have HL1 := Lib.hid (hL.below hb1)
 have HB1 := Lib.hid (hb.trans (hb1.mono hb.size))
 clear hok hk hS hL hLt hb hD h hb1
 have c2 := box_cell X.out 2 rfl
 go_enter Tryz.func77, Tryz.ntmps77
 go_wp2_with fail
 refine (big_any g (fun k => D k ∨ k = w.heap.size) 0 xs c.rev HS.out.rev (fun _ => by omega) w1 H1.out).mono ?_
 rintro e w2 ⟨rfl, h2, k2⟩
 rw [addB_no] at h2
 have HW := Lib.hid (show Wr w2 g D 0 (xs ++ putF c 1) from h2.less (D' := D) (fun k hk => .inl hk))
 have HKP := Lib.hid (KB1.out.trans (k2.mono (fun k hk => .inl hk)))
 clear h2 k2
 go_wp2
 first
 | go_end0
 | refine bodyPost_ret (results_none rfl _ _ _) rfl ?_
 exact ⟨rfl, HW.out, HKP.out⟩

set_option maxRecDepth 100000 in
theorem put_2 (g : Nat) (D : Nat → Prop) (xs : List UInt8) (c : Cal) (LA : Option Addr) (lc : Nat) (IA : Option Addr) (ic : Nat) (MA : Option Addr) (mc : Nat) (SA : Option Addr) (sc : Nat) (hLt : LightC c) (hz : xs.length + 100000000 ≤ 140737488355328) (w0 w : World) (hb : Below w0.heap.size w0 w) (hD : ∀ k, k < w0.heap.size → D k) (hS : c.In w0 LA lc IA ic MA mc SA) (hL : SLaid w) (h : Wr w g D 0 xs) (hk : (checkF c 2).1 = 0) :
 Calls Tryz.prog 77 #[.pointer (some ⟨g, 0, none⟩), .agg #[.int .i64 c.kind, .int .i64 c.uid, .int .u64 c.rev, .string c.spec.name, .slice LA c.spec.labels.length lc, .slice IA c.spec.init.length ic, .slice MA c.spec.main.length mc, .int .i64 c.spec.restart, .int .i64 c.spec.grace, .int .i64 c.spec.prio, .int .i64 c.grace, .int .i64 c.ctr, .int .i64 c.id, .int .i64 c.most, .string c.data, .slice SA c.sel.length sc], .int .i64 2] w fun e w' => e = .returned (.tuple #[]) ∧ Wr w' g D 0 (xs ++ putF c 2) ∧ Kept D w w' := by
 have hok := checkF_ok hk hS.rev
 have HOK := Lib.hid hok
 have HK := Lib.hid hk
 have HS := Lib.hid hS
 have HL := Lib.hid hL
 have HLT := Lib.hid hLt
 have HB0 := Lib.hid hb
 have HD := Lib.hid hD
 obtain ⟨w1, hw1⟩ : ∃ v, w.alloc (.cells #[.int .i64 c.kind, .int .i64 c.uid, .int .u64 c.rev, .string c.spec.name, .slice LA c.spec.labels.length lc, .slice IA c.spec.init.length ic, .slice MA c.spec.main.length mc, .int .i64 c.spec.restart, .int .i64 c.spec.grace, .int .i64 c.spec.prio, .int .i64 c.grace, .int .i64 c.ctr, .int .i64 c.id, .int .i64 c.most, .string c.data, .slice SA c.sel.length sc] 41) = v := ⟨_, rfl⟩
 have hb1 : Below w.heap.size w w1 := by rw [← hw1]; exact (Below.refl _ _).alloc (Nat.le_refl _) _
 have X := Lib.hid (show w1.heap[w.heap.size]? = some (.cells #[.int .i64 c.kind, .int .i64 c.uid, .int .u64 c.rev, .string c.spec.name, .slice LA c.spec.labels.length lc, .slice IA c.spec.init.length ic, .slice MA c.spec.main.length mc, .int .i64 c.spec.restart, .int .i64 c.spec.grace, .int .i64 c.spec.prio, .int .i64 c.grace, .int .i64 c.ctr, .int .i64 c.id, .int .i64 c.most, .string c.data, .slice SA c.sel.length sc] 41) by rw [← hw1]; exact heap_alloc_new w _)
 have H1 := Lib.hid (show Wr w1 g (fun k => D k ∨ k = w.heap.size) 0 xs by rw [← hw1]; exact h.alloc _)
 have KB1 := Lib.hid (show Kept D w w1 from Kept.of_below hb1 (fun k hk => (h.1 k hk).1))
 have HL1 := Lib.hid (hL.below hb1)
 have HB1 := Lib.hid (hb.trans (hb1.mono hb.size))
 clear hok hk hS hL hLt hb hD h hb1
 have c3 := box_cell X.out 3 rfl
 have c4 := box_cell X.out 4 rfl
 have c5 := box_cell X.out 5 rfl
 have c6 := box_cell X.out 6 rfl
 have c7 := box_cell X.out 7 rfl
 have c8 := box_cell X.out 8 rfl
 have c9 := box_cell X.out 9 rfl
 go_enter Tryz.func77, Tryz.ntmps77
 go_wp2_with fail
 refine (put_wr g (fun k => D k ∨ k = w.heap.size) 0 xs c.spec LA lc IA ic MA mc HLT.out.spec hz w0 w1 HB1.out (fun k hk => .inl (HD.out k hk)) HS.out.spec HL1.out H1.out).mono ?_
 rintro e w2 ⟨rfl, k2, hcase⟩
 have hk0 : (checkV c.spec).1 = 0 := by
  have h' : (inV a_spec (checkV c.spec)).1 = 0 := HK.out
  unfold inV at h'
  split at h'
  · assumption
  · exact h'
 rcases hcase with ⟨_, h2⟩ | ⟨hn, _⟩
 rotate_left
 · exact absurd hk0 hn
 rw [addB_no] at h2
 have HW := Lib.hid (show Wr w2 g D 0 (xs ++ putF c 2) from h2.less (D' := D) (fun k hk => .inl hk))
 have HKP := Lib.hid (KB1.out.trans (k2.mono (fun k hk => .inl hk)))
 clear h2 k2 hk0
 go_wp2
 first
 | go_end0
 | refine bodyPost_ret (results_none rfl _ _ _) rfl ?_
 exact ⟨rfl, HW.out, HKP.out⟩

set_option maxRecDepth 100000 in
theorem put_3 (g : Nat) (D : Nat → Prop) (xs : List UInt8) (c : Cal) (LA : Option Addr) (lc : Nat) (IA : Option Addr) (ic : Nat) (MA : Option Addr) (mc : Nat) (SA : Option Addr) (sc : Nat) (hLt : LightC c) (hz : xs.length + 100000000 ≤ 140737488355328) (w0 w : World) (hb : Below w0.heap.size w0 w) (hD : ∀ k, k < w0.heap.size → D k) (hS : c.In w0 LA lc IA ic MA mc SA) (hL : SLaid w) (h : Wr w g D 0 xs) (hk : (checkF c 3).1 = 0) :
 Calls Tryz.prog 77 #[.pointer (some ⟨g, 0, none⟩), .agg #[.int .i64 c.kind, .int .i64 c.uid, .int .u64 c.rev, .string c.spec.name, .slice LA c.spec.labels.length lc, .slice IA c.spec.init.length ic, .slice MA c.spec.main.length mc, .int .i64 c.spec.restart, .int .i64 c.spec.grace, .int .i64 c.spec.prio, .int .i64 c.grace, .int .i64 c.ctr, .int .i64 c.id, .int .i64 c.most, .string c.data, .slice SA c.sel.length sc], .int .i64 3] w fun e w' => e = .returned (.tuple #[]) ∧ Wr w' g D 0 (xs ++ putF c 3) ∧ Kept D w w' := by
 have hok := checkF_ok hk hS.rev
 have HOK := Lib.hid hok
 have HK := Lib.hid hk
 have HS := Lib.hid hS
 have HL := Lib.hid hL
 have HLT := Lib.hid hLt
 have HB0 := Lib.hid hb
 have HD := Lib.hid hD
 obtain ⟨w1, hw1⟩ : ∃ v, w.alloc (.cells #[.int .i64 c.kind, .int .i64 c.uid, .int .u64 c.rev, .string c.spec.name, .slice LA c.spec.labels.length lc, .slice IA c.spec.init.length ic, .slice MA c.spec.main.length mc, .int .i64 c.spec.restart, .int .i64 c.spec.grace, .int .i64 c.spec.prio, .int .i64 c.grace, .int .i64 c.ctr, .int .i64 c.id, .int .i64 c.most, .string c.data, .slice SA c.sel.length sc] 41) = v := ⟨_, rfl⟩
 have hb1 : Below w.heap.size w w1 := by rw [← hw1]; exact (Below.refl _ _).alloc (Nat.le_refl _) _
 have X := Lib.hid (show w1.heap[w.heap.size]? = some (.cells #[.int .i64 c.kind, .int .i64 c.uid, .int .u64 c.rev, .string c.spec.name, .slice LA c.spec.labels.length lc, .slice IA c.spec.init.length ic, .slice MA c.spec.main.length mc, .int .i64 c.spec.restart, .int .i64 c.spec.grace, .int .i64 c.spec.prio, .int .i64 c.grace, .int .i64 c.ctr, .int .i64 c.id, .int .i64 c.most, .string c.data, .slice SA c.sel.length sc] 41) by rw [← hw1]; exact heap_alloc_new w _)
 have H1 := Lib.hid (show Wr w1 g (fun k => D k ∨ k = w.heap.size) 0 xs by rw [← hw1]; exact h.alloc _)
 have KB1 := Lib.hid (show Kept D w w1 from Kept.of_below hb1 (fun k hk => (h.1 k hk).1))
 have HL1 := Lib.hid (hL.below hb1)
 have HB1 := Lib.hid (hb.trans (hb1.mono hb.size))
 clear hok hk hS hL hLt hb hD h hb1
 have c10 := box_cell X.out 10 rfl
 go_enter Tryz.func77, Tryz.ntmps77
 go_wp2_with fail
 refine (num_wr g (fun k => D k ∨ k = w.heap.size) 0 xs c.grace 1000 (by decide) (show (intC 1000 (by decide)).ok c.grace from HOK.out) (by omega) w1 H1.out).mono ?_
 rintro e w2 ⟨rfl, h2, k2⟩
 rw [addB_no] at h2
 have HW := Lib.hid (show Wr w2 g D 0 (xs ++ putF c 3) from h2.less (D' := D) (fun k hk => .inl hk))
 have HKP := Lib.hid (KB1.out.trans (k2.mono (fun k hk => .inl hk)))
 clear h2 k2
 go_wp2
 first
 | go_end0
 | refine bodyPost_ret (results_none rfl _ _ _) rfl ?_
 exact ⟨rfl, HW.out, HKP.out⟩

set_option maxRecDepth 100000 in
theorem put_4 (g : Nat) (D : Nat → Prop) (xs : List UInt8) (c : Cal) (LA : Option Addr) (lc : Nat) (IA : Option Addr) (ic : Nat) (MA : Option Addr) (mc : Nat) (SA : Option Addr) (sc : Nat) (hLt : LightC c) (hz : xs.length + 100000000 ≤ 140737488355328) (w0 w : World) (hb : Below w0.heap.size w0 w) (hD : ∀ k, k < w0.heap.size → D k) (hS : c.In w0 LA lc IA ic MA mc SA) (hL : SLaid w) (h : Wr w g D 0 xs) (hk : (checkF c 4).1 = 0) :
 Calls Tryz.prog 77 #[.pointer (some ⟨g, 0, none⟩), .agg #[.int .i64 c.kind, .int .i64 c.uid, .int .u64 c.rev, .string c.spec.name, .slice LA c.spec.labels.length lc, .slice IA c.spec.init.length ic, .slice MA c.spec.main.length mc, .int .i64 c.spec.restart, .int .i64 c.spec.grace, .int .i64 c.spec.prio, .int .i64 c.grace, .int .i64 c.ctr, .int .i64 c.id, .int .i64 c.most, .string c.data, .slice SA c.sel.length sc], .int .i64 4] w fun e w' => e = .returned (.tuple #[]) ∧ Wr w' g D 0 (xs ++ putF c 4) ∧ Kept D w w' := by
 have hok := checkF_ok hk hS.rev
 have HOK := Lib.hid hok
 have HK := Lib.hid hk
 have HS := Lib.hid hS
 have HL := Lib.hid hL
 have HLT := Lib.hid hLt
 have HB0 := Lib.hid hb
 have HD := Lib.hid hD
 obtain ⟨w1, hw1⟩ : ∃ v, w.alloc (.cells #[.int .i64 c.kind, .int .i64 c.uid, .int .u64 c.rev, .string c.spec.name, .slice LA c.spec.labels.length lc, .slice IA c.spec.init.length ic, .slice MA c.spec.main.length mc, .int .i64 c.spec.restart, .int .i64 c.spec.grace, .int .i64 c.spec.prio, .int .i64 c.grace, .int .i64 c.ctr, .int .i64 c.id, .int .i64 c.most, .string c.data, .slice SA c.sel.length sc] 41) = v := ⟨_, rfl⟩
 have hb1 : Below w.heap.size w w1 := by rw [← hw1]; exact (Below.refl _ _).alloc (Nat.le_refl _) _
 have X := Lib.hid (show w1.heap[w.heap.size]? = some (.cells #[.int .i64 c.kind, .int .i64 c.uid, .int .u64 c.rev, .string c.spec.name, .slice LA c.spec.labels.length lc, .slice IA c.spec.init.length ic, .slice MA c.spec.main.length mc, .int .i64 c.spec.restart, .int .i64 c.spec.grace, .int .i64 c.spec.prio, .int .i64 c.grace, .int .i64 c.ctr, .int .i64 c.id, .int .i64 c.most, .string c.data, .slice SA c.sel.length sc] 41) by rw [← hw1]; exact heap_alloc_new w _)
 have H1 := Lib.hid (show Wr w1 g (fun k => D k ∨ k = w.heap.size) 0 xs by rw [← hw1]; exact h.alloc _)
 have KB1 := Lib.hid (show Kept D w w1 from Kept.of_below hb1 (fun k hk => (h.1 k hk).1))
 have HL1 := Lib.hid (hL.below hb1)
 have HB1 := Lib.hid (hb.trans (hb1.mono hb.size))
 clear hok hk hS hL hLt hb hD h hb1
 have c11 := box_cell X.out 11 rfl
 go_enter Tryz.func77, Tryz.ntmps77
 go_wp2_with fail
 refine (num_wr g (fun k => D k ∨ k = w.heap.size) 0 xs c.ctr 3 (by decide) (show (intC 3 (by decide)).ok c.ctr from HOK.out) (by omega) w1 H1.out).mono ?_
 rintro e w2 ⟨rfl, h2, k2⟩
 rw [addB_no] at h2
 have HW := Lib.hid (show Wr w2 g D 0 (xs ++ putF c 4) from h2.less (D' := D) (fun k hk => .inl hk))
 have HKP := Lib.hid (KB1.out.trans (k2.mono (fun k hk => .inl hk)))
 clear h2 k2
 go_wp2
 first
 | go_end0
 | refine bodyPost_ret (results_none rfl _ _ _) rfl ?_
 exact ⟨rfl, HW.out, HKP.out⟩

set_option maxRecDepth 100000 in
theorem put_5 (g : Nat) (D : Nat → Prop) (xs : List UInt8) (c : Cal) (LA : Option Addr) (lc : Nat) (IA : Option Addr) (ic : Nat) (MA : Option Addr) (mc : Nat) (SA : Option Addr) (sc : Nat) (hLt : LightC c) (hz : xs.length + 100000000 ≤ 140737488355328) (w0 w : World) (hb : Below w0.heap.size w0 w) (hD : ∀ k, k < w0.heap.size → D k) (hS : c.In w0 LA lc IA ic MA mc SA) (hL : SLaid w) (h : Wr w g D 0 xs) (hk : (checkF c 5).1 = 0) :
 Calls Tryz.prog 77 #[.pointer (some ⟨g, 0, none⟩), .agg #[.int .i64 c.kind, .int .i64 c.uid, .int .u64 c.rev, .string c.spec.name, .slice LA c.spec.labels.length lc, .slice IA c.spec.init.length ic, .slice MA c.spec.main.length mc, .int .i64 c.spec.restart, .int .i64 c.spec.grace, .int .i64 c.spec.prio, .int .i64 c.grace, .int .i64 c.ctr, .int .i64 c.id, .int .i64 c.most, .string c.data, .slice SA c.sel.length sc], .int .i64 5] w fun e w' => e = .returned (.tuple #[]) ∧ Wr w' g D 0 (xs ++ putF c 5) ∧ Kept D w w' := by
 have hok := checkF_ok hk hS.rev
 have HOK := Lib.hid hok
 have HK := Lib.hid hk
 have HS := Lib.hid hS
 have HL := Lib.hid hL
 have HLT := Lib.hid hLt
 have HB0 := Lib.hid hb
 have HD := Lib.hid hD
 obtain ⟨w1, hw1⟩ : ∃ v, w.alloc (.cells #[.int .i64 c.kind, .int .i64 c.uid, .int .u64 c.rev, .string c.spec.name, .slice LA c.spec.labels.length lc, .slice IA c.spec.init.length ic, .slice MA c.spec.main.length mc, .int .i64 c.spec.restart, .int .i64 c.spec.grace, .int .i64 c.spec.prio, .int .i64 c.grace, .int .i64 c.ctr, .int .i64 c.id, .int .i64 c.most, .string c.data, .slice SA c.sel.length sc] 41) = v := ⟨_, rfl⟩
 have hb1 : Below w.heap.size w w1 := by rw [← hw1]; exact (Below.refl _ _).alloc (Nat.le_refl _) _
 have X := Lib.hid (show w1.heap[w.heap.size]? = some (.cells #[.int .i64 c.kind, .int .i64 c.uid, .int .u64 c.rev, .string c.spec.name, .slice LA c.spec.labels.length lc, .slice IA c.spec.init.length ic, .slice MA c.spec.main.length mc, .int .i64 c.spec.restart, .int .i64 c.spec.grace, .int .i64 c.spec.prio, .int .i64 c.grace, .int .i64 c.ctr, .int .i64 c.id, .int .i64 c.most, .string c.data, .slice SA c.sel.length sc] 41) by rw [← hw1]; exact heap_alloc_new w _)
 have H1 := Lib.hid (show Wr w1 g (fun k => D k ∨ k = w.heap.size) 0 xs by rw [← hw1]; exact h.alloc _)
 have KB1 := Lib.hid (show Kept D w w1 from Kept.of_below hb1 (fun k hk => (h.1 k hk).1))
 have HL1 := Lib.hid (hL.below hb1)
 have HB1 := Lib.hid (hb.trans (hb1.mono hb.size))
 clear hok hk hS hL hLt hb hD h hb1
 have c12 := box_cell X.out 12 rfl
 go_enter Tryz.func77, Tryz.ntmps77
 go_wp2_with fail
 refine (num_wr g (fun k => D k ∨ k = w.heap.size) 0 xs c.id 1073741824 (by decide) (show (intC 1073741824 (by decide)).ok c.id from HOK.out) (by omega) w1 H1.out).mono ?_
 rintro e w2 ⟨rfl, h2, k2⟩
 rw [addB_no] at h2
 have HW := Lib.hid (show Wr w2 g D 0 (xs ++ putF c 5) from h2.less (D' := D) (fun k hk => .inl hk))
 have HKP := Lib.hid (KB1.out.trans (k2.mono (fun k hk => .inl hk)))
 clear h2 k2
 go_wp2
 first
 | go_end0
 | refine bodyPost_ret (results_none rfl _ _ _) rfl ?_
 exact ⟨rfl, HW.out, HKP.out⟩

set_option maxRecDepth 100000 in
theorem put_6 (g : Nat) (D : Nat → Prop) (xs : List UInt8) (c : Cal) (LA : Option Addr) (lc : Nat) (IA : Option Addr) (ic : Nat) (MA : Option Addr) (mc : Nat) (SA : Option Addr) (sc : Nat) (hLt : LightC c) (hz : xs.length + 100000000 ≤ 140737488355328) (w0 w : World) (hb : Below w0.heap.size w0 w) (hD : ∀ k, k < w0.heap.size → D k) (hS : c.In w0 LA lc IA ic MA mc SA) (hL : SLaid w) (h : Wr w g D 0 xs) (hk : (checkF c 6).1 = 0) :
 Calls Tryz.prog 77 #[.pointer (some ⟨g, 0, none⟩), .agg #[.int .i64 c.kind, .int .i64 c.uid, .int .u64 c.rev, .string c.spec.name, .slice LA c.spec.labels.length lc, .slice IA c.spec.init.length ic, .slice MA c.spec.main.length mc, .int .i64 c.spec.restart, .int .i64 c.spec.grace, .int .i64 c.spec.prio, .int .i64 c.grace, .int .i64 c.ctr, .int .i64 c.id, .int .i64 c.most, .string c.data, .slice SA c.sel.length sc], .int .i64 6] w fun e w' => e = .returned (.tuple #[]) ∧ Wr w' g D 0 (xs ++ putF c 6) ∧ Kept D w w' := by
 have hok := checkF_ok hk hS.rev
 have HOK := Lib.hid hok
 have HK := Lib.hid hk
 have HS := Lib.hid hS
 have HL := Lib.hid hL
 have HLT := Lib.hid hLt
 have HB0 := Lib.hid hb
 have HD := Lib.hid hD
 obtain ⟨w1, hw1⟩ : ∃ v, w.alloc (.cells #[.int .i64 c.kind, .int .i64 c.uid, .int .u64 c.rev, .string c.spec.name, .slice LA c.spec.labels.length lc, .slice IA c.spec.init.length ic, .slice MA c.spec.main.length mc, .int .i64 c.spec.restart, .int .i64 c.spec.grace, .int .i64 c.spec.prio, .int .i64 c.grace, .int .i64 c.ctr, .int .i64 c.id, .int .i64 c.most, .string c.data, .slice SA c.sel.length sc] 41) = v := ⟨_, rfl⟩
 have hb1 : Below w.heap.size w w1 := by rw [← hw1]; exact (Below.refl _ _).alloc (Nat.le_refl _) _
 have X := Lib.hid (show w1.heap[w.heap.size]? = some (.cells #[.int .i64 c.kind, .int .i64 c.uid, .int .u64 c.rev, .string c.spec.name, .slice LA c.spec.labels.length lc, .slice IA c.spec.init.length ic, .slice MA c.spec.main.length mc, .int .i64 c.spec.restart, .int .i64 c.spec.grace, .int .i64 c.spec.prio, .int .i64 c.grace, .int .i64 c.ctr, .int .i64 c.id, .int .i64 c.most, .string c.data, .slice SA c.sel.length sc] 41) by rw [← hw1]; exact heap_alloc_new w _)
 have H1 := Lib.hid (show Wr w1 g (fun k => D k ∨ k = w.heap.size) 0 xs by rw [← hw1]; exact h.alloc _)
 have KB1 := Lib.hid (show Kept D w w1 from Kept.of_below hb1 (fun k hk => (h.1 k hk).1))
 have HL1 := Lib.hid (hL.below hb1)
 have HB1 := Lib.hid (hb.trans (hb1.mono hb.size))
 clear hok hk hS hL hLt hb hD h hb1
 have c14 := box_cell X.out 14 rfl
 go_enter Tryz.func77, Tryz.ntmps77
 go_wp2_with fail
 refine (text_any g (fun k => D k ∨ k = w.heap.size) 0 xs c.data (by have := HLT.out.data; omega) w1 H1.out).mono ?_
 rintro e w2 ⟨rfl, h2, k2⟩
 rw [addB_no] at h2
 have HW := Lib.hid (show Wr w2 g D 0 (xs ++ putF c 6) from h2.less (D' := D) (fun k hk => .inl hk))
 have HKP := Lib.hid (KB1.out.trans (k2.mono (fun k hk => .inl hk)))
 clear h2 k2
 go_wp2
 first
 | go_end0
 | refine bodyPost_ret (results_none rfl _ _ _) rfl ?_
 exact ⟨rfl, HW.out, HKP.out⟩

set_option maxRecDepth 100000 in
theorem put_7 (g : Nat) (D : Nat → Prop) (xs : List UInt8) (c : Cal) (LA : Option Addr) (lc : Nat) (IA : Option Addr) (ic : Nat) (MA : Option Addr) (mc : Nat) (SA : Option Addr) (sc : Nat) (hLt : LightC c) (hz : xs.length + 100000000 ≤ 140737488355328) (w0 w : World) (hb : Below w0.heap.size w0 w) (hD : ∀ k, k < w0.heap.size → D k) (hS : c.In w0 LA lc IA ic MA mc SA) (hL : SLaid w) (h : Wr w g D 0 xs) (hk : (checkF c 7).1 = 0) :
 Calls Tryz.prog 77 #[.pointer (some ⟨g, 0, none⟩), .agg #[.int .i64 c.kind, .int .i64 c.uid, .int .u64 c.rev, .string c.spec.name, .slice LA c.spec.labels.length lc, .slice IA c.spec.init.length ic, .slice MA c.spec.main.length mc, .int .i64 c.spec.restart, .int .i64 c.spec.grace, .int .i64 c.spec.prio, .int .i64 c.grace, .int .i64 c.ctr, .int .i64 c.id, .int .i64 c.most, .string c.data, .slice SA c.sel.length sc], .int .i64 7] w fun e w' => e = .returned (.tuple #[]) ∧ Wr w' g D 0 (xs ++ putF c 7) ∧ Kept D w w' := by
 have hok := checkF_ok hk hS.rev
 have HOK := Lib.hid hok
 have HK := Lib.hid hk
 have HS := Lib.hid hS
 have HL := Lib.hid hL
 have HLT := Lib.hid hLt
 have HB0 := Lib.hid hb
 have HD := Lib.hid hD
 obtain ⟨w1, hw1⟩ : ∃ v, w.alloc (.cells #[.int .i64 c.kind, .int .i64 c.uid, .int .u64 c.rev, .string c.spec.name, .slice LA c.spec.labels.length lc, .slice IA c.spec.init.length ic, .slice MA c.spec.main.length mc, .int .i64 c.spec.restart, .int .i64 c.spec.grace, .int .i64 c.spec.prio, .int .i64 c.grace, .int .i64 c.ctr, .int .i64 c.id, .int .i64 c.most, .string c.data, .slice SA c.sel.length sc] 41) = v := ⟨_, rfl⟩
 have hb1 : Below w.heap.size w w1 := by rw [← hw1]; exact (Below.refl _ _).alloc (Nat.le_refl _) _
 have X := Lib.hid (show w1.heap[w.heap.size]? = some (.cells #[.int .i64 c.kind, .int .i64 c.uid, .int .u64 c.rev, .string c.spec.name, .slice LA c.spec.labels.length lc, .slice IA c.spec.init.length ic, .slice MA c.spec.main.length mc, .int .i64 c.spec.restart, .int .i64 c.spec.grace, .int .i64 c.spec.prio, .int .i64 c.grace, .int .i64 c.ctr, .int .i64 c.id, .int .i64 c.most, .string c.data, .slice SA c.sel.length sc] 41) by rw [← hw1]; exact heap_alloc_new w _)
 have H1 := Lib.hid (show Wr w1 g (fun k => D k ∨ k = w.heap.size) 0 xs by rw [← hw1]; exact h.alloc _)
 have KB1 := Lib.hid (show Kept D w w1 from Kept.of_below hb1 (fun k hk => (h.1 k hk).1))
 have HL1 := Lib.hid (hL.below hb1)
 have HB1 := Lib.hid (hb.trans (hb1.mono hb.size))
 clear hok hk hS hL hLt hb hD h hb1
 have c13 := box_cell X.out 13 rfl
 go_enter Tryz.func77, Tryz.ntmps77
 go_wp2_with fail
 refine (num_wr g (fun k => D k ∨ k = w.heap.size) 0 xs c.most 32 (by decide) (show (intC 32 (by decide)).ok c.most from HOK.out) (by omega) w1 H1.out).mono ?_
 rintro e w2 ⟨rfl, h2, k2⟩
 rw [addB_no] at h2
 have HW := Lib.hid (show Wr w2 g D 0 (xs ++ putF c 7) from h2.less (D' := D) (fun k hk => .inl hk))
 have HKP := Lib.hid (KB1.out.trans (k2.mono (fun k hk => .inl hk)))
 clear h2 k2
 go_wp2
 first
 | go_end0
 | refine bodyPost_ret (results_none rfl _ _ _) rfl ?_
 exact ⟨rfl, HW.out, HKP.out⟩

set_option maxRecDepth 100000 in
theorem put_8 (g : Nat) (D : Nat → Prop) (xs : List UInt8) (c : Cal) (LA : Option Addr) (lc : Nat) (IA : Option Addr) (ic : Nat) (MA : Option Addr) (mc : Nat) (SA : Option Addr) (sc : Nat) (hLt : LightC c) (hz : xs.length + 100000000 ≤ 140737488355328) (w0 w : World) (hb : Below w0.heap.size w0 w) (hD : ∀ k, k < w0.heap.size → D k) (hS : c.In w0 LA lc IA ic MA mc SA) (hL : SLaid w) (h : Wr w g D 0 xs) (hk : (checkF c 8).1 = 0) :
 Calls Tryz.prog 77 #[.pointer (some ⟨g, 0, none⟩), .agg #[.int .i64 c.kind, .int .i64 c.uid, .int .u64 c.rev, .string c.spec.name, .slice LA c.spec.labels.length lc, .slice IA c.spec.init.length ic, .slice MA c.spec.main.length mc, .int .i64 c.spec.restart, .int .i64 c.spec.grace, .int .i64 c.spec.prio, .int .i64 c.grace, .int .i64 c.ctr, .int .i64 c.id, .int .i64 c.most, .string c.data, .slice SA c.sel.length sc], .int .i64 8] w fun e w' => e = .returned (.tuple #[]) ∧ Wr w' g D 0 (xs ++ putF c 8) ∧ Kept D w w' := by
 have hok := checkF_ok hk hS.rev
 have HOK := Lib.hid hok
 have HK := Lib.hid hk
 have HS := Lib.hid hS
 have HL := Lib.hid hL
 have HLT := Lib.hid hLt
 have HB0 := Lib.hid hb
 have HD := Lib.hid hD
 obtain ⟨w1, hw1⟩ : ∃ v, w.alloc (.cells #[.int .i64 c.kind, .int .i64 c.uid, .int .u64 c.rev, .string c.spec.name, .slice LA c.spec.labels.length lc, .slice IA c.spec.init.length ic, .slice MA c.spec.main.length mc, .int .i64 c.spec.restart, .int .i64 c.spec.grace, .int .i64 c.spec.prio, .int .i64 c.grace, .int .i64 c.ctr, .int .i64 c.id, .int .i64 c.most, .string c.data, .slice SA c.sel.length sc] 41) = v := ⟨_, rfl⟩
 have hb1 : Below w.heap.size w w1 := by rw [← hw1]; exact (Below.refl _ _).alloc (Nat.le_refl _) _
 have X := Lib.hid (show w1.heap[w.heap.size]? = some (.cells #[.int .i64 c.kind, .int .i64 c.uid, .int .u64 c.rev, .string c.spec.name, .slice LA c.spec.labels.length lc, .slice IA c.spec.init.length ic, .slice MA c.spec.main.length mc, .int .i64 c.spec.restart, .int .i64 c.spec.grace, .int .i64 c.spec.prio, .int .i64 c.grace, .int .i64 c.ctr, .int .i64 c.id, .int .i64 c.most, .string c.data, .slice SA c.sel.length sc] 41) by rw [← hw1]; exact heap_alloc_new w _)
 have H1 := Lib.hid (show Wr w1 g (fun k => D k ∨ k = w.heap.size) 0 xs by rw [← hw1]; exact h.alloc _)
 have KB1 := Lib.hid (show Kept D w w1 from Kept.of_below hb1 (fun k hk => (h.1 k hk).1))
 have HL1 := Lib.hid (hL.below hb1)
 have HB1 := Lib.hid (hb.trans (hb1.mono hb.size))
 clear hok hk hS hL hLt hb hD h hb1
 have c15 := box_cell X.out 15 rfl
 go_enter Tryz.func77, Tryz.ntmps77
 go_wp2_with fail
 refine (putLabels_wr g (fun k => D k ∨ k = w.heap.size) 0 xs SA sc c.sel (by have := HLT.out.sel.1; omega) (fun x hx => by have := HLT.out.sel.2 x hx; omega) (by omega) w0 w1 HB1.out (fun k hk => .inl (HD.out k hk)) HS.out.sel H1.out).mono ?_
 rintro e w2 ⟨rfl, h2, k2⟩
 rw [addB_no] at h2
 have HW := Lib.hid (show Wr w2 g D 0 (xs ++ putF c 8) from h2.less (D' := D) (fun k hk => .inl hk))
 have HKP := Lib.hid (KB1.out.trans (k2.mono (fun k hk => .inl hk)))
 clear h2 k2
 go_wp2
 first
 | go_end0
 | refine bodyPost_ret (results_none rfl _ _ _) rfl ?_
 exact ⟨rfl, HW.out, HKP.out⟩

theorem put_f (g : Nat) (D : Nat → Prop) (xs : List UInt8) (c : Cal) (LA : Option Addr) (lc : Nat) (IA : Option Addr) (ic : Nat) (MA : Option Addr) (mc : Nat) (SA : Option Addr) (sc : Nat) (hLt : LightC c) (hz : xs.length + 100000000 ≤ 140737488355328) (w0 w : World) (hb : Below w0.heap.size w0 w) (hD : ∀ k, k < w0.heap.size → D k) (hS : c.In w0 LA lc IA ic MA mc SA) (hL : SLaid w) (h : Wr w g D 0 xs) (f : Int) (hf : 0 ≤ f ∧ f < 9) (hk : (checkF c f).1 = 0) :
 Calls Tryz.prog 77 #[.pointer (some ⟨g, 0, none⟩), .agg #[.int .i64 c.kind, .int .i64 c.uid, .int .u64 c.rev, .string c.spec.name, .slice LA c.spec.labels.length lc, .slice IA c.spec.init.length ic, .slice MA c.spec.main.length mc, .int .i64 c.spec.restart, .int .i64 c.spec.grace, .int .i64 c.spec.prio, .int .i64 c.grace, .int .i64 c.ctr, .int .i64 c.id, .int .i64 c.most, .string c.data, .slice SA c.sel.length sc], .int .i64 f] w fun e w' => e = .returned (.tuple #[]) ∧ Wr w' g D 0 (xs ++ putF c f) ∧ Kept D w w' := by
 rcases nine f with rfl | rfl | rfl | rfl | rfl | rfl | rfl | rfl | rfl | ⟨h0, h1, h2, h3, h4, h5, h6, h7, h8⟩
 · exact put_0 g D xs c LA lc IA ic MA mc SA sc hLt hz w0 w hb hD hS hL h hk
 · exact put_1 g D xs c LA lc IA ic MA mc SA sc hLt hz w0 w hb hD hS hL h hk
 · exact put_2 g D xs c LA lc IA ic MA mc SA sc hLt hz w0 w hb hD hS hL h hk
 · exact put_3 g D xs c LA lc IA ic MA mc SA sc hLt hz w0 w hb hD hS hL h hk
 · exact put_4 g D xs c LA lc IA ic MA mc SA sc hLt hz w0 w hb hD hS hL h hk
 · exact put_5 g D xs c LA lc IA ic MA mc SA sc hLt hz w0 w hb hD hS hL h hk
 · exact put_6 g D xs c LA lc IA ic MA mc SA sc hLt hz w0 w hb hD hS hL h hk
 · exact put_7 g D xs c LA lc IA ic MA mc SA sc hLt hz w0 w hb hD hS hL h hk
 · exact put_8 g D xs c LA lc IA ic MA mc SA sc hLt hz w0 w hb hD hS hL h hk
 · omega

theorem putF_len {c : Cal} {f : Int} (h : okF c f) : (putF c f).length ≤ 3000000 := by
 rcases nine f with rfl | rfl | rfl | rfl | rfl | rfl | rfl | rfl | rfl | ⟨h0, h1, h2, h3, h4, h5, h6, h7, h8⟩
 · exact Nat.le_trans (int_put_len (show (intC 1073741824 (by decide)).ok c.uid from h)) (by decide)
 · have h' : c.rev ≤ 18446744073709551615 := h
   exact Nat.le_trans (leb_le_ten (n := c.rev) (by omega)) (by decide)
 · exact spec_put_len h
 · exact Nat.le_trans (int_put_len (show (intC 1000 (by decide)).ok c.grace from h)) (by decide)
 · exact Nat.le_trans (int_put_len (show (intC 3 (by decide)).ok c.ctr from h)) (by decide)
 · exact Nat.le_trans (int_put_len (show (intC 1073741824 (by decide)).ok c.id from h)) (by decide)
 · exact Nat.le_trans (txB_le (show c.data.size ≤ 32 from h)) (by decide)
 · exact Nat.le_trans (int_put_len (show (intC 32 (by decide)).ok c.most from h)) (by decide)
 · obtain ⟨h1, h2⟩ := (show c.sel.length ≤ 4 ∧ ∀ x ∈ c.sel, labelC.ok x from h)
   exact Nat.le_trans (labels_put_len (l := c.sel) (by omega) (fun x hx => by
    obtain ⟨⟨p1, p2⟩, _⟩ := h2 x hx
    have q1 : x.key.size ≤ 33 := p1
    have q2 : x.val.size ≤ 16 := p2
    omega)) (by decide)
 · simp [putF, h0, h1, h2, h3, h4, h5, h6, h7, h8]
theorem take_len {c : Cal} : ∀ {l : List Int}, (∀ f ∈ l, okF c f) → (l.flatMap (putF c)).length ≤ l.length * 3000000
 | [], _ => by simp
 | f :: l, h => by
  have h1 := putF_len (h f (.head _))
  have h2 := take_len (l := l) (fun g hg => h g (.tail _ hg))
  rw [List.flatMap_cons, List.length_append, List.length_cons]
  omega
theorem wr_news {w w' : World} {g : Nat} {D : Nat → Prop} {c : Int} {xs : List UInt8} (h : Wr w g D c xs) (hb : Below w.heap.size w w') : Wr w' g (fun k => D k ∨ (w.heap.size ≤ k ∧ k < w'.heap.size)) c xs := by
 have hl := h.lt
 have h' := h.below hb
 obtain ⟨h0, A, cap, h1, h2, h3⟩ := h'
 refine ⟨fun k hk => ?_, A, cap, h1, h2, fun r hr hd => ?_⟩
 · rcases hk with hk | hk
   · exact h0 k hk
   · exact ⟨hk.2, by omega⟩
 · rcases hd with hd | hd
   · exact h3 r hr hd
   · obtain ⟨_, A2, cap2, g1, g2, g3⟩ := h
     have e : (Value.slice A xs.length cap) = .slice A2 xs.length cap2 := by
      have := (hb.block g hl).trans g1
      rw [this] at h1
      injection h1 with h1
      injection h1 with h1
      have := congrArg (fun a : Array Value => a[1]?) h1
      simpa using this.symm
     rw [e] at hr
     exact absurd (owns_lt g2 hr).2 (by omega)
theorem nums_kept {D : Nat → Prop} {w v : World} {Q : Option Addr} {l : List Int} (h : Lists.Nums .i64 w Q l) (hk : Kept D w v) (hD : ∀ a, Q = some a → a.block < w.heap.size → D a.block) : Lists.Nums .i64 v Q l :=
 nums_move h hk.size (fun a ha _ hl => hk.block _ (hD a ha hl))

set_option maxRecDepth 100000 in
set_option maxHeartbeats 2000000 in
theorem bytesC_any (c : Cal) (LA : Option Addr) (lc : Nat) (IA : Option Addr) (ic : Nat) (MA : Option Addr) (mc : Nat) (SA : Option Addr) (sc : Nat) (hLt : LightC c) (w : World) (hL : Laid w) (h : c.In w LA lc IA ic MA mc SA) :
 Calls Tryz.prog 25 #[.agg #[.int .i64 c.kind, .int .i64 c.uid, .int .u64 c.rev, .string c.spec.name, .slice LA c.spec.labels.length lc, .slice IA c.spec.init.length ic, .slice MA c.spec.main.length mc, .int .i64 c.spec.restart, .int .i64 c.spec.grace, .int .i64 c.spec.prio, .int .i64 c.grace, .int .i64 c.ctr, .int .i64 c.id, .int .i64 c.most, .string c.data, .slice SA c.sel.length sc]] w fun e w' => Below w.heap.size w w' ∧ (((checkC c).1 = 0 ∧ e = .returned (.tuple #[.string ⟨(putC c).toArray⟩, .int .i64 0])) ∨ ((checkC c).1 ≠ 0 ∧ e = .returned (.tuple #[.string ⟨#[]⟩, .int .i64 (checkC c).1]))) := by
 have H := Lib.hid h
 have HL := Lib.hid hL
 have HLT := Lib.hid hLt
 obtain ⟨w1, hw1⟩ : ∃ v, w.alloc (.cells #[.int .i64 c.kind, .int .i64 c.uid, .int .u64 c.rev, .string c.spec.name, .slice LA c.spec.labels.length lc, .slice IA c.spec.init.length ic, .slice MA c.spec.main.length mc, .int .i64 c.spec.restart, .int .i64 c.spec.grace, .int .i64 c.spec.prio, .int .i64 c.grace, .int .i64 c.ctr, .int .i64 c.id, .int .i64 c.most, .string c.data, .slice SA c.sel.length sc] 41) = v := ⟨_, rfl⟩
 have B1 := Lib.hid (show Below w.heap.size w w1 by rw [← hw1]; exact (Below.refl _ _).alloc (Nat.le_refl _) _)
 have X := Lib.hid (show w1.heap[w.heap.size]? = some (.cells #[.int .i64 c.kind, .int .i64 c.uid, .int .u64 c.rev, .string c.spec.name, .slice LA c.spec.labels.length lc, .slice IA c.spec.init.length ic, .slice MA c.spec.main.length mc, .int .i64 c.spec.restart, .int .i64 c.spec.grace, .int .i64 c.spec.prio, .int .i64 c.grace, .int .i64 c.ctr, .int .i64 c.id, .int .i64 c.most, .string c.data, .slice SA c.sel.length sc] 41) by rw [← hw1]; exact heap_alloc_new w _)
 clear h hL hLt
 have c0 := box_cell X.out 0 rfl
 have c1 := box_cell X.out 1 rfl
 have c2 := box_cell X.out 2 rfl
 have c3 := box_cell X.out 3 rfl
 have c4 := box_cell X.out 4 rfl
 have c5 := box_cell X.out 5 rfl
 have c6 := box_cell X.out 6 rfl
 have c7 := box_cell X.out 7 rfl
 have c8 := box_cell X.out 8 rfl
 have c9 := box_cell X.out 9 rfl
 have c10 := box_cell X.out 10 rfl
 have c11 := box_cell X.out 11 rfl
 have c12 := box_cell X.out 12 rfl
 have c13 := box_cell X.out 13 rfl
 have c14 := box_cell X.out 14 rfl
 have c15 := box_cell X.out 15 rfl
 go_enter Tryz.func25, Tryz.ntmps25
 go_wp2_with fail
 refine (checkC_any c LA lc IA ic MA mc SA sc HLT.out w1 (HL.out.below B1.out) (H.out.below B1.out)).mono ?_
 rintro e w2 ⟨E, rfl, hE, hb2⟩
 have HE := Lib.hid hE
 have B2 := Lib.hid (B1.out.trans (hb2.mono B1.out.size))
 have X2 := Lib.hid ((hb2.block w.heap.size (lt_of_block X.out)).trans X.out)
 clear hE hb2 X c0 c1 c2 c3 c4 c5 c6 c7 c8 c9 c10 c11 c12 c13 c14 c15
 go_wp2_with fail
 refine (code_says HE.out (HL.out.below B2.out).spec.err).mono ?_
 rintro e w3 ⟨rfl, hb3⟩
 have B3 := Lib.hid (B2.out.trans (hb3.mono B2.out.size))
 have X3 := Lib.hid ((hb3.block w.heap.size (lt_of_block X2.out)).trans X2.out)
 clear hb3 X2 HE hw1
 by_cases hc : (checkC c).1 = 0
 · have HC := Lib.hid hc
   obtain ⟨hkd, hfs, _⟩ := check_fine.1 hc
   have HKD := Lib.hid hkd
   have HFS := Lib.hid hfs
   rw [hc]
   clear hc hkd hfs
   go_wp2_with fail
   refine (write_any w3).mono ?_
   rintro e w4 ⟨rfl, h4, hb4, _⟩
   have B4 := Lib.hid (B3.out.trans (hb4.mono B3.out.size))
   have X4 := Lib.hid ((hb4.block w.heap.size (lt_of_block X3.out)).trans X3.out)
   have hgx : w.heap.size < w3.heap.size := lt_of_block X3.out
   obtain ⟨g, hg⟩ : ∃ g, w3.heap.size = g := ⟨_, rfl⟩
   rw [hg] at h4 hgx ⊢
   have H4 := Lib.hid h4
   clear h4 hb4 hg X3
   have c0 := box_cell X4.out 0 rfl
   go_wp2_with fail
   refine (num_wr g (· < g) 0 [] c.kind 12 (by decide) (int_ok (by have := HKD.out; omega) (by have := HKD.out; omega)) (by decide) w4 H4.out).mono ?_
   rintro e w5 ⟨rfl, h5, k5⟩
   have H5 := Lib.hid (show Wr w5 g (· < g) 0 (kindC.put c.kind) by rw [addB_no] at h5; exact h5)
   have B5 := Lib.hid (show Below w.heap.size w w5 from B4.out.trans (k5.below (fun k hk => by show k < g; omega)))
   have X5 := Lib.hid ((k5.block w.heap.size hgx).trans X4.out)
   clear h5 k5 X4 c0
   have c0 := box_cell X5.out 0 rfl
   go_wp2_with fail
   refine (fields_any c.kind w5).mono ?_
   rintro e w6 ⟨OA, oc, rfl, hon, hof, hoc, hb6⟩
   have B6 := Lib.hid (B5.out.trans (hb6.mono B5.out.size))
   have X6 := Lib.hid ((hb6.block w.heap.size (lt_of_block X5.out)).trans X5.out)
   have H6 := Lib.hid (wr_news H5.out hb6)
   obtain ⟨DD, hDD⟩ : ∃ D : Nat → Prop, D = fun k => k < g ∨ (w5.heap.size ≤ k ∧ k < w6.heap.size) := ⟨_, rfl⟩
   have HOD := Lib.hid (show ∀ a, OA = some a → a.block < w6.heap.size → DD a.block from fun a ha hl => by rw [hDD]; exact .inr ⟨hof a ha, hl⟩)
   have HDG := Lib.hid (show ∀ k, k < g → DD k from fun k hk => by rw [hDD]; exact .inl hk)
   rw [← hDD] at H6
   have ON := Lib.hid hon
   have HFL := Lib.hid (fields_lt c.kind)
   have hlen3 := fields_len c.kind
   obtain ⟨fl, hfl⟩ : ∃ l, fieldsV c.kind = l := ⟨_, rfl⟩
   have HFV := Lib.hid hfl
   rw [hfl] at ON HFL hlen3 HFS ⊢
   have HOA := Lib.hid (show ∀ f ∈ fl, okF c f from fun f hf => checkF_ok (HFS.out f hf) H.out.rev)
   clear hon hof hoc hb6 X5 hfl c0 hDD H5
   have hlen3' : (fl.length : Int) ≤ 3 := by omega
   have HLW := Lib.hid (show w6.heap.size ≤ w6.heap.size from Nat.le_refl _)
   go_wp2_with fail
   go_loopw [23] (fun i wi => ∃ j : Nat, j ≤ fl.length ∧ i = .int .i64 j ∧ Hid (Wr wi g DD 0 (kindC.put c.kind ++ (fl.take j).flatMap (putF c))) ∧ Hid (Kept DD w6 wi)) (fun i _ => fl.length - (RowKit.intOf i).toNat)
   case atStart => exact ⟨0, Nat.zero_le _, rfl, by unfold Hid; simpa using H6.out, Kept.refl _ _⟩
   case round =>
    obtain ⟨j, hj, rfl, HW, HK⟩ := hrel
    have HBW := Lib.hid (show Below w.heap.size w wr from B6.out.trans (HK.out.below (fun k hk => HDG.out k (by omega))))
    have X := Lib.hid ((HK.out.block w.heap.size (HDG.out _ hgx)).trans X6.out)
    have ONR := Lib.hid (nums_kept ON.out HK.out HOD.out)
    by_cases hlt : j < fl.length
    · have hlt' : (j : Int) < (fl.length : Int) := by omega
      obtain ⟨f, hf⟩ : ∃ f, fl[j] = f := ⟨_, rfl⟩
      have hfj : fl[j]? = some f := by rw [List.getElem?_eq_getElem hlt, hf]
      obtain ⟨hwf, oa, hoa, hol, hocell⟩ := ONR.out j f hfj
      subst hoa
      have HTK := Lib.hid (show (fl.take (j + 1)).flatMap (putF c) = (fl.take j).flatMap (putF c) ++ putF c f by rw [List.take_add_one, hfj]; simp)
      have hfm := List.mem_of_getElem? hfj
      have hf9 := HFL.out f hfm
      have HFK := Lib.hid (HFS.out f hfm)
      have HLEN := Lib.hid (show (kindC.put c.kind ++ (fl.take j).flatMap (putF c)).length + 100000000 ≤ 140737488355328 by
       have h1 := take_len (c := c) (l := fl.take j) (fun g hg => HOA.out g (List.mem_of_mem_take hg))
       have h2 : (kindC.put c.kind).length ≤ 10 := int_put_len (show (intC 12 (by decide)).ok c.kind from int_ok (by have := HKD.out; omega) (by have := HKD.out; omega))
       have h3 : (fl.take j).length ≤ 3 := by rw [List.length_take]; omega
       rw [List.length_append]
       omega)
      have c0 := box_cell X.out 0 rfl
      have c1 := box_cell X.out 1 rfl
      have c2 := box_cell X.out 2 rfl
      have c3 := box_cell X.out 3 rfl
      have c4 := box_cell X.out 4 rfl
      have c5 := box_cell X.out 5 rfl
      have c6 := box_cell X.out 6 rfl
      have c7 := box_cell X.out 7 rfl
      have c8 := box_cell X.out 8 rfl
      have c9 := box_cell X.out 9 rfl
      have c10 := box_cell X.out 10 rfl
      have c11 := box_cell X.out 11 rfl
      have c12 := box_cell X.out 12 rfl
      have c13 := box_cell X.out 13 rfl
      have c14 := box_cell X.out 14 rfl
      have c15 := box_cell X.out 15 rfl
      clear hf hfj hwf hfm
      go_wp2_with fail
      refine (put_f g DD _ c LA lc IA ic MA mc SA sc HLT.out HLEN.out w wr HBW.out (fun k hk => HDG.out k (by omega)) H.out (HL.out.below HBW.out).spec HW.out f hf9 HFK.out).mono ?_
      rintro e w8 ⟨rfl, h8, k8⟩
      have HW8 := Lib.hid (show Wr w8 g DD 0 (kindC.put c.kind ++ (fl.take (j + 1)).flatMap (putF c)) by rw [HTK.out, ← List.append_assoc]; exact h8)
      have HK8 := Lib.hid (HK.out.trans k8)
      clear h8 k8
      go_wp2
      go_roundw
      case rel => exact ⟨j + 1, by omega, by go_num, HW8.out, HK8.out⟩
      case measure => simp [RowKit.intOf]; omega
    · obtain rfl : j = fl.length := by omega
      have hlt' : ¬ (fl.length : Int) < (fl.length : Int) := by omega
      have hw := HW.out
      rw [List.take_length] at hw
      have HRUN := Lib.hid (end_ok g DD _ wr hw)
      clear hw
      go_wp2_with fail
      refine HRUN.out.mono ?_
      rintro e w9 ⟨rfl, rfl⟩
      go_wp2
      go_ret2
      exact ⟨HBW.out, .inl ⟨HC.out, by unfold putC; rw [HFV.out]; rfl⟩⟩
 · have HC := Lib.hid hc
   obtain ⟨cz, hcz⟩ : ∃ d, (checkC c).1 = d := ⟨_, rfl⟩
   have HCZ := Lib.hid hcz
   rw [hcz] at hc ⊢
   have hc' : (cz != 0) = true := by simpa using hc
   clear hc hcz
   go_wp2_with fail
   go_ret2
   exact ⟨B3.out, .inr ⟨HC.out, by rw [HCZ.out]; rfl⟩⟩
end Ak
end Go.Proofs.YtakdhkhcndeiiaaGreatDoor
