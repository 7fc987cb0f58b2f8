/-
  The contracts of fail.codeWithin and fail.Code: the code of an error of package fail; OK of nil. All that was there is left as it was. Conditions: the value is an error of package fail, or nil; errors.errorType holds the type error (Laid).
-/
import Derived.Test.YtikaghinkpcknaaDoorErrAs
import Derived.RegionTactic
namespace Go.Proofs.YtikaghinkpcknaaDoor
open Go.RowKit Go.Extern.Stop Go.Stop Go.Extern
namespace Err

theorem within_idle (p q : Addr) (w : World) :
    CallsD Tryd.prog 27 #[.pointer (some p), .pointer (some q)] .returning w fun e u' w' => e = .returned (.tuple #[]) ∧ u' = .returning ∧ w' = w := by
  refine callsD_of_wpS Tryd.func27 rfl fun c₀ cs hu => ?_
  apply wpS_seq
  apply wpS_region
  simp [wpOpsS, go_sem, recoverD, hu, Tryd.ntmps27, Exit.thenS]
  refine wpS_cond (t := false) (by simp [Act.eval, Array.replicate]) ?_
  simp only [Bool.false_eq_true, if_false]
  refine wpS_of_wp (wp_skip ?_)
  cases c₀
  simp_all [bodyPostS, results, Tryd.results27]

/-- errors.As, what it leaves: the target's variable is set, all else that was there is as it was -/
def AsLeft (c : Int) (t : Addr) (W : World) (e : Ending) (w' : World) : Prop :=
  e = .returned (.bool true) ∧ w'.cell? t = some (.int .i64 c) ∧ (∀ a : Addr, a.block < W.heap.size → a.block ≠ t.block → w'.cell? a = W.cell? a) ∧ (∀ a : Addr, a.block < W.heap.size → w'.frozen? a = W.frozen? a) ∧ Below t.block W w'

theorem frozen_of_below {w w' : World} (h : Below w.heap.size w w') {a : Addr} (ha : a.block < w.heap.size) : w'.frozen? a = w.frozen? a := h.frozen ha

theorem errors_as_left (c : Int) (p : List ByteArray) (E : Value) (t : Addr) (old : Value) (W : World) (h : Is W E c p) (ht : W.cell? t = some old) (hf : W.frozen? t = false) (hL : Laid W) :
    Calls Tryd.prog 28 #[E, .iface 57 (.pointer (some t))] W (AsLeft c t W) := by
  refine (errors_as c p E t old W h ht hf hL).mono ?_
  rintro e w' ⟨rfl, rfl⟩
  have hlt := lt_of_cell ht
  generalize hG : (((W.alloc (.cells #[.pointer (some t)] 57)).alloc (.cells #[.pointer (some ⟨2, 57, none⟩), .pointer (some ⟨W.heap.size, 0, none⟩), .int .u64 150] 76)).alloc (.cells #[.pointer (some ⟨2, 57, none⟩), .pointer (some ⟨W.heap.size, 0, none⟩), .int .u64 150] 76)).alloc (.cells #[.int .i64 c] 28) = G
  have hb : Below W.heap.size W G := by
    rw [← hG]
    exact ((((Below.refl _ _).alloc (Nat.le_refl _) _).alloc (by simp) _).alloc (by simp; omega) _).alloc (by simp; omega) _
  have htG : G.cell? t = some old := (hb.cell hlt).trans ht
  refine ⟨rfl, World.cell?_setCell_same _ _ _ (by rw [htG]), fun a ha hne => ?_, fun a ha => ?_, ?_⟩
  · rw [World.cell?_setCell_other _ _ _ _ (fun e => hne (by rw [e]))]
    exact hb.cell ha
  · rw [World.frozen?_setCell]
    exact hb.frozen ha
  · exact (hb.mono (Nat.le_of_lt hlt)).setCell (Nat.le_refl _) _

theorem within_any {w : World} (c : Int) (p : List ByteArray) (E : Value) (h : Is w E c p) (hL : Laid w) :
    Calls Tryd.prog 21 #[E] w fun e w' => e = .returned (.tuple #[.int .i64 c, .bool true]) ∧ Below w.heap.size w w' := by
  have hmf : ∀ (fn : Fn) (first cap : Array Value) (w : World), (Instr.makeFunc fn first cap).run Tryd.prog w = .ok (.func fn first cap) w := fun _ _ _ _ => rfl
  have hb : Below w.heap.size w ((w.alloc (.cells #[.int .i64 0] 28)).alloc (.cells #[.bool false] 4)) := ((Below.refl _ _).alloc (Nat.le_refl _) _).alloc (by simp) _
  have Q1 := Lib.hid (h.keep hb)
  have Q2 := Lib.hid (hL.keep hb)
  have HB := Lib.hid hb
  clear h hL hb
  go_enter_defers Tryd.func21, Tryd.ntmps21
  go_wp2_with fail
  refine (errors_as_left c p E ⟨w.heap.size, 0, none⟩ (.int .i64 0) _ Q1.out (by simp) (by simp) Q2.out).mono ?_
  rintro e w1 ⟨rfl, hc0, hcs, hfs, hb1⟩
  have hc1 : w1.cell? ⟨w.heap.size + 1, 0, none⟩ = some (.bool false) := by rw [hcs _ (by simp) (by simp)]; simp
  have hf0 : w1.frozen? ⟨w.heap.size, 0, none⟩ = false := by rw [hfs _ (by simp; omega)]; simp
  have hf1 : w1.frozen? ⟨w.heap.size + 1, 0, none⟩ = false := by rw [hfs _ (by simp)]; simp
  have hb2 : Below w.heap.size w w1 := HB.out.trans hb1
  have hg : w.heap.size + 1 < w1.heap.size := lt_of_cell hc1
  clear hcs hfs
  go_wp2_with fail
  go_region
  go_wp2_with fail
  refine leaves_cons (f := 27) (args := #[.pointer (some ⟨w.heap.size, 0, none⟩), .pointer (some ⟨w.heap.size + 1, 0, none⟩)]) (by simp) (by simp [go_sem]) ?_
  refine (within_idle ⟨w.heap.size, 0, none⟩ ⟨w.heap.size + 1, 0, none⟩ _).mono ?_
  rintro e u' w'' ⟨rfl, rfl, rfl⟩
  simp [Leaves, settle, results, Tryd.results21, go_sem, hc0, hc1]
  exact (((hb2.setCell (by simp) _).setCell (by simp) _).setCell (by simp) _).drew

theorem code_nil (w : World) :
    Calls Tryd.prog 13 #[.nilIface] w fun e w' => e = .returned (.int .i64 0) ∧ w = w' := by
  go_enter Tryd.func13, Tryd.ntmps13
  go_wp2
  go_ret
  exact ⟨rfl, rfl⟩

theorem code_some {w : World} (c : Int) (p : List ByteArray) (E : Value) (h : Is w E c p) (hL : Laid w) :
    Calls Tryd.prog 13 #[E] w fun e w' => e = .returned (.int .i64 c) ∧ Below w.heap.size w w' := by
  have Q1 := Lib.hid h
  have Q2 := Lib.hid hL
  obtain ⟨u, x, rfl⟩ := h.iface
  clear h hL
  go_enter Tryd.func13, Tryd.ntmps13
  go_wp2_with fail
  refine (within_any c p _ Q1.out Q2.out).mono ?_
  rintro e w1 ⟨rfl, hb⟩
  go_wp2_with fail
  go_ret
  exact ⟨rfl, hb⟩
end Err
end Go.Proofs.YtikaghinkpcknaaDoor
