/-
  Package res: each of three numbers reckoned by a function that is handed in; Add, Sub. What was there is left as it was. Condition: the numbers are 64-bit integers.
-/
import Derived.Test.YtbichomjpmmjmaaGreatDoorNu3
import Derived.Test.YtbichomjpmmjmaaGreatDoorNu0
import Derived.Test.YtbichomjpmmjmaaGreatDoorChecked
import Derived.Test.YtbichomjpmmjmaaGreatDoorNu1
import Derived.LoopN
import Derived.Deep.QuietTactic
import Derived.BigQuiet
import Derived.WalkKit
import Derived.ProofKit
import Derived.Lib.Hide
set_option linter.unusedVariables false
set_option linter.unusedSimpArgs false
namespace Go.Proofs.YtbichomjpmmjmaaGreatDoor
open Go.ChangeShapes Go.WideShapes Go.ChangeAt Go.RowKit Go.Lib
open NumMath
namespace Re
def F6 (f : Nat) (p q i : Nat) (x y z : Int) (k : Bool) : Nat → Value → Prop
  | 0, v => v = .func (.func f) #[] #[]
  | 1, v => v = .int .i64 i
  | 2, v => v = .pointer (some ⟨p, i, none⟩)
  | 3, v => v = .int .i64 x
  | 4, v => v = .int .i64 i
  | 5, v => v = .pointer (some ⟨q, i, none⟩)
  | 6, v => v = .int .i64 y
  | 7, v => v = .tuple #[.int .i64 z, .bool k]
  | 8, v => v = .tuple #[.int .i64 z, .bool k]
  | 9, v => v = .int .i64 z
  | 10, v => v = .bool k
  | 11, v => v = .int .i64 z
  | _, v => v = .bool k
theorem wpList_store_at {P : Program} {ops : Array Oper} {rest : List Oper} {op : Oper} {a : Act} {w v : World} {Q : Exit → Act → World → Prop} (hgd : op.guard = none) (ty : TypeId) (x y : Operand) (ho : op.op = .store ty x y)
    (b o : Nat) (cells : Array Value) (hx : a.eval x = .pointer (some ⟨b, o, none⟩)) (hy : a.eval y = .agg cells)
    (ht : w.there b o cells.size) (hi : (P.info? ty).map (·.size) = some cells.size) (h1 : cells.all (·.oneCell') = true) (hv : w.setCells b o cells.toList = v)
    (h : wpList P ops Q rest (a.put op.dst undef) v) : wpList P ops Q (op :: rest) a w :=
  wpList_store_mid hgd ty x y ho b o cells hx hy ht hi h1 (by rw [hv]; exact h)
theorem res_each (tmps : Array Value) (w : World) (p : Nat) (xs : List Value) (x : Value) (h2 : tmps.getD 6 undef = .pointer (some ⟨p, 0, none⟩)) (h3 : tmps.getD 7 undef = x) (hX : w.heap[p]? = some (.cells xs.toArray 23 (0, 0))) (hm : xs.length = 3) :
    (results Tryz.f61 tmps).run Tryz.prog w = .ok (.tuple #[.agg xs.toArray, x]) w := by
  have h1 : (loadVar 23 ⟨p, 0, none⟩).run Tryz.prog w = .ok (.agg xs.toArray) w := run_loadVar_mid w p 0 23 _ _ (range_box hX) Tryz.underlying23 rfl (by rw [hm]; kernel_rfl)
  simp only [results, Tryz.results61]
  simp only [Array.getD_eq_getD_getElem?] at h2 h3
  have ha : (asAddr (tmps[6]?.getD undef)).run Tryz.prog w = .ok ⟨p, 0, none⟩ w := by rw [h2]; rfl
  simp [Sem.run_bind, h1, ha, h3]
def Eaches (a b r : Rx) (k0 k1 k2 : Bool) (w : World) (e : Ending) (w' : World) : Prop := e = .returned (.tuple #[.agg (R3 (three r.c r.m r.p k0 k1 k2).1).toArray, .bool (three r.c r.m r.p k0 k1 k2).2]) ∧ Below w.heap.size w w'
set_option maxRecDepth 100000 in
set_option maxHeartbeats 4000000 in
theorem each_any (f : Nat) (hcf : ∀ (args : Array Value) u, (callFunc f args).run Tryz.prog u = .ok (.enter f args) u) (a b r : Rx) (k0 k1 k2 : Bool)
    (h0 : ∀ u, Calls Tryz.prog f #[.int .i64 a.c, .int .i64 b.c] u fun e w' => e = .returned (.tuple #[.int .i64 r.c, .bool k0]) ∧ u = w')
    (h1 : ∀ u, Calls Tryz.prog f #[.int .i64 a.m, .int .i64 b.m] u fun e w' => e = .returned (.tuple #[.int .i64 r.m, .bool k1]) ∧ u = w')
    (h2 : ∀ u, Calls Tryz.prog f #[.int .i64 a.p, .int .i64 b.p] u fun e w' => e = .returned (.tuple #[.int .i64 r.p, .bool k2]) ∧ u = w') (w : World) :
    Calls Tryz.prog 61 #[.agg #[.int .i64 a.c, .int .i64 a.m, .int .i64 a.p], .agg #[.int .i64 b.c, .int .i64 b.m, .int .i64 b.p], .func (.func f) #[] #[]] w (Eaches a b r k0 k1 k2 w) := by
  have H0 := Lib.hid h0
  have H1 := Lib.hid h1
  have H2 := Lib.hid h2
  have HCF := Lib.hid hcf
  clear h0 h1 h2 hcf
  obtain ⟨w0, hw0⟩ : ∃ v, ((w.alloc (.cells #[.int .i64 a.c, .int .i64 a.m, .int .i64 a.p] 23)).alloc (.cells #[.int .i64 b.c, .int .i64 b.m, .int .i64 b.p] 23)).alloc (.cells #[.int .i64 0, .int .i64 0, .int .i64 0] 23) = v := ⟨_, rfl⟩
  have X := Lib.hid (show w0.heap[w.heap.size]? = some (.cells #[.int .i64 a.c, .int .i64 a.m, .int .i64 a.p] 23 (0, 0)) by rw [← hw0, Below.heap_alloc _ _ _ (by simp; omega), Below.heap_alloc _ _ _ (by simp)]; exact heap_alloc_new w _)
  have Y := Lib.hid (show w0.heap[w.heap.size + 1]? = some (.cells #[.int .i64 b.c, .int .i64 b.m, .int .i64 b.p] 23 (0, 0)) by rw [← hw0, Below.heap_alloc _ _ _ (by simp)]; have := heap_alloc_new (w.alloc (.cells #[.int .i64 a.c, .int .i64 a.m, .int .i64 a.p] 23)) (.cells #[.int .i64 b.c, .int .i64 b.m, .int .i64 b.p] 23); simpa using this)
  have Zr := Lib.hid (show w0.heap[w.heap.size + 1 + 1]? = some (.cells #[.int .i64 0, .int .i64 0, .int .i64 0] 23 (0, 0)) by rw [← hw0]; have := heap_alloc_new ((w.alloc (.cells #[.int .i64 a.c, .int .i64 a.m, .int .i64 a.p] 23)).alloc (.cells #[.int .i64 b.c, .int .i64 b.m, .int .i64 b.p] 23)) (.cells #[.int .i64 0, .int .i64 0, .int .i64 0] 23); simpa using this)
  have B0 := Lib.hid (show Below w.heap.size w w0 by rw [← hw0]; go_grown)
  go_enter Tryz.func61, Tryz.ntmps61
  go_wp2_with fail
  clear hw0
  refine Vls.wp_region (by kernel_rfl) (J2 w0 (R3 a) (R3 b)) (by kernel_rfl) (fun _ => undef) (J2.start _ _ _ _) ?_ ?_
  · refine ⟨?_, ?_, ?_, ?_, ?_, ?_, ?_, ?_, trivial⟩
    · intro s a_ u V hs hd hfr hpo hJ
      have f0 : a_.tmps.getD 3 undef = .pointer (some ⟨w.heap.size, 0, none⟩) := hfr 3 (by kernel_rfl)
      refine .inl ⟨rfl, ?_⟩
      exact wp_load_mid 23 (.tmp 3) rfl (w.heap.size) 0 f0 (R3 a) _ (range_box ((hJ.bel.block _ (lt_of_at X.out)).trans X.out)) Tryz.underlying23 rfl (by kernel_rfl) ⟨_, rfl, hJ.step 0 (by decide) (Below.refl _ _) rfl⟩
    · intro s a_ u V hs hd hfr hpo hJ
      have e0 : a_.tmps.getD 14 undef = .agg (R3 a).toArray := (hpo 0 14 (by kernel_rfl)).trans (hJ.get 0 (by decide) (hd 0 (by kernel_rfl)) rfl)
      refine .inl ⟨rfl, ?_⟩
      unfold Oper.wp
      rw [show (execOp a_.eval _).run Tryz.prog u = .ok (.enter 54 #[.agg (R3 a).toArray]) u from by simp [go_sem, Act.eval, e0]]
      refine Calls.mono (apart_any a.c a.m a.p u) ?_
      rintro e u2 ⟨rfl, hb⟩
      exact ⟨_, rfl, hJ.step 1 (by decide) hb rfl⟩
    · intro s a_ u V hs hd hfr hpo hJ
      have f0 : a_.tmps.getD 4 undef = .pointer (some ⟨w.heap.size + 1, 0, none⟩) := hfr 4 (by kernel_rfl)
      refine .inl ⟨rfl, ?_⟩
      exact wp_load_mid 23 (.tmp 4) rfl (w.heap.size + 1) 0 f0 (R3 b) _ (range_box ((hJ.bel.block _ (lt_of_at Y.out)).trans Y.out)) Tryz.underlying23 rfl (by kernel_rfl) ⟨_, rfl, hJ.step 2 (by decide) (Below.refl _ _) rfl⟩
    · intro s a_ u V hs hd hfr hpo hJ
      have e0 : a_.tmps.getD 16 undef = .agg (R3 b).toArray := (hpo 2 16 (by kernel_rfl)).trans (hJ.get 2 (by decide) (hd 2 (by kernel_rfl)) rfl)
      refine .inl ⟨rfl, ?_⟩
      unfold Oper.wp
      rw [show (execOp a_.eval _).run Tryz.prog u = .ok (.enter 54 #[.agg (R3 b).toArray]) u from by simp [go_sem, Act.eval, e0]]
      refine Calls.mono (apart_any b.c b.m b.p u) ?_
      rintro e u2 ⟨rfl, hb⟩
      exact ⟨_, rfl, hJ.step 3 (by decide) hb rfl⟩
    · intro s a_ u V hs hd hfr hpo hJ
      refine .inl ⟨rfl, ?_⟩
      unfold Oper.wp
      rw [show (execOp a_.eval _).run Tryz.prog u = .ok (.value (.pointer (some ⟨u.heap.size, 0, none⟩))) (u.alloc (.cells #[.int .i64 0, .int .i64 0, .int .i64 0] 95 (0, 0))) from by simp [go_sem, Act.eval]]
      exact ⟨_, rfl, hJ.al4 hs _ rfl⟩
    · intro s a_ u V hs hd hfr hpo hJ
      refine .inl ⟨rfl, ?_⟩
      unfold Oper.wp
      rw [show (execOp a_.eval _).run Tryz.prog u = .ok (.value (.pointer (some ⟨u.heap.size, 0, none⟩))) (u.alloc (.cells #[.int .i64 0, .int .i64 0, .int .i64 0] 95 (0, 0))) from by simp [go_sem, Act.eval]]
      exact ⟨_, rfl, hJ.al5 hs _ rfl⟩
    · intro s a_ u V hs hd hfr hpo hJ
      have h4 : s 4 = true := hd 4 (by kernel_rfl)
      obtain ⟨q, X, hq, hqv, hX, hXs, _⟩ := hJ.b4 h4
      have e1 : a_.tmps.getD 8 undef = .pointer (some ⟨q, 0, none⟩) := (hpo 4 8 (by kernel_rfl)).trans hq
      have e2 : a_.tmps.getD 15 undef = .agg (R3 a).toArray := (hpo 1 15 (by kernel_rfl)).trans (hJ.get 1 (by decide) (hd 1 (by kernel_rfl)) rfl)
      refine .inl ⟨rfl, ?_⟩
      exact wp_store_mid 95 (.tmp 8) (.tmp 15) rfl q 0 (R3 a).toArray e1 e2 (Back.th hX hXs) (by kernel_rfl) (by simp [Value.oneCell']) ⟨undef, rfl, hJ.st6 rfl h4 hq _⟩
    · intro s a_ u V hs hd hfr hpo hJ
      have h4 : s 5 = true := hd 5 (by kernel_rfl)
      obtain ⟨q, X, hq, hqv, hX, hXs, _⟩ := hJ.b5 h4
      have e1 : a_.tmps.getD 9 undef = .pointer (some ⟨q, 0, none⟩) := (hpo 5 9 (by kernel_rfl)).trans hq
      have e2 : a_.tmps.getD 17 undef = .agg (R3 b).toArray := (hpo 3 17 (by kernel_rfl)).trans (hJ.get 3 (by decide) (hd 3 (by kernel_rfl)) rfl)
      refine .inl ⟨rfl, ?_⟩
      exact wp_store_mid 95 (.tmp 9) (.tmp 17) rfl q 0 (R3 b).toArray e1 e2 (Back.th hX hXs) (by kernel_rfl) (by simp [Value.oneCell']) ⟨undef, rfl, hJ.st7 rfl h4 hq _⟩
  · intro s V u hall hJ
    obtain ⟨p, q, e4, e5, hpq, hp, hq, hX, hY, hbu⟩ := hJ.fin hall
    have P := Lib.hid hX
    have Q := Lib.hid hY
    have BU := Lib.hid hbu
    have PQ := Lib.hid hpq
    have PG := Lib.hid hp
    have QG := Lib.hid hq
    clear hall hJ hX hY hbu hpq hp hq
    simp only [Bxs.puts, Nat.reduceAdd, put_none, put_lit, List.set_cons_succ, List.set_cons_zero]
    rw [e4, e5]
    clear e4 e5
    have B1 := Lib.hid (B0.out.trans (BU.out.mono B0.out.size))
    have Zu := Lib.hid ((BU.out.block _ (lt_of_at Zr.out)).trans Zr.out)
    have cp0 := cell_of P.out 0 (v := .int .i64 a.c) rfl
    have cp1 := cell_of P.out 1 (v := .int .i64 a.m) rfl
    have cp2 := cell_of P.out 2 (v := .int .i64 a.p) rfl
    have cq0 := cell_of Q.out 0 (v := .int .i64 b.c) rfl
    have cq1 := cell_of Q.out 1 (v := .int .i64 b.m) rfl
    have cq2 := cell_of Q.out 2 (v := .int .i64 b.p) rfl
    have hpl := lt_of_at P.out
    have hql := lt_of_at Q.out
    have hzl := lt_of_at Zu.out
    clear X Y Zr
    go_wp2_with fail
    obtain ⟨v1, hv1⟩ : ∃ v, u.alloc (.cells #[.int .i64 0, .int .i64 0, .int .i64 0] 95) = v := ⟨_, rfl⟩
    obtain ⟨gb, hgb⟩ : ∃ b, u.heap.size = b := ⟨_, rfl⟩
    rw [hv1, hgb]
    have hb1 : Below u.heap.size u v1 := by rw [← hv1]; exact (Below.refl _ _).alloc (Nat.le_refl _) _
    have G1 := Lib.hid (show v1.heap[gb]? = some (.cells #[.int .i64 0, .int .i64 0, .int .i64 0] 95 (0, 0)) by rw [← hv1, ← hgb]; exact heap_alloc_new u _)
    have P1 := Lib.hid ((hb1.block _ hpl).trans P.out)
    have Q1 := Lib.hid ((hb1.block _ hql).trans Q.out)
    have Z1 := Lib.hid ((hb1.block _ hzl).trans Zu.out)
    have BV := Lib.hid (B1.out.trans (hb1.mono B1.out.size))
    have NG := Lib.hid (show p ≠ gb ∧ q ≠ gb ∧ w.heap.size + 1 + 1 ≠ gb ∧ w.heap.size ≤ gb from ⟨by omega, by omega, by omega, by have := B1.out.size; omega⟩)
    clear hv1 hgb hb1 hpl hql hzl Zu BU B1 cp0 cp1 cp2 cq0 cq1 cq2 P Q PQ PG QG B0
    refine wp_loop_rounds 4 ?_
    rw [rounds_succ]
    have cp0 := cell_of P1.out 0 (v := .int .i64 a.c) rfl
    have cq0 := cell_of Q1.out 0 (v := .int .i64 b.c) rfl
    go_wp2_with fail
    refine Slt.wp_region (by kernel_rfl) (F6 f p q 0 a.c b.c r.c k0) (fun _ v => ∃ n, v = v1.drewN n) (by kernel_rfl) ⟨1, rfl⟩ ?_ ?_
    · refine ⟨?_, ?_, ?_, ?_, ?_, ?_, ?_, ?_, ?_, ?_, ?_, ?_, ?_, trivial⟩
      · intro s a_ u1 hs hd hfr hpo hJ
        obtain ⟨n, rfl⟩ := hJ
        have f0 : a_.tmps.getD 2 undef = .func (.func f) #[] #[] := hfr 2 (by kernel_rfl)
        refine .inl ⟨rfl, ?_⟩
        unfold Oper.wp
        rw [show (execOp a_.eval _).run Tryz.prog (v1.drewN n) = .ok (.value (.func (.func f) #[] #[])) (v1.drewN n) from by simp [go_sem, Act.eval, f0]]
        exact ⟨_, rfl, rfl, n, rfl⟩
      · intro s a_ u1 hs hd hfr hpo hJ
        obtain ⟨n, rfl⟩ := hJ
        have f0 : a_.tmps.getD 11 undef = .int .i64 0 := hfr 11 (by kernel_rfl)
        refine .inl ⟨rfl, ?_⟩
        unfold Oper.wp
        rw [show (execOp a_.eval _).run Tryz.prog (v1.drewN n) = .ok (.value (.int .i64 0)) (v1.drewN n) from by simp [go_sem, Act.eval, f0]]
        exact ⟨_, rfl, rfl, n, rfl⟩
      · intro s a_ u1 hs hd hfr hpo hJ
        obtain ⟨n, rfl⟩ := hJ
        have f0 : a_.tmps.getD 8 undef = .pointer (some ⟨p, 0, none⟩) := hfr 8 (by kernel_rfl)
        have e1 : a_.tmps.getD 23 undef = .int .i64 0 := hpo 1 23 (by kernel_rfl)
        refine .inl ⟨rfl, ?_⟩
        unfold Oper.wp
        rw [show (execOp a_.eval _).run Tryz.prog (v1.drewN n) = .ok (.value (.pointer (some ⟨p, 0, none⟩))) (v1.drewN n) from by simp [go_sem, Act.eval, f0, e1, Addr.add]]
        exact ⟨_, rfl, rfl, n, rfl⟩
      · intro s a_ u1 hs hd hfr hpo hJ
        obtain ⟨n, rfl⟩ := hJ
        have e1 : a_.tmps.getD 24 undef = .pointer (some ⟨p, 0, none⟩) := hpo 2 24 (by kernel_rfl)
        refine .inl ⟨rfl, ?_⟩
        unfold Oper.wp
        rw [show (execOp a_.eval _).run Tryz.prog (v1.drewN n) = .ok (.value (.int .i64 a.c)) (v1.drewN n) from by simp [go_sem, Act.eval, e1, cp0]]
        exact ⟨_, rfl, rfl, n, rfl⟩
      · intro s a_ u1 hs hd hfr hpo hJ
        obtain ⟨n, rfl⟩ := hJ
        have f0 : a_.tmps.getD 11 undef = .int .i64 0 := hfr 11 (by kernel_rfl)
        refine .inl ⟨rfl, ?_⟩
        unfold Oper.wp
        rw [show (execOp a_.eval _).run Tryz.prog (v1.drewN n) = .ok (.value (.int .i64 0)) (v1.drewN n) from by simp [go_sem, Act.eval, f0]]
        exact ⟨_, rfl, rfl, n, rfl⟩
      · intro s a_ u1 hs hd hfr hpo hJ
        obtain ⟨n, rfl⟩ := hJ
        have f0 : a_.tmps.getD 9 undef = .pointer (some ⟨q, 0, none⟩) := hfr 9 (by kernel_rfl)
        have e1 : a_.tmps.getD 26 undef = .int .i64 0 := hpo 4 26 (by kernel_rfl)
        refine .inl ⟨rfl, ?_⟩
        unfold Oper.wp
        rw [show (execOp a_.eval _).run Tryz.prog (v1.drewN n) = .ok (.value (.pointer (some ⟨q, 0, none⟩))) (v1.drewN n) from by simp [go_sem, Act.eval, f0, e1, Addr.add]]
        exact ⟨_, rfl, rfl, n, rfl⟩
      · intro s a_ u1 hs hd hfr hpo hJ
        obtain ⟨n, rfl⟩ := hJ
        have e1 : a_.tmps.getD 27 undef = .pointer (some ⟨q, 0, none⟩) := hpo 5 27 (by kernel_rfl)
        refine .inl ⟨rfl, ?_⟩
        unfold Oper.wp
        rw [show (execOp a_.eval _).run Tryz.prog (v1.drewN n) = .ok (.value (.int .i64 b.c)) (v1.drewN n) from by simp [go_sem, Act.eval, e1, cq0]]
        exact ⟨_, rfl, rfl, n, rfl⟩
      · intro s a_ u1 hs hd hfr hpo hJ
        obtain ⟨n, rfl⟩ := hJ
        have e0 : a_.tmps.getD 22 undef = .func (.func f) #[] #[] := hpo 0 22 (by kernel_rfl)
        have e1 : a_.tmps.getD 25 undef = .int .i64 a.c := hpo 3 25 (by kernel_rfl)
        have e2 : a_.tmps.getD 28 undef = .int .i64 b.c := hpo 6 28 (by kernel_rfl)
        refine .inl ⟨rfl, ?_⟩
        unfold Oper.wp
        rw [show (execOp a_.eval _).run Tryz.prog (v1.drewN n) = .ok (.enter f #[.int .i64 a.c, .int .i64 b.c]) (v1.drewN n) from by simp [go_sem, Act.eval, e0, e1, e2, HCF.out]]
        refine Calls.mono (H0.out _) ?_
        rintro e u2 ⟨rfl, rfl⟩
        exact ⟨_, rfl, rfl, n, rfl⟩
      · intro s a_ u1 hs hd hfr hpo hJ
        obtain ⟨n, rfl⟩ := hJ
        have e0 : a_.tmps.getD 29 undef = .tuple #[.int .i64 r.c, .bool k0] := hpo 7 29 (by kernel_rfl)
        refine .inl ⟨rfl, ?_⟩
        unfold Oper.wp
        rw [show (execOp a_.eval _).run Tryz.prog (v1.drewN n) = .ok (.value (.tuple #[.int .i64 r.c, .bool k0])) (v1.drewN n) from by simp [go_sem, Act.eval, e0]]
        exact ⟨_, rfl, rfl, n, rfl⟩
      · intro s a_ u1 hs hd hfr hpo hJ
        obtain ⟨n, rfl⟩ := hJ
        have e0 : a_.tmps.getD 21 undef = .tuple #[.int .i64 r.c, .bool k0] := hpo 8 21 (by kernel_rfl)
        refine .inl ⟨rfl, ?_⟩
        unfold Oper.wp
        rw [show (execOp a_.eval _).run Tryz.prog (v1.drewN n) = .ok (.value (.int .i64 r.c)) (v1.drewN n) from by simp [go_sem, Act.eval, e0]]
        exact ⟨_, rfl, rfl, n, rfl⟩
      · intro s a_ u1 hs hd hfr hpo hJ
        obtain ⟨n, rfl⟩ := hJ
        have e0 : a_.tmps.getD 21 undef = .tuple #[.int .i64 r.c, .bool k0] := hpo 8 21 (by kernel_rfl)
        refine .inl ⟨rfl, ?_⟩
        unfold Oper.wp
        rw [show (execOp a_.eval _).run Tryz.prog (v1.drewN n) = .ok (.value (.bool k0)) (v1.drewN n) from by simp [go_sem, Act.eval, e0]]
        exact ⟨_, rfl, rfl, n, rfl⟩
      · intro s a_ u1 hs hd hfr hpo hJ
        obtain ⟨n, rfl⟩ := hJ
        have e0 : a_.tmps.getD 30 undef = .int .i64 r.c := hpo 9 30 (by kernel_rfl)
        refine .inl ⟨rfl, ?_⟩
        unfold Oper.wp
        rw [show (execOp a_.eval _).run Tryz.prog (v1.drewN n) = .ok (.value (.int .i64 r.c)) (v1.drewN n) from by simp [go_sem, Act.eval, e0]]
        exact ⟨_, rfl, rfl, n, rfl⟩
      · intro s a_ u1 hs hd hfr hpo hJ
        obtain ⟨n, rfl⟩ := hJ
        have e0 : a_.tmps.getD 31 undef = .bool k0 := hpo 10 31 (by kernel_rfl)
        refine .inl ⟨rfl, ?_⟩
        unfold Oper.wp
        rw [show (execOp a_.eval _).run Tryz.prog (v1.drewN n) = .ok (.value (.bool k0)) (v1.drewN n) from by simp [go_sem, Act.eval, e0]]
        exact ⟨_, rfl, rfl, n, rfl⟩
    · intro s V u1 hall hF hJ
      obtain ⟨n0, rfl⟩ := hJ
      have e11 : V 11 = .int .i64 r.c := hF 11 _ _ rfl rfl
      have e12 : V 12 = .bool k0 := hF 12 _ _ rfl rfl
      clear hall hF
      simp only [Bxs.puts, Nat.reduceAdd, put_none, put_lit, List.set_cons_succ, List.set_cons_zero]
      rw [e11, e12]
      clear e11 e12
      have HX0 := Lib.hid (Kit.below_drewN v1.heap.size v1 n0)
      cases hk0 : k0 with
      | false =>
        have HE := Lib.hid (show three r.c r.m r.p k0 k1 k2 = (z3, false) by rw [hk0]; unfold three; simp)
        have BW := Lib.hid (show Below w.heap.size w (v1.drewN n0) from BV.out.trans (HX0.out.mono BV.out.size))
        clear cp0 cq0
        have ZB := Lib.hid (show (v1.drewN n0).heap[w.heap.size + 1 + 1]? = _ from Z1.out)
        obtain ⟨vz, hvz⟩ : ∃ v, (v1.drewN n0).setCells (w.heap.size + 1 + 1) 0 (R3 z3) = v := ⟨_, rfl⟩
        have THz := Lib.hid (show (v1.drewN n0).there (w.heap.size + 1 + 1) 0 3 from Back.th ZB.out rfl)
        have ONEz := Lib.hid (show ((R3 z3) : List Value).toArray.all (·.oneCell') = true by simp [Value.oneCell'])
        have HVz := Lib.hid hvz
        have ZV := Lib.hid (show vz.heap[w.heap.size + 1 + 1]? = some (.cells (R3 z3).toArray 23 (0, 0)) by rw [← hvz]; exact Back.st ZB.out rfl)
        have BZ := Lib.hid (show Below w.heap.size w vz by rw [← hvz]; exact bel_set (BW.out) (by omega))
        clear hvz
        go_wp2_with (first | (refine wpList_store_at rfl 23 _ _ rfl _ _ _ rfl rfl THz.out (by kernel_rfl) ONEz.out HVz.out ?_))
        refine bodyPost_ret (v := .tuple #[.agg (R3 z3).toArray, .bool false]) (res_each _ _ _ (R3 z3) _ rfl rfl ZV.out rfl) rfl ?_
        unfold Eaches
        rw [HE.out]
        exact ⟨rfl, BZ.out⟩
      | true =>
        have cg := cell_of (show (v1.drewN n0).heap[gb]? = some (.cells #[.int .i64 0, .int .i64 0, .int .i64 0] 95 (0, 0)) from G1.out) 0 (v := .int .i64 0) rfl
        have fg := free_of (show (v1.drewN n0).heap[gb]? = some (.cells #[.int .i64 0, .int .i64 0, .int .i64 0] 95 (0, 0)) from G1.out) 0
        obtain ⟨v2, hv2⟩ : ∃ v, (v1.drewN n0).setCell ⟨gb, 0, none⟩ (.int .i64 r.c) = v := ⟨_, rfl⟩
        have k2' : ∀ b, b ≠ gb → v2.heap[b]? = v1.heap[b]? := fun b hb => by rw [← hv2]; exact Below.heap_setCell (v1.drewN n0) _ _ b hb
        have G2 := Lib.hid (show v2.heap[gb]? = some (.cells #[.int .i64 r.c, .int .i64 0, .int .i64 0] 95 (0, 0)) by rw [← hv2]; have := heap_setCell_same (v1.drewN n0) gb 0 _ _ (.int .i64 r.c) (show (v1.drewN n0).heap[gb]? = some (.cells #[.int .i64 0, .int .i64 0, .int .i64 0] 95 (0, 0)) from G1.out); simpa using this)
        have P2 := Lib.hid ((k2' _ NG.out.1).trans P1.out)
        have Q2 := Lib.hid ((k2' _ NG.out.2.1).trans Q1.out)
        have Z2 := Lib.hid ((k2' _ NG.out.2.2.1).trans Z1.out)
        have BV2 := Lib.hid (show Below w.heap.size w v2 by rw [← hv2]; exact (BV.out.trans (HX0.out.mono BV.out.size)).setCell (p := ⟨gb, 0, none⟩) NG.out.2.2.2 _)
        subst hk0
        clear cp0 cq0
        go_wp2_with fail
        clear hv2 cg fg k2' G1 P1 Q1 Z1 BV HX0
        obtain ⟨v1, hv1⟩ : ∃ v, v = v2 := ⟨_, rfl⟩
        subst hv1
        have G1 := G2
        have P1 := P2
        have Q1 := Q2
        have Z1 := Z2
        have BV := BV2
        clear G2 P2 Q2 Z2 BV2
        rw [rounds_succ]
        have cp1 := cell_of P1.out 1 (v := .int .i64 a.m) rfl
        have cq1 := cell_of Q1.out 1 (v := .int .i64 b.m) rfl
        go_wp2_with fail
        refine Slt.wp_region (by kernel_rfl) (F6 f p q 1 a.m b.m r.m k1) (fun _ v => ∃ n, v = v1.drewN n) (by kernel_rfl) ⟨1, rfl⟩ ?_ ?_
        · refine ⟨?_, ?_, ?_, ?_, ?_, ?_, ?_, ?_, ?_, ?_, ?_, ?_, ?_, trivial⟩
          · intro s a_ u1 hs hd hfr hpo hJ
            obtain ⟨n, rfl⟩ := hJ
            have f0 : a_.tmps.getD 2 undef = .func (.func f) #[] #[] := hfr 2 (by kernel_rfl)
            refine .inl ⟨rfl, ?_⟩
            unfold Oper.wp
            rw [show (execOp a_.eval _).run Tryz.prog (v1.drewN n) = .ok (.value (.func (.func f) #[] #[])) (v1.drewN n) from by simp [go_sem, Act.eval, f0]]
            exact ⟨_, rfl, rfl, n, rfl⟩
          · intro s a_ u1 hs hd hfr hpo hJ
            obtain ⟨n, rfl⟩ := hJ
            have f0 : a_.tmps.getD 11 undef = .int .i64 1 := hfr 11 (by kernel_rfl)
            refine .inl ⟨rfl, ?_⟩
            unfold Oper.wp
            rw [show (execOp a_.eval _).run Tryz.prog (v1.drewN n) = .ok (.value (.int .i64 1)) (v1.drewN n) from by simp [go_sem, Act.eval, f0]]
            exact ⟨_, rfl, rfl, n, rfl⟩
          · intro s a_ u1 hs hd hfr hpo hJ
            obtain ⟨n, rfl⟩ := hJ
            have f0 : a_.tmps.getD 8 undef = .pointer (some ⟨p, 0, none⟩) := hfr 8 (by kernel_rfl)
            have e1 : a_.tmps.getD 23 undef = .int .i64 1 := hpo 1 23 (by kernel_rfl)
            refine .inl ⟨rfl, ?_⟩
            unfold Oper.wp
            rw [show (execOp a_.eval _).run Tryz.prog (v1.drewN n) = .ok (.value (.pointer (some ⟨p, 1, none⟩))) (v1.drewN n) from by simp [go_sem, Act.eval, f0, e1, Addr.add]]
            exact ⟨_, rfl, rfl, n, rfl⟩
          · intro s a_ u1 hs hd hfr hpo hJ
            obtain ⟨n, rfl⟩ := hJ
            have e1 : a_.tmps.getD 24 undef = .pointer (some ⟨p, 1, none⟩) := hpo 2 24 (by kernel_rfl)
            refine .inl ⟨rfl, ?_⟩
            unfold Oper.wp
            rw [show (execOp a_.eval _).run Tryz.prog (v1.drewN n) = .ok (.value (.int .i64 a.m)) (v1.drewN n) from by simp [go_sem, Act.eval, e1, cp1]]
            exact ⟨_, rfl, rfl, n, rfl⟩
          · intro s a_ u1 hs hd hfr hpo hJ
            obtain ⟨n, rfl⟩ := hJ
            have f0 : a_.tmps.getD 11 undef = .int .i64 1 := hfr 11 (by kernel_rfl)
            refine .inl ⟨rfl, ?_⟩
            unfold Oper.wp
            rw [show (execOp a_.eval _).run Tryz.prog (v1.drewN n) = .ok (.value (.int .i64 1)) (v1.drewN n) from by simp [go_sem, Act.eval, f0]]
            exact ⟨_, rfl, rfl, n, rfl⟩
          · intro s a_ u1 hs hd hfr hpo hJ
            obtain ⟨n, rfl⟩ := hJ
            have f0 : a_.tmps.getD 9 undef = .pointer (some ⟨q, 0, none⟩) := hfr 9 (by kernel_rfl)
            have e1 : a_.tmps.getD 26 undef = .int .i64 1 := hpo 4 26 (by kernel_rfl)
            refine .inl ⟨rfl, ?_⟩
            unfold Oper.wp
            rw [show (execOp a_.eval _).run Tryz.prog (v1.drewN n) = .ok (.value (.pointer (some ⟨q, 1, none⟩))) (v1.drewN n) from by simp [go_sem, Act.eval, f0, e1, Addr.add]]
            exact ⟨_, rfl, rfl, n, rfl⟩
          · intro s a_ u1 hs hd hfr hpo hJ
            obtain ⟨n, rfl⟩ := hJ
            have e1 : a_.tmps.getD 27 undef = .pointer (some ⟨q, 1, none⟩) := hpo 5 27 (by kernel_rfl)
            refine .inl ⟨rfl, ?_⟩
            unfold Oper.wp
            rw [show (execOp a_.eval _).run Tryz.prog (v1.drewN n) = .ok (.value (.int .i64 b.m)) (v1.drewN n) from by simp [go_sem, Act.eval, e1, cq1]]
            exact ⟨_, rfl, rfl, n, rfl⟩
          · intro s a_ u1 hs hd hfr hpo hJ
            obtain ⟨n, rfl⟩ := hJ
            have e0 : a_.tmps.getD 22 undef = .func (.func f) #[] #[] := hpo 0 22 (by kernel_rfl)
            have e1 : a_.tmps.getD 25 undef = .int .i64 a.m := hpo 3 25 (by kernel_rfl)
            have e2 : a_.tmps.getD 28 undef = .int .i64 b.m := hpo 6 28 (by kernel_rfl)
            refine .inl ⟨rfl, ?_⟩
            unfold Oper.wp
            rw [show (execOp a_.eval _).run Tryz.prog (v1.drewN n) = .ok (.enter f #[.int .i64 a.m, .int .i64 b.m]) (v1.drewN n) from by simp [go_sem, Act.eval, e0, e1, e2, HCF.out]]
            refine Calls.mono (H1.out _) ?_
            rintro e u2 ⟨rfl, rfl⟩
            exact ⟨_, rfl, rfl, n, rfl⟩
          · intro s a_ u1 hs hd hfr hpo hJ
            obtain ⟨n, rfl⟩ := hJ
            have e0 : a_.tmps.getD 29 undef = .tuple #[.int .i64 r.m, .bool k1] := hpo 7 29 (by kernel_rfl)
            refine .inl ⟨rfl, ?_⟩
            unfold Oper.wp
            rw [show (execOp a_.eval _).run Tryz.prog (v1.drewN n) = .ok (.value (.tuple #[.int .i64 r.m, .bool k1])) (v1.drewN n) from by simp [go_sem, Act.eval, e0]]
            exact ⟨_, rfl, rfl, n, rfl⟩
          · intro s a_ u1 hs hd hfr hpo hJ
            obtain ⟨n, rfl⟩ := hJ
            have e0 : a_.tmps.getD 21 undef = .tuple #[.int .i64 r.m, .bool k1] := hpo 8 21 (by kernel_rfl)
            refine .inl ⟨rfl, ?_⟩
            unfold Oper.wp
            rw [show (execOp a_.eval _).run Tryz.prog (v1.drewN n) = .ok (.value (.int .i64 r.m)) (v1.drewN n) from by simp [go_sem, Act.eval, e0]]
            exact ⟨_, rfl, rfl, n, rfl⟩
          · intro s a_ u1 hs hd hfr hpo hJ
            obtain ⟨n, rfl⟩ := hJ
            have e0 : a_.tmps.getD 21 undef = .tuple #[.int .i64 r.m, .bool k1] := hpo 8 21 (by kernel_rfl)
            refine .inl ⟨rfl, ?_⟩
            unfold Oper.wp
            rw [show (execOp a_.eval _).run Tryz.prog (v1.drewN n) = .ok (.value (.bool k1)) (v1.drewN n) from by simp [go_sem, Act.eval, e0]]
            exact ⟨_, rfl, rfl, n, rfl⟩
          · intro s a_ u1 hs hd hfr hpo hJ
            obtain ⟨n, rfl⟩ := hJ
            have e0 : a_.tmps.getD 30 undef = .int .i64 r.m := hpo 9 30 (by kernel_rfl)
            refine .inl ⟨rfl, ?_⟩
            unfold Oper.wp
            rw [show (execOp a_.eval _).run Tryz.prog (v1.drewN n) = .ok (.value (.int .i64 r.m)) (v1.drewN n) from by simp [go_sem, Act.eval, e0]]
            exact ⟨_, rfl, rfl, n, rfl⟩
          · intro s a_ u1 hs hd hfr hpo hJ
            obtain ⟨n, rfl⟩ := hJ
            have e0 : a_.tmps.getD 31 undef = .bool k1 := hpo 10 31 (by kernel_rfl)
            refine .inl ⟨rfl, ?_⟩
            unfold Oper.wp
            rw [show (execOp a_.eval _).run Tryz.prog (v1.drewN n) = .ok (.value (.bool k1)) (v1.drewN n) from by simp [go_sem, Act.eval, e0]]
            exact ⟨_, rfl, rfl, n, rfl⟩
        · intro s V u1 hall hF hJ
          obtain ⟨n1, rfl⟩ := hJ
          have e11 : V 11 = .int .i64 r.m := hF 11 _ _ rfl rfl
          have e12 : V 12 = .bool k1 := hF 12 _ _ rfl rfl
          clear hall hF
          simp only [Bxs.puts, Nat.reduceAdd, put_none, put_lit, List.set_cons_succ, List.set_cons_zero]
          rw [e11, e12]
          clear e11 e12
          have HX1 := Lib.hid (Kit.below_drewN v1.heap.size v1 n1)
          cases hk1 : k1 with
          | false =>
            have HE := Lib.hid (show three r.c r.m r.p true k1 k2 = (z3, false) by rw [hk1]; unfold three; simp)
            have BW := Lib.hid (show Below w.heap.size w (v1.drewN n1) from BV.out.trans (HX1.out.mono BV.out.size))
            clear cp1 cq1
            have ZB := Lib.hid (show (v1.drewN n1).heap[w.heap.size + 1 + 1]? = _ from Z1.out)
            obtain ⟨vz, hvz⟩ : ∃ v, (v1.drewN n1).setCells (w.heap.size + 1 + 1) 0 (R3 z3) = v := ⟨_, rfl⟩
            have THz := Lib.hid (show (v1.drewN n1).there (w.heap.size + 1 + 1) 0 3 from Back.th ZB.out rfl)
            have ONEz := Lib.hid (show ((R3 z3) : List Value).toArray.all (·.oneCell') = true by simp [Value.oneCell'])
            have HVz := Lib.hid hvz
            have ZV := Lib.hid (show vz.heap[w.heap.size + 1 + 1]? = some (.cells (R3 z3).toArray 23 (0, 0)) by rw [← hvz]; exact Back.st ZB.out rfl)
            have BZ := Lib.hid (show Below w.heap.size w vz by rw [← hvz]; exact bel_set (BW.out) (by omega))
            clear hvz
            go_wp2_with (first | (refine wpList_store_at rfl 23 _ _ rfl _ _ _ rfl rfl THz.out (by kernel_rfl) ONEz.out HVz.out ?_))
            refine bodyPost_ret (v := .tuple #[.agg (R3 z3).toArray, .bool false]) (res_each _ _ _ (R3 z3) _ rfl rfl ZV.out rfl) rfl ?_
            unfold Eaches
            rw [HE.out]
            exact ⟨rfl, BZ.out⟩
          | true =>
            have cg := cell_of (show (v1.drewN n1).heap[gb]? = some (.cells #[.int .i64 r.c, .int .i64 0, .int .i64 0] 95 (0, 0)) from G1.out) 1 (v := .int .i64 0) rfl
            have fg := free_of (show (v1.drewN n1).heap[gb]? = some (.cells #[.int .i64 r.c, .int .i64 0, .int .i64 0] 95 (0, 0)) from G1.out) 1
            obtain ⟨v2, hv2⟩ : ∃ v, (v1.drewN n1).setCell ⟨gb, 1, none⟩ (.int .i64 r.m) = v := ⟨_, rfl⟩
            have k2' : ∀ b, b ≠ gb → v2.heap[b]? = v1.heap[b]? := fun b hb => by rw [← hv2]; exact Below.heap_setCell (v1.drewN n1) _ _ b hb
            have G2 := Lib.hid (show v2.heap[gb]? = some (.cells #[.int .i64 r.c, .int .i64 r.m, .int .i64 0] 95 (0, 0)) by rw [← hv2]; have := heap_setCell_same (v1.drewN n1) gb 1 _ _ (.int .i64 r.m) (show (v1.drewN n1).heap[gb]? = some (.cells #[.int .i64 r.c, .int .i64 0, .int .i64 0] 95 (0, 0)) from G1.out); simpa using this)
            have P2 := Lib.hid ((k2' _ NG.out.1).trans P1.out)
            have Q2 := Lib.hid ((k2' _ NG.out.2.1).trans Q1.out)
            have Z2 := Lib.hid ((k2' _ NG.out.2.2.1).trans Z1.out)
            have BV2 := Lib.hid (show Below w.heap.size w v2 by rw [← hv2]; exact (BV.out.trans (HX1.out.mono BV.out.size)).setCell (p := ⟨gb, 1, none⟩) NG.out.2.2.2 _)
            subst hk1
            clear cp1 cq1
            go_wp2_with fail
            clear hv2 cg fg k2' G1 P1 Q1 Z1 BV HX1
            obtain ⟨v1, hv1⟩ : ∃ v, v = v2 := ⟨_, rfl⟩
            subst hv1
            have G1 := G2
            have P1 := P2
            have Q1 := Q2
            have Z1 := Z2
            have BV := BV2
            clear G2 P2 Q2 Z2 BV2
            rw [rounds_succ]
            have cp2 := cell_of P1.out 2 (v := .int .i64 a.p) rfl
            have cq2 := cell_of Q1.out 2 (v := .int .i64 b.p) rfl
            go_wp2_with fail
            refine Slt.wp_region (by kernel_rfl) (F6 f p q 2 a.p b.p r.p k2) (fun _ v => ∃ n, v = v1.drewN n) (by kernel_rfl) ⟨1, rfl⟩ ?_ ?_
            · refine ⟨?_, ?_, ?_, ?_, ?_, ?_, ?_, ?_, ?_, ?_, ?_, ?_, ?_, trivial⟩
              · intro s a_ u1 hs hd hfr hpo hJ
                obtain ⟨n, rfl⟩ := hJ
                have f0 : a_.tmps.getD 2 undef = .func (.func f) #[] #[] := hfr 2 (by kernel_rfl)
                refine .inl ⟨rfl, ?_⟩
                unfold Oper.wp
                rw [show (execOp a_.eval _).run Tryz.prog (v1.drewN n) = .ok (.value (.func (.func f) #[] #[])) (v1.drewN n) from by simp [go_sem, Act.eval, f0]]
                exact ⟨_, rfl, rfl, n, rfl⟩
              · intro s a_ u1 hs hd hfr hpo hJ
                obtain ⟨n, rfl⟩ := hJ
                have f0 : a_.tmps.getD 11 undef = .int .i64 2 := hfr 11 (by kernel_rfl)
                refine .inl ⟨rfl, ?_⟩
                unfold Oper.wp
                rw [show (execOp a_.eval _).run Tryz.prog (v1.drewN n) = .ok (.value (.int .i64 2)) (v1.drewN n) from by simp [go_sem, Act.eval, f0]]
                exact ⟨_, rfl, rfl, n, rfl⟩
              · intro s a_ u1 hs hd hfr hpo hJ
                obtain ⟨n, rfl⟩ := hJ
                have f0 : a_.tmps.getD 8 undef = .pointer (some ⟨p, 0, none⟩) := hfr 8 (by kernel_rfl)
                have e1 : a_.tmps.getD 23 undef = .int .i64 2 := hpo 1 23 (by kernel_rfl)
                refine .inl ⟨rfl, ?_⟩
                unfold Oper.wp
                rw [show (execOp a_.eval _).run Tryz.prog (v1.drewN n) = .ok (.value (.pointer (some ⟨p, 2, none⟩))) (v1.drewN n) from by simp [go_sem, Act.eval, f0, e1, Addr.add]]
                exact ⟨_, rfl, rfl, n, rfl⟩
              · intro s a_ u1 hs hd hfr hpo hJ
                obtain ⟨n, rfl⟩ := hJ
                have e1 : a_.tmps.getD 24 undef = .pointer (some ⟨p, 2, none⟩) := hpo 2 24 (by kernel_rfl)
                refine .inl ⟨rfl, ?_⟩
                unfold Oper.wp
                rw [show (execOp a_.eval _).run Tryz.prog (v1.drewN n) = .ok (.value (.int .i64 a.p)) (v1.drewN n) from by simp [go_sem, Act.eval, e1, cp2]]
                exact ⟨_, rfl, rfl, n, rfl⟩
              · intro s a_ u1 hs hd hfr hpo hJ
                obtain ⟨n, rfl⟩ := hJ
                have f0 : a_.tmps.getD 11 undef = .int .i64 2 := hfr 11 (by kernel_rfl)
                refine .inl ⟨rfl, ?_⟩
                unfold Oper.wp
                rw [show (execOp a_.eval _).run Tryz.prog (v1.drewN n) = .ok (.value (.int .i64 2)) (v1.drewN n) from by simp [go_sem, Act.eval, f0]]
                exact ⟨_, rfl, rfl, n, rfl⟩
              · intro s a_ u1 hs hd hfr hpo hJ
                obtain ⟨n, rfl⟩ := hJ
                have f0 : a_.tmps.getD 9 undef = .pointer (some ⟨q, 0, none⟩) := hfr 9 (by kernel_rfl)
                have e1 : a_.tmps.getD 26 undef = .int .i64 2 := hpo 4 26 (by kernel_rfl)
                refine .inl ⟨rfl, ?_⟩
                unfold Oper.wp
                rw [show (execOp a_.eval _).run Tryz.prog (v1.drewN n) = .ok (.value (.pointer (some ⟨q, 2, none⟩))) (v1.drewN n) from by simp [go_sem, Act.eval, f0, e1, Addr.add]]
                exact ⟨_, rfl, rfl, n, rfl⟩
              · intro s a_ u1 hs hd hfr hpo hJ
                obtain ⟨n, rfl⟩ := hJ
                have e1 : a_.tmps.getD 27 undef = .pointer (some ⟨q, 2, none⟩) := hpo 5 27 (by kernel_rfl)
                refine .inl ⟨rfl, ?_⟩
                unfold Oper.wp
                rw [show (execOp a_.eval _).run Tryz.prog (v1.drewN n) = .ok (.value (.int .i64 b.p)) (v1.drewN n) from by simp [go_sem, Act.eval, e1, cq2]]
                exact ⟨_, rfl, rfl, n, rfl⟩
              · intro s a_ u1 hs hd hfr hpo hJ
                obtain ⟨n, rfl⟩ := hJ
                have e0 : a_.tmps.getD 22 undef = .func (.func f) #[] #[] := hpo 0 22 (by kernel_rfl)
                have e1 : a_.tmps.getD 25 undef = .int .i64 a.p := hpo 3 25 (by kernel_rfl)
                have e2 : a_.tmps.getD 28 undef = .int .i64 b.p := hpo 6 28 (by kernel_rfl)
                refine .inl ⟨rfl, ?_⟩
                unfold Oper.wp
                rw [show (execOp a_.eval _).run Tryz.prog (v1.drewN n) = .ok (.enter f #[.int .i64 a.p, .int .i64 b.p]) (v1.drewN n) from by simp [go_sem, Act.eval, e0, e1, e2, HCF.out]]
                refine Calls.mono (H2.out _) ?_
                rintro e u2 ⟨rfl, rfl⟩
                exact ⟨_, rfl, rfl, n, rfl⟩
              · intro s a_ u1 hs hd hfr hpo hJ
                obtain ⟨n, rfl⟩ := hJ
                have e0 : a_.tmps.getD 29 undef = .tuple #[.int .i64 r.p, .bool k2] := hpo 7 29 (by kernel_rfl)
                refine .inl ⟨rfl, ?_⟩
                unfold Oper.wp
                rw [show (execOp a_.eval _).run Tryz.prog (v1.drewN n) = .ok (.value (.tuple #[.int .i64 r.p, .bool k2])) (v1.drewN n) from by simp [go_sem, Act.eval, e0]]
                exact ⟨_, rfl, rfl, n, rfl⟩
              · intro s a_ u1 hs hd hfr hpo hJ
                obtain ⟨n, rfl⟩ := hJ
                have e0 : a_.tmps.getD 21 undef = .tuple #[.int .i64 r.p, .bool k2] := hpo 8 21 (by kernel_rfl)
                refine .inl ⟨rfl, ?_⟩
                unfold Oper.wp
                rw [show (execOp a_.eval _).run Tryz.prog (v1.drewN n) = .ok (.value (.int .i64 r.p)) (v1.drewN n) from by simp [go_sem, Act.eval, e0]]
                exact ⟨_, rfl, rfl, n, rfl⟩
              · intro s a_ u1 hs hd hfr hpo hJ
                obtain ⟨n, rfl⟩ := hJ
                have e0 : a_.tmps.getD 21 undef = .tuple #[.int .i64 r.p, .bool k2] := hpo 8 21 (by kernel_rfl)
                refine .inl ⟨rfl, ?_⟩
                unfold Oper.wp
                rw [show (execOp a_.eval _).run Tryz.prog (v1.drewN n) = .ok (.value (.bool k2)) (v1.drewN n) from by simp [go_sem, Act.eval, e0]]
                exact ⟨_, rfl, rfl, n, rfl⟩
              · intro s a_ u1 hs hd hfr hpo hJ
                obtain ⟨n, rfl⟩ := hJ
                have e0 : a_.tmps.getD 30 undef = .int .i64 r.p := hpo 9 30 (by kernel_rfl)
                refine .inl ⟨rfl, ?_⟩
                unfold Oper.wp
                rw [show (execOp a_.eval _).run Tryz.prog (v1.drewN n) = .ok (.value (.int .i64 r.p)) (v1.drewN n) from by simp [go_sem, Act.eval, e0]]
                exact ⟨_, rfl, rfl, n, rfl⟩
              · intro s a_ u1 hs hd hfr hpo hJ
                obtain ⟨n, rfl⟩ := hJ
                have e0 : a_.tmps.getD 31 undef = .bool k2 := hpo 10 31 (by kernel_rfl)
                refine .inl ⟨rfl, ?_⟩
                unfold Oper.wp
                rw [show (execOp a_.eval _).run Tryz.prog (v1.drewN n) = .ok (.value (.bool k2)) (v1.drewN n) from by simp [go_sem, Act.eval, e0]]
                exact ⟨_, rfl, rfl, n, rfl⟩
            · intro s V u1 hall hF hJ
              obtain ⟨n2, rfl⟩ := hJ
              have e11 : V 11 = .int .i64 r.p := hF 11 _ _ rfl rfl
              have e12 : V 12 = .bool k2 := hF 12 _ _ rfl rfl
              clear hall hF
              simp only [Bxs.puts, Nat.reduceAdd, put_none, put_lit, List.set_cons_succ, List.set_cons_zero]
              rw [e11, e12]
              clear e11 e12
              have HX2 := Lib.hid (Kit.below_drewN v1.heap.size v1 n2)
              cases hk2 : k2 with
              | false =>
                have HE := Lib.hid (show three r.c r.m r.p true true k2 = (z3, false) by rw [hk2]; unfold three; simp)
                have BW := Lib.hid (show Below w.heap.size w (v1.drewN n2) from BV.out.trans (HX2.out.mono BV.out.size))
                clear cp2 cq2
                have ZB := Lib.hid (show (v1.drewN n2).heap[w.heap.size + 1 + 1]? = _ from Z1.out)
                obtain ⟨vz, hvz⟩ : ∃ v, (v1.drewN n2).setCells (w.heap.size + 1 + 1) 0 (R3 z3) = v := ⟨_, rfl⟩
                have THz := Lib.hid (show (v1.drewN n2).there (w.heap.size + 1 + 1) 0 3 from Back.th ZB.out rfl)
                have ONEz := Lib.hid (show ((R3 z3) : List Value).toArray.all (·.oneCell') = true by simp [Value.oneCell'])
                have HVz := Lib.hid hvz
                have ZV := Lib.hid (show vz.heap[w.heap.size + 1 + 1]? = some (.cells (R3 z3).toArray 23 (0, 0)) by rw [← hvz]; exact Back.st ZB.out rfl)
                have BZ := Lib.hid (show Below w.heap.size w vz by rw [← hvz]; exact bel_set (BW.out) (by omega))
                clear hvz
                go_wp2_with (first | (refine wpList_store_at rfl 23 _ _ rfl _ _ _ rfl rfl THz.out (by kernel_rfl) ONEz.out HVz.out ?_))
                refine bodyPost_ret (v := .tuple #[.agg (R3 z3).toArray, .bool false]) (res_each _ _ _ (R3 z3) _ rfl rfl ZV.out rfl) rfl ?_
                unfold Eaches
                rw [HE.out]
                exact ⟨rfl, BZ.out⟩
              | true =>
                have cg := cell_of (show (v1.drewN n2).heap[gb]? = some (.cells #[.int .i64 r.c, .int .i64 r.m, .int .i64 0] 95 (0, 0)) from G1.out) 2 (v := .int .i64 0) rfl
                have fg := free_of (show (v1.drewN n2).heap[gb]? = some (.cells #[.int .i64 r.c, .int .i64 r.m, .int .i64 0] 95 (0, 0)) from G1.out) 2
                obtain ⟨v2, hv2⟩ : ∃ v, (v1.drewN n2).setCell ⟨gb, 2, none⟩ (.int .i64 r.p) = v := ⟨_, rfl⟩
                have k2' : ∀ b, b ≠ gb → v2.heap[b]? = v1.heap[b]? := fun b hb => by rw [← hv2]; exact Below.heap_setCell (v1.drewN n2) _ _ b hb
                have G2 := Lib.hid (show v2.heap[gb]? = some (.cells #[.int .i64 r.c, .int .i64 r.m, .int .i64 r.p] 95 (0, 0)) by rw [← hv2]; have := heap_setCell_same (v1.drewN n2) gb 2 _ _ (.int .i64 r.p) (show (v1.drewN n2).heap[gb]? = some (.cells #[.int .i64 r.c, .int .i64 r.m, .int .i64 0] 95 (0, 0)) from G1.out); simpa using this)
                have P2 := Lib.hid ((k2' _ NG.out.1).trans P1.out)
                have Q2 := Lib.hid ((k2' _ NG.out.2.1).trans Q1.out)
                have Z2 := Lib.hid ((k2' _ NG.out.2.2.1).trans Z1.out)
                have BV2 := Lib.hid (show Below w.heap.size w v2 by rw [← hv2]; exact (BV.out.trans (HX2.out.mono BV.out.size)).setCell (p := ⟨gb, 2, none⟩) NG.out.2.2.2 _)
                subst hk2
                clear cp2 cq2
                go_wp2_with fail
                clear hv2 cg fg k2' G1 P1 Q1 Z1 BV HX2
                obtain ⟨v1, hv1⟩ : ∃ v, v = v2 := ⟨_, rfl⟩
                subst hv1
                have G1 := G2
                have P1 := P2
                have Q1 := Q2
                have Z1 := Z2
                have BV := BV2
                clear G2 P2 Q2 Z2 BV2
                rw [rounds_succ]
                have RG := Lib.hid (range_box (cs := R3 r) G1.out)
                go_wp2_with (first | (refine wpList_load_mid rfl 95 _ rfl _ _ rfl _ _ RG.out Tryz.underlying95 rfl (by kernel_rfl) ?_))
                refine (joined_any _ _ _ v1).mono ?_
                rintro e v3 ⟨rfl, hb3⟩
                have ZB := Lib.hid ((hb3.block _ (lt_of_at Z1.out)).trans Z1.out)
                have BW := Lib.hid (BV.out.trans (hb3.mono BV.out.size))
                have HE := Lib.hid (show three r.c r.m r.p true true true = (r, true) from rfl)
                obtain ⟨vz, hvz⟩ : ∃ v, v3.setCells (w.heap.size + 1 + 1) 0 (R3 r) = v := ⟨_, rfl⟩
                have THz := Lib.hid (show v3.there (w.heap.size + 1 + 1) 0 3 from Back.th ZB.out rfl)
                have ONEz := Lib.hid (show ((R3 r) : List Value).toArray.all (·.oneCell') = true by simp [Value.oneCell'])
                have HVz := Lib.hid hvz
                have ZV := Lib.hid (show vz.heap[w.heap.size + 1 + 1]? = some (.cells (R3 r).toArray 23 (0, 0)) by rw [← hvz]; exact Back.st ZB.out rfl)
                have BZ := Lib.hid (show Below w.heap.size w vz by rw [← hvz]; exact bel_set (BW.out) (by omega))
                clear hvz hb3
                go_wp2_with (first | (refine wpList_store_at rfl 23 _ _ rfl _ _ _ rfl rfl THz.out (by kernel_rfl) ONEz.out HVz.out ?_))
                refine bodyPost_ret (v := .tuple #[.agg (R3 r).toArray, .bool true]) (res_each _ _ _ (R3 r) _ rfl rfl ZV.out rfl) rfl ?_
                unfold Eaches
                rw [HE.out]
                exact ⟨rfl, BZ.out⟩
end Re
end Go.Proofs.YtbichomjpmmjmaaGreatDoor

/-
  The contracts of the document's answers to num.Add and num.Mul: the sum or product and true if that fits 64 bits, else 0 and false; the world is left alone. Condition: both arguments are 64-bit integers.
-/
namespace Go.Proofs.YtbichomjpmmjmaaGreatDoor
open Go.ChangeShapes Go.WideShapes Go.ChangeAt Go.RowKit
open NumMath
namespace NumRefArith
end NumRefArith
end Go.Proofs.YtbichomjpmmjmaaGreatDoor
