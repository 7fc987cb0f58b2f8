/-
  Package res: Over. What was there is left as it was. Condition: the numbers are 64-bit integers.
-/
import Derived.Test.YtpllcnpmjnmcfaaDoorResOps
set_option linter.unusedVariables false
set_option linter.unusedSimpArgs false
namespace Go.Proofs.YtpllcnpmjnmcfaaDoor
open Go.ChangeShapes Go.WideShapes Go.ChangeAt Go.RowKit Go.Lib
open NumMath
namespace Re
def FO (p q gb i : Nat) (x y : Int) : Nat → Value → Prop
  | 0, v => v = .int .i64 i
  | 1, v => v = .int .i64 i
  | 2, v => v = .pointer (some ⟨p, i, none⟩)
  | 3, v => v = .int .i64 x
  | 4, v => v = .int .i64 i
  | 5, v => v = .pointer (some ⟨q, i, none⟩)
  | 6, v => v = .int .i64 y
  | 7, v => v = .int .i64 (overI x y)
  | 8, v => v = .pointer (some ⟨gb, i, none⟩)
  | _, _ => True
def JO (v1 : World) (gb i : Nat) (z : Int) (s : Nat → Bool) (v : World) : Prop := ∃ n, v = if s 9 = true then (v1.drewN n).setCell ⟨gb, i, none⟩ (.int .i64 z) else v1.drewN n
theorem JO_other {v1 v : World} {gb i : Nat} {z : Int} {s : Nat → Bool} (h : JO v1 gb i z s v) {j : Nat} (hj : (9 == j) = false) : JO v1 gb i z (fun k => s k || k == j) v := by
  unfold JO at h ⊢
  simp only [hj, Bool.or_false]
  exact h
theorem JO_cell {v1 v : World} {gb i : Nat} {z : Int} {s : Nat → Bool} (h : JO v1 gb i z s v) {p : Nat} (hp : p ≠ gb) {A : Array Value} {t : TypeId} (hA : v1.heap[p]? = some (.cells A t (0, 0))) (k : Nat) {x : Value} (hx : A[k]? = some x) : v.cell? ⟨p, k, none⟩ = some x := by
  obtain ⟨n, rfl⟩ := h
  refine cell_of (t := t) (A := A) ?_ k hx
  split
  · rw [Below.heap_setCell _ _ _ p hp]; exact hA
  · exact hA
theorem res_over (tmps : Array Value) (w : World) (p : Nat) (xs : List Value) (h2 : tmps.getD 4 undef = .pointer (some ⟨p, 0, none⟩)) (hX : w.heap[p]? = some (.cells xs.toArray 23 (0, 0))) (hm : xs.length = 3) :
    (results Tryd.f15 tmps).run Tryd.prog w = .ok (.agg xs.toArray) w := by
  have h1 : (loadVar 23 ⟨p, 0, none⟩).run Tryd.prog w = .ok (.agg xs.toArray) w := run_loadVar_mid w p 0 23 _ _ (range_box hX) Tryd.underlying23 rfl (by rw [hm]; kernel_rfl)
  simp only [results, Tryd.results15]
  simp only [Array.getD_eq_getD_getElem?] at h2
  have ha : (asAddr (tmps[4]?.getD undef)).run Tryd.prog w = .ok ⟨p, 0, none⟩ w := by rw [h2]; rfl
  simp [Sem.run_bind, h1, ha]
set_option maxRecDepth 100000 in
set_option maxHeartbeats 4000000 in
theorem over_any (a b : Rx) (ha : a.Ok) (hb : b.Ok) (w : World) : Calls Tryd.prog 15 #[.agg #[.int .i64 a.c, .int .i64 a.m, .int .i64 a.p], .agg #[.int .i64 b.c, .int .i64 b.m, .int .i64 b.p]] w fun e w' => e = .returned (.agg (R3 (overR a b)).toArray) ∧ Below w.heap.size w w' := by
  obtain ⟨w0, hw0⟩ : ∃ v, (((w.alloc (.cells #[.int .i64 a.c, .int .i64 a.m, .int .i64 a.p] 23)).alloc (.cells #[.int .i64 b.c, .int .i64 b.m, .int .i64 b.p] 23)).alloc (.cells #[.int .i64 0, .int .i64 0, .int .i64 0] 23)) = v := ⟨_, rfl⟩
  have X := Lib.hid (show w0.heap[w.heap.size]? = some (.cells #[.int .i64 a.c, .int .i64 a.m, .int .i64 a.p] 23 (0, 0)) by rw [← hw0, Below.heap_alloc _ _ _ (by simp; omega), Below.heap_alloc _ _ _ (by simp)]; exact heap_alloc_new w _)
  have Y := Lib.hid (show w0.heap[w.heap.size + 1]? = some (.cells #[.int .i64 b.c, .int .i64 b.m, .int .i64 b.p] 23 (0, 0)) by rw [← hw0, Below.heap_alloc _ _ _ (by simp)]; have := heap_alloc_new (w.alloc (.cells #[.int .i64 a.c, .int .i64 a.m, .int .i64 a.p] 23)) (.cells #[.int .i64 b.c, .int .i64 b.m, .int .i64 b.p] 23); simpa using this)
  have Zr := Lib.hid (show w0.heap[w.heap.size + 1 + 1]? = some (.cells #[.int .i64 0, .int .i64 0, .int .i64 0] 23 (0, 0)) by rw [← hw0]; have := heap_alloc_new ((w.alloc (.cells #[.int .i64 a.c, .int .i64 a.m, .int .i64 a.p] 23)).alloc (.cells #[.int .i64 b.c, .int .i64 b.m, .int .i64 b.p] 23)) (.cells #[.int .i64 0, .int .i64 0, .int .i64 0] 23); simpa using this)
  have B0 := Lib.hid (show Below w.heap.size w w0 by rw [← hw0]; go_grown)
  have RX := Lib.hid (range_box (cs := R3 a) X.out)
  have RY := Lib.hid (range_box (cs := R3 b) Y.out)
  have HA := Lib.hid ha
  have HB := Lib.hid hb
  clear ha hb
  go_enter Tryd.func15, Tryd.ntmps15
  go_wp2_with fail
  clear hw0 RX RY
  refine Vls.wp_region (by kernel_rfl) (J2 w0 (R3 a) (R3 b)) (by kernel_rfl) (fun _ => undef) (J2.start _ _ _ _) ?_ ?_
  · refine ⟨?_, ?_, ?_, ?_, ?_, ?_, ?_, ?_, trivial⟩
    · intro s a_ u V hs hd hfr hpo hJ
      have f0 : a_.tmps.getD 2 undef = .pointer (some ⟨w.heap.size, 0, none⟩) := hfr 2 (by kernel_rfl)
      refine .inl ⟨rfl, ?_⟩
      exact wp_load_mid 23 (.tmp 2) rfl (w.heap.size) 0 f0 (R3 a) _ (range_box ((hJ.bel.block _ (lt_of_at X.out)).trans X.out)) Tryd.underlying23 rfl (by kernel_rfl) ⟨_, rfl, hJ.step 0 (by decide) (Below.refl _ _) rfl⟩
    · intro s a_ u V hs hd hfr hpo hJ
      have e0 : a_.tmps.getD 9 undef = .agg (R3 a).toArray := (hpo 0 9 (by kernel_rfl)).trans (hJ.get 0 (by decide) (hd 0 (by kernel_rfl)) rfl)
      refine .inl ⟨rfl, ?_⟩
      unfold Oper.wp
      rw [show (execOp a_.eval _).run Tryd.prog u = .ok (.enter 34 #[.agg (R3 a).toArray]) u from by simp [go_sem, Act.eval, e0]]
      refine Calls.mono (apart_any a.c a.m a.p u) ?_
      rintro e u2 ⟨rfl, hb⟩
      exact ⟨_, rfl, hJ.step 1 (by decide) hb rfl⟩
    · intro s a_ u V hs hd hfr hpo hJ
      have f0 : a_.tmps.getD 3 undef = .pointer (some ⟨w.heap.size + 1, 0, none⟩) := hfr 3 (by kernel_rfl)
      refine .inl ⟨rfl, ?_⟩
      exact wp_load_mid 23 (.tmp 3) rfl (w.heap.size + 1) 0 f0 (R3 b) _ (range_box ((hJ.bel.block _ (lt_of_at Y.out)).trans Y.out)) Tryd.underlying23 rfl (by kernel_rfl) ⟨_, rfl, hJ.step 2 (by decide) (Below.refl _ _) rfl⟩
    · intro s a_ u V hs hd hfr hpo hJ
      have e0 : a_.tmps.getD 11 undef = .agg (R3 b).toArray := (hpo 2 11 (by kernel_rfl)).trans (hJ.get 2 (by decide) (hd 2 (by kernel_rfl)) rfl)
      refine .inl ⟨rfl, ?_⟩
      unfold Oper.wp
      rw [show (execOp a_.eval _).run Tryd.prog u = .ok (.enter 34 #[.agg (R3 b).toArray]) u from by simp [go_sem, Act.eval, e0]]
      refine Calls.mono (apart_any b.c b.m b.p u) ?_
      rintro e u2 ⟨rfl, hb⟩
      exact ⟨_, rfl, hJ.step 3 (by decide) hb rfl⟩
    · intro s a_ u V hs hd hfr hpo hJ
      refine .inl ⟨rfl, ?_⟩
      unfold Oper.wp
      rw [show (execOp a_.eval _).run Tryd.prog u = .ok (.value (.pointer (some ⟨u.heap.size, 0, none⟩))) (u.alloc (.cells #[.int .i64 0, .int .i64 0, .int .i64 0] 56 (0, 0))) from by simp [go_sem, Act.eval]]
      exact ⟨_, rfl, hJ.al4 hs _ rfl⟩
    · intro s a_ u V hs hd hfr hpo hJ
      refine .inl ⟨rfl, ?_⟩
      unfold Oper.wp
      rw [show (execOp a_.eval _).run Tryd.prog u = .ok (.value (.pointer (some ⟨u.heap.size, 0, none⟩))) (u.alloc (.cells #[.int .i64 0, .int .i64 0, .int .i64 0] 56 (0, 0))) from by simp [go_sem, Act.eval]]
      exact ⟨_, rfl, hJ.al5 hs _ rfl⟩
    · intro s a_ u V hs hd hfr hpo hJ
      have h4 : s 4 = true := hd 4 (by kernel_rfl)
      obtain ⟨q, X, hq, hqv, hX, hXs, _⟩ := hJ.b4 h4
      have e1 : a_.tmps.getD 5 undef = .pointer (some ⟨q, 0, none⟩) := (hpo 4 5 (by kernel_rfl)).trans hq
      have e2 : a_.tmps.getD 10 undef = .agg (R3 a).toArray := (hpo 1 10 (by kernel_rfl)).trans (hJ.get 1 (by decide) (hd 1 (by kernel_rfl)) rfl)
      refine .inl ⟨rfl, ?_⟩
      exact wp_store_mid 56 (.tmp 5) (.tmp 10) rfl q 0 (R3 a).toArray e1 e2 (Back.th hX hXs) (by kernel_rfl) (by simp [Value.oneCell']) ⟨undef, rfl, hJ.st6 rfl h4 hq _⟩
    · intro s a_ u V hs hd hfr hpo hJ
      have h4 : s 5 = true := hd 5 (by kernel_rfl)
      obtain ⟨q, X, hq, hqv, hX, hXs, _⟩ := hJ.b5 h4
      have e1 : a_.tmps.getD 6 undef = .pointer (some ⟨q, 0, none⟩) := (hpo 5 6 (by kernel_rfl)).trans hq
      have e2 : a_.tmps.getD 12 undef = .agg (R3 b).toArray := (hpo 3 12 (by kernel_rfl)).trans (hJ.get 3 (by decide) (hd 3 (by kernel_rfl)) rfl)
      refine .inl ⟨rfl, ?_⟩
      exact wp_store_mid 56 (.tmp 6) (.tmp 12) rfl q 0 (R3 b).toArray e1 e2 (Back.th hX hXs) (by kernel_rfl) (by simp [Value.oneCell']) ⟨undef, rfl, hJ.st7 rfl h4 hq _⟩
  · intro s V u hall hJ
    obtain ⟨p, q, e4, e5, hpq, hp, hq, hX, hY, hbu⟩ := hJ.fin hall
    have P := Lib.hid hX
    have Q := Lib.hid hY
    have BU := Lib.hid hbu
    have PQ := Lib.hid hpq
    have PG := Lib.hid hp
    have QG := Lib.hid hq
    clear hall hJ hX hY hbu hpq hp hq
    simp only [Bxs.puts, Nat.reduceAdd, put_none, put_lit, List.set_cons_succ, List.set_cons_zero]
    rw [e4, e5]
    clear e4 e5
    have B1 := Lib.hid (B0.out.trans (BU.out.mono B0.out.size))
    have Zu := Lib.hid ((BU.out.block _ (lt_of_at Zr.out)).trans Zr.out)
    have hpl := lt_of_at P.out
    have hql := lt_of_at Q.out
    have hzl := lt_of_at Zu.out
    clear X Y Zr
    go_wp2_with fail
    obtain ⟨v1, hv1⟩ : ∃ v, u.alloc (.cells #[.int .i64 0, .int .i64 0, .int .i64 0] 56) = v := ⟨_, rfl⟩
    obtain ⟨gb, hgb⟩ : ∃ b, u.heap.size = b := ⟨_, rfl⟩
    rw [hv1, hgb]
    have hb1 : Below u.heap.size u v1 := by rw [← hv1]; exact (Below.refl _ _).alloc (Nat.le_refl _) _
    have G1 := Lib.hid (show v1.heap[gb]? = some (.cells #[.int .i64 0, .int .i64 0, .int .i64 0] 56 (0, 0)) by rw [← hv1, ← hgb]; exact heap_alloc_new u _)
    have P1 := Lib.hid ((hb1.block _ hpl).trans P.out)
    have Q1 := Lib.hid ((hb1.block _ hql).trans Q.out)
    have Z1 := Lib.hid ((hb1.block _ hzl).trans Zu.out)
    have BV := Lib.hid (B1.out.trans (hb1.mono B1.out.size))
    have NG := Lib.hid (show p ≠ gb ∧ q ≠ gb ∧ w.heap.size + 1 + 1 ≠ gb ∧ w.heap.size ≤ gb from ⟨by omega, by omega, by omega, by have := B1.out.size; omega⟩)
    clear hv1 hgb hb1 hpl hql hzl Zu BU B1 P Q PQ PG QG B0
    refine wp_loop_rounds 4 ?_
    rw [rounds_succ]
    go_wp2_with fail
    refine Slt.wp_region (by kernel_rfl) (FO p q gb 0 a.c b.c) (JO v1 gb 0 (overI a.c b.c)) (by kernel_rfl) ⟨1, rfl⟩ ?_ ?_
    · refine ⟨?_, ?_, ?_, ?_, ?_, ?_, ?_, ?_, ?_, ?_, trivial⟩
      · intro s a_ u1 hs hd hfr hpo hJ
        have f0 : a_.tmps.getD 8 undef = .int .i64 0 := hfr 8 (by kernel_rfl)
        refine .inl ⟨rfl, ?_⟩
        unfold Oper.wp
        rw [show (execOp a_.eval _).run Tryd.prog u1 = .ok (.value (.int .i64 0)) u1 from by simp [go_sem, Act.eval, f0]]
        exact ⟨_, rfl, rfl, JO_other hJ rfl⟩
      · intro s a_ u1 hs hd hfr hpo hJ
        have f0 : a_.tmps.getD 8 undef = .int .i64 0 := hfr 8 (by kernel_rfl)
        refine .inl ⟨rfl, ?_⟩
        unfold Oper.wp
        rw [show (execOp a_.eval _).run Tryd.prog u1 = .ok (.value (.int .i64 0)) u1 from by simp [go_sem, Act.eval, f0]]
        exact ⟨_, rfl, rfl, JO_other hJ rfl⟩
      · intro s a_ u1 hs hd hfr hpo hJ
        have f0 : a_.tmps.getD 5 undef = .pointer (some ⟨p, 0, none⟩) := hfr 5 (by kernel_rfl)
        have e1 : a_.tmps.getD 17 undef = .int .i64 0 := hpo 1 17 (by kernel_rfl)
        refine .inl ⟨rfl, ?_⟩
        unfold Oper.wp
        rw [show (execOp a_.eval _).run Tryd.prog u1 = .ok (.value (.pointer (some ⟨p, 0, none⟩))) u1 from by simp [go_sem, Act.eval, f0, e1, Addr.add]]
        exact ⟨_, rfl, rfl, JO_other hJ rfl⟩
      · intro s a_ u1 hs hd hfr hpo hJ
        have e1 : a_.tmps.getD 18 undef = .pointer (some ⟨p, 0, none⟩) := hpo 2 18 (by kernel_rfl)
        have cp : u1.cell? ⟨p, 0, none⟩ = some (.int .i64 a.c) := JO_cell hJ NG.out.1 P1.out 0 rfl
        refine .inl ⟨rfl, ?_⟩
        unfold Oper.wp
        rw [show (execOp a_.eval _).run Tryd.prog u1 = .ok (.value (.int .i64 a.c)) u1 from by simp [go_sem, Act.eval, e1, cp]]
        exact ⟨_, rfl, rfl, JO_other hJ rfl⟩
      · intro s a_ u1 hs hd hfr hpo hJ
        have f0 : a_.tmps.getD 8 undef = .int .i64 0 := hfr 8 (by kernel_rfl)
        refine .inl ⟨rfl, ?_⟩
        unfold Oper.wp
        rw [show (execOp a_.eval _).run Tryd.prog u1 = .ok (.value (.int .i64 0)) u1 from by simp [go_sem, Act.eval, f0]]
        exact ⟨_, rfl, rfl, JO_other hJ rfl⟩
      · intro s a_ u1 hs hd hfr hpo hJ
        have f0 : a_.tmps.getD 6 undef = .pointer (some ⟨q, 0, none⟩) := hfr 6 (by kernel_rfl)
        have e1 : a_.tmps.getD 20 undef = .int .i64 0 := hpo 4 20 (by kernel_rfl)
        refine .inl ⟨rfl, ?_⟩
        unfold Oper.wp
        rw [show (execOp a_.eval _).run Tryd.prog u1 = .ok (.value (.pointer (some ⟨q, 0, none⟩))) u1 from by simp [go_sem, Act.eval, f0, e1, Addr.add]]
        exact ⟨_, rfl, rfl, JO_other hJ rfl⟩
      · intro s a_ u1 hs hd hfr hpo hJ
        have e1 : a_.tmps.getD 21 undef = .pointer (some ⟨q, 0, none⟩) := hpo 5 21 (by kernel_rfl)
        have cq : u1.cell? ⟨q, 0, none⟩ = some (.int .i64 b.c) := JO_cell hJ NG.out.2.1 Q1.out 0 rfl
        refine .inl ⟨rfl, ?_⟩
        unfold Oper.wp
        rw [show (execOp a_.eval _).run Tryd.prog u1 = .ok (.value (.int .i64 b.c)) u1 from by simp [go_sem, Act.eval, e1, cq]]
        exact ⟨_, rfl, rfl, JO_other hJ rfl⟩
      · intro s a_ u1 hs hd hfr hpo hJ
        have e1 : a_.tmps.getD 19 undef = .int .i64 a.c := hpo 3 19 (by kernel_rfl)
        have e2 : a_.tmps.getD 22 undef = .int .i64 b.c := hpo 6 22 (by kernel_rfl)
        refine .inl ⟨rfl, ?_⟩
        unfold Oper.wp
        rw [show (execOp a_.eval _).run Tryd.prog u1 = .ok (.enter 36 #[.int .i64 a.c, .int .i64 b.c]) u1 from by simp [go_sem, Act.eval, e1, e2]]
        refine Calls.mono (above_any a.c b.c u1 HA.out.c HB.out.c) ?_
        rintro e u2 ⟨rfl, rfl⟩
        exact ⟨_, rfl, rfl, JO_other hJ rfl⟩
      · intro s a_ u1 hs hd hfr hpo hJ
        have f0 : a_.tmps.getD 7 undef = .pointer (some ⟨gb, 0, none⟩) := hfr 7 (by kernel_rfl)
        have e1 : a_.tmps.getD 16 undef = .int .i64 0 := hpo 0 16 (by kernel_rfl)
        refine .inl ⟨rfl, ?_⟩
        unfold Oper.wp
        rw [show (execOp a_.eval _).run Tryd.prog u1 = .ok (.value (.pointer (some ⟨gb, 0, none⟩))) u1 from by simp [go_sem, Act.eval, f0, e1, Addr.add]]
        exact ⟨_, rfl, rfl, JO_other hJ rfl⟩
      · intro s a_ u1 hs hd hfr hpo hJ
        have e0 : a_.tmps.getD 23 undef = .int .i64 (overI a.c b.c) := hpo 7 23 (by kernel_rfl)
        have e1 : a_.tmps.getD 24 undef = .pointer (some ⟨gb, 0, none⟩) := hpo 8 24 (by kernel_rfl)
        refine .inl ⟨rfl, ?_⟩
        obtain ⟨n, hn⟩ := hJ
        rw [hs] at hn
        obtain rfl : u1 = v1.drewN n := hn
        have cg := cell_of (show (v1.drewN n).heap[gb]? = some (.cells #[.int .i64 0, .int .i64 0, .int .i64 0] 56 (0, 0)) from G1.out) 0 rfl
        have fg := free_of (show (v1.drewN n).heap[gb]? = some (.cells #[.int .i64 0, .int .i64 0, .int .i64 0] 56 (0, 0)) from G1.out) 0
        unfold Oper.wp
        rw [show (execOp a_.eval _).run Tryd.prog (v1.drewN n) = .ok .skip ((v1.drewN n).setCell ⟨gb, 0, none⟩ (.int .i64 (overI a.c b.c))) from by simp [go_sem, Act.eval, e0, e1, cg, fg]]
        exact ⟨undef, rfl, trivial, n, by simp⟩
    · intro s V v2 hall hF hJ
      obtain ⟨n, hn⟩ := hJ
      rw [hall 9 (by decide), if_pos rfl] at hn
      have k2' : ∀ b, b ≠ gb → v2.heap[b]? = v1.heap[b]? := fun b hb => by rw [hn]; exact Below.heap_setCell (v1.drewN n) _ _ b hb
      have G2 := Lib.hid (show v2.heap[gb]? = some (.cells #[.int .i64 (overI a.c b.c), .int .i64 0, .int .i64 0] 56 (0, 0)) by rw [hn]; have := heap_setCell_same (v1.drewN n) gb 0 _ _ (.int .i64 (overI a.c b.c)) (show (v1.drewN n).heap[gb]? = some (.cells #[.int .i64 0, .int .i64 0, .int .i64 0] 56 (0, 0)) from G1.out); simpa using this)
      have P2 := Lib.hid ((k2' _ NG.out.1).trans P1.out)
      have Q2 := Lib.hid ((k2' _ NG.out.2.1).trans Q1.out)
      have Z2 := Lib.hid ((k2' _ NG.out.2.2.1).trans Z1.out)
      have BV2 := Lib.hid (show Below w.heap.size w v2 by rw [hn]; exact (BV.out.trans ((Kit.below_drewN v1.heap.size v1 n).mono BV.out.size)).setCell (p := ⟨gb, 0, none⟩) NG.out.2.2.2 _)
      clear hall hF hn k2' G1 P1 Q1 Z1 BV
      simp only [Bxs.puts, Nat.reduceAdd, put_none, put_lit, List.set_cons_succ, List.set_cons_zero]
      go_wp2_with fail
      obtain ⟨v1, hv1⟩ : ∃ v, v = v2 := ⟨_, rfl⟩
      subst hv1
      have G1 := G2
      have P1 := P2
      have Q1 := Q2
      have Z1 := Z2
      have BV := BV2
      clear G2 P2 Q2 Z2 BV2
      rw [rounds_succ]
      go_wp2_with fail
      refine Slt.wp_region (by kernel_rfl) (FO p q gb 1 a.m b.m) (JO v1 gb 1 (overI a.m b.m)) (by kernel_rfl) ⟨1, rfl⟩ ?_ ?_
      · refine ⟨?_, ?_, ?_, ?_, ?_, ?_, ?_, ?_, ?_, ?_, trivial⟩
        · intro s a_ u1 hs hd hfr hpo hJ
          have f0 : a_.tmps.getD 8 undef = .int .i64 1 := hfr 8 (by kernel_rfl)
          refine .inl ⟨rfl, ?_⟩
          unfold Oper.wp
          rw [show (execOp a_.eval _).run Tryd.prog u1 = .ok (.value (.int .i64 1)) u1 from by simp [go_sem, Act.eval, f0]]
          exact ⟨_, rfl, rfl, JO_other hJ rfl⟩
        · intro s a_ u1 hs hd hfr hpo hJ
          have f0 : a_.tmps.getD 8 undef = .int .i64 1 := hfr 8 (by kernel_rfl)
          refine .inl ⟨rfl, ?_⟩
          unfold Oper.wp
          rw [show (execOp a_.eval _).run Tryd.prog u1 = .ok (.value (.int .i64 1)) u1 from by simp [go_sem, Act.eval, f0]]
          exact ⟨_, rfl, rfl, JO_other hJ rfl⟩
        · intro s a_ u1 hs hd hfr hpo hJ
          have f0 : a_.tmps.getD 5 undef = .pointer (some ⟨p, 0, none⟩) := hfr 5 (by kernel_rfl)
          have e1 : a_.tmps.getD 17 undef = .int .i64 1 := hpo 1 17 (by kernel_rfl)
          refine .inl ⟨rfl, ?_⟩
          unfold Oper.wp
          rw [show (execOp a_.eval _).run Tryd.prog u1 = .ok (.value (.pointer (some ⟨p, 1, none⟩))) u1 from by simp [go_sem, Act.eval, f0, e1, Addr.add]]
          exact ⟨_, rfl, rfl, JO_other hJ rfl⟩
        · intro s a_ u1 hs hd hfr hpo hJ
          have e1 : a_.tmps.getD 18 undef = .pointer (some ⟨p, 1, none⟩) := hpo 2 18 (by kernel_rfl)
          have cp : u1.cell? ⟨p, 1, none⟩ = some (.int .i64 a.m) := JO_cell hJ NG.out.1 P1.out 1 rfl
          refine .inl ⟨rfl, ?_⟩
          unfold Oper.wp
          rw [show (execOp a_.eval _).run Tryd.prog u1 = .ok (.value (.int .i64 a.m)) u1 from by simp [go_sem, Act.eval, e1, cp]]
          exact ⟨_, rfl, rfl, JO_other hJ rfl⟩
        · intro s a_ u1 hs hd hfr hpo hJ
          have f0 : a_.tmps.getD 8 undef = .int .i64 1 := hfr 8 (by kernel_rfl)
          refine .inl ⟨rfl, ?_⟩
          unfold Oper.wp
          rw [show (execOp a_.eval _).run Tryd.prog u1 = .ok (.value (.int .i64 1)) u1 from by simp [go_sem, Act.eval, f0]]
          exact ⟨_, rfl, rfl, JO_other hJ rfl⟩
        · intro s a_ u1 hs hd hfr hpo hJ
          have f0 : a_.tmps.getD 6 undef = .pointer (some ⟨q, 0, none⟩) := hfr 6 (by kernel_rfl)
          have e1 : a_.tmps.getD 20 undef = .int .i64 1 := hpo 4 20 (by kernel_rfl)
          refine .inl ⟨rfl, ?_⟩
          unfold Oper.wp
          rw [show (execOp a_.eval _).run Tryd.prog u1 = .ok (.value (.pointer (some ⟨q, 1, none⟩))) u1 from by simp [go_sem, Act.eval, f0, e1, Addr.add]]
          exact ⟨_, rfl, rfl, JO_other hJ rfl⟩
        · intro s a_ u1 hs hd hfr hpo hJ
          have e1 : a_.tmps.getD 21 undef = .pointer (some ⟨q, 1, none⟩) := hpo 5 21 (by kernel_rfl)
          have cq : u1.cell? ⟨q, 1, none⟩ = some (.int .i64 b.m) := JO_cell hJ NG.out.2.1 Q1.out 1 rfl
          refine .inl ⟨rfl, ?_⟩
          unfold Oper.wp
          rw [show (execOp a_.eval _).run Tryd.prog u1 = .ok (.value (.int .i64 b.m)) u1 from by simp [go_sem, Act.eval, e1, cq]]
          exact ⟨_, rfl, rfl, JO_other hJ rfl⟩
        · intro s a_ u1 hs hd hfr hpo hJ
          have e1 : a_.tmps.getD 19 undef = .int .i64 a.m := hpo 3 19 (by kernel_rfl)
          have e2 : a_.tmps.getD 22 undef = .int .i64 b.m := hpo 6 22 (by kernel_rfl)
          refine .inl ⟨rfl, ?_⟩
          unfold Oper.wp
          rw [show (execOp a_.eval _).run Tryd.prog u1 = .ok (.enter 36 #[.int .i64 a.m, .int .i64 b.m]) u1 from by simp [go_sem, Act.eval, e1, e2]]
          refine Calls.mono (above_any a.m b.m u1 HA.out.m HB.out.m) ?_
          rintro e u2 ⟨rfl, rfl⟩
          exact ⟨_, rfl, rfl, JO_other hJ rfl⟩
        · intro s a_ u1 hs hd hfr hpo hJ
          have f0 : a_.tmps.getD 7 undef = .pointer (some ⟨gb, 0, none⟩) := hfr 7 (by kernel_rfl)
          have e1 : a_.tmps.getD 16 undef = .int .i64 1 := hpo 0 16 (by kernel_rfl)
          refine .inl ⟨rfl, ?_⟩
          unfold Oper.wp
          rw [show (execOp a_.eval _).run Tryd.prog u1 = .ok (.value (.pointer (some ⟨gb, 1, none⟩))) u1 from by simp [go_sem, Act.eval, f0, e1, Addr.add]]
          exact ⟨_, rfl, rfl, JO_other hJ rfl⟩
        · intro s a_ u1 hs hd hfr hpo hJ
          have e0 : a_.tmps.getD 23 undef = .int .i64 (overI a.m b.m) := hpo 7 23 (by kernel_rfl)
          have e1 : a_.tmps.getD 24 undef = .pointer (some ⟨gb, 1, none⟩) := hpo 8 24 (by kernel_rfl)
          refine .inl ⟨rfl, ?_⟩
          obtain ⟨n, hn⟩ := hJ
          rw [hs] at hn
          obtain rfl : u1 = v1.drewN n := hn
          have cg := cell_of (show (v1.drewN n).heap[gb]? = some (.cells #[.int .i64 (overI a.c b.c), .int .i64 0, .int .i64 0] 56 (0, 0)) from G1.out) 1 rfl
          have fg := free_of (show (v1.drewN n).heap[gb]? = some (.cells #[.int .i64 (overI a.c b.c), .int .i64 0, .int .i64 0] 56 (0, 0)) from G1.out) 1
          unfold Oper.wp
          rw [show (execOp a_.eval _).run Tryd.prog (v1.drewN n) = .ok .skip ((v1.drewN n).setCell ⟨gb, 1, none⟩ (.int .i64 (overI a.m b.m))) from by simp [go_sem, Act.eval, e0, e1, cg, fg]]
          exact ⟨undef, rfl, trivial, n, by simp⟩
      · intro s V v2 hall hF hJ
        obtain ⟨n, hn⟩ := hJ
        rw [hall 9 (by decide), if_pos rfl] at hn
        have k2' : ∀ b, b ≠ gb → v2.heap[b]? = v1.heap[b]? := fun b hb => by rw [hn]; exact Below.heap_setCell (v1.drewN n) _ _ b hb
        have G2 := Lib.hid (show v2.heap[gb]? = some (.cells #[.int .i64 (overI a.c b.c), .int .i64 (overI a.m b.m), .int .i64 0] 56 (0, 0)) by rw [hn]; have := heap_setCell_same (v1.drewN n) gb 1 _ _ (.int .i64 (overI a.m b.m)) (show (v1.drewN n).heap[gb]? = some (.cells #[.int .i64 (overI a.c b.c), .int .i64 0, .int .i64 0] 56 (0, 0)) from G1.out); simpa using this)
        have P2 := Lib.hid ((k2' _ NG.out.1).trans P1.out)
        have Q2 := Lib.hid ((k2' _ NG.out.2.1).trans Q1.out)
        have Z2 := Lib.hid ((k2' _ NG.out.2.2.1).trans Z1.out)
        have BV2 := Lib.hid (show Below w.heap.size w v2 by rw [hn]; exact (BV.out.trans ((Kit.below_drewN v1.heap.size v1 n).mono BV.out.size)).setCell (p := ⟨gb, 1, none⟩) NG.out.2.2.2 _)
        clear hall hF hn k2' G1 P1 Q1 Z1 BV
        simp only [Bxs.puts, Nat.reduceAdd, put_none, put_lit, List.set_cons_succ, List.set_cons_zero]
        go_wp2_with fail
        obtain ⟨v1, hv1⟩ : ∃ v, v = v2 := ⟨_, rfl⟩
        subst hv1
        have G1 := G2
        have P1 := P2
        have Q1 := Q2
        have Z1 := Z2
        have BV := BV2
        clear G2 P2 Q2 Z2 BV2
        rw [rounds_succ]
        go_wp2_with fail
        refine Slt.wp_region (by kernel_rfl) (FO p q gb 2 a.p b.p) (JO v1 gb 2 (overI a.p b.p)) (by kernel_rfl) ⟨1, rfl⟩ ?_ ?_
        · refine ⟨?_, ?_, ?_, ?_, ?_, ?_, ?_, ?_, ?_, ?_, trivial⟩
          · intro s a_ u1 hs hd hfr hpo hJ
            have f0 : a_.tmps.getD 8 undef = .int .i64 2 := hfr 8 (by kernel_rfl)
            refine .inl ⟨rfl, ?_⟩
            unfold Oper.wp
            rw [show (execOp a_.eval _).run Tryd.prog u1 = .ok (.value (.int .i64 2)) u1 from by simp [go_sem, Act.eval, f0]]
            exact ⟨_, rfl, rfl, JO_other hJ rfl⟩
          · intro s a_ u1 hs hd hfr hpo hJ
            have f0 : a_.tmps.getD 8 undef = .int .i64 2 := hfr 8 (by kernel_rfl)
            refine .inl ⟨rfl, ?_⟩
            unfold Oper.wp
            rw [show (execOp a_.eval _).run Tryd.prog u1 = .ok (.value (.int .i64 2)) u1 from by simp [go_sem, Act.eval, f0]]
            exact ⟨_, rfl, rfl, JO_other hJ rfl⟩
          · intro s a_ u1 hs hd hfr hpo hJ
            have f0 : a_.tmps.getD 5 undef = .pointer (some ⟨p, 0, none⟩) := hfr 5 (by kernel_rfl)
            have e1 : a_.tmps.getD 17 undef = .int .i64 2 := hpo 1 17 (by kernel_rfl)
            refine .inl ⟨rfl, ?_⟩
            unfold Oper.wp
            rw [show (execOp a_.eval _).run Tryd.prog u1 = .ok (.value (.pointer (some ⟨p, 2, none⟩))) u1 from by simp [go_sem, Act.eval, f0, e1, Addr.add]]
            exact ⟨_, rfl, rfl, JO_other hJ rfl⟩
          · intro s a_ u1 hs hd hfr hpo hJ
            have e1 : a_.tmps.getD 18 undef = .pointer (some ⟨p, 2, none⟩) := hpo 2 18 (by kernel_rfl)
            have cp : u1.cell? ⟨p, 2, none⟩ = some (.int .i64 a.p) := JO_cell hJ NG.out.1 P1.out 2 rfl
            refine .inl ⟨rfl, ?_⟩
            unfold Oper.wp
            rw [show (execOp a_.eval _).run Tryd.prog u1 = .ok (.value (.int .i64 a.p)) u1 from by simp [go_sem, Act.eval, e1, cp]]
            exact ⟨_, rfl, rfl, JO_other hJ rfl⟩
          · intro s a_ u1 hs hd hfr hpo hJ
            have f0 : a_.tmps.getD 8 undef = .int .i64 2 := hfr 8 (by kernel_rfl)
            refine .inl ⟨rfl, ?_⟩
            unfold Oper.wp
            rw [show (execOp a_.eval _).run Tryd.prog u1 = .ok (.value (.int .i64 2)) u1 from by simp [go_sem, Act.eval, f0]]
            exact ⟨_, rfl, rfl, JO_other hJ rfl⟩
          · intro s a_ u1 hs hd hfr hpo hJ
            have f0 : a_.tmps.getD 6 undef = .pointer (some ⟨q, 0, none⟩) := hfr 6 (by kernel_rfl)
            have e1 : a_.tmps.getD 20 undef = .int .i64 2 := hpo 4 20 (by kernel_rfl)
            refine .inl ⟨rfl, ?_⟩
            unfold Oper.wp
            rw [show (execOp a_.eval _).run Tryd.prog u1 = .ok (.value (.pointer (some ⟨q, 2, none⟩))) u1 from by simp [go_sem, Act.eval, f0, e1, Addr.add]]
            exact ⟨_, rfl, rfl, JO_other hJ rfl⟩
          · intro s a_ u1 hs hd hfr hpo hJ
            have e1 : a_.tmps.getD 21 undef = .pointer (some ⟨q, 2, none⟩) := hpo 5 21 (by kernel_rfl)
            have cq : u1.cell? ⟨q, 2, none⟩ = some (.int .i64 b.p) := JO_cell hJ NG.out.2.1 Q1.out 2 rfl
            refine .inl ⟨rfl, ?_⟩
            unfold Oper.wp
            rw [show (execOp a_.eval _).run Tryd.prog u1 = .ok (.value (.int .i64 b.p)) u1 from by simp [go_sem, Act.eval, e1, cq]]
            exact ⟨_, rfl, rfl, JO_other hJ rfl⟩
          · intro s a_ u1 hs hd hfr hpo hJ
            have e1 : a_.tmps.getD 19 undef = .int .i64 a.p := hpo 3 19 (by kernel_rfl)
            have e2 : a_.tmps.getD 22 undef = .int .i64 b.p := hpo 6 22 (by kernel_rfl)
            refine .inl ⟨rfl, ?_⟩
            unfold Oper.wp
            rw [show (execOp a_.eval _).run Tryd.prog u1 = .ok (.enter 36 #[.int .i64 a.p, .int .i64 b.p]) u1 from by simp [go_sem, Act.eval, e1, e2]]
            refine Calls.mono (above_any a.p b.p u1 HA.out.p HB.out.p) ?_
            rintro e u2 ⟨rfl, rfl⟩
            exact ⟨_, rfl, rfl, JO_other hJ rfl⟩
          · intro s a_ u1 hs hd hfr hpo hJ
            have f0 : a_.tmps.getD 7 undef = .pointer (some ⟨gb, 0, none⟩) := hfr 7 (by kernel_rfl)
            have e1 : a_.tmps.getD 16 undef = .int .i64 2 := hpo 0 16 (by kernel_rfl)
            refine .inl ⟨rfl, ?_⟩
            unfold Oper.wp
            rw [show (execOp a_.eval _).run Tryd.prog u1 = .ok (.value (.pointer (some ⟨gb, 2, none⟩))) u1 from by simp [go_sem, Act.eval, f0, e1, Addr.add]]
            exact ⟨_, rfl, rfl, JO_other hJ rfl⟩
          · intro s a_ u1 hs hd hfr hpo hJ
            have e0 : a_.tmps.getD 23 undef = .int .i64 (overI a.p b.p) := hpo 7 23 (by kernel_rfl)
            have e1 : a_.tmps.getD 24 undef = .pointer (some ⟨gb, 2, none⟩) := hpo 8 24 (by kernel_rfl)
            refine .inl ⟨rfl, ?_⟩
            obtain ⟨n, hn⟩ := hJ
            rw [hs] at hn
            obtain rfl : u1 = v1.drewN n := hn
            have cg := cell_of (show (v1.drewN n).heap[gb]? = some (.cells #[.int .i64 (overI a.c b.c), .int .i64 (overI a.m b.m), .int .i64 0] 56 (0, 0)) from G1.out) 2 rfl
            have fg := free_of (show (v1.drewN n).heap[gb]? = some (.cells #[.int .i64 (overI a.c b.c), .int .i64 (overI a.m b.m), .int .i64 0] 56 (0, 0)) from G1.out) 2
            unfold Oper.wp
            rw [show (execOp a_.eval _).run Tryd.prog (v1.drewN n) = .ok .skip ((v1.drewN n).setCell ⟨gb, 2, none⟩ (.int .i64 (overI a.p b.p))) from by simp [go_sem, Act.eval, e0, e1, cg, fg]]
            exact ⟨undef, rfl, trivial, n, by simp⟩
        · intro s V v2 hall hF hJ
          obtain ⟨n, hn⟩ := hJ
          rw [hall 9 (by decide), if_pos rfl] at hn
          have k2' : ∀ b, b ≠ gb → v2.heap[b]? = v1.heap[b]? := fun b hb => by rw [hn]; exact Below.heap_setCell (v1.drewN n) _ _ b hb
          have G2 := Lib.hid (show v2.heap[gb]? = some (.cells #[.int .i64 (overI a.c b.c), .int .i64 (overI a.m b.m), .int .i64 (overI a.p b.p)] 56 (0, 0)) by rw [hn]; have := heap_setCell_same (v1.drewN n) gb 2 _ _ (.int .i64 (overI a.p b.p)) (show (v1.drewN n).heap[gb]? = some (.cells #[.int .i64 (overI a.c b.c), .int .i64 (overI a.m b.m), .int .i64 0] 56 (0, 0)) from G1.out); simpa using this)
          have P2 := Lib.hid ((k2' _ NG.out.1).trans P1.out)
          have Q2 := Lib.hid ((k2' _ NG.out.2.1).trans Q1.out)
          have Z2 := Lib.hid ((k2' _ NG.out.2.2.1).trans Z1.out)
          have BV2 := Lib.hid (show Below w.heap.size w v2 by rw [hn]; exact (BV.out.trans ((Kit.below_drewN v1.heap.size v1 n).mono BV.out.size)).setCell (p := ⟨gb, 2, none⟩) NG.out.2.2.2 _)
          clear hall hF hn k2' G1 P1 Q1 Z1 BV
          simp only [Bxs.puts, Nat.reduceAdd, put_none, put_lit, List.set_cons_succ, List.set_cons_zero]
          go_wp2_with fail
          obtain ⟨v1, hv1⟩ : ∃ v, v = v2 := ⟨_, rfl⟩
          subst hv1
          have G1 := G2
          have P1 := P2
          have Q1 := Q2
          have Z1 := Z2
          have BV := BV2
          clear G2 P2 Q2 Z2 BV2
          rw [rounds_succ]
          have RG := Lib.hid (range_box (cs := R3 (overR a b)) G1.out)
          go_wp2_with (first | (refine wpList_load_mid rfl 56 _ rfl _ _ rfl _ _ RG.out Tryd.underlying56 rfl (by kernel_rfl) ?_))
          refine (joined_any _ _ _ v1).mono ?_
          rintro e v3 ⟨rfl, hb3⟩
          have ZB := Lib.hid ((hb3.block _ (lt_of_at Z1.out)).trans Z1.out)
          have BW := Lib.hid (BV.out.trans (hb3.mono BV.out.size))
          clear hb3
          obtain ⟨vz, hvz⟩ : ∃ v, v3.setCells (w.heap.size + 1 + 1) 0 (R3 (overR a b)) = v := ⟨_, rfl⟩
          have THz := Lib.hid (show v3.there (w.heap.size + 1 + 1) 0 3 from Back.th ZB.out rfl)
          have ONEz := Lib.hid (show ((R3 (overR a b)) : List Value).toArray.all (·.oneCell') = true by simp [Value.oneCell'])
          have HVz := Lib.hid hvz
          have ZV := Lib.hid (show vz.heap[w.heap.size + 1 + 1]? = some (.cells (R3 (overR a b)).toArray 23 (0, 0)) by rw [← hvz]; exact Back.st ZB.out rfl)
          have BZ := Lib.hid (show Below w.heap.size w vz by rw [← hvz]; exact bel_set (BW.out) (by omega))
          clear hvz
          go_wp2_with (first | (refine wpList_store_at rfl 23 _ _ rfl _ _ _ rfl rfl THz.out (by kernel_rfl) ONEz.out HVz.out ?_))
          refine bodyPost_ret (v := .agg (R3 (overR a b)).toArray) (res_over _ _ _ (R3 (overR a b)) rfl ZV.out rfl) rfl ?_
          exact ⟨rfl, BZ.out⟩
end Re
end Go.Proofs.YtpllcnpmjnmcfaaDoor
