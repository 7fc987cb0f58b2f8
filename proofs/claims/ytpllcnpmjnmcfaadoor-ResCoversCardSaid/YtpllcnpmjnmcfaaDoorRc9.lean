/-
  Package res: each of three numbers reckoned, Add, Sub, Max, Fits, Over. What was there is left as it was. Condition: the numbers are 64-bit integers.
-/
import Derived.Test.YtpllcnpmjnmcfaaDoorRc8
import Derived.Deep.QuietTactic
import Derived.BigQuiet
set_option linter.unusedVariables false
set_option linter.unusedSimpArgs false
namespace Go.Proofs.YtpllcnpmjnmcfaaDoor
open Go.ChangeShapes Go.WideShapes Go.ChangeAt Go.RowKit Go.Lib
open NumMath
namespace Re
/-- three numbers' cells -/
abbrev R3 (a : Rx) : List Value := [.int .i64 a.c, .int .i64 a.m, .int .i64 a.p]
def F2 (a b : Rx) : Nat → Value → Prop
  | 0, v => v = .agg (R3 a).toArray
  | 1, v => v = .agg (R3 b).toArray
  | 2, v => v = .agg (R3 (maxR a b)).toArray
  | 3, v => v = .agg (R3 b).toArray
  | _, v => v = .bool (fitsR a b)
theorem put_lit (l : List Value) (ds : List Deferred) (d : Tmp) (v : Value) : (⟨l.toArray, ds⟩ : Act).put (some d) v = ⟨(l.set d v).toArray, ds⟩ := by simp [Act.put]
theorem cell_of {w : World} {g : Nat} {A : Array Value} {t : TypeId} (h : w.heap[g]? = some (.cells A t (0, 0))) (k : Nat) {v : Value} (hv : A[k]? = some v) : w.cell? ⟨g, k, none⟩ = some v := by
  simp [World.cell?, h, hv]
theorem free_of {w : World} {g : Nat} {A : Array Value} {t : TypeId} (h : w.heap[g]? = some (.cells A t (0, 0))) (k : Nat) : w.frozen? ⟨g, k, none⟩ = false := by
  simp [World.frozen?, h]
theorem range_box {w : World} {b : Nat} {cs : List Value} {t : TypeId} (h : w.heap[b]? = some (.cells cs.toArray t (0, 0))) : w.rangeAt b 0 cs := fun j v hv => by
  rw [Nat.zero_add]
  exact cell_of h j (by simpa using hv)
set_option maxRecDepth 100000 in
set_option maxHeartbeats 2000000 in
theorem fits_any (a b : Rx) (w : World) : Calls Tryd.prog 13 #[.agg #[.int .i64 a.c, .int .i64 a.m, .int .i64 a.p], .agg #[.int .i64 b.c, .int .i64 b.m, .int .i64 b.p]] w fun e w' => e = .returned (.bool (fitsR a b)) ∧ Below w.heap.size w w' := by
  obtain ⟨w0, hw0⟩ : ∃ v, (w.alloc (.cells #[.int .i64 a.c, .int .i64 a.m, .int .i64 a.p] 23)).alloc (.cells #[.int .i64 b.c, .int .i64 b.m, .int .i64 b.p] 23) = v := ⟨_, rfl⟩
  have X := Lib.hid (show w0.heap[w.heap.size]? = some (.cells #[.int .i64 a.c, .int .i64 a.m, .int .i64 a.p] 23 (0, 0)) by rw [← hw0, Below.heap_alloc _ _ _ (by simp)]; exact heap_alloc_new w _)
  have Y := Lib.hid (show w0.heap[w.heap.size + 1]? = some (.cells #[.int .i64 b.c, .int .i64 b.m, .int .i64 b.p] 23 (0, 0)) by rw [← hw0]; have := heap_alloc_new (w.alloc (.cells #[.int .i64 a.c, .int .i64 a.m, .int .i64 a.p] 23)) (.cells #[.int .i64 b.c, .int .i64 b.m, .int .i64 b.p] 23); simpa using this)
  have B0 := Lib.hid (show Below w.heap.size w w0 by rw [← hw0]; go_grown)
  go_enter Tryd.func13, Tryd.ntmps13
  go_wp2_with fail
  clear hw0
  refine Vls.wp_region (by kernel_rfl) (J2 w0 (R3 a) (R3 b)) (by kernel_rfl) (fun _ => undef) (J2.start _ _ _ _) ?_ ?_
  · refine ⟨?_, ?_, ?_, ?_, ?_, ?_, ?_, ?_, trivial⟩
    · intro s a_ u V hs hd hfr hpo hJ
      have f0 : a_.tmps.getD 2 undef = .pointer (some ⟨w.heap.size, 0, none⟩) := hfr 2 (by kernel_rfl)
      refine .inl ⟨rfl, ?_⟩
      exact wp_load_mid 23 (.tmp 2) rfl (w.heap.size) 0 f0 (R3 a) _ (range_box ((hJ.bel.block _ (lt_of_at X.out)).trans X.out)) Tryd.underlying23 rfl (by kernel_rfl) ⟨_, rfl, hJ.step 0 (by decide) (Below.refl _ _) rfl⟩
    · intro s a_ u V hs hd hfr hpo hJ
      have e0 : a_.tmps.getD 7 undef = .agg (R3 a).toArray := (hpo 0 7 (by kernel_rfl)).trans (hJ.get 0 (by decide) (hd 0 (by kernel_rfl)) rfl)
      refine .inl ⟨rfl, ?_⟩
      unfold Oper.wp
      rw [show (execOp a_.eval _).run Tryd.prog u = .ok (.enter 34 #[.agg (R3 a).toArray]) u from by simp [go_sem, Act.eval, e0]]
      refine Calls.mono (apart_any a.c a.m a.p u) ?_
      rintro e u2 ⟨rfl, hb⟩
      exact ⟨_, rfl, hJ.step 1 (by decide) hb rfl⟩
    · intro s a_ u V hs hd hfr hpo hJ
      have f0 : a_.tmps.getD 3 undef = .pointer (some ⟨w.heap.size + 1, 0, none⟩) := hfr 3 (by kernel_rfl)
      refine .inl ⟨rfl, ?_⟩
      exact wp_load_mid 23 (.tmp 3) rfl (w.heap.size + 1) 0 f0 (R3 b) _ (range_box ((hJ.bel.block _ (lt_of_at Y.out)).trans Y.out)) Tryd.underlying23 rfl (by kernel_rfl) ⟨_, rfl, hJ.step 2 (by decide) (Below.refl _ _) rfl⟩
    · intro s a_ u V hs hd hfr hpo hJ
      have e0 : a_.tmps.getD 9 undef = .agg (R3 b).toArray := (hpo 2 9 (by kernel_rfl)).trans (hJ.get 2 (by decide) (hd 2 (by kernel_rfl)) rfl)
      refine .inl ⟨rfl, ?_⟩
      unfold Oper.wp
      rw [show (execOp a_.eval _).run Tryd.prog u = .ok (.enter 34 #[.agg (R3 b).toArray]) u from by simp [go_sem, Act.eval, e0]]
      refine Calls.mono (apart_any b.c b.m b.p u) ?_
      rintro e u2 ⟨rfl, hb⟩
      exact ⟨_, rfl, hJ.step 3 (by decide) hb rfl⟩
    · intro s a_ u V hs hd hfr hpo hJ
      refine .inl ⟨rfl, ?_⟩
      unfold Oper.wp
      rw [show (execOp a_.eval _).run Tryd.prog u = .ok (.value (.pointer (some ⟨u.heap.size, 0, none⟩))) (u.alloc (.cells #[.int .i64 0, .int .i64 0, .int .i64 0] 56 (0, 0))) from by simp [go_sem, Act.eval]]
      exact ⟨_, rfl, hJ.al4 hs _ rfl⟩
    · intro s a_ u V hs hd hfr hpo hJ
      refine .inl ⟨rfl, ?_⟩
      unfold Oper.wp
      rw [show (execOp a_.eval _).run Tryd.prog u = .ok (.value (.pointer (some ⟨u.heap.size, 0, none⟩))) (u.alloc (.cells #[.int .i64 0, .int .i64 0, .int .i64 0] 56 (0, 0))) from by simp [go_sem, Act.eval]]
      exact ⟨_, rfl, hJ.al5 hs _ rfl⟩
    · intro s a_ u V hs hd hfr hpo hJ
      have h4 : s 4 = true := hd 4 (by kernel_rfl)
      obtain ⟨q, X, hq, hqv, hX, hXs, _⟩ := hJ.b4 h4
      have e1 : a_.tmps.getD 5 undef = .pointer (some ⟨q, 0, none⟩) := (hpo 4 5 (by kernel_rfl)).trans hq
      have e2 : a_.tmps.getD 8 undef = .agg (R3 a).toArray := (hpo 1 8 (by kernel_rfl)).trans (hJ.get 1 (by decide) (hd 1 (by kernel_rfl)) rfl)
      refine .inl ⟨rfl, ?_⟩
      exact wp_store_mid 56 (.tmp 5) (.tmp 8) rfl q 0 (R3 a).toArray e1 e2 (Back.th hX hXs) (by kernel_rfl) (by simp [Value.oneCell']) ⟨undef, rfl, hJ.st6 rfl h4 hq _⟩
    · intro s a_ u V hs hd hfr hpo hJ
      have h4 : s 5 = true := hd 5 (by kernel_rfl)
      obtain ⟨q, X, hq, hqv, hX, hXs, _⟩ := hJ.b5 h4
      have e1 : a_.tmps.getD 6 undef = .pointer (some ⟨q, 0, none⟩) := (hpo 5 6 (by kernel_rfl)).trans hq
      have e2 : a_.tmps.getD 10 undef = .agg (R3 b).toArray := (hpo 3 10 (by kernel_rfl)).trans (hJ.get 3 (by decide) (hd 3 (by kernel_rfl)) rfl)
      refine .inl ⟨rfl, ?_⟩
      exact wp_store_mid 56 (.tmp 6) (.tmp 10) rfl q 0 (R3 b).toArray e1 e2 (Back.th hX hXs) (by kernel_rfl) (by simp [Value.oneCell']) ⟨undef, rfl, hJ.st7 rfl h4 hq _⟩
  · intro s V u hall hJ
    obtain ⟨p, q, e4, e5, hpq, hp, hq, hX, hY, hbu⟩ := hJ.fin hall
    have P := Lib.hid hX
    have Q := Lib.hid hY
    have BU := Lib.hid hbu
    have PQ := Lib.hid hpq
    have PG := Lib.hid hp
    have QG := Lib.hid hq
    clear hall hJ hX hY hbu hpq hp hq
    simp only [Bxs.puts, Nat.reduceAdd, put_none, put_lit, List.set_cons_succ, List.set_cons_zero]
    rw [e4, e5]
    clear e4 e5
    go_wp2_with fail
    refine Slt.wp_region (by kernel_rfl) (F2 a b) (fun _ v => Below u.heap.size u v) (by kernel_rfl) (Below.drew (Below.refl _ _)) ?_ ?_
    · refine ⟨?_, ?_, ?_, ?_, ?_, ?_, trivial⟩
      · intro s a_ u1 hs hd hfr hpo hJ
        have f0 : a_.tmps.getD 5 undef = .pointer (some ⟨p, 0, none⟩) := hfr 5 (by kernel_rfl)
        refine .inl ⟨rfl, ?_⟩
        exact wp_load_mid 56 (.tmp 5) rfl p 0 f0 (R3 a) _ (range_box ((hJ.block _ (lt_of_at P.out)).trans P.out)) Tryd.underlying56 rfl (by kernel_rfl) ⟨_, rfl, rfl, hJ⟩
      · intro s a_ u1 hs hd hfr hpo hJ
        have f0 : a_.tmps.getD 6 undef = .pointer (some ⟨q, 0, none⟩) := hfr 6 (by kernel_rfl)
        refine .inl ⟨rfl, ?_⟩
        exact wp_load_mid 56 (.tmp 6) rfl q 0 f0 (R3 b) _ (range_box ((hJ.block _ (lt_of_at Q.out)).trans Q.out)) Tryd.underlying56 rfl (by kernel_rfl) ⟨_, rfl, rfl, hJ⟩
      · intro s a_ u1 hs hd hfr hpo hJ
        have e0 : a_.tmps.getD 11 undef = .agg (R3 a).toArray := hpo 0 11 (by kernel_rfl)
        have e1 : a_.tmps.getD 12 undef = .agg (R3 b).toArray := hpo 1 12 (by kernel_rfl)
        refine .inl ⟨rfl, ?_⟩
        unfold Oper.wp
        rw [show (execOp a_.eval _).run Tryd.prog u1 = .ok (.enter 33 #[.agg (R3 a).toArray, .agg (R3 b).toArray]) u1 from by simp [go_sem, Act.eval, e0, e1]]
        refine Calls.mono (greater_any a.c a.m a.p b.c b.m b.p u1) ?_
        rintro e u2 ⟨rfl, hb⟩
        exact ⟨_, rfl, rfl, hJ.trans (hb.mono hJ.size)⟩
      · intro s a_ u1 hs hd hfr hpo hJ
        have f0 : a_.tmps.getD 6 undef = .pointer (some ⟨q, 0, none⟩) := hfr 6 (by kernel_rfl)
        refine .inl ⟨rfl, ?_⟩
        exact wp_load_mid 56 (.tmp 6) rfl q 0 f0 (R3 b) _ (range_box ((hJ.block _ (lt_of_at Q.out)).trans Q.out)) Tryd.underlying56 rfl (by kernel_rfl) ⟨_, rfl, rfl, hJ⟩
      · intro s a_ u1 hs hd hfr hpo hJ
        have e2 : a_.tmps.getD 13 undef = .agg (R3 (maxR a b)).toArray := hpo 2 13 (by kernel_rfl)
        have e3 : a_.tmps.getD 14 undef = .agg (R3 b).toArray := hpo 3 14 (by kernel_rfl)
        have eq := eqIn_num (maxR a b) b u1
        rw [eqR_fits] at eq
        refine .inl ⟨rfl, ?_⟩
        unfold Oper.wp
        rw [show (execOp a_.eval _).run Tryd.prog u1 = .ok (.value (.bool (fitsR a b))) u1 from by simp [go_sem, Act.eval, e2, e3, eq]]
        exact ⟨_, rfl, rfl, hJ⟩
      · intro s a_ u1 hs hd hfr hpo hJ
        have e4 : a_.tmps.getD 15 undef = .bool (fitsR a b) := hpo 4 15 (by kernel_rfl)
        refine .inl ⟨rfl, ?_⟩
        unfold Oper.wp
        rw [show (execOp a_.eval _).run Tryd.prog u1 = .ok (.value (.bool (fitsR a b))) u1 from by simp [go_sem, Act.eval, e4]]
        exact ⟨_, rfl, rfl, hJ⟩
    · intro s V u1 hall hF hJ
      have e5 : V 5 = .bool (fitsR a b) := hF 5 _ _ rfl rfl
      have B1 := Lib.hid (B0.out.trans (BU.out.mono B0.out.size))
      have B2 := Lib.hid (B1.out.trans (hJ.mono B1.out.size))
      clear hall hF hJ
      simp only [Bxs.puts, Nat.reduceAdd, put_none, put_lit, List.set_cons_succ, List.set_cons_zero]
      rw [e5]
      go_wp2_with fail
      go_ret
      exact ⟨rfl, B2.out⟩
end Re
end Go.Proofs.YtpllcnpmjnmcfaaDoor
