/-
  The document's answers for nodes: may a spec be, does a pod fit. All that was there is left as it was. Conditions: the spec is not too long and lies in memory, the pods lie in a row.
-/
import Derived.Test.YtbichomjpmmjmaaGreatDoorNp11
import Derived.Test.YtbichomjpmmjmaaGreatDoorNp12
import Derived.Test.YtbichomjpmmjmaaGreatDoorNp14
import Derived.Test.YtbichomjpmmjmaaGreatDoorNp17
import Derived.Test.YtbichomjpmmjmaaGreatDoorNp13
import Derived.Test.YtbichomjpmmjmaaGreatDoorNp1
import Derived.Test.YtbichomjpmmjmaaGreatDoorNp0
import Derived.Test.YtbichomjpmmjmaaGreatDoorNp15
import Derived.Laws.OwnMore
import Derived.Deep.QuietTactic
import Derived.BigQuiet
set_option linter.unusedVariables false
set_option linter.unusedSimpArgs false
namespace Go.Proofs.YtbichomjpmmjmaaGreatDoor
open Go.ChangeShapes Go.WideShapes Go.ChangeAt Go.RowKit Go.Lib
open NumMath
namespace Nd
open Re Sd
theorem usedF_ok : ∀ (l : Pods) {s : Rx}, s.Ok → (usedF s l).Ok
  | [], _, h => h
  | x :: l, s, h => usedF_ok l (s := (addR s x.ask).1) (add_ok s x.ask)
/-- what a spec comes to -/
def askS (S : Spc) : Ask := ⟨decide ((checkV S).1 = 0), (ofR (S.init.map rq) (S.main.map rq)).1, S.main.flatMap (·.ports)⟩
theorem ask_rx {S : Spc} {w : World} {LA : Option Addr} {lc : Nat} {IA : Option Addr} {ic : Nat} {MA : Option Addr} {mc : Nat} (h : S.In w LA lc IA ic MA mc) : (askS S).ask.Ok := of_ok fun y hy => by
  obtain ⟨x, hx, rfl⟩ := List.mem_map.1 hy
  obtain ⟨k, hk, e⟩ := List.getElem_of_mem hx
  exact rq_ok (h.init k x (by rw [List.getElem?_eq_getElem hk, e])).1
set_option maxRecDepth 100000 in
set_option maxHeartbeats 1000000 in
theorem refright_any (S : Spc) (LA : Option Addr) (lc : Nat) (IA : Option Addr) (ic : Nat) (MA : Option Addr) (mc : Nat) (hL : Book.Light S) (w : World) (h : S.In w LA lc IA ic MA mc) :
    Calls Tryz.prog 58 #[.agg #[.string S.name, .slice LA S.labels.length lc, .slice IA S.init.length ic, .slice MA S.main.length mc, .int .i64 S.restart, .int .i64 S.grace, .int .i64 S.prio]] w fun e w' => e = .returned (.bool (decide ((checkV S).1 = 0))) ∧ Below w.heap.size w w' := by
  have H := Lib.hid h
  have HL := Lib.hid hL
  clear h hL
  obtain ⟨w0, hw0⟩ : ∃ v, w.alloc (.cells #[.string S.name, .slice LA S.labels.length lc, .slice IA S.init.length ic, .slice MA S.main.length mc, .int .i64 S.restart, .int .i64 S.grace, .int .i64 S.prio] 35) = v := ⟨_, rfl⟩
  have B0 := Lib.hid (show Below w.heap.size w w0 by rw [← hw0]; exact (Below.refl _ _).alloc (Nat.le_refl _) _)
  have RS := Lib.hid (show w0.rangeAt w.heap.size 0 [.string S.name, .slice LA S.labels.length lc, .slice IA S.init.length ic, .slice MA S.main.length mc, .int .i64 S.restart, .int .i64 S.grace, .int .i64 S.prio] by rw [← hw0]; exact range_box (heap_alloc_new w _))
  obtain ⟨z, hz⟩ : ∃ z, (checkV S).1 = z := ⟨_, rfl⟩
  have HZ := Lib.hid hz
  rw [hz]
  clear hz
  go_enter Tryz.func58, Tryz.ntmps58
  go_wp2_with (first | (refine wpList_load_mid rfl 35 _ rfl _ _ rfl _ _ RS.out Tryz.underlying35 rfl (by kernel_rfl) ?_))
  clear hw0
  refine (SpecRef.check_ref S LA lc IA ic MA mc HL.out w0 (H.out.below B0.out)).mono ?_
  rintro e w1 ⟨rfl, hb1⟩
  have B1 := Lib.hid (B0.out.trans (hb1.mono B0.out.size))
  clear hb1
  rw [HZ.out]
  obtain ⟨y, hy⟩ : ∃ y, (checkV S).2 = y := ⟨_, rfl⟩
  rw [hy]
  clear hy
  by_cases hz0 : z = 0
  · subst hz0
    go_wp2
    go_ret
    exact ⟨rfl, B1.out⟩
  · have hz1 : (z == 0) = false := by simpa using hz0
    have HD := Lib.hid (decide_eq_false hz0)
    clear hz0
    go_wp2
    go_ret
    exact ⟨by rw [HD.out]; rfl, B1.out⟩
theorem fit_wrong {has : Rx} {l : Pods} {q : Ask} (h : q.right = false) : fitC has l q = 1 := by unfold fitC; rw [if_pos h]
theorem fit_no {has : Rx} {l : Pods} {q : Ask} (h : q.right = true) (h2 : room has l q = false) : fitC has l q = 160 := by unfold fitC; rw [if_neg (by rw [h]; decide), if_pos h2]
theorem fit_own {has : Rx} {l : Pods} {q : Ask} (h : q.right = true) (h2 : room has l q = true) {p : Int} (h3 : p ∈ q.ports) (h4 : ownR l p ≠ 0) : fitC has l q = 150 := by
  unfold fitC
  rw [if_neg (by rw [h]; decide), if_neg (by rw [h2]; decide), if_pos]
  exact List.any_eq_true.2 ⟨p, h3, by simpa using h4⟩
theorem fit_yes {has : Rx} {l : Pods} {q : Ask} (h : q.right = true) (h2 : room has l q = true) (h3 : ∀ p ∈ q.ports, ownR l p = 0) : fitC has l q = 0 := by
  unfold fitC
  rw [if_neg (by rw [h]; decide), if_neg (by rw [h2]; decide), if_neg]
  intro h4
  obtain ⟨p, h5, h6⟩ := List.any_eq_true.1 h4
  rw [h3 p h5] at h6
  exact absurd h6 (by decide)
theorem at_one (r k : Nat) : (⟨r, 0, none⟩ : Addr).add k = ⟨r, k, none⟩ := by unfold Addr.add; split <;> simp_all
set_option maxRecDepth 100000 in
set_option maxHeartbeats 8000000 in
theorem reffit_any {B : Nat} {ds : List Pd} {A : Option Addr} {c : Nat} (has : Rx) (S : Spc) (LA : Option Addr) (lc : Nat) (IA : Option Addr) (ic : Nat) (MA : Option Addr) (mc : Nat) (hL : Book.Light S) (w : World) (h : Nl w B A c ds) (hS : S.In w LA lc IA ic MA mc) :
    Calls Tryz.prog 35 #[.agg #[.int .i64 has.c, .int .i64 has.m, .int .i64 has.p, .slice A ds.length c], .agg #[.string S.name, .slice LA S.labels.length lc, .slice IA S.init.length ic, .slice MA S.main.length mc, .int .i64 S.restart, .int .i64 S.grace, .int .i64 S.prio]] w fun e w' => e = .returned (.int .i64 (fitC has (pods ds) (askS S))) ∧ Below w.heap.size w w' := by
  have H := Lib.hid h
  have HS := Lib.hid hS
  have HL := Lib.hid hL
  clear h hS hL
  obtain ⟨w0, hw0⟩ : ∃ v, (w.alloc (.cells #[.int .i64 has.c, .int .i64 has.m, .int .i64 has.p, .slice A ds.length c] 29)).alloc (.cells #[.string S.name, .slice LA S.labels.length lc, .slice IA S.init.length ic, .slice MA S.main.length mc, .int .i64 S.restart, .int .i64 S.grace, .int .i64 S.prio] 35) = v := ⟨_, rfl⟩
  have N0 := Lib.hid (show w0.heap[w.heap.size]? = some (.cells #[.int .i64 has.c, .int .i64 has.m, .int .i64 has.p, .slice A ds.length c] 29 (0, 0)) by rw [← hw0, Below.heap_alloc _ _ _ (by simp)]; exact heap_alloc_new w _)
  have S0 := Lib.hid (show w0.heap[w.heap.size + 1]? = some (.cells #[.string S.name, .slice LA S.labels.length lc, .slice IA S.init.length ic, .slice MA S.main.length mc, .int .i64 S.restart, .int .i64 S.grace, .int .i64 S.prio] 35 (0, 0)) by rw [← hw0]; have := heap_alloc_new (w.alloc (.cells #[.int .i64 has.c, .int .i64 has.m, .int .i64 has.p, .slice A ds.length c] 29)) (.cells #[.string S.name, .slice LA S.labels.length lc, .slice IA S.init.length ic, .slice MA S.main.length mc, .int .i64 S.restart, .int .i64 S.grace, .int .i64 S.prio] 35); rw [World.size_alloc] at this; exact this)
  have B0 := Lib.hid (show Below w.heap.size w w0 by rw [← hw0]; go_grown)
  have RS := Lib.hid (show w0.rangeAt (w.heap.size + 1) 0 [.string S.name, .slice LA S.labels.length lc, .slice IA S.init.length ic, .slice MA S.main.length mc, .int .i64 S.restart, .int .i64 S.grace, .int .i64 S.prio] from range_box S0.out)
  obtain ⟨F, hF⟩ : ∃ F, fitC has (pods ds) (askS S) = F := ⟨_, rfl⟩
  have HF := Lib.hid hF
  rw [hF]
  clear hF
  go_enter Tryz.func35, Tryz.ntmps35
  go_wp2_with (first | (refine wpList_load_mid rfl 35 _ rfl _ _ rfl _ _ RS.out Tryz.underlying35 rfl (by kernel_rfl) ?_))
  clear hw0
  refine (refright_any S LA lc IA ic MA mc HL.out w0 (HS.out.below B0.out)).mono ?_
  rintro e w1 ⟨rfl, hb1⟩
  have B1 := Lib.hid (B0.out.trans (hb1.mono B0.out.size))
  have N1 := Lib.hid ((hb1.block _ (lt_of_block N0.out)).trans N0.out)
  have S1 := Lib.hid ((hb1.block _ (lt_of_block S0.out)).trans S0.out)
  clear hb1 RS
  obtain ⟨b, hb⟩ : ∃ b, decide ((checkV S).1 = 0) = b := ⟨_, rfl⟩
  have HB := Lib.hid (show (askS S).right = b from hb)
  rw [hb]
  clear hb
  cases b with
  | false =>
    have HE := Lib.hid (show F = 1 from HF.out.symm.trans (fit_wrong HB.out))
    go_wp2
    go_ret
    exact ⟨by rw [HE.out]; rfl, B1.out⟩
  | true =>
    have RS := Lib.hid (show w1.rangeAt (w.heap.size + 1) 0 [.string S.name, .slice LA S.labels.length lc, .slice IA S.init.length ic, .slice MA S.main.length mc, .int .i64 S.restart, .int .i64 S.grace, .int .i64 S.prio] from range_box S1.out)
    go_wp2_with (first | (refine wpList_load_mid rfl 35 _ rfl _ _ rfl _ _ RS.out Tryz.underlying35 rfl (by kernel_rfl) ?_))
    have hl2 := HL.out.1.2.2
    refine (refof_any S.init S.main _ _ _ _ _ IA ic MA mc (by omega) (by omega) w1 (HS.out.below B1.out).init (HS.out.below B1.out).main).mono ?_
    rintro e w2 ⟨rfl, hb2⟩
    clear hl2 RS
    obtain ⟨ak, hak⟩ : ∃ ak, ofR (S.init.map rq) (S.main.map rq) = ak := ⟨_, rfl⟩
    have AO := Lib.hid (show ak.1.Ok by rw [← hak]; exact ask_rx HS.out)
    have HA := Lib.hid (show (askS S).ask = ak.1 by rw [← hak]; rfl)
    rw [hak]
    clear hak
    obtain ⟨a, a2⟩ := ak
    have AO := Lib.hid (show a.Ok from AO.out)
    have HA := Lib.hid (show (askS S).ask = a from HA.out)
    obtain ⟨w3, hw3⟩ : ∃ v, w2.alloc (.cells #[.int .i64 0, .int .i64 0, .int .i64 0] 23) = v := ⟨_, rfl⟩
    have ZB := Lib.hid (show w3.heap[w2.heap.size]? = some (.cells #[.int .i64 0, .int .i64 0, .int .i64 0] 23 (0, 0)) by rw [← hw3]; exact heap_alloc_new _ _)
    have BU := Lib.hid (show Below w2.heap.size w2 w3 by rw [← hw3]; exact (Below.refl _ _).alloc (Nat.le_refl _) _)
    obtain ⟨w4, hw4⟩ : ∃ v, w3.setCells (w2.heap.size) 0 (R3 a) = v := ⟨_, rfl⟩
    have THz := Lib.hid (show w3.there (w2.heap.size) 0 3 from Back.th ZB.out rfl)
    have ONEz := Lib.hid (show ((R3 a) : List Value).toArray.all (·.oneCell') = true by simp [Value.oneCell'])
    have HVz := Lib.hid hw4
    have AX := Lib.hid (show w4.heap[w2.heap.size]? = some (.cells ((R3 a) : List Value).toArray 23 (0, 0)) by rw [← hw4]; exact Back.st ZB.out rfl)
    have BX := Lib.hid (show Below w1.heap.size w1 w4 from hb2.trans ((show Below w2.heap.size w2 w4 by rw [← hw4]; exact bel_set BU.out (Nat.le_refl _)).mono hb2.size))
    have BV := Lib.hid (B1.out.trans (BX.out.mono B1.out.size))
    have NX := Lib.hid ((BX.out.block _ (lt_of_block N1.out)).trans N1.out)
    have SX := Lib.hid ((BX.out.block _ (lt_of_block S1.out)).trans S1.out)
    obtain ⟨s, hs⟩ : ∃ s, usedR (pods ds) = s := ⟨_, rfl⟩
    have HSU := Lib.hid hs
    have SO := Lib.hid (show s.Ok by rw [← hs]; exact usedF_ok _ z3_ok)
    have C1 := Lib.hid (show ∀ u, Below w.heap.size w u → Calls Tryz.prog 12 #[.agg #[.int .i64 has.c, .int .i64 has.m, .int .i64 has.p, .slice A ds.length c]] u (Told1 s u) from fun u hu => by rw [← hs]; exact refused_any has u (H.out.below hu))
    obtain ⟨q, hq⟩ : ∃ q, addR s a = q := ⟨_, rfl⟩
    have HQ := Lib.hid hq
    have C2 := Lib.hid (fun u => refadd_any s a SO.out AO.out u)
    rw [hq] at C2
    clear hs hq hw4 hb2 N1 S1 BX BU
    go_wp2_with (first | (refine wpList_store_at rfl 23 _ _ rfl _ _ _ rfl rfl THz.out (by kernel_rfl) ONEz.out HVz.out ?_))
    clear hw3 THz ONEz HVz ZB
    refine Vls.wp_region (by kernel_rfl) (Jx.JN w4 7 8 3 (R3 q.1) 23 [.agg #[.int .i64 has.c, .int .i64 has.m, .int .i64 has.p, .slice A ds.length c], .agg (R3 s).toArray, .agg (R3 a).toArray, .tuple #[.agg (R3 q.1).toArray, .bool q.2], .tuple #[.agg (R3 q.1).toArray, .bool q.2], .agg (R3 q.1).toArray, .bool q.2, undef, undef, .bool q.2]) (by kernel_rfl) (fun _ => undef) (Jx.JN.start _) ?_ ?_
    · refine ⟨?_, ?_, ?_, ?_, ?_, ?_, ?_, ?_, ?_, ?_, trivial⟩
      · intro s_ a_ u V hs hd hfr hpo hJ
        have f2 : a_.tmps.getD 2 undef = .pointer (some ⟨w.heap.size, 0, none⟩) := hfr 2 (by kernel_rfl)
        refine .inl ⟨rfl, ?_⟩
        exact wp_load_mid 29 (.tmp 2) rfl (w.heap.size) (0) f2 [.int .i64 has.c, .int .i64 has.m, .int .i64 has.p, .slice A ds.length c] _ (range_box ((hJ.bel.block _ (lt_of_block NX.out)).trans NX.out)) Tryz.underlying29 rfl (by kernel_rfl) ⟨_, rfl, hJ.step 0 (by decide) (by decide) (Below.refl _ _) rfl⟩
      · intro s_ a_ u V hs hd hfr hpo hJ
        have e0 : a_.tmps.getD 20 undef = .agg #[.int .i64 has.c, .int .i64 has.m, .int .i64 has.p, .slice A ds.length c] := (hpo 0 20 (by kernel_rfl)).trans (hJ.get 0 (by decide) (by decide) (hd 0 (by kernel_rfl)) rfl)
        refine .inl ⟨rfl, ?_⟩
        unfold Oper.wp
        rw [show (execOp a_.eval _).run Tryz.prog u = .ok (.enter 12 #[.agg #[.int .i64 has.c, .int .i64 has.m, .int .i64 has.p, .slice A ds.length c]]) u from by simp [go_sem, Act.eval, e0]]
        refine Calls.mono (C1.out u (BV.out.trans (hJ.bel.mono BV.out.size))) ?_
        rintro e u2 ⟨rfl, hb⟩
        exact ⟨_, rfl, hJ.step 1 (by decide) (by decide) hb rfl⟩
      · intro s_ a_ u V hs hd hfr hpo hJ
        have f5 : a_.tmps.getD 5 undef = .pointer (some ⟨w2.heap.size, 0, none⟩) := hfr 5 (by kernel_rfl)
        refine .inl ⟨rfl, ?_⟩
        exact wp_load_mid 23 (.tmp 5) rfl (w2.heap.size) (0) f5 (R3 a) _ (range_box ((hJ.bel.block _ (lt_of_block AX.out)).trans AX.out)) Tryz.underlying23 rfl (by kernel_rfl) ⟨_, rfl, hJ.step 2 (by decide) (by decide) (Below.refl _ _) rfl⟩
      · intro s_ a_ u V hs hd hfr hpo hJ
        have e1 : a_.tmps.getD 21 undef = .agg (R3 s).toArray := (hpo 1 21 (by kernel_rfl)).trans (hJ.get 1 (by decide) (by decide) (hd 1 (by kernel_rfl)) rfl)
        have e2 : a_.tmps.getD 22 undef = .agg (R3 a).toArray := (hpo 2 22 (by kernel_rfl)).trans (hJ.get 2 (by decide) (by decide) (hd 2 (by kernel_rfl)) rfl)
        refine .inl ⟨rfl, ?_⟩
        unfold Oper.wp
        rw [show (execOp a_.eval _).run Tryz.prog u = .ok (.enter 37 #[.agg (R3 s).toArray, .agg (R3 a).toArray]) u from by simp [go_sem, Act.eval, e1, e2]]
        refine Calls.mono (C2.out u) ?_
        rintro e u2 ⟨rfl, hb⟩
        exact ⟨_, rfl, hJ.step 3 (by decide) (by decide) hb rfl⟩
      · intro s_ a_ u V hs hd hfr hpo hJ
        have e3 : a_.tmps.getD 23 undef = .tuple #[.agg (R3 q.1).toArray, .bool q.2] := (hpo 3 23 (by kernel_rfl)).trans (hJ.get 3 (by decide) (by decide) (hd 3 (by kernel_rfl)) rfl)
        refine .inl ⟨rfl, ?_⟩
        unfold Oper.wp
        rw [show (execOp a_.eval _).run Tryz.prog u = .ok (.value (.tuple #[.agg (R3 q.1).toArray, .bool q.2])) u from by simp [go_sem, Act.eval, e3]]
        exact ⟨_, rfl, hJ.step 4 (by decide) (by decide) (Below.refl _ _) rfl⟩
      · intro s_ a_ u V hs hd hfr hpo hJ
        have e4 : a_.tmps.getD 19 undef = .tuple #[.agg (R3 q.1).toArray, .bool q.2] := (hpo 4 19 (by kernel_rfl)).trans (hJ.get 4 (by decide) (by decide) (hd 4 (by kernel_rfl)) rfl)
        refine .inl ⟨rfl, ?_⟩
        unfold Oper.wp
        rw [show (execOp a_.eval _).run Tryz.prog u = .ok (.value (.agg (R3 q.1).toArray)) u from by simp [go_sem, Act.eval, e4]]
        exact ⟨_, rfl, hJ.step 5 (by decide) (by decide) (Below.refl _ _) rfl⟩
      · intro s_ a_ u V hs hd hfr hpo hJ
        have e4 : a_.tmps.getD 19 undef = .tuple #[.agg (R3 q.1).toArray, .bool q.2] := (hpo 4 19 (by kernel_rfl)).trans (hJ.get 4 (by decide) (by decide) (hd 4 (by kernel_rfl)) rfl)
        refine .inl ⟨rfl, ?_⟩
        unfold Oper.wp
        rw [show (execOp a_.eval _).run Tryz.prog u = .ok (.value (.bool q.2)) u from by simp [go_sem, Act.eval, e4]]
        exact ⟨_, rfl, hJ.step 6 (by decide) (by decide) (Below.refl _ _) rfl⟩
      · intro s_ a_ u V hs hd hfr hpo hJ
        refine .inl ⟨rfl, ?_⟩
        unfold Oper.wp
        rw [show (execOp a_.eval _).run Tryz.prog u = .ok (.value (.pointer (some ⟨u.heap.size, 0, none⟩))) (u.alloc (.cells #[.int .i64 0, .int .i64 0, .int .i64 0] 23 (0, 0))) from by simp [go_sem, Act.eval]]
        exact ⟨_, rfl, hJ.al (by decide) hs _ rfl⟩
      · intro s_ a_ u V hs hd hfr hpo hJ
        have e5 : a_.tmps.getD 24 undef = .agg (R3 q.1).toArray := (hpo 5 24 (by kernel_rfl)).trans (hJ.get 5 (by decide) (by decide) (hd 5 (by kernel_rfl)) rfl)
        have h_ : s_ 7 = true := hd 7 (by kernel_rfl)
        obtain ⟨qq, X, hq, hqv, hX, hXs, _⟩ := hJ.bx h_
        have e_ : a_.tmps.getD 7 undef = .pointer (some ⟨qq, 0, none⟩) := (hpo 7 7 (by kernel_rfl)).trans hq
        refine .inl ⟨rfl, ?_⟩
        exact wp_store_mid 23 (.tmp 7) (.tmp 24) rfl qq 0 (R3 q.1).toArray e_ e5 (Back.th hX hXs) (by kernel_rfl) (by simp [Value.oneCell']) ⟨undef, rfl, hJ.st (by decide) rfl h_ hq _⟩
      · intro s_ a_ u V hs hd hfr hpo hJ
        have e6 : a_.tmps.getD 25 undef = .bool q.2 := (hpo 6 25 (by kernel_rfl)).trans (hJ.get 6 (by decide) (by decide) (hd 6 (by kernel_rfl)) rfl)
        refine .inl ⟨rfl, ?_⟩
        unfold Oper.wp
        rw [show (execOp a_.eval _).run Tryz.prog u = .ok (.value (.bool q.2)) u from by simp [go_sem, Act.eval, e6]]
        exact ⟨_, rfl, hJ.step 9 (by decide) (by decide) (Below.refl _ _) rfl⟩
    · intro s_ V w5 hall hJ
      obtain ⟨g, X, e7, hgv, hX, hXs, hXe⟩ := hJ.bx (hall 7 (by decide))
      rw [hXe (hall 8 (by decide))] at hX
      have e9 : V 9 = .bool q.2 := hJ.get 9 (by decide) (by decide) (hall 9 (by decide)) rfl
      have QX := Lib.hid (range_box hX)
      have N5 := Lib.hid ((hJ.bel.block _ (lt_of_block NX.out)).trans NX.out)
      have S5 := Lib.hid ((hJ.bel.block _ (lt_of_block SX.out)).trans SX.out)
      have B5 := Lib.hid (BV.out.trans (hJ.bel.mono BV.out.size))
      have RH := Lib.hid (show w5.rangeAt w.heap.size 0 (R3 has) from fun j v hv => by
        refine box_cell N5.out (0 + j) ?_
        match j, hv with
        | 0, hv => exact hv
        | 1, hv => exact hv
        | 2, hv => exact hv
        | j + 3, hv => simp at hv)
      clear hall hJ hX hXs hXe hgv NX SX BV C1 C2 AX
      simp only [Bxs.puts, Nat.reduceAdd, put_none, put_lit, List.set_cons_succ, List.set_cons_zero]
      rw [e7, e9]
      clear e7 e9
      have HR := Lib.hid (show room has (pods ds) (askS S) = (q.2 && fitsR q.1 has) by unfold room; rw [HSU.out, HA.out, HQ.out])
      cases hq2 : q.2 with
      | false =>
        have HE := Lib.hid (show F = 160 from HF.out.symm.trans (fit_no HB.out (by rw [HR.out, hq2]; rfl)))
        clear hq2
        go_wp2
        go_ret
        exact ⟨by rw [HE.out]; rfl, B5.out⟩
      | true =>
        have q0 : w5.cell? ⟨g, 0, none⟩ = some (.int .i64 q.1.c) := QX.out 0 _ rfl
        have q1 : w5.cell? ⟨g, 1, none⟩ = some (.int .i64 q.1.m) := QX.out 1 _ rfl
        have q2 : w5.cell? ⟨g, 2, none⟩ = some (.int .i64 q.1.p) := QX.out 2 _ rfl
        have y0 : w5.cell? ⟨w.heap.size, 0, none⟩ = some (.int .i64 has.c) := RH.out 0 _ rfl
        have y1 : w5.cell? ⟨w.heap.size, 1, none⟩ = some (.int .i64 has.m) := RH.out 1 _ rfl
        have y2 : w5.cell? ⟨w.heap.size, 2, none⟩ = some (.int .i64 has.p) := RH.out 2 _ rfl
        go_wp2_with fail
        clear q0 q1 q2 y0 y1 y2
        refine (reffits_any q.1 has w5).mono ?_
        rintro e w6 ⟨rfl, hb6⟩
        have B6 := Lib.hid (B5.out.trans (hb6.mono B5.out.size))
        have N6 := Lib.hid ((hb6.block _ (lt_of_block N5.out)).trans N5.out)
        have S6 := Lib.hid ((hb6.block _ (lt_of_block S5.out)).trans S5.out)
        clear hb6 QX RH N5 S5 B5
        cases hf : fitsR q.1 has with
        | false =>
          have HE := Lib.hid (show F = 160 from HF.out.symm.trans (fit_no HB.out (by rw [HR.out, hq2, hf]; rfl)))
          clear hq2 hf
          go_wp2
          go_ret
          exact ⟨by rw [HE.out]; rfl, B6.out⟩
        | true =>
          have HR2 := Lib.hid (show room has (pods ds) (askS S) = true by rw [HR.out, hq2, hf]; rfl)
          clear hq2 hf HR
          have RS := Lib.hid (show w6.rangeAt (w.heap.size + 1) 0 [.string S.name, .slice LA S.labels.length lc, .slice IA S.init.length ic, .slice MA S.main.length mc, .int .i64 S.restart, .int .i64 S.grace, .int .i64 S.prio] from range_box S6.out)
          go_wp2_with (first | (refine wpList_load_mid rfl 35 _ rfl _ _ rfl _ _ RS.out Tryz.underlying35 rfl (by kernel_rfl) ?_))
          clear RS
          refine (SpecOwn.refports_any S LA lc IA ic MA mc HL.out.2.2.2 (by have := HL.out.1.2.2; omega) w6 (HS.out.below B6.out)).mono ?_
          rintro e w7 ⟨v, rfl, ho7, hb7⟩
          obtain ⟨PA, pc, rfl⟩ := own_form ho7
          have B7 := Lib.hid (B6.out.trans (hb7.mono B6.out.size))
          have N7 := Lib.hid ((hb7.block _ (lt_of_block N6.out)).trans N6.out)
          have PO := Lib.hid ho7
          have PL := Lib.hid (show (S.main.flatMap (·.ports)).length ≤ 100000 from by
            have := SpecOwn.flat_len S.main (fun x hx => (HL.out.2.2.2 x hx).2.2)
            have := HL.out.1.2.2
            omega)
          clear hb7 ho7 N6 S6 B6
          obtain ⟨ps, hps⟩ : ∃ ps, S.main.flatMap (·.ports) = ps := ⟨_, rfl⟩
          have HPS := Lib.hid (show (askS S).ports = ps from hps)
          rw [hps] at PO PL ⊢
          clear hps
          obtain ⟨m, hm⟩ : ∃ m, ps.length = m := ⟨_, rfl⟩
          have HM := Lib.hid hm
          have hm1 : (m : Int) ≤ 100000 := by have := PL.out; omega
          rw [hm] at PO ⊢
          clear hm
          go_wp2_with fail
          go_loopw [10] (fun i wr => ∃ k : Nat, k ≤ m ∧ i = .int .i64 k ∧ Hid (Below w7.heap.size w7 wr) ∧ Hid (∀ t p, t < k → ps[t]? = some p → ownR (pods ds) p = 0)) (fun i _ => m - (RowKit.intOf i).toNat)
          case atStart => exact ⟨0, Nat.zero_le _, rfl, Below.refl _ _, fun t p ht _ => by omega⟩
          case round =>
            obtain ⟨k, hk, rfl, BW, HK⟩ := hrel
            by_cases hkm : k < m
            · have hka : (k : Int) < (m : Int) := by omega
              have hk0 : (0 : Int) ≤ (k : Int) := by omega
              obtain ⟨p, hp⟩ : ∃ p, ps[k]? = some p := ⟨_, List.getElem?_eq_getElem (by have := HM.out; omega)⟩
              have PW := owns_below PO.out BW.out
              obtain ⟨r, rfl, hr0, hr1⟩ : ∃ r, PA = some ⟨r, 0, none⟩ ∧ r < wr.heap.size ∧ wr.cell? ⟨r, k, none⟩ = some (.int .i64 p) := by
                rcases own_addr PW with ⟨_, h2, _⟩ | ⟨r, hA, _, hr⟩
                · omega
                · refine ⟨r, hA, hr, ?_⟩
                  rw [hA] at PW
                  rw [PW.cellAt k (by omega)]
                  simp [hp]
              have eat := at_one r k
              have PLT := Lib.hid hr0
              have PX := Lib.hid hr1
              have HP := Lib.hid hp
              have NX := Lib.hid ((BW.out.block _ (lt_of_block N7.out)).trans N7.out)
              have BV := Lib.hid (B7.out.trans (BW.out.mono B7.out.size))
              obtain ⟨o, ho⟩ : ∃ o, ownR (pods ds) p = o := ⟨_, rfl⟩
              have HO := Lib.hid ho
              have C4 := Lib.hid (show ∀ u, Below w.heap.size w u → Calls Tryz.prog 17 #[.agg #[.int .i64 has.c, .int .i64 has.m, .int .i64 has.p, .slice A ds.length c], .int .i64 p] u (fun e w' => e = .returned (.int .i64 o) ∧ Below u.heap.size u w') from fun u hu => by rw [← ho]; exact refowner_any has p u (H.out.below hu))
              obtain ⟨b, hob⟩ : ∃ b, (o != 0) = b := ⟨_, rfl⟩
              have hob2 : (o == 0) = !b := by rw [← hob]; unfold bne; cases (o == 0) <;> rfl
              have HOB := Lib.hid hob
              clear hp PW hr0 hr1 ho
              go_wp2_with fail
              refine Vls.wp_region (by kernel_rfl) (Jx.JN wr 100 101 0 ([]) 23 [.agg #[.int .i64 has.c, .int .i64 has.m, .int .i64 has.p, .slice A ds.length c], .slice (some ⟨r, 0, none⟩) m pc, .int .i64 k, .pointer (some ⟨r, k, none⟩), .int .i64 p, .int .i64 o, .bool b]) (by kernel_rfl) (fun _ => undef) (Jx.JN.start _) ?_ ?_
              · refine ⟨?_, ?_, ?_, ?_, ?_, ?_, ?_, trivial⟩
                · intro s_ a_ u V hs hd hfr hpo hJ
                  have f2 : a_.tmps.getD 2 undef = .pointer (some ⟨w.heap.size, 0, none⟩) := hfr 2 (by kernel_rfl)
                  refine .inl ⟨rfl, ?_⟩
                  exact wp_load_mid 29 (.tmp 2) rfl (w.heap.size) (0) f2 [.int .i64 has.c, .int .i64 has.m, .int .i64 has.p, .slice A ds.length c] _ (range_box ((hJ.bel.block _ (lt_of_block NX.out)).trans NX.out)) Tryz.underlying29 rfl (by kernel_rfl) ⟨_, rfl, hJ.step 0 (by decide) (by decide) (Below.refl _ _) rfl⟩
                · intro s_ a_ u V hs hd hfr hpo hJ
                  have f9 : a_.tmps.getD 9 undef = .slice (some ⟨r, 0, none⟩) m pc := hfr 9 (by kernel_rfl)
                  refine .inl ⟨rfl, ?_⟩
                  unfold Oper.wp
                  rw [show (execOp a_.eval _).run Tryz.prog u = .ok (.value (.slice (some ⟨r, 0, none⟩) m pc)) u from by simp [go_sem, Act.eval, f9]]
                  exact ⟨_, rfl, hJ.step 1 (by decide) (by decide) (Below.refl _ _) rfl⟩
                · intro s_ a_ u V hs hd hfr hpo hJ
                  have f10 : a_.tmps.getD 10 undef = .int .i64 k := hfr 10 (by kernel_rfl)
                  refine .inl ⟨rfl, ?_⟩
                  unfold Oper.wp
                  rw [show (execOp a_.eval _).run Tryz.prog u = .ok (.value (.int .i64 k)) u from by simp [go_sem, Act.eval, f10]]
                  exact ⟨_, rfl, hJ.step 2 (by decide) (by decide) (Below.refl _ _) rfl⟩
                · intro s_ a_ u V hs hd hfr hpo hJ
                  have e1 : a_.tmps.getD 44 undef = .slice (some ⟨r, 0, none⟩) m pc := (hpo 1 44 (by kernel_rfl)).trans (hJ.get 1 (by decide) (by decide) (hd 1 (by kernel_rfl)) rfl)
                  have e2 : a_.tmps.getD 45 undef = .int .i64 k := (hpo 2 45 (by kernel_rfl)).trans (hJ.get 2 (by decide) (by decide) (hd 2 (by kernel_rfl)) rfl)
                  refine .inl ⟨rfl, ?_⟩
                  unfold Oper.wp
                  rw [show (execOp a_.eval _).run Tryz.prog u = .ok (.value (.pointer (some ⟨r, k, none⟩))) u from by simp [go_sem, Act.eval, e1, e2, hk0, hka, eat]]
                  exact ⟨_, rfl, hJ.step 3 (by decide) (by decide) (Below.refl _ _) rfl⟩
                · intro s_ a_ u V hs hd hfr hpo hJ
                  have e3 : a_.tmps.getD 46 undef = .pointer (some ⟨r, k, none⟩) := (hpo 3 46 (by kernel_rfl)).trans (hJ.get 3 (by decide) (by decide) (hd 3 (by kernel_rfl)) rfl)
                  refine .inl ⟨rfl, ?_⟩
                  have cx0 := (World.cell?_of_block (hJ.bel.block _ PLT.out)).trans PX.out
                  unfold Oper.wp
                  rw [show (execOp a_.eval _).run Tryz.prog u = .ok (.value (.int .i64 p)) u from by simp [go_sem, Act.eval, e3, cx0]]
                  exact ⟨_, rfl, hJ.step 4 (by decide) (by decide) (Below.refl _ _) rfl⟩
                · intro s_ a_ u V hs hd hfr hpo hJ
                  have e0 : a_.tmps.getD 43 undef = .agg #[.int .i64 has.c, .int .i64 has.m, .int .i64 has.p, .slice A ds.length c] := (hpo 0 43 (by kernel_rfl)).trans (hJ.get 0 (by decide) (by decide) (hd 0 (by kernel_rfl)) rfl)
                  have e4 : a_.tmps.getD 47 undef = .int .i64 p := (hpo 4 47 (by kernel_rfl)).trans (hJ.get 4 (by decide) (by decide) (hd 4 (by kernel_rfl)) rfl)
                  refine .inl ⟨rfl, ?_⟩
                  unfold Oper.wp
                  rw [show (execOp a_.eval _).run Tryz.prog u = .ok (.enter 17 #[.agg #[.int .i64 has.c, .int .i64 has.m, .int .i64 has.p, .slice A ds.length c], .int .i64 p]) u from by simp [go_sem, Act.eval, e0, e4]]
                  refine Calls.mono (C4.out u (BV.out.trans (hJ.bel.mono BV.out.size))) ?_
                  rintro e u2 ⟨rfl, hb⟩
                  exact ⟨_, rfl, hJ.step 5 (by decide) (by decide) hb rfl⟩
                · intro s_ a_ u V hs hd hfr hpo hJ
                  have e5 : a_.tmps.getD 48 undef = .int .i64 o := (hpo 5 48 (by kernel_rfl)).trans (hJ.get 5 (by decide) (by decide) (hd 5 (by kernel_rfl)) rfl)
                  refine .inl ⟨rfl, ?_⟩
                  unfold Oper.wp
                  rw [show (execOp a_.eval _).run Tryz.prog u = .ok (.value (.bool b)) u from by simp [go_sem, Act.eval, e5, hob, hob2]]
                  exact ⟨_, rfl, hJ.step 6 (by decide) (by decide) (Below.refl _ _) rfl⟩
              · intro s_ V w9 hall hJ
                have e6 : V 6 = .bool b := hJ.get 6 (by decide) (by decide) (hall 6 (by decide)) rfl
                have B9 := Lib.hid (BW.out.trans (hJ.bel.mono BW.out.size))
                clear hall hJ hob hob2
                simp only [Bxs.puts, Nat.reduceAdd, put_none, put_lit, List.set_cons_succ, List.set_cons_zero]
                rw [e6]
                clear e6
                cases b with
                | true =>
                  have HE := Lib.hid (show F = 150 from HF.out.symm.trans (fit_own HB.out HR2.out (p := p) (by rw [HPS.out]; exact List.mem_of_getElem? HP.out) (by rw [HO.out]; simpa using HOB.out)))
                  have BZ := Lib.hid (B7.out.trans (B9.out.mono B7.out.size))
                  go_wp2
                  go_ret
                  exact ⟨by rw [HE.out]; rfl, BZ.out⟩
                | false =>
                  have HK2 := Lib.hid (show ∀ t z, t < k + 1 → ps[t]? = some z → ownR (pods ds) z = 0 from fun t z ht hz => by
                    rcases Nat.lt_or_ge t k with h | h
                    · exact HK.out t z h hz
                    · obtain rfl : t = k := by omega
                      rw [HP.out] at hz
                      injection hz with hz
                      subst hz
                      rw [HO.out]
                      simpa using HOB.out)
                  go_wp2
                  go_roundw
                  case rel => exact ⟨k + 1, by omega, by go_num, B9.out, HK2.out⟩
                  case measure => simp [RowKit.intOf]; omega
            · have hka : ¬ (k : Int) < (m : Int) := by omega
              have HE := Lib.hid (show F = 0 from HF.out.symm.trans (fit_yes HB.out HR2.out (by
                rw [HPS.out]
                intro p hp
                obtain ⟨t, ht, e⟩ := List.getElem_of_mem hp
                exact HK.out t p (by have := HM.out; omega) (by rw [List.getElem?_eq_getElem ht, e]))))
              have BZ := Lib.hid (B7.out.trans (BW.out.mono B7.out.size))
              go_wp2
              go_ret
              exact ⟨by rw [HE.out]; rfl, BZ.out⟩
end Nd
end Go.Proofs.YtbichomjpmmjmaaGreatDoor

/-
  Labels and containers in rows of a call's own, cell by cell; blocks from one on; blocks that may be written. No condition.
-/
namespace Go.Proofs.YtbichomjpmmjmaaGreatDoor
open Go.RowKit
open Sd Lists
namespace SpecOwn
end SpecOwn
end Go.Proofs.YtbichomjpmmjmaaGreatDoor

/-
  A spec that may be: what its containers ask for is from 0 on, they are few; ALL THAT IT ASKS FOR, of the plain functions; a list of containers as cells, and the containers of a row of the call's own. No condition.
-/
set_option linter.unusedVariables false
set_option linter.unusedSimpArgs false
namespace Go.Proofs.YtbichomjpmmjmaaGreatDoor
open Go.ChangeShapes Go.WideShapes Go.ChangeAt Go.RowKit Go.Lib
open NumMath
namespace Re
open Sd SpecOwn
theorem numsV_in {a b c : Int} (h : ¬ 0 ≤ numsV false a b c 0 0 0) : (0 ≤ a ∧ a ≤ big) ∧ (0 ≤ b ∧ b ≤ big) ∧ (0 ≤ c ∧ c ≤ big) := by
  unfold numsV at h
  have e : ∀ n : Int, numV false n 0 = false → 0 ≤ n ∧ n ≤ big := fun n hn => by
    simp [numV] at hn
    omega
  cases h0 : numV false a 0 with
  | true => rw [h0] at h; simp at h
  | false =>
    cases h1 : numV false b 0 with
    | true => rw [h0, h1] at h; simp at h
    | false =>
      cases h2 : numV false c 0 with
      | true => rw [h0, h1, h2] at h; simp at h
      | false => exact ⟨e _ h0, e _ h1, e _ h2⟩
theorem one_in {x : Ctr} {ahead : List Ctr} {i : Bool} (h : (oneV x ahead i).1 = 0) : In big (rq x) := by
  unfold oneV at h
  split at h
  · exact absurd h (by simp)
  split at h
  · exact absurd h (by simp)
  split at h
  · exact absurd h (by simp)
  split at h
  · exact absurd h (by simp)
  rename_i h4
  obtain ⟨h1, h2, h3⟩ := numsV_in h4
  exact ⟨h1, h2, h3⟩
theorem ctrs_in (name : ByteArray) (i : Bool) : ∀ (l : List Ctr) {n : Nat} {ahead : List Ctr}, (ctrsFrom name i n ahead l).1 = 0 → ∀ x ∈ l, In big (rq x)
  | [], _, _, _, x, hx => by cases hx
  | y :: l, n, ahead, h, x, hx => by
    unfold ctrsFrom at h
    split at h
    · rename_i h1; exact absurd h h1
    · rename_i h1
      rcases List.mem_cons.1 hx with rfl | hx
      · exact one_in (Decidable.byContradiction h1)
      · exact ctrs_in name i l h x hx
theorem checked {S : Spc} (h : (checkV S).1 = 0) : S.init.length ≤ 3 ∧ S.main.length ≤ 4 ∧ (∀ x ∈ S.init, In big (rq x)) ∧ (∀ x ∈ S.main, In big (rq x)) := by
  unfold checkV at h
  split at h
  · exact absurd h (by decide)
  split at h
  · rename_i h1; exact absurd h h1
  split at h
  · exact absurd h (by decide)
  split at h
  · rename_i h1; exact absurd h h1
  split at h
  · exact absurd h (by decide)
  split at h
  · rename_i h1; exact absurd h h1
  rename_i h1 h2 h3 h4
  exact ⟨by omega, by omega, ctrs_in _ _ _ (Decidable.byContradiction h2), ctrs_in _ _ _ (Decidable.byContradiction h4)⟩
theorem in_map {k : Int} {l : List Ctr} (h : ∀ x ∈ l, In k (rq x)) : ∀ y ∈ l.map rq, In k y := fun y hy => by
  obtain ⟨x, hx, rfl⟩ := List.mem_map.1 hy
  exact h x hx
end Re
end Go.Proofs.YtbichomjpmmjmaaGreatDoor

/-
  What a spec that may be comes to: what it asks for is from 0 on, its ports are ports, no one is there twice. No condition.
-/
set_option linter.unusedVariables false
set_option linter.unusedSimpArgs false
namespace Go.Proofs.YtbichomjpmmjmaaGreatDoor
open NumMath
namespace Nd
open Re Sd
theorem ports_of (ahead : List Ctr) : ∀ (l : List Int) {k : Nat} {seen : List Int}, (portsFrom ahead k seen l).1 = 0 → (∀ p ∈ l, (1 ≤ p ∧ p ≤ 65535) ∧ hasV ahead p = false ∧ p ∉ seen) ∧ l.Nodup
  | [], _, _, _ => ⟨fun p hp => (by cases hp), List.nodup_nil⟩
  | p :: l, k, seen, h => by
    unfold portsFrom at h
    split at h
    · exact absurd h (by simp)
    split at h
    · exact absurd h (by simp)
    rename_i h1 h2
    obtain ⟨h3, h4⟩ := ports_of ahead l h
    have hn : p ∉ l := fun hp => (h3 p hp).2.2 (by simp)
    simp only [Bool.or_eq_true, not_or, Bool.not_eq_true] at h2
    refine ⟨fun q hq => ?_, List.nodup_cons.2 ⟨hn, h4⟩⟩
    rcases List.mem_cons.1 hq with rfl | hq
    · exact ⟨by omega, h2.1, by simpa using h2.2⟩
    · obtain ⟨g1, g2, g3⟩ := h3 q hq
      exact ⟨g1, g2, fun hs => g3 (by simp [hs])⟩
theorem one_ports {x : Ctr} {ahead : List Ctr} {i : Bool} (h : (oneV x ahead i).1 = 0) : (∀ p ∈ x.ports, (1 ≤ p ∧ p ≤ 65535) ∧ hasV ahead p = false) ∧ x.ports.Nodup := by
  unfold oneV at h
  split at h
  · exact absurd h (by simp)
  split at h
  · exact absurd h (by simp)
  split at h
  · exact absurd h (by simp)
  split at h
  · exact absurd h (by simp)
  split at h
  · exact absurd h (by simp)
  split at h
  · exact absurd h (by simp)
  split at h
  · rename_i h7; exact absurd h h7
  rename_i h7
  obtain ⟨h8, h9⟩ := ports_of ahead x.ports (Decidable.byContradiction h7)
  exact ⟨fun p hp => ⟨(h8 p hp).1, (h8 p hp).2.1⟩, h9⟩
theorem has_snoc (l : List Ctr) (x : Ctr) (p : Int) : hasV (l ++ [x]) p = (hasV l p || x.ports.contains p) := by simp [hasV]
theorem ctrs_ports (name : ByteArray) (i : Bool) : ∀ (l : List Ctr) {n : Nat} {ahead : List Ctr}, (ctrsFrom name i n ahead l).1 = 0 → (∀ p ∈ l.flatMap (·.ports), (1 ≤ p ∧ p ≤ 65535) ∧ hasV ahead p = false) ∧ (l.flatMap (·.ports)).Nodup
  | [], _, _, _ => ⟨fun p hp => (by cases hp), List.nodup_nil⟩
  | y :: l, n, ahead, h => by
    unfold ctrsFrom at h
    split at h
    · rename_i h1; exact absurd h h1
    · rename_i h1
      obtain ⟨h2, h3⟩ := one_ports (Decidable.byContradiction h1)
      obtain ⟨h4, h5⟩ := ctrs_ports name i l h
      rw [List.flatMap_cons]
      refine ⟨fun p hp => ?_, List.nodup_append.2 ⟨h3, h5, fun a ha b hb e => ?_⟩⟩
      · rcases List.mem_append.1 hp with hp | hp
        · exact h2 p hp
        · have := (h4 p hp).2
          rw [has_snoc, Bool.or_eq_false_iff] at this
          exact ⟨(h4 p hp).1, this.1⟩
      · subst e
        have := (h4 a hb).2
        rw [has_snoc, Bool.or_eq_false_iff] at this
        rw [List.contains_iff_mem.2 ha] at this
        exact absurd this.2 (by decide)
theorem one_few {x : Ctr} {ahead : List Ctr} {i : Bool} (h : (oneV x ahead i).1 = 0) : x.ports.length ≤ 3 := by
  unfold oneV at h
  split at h
  · exact absurd h (by simp)
  split at h
  · exact absurd h (by simp)
  split at h
  · exact absurd h (by simp)
  split at h
  · exact absurd h (by simp)
  split at h
  · exact absurd h (by simp)
  split at h
  · exact absurd h (by simp)
  rename_i h6
  omega
theorem few_ports (name : ByteArray) (i : Bool) : ∀ (l : List Ctr) {n : Nat} {ahead : List Ctr}, (ctrsFrom name i n ahead l).1 = 0 → ∀ x ∈ l, x.ports.length ≤ 3
  | [], _, _, _, x, hx => by cases hx
  | y :: l, n, ahead, h, x, hx => by
    unfold ctrsFrom at h
    split at h
    · rename_i h1; exact absurd h h1
    · rename_i h1
      rcases List.mem_cons.1 hx with rfl | hx
      · exact one_few (Decidable.byContradiction h1)
      · exact few_ports name i l h x hx
theorem check_main {S : Spc} (h : (checkV S).1 = 0) : (ctrsFrom t_main false 0 S.init S.main).1 = 0 := by
  unfold checkV at h
  split at h
  · exact absurd h (by decide)
  split at h
  · rename_i h1; exact absurd h h1
  split at h
  · exact absurd h (by decide)
  split at h
  · rename_i h1; exact absurd h h1
  split at h
  · exact absurd h (by decide)
  split at h
  · rename_i h1; exact absurd h h1
  rename_i h4
  exact Decidable.byContradiction h4
/-- what may be is as Ask.Ok says, and its sum can be made -/
theorem ask_ok {S : Spc} (h : (askS S).right = true) : (askS S).Ok ∧ (ofR (S.init.map rq) (S.main.map rq)).2 = true ∧ (askS S).ports.length ≤ 12 := by
  have h0 : (checkV S).1 = 0 := of_decide_eq_true h
  obtain ⟨h1, h2, h3, h4⟩ := checked h0
  obtain ⟨h5, h6⟩ := ctrs_ports _ _ _ (check_main h0)
  have hb : (big : Int) = 1099511627776 := rfl
  have hM := in_map h4
  have S1 := of_in (k := big) (by decide) (i := S.init.map rq) hM (by rw [List.length_map, hb]; omega)
  obtain ⟨⟨q1, _⟩, ⟨q2, _⟩, q3, _⟩ := tot_le (k := big) (by decide) hM
  have hg := fitsR_iff.1 (maxL_ge (S.init.map rq) ⟨tot Rx.c (S.main.map rq), tot Rx.m (S.main.map rq), tot Rx.p (S.main.map rq)⟩).1
  have hl : (S.main.flatMap (·.ports)).length ≤ 12 := by
    have h3l : ∀ x ∈ S.main, x.ports.length ≤ 3 := few_ports _ _ _ (check_main h0)
    have : ∀ l : List Ctr, (∀ x ∈ l, x.ports.length ≤ 3) → (l.flatMap (·.ports)).length ≤ l.length * 3 := fun l => by
      induction l with
      | nil => intro _; simp
      | cons x l ih =>
        intro hl
        have := hl x (by simp)
        have := ih fun y hy => hl y (by simp [hy])
        rw [List.flatMap_cons, List.length_append, List.length_cons]
        omega
    have := this S.main h3l
    omega
  refine ⟨⟨?_, ?_, ?_, fun p hp => (h5 p hp).1, h6⟩, by rw [S1], hl⟩
  · show 0 ≤ (ofR (S.init.map rq) (S.main.map rq)).1.c
    rw [S1]; exact Int.le_trans q1 hg.1
  · show 0 ≤ (ofR (S.init.map rq) (S.main.map rq)).1.m
    rw [S1]; exact Int.le_trans q2 hg.2.1
  · show 0 ≤ (ofR (S.init.map rq) (S.main.map rq)).1.p
    rw [S1]; exact Int.le_trans q3 hg.2.2
end Nd
end Go.Proofs.YtbichomjpmmjmaaGreatDoor

/-
  The contract of spec.Labels: what is said of labels. All that was there is left as it was. Conditions: as SpecStep; the texts are short.
-/
namespace Go.Proofs.YtbichomjpmmjmaaGreatDoor
open Go.ChangeShapes Go.WideShapes Go.ChangeAt Go.RowKit Go.Lib
open Sd Lists
namespace SpecOwn
theorem cell_new (w : World) (v : Value) (t : TypeId) : (w.alloc (.cells #[v] t)).cell? ⟨w.heap.size, 0, none⟩ = some v := by simp
theorem less_total : ∀ a b : List UInt8, (Op.bytesLess a b || (a == b)) = !(Op.bytesLess b a)
  | [], [] => rfl
  | [], b :: y => by simp [Op.bytesLess]
  | a :: x, [] => by simp [Op.bytesLess]
  | a :: x, b :: y => by
    have ih := less_total x y
    simp only [Op.bytesLess]
    by_cases h1 : a = b
    · subst h1
      simpa using ih
    · have h2 : (a == b) = false := by simpa using h1
      have h3 : (b == a) = false := by simpa using fun e => h1 e.symm
      have h4 : (a :: x == b :: y) = false := by simp [h1]
      rw [h4]
      simp only [h2, h3, Bool.false_and, Bool.or_false]
      have : ¬ (a < b) ↔ b < a := by
        constructor
        · intro h; exact UInt8.lt_of_le_of_ne (UInt8.not_lt.1 h) (fun e => h1 e.symm)
        · intro h h'; exact absurd (UInt8.lt_trans h h') (UInt8.lt_irrefl _)
      by_cases h : a < b
      · have h' : ¬ b < a := fun e => (this.2 e) h
        simp [h, h']
      · have h' : b < a := this.1 h
        simp [h, h']
def LBox (x : Lbl) (w : World) (b : Nat) : Prop := w.heap[b]? = some (.cells #[.string x.key, .string x.val] 70 (0, 0))
theorem LBox.keep {x : Lbl} {w w' : World} {b : Nat} (h : LBox x w b) (hb : Below w.heap.size w w') : LBox x w' b := (hb.block b (lt_of_block h)).trans h
set_option maxRecDepth 100000 in
set_option maxHeartbeats 4000000 in
theorem labels_gen (name : ByteArray) (A : Option Addr) (cap : Nat) (l : List Lbl) (hn : name.size ≤ 1000) (hl : l.length ≤ 9223372036854775807) (hlight : ∀ x ∈ l, x.key.size < 4294967281 ∧ x.val.size ≤ 4294967281) (w : World) (hL : SLaid w) (h : Lbls w A l) :
    Calls Tryz.prog 76 #[.string name, .slice A l.length cap] w (Tells (labelsV name l) w) := by
  have H := Lib.hid h
  have HLI := Lib.hid hlight
  have HN := Lib.hid hn
  have HL := Lib.hid hL
  have hl' : (l.length : Int) ≤ 9223372036854775807 := by omega
  clear h hlight hL
  have said : ∀ (c : Int) (s : ByteArray) (w1 : World), c ≠ 0 → labelsV name l = (c, s) → Below w.heap.size w w1 → ∀ e w2, Tells (newV c s) w1 e w2 → Tells (labelsV name l) w e w2 := by
    intro c s w1 h0 he hb e w2 ht
    rw [he]
    have : newV c s = (c, s) := if_neg h0
    rw [← this]
    exact tells_mono ht hb
  have SAID := Lib.hid said
  clear said
  by_cases h4 : 4 < l.length
  · have HE := Lib.hid (show labelsV name l = (2, name) by unfold labelsV; rw [if_pos h4])
    go_enter Tryz.func76, Tryz.ntmps76
    go_wp2_with fail
    refine (new_says 2 name w.heap.size 1 _ (by omega) (by simp)).mono ?_
    rintro e w2 hE
    have HX := Lib.hid (SAID.out 2 name _ (by decide) HE.out ((Below.refl w.heap.size w).alloc (Nat.le_refl _) _) e w2 hE)
    obtain ⟨E, rfl, _⟩ := hE
    go_wp2_with fail
    go_ret
    exact HX.out
  · have HE := Lib.hid (show SpecRef.LHere name l 0 by unfold SpecRef.LHere labelsV; rw [if_neg h4]; rfl)
    have H4 := Lib.hid h4
    go_enter Tryz.func76, Tryz.ntmps76
    go_wp2_with fail
    go_loopw [18] (fun i wr => ∃ k : Nat, k ≤ l.length ∧ i = .int .i64 k ∧ Hid (SpecRef.LHere name l k) ∧ Hid (Below w.heap.size w wr)) (fun i _ => l.length - (RowKit.intOf i).toNat)
    case atStart => exact ⟨0, Nat.zero_le _, rfl, HE.out, Below.refl _ _⟩
    case round =>
      obtain ⟨k, hk, rfl, HK, HW⟩ := hrel
      by_cases hlt : k < l.length
      · obtain ⟨p, rfl, hp, hc⟩ := (H.out.below HW.out).at hlt
        obtain ⟨x, hx⟩ : ∃ x, l[k] = x := ⟨_, rfl⟩
        rw [hx] at hc
        have hxm : x ∈ l := hx ▸ List.getElem_mem hlt
        have hkx := (HLI.out x hxm).1
        have hvx := (HLI.out x hxm).2
        obtain ⟨c0, c1⟩ := hc
        have HX := Lib.hid hx
        clear hx hxm
        have hkn : (k : Int) < (l.length : Int) := by omega
        have HS := Lib.hid (show labelsV name l = labelsFrom name k (if k = 0 then none else l[k - 1]?) (x :: l.drop (k + 1)) by
          have := HK.out
          unfold SpecRef.LHere at this
          rw [this, List.drop_eq_getElem_cons hlt, HX.out])
        have hks := HN.out
        have hasz := SpecRef.atB_size name k (by omega)
        go_wp2_with fail
        obtain ⟨w3, hw3⟩ : ∃ w3, wr.alloc (.cells #[.string x.key, .string x.val] 70) = w3 := ⟨_, rfl⟩
        have hb3 : Below wr.heap.size wr w3 := by rw [← hw3]; exact (Below.refl _ _).alloc (Nat.le_refl _) _
        have HBX3 := Lib.hid (show LBox x w3 wr.heap.size by rw [← hw3]; exact heap_alloc_new wr _)
        have HW3 := Lib.hid (HW.out.trans (hb3.mono HW.out.size))
        rw [hw3]
        obtain ⟨bx, hbx⟩ : ∃ b, wr.heap.size = b := ⟨_, rfl⟩
        rw [hbx] at HBX3 ⊢
        clear hw3 hbx hb3 c0 c1 hp
        refine (member_any name k (by omega) (by omega) w3 (HL.out.below HW3.out).tab).mono ?_
        rintro e w4 ⟨rfl, hb4⟩
        have HBX4 := Lib.hid (HBX3.out.keep hb4)
        have HW4 := Lib.hid (HW3.out.trans (hb4.mono HW3.out.size))
        obtain ⟨u, hu⟩ : ∃ u, atB name k = u := ⟨_, rfl⟩
        rw [hu] at hasz ⊢
        have HU := Lib.hid hu
        have hadd1 : ∀ v, (Op.stringOp .add u ⟨#[46, 107, 101, 121]⟩).run Tryz.prog v = .ok (.string (u ++ ⟨#[46, 107, 101, 121]⟩)) v := fun v => run_string_add_sum v _ _ (by show _ + 4 ≤ _; omega)
        have hadd2 : ∀ v, (Op.stringOp .add u ⟨#[46, 118, 97, 108]⟩).run Tryz.prog v = .ok (.string (u ++ ⟨#[46, 118, 97, 108]⟩)) v := fun v => run_string_add_sum v _ _ (by show _ + 4 ≤ _; omega)
        have hkz : (u ++ ⟨#[46, 107, 101, 121]⟩ : ByteArray).size ≤ 100000 := by rw [ByteArray.size_append]; show _ + 4 ≤ _; omega
        have hvz : (u ++ ⟨#[46, 118, 97, 108]⟩ : ByteArray).size ≤ 100000 := by rw [ByteArray.size_append]; show _ + 4 ≤ _; omega
        obtain ⟨d0, d1, _, _⟩ := two_cells HBX4.out
        clear hb4 hu
        go_wp2_with fail
        refine (Text.key_any x.key (by omega) w4 (HL.out.below HW4.out).text).mono ?_
        rintro e w5 ⟨rfl, hb5⟩
        have HBX5 := Lib.hid (HBX4.out.keep hb5)
        have HW5 := Lib.hid (HW4.out.trans (hb5.mono HW4.out.size))
        clear hb5 d0 d1
        cases hkey : TextPure.keyL x.key.data.toList with
        | false =>
          have HC : Hid (Text.codeN false 31 = 31) := Lib.hid rfl
          rw [HC.out]
          have HD := Lib.hid (show labelsV name l = (31, u ++ t_key) by rw [HS.out, labelsFrom_cons, if_pos (show isKey x.key = false from hkey), HU.out])
          clear hkey
          go_wp2_with fail
          refine (new_says 31 (u ++ t_key) w5.heap.size 1 _ hkz (by simp [t_key])).mono ?_
          rintro e w6 hE
          have HF := Lib.hid (SAID.out 31 _ _ (by decide) HD.out (HW5.out.alloc HW5.out.size _) e w6 hE)
          obtain ⟨E, rfl, _⟩ := hE
          go_wp2_with fail
          go_ret
          exact HF.out
        | true =>
          have HC : Hid (Text.codeN true 31 = 0) := Lib.hid rfl
          rw [HC.out]
          have HKEY := Lib.hid hkey
          clear hkey
          obtain ⟨d0, d1, _, _⟩ := two_cells HBX5.out
          obtain ⟨o, ho⟩ : ∃ o, notMore (if k = 0 then none else l[k - 1]?) x = o := ⟨_, rfl⟩
          have HO := Lib.hid ho
          rcases k with _ | m
          · have ho' : o = false := by rw [← ho]; rfl
            subst ho'
            clear ho
            go_wp2_with fail
            go_quiet (fail)
            go_wp2_with fail
            refine (Text.val_any x.val (by unfold maxLen; omega) _ (HL.out.below (HW5.out.trans ((Kit.below_drewN _ _ _).mono HW5.out.size))).text).mono ?_
            rintro e w6 ⟨rfl, rfl⟩
            cases hval : TextPure.valL x.val.data.toList with
            | false =>
              have HC2 : Hid (Text.codeN false 32 = 32) := Lib.hid rfl
              rw [HC2.out]
              have HD := Lib.hid (show labelsV name l = (32, u ++ t_val) by rw [HS.out, labelsFrom_cons, if_neg (show ¬ isKey x.key = false by show ¬ TextPure.keyL _ = _; rw [HKEY.out]; simp), if_neg (show ¬ notMore _ x = true by rw [HO.out]; simp), if_pos (show isVal x.val = false from hval), HU.out])
              clear hval
              go_wp2_with fail
              refine (new_says 32 (u ++ t_val) _ 1 _ hvz (cell_new _ _ _)).mono ?_
              rintro e w7 hE
              have HF := Lib.hid (SAID.out 32 _ _ (by decide) HD.out (HW5.out.trans (((Kit.below_drewN _ _ _).alloc (Nat.le_refl _) _).mono HW5.out.size)) e w7 hE)
              obtain ⟨E, rfl, _⟩ := hE
              go_wp2_with fail
              go_ret
              exact HF.out
            | true =>
              have HC2 : Hid (Text.codeN true 32 = 0) := Lib.hid rfl
              rw [HC2.out]
              have HNX := Lib.hid (show SpecRef.LHere name l (0 + 1) by
                unfold SpecRef.LHere
                rw [HS.out, labelsFrom_cons, if_neg (show ¬ isKey x.key = false by show ¬ TextPure.keyL _ = _; rw [HKEY.out]; simp), if_neg (show ¬ notMore _ x = true by rw [HO.out]; simp), if_neg (show ¬ isVal x.val = false by show ¬ TextPure.valL _ = _; rw [hval]; simp), if_neg (by omega), show 0 + 1 - 1 = 0 by omega, List.getElem?_eq_getElem hlt, HX.out])
              clear hval
              go_wp2
              go_roundw
              case rel => exact ⟨0 + 1, by omega, by go_num, HNX.out, HW5.out.trans ((Kit.below_drewN _ _ _).mono HW5.out.size)⟩
              case measure => simp [RowKit.intOf]; omega
          · obtain ⟨p', hpp, hpb, hcp⟩ := (H.out.below HW5.out).at (k := m) (by omega)
            injection hpp with hpp
            subst hpp
            obtain ⟨y, hy⟩ : ∃ y, l[m] = y := ⟨_, rfl⟩
            have ho' : o = !(Op.bytesLess y.key.toList x.key.toList) := by
              rw [← ho, if_neg (by omega), show m + 1 - 1 = m by omega, List.getElem?_eq_getElem (by omega), hy]; rfl
            rw [hy] at hcp
            obtain ⟨g0, g1⟩ := hcp
            have hwr : IntKind.i64.wrap (m : Int) = (m : Int) := IntWalk.i64_in _ (by omega)
            have hm0 : (0 : Int) ≤ (m : Int) := by omega
            have hmn : (m : Int) < (l.length : Int) := by omega
            have hmn1 : (m : Int) + 1 < (l.length : Int) := by omega
            have hmn2 : m < l.length := by omega
            have hp0 : (0 : Int) ≤ (m : Int) + 1 := by omega
            have hp1 : ((m : Int) + 1).toNat = m + 1 := by omega
            clear ho hy g1
            cases o with
            | true =>
              have hbl : Op.bytesLess y.key.toList x.key.toList = false := by simpa using ho'.symm
              have hge : ∀ v, (binOp .leq 9 (.string x.key) (.string y.key)).run Tryz.prog v = .ok (.bool true) v := fun v => by
                have ht := less_total x.key.toList y.key.toList
                rw [hbl] at ht
                simp [binOp, Op.stringOp]; simpa using ht
              clear ho' hbl
              go_wp2_with fail
              go_quiet (fail)
              have HD := Lib.hid (show labelsV name l = (4, u ++ t_key) by rw [HS.out, labelsFrom_cons, if_neg (show ¬ isKey x.key = false by show ¬ TextPure.keyL _ = _; rw [HKEY.out]; simp), if_pos HO.out, HU.out])
              go_wp2_with fail
              refine (new_says 4 (u ++ t_key) _ 1 _ hkz (cell_new _ _ _)).mono ?_
              rintro e w7 hE
              have HF := Lib.hid (SAID.out 4 _ _ (by decide) HD.out (HW5.out.trans (((Kit.below_drewN _ _ _).alloc (Nat.le_refl _) _).mono HW5.out.size)) e w7 hE)
              obtain ⟨E, rfl, _⟩ := hE
              go_wp2_with fail
              go_ret
              exact HF.out
            | false =>
              have hbl : Op.bytesLess y.key.toList x.key.toList = true := by simpa using ho'.symm
              have hge : ∀ v, (binOp .leq 9 (.string x.key) (.string y.key)).run Tryz.prog v = .ok (.bool false) v := fun v => by
                have ht := less_total x.key.toList y.key.toList
                rw [hbl] at ht
                simp [binOp, Op.stringOp]; simpa using ht
              clear ho' hbl
              go_wp2_with fail
              go_quiet (fail)
              go_wp2_with fail
              refine (Text.val_any x.val (by unfold maxLen; omega) _ (HL.out.below (HW5.out.trans ((Kit.below_drewN _ _ _).mono HW5.out.size))).text).mono ?_
              rintro e w6 ⟨rfl, rfl⟩
              cases hval : TextPure.valL x.val.data.toList with
              | false =>
                have HC2 : Hid (Text.codeN false 32 = 32) := Lib.hid rfl
                rw [HC2.out]
                have HD := Lib.hid (show labelsV name l = (32, u ++ t_val) by rw [HS.out, labelsFrom_cons, if_neg (show ¬ isKey x.key = false by show ¬ TextPure.keyL _ = _; rw [HKEY.out]; simp), if_neg (show ¬ notMore _ x = true by rw [HO.out]; simp), if_pos (show isVal x.val = false from hval), HU.out])
                clear hval
                go_wp2_with fail
                refine (new_says 32 (u ++ t_val) _ 1 _ hvz (cell_new _ _ _)).mono ?_
                rintro e w7 hE
                have HF := Lib.hid (SAID.out 32 _ _ (by decide) HD.out (HW5.out.trans (((Kit.below_drewN _ _ _).alloc (Nat.le_refl _) _).mono HW5.out.size)) e w7 hE)
                obtain ⟨E, rfl, _⟩ := hE
                go_wp2_with fail
                go_ret
                exact HF.out
              | true =>
                have HC2 : Hid (Text.codeN true 32 = 0) := Lib.hid rfl
                rw [HC2.out]
                have HNX := Lib.hid (show SpecRef.LHere name l ((m + 1) + 1) by
                  unfold SpecRef.LHere
                  rw [HS.out, labelsFrom_cons, if_neg (show ¬ isKey x.key = false by show ¬ TextPure.keyL _ = _; rw [HKEY.out]; simp), if_neg (show ¬ notMore _ x = true by rw [HO.out]; simp), if_neg (show ¬ isVal x.val = false by show ¬ TextPure.valL _ = _; rw [hval]; simp), if_neg (by omega), show (m + 1) + 1 - 1 = (m + 1) by omega, List.getElem?_eq_getElem hlt, HX.out])
                clear hval
                go_wp2
                go_roundw
                case rel => exact ⟨(m + 1) + 1, by omega, by go_num, HNX.out, HW5.out.trans ((Kit.below_drewN _ _ _).mono HW5.out.size)⟩
                case measure => simp [RowKit.intOf]; omega
      · have HD := Lib.hid (show labelsV name l = fine by have := HK.out; unfold SpecRef.LHere at this; rw [this, List.drop_eq_nil_of_le (by omega)]; rfl)
        go_wp2
        go_ret
        rw [HD.out]
        exact told_fine _ _ HW.out
theorem labels_any (name : ByteArray) (A : Option Addr) (cap : Nat) (l : List Lbl) (hn : name.size ≤ 1000) (hl : l.length ≤ 9223372036854775807) (hlight : ∀ x ∈ l, x.key.size ≤ 100 ∧ x.val.size ≤ 100) (w : World) (hL : SLaid w) (h : Lbls w A l) :
    Calls Tryz.prog 76 #[.string name, .slice A l.length cap] w (Tells (labelsV name l) w) :=
  labels_gen name A cap l hn hl (fun x hx => by have := hlight x hx; omega) w hL h
end SpecOwn
end Go.Proofs.YtbichomjpmmjmaaGreatDoor
