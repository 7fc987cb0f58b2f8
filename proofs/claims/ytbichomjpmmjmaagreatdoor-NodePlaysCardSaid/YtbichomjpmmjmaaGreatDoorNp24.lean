/-
  The document's answers for nodes: a pod that comes. All that was there is left as it was. Conditions: the spec is not too long and lies in memory, the pods lie in a row, they are fewer than 100000.
-/
import Derived.Test.YtbichomjpmmjmaaGreatDoorNp23
import Derived.Deep.Cut
set_option linter.unusedVariables false
set_option linter.unusedSimpArgs false
namespace Go.Proofs.YtbichomjpmmjmaaGreatDoor
open Go.ChangeShapes Go.WideShapes Go.ChangeAt Go.RowKit Go.Lib
open NumMath
namespace Nd
open Re Sd
theorem run_build_pod (u : Int) (a : Rx) (PA : Option Addr) (m pc : Nat) (w : World) : (Instr.buildSlice 27 1 #[(0, .agg #[.int .i64 u, .int .i64 a.c, .int .i64 a.m, .int .i64 a.p, .slice PA m pc])]).run Tryz.prog w = .ok (.slice (some ⟨w.heap.size, 0, none⟩) 1 1) (w.alloc (.cells #[.int .i64 u, .int .i64 a.c, .int .i64 a.m, .int .i64 a.p, .slice PA m pc] 51)) := by
  obtain ⟨ie, hie, hz, hs, _⟩ := info_pod
  refine run_buildSlice w _ _ 1 _ _ ie _ Tryz.underlying27 hie hz (by rw [hs]; decide) (by rw [hs]; decide) ?_
  rw [hs]
  rw [show (Array.range (1 * 5)).map ((Value.agg #[.int .i64 0, .int .i64 0, .int .i64 0, .int .i64 0, .slice none 0 0]).cells[· % (Value.agg #[.int .i64 0, .int .i64 0, .int .i64 0, .int .i64 0, .slice none 0 0]).cells.size]!) = #[.int .i64 0, .int .i64 0, .int .i64 0, .int .i64 0, .slice none 0 0] by kernel_rfl]
  simp [Instr.fill, Value.cells]
theorem res_adm (tmps : Array Value) (w : World) (p : Nat) (xs : List Value) (x : Value) (h2 : tmps.getD 6 undef = .pointer (some ⟨p, 0, none⟩)) (h3 : tmps.getD 7 undef = x) (hX : w.heap[p]? = some (.cells xs.toArray 29 (0, 0))) (hm : xs.length = 4) :
    (results Tryz.f33 tmps).run Tryz.prog w = .ok (.tuple #[.agg xs.toArray, x]) w := by
  have h1 : (loadVar 29 ⟨p, 0, none⟩).run Tryz.prog w = .ok (.agg xs.toArray) w := run_loadVar_mid w p 0 29 _ _ (range_box hX) Tryz.underlying29 rfl (by rw [hm]; kernel_rfl)
  simp only [results, Tryz.results33]
  simp only [Array.getD_eq_getD_getElem?] at h2 h3
  have ha : (asAddr (tmps[6]?.getD undef)).run Tryz.prog w = .ok ⟨p, 0, none⟩ w := by rw [h2]; rfl
  simp [Sem.run_bind, h1, ha, h3]
theorem src_take5 {w : World} {base : Nat} {e : TypeId} {A : Option Addr} {n c k : Nat} {l : List Pd} (h : w.ownsRow base e 5 (.slice A n c) n (flat5 l)) (hk : k ≤ n) : (A = none ∧ k = 0 ∧ c = 0) ∨ ∃ ad, A = some ad ∧ ∀ i u, (flat5 (l.take k))[i]? = some u → w.cell? (ad.add i) = some u := by
  rcases own_addr h with ⟨rfl, h0, h1⟩ | ⟨r, rfl, _, _⟩
  · exact .inl ⟨rfl, by omega, h1⟩
  · refine .inr ⟨_, rfl, src_to h rfl k⟩
theorem src_own5 {w : World} {base : Nat} {e : TypeId} {A : Option Addr} {n c : Nat} {xs : List Value} (h : w.ownsRow base e 5 (.slice A n c) n xs) : (A = none ∧ n = 0 ∧ c = 0) ∨ ∃ ad, A = some ad ∧ ∀ i u, xs[i]? = some u → w.cell? (ad.add i) = some u := by
  rcases own_addr h with h0 | ⟨r, rfl, _, _⟩
  · exact .inl h0
  · refine .inr ⟨_, rfl, fun i u hu => ?_⟩
    have hl := (List.getElem?_eq_some_iff.1 hu).1
    rw [at_one, h.cellAt i (by have := h.1; omega), hu]
theorem adm_no {has : Rx} {l : Pods} {u : Int} {q : Ask} (h : admC has l u q ≠ 0) : admL has l u q = l := by unfold admL; rw [if_neg h]
set_option maxRecDepth 100000 in
set_option maxHeartbeats 8000000 in
theorem refadmit_any {B : Nat} {ds : List Pd} {A : Option Addr} {c : Nat} (has : Rx) (u : Int) (S : Spc) (LA : Option Addr) (lc : Nat) (IA : Option Addr) (ic : Nat) (MA : Option Addr) (mc : Nat) (hL : Book.Light S) (w : World) (h : Nl w B A c ds) (hS : S.In w LA lc IA ic MA mc) (hfew : ds.length ≤ 99999) :
    Calls Tryz.prog 33 #[.agg #[.int .i64 has.c, .int .i64 has.m, .int .i64 has.p, .slice A ds.length c], .int .i64 u, .agg #[.string S.name, .slice LA S.labels.length lc, .slice IA S.init.length ic, .slice MA S.main.length mc, .int .i64 S.restart, .int .i64 S.grace, .int .i64 S.prio]] w fun e w' => ∃ (A' : Option Addr) (c' : Nat) (ds' : List Pd), e = .returned (.tuple #[.agg #[.int .i64 has.c, .int .i64 has.m, .int .i64 has.p, .slice A' ds'.length c'], .int .i64 (admC has (pods ds) u (askS S))]) ∧ pods ds' = admL has (pods ds) u (askS S) ∧ Nl w' 0 A' c' ds' ∧ Below w.heap.size w w' := by
  have H := Lib.hid h
  have HS := Lib.hid hS
  have HL := Lib.hid hL
  obtain ⟨n, hln⟩ : ∃ n, ds.length = n := ⟨_, rfl⟩
  have HLN := Lib.hid hln
  have HNM := Lib.hid (show n ≤ 99999 by rw [← hln]; exact hfew)
  rw [hln]
  clear h hln hS hL hfew
  obtain ⟨w0, hw0⟩ : ∃ v, ((w.alloc (.cells #[.int .i64 has.c, .int .i64 has.m, .int .i64 has.p, .slice A n c] 29)).alloc (.cells #[.string S.name, .slice LA S.labels.length lc, .slice IA S.init.length ic, .slice MA S.main.length mc, .int .i64 S.restart, .int .i64 S.grace, .int .i64 S.prio] 35)).alloc (.cells #[.int .i64 0, .int .i64 0, .int .i64 0, .slice none 0 0] 29) = v := ⟨_, rfl⟩
  have N0 := Lib.hid (show w0.heap[w.heap.size]? = some (.cells ([.int .i64 has.c, .int .i64 has.m, .int .i64 has.p, .slice A n c] : List Value).toArray 29 (0, 0)) by rw [← hw0, Below.heap_alloc _ _ _ (by simp; omega), Below.heap_alloc _ _ _ (by simp)]; exact heap_alloc_new w _)
  have S0 := Lib.hid (show w0.heap[w.heap.size + 1]? = some (.cells ([.string S.name, .slice LA S.labels.length lc, .slice IA S.init.length ic, .slice MA S.main.length mc, .int .i64 S.restart, .int .i64 S.grace, .int .i64 S.prio] : List Value).toArray 35 (0, 0)) by rw [← hw0, Below.heap_alloc _ _ _ (by simp)]; have := heap_alloc_new (w.alloc (.cells #[.int .i64 has.c, .int .i64 has.m, .int .i64 has.p, .slice A n c] 29)) (.cells #[.string S.name, .slice LA S.labels.length lc, .slice IA S.init.length ic, .slice MA S.main.length mc, .int .i64 S.restart, .int .i64 S.grace, .int .i64 S.prio] 35); rw [World.size_alloc] at this; exact this)
  have Z0 := Lib.hid (show w0.heap[w.heap.size + 2]? = some (.cells #[.int .i64 0, .int .i64 0, .int .i64 0, .slice none 0 0] 29 (0, 0)) by rw [← hw0]; have := heap_alloc_new ((w.alloc (.cells #[.int .i64 has.c, .int .i64 has.m, .int .i64 has.p, .slice A n c] 29)).alloc (.cells #[.string S.name, .slice LA S.labels.length lc, .slice IA S.init.length ic, .slice MA S.main.length mc, .int .i64 S.restart, .int .i64 S.grace, .int .i64 S.prio] 35)) (.cells #[.int .i64 0, .int .i64 0, .int .i64 0, .slice none 0 0] 29); rw [World.size_alloc, World.size_alloc] at this; exact this)
  have B0 := Lib.hid (show Below w.heap.size w w0 by rw [← hw0]; go_grown)
  go_enter Tryz.func33, Tryz.ntmps33
  by_cases hu1 : u < 1
  · have HE := Lib.hid (show admC has (pods ds) u (askS S) = 1 by unfold admC; rw [if_pos hu1])
    have hu2 : decide (u < 1) = true := decide_eq_true hu1
    have HA0 := Lib.hid (show admL has (pods ds) u (askS S) = pods ds from adm_no (by rw [HE.out]; decide))
    have RN := Lib.hid (show w0.rangeAt w.heap.size 0 [.int .i64 has.c, .int .i64 has.m, .int .i64 has.p, .slice A n c] from range_box N0.out)
    obtain ⟨w6, hw6⟩ : ∃ v, w0.setCells (w.heap.size + 2) 0 [.int .i64 has.c, .int .i64 has.m, .int .i64 has.p, .slice A n c] = v := ⟨_, rfl⟩
    have THy := Lib.hid (show w0.there (w.heap.size + 2) 0 4 from Back.th Z0.out rfl)
    have ONEy := Lib.hid (show ([.int .i64 has.c, .int .i64 has.m, .int .i64 has.p, .slice A n c] : List Value).toArray.all (·.oneCell') = true by simp [Value.oneCell'])
    have HVy := Lib.hid hw6
    have Z6 := Lib.hid (show w6.heap[w.heap.size + 2]? = some (.cells ([.int .i64 has.c, .int .i64 has.m, .int .i64 has.p, .slice A n c] : List Value).toArray 29 (0, 0)) by rw [← hw6]; exact Back.st Z0.out rfl)
    have B6 := Lib.hid (show Below w.heap.size w w6 by rw [← hw6]; exact bel_set B0.out (by omega))
    clear hw6
    go_wp2_with (first | (refine wpList_load_mid rfl 29 _ rfl _ _ rfl _ _ RN.out Tryz.underlying29 rfl (by kernel_rfl) ?_) | (refine wpList_store_at rfl 29 _ _ rfl _ _ _ rfl rfl THy.out (by kernel_rfl) ONEy.out HVy.out ?_))
    refine bodyPost_ret (v := .tuple #[.agg ([.int .i64 has.c, .int .i64 has.m, .int .i64 has.p, .slice A n c] : List Value).toArray, .int .i64 1]) (res_adm _ _ _ [.int .i64 has.c, .int .i64 has.m, .int .i64 has.p, .slice A n c] _ rfl rfl Z6.out rfl) rfl ?_
    exact ⟨A, c, ds, by rw [HE.out, HLN.out], HA0.out.symm, (H.out.below B6.out).base (Nat.zero_le _), B6.out⟩
  have hu2 : decide (u < 1) = false := decide_eq_false hu1
  have HU1 := Lib.hid hu1
  have RN := Lib.hid (show w0.rangeAt w.heap.size 0 [.int .i64 has.c, .int .i64 has.m, .int .i64 has.p, .slice A n c] from range_box N0.out)
  go_wp2_with (first | (refine wpList_load_mid rfl 29 _ rfl _ _ rfl _ _ RN.out Tryz.underlying29 rfl (by kernel_rfl) ?_))
  clear hw0 hu2
  refine (show Calls Tryz.prog 19 #[.agg #[.int .i64 has.c, .int .i64 has.m, .int .i64 has.p, .slice A n c], .int .i64 u] w0 _ by rw [← HLN.out]; exact refindex_any has u w0 (H.out.below B0.out)).mono ?_
  rintro e v1 ⟨rfl, hb1⟩
  have B1 := Lib.hid (B0.out.trans (hb1.mono B0.out.size))
  have N1 := Lib.hid ((hb1.block _ (lt_of_block N0.out)).trans N0.out)
  have S1 := Lib.hid ((hb1.block _ (lt_of_block S0.out)).trans S0.out)
  have Z1 := Lib.hid ((hb1.block _ (lt_of_block Z0.out)).trans Z0.out)
  clear hb1 RN N0 S0 Z0 B0
  cases hin : isIn u (pods ds) with
  | true =>
    obtain ⟨k, hk⟩ : ∃ k : Nat, idxI u (pods ds) = (k : Int) := ⟨_, by unfold idxI; rw [hin, if_pos rfl]⟩
    rw [hk]
    have HE := Lib.hid (show admC has (pods ds) u (askS S) = 7 by unfold admC; rw [if_neg (show ¬ u < 1 by have := HU1.out; omega), if_pos hin])
    have hk2 : decide ((k : Int) < 0) = false := decide_eq_false (by omega)
    have hk3 : decide (0 ≤ (k : Int)) = true := decide_eq_true (by omega)
    have hk4 : (0 : Int) ≤ (k : Int) := by omega
    clear hk hin
    have HA0 := Lib.hid (show admL has (pods ds) u (askS S) = pods ds from adm_no (by rw [HE.out]; decide))
    have RN := Lib.hid (show v1.rangeAt w.heap.size 0 [.int .i64 has.c, .int .i64 has.m, .int .i64 has.p, .slice A n c] from range_box N1.out)
    obtain ⟨w6, hw6⟩ : ∃ v, v1.setCells (w.heap.size + 2) 0 [.int .i64 has.c, .int .i64 has.m, .int .i64 has.p, .slice A n c] = v := ⟨_, rfl⟩
    have THy := Lib.hid (show v1.there (w.heap.size + 2) 0 4 from Back.th Z1.out rfl)
    have ONEy := Lib.hid (show ([.int .i64 has.c, .int .i64 has.m, .int .i64 has.p, .slice A n c] : List Value).toArray.all (·.oneCell') = true by simp [Value.oneCell'])
    have HVy := Lib.hid hw6
    have Z6 := Lib.hid (show w6.heap[w.heap.size + 2]? = some (.cells ([.int .i64 has.c, .int .i64 has.m, .int .i64 has.p, .slice A n c] : List Value).toArray 29 (0, 0)) by rw [← hw6]; exact Back.st Z1.out rfl)
    have B6 := Lib.hid (show Below w.heap.size w w6 by rw [← hw6]; exact bel_set B1.out (by omega))
    clear hw6
    go_wp2_with (first | (refine wpList_load_mid rfl 29 _ rfl _ _ rfl _ _ RN.out Tryz.underlying29 rfl (by kernel_rfl) ?_) | (refine wpList_store_at rfl 29 _ _ rfl _ _ _ rfl rfl THy.out (by kernel_rfl) ONEy.out HVy.out ?_))
    refine bodyPost_ret (v := .tuple #[.agg ([.int .i64 has.c, .int .i64 has.m, .int .i64 has.p, .slice A n c] : List Value).toArray, .int .i64 7]) (res_adm _ _ _ [.int .i64 has.c, .int .i64 has.m, .int .i64 has.p, .slice A n c] _ rfl rfl Z6.out rfl) rfl ?_
    exact ⟨A, c, ds, by rw [HE.out, HLN.out], HA0.out.symm, (H.out.below B6.out).base (Nat.zero_le _), B6.out⟩
  | false =>
    have e0 : idxI u (pods ds) = -1 := by unfold idxI; rw [hin, if_neg (by decide)]
    rw [e0]
    have HIN := Lib.hid hin
    have HAC := Lib.hid (show admC has (pods ds) u (askS S) = fitC has (pods ds) (askS S) by unfold admC; rw [if_neg (show ¬ u < 1 by have := HU1.out; omega), if_neg (by rw [hin]; decide)])
    clear e0 hin
    have RN := Lib.hid (show v1.rangeAt w.heap.size 0 [.int .i64 has.c, .int .i64 has.m, .int .i64 has.p, .slice A n c] from range_box N1.out)
    have RS := Lib.hid (show v1.rangeAt (w.heap.size + 1) 0 [.string S.name, .slice LA S.labels.length lc, .slice IA S.init.length ic, .slice MA S.main.length mc, .int .i64 S.restart, .int .i64 S.grace, .int .i64 S.prio] from range_box S1.out)
    go_wp2_with (first | (refine wpList_load_mid rfl 29 _ rfl _ _ rfl _ _ RN.out Tryz.underlying29 rfl (by kernel_rfl) ?_) | (refine wpList_load_mid rfl 35 _ rfl _ _ rfl _ _ RS.out Tryz.underlying35 rfl (by kernel_rfl) ?_))
    refine (show Calls Tryz.prog 35 #[.agg #[.int .i64 has.c, .int .i64 has.m, .int .i64 has.p, .slice A n c], .agg #[.string S.name, .slice LA S.labels.length lc, .slice IA S.init.length ic, .slice MA S.main.length mc, .int .i64 S.restart, .int .i64 S.grace, .int .i64 S.prio]] v1 _ by rw [← HLN.out]; exact reffit_any has S LA lc IA ic MA mc HL.out v1 (H.out.below B1.out) (HS.out.below B1.out)).mono ?_
    rintro e v2 ⟨rfl, hb2⟩
    have B2 := Lib.hid (B1.out.trans (hb2.mono B1.out.size))
    have N2 := Lib.hid ((hb2.block _ (lt_of_block N1.out)).trans N1.out)
    have S2 := Lib.hid ((hb2.block _ (lt_of_block S1.out)).trans S1.out)
    have Z2 := Lib.hid ((hb2.block _ (lt_of_block Z1.out)).trans Z1.out)
    clear hb2 RN RS N1 S1 Z1
    obtain ⟨z, hz⟩ : ∃ z, fitC has (pods ds) (askS S) = z := ⟨_, rfl⟩
    have HE := Lib.hid (show admC has (pods ds) u (askS S) = z by rw [HAC.out, hz])
    rw [hz]
    clear hz HAC
    by_cases hz0 : z = 0
    · subst hz0
      have RS := Lib.hid (show v2.rangeAt (w.heap.size + 1) 0 [.string S.name, .slice LA S.labels.length lc, .slice IA S.init.length ic, .slice MA S.main.length mc, .int .i64 S.restart, .int .i64 S.grace, .int .i64 S.prio] from range_box S2.out)
      go_wp2_with (first | (refine wpList_load_mid rfl 35 _ rfl _ _ rfl _ _ RS.out Tryz.underlying35 rfl (by kernel_rfl) ?_))
      have hl2 := HL.out.1.2.2
      refine (refof_any S.init S.main _ _ _ _ _ IA ic MA mc (by omega) (by omega) v2 (HS.out.below B2.out).init (HS.out.below B2.out).main).mono ?_
      rintro e w2 ⟨rfl, hb3⟩
      clear hl2 RS
      obtain ⟨ak, hak⟩ : ∃ ak, ofR (S.init.map rq) (S.main.map rq) = ak := ⟨_, rfl⟩
      have AO := Lib.hid (show ak.1.Ok by rw [← hak]; exact ask_rx HS.out)
      have HA := Lib.hid (show (askS S).ask = ak.1 by rw [← hak]; rfl)
      rw [hak]
      clear hak
      obtain ⟨a, a2⟩ := ak
      have AO := Lib.hid (show a.Ok from AO.out)
      have HA := Lib.hid (show (askS S).ask = a from HA.out)
      obtain ⟨w3, hw3⟩ : ∃ v, w2.alloc (.cells #[.int .i64 0, .int .i64 0, .int .i64 0] 23) = v := ⟨_, rfl⟩
      have ZB := Lib.hid (show w3.heap[w2.heap.size]? = some (.cells #[.int .i64 0, .int .i64 0, .int .i64 0] 23 (0, 0)) by rw [← hw3]; exact heap_alloc_new _ _)
      have BU := Lib.hid (show Below w2.heap.size w2 w3 by rw [← hw3]; exact (Below.refl _ _).alloc (Nat.le_refl _) _)
      obtain ⟨v9, hv9⟩ : ∃ v, w3.setCells (w2.heap.size) 0 (R3 a) = v := ⟨_, rfl⟩
      have THz := Lib.hid (show w3.there (w2.heap.size) 0 3 from Back.th ZB.out rfl)
      have ONEz := Lib.hid (show ((R3 a) : List Value).toArray.all (·.oneCell') = true by simp [Value.oneCell'])
      have HVz := Lib.hid hv9
      have AX := Lib.hid (show v9.heap[w2.heap.size]? = some (.cells ((R3 a) : List Value).toArray 23 (0, 0)) by rw [← hv9]; exact Back.st ZB.out rfl)
      have BX := Lib.hid (show Below v2.heap.size v2 v9 from hb3.trans ((show Below w2.heap.size w2 v9 by rw [← hv9]; exact bel_set BU.out (Nat.le_refl _)).mono hb3.size))
      have BV := Lib.hid (B2.out.trans (BX.out.mono B2.out.size))
      have NX := Lib.hid ((BX.out.block _ (lt_of_block N2.out)).trans N2.out)
      have SX := Lib.hid ((BX.out.block _ (lt_of_block S2.out)).trans S2.out)
      have ZX := Lib.hid ((BX.out.block _ (lt_of_block Z2.out)).trans Z2.out)
      obtain ⟨ps, hps⟩ : ∃ ps, S.main.flatMap (·.ports) = ps := ⟨_, rfl⟩
      have HPS := Lib.hid (show (askS S).ports = ps from hps)
      have PL := Lib.hid (show ps.length ≤ 100000 from by
        rw [← hps]
        have := SpecOwn.flat_len S.main (fun x hx => (HL.out.2.2.2 x hx).2.2)
        have := HL.out.1.2.2
        omega)
      have C3 := Lib.hid (show ∀ u_, Below w.heap.size w u_ → Calls Tryz.prog 57 #[.agg #[.string S.name, .slice LA S.labels.length lc, .slice IA S.init.length ic, .slice MA S.main.length mc, .int .i64 S.restart, .int .i64 S.grace, .int .i64 S.prio]] u_ (SpecOwn.OwnNums ps u_) from fun u_ hu => by rw [← hps]; exact SpecOwn.refports_any S LA lc IA ic MA mc HL.out.2.2.2 (by have := HL.out.1.2.2; omega) u_ (HS.out.below hu))
      clear hps hv9 hb3 N2 S2 Z2 BX BU
      go_wp2_with (first | (refine wpList_store_at rfl 23 _ _ rfl _ _ _ rfl rfl THz.out (by kernel_rfl) ONEz.out HVz.out ?_))
      clear hw3 THz ONEz HVz ZB
      have RO := Lib.hid (show v9.ownsRow B 51 5 (.slice A n c) n (flat5 ds) by have := (H.out.below BV.out).row; rwa [HLN.out] at this)
      have b3 := box_cell NX.out 3 (v := .slice A n c) rfl
      have hnm : (n : Int) ≤ 99999 := by have := HNM.out; omega
      go_loopw [11] (fun i wr => ∃ k : Nat, k ≤ n ∧ i = .int .i64 k ∧ wr = v9 ∧ Hid (∀ t y, t < k → (pods ds)[t]? = some y → y.uid < u)) (fun i _ => n - (RowKit.intOf i).toNat)
      case atStart => exact ⟨0, Nat.zero_le _, rfl, by trivial, fun t y ht _ => by omega⟩
      case round =>
        obtain ⟨k, hk, rfl, hwr, HK⟩ := hrel
        obtain rfl := hwr.symm
        clear hwr
        have hk6 : (k : Int) ≤ 99999 := by omega
        have hk0 : (0 : Int) ≤ (k : Int) := by omega
        have hstop : (∃ y, ds[k]? = some y ∧ y.x.uid < u) ∨ (∀ x, (pods ds)[k]? = some x → u ≤ x.uid) := by
          rcases hy : ds[k]? with _ | y
          · right; intro x hx; simp [hy] at hx
          · by_cases hlt : y.x.uid < u
            · exact .inl ⟨y, rfl, hlt⟩
            · right; intro x hx; simp [hy] at hx; subst hx; omega
        rcases hstop with ⟨y, hy, hlt⟩ | hstop
        · have hkn : k < n := by have := (List.getElem?_eq_some_iff.1 hy).1; have := HLN.out; omega
          obtain ⟨r, rfl, hr, k0, k1, k2, k3, k4⟩ := row_at (l := ds) (by have := RO.out; rw [← HLN.out] at this; exact this) hy
          have hka : (k : Int) < (n : Int) := by omega
          have hlt2 : decide (y.x.uid < u) = true := decide_eq_true hlt
          have HK2 := Lib.hid (show ∀ t z, t < k + 1 → (pods ds)[t]? = some z → z.uid < u from fun t z ht hz => by
            rcases Nat.lt_or_ge t k with h | h
            · exact HK.out t z h hz
            · obtain rfl : t = k := by omega
              simp [hy] at hz
              subst hz
              exact hlt)
          clear hy k1 k2 k3 k4 hlt
          go_wp2
          go_roundw
          case rel => exact ⟨k + 1, by omega, by simp, by trivial, HK2.out⟩
          case measure => simp [RowKit.intOf]; omega
        · have HLO := Lib.hid (show loU u (pods ds) = k from loU_run u (pods ds) k (by rw [List.length_map, HLN.out]; exact hk) HK.out hstop)
          have hcap := (own_cap RO.out).1
          obtain ⟨SA, HFrom, hsrc⟩ := run_at RO.out k hk
          have HSRC := Lib.hid (show ∀ u_, Below v9.heap.size v9 u_ → (SA = none ∧ n - k = 0 ∧ c - k = 0) ∨ ∃ ad, SA = some ad ∧ ∀ j v, (flat5 (ds.drop k))[j]? = some v → u_.cell? (ad.add j) = some v from fun u_ hu => by
            rcases hsrc with h0 | ⟨ad, r, h1, h2, h3⟩
            · exact .inl h0
            · refine .inr ⟨ad, h1, h3 u_ (hu.block r ?_)⟩
              rcases own_addr RO.out with ⟨e, _, _⟩ | ⟨r2, e, _, h4⟩
              · rw [h2] at e; cases e
              · rw [h2] at e; injection e with e; injection e with e; omega)
          clear hsrc
          obtain ⟨i0, hi, hz0, hz1, hz2⟩ := info_pod
          by_cases hkn : k < n
          · obtain ⟨y, hy⟩ : ∃ y, ds[k]? = some y := ⟨_, List.getElem?_eq_getElem (by have := HLN.out; omega)⟩
            obtain ⟨r, hAr, hr, k0, k1, k2, k3, k4⟩ := row_at (l := ds) (by have := RO.out; rw [← HLN.out] at this; exact this) hy
            have hka : (k : Int) < (n : Int) := by omega
            have hge := hstop y.x (by simp [hy])
            have hge2 : decide (y.x.uid < u) = false := decide_eq_false (by omega)
            subst hAr
            clear hy k1 k2 k3 k4 hstop
            go_upto_region 12 with (fail)
            clear k0 hge hge2 hr
            obtain ⟨A, hAA⟩ : ∃ A, some (⟨r, 0, none⟩ : Addr) = A := ⟨_, rfl⟩
            rw [hAA] at H HFrom NX RO ⊢
            clear hAA b3
            refine Vls.wp_region (by kernel_rfl) (JA v9 [.int .i64 u, .int .i64 a.c, .int .i64 a.m, .int .i64 a.p] ps (flat5 (ds.drop k)) (n - k) [.int .i64 u, .agg (R3 a).toArray, .agg #[.string S.name, .slice LA S.labels.length lc, .slice IA S.init.length ic, .slice MA S.main.length mc, .int .i64 S.restart, .int .i64 S.grace, .int .i64 S.prio], undef, undef, undef, .pointer (some ⟨w.heap.size, 3, none⟩), .slice A n c, .int .i64 k, .slice SA (n - k) (c - k), undef, undef]) (by kernel_rfl) (fun _ => undef) (JA.start _) ?_ ?_
            · refine ⟨?_, ?_, ?_, ?_, ?_, ?_, ?_, ?_, ?_, ?_, ?_, ?_, trivial⟩
              · intro s_ a_ u_ V hs hd hfr hpo hJ
                have f1 : a_.tmps.getD 1 undef = .int .i64 u := hfr 1 (by kernel_rfl)
                refine .inl ⟨rfl, ?_⟩
                unfold Oper.wp
                rw [show (execOp a_.eval _).run Tryz.prog u_ = .ok (.value (.int .i64 u)) u_ from by simp [go_sem, Act.eval, f1]]
                exact ⟨_, rfl, hJ.step 0 (by decide) (by decide) (by decide) (by decide) (by decide) rfl⟩
              · intro s_ a_ u_ V hs hd hfr hpo hJ
                have f9 : a_.tmps.getD 9 undef = .pointer (some ⟨w2.heap.size, 0, none⟩) := hfr 9 (by kernel_rfl)
                refine .inl ⟨rfl, ?_⟩
                exact wp_load_mid 23 (.tmp 9) rfl (w2.heap.size) (0) f9 (R3 a) _ (range_box ((hJ.bel.block _ (lt_of_block AX.out)).trans AX.out)) Tryz.underlying23 rfl (by kernel_rfl) ⟨_, rfl, hJ.step 1 (by decide) (by decide) (by decide) (by decide) (by decide) rfl⟩
              · intro s_ a_ u_ V hs hd hfr hpo hJ
                have f5 : a_.tmps.getD 5 undef = .pointer (some ⟨w.heap.size + 1, 0, none⟩) := hfr 5 (by kernel_rfl)
                refine .inl ⟨rfl, ?_⟩
                exact wp_load_mid 35 (.tmp 5) rfl (w.heap.size + 1) (0) f5 [.string S.name, .slice LA S.labels.length lc, .slice IA S.init.length ic, .slice MA S.main.length mc, .int .i64 S.restart, .int .i64 S.grace, .int .i64 S.prio] _ (range_box ((hJ.bel.block _ (lt_of_block SX.out)).trans SX.out)) Tryz.underlying35 rfl (by kernel_rfl) ⟨_, rfl, hJ.step 2 (by decide) (by decide) (by decide) (by decide) (by decide) rfl⟩
              · intro s_ a_ u_ V hs hd hfr hpo hJ
                have e2 : a_.tmps.getD 52 undef = .agg #[.string S.name, .slice LA S.labels.length lc, .slice IA S.init.length ic, .slice MA S.main.length mc, .int .i64 S.restart, .int .i64 S.grace, .int .i64 S.prio] := (hpo 2 52 (by kernel_rfl)).trans (hJ.get 2 (by decide) (by decide) (by decide) (by decide) (by decide) (hd 2 (by kernel_rfl)) rfl)
                refine .inl ⟨rfl, ?_⟩
                unfold Oper.wp
                rw [show (execOp a_.eval _).run Tryz.prog u_ = .ok (.enter 57 #[.agg #[.string S.name, .slice LA S.labels.length lc, .slice IA S.init.length ic, .slice MA S.main.length mc, .int .i64 S.restart, .int .i64 S.grace, .int .i64 S.prio]]) u_ from by simp [go_sem, Act.eval, e2]]
                refine Calls.mono (C3.out u_ (BV.out.trans (hJ.bel.mono BV.out.size))) ?_
                rintro e u2 ⟨v_, rfl, ho, hb⟩
                obtain ⟨PA, pc, rfl⟩ := own_form ho
                exact ⟨_, rfl, hJ.c3 hs hb ho⟩
              · intro s_ a_ u_ V hs hd hfr hpo hJ
                have h3 : s_ 3 = true := hd 3 (by kernel_rfl)
                obtain ⟨PA, pc, hV3, _⟩ := hJ.r h3
                have e0 : a_.tmps.getD 50 undef = .int .i64 u := (hpo 0 50 (by kernel_rfl)).trans (hJ.get 0 (by decide) (by decide) (by decide) (by decide) (by decide) (hd 0 (by kernel_rfl)) rfl)
                have e1 : a_.tmps.getD 51 undef = .agg (R3 a).toArray := (hpo 1 51 (by kernel_rfl)).trans (hJ.get 1 (by decide) (by decide) (by decide) (by decide) (by decide) (hd 1 (by kernel_rfl)) rfl)
                have e3 : a_.tmps.getD 53 undef = .slice PA ps.length pc := (hpo 3 53 (by kernel_rfl)).trans hV3
                refine .inl ⟨rfl, ?_⟩
                unfold Oper.wp
                rw [show (execOp a_.eval _).run Tryz.prog u_ = .ok (.value (.agg #[.int .i64 u, .int .i64 a.c, .int .i64 a.m, .int .i64 a.p, .slice PA ps.length pc])) u_ from by
                  rw [Array.getD_eq_getD_getElem?] at e0 e1 e3
                  simp [go_sem, Act.eval, e0, e1, e3]]
                exact ⟨_, rfl, hJ.b4 h3 hs hV3⟩
              · intro s_ a_ u_ V hs hd hfr hpo hJ
                have h4 : s_ 4 = true := hd 4 (by kernel_rfl)
                obtain ⟨PA, pc, hV3, _, hV4, _⟩ := hJ.r (hJ.o4 h4)
                have e4 : a_.tmps.getD 54 undef = .agg #[.int .i64 u, .int .i64 a.c, .int .i64 a.m, .int .i64 a.p, .slice PA ps.length pc] := (hpo 4 54 (by kernel_rfl)).trans (hV4 h4)
                refine .inl ⟨rfl, ?_⟩
                have hrun := run_build_pod u a PA ps.length pc u_
                unfold Oper.wp
                rw [show (execOp a_.eval _).run Tryz.prog u_ = .ok (.value (.slice (some ⟨u_.heap.size, 0, none⟩) 1 1)) (u_.alloc (.cells #[.int .i64 u, .int .i64 a.c, .int .i64 a.m, .int .i64 a.p, .slice PA ps.length pc] 51 (0, 0))) from by
                  rw [Array.getD_eq_getD_getElem?] at e4
                  simp [execOp, Act.eval, e4, hrun, Result.andThen]]
                exact ⟨_, rfl, hJ.l5 h4 hs rfl hV3⟩
              · intro s_ a_ u_ V hs hd hfr hpo hJ
                have f3 : a_.tmps.getD 3 undef = .pointer (some ⟨w.heap.size, 0, none⟩) := hfr 3 (by kernel_rfl)
                refine .inl ⟨rfl, ?_⟩
                unfold Oper.wp
                rw [show (execOp a_.eval _).run Tryz.prog u_ = .ok (.value (.pointer (some ⟨w.heap.size, 3, none⟩))) u_ from by simp [go_sem, Act.eval, f3]]
                exact ⟨_, rfl, hJ.step 6 (by decide) (by decide) (by decide) (by decide) (by decide) rfl⟩
              · intro s_ a_ u_ V hs hd hfr hpo hJ
                have e6 : a_.tmps.getD 56 undef = .pointer (some ⟨w.heap.size, 3, none⟩) := (hpo 6 56 (by kernel_rfl)).trans (hJ.get 6 (by decide) (by decide) (by decide) (by decide) (by decide) (hd 6 (by kernel_rfl)) rfl)
                refine .inl ⟨rfl, ?_⟩
                have cx0 := box_cell ((hJ.bel.block _ (lt_of_block NX.out)).trans NX.out) 3 (v := .slice A n c) rfl
                unfold Oper.wp
                rw [show (execOp a_.eval _).run Tryz.prog u_ = .ok (.value (.slice A n c)) u_ from by simp [go_sem, Act.eval, e6, cx0]]
                exact ⟨_, rfl, hJ.step 7 (by decide) (by decide) (by decide) (by decide) (by decide) rfl⟩
              · intro s_ a_ u_ V hs hd hfr hpo hJ
                have f11 : a_.tmps.getD 11 undef = .int .i64 k := hfr 11 (by kernel_rfl)
                refine .inl ⟨rfl, ?_⟩
                unfold Oper.wp
                rw [show (execOp a_.eval _).run Tryz.prog u_ = .ok (.value (.int .i64 k)) u_ from by simp [go_sem, Act.eval, f11]]
                exact ⟨_, rfl, hJ.step 8 (by decide) (by decide) (by decide) (by decide) (by decide) rfl⟩
              · intro s_ a_ u_ V hs hd hfr hpo hJ
                have e7 : a_.tmps.getD 57 undef = .slice A n c := (hpo 7 57 (by kernel_rfl)).trans (hJ.get 7 (by decide) (by decide) (by decide) (by decide) (by decide) (hd 7 (by kernel_rfl)) rfl)
                have e8 : a_.tmps.getD 58 undef = .int .i64 k := (hpo 8 58 (by kernel_rfl)).trans (hJ.get 8 (by decide) (by decide) (by decide) (by decide) (by decide) (hd 8 (by kernel_rfl)) rfl)
                refine .inl ⟨rfl, ?_⟩
                unfold Oper.wp
                rw [show (execOp a_.eval _).run Tryz.prog u_ = .ok (.value (.slice SA (n - k) (c - k))) u_ from by simp [go_sem, Act.eval, e7, e8, HFrom]]
                exact ⟨_, rfl, hJ.step 9 (by decide) (by decide) (by decide) (by decide) (by decide) rfl⟩
              · intro s_ a_ u_ V hs hd hfr hpo hJ
                have h5 : s_ 5 = true := hd 5 (by kernel_rfl)
                obtain ⟨PA, pc, hV3, _, _, h5r, _⟩ := hJ.r (hJ.o4 (hJ.o5 h5))
                obtain ⟨rb, hV5, ho5⟩ := h5r h5 hs
                have e5 : a_.tmps.getD 55 undef = .slice (some ⟨rb, 0, none⟩) 1 1 := (hpo 5 55 (by kernel_rfl)).trans hV5
                have e9 : a_.tmps.getD 59 undef = .slice SA (n - k) (c - k) := (hpo 9 59 (by kernel_rfl)).trans (hJ.get 9 (by decide) (by decide) (by decide) (by decide) (by decide) (hd 9 (by kernel_rfl)) rfl)
                refine .inl ⟨rfl, ?_⟩
                refine wp_append_any (.tmp 55) (.tmp 59) 27 rfl v9.heap.size 51 i0 (.agg #[.int .i64 0, .int .i64 0, .int .i64 0, .int .i64 0, .slice none 0 0]) 5 56 Tryz.underlying27 hi hz0 hz1 hz2 rfl (by decide) (.slice (some ⟨rb, 0, none⟩) 1 1) 1 _ e5 ho5 SA (n - k) (c - k) (flat5 (ds.drop k)) e9 (by rw [flat_length, List.length_drop, HLN.out]) (HSRC.out u_ hJ.bel) (flat_one _) (by unfold maxLen; have := HNM.out; omega) (by have := HNM.out; omega) hJ.bel.size (fun A' c' w' h1 h2 => ?_)
                exact ⟨_, rfl, hJ.a10 h5 hs hV3 hV5 h1 h2⟩
              · intro s_ a_ u_ V hs hd hfr hpo hJ
                have h10 : s_ 10 = true := hd 10 (by kernel_rfl)
                obtain ⟨PA, pc, _, _, _, _, h10r⟩ := hJ.r (hJ.o4 (hJ.o5 (hJ.o10 h10)))
                obtain ⟨A1, c1, hV10, _, _⟩ := h10r h10
                have e10 : a_.tmps.getD 60 undef = .slice A1 (1 + (n - k)) c1 := (hpo 10 60 (by kernel_rfl)).trans hV10
                refine .inl ⟨rfl, ?_⟩
                unfold Oper.wp
                rw [show (execOp a_.eval _).run Tryz.prog u_ = .ok (.value (.slice A1 (1 + (n - k)) c1)) u_ from by simp [go_sem, Act.eval, e10]]
                exact ⟨_, rfl, hJ.as11 h10 hV10⟩
            · intro s_ V u5 hall hJ
              obtain ⟨PA, pc, _, hpr, _, _, h10⟩ := hJ.r (hall 3 (by decide))
              obtain ⟨A1, c1, _, hrow, h11⟩ := h10 (hall 10 (by decide))
              have e11 := h11 (hall 11 (by decide))
              obtain ⟨d0, hd0⟩ : ∃ d0 : Pd, d0 = ⟨⟨u, a, ps⟩, PA, pc⟩ := ⟨_, rfl⟩
              have R1 := Lib.hid (show u5.ownsRow v9.heap.size 51 5 (.slice A1 (1 + (n - k)) c1) (1 + (n - k)) (flat5 (d0 :: ds.drop k)) by rw [hd0]; exact hrow)
              have P1 := Lib.hid (show u5.ownsRow v9.heap.size 3 1 (.slice d0.A d0.x.ports.length d0.c) d0.x.ports.length (pvals d0.x.ports) by rw [hd0]; exact hpr)
              have D0 := Lib.hid (show d0.x = ⟨u, a, ps⟩ by rw [hd0])
              have N5 := Lib.hid ((hJ.bel.block _ (lt_of_block NX.out)).trans NX.out)
              have Z5 := Lib.hid ((hJ.bel.block _ (lt_of_block ZX.out)).trans ZX.out)
              have B5 := Lib.hid (BV.out.trans (hJ.bel.mono BV.out.size))
              have R5 := Lib.hid (owns_below RO.out hJ.bel)
              clear hall hJ hpr h10 h11 hrow hd0 HFrom
              simp only [Bxs.puts, Nat.reduceAdd, put_none, put_lit, List.set_cons_succ, List.set_cons_zero]
              rw [e11]
              clear e11
              have hnm2 := HNM.out
              have hb1 : Below u5.heap.size u5 (u5.alloc (.cells #[] 51)) := (Below.refl _ _).alloc (Nat.le_refl _) _
              have HST := Lib.hid (src_take5 (owns_below R5.out hb1) hk)
              have HLT := Lib.hid (show (flat5 (ds.take k)).length = k * 5 by rw [flat_length, List.length_take, HLN.out]; omega)
              have X5 := Lib.hid ((hb1.block _ (lt_of_block N5.out)).trans N5.out)
              have b5 := box_cell X5.out 3 (v := .slice A n c) rfl
              have b6 := box_cell N5.out 3 (v := .slice A n c) rfl
              have hi2 : (k : Int) ≤ (c : Int) := by omega
              have hkc : k ≤ c := by omega
              have hkn1 : (k : Int) ≤ (n : Int) := by omega
              clear hb1
              go_wp2_with (at_builtin; refine AppendAny.wpList_append_want (by simp [Region.wanted]) _ _ 27 rfl u5.heap.size 51 i0 (.agg #[.int .i64 0, .int .i64 0, .int .i64 0, .int .i64 0, .slice none 0 0]) 5 56 Tryz.underlying27 hi hz0 hz1 hz2 rfl (by decide) _ _ _ rfl (World.ownsRow_lit (base := u5.heap.size) (size := 5) (e := 51) u5 #[] 0 (Nat.le_refl _) (Nat.zero_le _) rfl) A k c (flat5 (ds.take k)) rfl HLT.out HST.out (flat_one _) ?q1 ?q2 (by simp) ?_)
              case q1 => unfold maxLen; omega
              case q2 => omega
              intro v2 w5 hown2 hgrow2
              clear b5 b6
              have HO2 := Lib.hid (show w5.ownsRow u5.heap.size 51 5 v2 k (flat5 (ds.take k)) by simpa using hown2)
              have B6 := Lib.hid (show Below u5.heap.size u5 w5 from ((Below.refl u5.heap.size u5).alloc (Nat.le_refl _) _).grown hgrow2 (by simp) (fun q hq => by have e : some u5.heap.size = some q := hq; injection e with e; omega))
              clear hown2 hgrow2
              have HS1 := Lib.hid (src_own5 (owns_below R1.out B6.out))
              have HL1 := Lib.hid (show (flat5 (d0 :: ds.drop k)).length = (1 + (n - k)) * 5 by rw [flat_length, List.length_cons, List.length_drop, HLN.out]; omega)
              have hsw := B6.out.size
              have X6 := Lib.hid ((B6.out.block _ (lt_of_block N5.out)).trans N5.out)
              have b5 := box_cell X6.out 3 (v := .slice A n c) rfl
              go_wp2_with (at_builtin; refine AppendAny.wpList_append_want (by simp [Region.wanted]) _ _ 27 rfl u5.heap.size 51 i0 (.agg #[.int .i64 0, .int .i64 0, .int .i64 0, .int .i64 0, .slice none 0 0]) 5 56 Tryz.underlying27 hi hz0 hz1 hz2 rfl (by decide) _ _ _ rfl HO2.out A1 (1 + (n - k)) c1 (flat5 (d0 :: ds.drop k)) rfl HL1.out HS1.out (flat_one _) ?q3 ?q4 hsw ?_)
              case q3 => unfold maxLen; omega
              case q4 => omega
              intro v3 w7 hown3 hgrow3
              clear b5
              have B7 := Lib.hid (show Below u5.heap.size u5 w7 from B6.out.grown hgrow3 hsw (fun q hq => (HO2.out.lt q hq).1))
              have HO3 := Lib.hid (show w7.ownsRow 0 51 5 v3 (n + 1) (flat5 (ds.take k ++ d0 :: ds.drop k)) by
                have h := owns_base hown3 (Nat.zero_le _)
                rwa [← flat_cat, show k + (1 + (n - k)) = n + 1 by omega] at h)
              clear hown3 hgrow3 hsw
              obtain ⟨A3, c3, rfl⟩ := own_form HO3.out
              have N7 := Lib.hid ((B7.out.block _ (lt_of_block N5.out)).trans N5.out)
              have Z7 := Lib.hid ((B7.out.block _ (lt_of_block Z5.out)).trans Z5.out)
              have P7 := Lib.hid (owns_below P1.out B7.out)
              have BW7 := Lib.hid (B5.out.trans (B7.out.mono B5.out.size))
              have cN := box_cell N7.out 3 (v := .slice A n c) rfl
              have fN := box_free N7.out 3
              obtain ⟨wz, hwz⟩ : ∃ v, w7.setCell ⟨w.heap.size, 3, none⟩ (.slice A3 (n + 1) c3) = v := ⟨_, rfl⟩
              have HWZ := Lib.hid hwz
              have NZ := Lib.hid (show wz.heap[w.heap.size]? = some (.cells ([.int .i64 has.c, .int .i64 has.m, .int .i64 has.p, .slice A3 (n + 1) c3] : List Value).toArray 29 (0, 0)) by rw [← hwz]; exact heap_setCell_same w7 w.heap.size 3 _ _ _ N7.out)
              have KZ : ∀ r, r ≠ w.heap.size → wz.heap[r]? = w7.heap[r]? := fun r hr => by rw [← hwz]; exact Below.heap_setCell w7 _ _ r hr
              have BZ := Lib.hid (show Below w.heap.size w wz by rw [← hwz]; exact BW7.out.setCell (p := ⟨w.heap.size, 3, none⟩) (Nat.le_refl _) _)
              have ZZ := Lib.hid ((KZ _ (by omega)).trans Z7.out)
              clear hwz
              have KZ := Lib.hid KZ
              go_upto_region 14 with (fail)
              clear cN fN
              rw [HWZ.out]
              clear HWZ
              have RN := Lib.hid (show wz.rangeAt w.heap.size 0 [.int .i64 has.c, .int .i64 has.m, .int .i64 has.p, .slice A3 (n + 1) c3] from range_box NZ.out)
              obtain ⟨w6, hw6⟩ : ∃ v, wz.setCells (w.heap.size + 2) 0 [.int .i64 has.c, .int .i64 has.m, .int .i64 has.p, .slice A3 (n + 1) c3] = v := ⟨_, rfl⟩
              have THy := Lib.hid (show wz.there (w.heap.size + 2) 0 4 from Back.th ZZ.out rfl)
              have ONEy := Lib.hid (show ([.int .i64 has.c, .int .i64 has.m, .int .i64 has.p, .slice A3 (n + 1) c3] : List Value).toArray.all (·.oneCell') = true by simp [Value.oneCell'])
              have HVy := Lib.hid hw6
              have Z6 := Lib.hid (show w6.heap[w.heap.size + 2]? = some (.cells ([.int .i64 has.c, .int .i64 has.m, .int .i64 has.p, .slice A3 (n + 1) c3] : List Value).toArray 29 (0, 0)) by rw [← hw6]; exact Back.st ZZ.out rfl)
              have B8 := Lib.hid (show Below w.heap.size w w6 by rw [← hw6]; exact bel_set BZ.out (by omega))
              have K6 := Lib.hid (show ∀ r cur e, e ≠ 29 → w7.heap[r]? = some (Obj.cells cur e (0, 0)) → w6.heap[r]? = w7.heap[r]? from fun r cur e he hr => by
                have h1 : r ≠ w.heap.size := fun e1 => by
                  rw [e1, N7.out] at hr
                  injection hr with hr
                  injection hr with _ hr
                  exact he hr.symm
                have h2 : r ≠ w.heap.size + 2 := fun e1 => by
                  rw [e1, Z7.out] at hr
                  injection hr with hr
                  injection hr with _ hr
                  exact he hr.symm
                rw [← hw6, (Back.far _ _ 0 wz).2.2.2.2 r h2, KZ.out r h1])
              clear hw6
              go_wp2_with (first | (refine wpList_load_mid rfl 29 _ rfl _ _ rfl _ _ RN.out Tryz.underlying29 rfl (by kernel_rfl) ?_) | (refine wpList_store_at rfl 29 _ _ rfl _ _ _ rfl rfl THy.out (by kernel_rfl) ONEy.out HVy.out ?_))
              refine bodyPost_ret (v := .tuple #[.agg ([.int .i64 has.c, .int .i64 has.m, .int .i64 has.p, .slice A3 (n + 1) c3] : List Value).toArray, .int .i64 0]) (res_adm _ _ _ [.int .i64 has.c, .int .i64 has.m, .int .i64 has.p, .slice A3 (n + 1) c3] _ rfl rfl Z6.out rfl) rfl ?_
              have L8 : (ds.take k ++ d0 :: ds.drop k).length = n + 1 := by rw [List.length_append, List.length_cons, List.length_take, List.length_drop, HLN.out]; omega
              refine ⟨A3, c3, ds.take k ++ d0 :: ds.drop k, by rw [HE.out, L8], ?_, ⟨?_, fun d hd => ?_, by rw [L8]; omega, fun d hd => ?_⟩, B8.out⟩
              · unfold admL
                rw [HE.out, if_pos rfl, HA.out, HPS.out]
                unfold insP
                rw [HLO.out]
                simp [pods, D0.out]
              · rw [L8]
                exact owns_of HO3.out fun r hr => by
                  obtain ⟨_, cur, h2⟩ := owns_at HO3.out hr
                  exact K6.out r cur _ (by decide) h2
              · have hd2 : d = d0 ∨ d ∈ ds := by
                  rcases List.mem_append.1 hd with h | h
                  · exact .inr (List.mem_of_mem_take h)
                  · rcases List.mem_cons.1 h with h | h
                    · exact .inl h
                    · exact .inr (List.mem_of_mem_drop h)
                rcases hd2 with rfl | hd2
                · exact owns_base (owns_of P7.out fun r hr => by
                    obtain ⟨_, cur, h2⟩ := owns_at P7.out hr
                    exact K6.out r cur _ (by decide) h2) (Nat.zero_le _)
                · exact owns_base ((H.out.below B8.out).ps d hd2) (Nat.zero_le _)
              · have hd2 : d = d0 ∨ d ∈ ds := by
                  rcases List.mem_append.1 hd with h | h
                  · exact .inr (List.mem_of_mem_take h)
                  · rcases List.mem_cons.1 h with h | h
                    · exact .inl h
                    · exact .inr (List.mem_of_mem_drop h)
                rcases hd2 with rfl | hd2
                · rw [D0.out]
                  exact ⟨AO.out, PL.out⟩
                · exact H.out.ask d hd2
          · have hka : ¬ (k : Int) < (n : Int) := by omega
            clear hstop
            go_upto_region 12 with (fail)
            clear b3
            refine Vls.wp_region (by kernel_rfl) (JA v9 [.int .i64 u, .int .i64 a.c, .int .i64 a.m, .int .i64 a.p] ps (flat5 (ds.drop k)) (n - k) [.int .i64 u, .agg (R3 a).toArray, .agg #[.string S.name, .slice LA S.labels.length lc, .slice IA S.init.length ic, .slice MA S.main.length mc, .int .i64 S.restart, .int .i64 S.grace, .int .i64 S.prio], undef, undef, undef, .pointer (some ⟨w.heap.size, 3, none⟩), .slice A n c, .int .i64 k, .slice SA (n - k) (c - k), undef, undef]) (by kernel_rfl) (fun _ => undef) (JA.start _) ?_ ?_
            · refine ⟨?_, ?_, ?_, ?_, ?_, ?_, ?_, ?_, ?_, ?_, ?_, ?_, trivial⟩
              · intro s_ a_ u_ V hs hd hfr hpo hJ
                have f1 : a_.tmps.getD 1 undef = .int .i64 u := hfr 1 (by kernel_rfl)
                refine .inl ⟨rfl, ?_⟩
                unfold Oper.wp
                rw [show (execOp a_.eval _).run Tryz.prog u_ = .ok (.value (.int .i64 u)) u_ from by simp [go_sem, Act.eval, f1]]
                exact ⟨_, rfl, hJ.step 0 (by decide) (by decide) (by decide) (by decide) (by decide) rfl⟩
              · intro s_ a_ u_ V hs hd hfr hpo hJ
                have f9 : a_.tmps.getD 9 undef = .pointer (some ⟨w2.heap.size, 0, none⟩) := hfr 9 (by kernel_rfl)
                refine .inl ⟨rfl, ?_⟩
                exact wp_load_mid 23 (.tmp 9) rfl (w2.heap.size) (0) f9 (R3 a) _ (range_box ((hJ.bel.block _ (lt_of_block AX.out)).trans AX.out)) Tryz.underlying23 rfl (by kernel_rfl) ⟨_, rfl, hJ.step 1 (by decide) (by decide) (by decide) (by decide) (by decide) rfl⟩
              · intro s_ a_ u_ V hs hd hfr hpo hJ
                have f5 : a_.tmps.getD 5 undef = .pointer (some ⟨w.heap.size + 1, 0, none⟩) := hfr 5 (by kernel_rfl)
                refine .inl ⟨rfl, ?_⟩
                exact wp_load_mid 35 (.tmp 5) rfl (w.heap.size + 1) (0) f5 [.string S.name, .slice LA S.labels.length lc, .slice IA S.init.length ic, .slice MA S.main.length mc, .int .i64 S.restart, .int .i64 S.grace, .int .i64 S.prio] _ (range_box ((hJ.bel.block _ (lt_of_block SX.out)).trans SX.out)) Tryz.underlying35 rfl (by kernel_rfl) ⟨_, rfl, hJ.step 2 (by decide) (by decide) (by decide) (by decide) (by decide) rfl⟩
              · intro s_ a_ u_ V hs hd hfr hpo hJ
                have e2 : a_.tmps.getD 52 undef = .agg #[.string S.name, .slice LA S.labels.length lc, .slice IA S.init.length ic, .slice MA S.main.length mc, .int .i64 S.restart, .int .i64 S.grace, .int .i64 S.prio] := (hpo 2 52 (by kernel_rfl)).trans (hJ.get 2 (by decide) (by decide) (by decide) (by decide) (by decide) (hd 2 (by kernel_rfl)) rfl)
                refine .inl ⟨rfl, ?_⟩
                unfold Oper.wp
                rw [show (execOp a_.eval _).run Tryz.prog u_ = .ok (.enter 57 #[.agg #[.string S.name, .slice LA S.labels.length lc, .slice IA S.init.length ic, .slice MA S.main.length mc, .int .i64 S.restart, .int .i64 S.grace, .int .i64 S.prio]]) u_ from by simp [go_sem, Act.eval, e2]]
                refine Calls.mono (C3.out u_ (BV.out.trans (hJ.bel.mono BV.out.size))) ?_
                rintro e u2 ⟨v_, rfl, ho, hb⟩
                obtain ⟨PA, pc, rfl⟩ := own_form ho
                exact ⟨_, rfl, hJ.c3 hs hb ho⟩
              · intro s_ a_ u_ V hs hd hfr hpo hJ
                have h3 : s_ 3 = true := hd 3 (by kernel_rfl)
                obtain ⟨PA, pc, hV3, _⟩ := hJ.r h3
                have e0 : a_.tmps.getD 50 undef = .int .i64 u := (hpo 0 50 (by kernel_rfl)).trans (hJ.get 0 (by decide) (by decide) (by decide) (by decide) (by decide) (hd 0 (by kernel_rfl)) rfl)
                have e1 : a_.tmps.getD 51 undef = .agg (R3 a).toArray := (hpo 1 51 (by kernel_rfl)).trans (hJ.get 1 (by decide) (by decide) (by decide) (by decide) (by decide) (hd 1 (by kernel_rfl)) rfl)
                have e3 : a_.tmps.getD 53 undef = .slice PA ps.length pc := (hpo 3 53 (by kernel_rfl)).trans hV3
                refine .inl ⟨rfl, ?_⟩
                unfold Oper.wp
                rw [show (execOp a_.eval _).run Tryz.prog u_ = .ok (.value (.agg #[.int .i64 u, .int .i64 a.c, .int .i64 a.m, .int .i64 a.p, .slice PA ps.length pc])) u_ from by
                  rw [Array.getD_eq_getD_getElem?] at e0 e1 e3
                  simp [go_sem, Act.eval, e0, e1, e3]]
                exact ⟨_, rfl, hJ.b4 h3 hs hV3⟩
              · intro s_ a_ u_ V hs hd hfr hpo hJ
                have h4 : s_ 4 = true := hd 4 (by kernel_rfl)
                obtain ⟨PA, pc, hV3, _, hV4, _⟩ := hJ.r (hJ.o4 h4)
                have e4 : a_.tmps.getD 54 undef = .agg #[.int .i64 u, .int .i64 a.c, .int .i64 a.m, .int .i64 a.p, .slice PA ps.length pc] := (hpo 4 54 (by kernel_rfl)).trans (hV4 h4)
                refine .inl ⟨rfl, ?_⟩
                have hrun := run_build_pod u a PA ps.length pc u_
                unfold Oper.wp
                rw [show (execOp a_.eval _).run Tryz.prog u_ = .ok (.value (.slice (some ⟨u_.heap.size, 0, none⟩) 1 1)) (u_.alloc (.cells #[.int .i64 u, .int .i64 a.c, .int .i64 a.m, .int .i64 a.p, .slice PA ps.length pc] 51 (0, 0))) from by
                  rw [Array.getD_eq_getD_getElem?] at e4
                  simp [execOp, Act.eval, e4, hrun, Result.andThen]]
                exact ⟨_, rfl, hJ.l5 h4 hs rfl hV3⟩
              · intro s_ a_ u_ V hs hd hfr hpo hJ
                have f3 : a_.tmps.getD 3 undef = .pointer (some ⟨w.heap.size, 0, none⟩) := hfr 3 (by kernel_rfl)
                refine .inl ⟨rfl, ?_⟩
                unfold Oper.wp
                rw [show (execOp a_.eval _).run Tryz.prog u_ = .ok (.value (.pointer (some ⟨w.heap.size, 3, none⟩))) u_ from by simp [go_sem, Act.eval, f3]]
                exact ⟨_, rfl, hJ.step 6 (by decide) (by decide) (by decide) (by decide) (by decide) rfl⟩
              · intro s_ a_ u_ V hs hd hfr hpo hJ
                have e6 : a_.tmps.getD 56 undef = .pointer (some ⟨w.heap.size, 3, none⟩) := (hpo 6 56 (by kernel_rfl)).trans (hJ.get 6 (by decide) (by decide) (by decide) (by decide) (by decide) (hd 6 (by kernel_rfl)) rfl)
                refine .inl ⟨rfl, ?_⟩
                have cx0 := box_cell ((hJ.bel.block _ (lt_of_block NX.out)).trans NX.out) 3 (v := .slice A n c) rfl
                unfold Oper.wp
                rw [show (execOp a_.eval _).run Tryz.prog u_ = .ok (.value (.slice A n c)) u_ from by simp [go_sem, Act.eval, e6, cx0]]
                exact ⟨_, rfl, hJ.step 7 (by decide) (by decide) (by decide) (by decide) (by decide) rfl⟩
              · intro s_ a_ u_ V hs hd hfr hpo hJ
                have f11 : a_.tmps.getD 11 undef = .int .i64 k := hfr 11 (by kernel_rfl)
                refine .inl ⟨rfl, ?_⟩
                unfold Oper.wp
                rw [show (execOp a_.eval _).run Tryz.prog u_ = .ok (.value (.int .i64 k)) u_ from by simp [go_sem, Act.eval, f11]]
                exact ⟨_, rfl, hJ.step 8 (by decide) (by decide) (by decide) (by decide) (by decide) rfl⟩
              · intro s_ a_ u_ V hs hd hfr hpo hJ
                have e7 : a_.tmps.getD 57 undef = .slice A n c := (hpo 7 57 (by kernel_rfl)).trans (hJ.get 7 (by decide) (by decide) (by decide) (by decide) (by decide) (hd 7 (by kernel_rfl)) rfl)
                have e8 : a_.tmps.getD 58 undef = .int .i64 k := (hpo 8 58 (by kernel_rfl)).trans (hJ.get 8 (by decide) (by decide) (by decide) (by decide) (by decide) (hd 8 (by kernel_rfl)) rfl)
                refine .inl ⟨rfl, ?_⟩
                unfold Oper.wp
                rw [show (execOp a_.eval _).run Tryz.prog u_ = .ok (.value (.slice SA (n - k) (c - k))) u_ from by simp [go_sem, Act.eval, e7, e8, HFrom]]
                exact ⟨_, rfl, hJ.step 9 (by decide) (by decide) (by decide) (by decide) (by decide) rfl⟩
              · intro s_ a_ u_ V hs hd hfr hpo hJ
                have h5 : s_ 5 = true := hd 5 (by kernel_rfl)
                obtain ⟨PA, pc, hV3, _, _, h5r, _⟩ := hJ.r (hJ.o4 (hJ.o5 h5))
                obtain ⟨rb, hV5, ho5⟩ := h5r h5 hs
                have e5 : a_.tmps.getD 55 undef = .slice (some ⟨rb, 0, none⟩) 1 1 := (hpo 5 55 (by kernel_rfl)).trans hV5
                have e9 : a_.tmps.getD 59 undef = .slice SA (n - k) (c - k) := (hpo 9 59 (by kernel_rfl)).trans (hJ.get 9 (by decide) (by decide) (by decide) (by decide) (by decide) (hd 9 (by kernel_rfl)) rfl)
                refine .inl ⟨rfl, ?_⟩
                refine wp_append_any (.tmp 55) (.tmp 59) 27 rfl v9.heap.size 51 i0 (.agg #[.int .i64 0, .int .i64 0, .int .i64 0, .int .i64 0, .slice none 0 0]) 5 56 Tryz.underlying27 hi hz0 hz1 hz2 rfl (by decide) (.slice (some ⟨rb, 0, none⟩) 1 1) 1 _ e5 ho5 SA (n - k) (c - k) (flat5 (ds.drop k)) e9 (by rw [flat_length, List.length_drop, HLN.out]) (HSRC.out u_ hJ.bel) (flat_one _) (by unfold maxLen; have := HNM.out; omega) (by have := HNM.out; omega) hJ.bel.size (fun A' c' w' h1 h2 => ?_)
                exact ⟨_, rfl, hJ.a10 h5 hs hV3 hV5 h1 h2⟩
              · intro s_ a_ u_ V hs hd hfr hpo hJ
                have h10 : s_ 10 = true := hd 10 (by kernel_rfl)
                obtain ⟨PA, pc, _, _, _, _, h10r⟩ := hJ.r (hJ.o4 (hJ.o5 (hJ.o10 h10)))
                obtain ⟨A1, c1, hV10, _, _⟩ := h10r h10
                have e10 : a_.tmps.getD 60 undef = .slice A1 (1 + (n - k)) c1 := (hpo 10 60 (by kernel_rfl)).trans hV10
                refine .inl ⟨rfl, ?_⟩
                unfold Oper.wp
                rw [show (execOp a_.eval _).run Tryz.prog u_ = .ok (.value (.slice A1 (1 + (n - k)) c1)) u_ from by simp [go_sem, Act.eval, e10]]
                exact ⟨_, rfl, hJ.as11 h10 hV10⟩
            · intro s_ V u5 hall hJ
              obtain ⟨PA, pc, _, hpr, _, _, h10⟩ := hJ.r (hall 3 (by decide))
              obtain ⟨A1, c1, _, hrow, h11⟩ := h10 (hall 10 (by decide))
              have e11 := h11 (hall 11 (by decide))
              obtain ⟨d0, hd0⟩ : ∃ d0 : Pd, d0 = ⟨⟨u, a, ps⟩, PA, pc⟩ := ⟨_, rfl⟩
              have R1 := Lib.hid (show u5.ownsRow v9.heap.size 51 5 (.slice A1 (1 + (n - k)) c1) (1 + (n - k)) (flat5 (d0 :: ds.drop k)) by rw [hd0]; exact hrow)
              have P1 := Lib.hid (show u5.ownsRow v9.heap.size 3 1 (.slice d0.A d0.x.ports.length d0.c) d0.x.ports.length (pvals d0.x.ports) by rw [hd0]; exact hpr)
              have D0 := Lib.hid (show d0.x = ⟨u, a, ps⟩ by rw [hd0])
              have N5 := Lib.hid ((hJ.bel.block _ (lt_of_block NX.out)).trans NX.out)
              have Z5 := Lib.hid ((hJ.bel.block _ (lt_of_block ZX.out)).trans ZX.out)
              have B5 := Lib.hid (BV.out.trans (hJ.bel.mono BV.out.size))
              have R5 := Lib.hid (owns_below RO.out hJ.bel)
              clear hall hJ hpr h10 h11 hrow hd0 HFrom
              simp only [Bxs.puts, Nat.reduceAdd, put_none, put_lit, List.set_cons_succ, List.set_cons_zero]
              rw [e11]
              clear e11
              have hnm2 := HNM.out
              have hb1 : Below u5.heap.size u5 (u5.alloc (.cells #[] 51)) := (Below.refl _ _).alloc (Nat.le_refl _) _
              have HST := Lib.hid (src_take5 (owns_below R5.out hb1) hk)
              have HLT := Lib.hid (show (flat5 (ds.take k)).length = k * 5 by rw [flat_length, List.length_take, HLN.out]; omega)
              have X5 := Lib.hid ((hb1.block _ (lt_of_block N5.out)).trans N5.out)
              have b5 := box_cell X5.out 3 (v := .slice A n c) rfl
              have b6 := box_cell N5.out 3 (v := .slice A n c) rfl
              have hi2 : (k : Int) ≤ (c : Int) := by omega
              have hkc : k ≤ c := by omega
              have hkn1 : (k : Int) ≤ (n : Int) := by omega
              clear hb1
              go_wp2_with (at_builtin; refine AppendAny.wpList_append_want (by simp [Region.wanted]) _ _ 27 rfl u5.heap.size 51 i0 (.agg #[.int .i64 0, .int .i64 0, .int .i64 0, .int .i64 0, .slice none 0 0]) 5 56 Tryz.underlying27 hi hz0 hz1 hz2 rfl (by decide) _ _ _ rfl (World.ownsRow_lit (base := u5.heap.size) (size := 5) (e := 51) u5 #[] 0 (Nat.le_refl _) (Nat.zero_le _) rfl) A k c (flat5 (ds.take k)) rfl HLT.out HST.out (flat_one _) ?q1 ?q2 (by simp) ?_)
              case q1 => unfold maxLen; omega
              case q2 => omega
              intro v2 w5 hown2 hgrow2
              clear b5 b6
              have HO2 := Lib.hid (show w5.ownsRow u5.heap.size 51 5 v2 k (flat5 (ds.take k)) by simpa using hown2)
              have B6 := Lib.hid (show Below u5.heap.size u5 w5 from ((Below.refl u5.heap.size u5).alloc (Nat.le_refl _) _).grown hgrow2 (by simp) (fun q hq => by have e : some u5.heap.size = some q := hq; injection e with e; omega))
              clear hown2 hgrow2
              have HS1 := Lib.hid (src_own5 (owns_below R1.out B6.out))
              have HL1 := Lib.hid (show (flat5 (d0 :: ds.drop k)).length = (1 + (n - k)) * 5 by rw [flat_length, List.length_cons, List.length_drop, HLN.out]; omega)
              have hsw := B6.out.size
              have X6 := Lib.hid ((B6.out.block _ (lt_of_block N5.out)).trans N5.out)
              have b5 := box_cell X6.out 3 (v := .slice A n c) rfl
              go_wp2_with (at_builtin; refine AppendAny.wpList_append_want (by simp [Region.wanted]) _ _ 27 rfl u5.heap.size 51 i0 (.agg #[.int .i64 0, .int .i64 0, .int .i64 0, .int .i64 0, .slice none 0 0]) 5 56 Tryz.underlying27 hi hz0 hz1 hz2 rfl (by decide) _ _ _ rfl HO2.out A1 (1 + (n - k)) c1 (flat5 (d0 :: ds.drop k)) rfl HL1.out HS1.out (flat_one _) ?q3 ?q4 hsw ?_)
              case q3 => unfold maxLen; omega
              case q4 => omega
              intro v3 w7 hown3 hgrow3
              clear b5
              have B7 := Lib.hid (show Below u5.heap.size u5 w7 from B6.out.grown hgrow3 hsw (fun q hq => (HO2.out.lt q hq).1))
              have HO3 := Lib.hid (show w7.ownsRow 0 51 5 v3 (n + 1) (flat5 (ds.take k ++ d0 :: ds.drop k)) by
                have h := owns_base hown3 (Nat.zero_le _)
                rwa [← flat_cat, show k + (1 + (n - k)) = n + 1 by omega] at h)
              clear hown3 hgrow3 hsw
              obtain ⟨A3, c3, rfl⟩ := own_form HO3.out
              have N7 := Lib.hid ((B7.out.block _ (lt_of_block N5.out)).trans N5.out)
              have Z7 := Lib.hid ((B7.out.block _ (lt_of_block Z5.out)).trans Z5.out)
              have P7 := Lib.hid (owns_below P1.out B7.out)
              have BW7 := Lib.hid (B5.out.trans (B7.out.mono B5.out.size))
              have cN := box_cell N7.out 3 (v := .slice A n c) rfl
              have fN := box_free N7.out 3
              obtain ⟨wz, hwz⟩ : ∃ v, w7.setCell ⟨w.heap.size, 3, none⟩ (.slice A3 (n + 1) c3) = v := ⟨_, rfl⟩
              have HWZ := Lib.hid hwz
              have NZ := Lib.hid (show wz.heap[w.heap.size]? = some (.cells ([.int .i64 has.c, .int .i64 has.m, .int .i64 has.p, .slice A3 (n + 1) c3] : List Value).toArray 29 (0, 0)) by rw [← hwz]; exact heap_setCell_same w7 w.heap.size 3 _ _ _ N7.out)
              have KZ : ∀ r, r ≠ w.heap.size → wz.heap[r]? = w7.heap[r]? := fun r hr => by rw [← hwz]; exact Below.heap_setCell w7 _ _ r hr
              have BZ := Lib.hid (show Below w.heap.size w wz by rw [← hwz]; exact BW7.out.setCell (p := ⟨w.heap.size, 3, none⟩) (Nat.le_refl _) _)
              have ZZ := Lib.hid ((KZ _ (by omega)).trans Z7.out)
              clear hwz
              have KZ := Lib.hid KZ
              go_upto_region 14 with (fail)
              clear cN fN
              rw [HWZ.out]
              clear HWZ
              have RN := Lib.hid (show wz.rangeAt w.heap.size 0 [.int .i64 has.c, .int .i64 has.m, .int .i64 has.p, .slice A3 (n + 1) c3] from range_box NZ.out)
              obtain ⟨w6, hw6⟩ : ∃ v, wz.setCells (w.heap.size + 2) 0 [.int .i64 has.c, .int .i64 has.m, .int .i64 has.p, .slice A3 (n + 1) c3] = v := ⟨_, rfl⟩
              have THy := Lib.hid (show wz.there (w.heap.size + 2) 0 4 from Back.th ZZ.out rfl)
              have ONEy := Lib.hid (show ([.int .i64 has.c, .int .i64 has.m, .int .i64 has.p, .slice A3 (n + 1) c3] : List Value).toArray.all (·.oneCell') = true by simp [Value.oneCell'])
              have HVy := Lib.hid hw6
              have Z6 := Lib.hid (show w6.heap[w.heap.size + 2]? = some (.cells ([.int .i64 has.c, .int .i64 has.m, .int .i64 has.p, .slice A3 (n + 1) c3] : List Value).toArray 29 (0, 0)) by rw [← hw6]; exact Back.st ZZ.out rfl)
              have B8 := Lib.hid (show Below w.heap.size w w6 by rw [← hw6]; exact bel_set BZ.out (by omega))
              have K6 := Lib.hid (show ∀ r cur e, e ≠ 29 → w7.heap[r]? = some (Obj.cells cur e (0, 0)) → w6.heap[r]? = w7.heap[r]? from fun r cur e he hr => by
                have h1 : r ≠ w.heap.size := fun e1 => by
                  rw [e1, N7.out] at hr
                  injection hr with hr
                  injection hr with _ hr
                  exact he hr.symm
                have h2 : r ≠ w.heap.size + 2 := fun e1 => by
                  rw [e1, Z7.out] at hr
                  injection hr with hr
                  injection hr with _ hr
                  exact he hr.symm
                rw [← hw6, (Back.far _ _ 0 wz).2.2.2.2 r h2, KZ.out r h1])
              clear hw6
              go_wp2_with (first | (refine wpList_load_mid rfl 29 _ rfl _ _ rfl _ _ RN.out Tryz.underlying29 rfl (by kernel_rfl) ?_) | (refine wpList_store_at rfl 29 _ _ rfl _ _ _ rfl rfl THy.out (by kernel_rfl) ONEy.out HVy.out ?_))
              refine bodyPost_ret (v := .tuple #[.agg ([.int .i64 has.c, .int .i64 has.m, .int .i64 has.p, .slice A3 (n + 1) c3] : List Value).toArray, .int .i64 0]) (res_adm _ _ _ [.int .i64 has.c, .int .i64 has.m, .int .i64 has.p, .slice A3 (n + 1) c3] _ rfl rfl Z6.out rfl) rfl ?_
              have L8 : (ds.take k ++ d0 :: ds.drop k).length = n + 1 := by rw [List.length_append, List.length_cons, List.length_take, List.length_drop, HLN.out]; omega
              refine ⟨A3, c3, ds.take k ++ d0 :: ds.drop k, by rw [HE.out, L8], ?_, ⟨?_, fun d hd => ?_, by rw [L8]; omega, fun d hd => ?_⟩, B8.out⟩
              · unfold admL
                rw [HE.out, if_pos rfl, HA.out, HPS.out]
                unfold insP
                rw [HLO.out]
                simp [pods, D0.out]
              · rw [L8]
                exact owns_of HO3.out fun r hr => by
                  obtain ⟨_, cur, h2⟩ := owns_at HO3.out hr
                  exact K6.out r cur _ (by decide) h2
              · have hd2 : d = d0 ∨ d ∈ ds := by
                  rcases List.mem_append.1 hd with h | h
                  · exact .inr (List.mem_of_mem_take h)
                  · rcases List.mem_cons.1 h with h | h
                    · exact .inl h
                    · exact .inr (List.mem_of_mem_drop h)
                rcases hd2 with rfl | hd2
                · exact owns_base (owns_of P7.out fun r hr => by
                    obtain ⟨_, cur, h2⟩ := owns_at P7.out hr
                    exact K6.out r cur _ (by decide) h2) (Nat.zero_le _)
                · exact owns_base ((H.out.below B8.out).ps d hd2) (Nat.zero_le _)
              · have hd2 : d = d0 ∨ d ∈ ds := by
                  rcases List.mem_append.1 hd with h | h
                  · exact .inr (List.mem_of_mem_take h)
                  · rcases List.mem_cons.1 h with h | h
                    · exact .inl h
                    · exact .inr (List.mem_of_mem_drop h)
                rcases hd2 with rfl | hd2
                · rw [D0.out]
                  exact ⟨AO.out, PL.out⟩
                · exact H.out.ask d hd2
    · have hz1 : (z == 0) = false := by simpa using hz0
      have hz2 : (z != 0) = true := by simpa using hz0
      have HZ0 := Lib.hid hz0
      clear hz0
      have HA0 := Lib.hid (show admL has (pods ds) u (askS S) = pods ds from adm_no (by rw [HE.out]; exact HZ0.out))
      have RN := Lib.hid (show v2.rangeAt w.heap.size 0 [.int .i64 has.c, .int .i64 has.m, .int .i64 has.p, .slice A n c] from range_box N2.out)
      obtain ⟨w6, hw6⟩ : ∃ v, v2.setCells (w.heap.size + 2) 0 [.int .i64 has.c, .int .i64 has.m, .int .i64 has.p, .slice A n c] = v := ⟨_, rfl⟩
      have THy := Lib.hid (show v2.there (w.heap.size + 2) 0 4 from Back.th Z2.out rfl)
      have ONEy := Lib.hid (show ([.int .i64 has.c, .int .i64 has.m, .int .i64 has.p, .slice A n c] : List Value).toArray.all (·.oneCell') = true by simp [Value.oneCell'])
      have HVy := Lib.hid hw6
      have Z6 := Lib.hid (show w6.heap[w.heap.size + 2]? = some (.cells ([.int .i64 has.c, .int .i64 has.m, .int .i64 has.p, .slice A n c] : List Value).toArray 29 (0, 0)) by rw [← hw6]; exact Back.st Z2.out rfl)
      have B6 := Lib.hid (show Below w.heap.size w w6 by rw [← hw6]; exact bel_set B2.out (by omega))
      clear hw6
      go_wp2_with (first | (refine wpList_load_mid rfl 29 _ rfl _ _ rfl _ _ RN.out Tryz.underlying29 rfl (by kernel_rfl) ?_) | (refine wpList_store_at rfl 29 _ _ rfl _ _ _ rfl rfl THy.out (by kernel_rfl) ONEy.out HVy.out ?_))
      refine bodyPost_ret (v := .tuple #[.agg ([.int .i64 has.c, .int .i64 has.m, .int .i64 has.p, .slice A n c] : List Value).toArray, .int .i64 z]) (res_adm _ _ _ [.int .i64 has.c, .int .i64 has.m, .int .i64 has.p, .slice A n c] _ rfl rfl Z6.out rfl) rfl ?_
      exact ⟨A, c, ds, by rw [HE.out, HLN.out], HA0.out.symm, (H.out.below B6.out).base (Nat.zero_le _), B6.out⟩
end Nd
end Go.Proofs.YtbichomjpmmjmaaGreatDoor
