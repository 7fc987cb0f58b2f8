/-
  The document's answer for nodes: what is used. All that was there is left as it was. Conditions: the pods lie in a row, what they ask for are 64-bit integers.
-/
import Derived.Test.YtbichomjpmmjmaaGreatDoorNp10
import Derived.Test.YtbichomjpmmjmaaGreatDoorNp7
import Derived.Test.YtbichomjpmmjmaaGreatDoorNp0
import Derived.WalkKit
import Derived.BigFrame
import Derived.Laws.AppendOwn
import Derived.Laws.AppendOwnNone
import Derived.Laws.OwnMore
import Derived.OwnWalk
import Derived.Great.BuildSlice
import Derived.LoopN
set_option linter.unusedVariables false
set_option linter.unusedSimpArgs false
namespace Go.Proofs.YtbichomjpmmjmaaGreatDoor
open Go.ChangeShapes Go.WideShapes Go.ChangeAt Go.RowKit Go.Lib
open NumMath
namespace Nd
open Re
theorem at_five (r k : Nat) : (⟨r, 0, none⟩ : Addr).add (k * 5) = ⟨r, k * 5, none⟩ := by unfold Addr.add; split <;> simp_all
/-- what pod k of a row asks for -/
theorem row_ask {w : World} {base : Nat} {e : TypeId} {A : Option Addr} {c : Nat} {l : List Pd} (h : w.ownsRow base e 5 (.slice A l.length c) l.length (flat5 l)) {k : Nat} {d : Pd} (hx : l[k]? = some d) :
    ∃ r, A = some ⟨r, 0, none⟩ ∧ r < w.heap.size ∧ base ≤ r ∧ w.rangeAt r (k * 5 + 1) (R3 d.x.ask) := by
  obtain ⟨r, h1, h2, k0, k1, k2, k3, k4⟩ := row_at h hx
  have h3 : base ≤ r := by
    rcases own_addr h with ⟨e1, _, _⟩ | ⟨r2, e1, h3, _⟩
    · rw [e1] at h1; cases h1
    · rw [e1] at h1; injection h1 with h1; injection h1 with h1; omega
  refine ⟨r, h1, h2, h3, fun j v hv => ?_⟩
  match j, hv with
  | 0, hv => simp at hv; subst hv; exact k1
  | 1, hv => simp at hv; subst hv; exact k2
  | 2, hv => simp at hv; subst hv; exact k3
  | j + 3, hv => simp at hv
theorem used_step {ds : List Pd} {k : Nat} {d : Pd} (h : ds[k]? = some d) (s : Rx) : usedF s (pods (ds.drop k)) = usedF (addR s d.x.ask).1 (pods (ds.drop (k + 1))) := by
  rw [List.drop_eq_getElem_cons (List.getElem?_eq_some_iff.1 h).1, (List.getElem?_eq_some_iff.1 h).2]
  rfl
theorem res_used (tmps : Array Value) (w : World) (p : Nat) (xs : List Value) (h2 : tmps.getD 2 undef = .pointer (some ⟨p, 0, none⟩)) (hX : w.heap[p]? = some (.cells xs.toArray 23 (0, 0))) (hm : xs.length = 3) :
    (results Tryz.f12 tmps).run Tryz.prog w = .ok (.agg xs.toArray) w := by
  have h1 : (loadVar 23 ⟨p, 0, none⟩).run Tryz.prog w = .ok (.agg xs.toArray) w := run_loadVar_mid w p 0 23 _ _ (range_box hX) Tryz.underlying23 rfl (by rw [hm]; kernel_rfl)
  simp only [results, Tryz.results12]
  simp only [Array.getD_eq_getD_getElem?] at h2
  have ha : (asAddr (tmps[2]?.getD undef)).run Tryz.prog w = .ok ⟨p, 0, none⟩ w := by rw [h2]; rfl
  simp [Sem.run_bind, h1, ha]
set_option maxRecDepth 100000 in
set_option maxHeartbeats 4000000 in
theorem refused_any {B : Nat} {ds : List Pd} {A : Option Addr} {c : Nat} (has : Rx) (w : World) (h : Nl w B A c ds) :
    Calls Tryz.prog 12 #[.agg #[.int .i64 has.c, .int .i64 has.m, .int .i64 has.p, .slice A ds.length c]] w (Told1 (usedR (pods ds)) w) := by
  have H := Lib.hid h
  obtain ⟨n, hln⟩ : ∃ n, ds.length = n := ⟨_, rfl⟩
  have HLN := Lib.hid hln
  have hn := h.few
  rw [hln] at hn
  rw [hln]
  clear h hln
  have hn' : (n : Int) ≤ 100000 := by omega
  obtain ⟨w0, hw0⟩ : ∃ v, ((w.alloc (.cells #[.int .i64 has.c, .int .i64 has.m, .int .i64 has.p, .slice A n c] 29)).alloc (.cells #[.int .i64 0, .int .i64 0, .int .i64 0] 23)).alloc (.cells #[.int .i64 0, .int .i64 0, .int .i64 0] 23) = v := ⟨_, rfl⟩
  have N0 := Lib.hid (show w0.heap[w.heap.size]? = some (.cells #[.int .i64 has.c, .int .i64 has.m, .int .i64 has.p, .slice A n c] 29 (0, 0)) by rw [← hw0, Below.heap_alloc _ _ _ (by simp; omega), Below.heap_alloc _ _ _ (by simp)]; exact heap_alloc_new w _)
  have Z0 := Lib.hid (show w0.heap[w.heap.size + 1]? = some (.cells (R3 z3).toArray 23 (0, 0)) by rw [← hw0, Below.heap_alloc _ _ _ (by simp)]; have := heap_alloc_new (w.alloc (.cells #[.int .i64 has.c, .int .i64 has.m, .int .i64 has.p, .slice A n c] 29)) (.cells #[.int .i64 0, .int .i64 0, .int .i64 0] 23); rw [World.size_alloc] at this; exact this)
  have S0 := Lib.hid (show w0.heap[w.heap.size + 2]? = some (.cells (R3 z3).toArray 23 (0, 0)) by rw [← hw0]; have := heap_alloc_new ((w.alloc (.cells #[.int .i64 has.c, .int .i64 has.m, .int .i64 has.p, .slice A n c] 29)).alloc (.cells #[.int .i64 0, .int .i64 0, .int .i64 0] 23)) (.cells #[.int .i64 0, .int .i64 0, .int .i64 0] 23); rw [World.size_alloc, World.size_alloc] at this; exact this)
  have B0 := Lib.hid (show Below w.heap.size w w0 by rw [← hw0]; go_grown)
  have NR := Lib.hid (show ∀ r, A = some ⟨r, 0, none⟩ → r < w.heap.size from fun r hr => by
    rcases own_addr H.out.row with ⟨e, _, _⟩ | ⟨r2, e, _, h3⟩
    · rw [e] at hr; cases hr
    · rw [e] at hr; injection hr with hr; injection hr with hr; omega)
  go_enter Tryz.func12, Tryz.ntmps12
  go_wp2_with fail
  clear hw0
  go_loopw [4] (fun i wr => ∃ (k : Nat) (s : Rx), k ≤ n ∧ i = .int .i64 k ∧ Hid s.Ok ∧ Hid (usedR (pods ds) = usedF s (pods (ds.drop k))) ∧ Hid (Below w.heap.size w wr) ∧ Hid (wr.heap[w.heap.size]? = some (.cells #[.int .i64 has.c, .int .i64 has.m, .int .i64 has.p, .slice A n c] 29 (0, 0))) ∧ Hid (wr.heap[w.heap.size + 1]? = some (.cells (R3 z3).toArray 23 (0, 0))) ∧ Hid (wr.heap[w.heap.size + 2]? = some (.cells (R3 s).toArray 23 (0, 0)))) (fun i _ => n - (RowKit.intOf i).toNat)
  case atStart => exact ⟨0, z3, Nat.zero_le _, rfl, z3_ok, (by rw [List.drop_zero]; rfl : usedR (pods ds) = usedF z3 (pods (ds.drop 0))), B0.out, N0.out, Z0.out, S0.out⟩
  case round =>
    obtain ⟨k, s, hk, rfl, SO, HS, BW, NX, ZX, SX⟩ := hrel
    have hk6 : (k : Int) ≤ 100000 := by omega
    have b3 := box_cell NX.out 3 (v := .slice A n c) rfl
    by_cases hlt : k < n
    · have hka : (k : Int) < (n : Int) := by omega
      have hk0 : (0 : Int) ≤ (k : Int) := by omega
      obtain ⟨d, hd⟩ : ∃ d, ds[k]? = some d := ⟨_, List.getElem?_eq_getElem (by have := HLN.out; omega)⟩
      obtain ⟨r, rfl, hr, _, hrg⟩ := row_ask (H.out.below BW.out).row hd
      have hrw := NR.out r rfl
      have HD := Lib.hid (used_step hd s)
      have XO := Lib.hid (H.out.ask d (List.mem_of_getElem? hd)).1
      obtain ⟨x, hx⟩ : ∃ x, d.x.ask = x := ⟨_, rfl⟩
      rw [hx] at HD XO hrg
      have eat := at_five r k
      have RGX := Lib.hid hrg
      have RLT := Lib.hid hr
      have RNE := Lib.hid (show r ≠ w.heap.size + 2 by omega)
      have NLT := Lib.hid (lt_of_block NX.out)
      have QO := Lib.hid (add_ok s x)
      obtain ⟨q, hq⟩ : ∃ q, addR s x = q := ⟨_, rfl⟩
      rw [hq] at HD QO
      have HQ := Lib.hid hq
      clear hq hx hr hrg hd hrw
      go_wp2_with fail
      refine Vls.wp_region (by kernel_rfl) (Jx.JE wr (w.heap.size + 2) 11 (R3 s) (R3 q.1) 23 [(2, 1), (4, 2), (4, 3), (5, 4), (6, 5), (7, 0), (7, 6), (8, 7), (9, 8), (10, 8), (11, 9)] [.agg (R3 s).toArray, .pointer (some ⟨w.heap.size, 3, none⟩), .slice (some ⟨r, 0, none⟩) n c, .int .i64 k, .pointer (some ⟨r, k * 5, none⟩), .pointer (some ⟨r, k * 5 + 1, none⟩), .agg (R3 x).toArray, .tuple #[.agg (R3 q.1).toArray, .bool q.2], .tuple #[.agg (R3 q.1).toArray, .bool q.2], .agg (R3 q.1).toArray, .bool q.2, undef]) (by kernel_rfl) (fun _ => undef) (Jx.JE.start SX.out _) ?_ ?_
      · refine ⟨?_, ?_, ?_, ?_, ?_, ?_, ?_, ?_, ?_, ?_, ?_, ?_, trivial⟩
        · intro s_ a_ u V hs hd hfr hpo hJ
          have f3 : a_.tmps.getD 3 undef = .pointer (some ⟨w.heap.size + 2, 0, none⟩) := hfr 3 (by kernel_rfl)
          refine .inl ⟨rfl, ?_⟩
          exact wp_load_mid 23 (.tmp 3) rfl (w.heap.size + 2) (0) f3 (R3 s) _ (range_box (hJ.old (hJ.back 11 (by simp) (hJ.back 9 (by simp) (hJ.back 8 (by simp) (hJ.back 7 (by simp) hs)))))) Tryz.underlying23 rfl (by kernel_rfl) ⟨_, rfl, hJ.step 0 (by decide) rfl (Below.refl _ _) rfl⟩
        · intro s_ a_ u V hs hd hfr hpo hJ
          have f1 : a_.tmps.getD 1 undef = .pointer (some ⟨w.heap.size, 0, none⟩) := hfr 1 (by kernel_rfl)
          refine .inl ⟨rfl, ?_⟩
          unfold Oper.wp
          rw [show (execOp a_.eval _).run Tryz.prog u = .ok (.value (.pointer (some ⟨w.heap.size, 3, none⟩))) u from by simp [go_sem, Act.eval, f1]]
          exact ⟨_, rfl, hJ.step 1 (by decide) rfl (Below.refl _ _) rfl⟩
        · intro s_ a_ u V hs hd hfr hpo hJ
          have e1 : a_.tmps.getD 14 undef = .pointer (some ⟨w.heap.size, 3, none⟩) := (hpo 1 14 (by kernel_rfl)).trans (hJ.get 1 (by decide) (hd 1 (by kernel_rfl)) rfl)
          refine .inl ⟨rfl, ?_⟩
          have cx0 := box_cell ((hJ.but.block _ NLT.out (by omega)).trans NX.out) 3 (v := .slice (some ⟨r, 0, none⟩) n c) rfl
          unfold Oper.wp
          rw [show (execOp a_.eval _).run Tryz.prog u = .ok (.value (.slice (some ⟨r, 0, none⟩) n c)) u from by simp [go_sem, Act.eval, e1, cx0]]
          exact ⟨_, rfl, hJ.step 2 (by decide) (by show (s_ 1 && true) = true; rw [hd 1 (by kernel_rfl)]; rfl) (Below.refl _ _) rfl⟩
        · intro s_ a_ u V hs hd hfr hpo hJ
          have f4 : a_.tmps.getD 4 undef = .int .i64 k := hfr 4 (by kernel_rfl)
          refine .inl ⟨rfl, ?_⟩
          unfold Oper.wp
          rw [show (execOp a_.eval _).run Tryz.prog u = .ok (.value (.int .i64 k)) u from by simp [go_sem, Act.eval, f4]]
          exact ⟨_, rfl, hJ.step 3 (by decide) rfl (Below.refl _ _) rfl⟩
        · intro s_ a_ u V hs hd hfr hpo hJ
          have e2 : a_.tmps.getD 15 undef = .slice (some ⟨r, 0, none⟩) n c := (hpo 2 15 (by kernel_rfl)).trans (hJ.get 2 (by decide) (hd 2 (by kernel_rfl)) rfl)
          have e3 : a_.tmps.getD 16 undef = .int .i64 k := (hpo 3 16 (by kernel_rfl)).trans (hJ.get 3 (by decide) (hd 3 (by kernel_rfl)) rfl)
          refine .inl ⟨rfl, ?_⟩
          unfold Oper.wp
          rw [show (execOp a_.eval _).run Tryz.prog u = .ok (.value (.pointer (some ⟨r, k * 5, none⟩))) u from by simp [go_sem, Act.eval, e2, e3, hk0, hka, eat]]
          exact ⟨_, rfl, hJ.step 4 (by decide) (by show (s_ 2 && (s_ 3 && true)) = true; rw [hd 2 (by kernel_rfl), hd 3 (by kernel_rfl)]; rfl) (Below.refl _ _) rfl⟩
        · intro s_ a_ u V hs hd hfr hpo hJ
          have e4 : a_.tmps.getD 17 undef = .pointer (some ⟨r, k * 5, none⟩) := (hpo 4 17 (by kernel_rfl)).trans (hJ.get 4 (by decide) (hd 4 (by kernel_rfl)) rfl)
          refine .inl ⟨rfl, ?_⟩
          unfold Oper.wp
          rw [show (execOp a_.eval _).run Tryz.prog u = .ok (.value (.pointer (some ⟨r, k * 5 + 1, none⟩))) u from by simp [go_sem, Act.eval, e4]]
          exact ⟨_, rfl, hJ.step 5 (by decide) (by show (s_ 4 && true) = true; rw [hd 4 (by kernel_rfl)]; rfl) (Below.refl _ _) rfl⟩
        · intro s_ a_ u V hs hd hfr hpo hJ
          have e5 : a_.tmps.getD 18 undef = .pointer (some ⟨r, k * 5 + 1, none⟩) := (hpo 5 18 (by kernel_rfl)).trans (hJ.get 5 (by decide) (hd 5 (by kernel_rfl)) rfl)
          refine .inl ⟨rfl, ?_⟩
          exact wp_load_mid 23 (.tmp 18) rfl (r) (k * 5 + 1) e5 (R3 x) _ (range_mv (hJ.but.block _ RLT.out RNE.out) RGX.out) Tryz.underlying23 rfl (by kernel_rfl) ⟨_, rfl, hJ.step 6 (by decide) (by show (s_ 5 && true) = true; rw [hd 5 (by kernel_rfl)]; rfl) (Below.refl _ _) rfl⟩
        · intro s_ a_ u V hs hd hfr hpo hJ
          have e0 : a_.tmps.getD 13 undef = .agg (R3 s).toArray := (hpo 0 13 (by kernel_rfl)).trans (hJ.get 0 (by decide) (hd 0 (by kernel_rfl)) rfl)
          have e6 : a_.tmps.getD 19 undef = .agg (R3 x).toArray := (hpo 6 19 (by kernel_rfl)).trans (hJ.get 6 (by decide) (hd 6 (by kernel_rfl)) rfl)
          refine .inl ⟨rfl, ?_⟩
          unfold Oper.wp
          rw [show (execOp a_.eval _).run Tryz.prog u = .ok (.enter 37 #[.agg (R3 s).toArray, .agg (R3 x).toArray]) u from by simp [go_sem, Act.eval, e0, e6]]
          refine Calls.mono (refadd_any s x SO.out XO.out u) ?_
          rintro e u2 ⟨rfl, hb⟩
          rw [HQ.out]
          exact ⟨_, rfl, hJ.step 7 (by decide) (by show (s_ 0 && (s_ 6 && true)) = true; rw [hd 0 (by kernel_rfl), hd 6 (by kernel_rfl)]; rfl) hb rfl⟩
        · intro s_ a_ u V hs hd hfr hpo hJ
          have e7 : a_.tmps.getD 20 undef = .tuple #[.agg (R3 q.1).toArray, .bool q.2] := (hpo 7 20 (by kernel_rfl)).trans (hJ.get 7 (by decide) (hd 7 (by kernel_rfl)) rfl)
          refine .inl ⟨rfl, ?_⟩
          unfold Oper.wp
          rw [show (execOp a_.eval _).run Tryz.prog u = .ok (.value (.tuple #[.agg (R3 q.1).toArray, .bool q.2])) u from by simp [go_sem, Act.eval, e7]]
          exact ⟨_, rfl, hJ.step 8 (by decide) (by show (s_ 7 && true) = true; rw [hd 7 (by kernel_rfl)]; rfl) (Below.refl _ _) rfl⟩
        · intro s_ a_ u V hs hd hfr hpo hJ
          have e8 : a_.tmps.getD 12 undef = .tuple #[.agg (R3 q.1).toArray, .bool q.2] := (hpo 8 12 (by kernel_rfl)).trans (hJ.get 8 (by decide) (hd 8 (by kernel_rfl)) rfl)
          refine .inl ⟨rfl, ?_⟩
          unfold Oper.wp
          rw [show (execOp a_.eval _).run Tryz.prog u = .ok (.value (.agg (R3 q.1).toArray)) u from by simp [go_sem, Act.eval, e8]]
          exact ⟨_, rfl, hJ.step 9 (by decide) (by show (s_ 8 && true) = true; rw [hd 8 (by kernel_rfl)]; rfl) (Below.refl _ _) rfl⟩
        · intro s_ a_ u V hs hd hfr hpo hJ
          have e8 : a_.tmps.getD 12 undef = .tuple #[.agg (R3 q.1).toArray, .bool q.2] := (hpo 8 12 (by kernel_rfl)).trans (hJ.get 8 (by decide) (hd 8 (by kernel_rfl)) rfl)
          refine .inl ⟨rfl, ?_⟩
          unfold Oper.wp
          rw [show (execOp a_.eval _).run Tryz.prog u = .ok (.value (.bool q.2)) u from by simp [go_sem, Act.eval, e8]]
          exact ⟨_, rfl, hJ.step 10 (by decide) (by show (s_ 8 && true) = true; rw [hd 8 (by kernel_rfl)]; rfl) (Below.refl _ _) rfl⟩
        · intro s_ a_ u V hs hd hfr hpo hJ
          have f3 : a_.tmps.getD 3 undef = .pointer (some ⟨w.heap.size + 2, 0, none⟩) := hfr 3 (by kernel_rfl)
          have e9 : a_.tmps.getD 21 undef = .agg (R3 q.1).toArray := (hpo 9 21 (by kernel_rfl)).trans (hJ.get 9 (by decide) (hd 9 (by kernel_rfl)) rfl)
          refine .inl ⟨rfl, ?_⟩
          exact wp_store_mid 23 (.tmp 3) (.tmp 21) rfl (w.heap.size + 2) 0 (R3 q.1).toArray f3 e9 (Back.th hJ.bx (by split <;> rfl)) (by kernel_rfl) (by simp [Value.oneCell']) ⟨undef, rfl, hJ.st (by show (s_ 9 && true) = true; rw [hd 9 (by kernel_rfl)]; rfl) rfl _⟩
      · intro s_ V w5 hall hJ
        have e12 : V 8 = .tuple #[.agg (R3 q.1).toArray, .bool q.2] := hJ.get 8 (by decide) (hall 8 (by decide)) rfl
        have S5 : w5.heap[w.heap.size + 2]? = some (.cells (R3 q.1).toArray 23 (0, 0)) := by have := hJ.bx; rwa [hall 11 (by decide), if_pos rfl] at this
        have S6 := Lib.hid S5
        have N6 := Lib.hid ((hJ.but.block _ NLT.out (by omega)).trans NX.out)
        have Z6 := Lib.hid ((hJ.but.block _ (lt_of_block ZX.out) (by omega)).trans ZX.out)
        have B6 := Lib.hid (hJ.but.below BW.out BW.out.size (by omega))
        have HE := Lib.hid (HS.out.trans HD.out)
        clear hall hJ S5 e12 b3
        simp only [Bxs.puts, Nat.reduceAdd, put_none, put_lit, List.set_cons_succ, List.set_cons_zero]
        go_wp2_with fail
        go_roundw
        case rel => exact ⟨k + 1, q.1, by omega, by go_num, QO.out, HE.out, B6.out, N6.out, Z6.out, S6.out⟩
        case measure => simp [RowKit.intOf]; omega
    · have hka : ¬ (k : Int) < (n : Int) := by omega
      have HE := Lib.hid (show usedR (pods ds) = s by rw [HS.out, List.drop_eq_nil_of_le (by have := HLN.out; omega)]; rfl)
      have RS := Lib.hid (range_box SX.out)
      obtain ⟨w6, hw6⟩ : ∃ v, wr.setCells (w.heap.size + 1) 0 (R3 s) = v := ⟨_, rfl⟩
      have THz := Lib.hid (show wr.there (w.heap.size + 1) 0 3 from Back.th ZX.out rfl)
      have ONEz := Lib.hid (show ((R3 s) : List Value).toArray.all (·.oneCell') = true by simp [Value.oneCell'])
      have HVz := Lib.hid hw6
      have Z6 := Lib.hid (show w6.heap[w.heap.size + 1]? = some (.cells (R3 s).toArray 23 (0, 0)) by rw [← hw6]; exact Back.st ZX.out rfl)
      have B6 := Lib.hid (show Below w.heap.size w w6 by rw [← hw6]; exact bel_set BW.out (by omega))
      clear hw6
      go_wp2_with (first | (refine wpList_load_mid rfl 23 _ rfl _ _ rfl _ _ RS.out Tryz.underlying23 rfl (by kernel_rfl) ?_) | (refine wpList_store_at rfl 23 _ _ rfl _ _ _ rfl rfl THz.out (by kernel_rfl) ONEz.out HVz.out ?_))
      refine bodyPost_ret (v := .agg (R3 s).toArray) (res_used _ _ _ (R3 s) rfl Z6.out rfl) rfl ?_
      rw [HE.out]
      exact ⟨rfl, B6.out⟩
end Nd
end Go.Proofs.YtbichomjpmmjmaaGreatDoor

/-
  'append' onto a row of the call's own, wherever it stands behind a guard that says yes, the source nil or not: a row of the call's own with the source's elements behind. Conditions: as the law says.
-/
namespace Go.Proofs.YtbichomjpmmjmaaGreatDoor
open Go.RowKit
namespace AppendAny
theorem wpList_append_want {P : Program} {w : World} {ops : Array Oper} {rest : List Oper} {o : Oper} {a : Act} {Q : Exit → Act → World → Prop} (hgd : Region.wanted o (yielded ops a.tmps) = true) (s x : Operand) (t : TypeId)
    (ho : o.op = .call { callee := .builtin .append, args := #[s, x], argTypes := #[t, t] })
    (base : Nat) (e : TypeId) (i : TypeInfo) (z : Value) (size bytes : Nat) (ht : P.underlying t = some (.slice e)) (hi : P.info? e = some i) (hz : i.zero = some z)
    (hsize : i.size = size) (hby : i.bytes = bytes) (hzs : z.cells.size = size) (hsz : 0 < size)
    (v : Value) (n : Nat) (xs : List Value) (hs : a.eval s = v) (hown : w.ownsRow base e size v n xs)
    (A : Option Addr) (m c : Nat) (news : List Value) (hx : a.eval x = .slice A m c) (hl : news.length = m * size)
    (hsrc : (A = none ∧ m = 0 ∧ c = 0) ∨ ∃ ad, A = some ad ∧ ∀ j u, news[j]? = some u → w.cell? (ad.add j) = some u) (h1 : ∀ u ∈ news, u.oneCell' = true)
    (h63 : n + m ≤ maxLen) (hbytes : (n + m) * bytes ≤ 140737488355328) (hbase : base ≤ w.heap.size)
    (h : ∀ v' w', w'.ownsRow base e size v' (n + m) (xs ++ news) → w.grownBy w' v.ownBlock → wpList P ops Q rest (a.put o.dst v') w') : wpList P ops Q (o :: rest) a w := by
  rcases hsrc with ⟨rfl, rfl, rfl⟩ | ⟨ad, rfl, hc⟩
  · refine BigFrame.wpList_want hgd fun K hK => ?_
    have hrun := run_append_owned_none (P := P) (w := w) base t o.type e i size ht hi v n xs hown
    unfold Oper.wp
    simp [execOp, ho, resolve, invoke, builtin, hs, hx, hrun, Result.andThen]
    have hn : news = [] := List.eq_nil_of_length_eq_zero (by simpa using hl)
    exact hK _ _ (h v w (by rw [hn]; simpa using hown) ⟨rfl, rfl, rfl, Nat.le_refl _, fun _ _ _ => rfl⟩)
  · exact BigFrame.wpList_want hgd fun K hK => wp_append_own w s x t ho base e i z size bytes ht hi hz hsize hby hzs hsz v n xs hs hown ad m c news hx hl hc h1 h63 hbytes hbase fun v' w' h2 h3 _ => hK _ _ (h v' w' h2 h3)
end AppendAny
end Go.Proofs.YtbichomjpmmjmaaGreatDoor

/-
  Rows of resources: what lies in a row of the call's own, append, and small. No condition.
-/
set_option linter.unusedVariables false
set_option linter.unusedSimpArgs false
namespace Go.Proofs.YtbichomjpmmjmaaGreatDoor
open Go.ChangeShapes Go.WideShapes Go.ChangeAt Go.RowKit Go.Lib
open NumMath
namespace Re
def flatR : List Rx → List Value
  | [] => []
  | x :: l => R3 x ++ flatR l
theorem flatR_cat : ∀ (l m : List Rx), flatR (l ++ m) = flatR l ++ flatR m
  | [], _ => rfl
  | x :: l, m => by rw [List.cons_append, flatR, flatR, flatR_cat l m, List.append_assoc]
theorem flatR_at : ∀ {l : List Rx} {k : Nat} {x : Rx}, l[k]? = some x → ∀ j, j < 3 → (flatR l)[k * 3 + j]? = (R3 x)[j]?
  | [], k, x, h, _, _ => by simp at h
  | y :: l, 0, x, h, j, hj => by
    simp only [List.getElem?_cons_zero, Option.some.injEq] at h
    subst h
    rw [flatR, List.getElem?_append_left (by simp; omega)]
    simp
  | y :: l, k + 1, x, h, j, hj => by
    simp only [List.getElem?_cons_succ] at h
    rw [flatR, List.getElem?_append_right (by simp; omega), ← flatR_at h j hj]
    congr 1
    simp; omega
theorem one_flatR : ∀ (l : List Rx), ∀ u ∈ flatR l, u.oneCell' = true
  | [], u, h => by cases h
  | x :: l, u, h => by
    rw [flatR, List.mem_append] at h
    rcases h with h | h
    · simp only [List.mem_cons, List.not_mem_nil, or_false] at h
      rcases h with rfl | rfl | rfl <;> rfl
    · exact one_flatR l u h
/-- a row of the call's own holds the list -/
theorem ress_own {w : World} {base n c : Nat} {A : Option Addr} {l : List Rx} (h : w.ownsRow base 23 3 (.slice A n c) n (flatR l)) (hn : l.length = n) (hk : ∀ x ∈ l, x.Ok) : Ress w A l := fun k x hx => by
  obtain ⟨h1, h2⟩ := h
  have hkl : k < l.length := (List.getElem?_eq_some_iff.1 hx).1
  rcases h2 with ⟨_, h0⟩ | ⟨g, cap, cur, e, _, hg, _, _, _, ht⟩
  · omega
  · injection e with e1 _ _
    subst e1
    refine ⟨hk x (List.mem_of_getElem? hx), g, 0, rfl, lt_of_at hg, fun j v hv => ?_⟩
    have hj : j < 3 := by have := (List.getElem?_eq_some_iff.1 hv).1; simpa using this
    rw [← flatR_at hx j hj, ← ht, List.getElem?_take_of_lt (by omega)] at hv
    exact cell_of hg _ (by simpa using hv)
theorem res_info : ∃ i, Tryz.prog.info? 23 = some i ∧ i.zero = some (.agg #[.int .i64 0, .int .i64 0, .int .i64 0]) ∧ i.size = 3 ∧ i.bytes = 24 := by
  have h : (Tryz.prog.info? 23).map (fun i => (i.zero, i.size, i.bytes)) = some (some (.agg #[.int .i64 0, .int .i64 0, .int .i64 0]), 3, 24) := by kernel_rfl
  cases hi : Tryz.prog.info? 23 with
  | none => rw [hi] at h; cases h
  | some i =>
    rw [hi] at h
    simp only [Option.map_some, Option.some.injEq, Prod.mk.injEq] at h
    exact ⟨i, rfl, h.1, h.2.1, h.2.2⟩
/-- append of one onto a row of the call's own -/
theorem wpList_append_res {w : World} {ops : Array Oper} {rest : List Oper} {o : Oper} {a : Act} {Q : Exit → Act → World → Prop} (hgd : o.guard = none) (s x : Operand)
    (ho : o.op = .call { callee := .builtin .append, args := #[s, x], argTypes := #[111, 111] })
    (base : Nat) (l : List Rx) (A : Option Addr) (n c : Nat) (hs : a.eval s = .slice A n c) (hown : w.ownsRow base 23 3 (.slice A n c) n (flatR l))
    (b m : Nat) (y : Rx) (hx : a.eval x = .slice (some ⟨b, 0, none⟩) 1 m) (hb : w.rangeAt b 0 (R3 y)) (hn : n ≤ 1000000) (hbase : base ≤ w.heap.size)
    (h : ∀ A' c' w', w'.ownsRow base 23 3 (.slice A' (n + 1) c') (n + 1) (flatR (l ++ [y])) → Below base w w' → wpList Tryz.prog ops Q rest (a.put o.dst (.slice A' (n + 1) c')) w') : wpList Tryz.prog ops Q (o :: rest) a w := by
  obtain ⟨i, hi, hz, hsz, hby⟩ := res_info
  refine AppendAny.wpList_append_want (by simp [Region.wanted, hgd]) s x 111 ho base 23 i (.agg #[.int .i64 0, .int .i64 0, .int .i64 0]) 3 24 Tryz.underlying111 hi hz hsz hby rfl (by decide) (.slice A n c) n (flatR l) hs hown (some ⟨b, 0, none⟩) 1 m (R3 y) hx rfl (.inr ⟨_, rfl, fun j u hu => ?_⟩) ?_ (by unfold maxLen; omega) (by omega) hbase fun v' w' h2 h3 => ?_
  · have := hb j u hu
    rw [Nat.zero_add] at this
    rw [show (⟨b, 0, none⟩ : Addr).add j = ⟨b, j, none⟩ by unfold Addr.add; split <;> simp_all]
    exact this
  · exact fun u hu => one_flatR [y] u (by rw [flatR, flatR, List.append_nil]; exact hu)
  · have : ∃ A' c', v' = .slice A' (n + 1) c' := by
      rcases h2.2 with ⟨e1, e2⟩ | ⟨g, cap, cur, e1, _⟩
      · exact ⟨none, 0, by rw [e1, e2]⟩
      · exact ⟨_, _, e1⟩
    obtain ⟨A', c', rfl⟩ := this
    refine h A' c' w' (by rw [flatR_cat, flatR, flatR, List.append_nil]; exact h2) ((Below.refl base w).grown h3 hbase fun k hk => (hown.lt k hk).1)
end Re
end Go.Proofs.YtbichomjpmmjmaaGreatDoor

/-
  Package res: Of, what a pod of a spec asks for. What was there is left as it was. Conditions: the containers lie as they should; at most 1000 of each.
-/
set_option linter.unusedVariables false
set_option linter.unusedSimpArgs false
namespace Go.Proofs.YtbichomjpmmjmaaGreatDoor
open Go.ChangeShapes Go.WideShapes Go.ChangeAt Go.RowKit Go.Lib
open NumMath
namespace Re
open Sd
/-- what a container asks for -/
def rq (x : Ctr) : Rx := ⟨x.rc, x.rm, x.rp⟩
theorem rq_ok {x : Ctr} (h : x.Fits) : (rq x).Ok := ⟨fits_iff.2 h.rc, fits_iff.2 h.rm, fits_iff.2 h.rp⟩
theorem add_at (r o k : Nat) : (⟨r, o, none⟩ : Addr).add k = ⟨r, o + k, none⟩ := by unfold Addr.add; split <;> simp_all
theorem spot_cell {W : World} {a : Addr} {v : Value} (h : W.cell? a = some v) : a.spot = none := by
  unfold World.cell? at h
  split at h
  · split at h
    · cases h
    · rename_i hs
      simpa using hs
  · cases h
theorem ctr_range {x : Ctr} {P : Option Addr} {c r o : Nat} {w : World} (h : x.cellsAt P c w ⟨r, o, none⟩) : w.rangeAt r o (x.cells P c) := by
  obtain ⟨h0, h1, h2, h3, h4, h5, h6, h7, h8, h9, h10, _⟩ := h
  intro j v hv
  match j, hv with
  | 0, hv => simp only [Ctr.cells, List.getElem?_cons_zero, Option.some.injEq] at hv; rw [← hv]; exact h0
  | 1, hv => simp only [Ctr.cells, List.getElem?_cons_succ, List.getElem?_cons_zero, Option.some.injEq] at hv; rw [← hv]; exact h1
  | 2, hv => simp only [Ctr.cells, List.getElem?_cons_succ, List.getElem?_cons_zero, Option.some.injEq] at hv; rw [← hv]; exact h2
  | 3, hv => simp only [Ctr.cells, List.getElem?_cons_succ, List.getElem?_cons_zero, Option.some.injEq] at hv; rw [← hv]; exact h3
  | 4, hv => simp only [Ctr.cells, List.getElem?_cons_succ, List.getElem?_cons_zero, Option.some.injEq] at hv; rw [← hv]; exact h4
  | 5, hv => simp only [Ctr.cells, List.getElem?_cons_succ, List.getElem?_cons_zero, Option.some.injEq] at hv; rw [← hv]; exact h5
  | 6, hv => simp only [Ctr.cells, List.getElem?_cons_succ, List.getElem?_cons_zero, Option.some.injEq] at hv; rw [← hv]; exact h6
  | 7, hv => simp only [Ctr.cells, List.getElem?_cons_succ, List.getElem?_cons_zero, Option.some.injEq] at hv; rw [← hv]; exact h7
  | 8, hv => simp only [Ctr.cells, List.getElem?_cons_succ, List.getElem?_cons_zero, Option.some.injEq] at hv; rw [← hv]; exact h8
  | 9, hv => simp only [Ctr.cells, List.getElem?_cons_succ, List.getElem?_cons_zero, Option.some.injEq] at hv; rw [← hv]; exact h9
  | 10, hv => simp only [Ctr.cells, List.getElem?_cons_succ, List.getElem?_cons_zero, Option.some.injEq] at hv; rw [← hv]; exact h10
  | j + 11, hv => simp [Ctr.cells] at hv
/-- a container of a list -/
theorem ctr_at {w : World} {A : Option Addr} {l : List Ctr} (h : Ctrs w A l) {k : Nat} {x : Ctr} (hk : l[k]? = some x) : (rq x).Ok ∧ ∃ r o P c, A = some ⟨r, o, none⟩ ∧ r < w.heap.size ∧ w.rangeAt r (o + k * 11) (x.cells P c) := by
  obtain ⟨hf, a, P, c, rfl, ha, hc, _⟩ := h k x hk
  have h0 : a.spot = none := by
    by_cases hk0 : k = 0
    · have := spot_cell hc.1
      rw [hk0] at this
      simpa [Addr.add] using this
    · obtain ⟨_, a', P', c', e, _, hc', _⟩ := h 0 (l[0]'(by have := (List.getElem?_eq_some_iff.1 hk).1; omega)) (List.getElem?_eq_getElem _)
      injection e with e
      subst e
      have := spot_cell hc'.1
      simpa [Addr.add] using this
  obtain ⟨r, o, s⟩ := a
  simp only at h0
  subst h0
  rw [add_at] at hc
  exact ⟨rq_ok hf, r, o, P, c, rfl, ha, ctr_range hc⟩
theorem maxL_snoc (s : Rx) (l : List Rx) (x : Rx) : maxL s (l ++ [x]) = maxR (maxL s l) x := by simp [maxL]
theorem take_snoc {α : Type} {l : List α} {k : Nat} {x : α} (h : l[k]? = some x) : l.take (k + 1) = l.take k ++ [x] := by
  rw [List.take_add_one, h]; rfl
theorem own_stay {w v : World} {base n : Nat} {u : Value} {xs : List Value} (h : w.ownsRow base 23 3 u n xs) (hb : Below w.heap.size w v) : v.ownsRow base 23 3 u n xs := by
  obtain ⟨h1, h2⟩ := h
  refine ⟨h1, ?_⟩
  rcases h2 with h2 | ⟨g, cap, cur, e, e1, hg, e2⟩
  · exact .inl h2
  · exact .inr ⟨g, cap, cur, e, e1, (hb.block g (lt_of_at hg)).trans hg, e2⟩
theorem run_build_res (x : Rx) (w : World) : (Instr.buildSlice 111 1 #[(0, .agg #[.int .i64 x.c, .int .i64 x.m, .int .i64 x.p])]).run Tryz.prog w = .ok (.slice (some ⟨w.heap.size, 0, none⟩) 1 1) (w.alloc (.cells #[.int .i64 x.c, .int .i64 x.m, .int .i64 x.p] 23)) := by
  obtain ⟨ie, hie, hz, hs, _⟩ := res_info
  refine run_buildSlice w _ _ 1 _ _ ie _ Tryz.underlying111 hie hz (by rw [hs]; decide) (by rw [hs]; decide) ?_
  rw [hs]
  rw [show (Array.range (1 * 3)).map ((Value.agg #[.int .i64 0, .int .i64 0, .int .i64 0]).cells[· % (Value.agg #[.int .i64 0, .int .i64 0, .int .i64 0]).cells.size]!) = #[.int .i64 0, .int .i64 0, .int .i64 0] by kernel_rfl]
  simp [Instr.fill, Value.cells]
theorem wpList_build_res {ops : Array Oper} {rest : List Oper} {op : Oper} {a : Act} {w v : World} {Q : Exit → Act → World → Prop} (hgd : op.guard = none) (y : Operand) (ho : op.op = .buildSlice 111 1 #[(0, y)]) (x : Rx) (hx : a.eval y = .agg #[.int .i64 x.c, .int .i64 x.m, .int .i64 x.p]) (hv : w.alloc (.cells #[.int .i64 x.c, .int .i64 x.m, .int .i64 x.p] 23) = v)
    (h : wpList Tryz.prog ops Q rest (a.put op.dst (.slice (some ⟨w.heap.size, 0, none⟩) 1 1)) v) : wpList Tryz.prog ops Q (op :: rest) a w := by
  refine wpList_plain hgd fun K hK => ?_
  have hrun := run_build_res x w
  subst hv
  unfold Oper.wp
  simp [execOp, ho, hx, hrun, Result.andThen]
  exact hK _ _ h
theorem res_of (tmps : Array Value) (w : World) (p : Nat) (xs : List Value) (x : Value) (h2 : tmps.getD 2 undef = .pointer (some ⟨p, 0, none⟩)) (h3 : tmps.getD 3 undef = x) (hX : w.heap[p]? = some (.cells xs.toArray 23 (0, 0))) (hm : xs.length = 3) :
    (results Tryz.f40 tmps).run Tryz.prog w = .ok (.tuple #[.agg xs.toArray, x]) w := by
  have h1 : (loadVar 23 ⟨p, 0, none⟩).run Tryz.prog w = .ok (.agg xs.toArray) w := run_loadVar_mid w p 0 23 _ _ (range_box hX) Tryz.underlying23 rfl (by rw [hm]; kernel_rfl)
  simp only [results, Tryz.results40]
  simp only [Array.getD_eq_getD_getElem?] at h2 h3
  have ha : (asAddr (tmps[2]?.getD undef)).run Tryz.prog w = .ok ⟨p, 0, none⟩ w := by rw [h2]; rfl
  simp [Sem.run_bind, h1, ha, h3]
set_option maxRecDepth 100000 in
set_option maxHeartbeats 4000000 in
theorem of_any (I M : List Ctr) (v0 v1 v4 v5 v6 : Value) (IA : Option Addr) (ic : Nat) (MA : Option Addr) (mc : Nat) (hi : I.length ≤ 1000) (hm : M.length ≤ 1000) (w : World) (hI : Ctrs w IA I) (hM : Ctrs w MA M) :
    Calls Tryz.prog 40 #[.agg #[v0, v1, .slice IA I.length ic, .slice MA M.length mc, v4, v5, v6]] w (Told3 (ofR (I.map rq) (M.map rq)) w) := by
  have HI := Lib.hid hI
  have HM := Lib.hid hM
  have HIL := Lib.hid hi
  have HML := Lib.hid hm
  clear hI hM hi hm
  obtain ⟨i3, hi3, hz30, hz31, hz32⟩ := res_info
  obtain ⟨w0, hw0⟩ : ∃ v, (w.alloc (.cells #[v0, v1, .slice IA I.length ic, .slice MA M.length mc, v4, v5, v6] 35)).alloc (.cells #[.int .i64 0, .int .i64 0, .int .i64 0] 23) = v := ⟨_, rfl⟩
  have S0 := Lib.hid (show w0.heap[w.heap.size]? = some (.cells #[v0, v1, .slice IA I.length ic, .slice MA M.length mc, v4, v5, v6] 35 (0, 0)) by rw [← hw0, Below.heap_alloc _ _ _ (by simp)]; exact heap_alloc_new w _)
  have Z0 := Lib.hid (show w0.heap[w.heap.size + 1]? = some (.cells #[.int .i64 0, .int .i64 0, .int .i64 0] 23 (0, 0)) by rw [← hw0]; have := heap_alloc_new (w.alloc (.cells #[v0, v1, .slice IA I.length ic, .slice MA M.length mc, v4, v5, v6] 35)) (.cells #[.int .i64 0, .int .i64 0, .int .i64 0] 23); simpa using this)
  have B0 := Lib.hid (show Below w.heap.size w w0 by rw [← hw0]; go_grown)
  have c3 := cell_of S0.out 3 (v := .slice MA M.length mc) rfl
  have hml : M.length ≤ 1000 := HML.out
  go_enter Tryz.func40, Tryz.ntmps40
  go_wp2_with (at_make; refine wpList_make_own w0 rfl _ _ 111 rfl w0.heap.size 23 i3 _ 3 Tryz.underlying111 hi3 hz30 hz31 .i64 .i64 _ M.length rfl rfl rfl ?c1 ?c2 (Nat.le_refl _) ?_)
  case c1 => rw [hz32]; omega
  case c2 => unfold maxLen; omega
  intro w1 hown hgr
  have BK := Lib.hid (show Below w0.heap.size w0 w1 from (Below.refl _ w0).grown hgr (Nat.le_refl _) (by intro j hj; cases hj))
  have HO1 := Lib.hid hown
  clear hown hgr hw0 c3 hz30 hz31 hz32 hi3
  have c3 := cell_of ((BK.out.block _ (lt_of_at S0.out)).trans S0.out) 3 (v := .slice MA M.length mc) rfl
  go_wp2_with fail
  clear c3
  go_loopw [4, 18] (fun v i wr => ∃ (k : Nat) (A' : Option Addr) (c' : Nat), k ≤ M.length ∧ v = .slice A' k c' ∧ i = .int .i64 k ∧ Hid (wr.ownsRow w0.heap.size 23 3 (.slice A' k c') k (flatR ((M.take k).map rq))) ∧ Hid (Below w0.heap.size w0 wr) ∧ Hid (∀ x ∈ (M.take k).map rq, x.Ok)) (fun _ i _ => M.length - (RowKit.intOf i).toNat)
  case atStart => exact ⟨0, _, _, Nat.zero_le _, rfl, rfl, HO1.out, BK.out, fun x hx => by cases hx⟩
  case round =>
    obtain ⟨k, A', c', hk, rfl, rfl, HO, BW, HS⟩ := hrel
    have hk6 : (k : Int) ≤ 1000 := by omega
    by_cases hlt : k < M.length
    · have hka : (k : Int) < (M.length : Int) := by omega
      have hk0 : (0 : Int) ≤ (k : Int) := by omega
      obtain ⟨x, hx⟩ : ∃ x, M[k]? = some x := ⟨_, List.getElem?_eq_getElem hlt⟩
      obtain ⟨hxo, r, oa, P, cp, rfl, hr, hrg⟩ := ctr_at ((HM.out.below B0.out).below BW.out) hx
      have eat := add_at r oa (k * 11)
      have RGX := Lib.hid hrg
      have HX := Lib.hid hx
      have HXO := Lib.hid hxo
      clear hx hxo hr hrg
      obtain ⟨wa, hwa⟩ : ∃ v, wr.alloc (.cells #[.string ⟨#[]⟩, .string ⟨#[]⟩, .int .i64 0, .int .i64 0, .int .i64 0, .int .i64 0, .int .i64 0, .int .i64 0, .slice none 0 0, .int .i64 0, .int .i64 0] 105) = v := ⟨_, rfl⟩
      have XA := Lib.hid (show wa.heap[wr.heap.size]? = some (.cells #[.string ⟨#[]⟩, .string ⟨#[]⟩, .int .i64 0, .int .i64 0, .int .i64 0, .int .i64 0, .int .i64 0, .int .i64 0, .slice none 0 0, .int .i64 0, .int .i64 0] 105 (0, 0)) by rw [← hwa]; exact heap_alloc_new _ _)
      have BA := Lib.hid (show Below wr.heap.size wr wa by rw [← hwa]; exact (Below.refl _ _).alloc (Nat.le_refl _) _)
      obtain ⟨wb, hwb⟩ : ∃ v, wa.setCells (wr.heap.size) 0 (x.cells P cp) = v := ⟨_, rfl⟩
      have THc := Lib.hid (show wa.there (wr.heap.size) 0 11 from Back.th XA.out rfl)
      have ONEc := Lib.hid (show ((x.cells P cp) : List Value).toArray.all (·.oneCell') = true by simp [Ctr.cells, Value.oneCell'])
      have HVc := Lib.hid hwb
      have XB := Lib.hid (show wb.heap[wr.heap.size]? = some (.cells (x.cells P cp).toArray 105 (0, 0)) by rw [← hwb]; exact Back.st XA.out rfl)
      have RF := Lib.hid (show wb.rangeAt wr.heap.size 2 (R3 (rq x)) from fun j v hv => by
        refine cell_of XB.out (2 + j) ?_
        match j, hv with
        | 0, hv => exact hv
        | 1, hv => exact hv
        | 2, hv => exact hv
        | j + 3, hv => simp at hv)
      have BB0 := Lib.hid (show Below wr.heap.size wr wb by rw [← hwb]; exact bel_set BA.out (Nat.le_refl _))
      have BB := Lib.hid (BW.out.trans (BB0.out.mono BW.out.size))
      clear hwb XA BA XB
      obtain ⟨wd, hwd⟩ : ∃ v, wb.alloc (.cells #[.int .i64 (rq x).c, .int .i64 (rq x).m, .int .i64 (rq x).p] 23) = v := ⟨_, rfl⟩
      have X3 := Lib.hid (show wd.rangeAt wb.heap.size 0 (R3 (rq x)) by rw [← hwd]; exact range_box (heap_alloc_new wb _))
      have HO3 := Lib.hid (show wd.ownsRow w0.heap.size 23 3 (.slice A' k c') k (flatR ((M.take k).map rq)) by rw [← hwd]; exact (own_stay HO.out BB0.out).alloc _)
      have BD := Lib.hid (show Below w0.heap.size w0 wd by rw [← hwd]; exact BB.out.alloc BB.out.size _)
      have HVd := Lib.hid hwd
      clear hwd HO
      go_wp2_with (first | (refine wpList_load_mid rfl 105 _ rfl _ _ rfl _ _ RGX.out Tryz.underlying105 rfl (by kernel_rfl) ?_) | (refine wpList_store_at rfl 105 _ _ rfl _ _ _ rfl rfl THc.out (by kernel_rfl) ONEc.out HVc.out ?_) | (refine wpList_load_mid rfl 23 _ rfl _ _ rfl _ _ RF.out Tryz.underlying23 rfl (by kernel_rfl) ?_) | (refine wpList_build_res rfl _ rfl (rq x) rfl HVd.out ?_) | (at_builtin; refine wpList_append_res rfl _ _ rfl w0.heap.size ((M.take k).map rq) A' k c' rfl HO3.out wb.heap.size 1 (rq x) rfl X3.out (by omega) BD.out.size ?_))
      intro A4 c4 w4 ho4 hb4
      have HO4 := Lib.hid ho4
      have B4 := Lib.hid (BD.out.trans hb4)
      clear ho4 hb4 hwa
      go_wp2_with fail
      go_roundw
      case rel =>
        have e : (M.take (k + 1)).map rq = (M.take k).map rq ++ [rq x] := by rw [take_snoc HX.out, List.map_append]; rfl
        refine ⟨k + 1, A4, c4, by omega, by go_num, by go_num, ?_, B4.out, ?_⟩
        · rw [e]
          have q := HO4.out
          rw [← List.map_take] at q
          exact q
        · rw [e]
          intro y hy
          rcases List.mem_append.1 hy with hy | hy
          · exact HS.out y hy
          · obtain rfl : y = rq x := by simpa using hy
            exact HXO.out
      case measure => simp [RowKit.intOf]; omega
    · have hka : ¬ (k : Int) < (M.length : Int) := by omega
      obtain rfl : k = M.length := by omega
      rw [List.take_length] at HO HS
      have C1 := Lib.hid (sum_any A' c' (M.map rq) (by rw [List.length_map]; omega) wr (ress_own HO.out (by rw [List.length_map]) HS.out))
      obtain ⟨s, hs⟩ : ∃ s, sumR z3 (M.map rq) = s := ⟨_, rfl⟩
      have HSM := Lib.hid hs
      rw [hs, List.length_map] at C1
      clear hs HO HS
      go_wp2_with fail
      have B := Lib.hid (B0.out.trans (BW.out.mono B0.out.size))
      have hwr := BW.out.size
      refine (C1.out).mono ?_
      rintro e wq ⟨rfl, hb1⟩
      have h7 : w0.heap.size ≤ wq.heap.size := by have := hb1.size; omega
      obtain ⟨u1, hu1⟩ : ∃ v, wq.alloc (.cells #[.int .i64 0, .int .i64 0, .int .i64 0] 23) = v := ⟨_, rfl⟩
      have ZB := Lib.hid (show u1.heap[wq.heap.size]? = some (.cells #[.int .i64 0, .int .i64 0, .int .i64 0] 23 (0, 0)) by rw [← hu1]; exact heap_alloc_new _ _)
      have BU := Lib.hid (show Below wq.heap.size wq u1 by rw [← hu1]; exact (Below.refl _ _).alloc (Nat.le_refl _) _)
      obtain ⟨v1, hv1⟩ : ∃ v, u1.setCells (wq.heap.size) 0 (R3 s.1) = v := ⟨_, rfl⟩
      have THz := Lib.hid (show u1.there (wq.heap.size) 0 3 from Back.th ZB.out rfl)
      have ONEz := Lib.hid (show ((R3 s.1) : List Value).toArray.all (·.oneCell') = true by simp [Value.oneCell'])
      have HVz := Lib.hid hv1
      have NX := Lib.hid (show v1.heap[wq.heap.size]? = some (.cells ((R3 s.1) : List Value).toArray 23 (0, 0)) by rw [← hv1]; exact Back.st ZB.out rfl)
      have BV := Lib.hid (show Below wq.heap.size wq v1 by rw [← hv1]; exact bel_set BU.out (Nat.le_refl _))
      have BH := hb1.trans (BV.out.mono hb1.size)
      clear hv1
      have NBW := Lib.hid (BW.out.trans (BH.mono BW.out.size))
      clear BW
      have BW := Lib.hid NBW.out
      clear NBW
      have NB := Lib.hid (B.out.trans (BH.mono B.out.size))
      clear B 
      have B := Lib.hid NB.out
      clear NB 
      have X7 := Lib.hid NX.out
      have RX7 := Lib.hid (range_box (cs := (R3 s.1)) X7.out)
      clear BH BV NX ZB BU hb1
      clear C1 B
      have HV := Lib.hid (show w0.heap.size ≤ wq.heap.size from h7)
      cases hs2 : s.2 with
      | false =>
        have ZB := Lib.hid ((BW.out.block _ (lt_of_at Z0.out)).trans Z0.out)
        have HE := Lib.hid (show ofR (I.map rq) (M.map rq) = (z3, false) by unfold ofR; rw [HSM.out, hs2, if_neg (by decide)])
        obtain ⟨w6, hw6⟩ : ∃ v, v1.setCells (w.heap.size + 1) 0 (R3 z3) = v := ⟨_, rfl⟩
        have THy := Lib.hid (show v1.there (w.heap.size + 1) 0 3 from Back.th ZB.out rfl)
        have ONEy := Lib.hid (show ((R3 z3) : List Value).toArray.all (·.oneCell') = true by simp [Value.oneCell'])
        have HVy := Lib.hid hw6
        have Z6 := Lib.hid (show w6.heap[w.heap.size + 1]? = some (.cells (R3 z3).toArray 23 (0, 0)) by rw [← hw6]; exact Back.st ZB.out rfl)
        have B6 := Lib.hid (show Below w.heap.size w w6 by rw [← hw6]; exact bel_set (B0.out.trans (BW.out.mono B0.out.size)) (by omega))
        clear hw6 hs2
        go_wp2_with (first | (refine wpList_store_at rfl 23 _ _ rfl _ _ _ rfl rfl THz.out (by kernel_rfl) ONEz.out HVz.out ?_) | (refine wpList_store_at rfl 23 _ _ rfl _ _ _ rfl rfl THy.out (by kernel_rfl) ONEy.out HVy.out ?_))
        refine bodyPost_ret (v := .tuple #[.agg (R3 z3).toArray, .bool false]) (res_of _ _ _ (R3 z3) _ rfl rfl Z6.out rfl) rfl ?_
        rw [HE.out]
        exact ⟨rfl, B6.out⟩
      | true =>
        have HE := Lib.hid (show ofR (I.map rq) (M.map rq) = (maxL s.1 (I.map rq), true) by unfold ofR; rw [HSM.out, hs2, if_pos rfl])
        have c2 := cell_of ((BW.out.block _ (lt_of_at S0.out)).trans S0.out) 2 (v := .slice IA I.length ic) rfl
        have hil : I.length ≤ 1000 := HIL.out
        clear hs2
        go_wp2_with (first | (refine wpList_store_at rfl 23 _ _ rfl _ _ _ rfl rfl THz.out (by kernel_rfl) ONEz.out HVz.out ?_))
        clear c2
        go_loopw [39] (fun i wn => ∃ (k : Nat), k ≤ I.length ∧ i = .int .i64 k ∧ Hid (Below w0.heap.size w0 wn) ∧ Hid (wn.heap[wq.heap.size]? = some (.cells (R3 (maxL s.1 ((I.take k).map rq))).toArray 23 (0, 0)))) (fun i _ => I.length - (RowKit.intOf i).toNat)
        case atStart => exact ⟨0, Nat.zero_le _, rfl, BW.out, X7.out⟩
        case round =>
          clear BW X7 RX7
          obtain ⟨k, hk, rfl, BW, X7⟩ := hrel
          have hk6 : (k : Int) ≤ 1000 := by omega
          by_cases hlt : k < I.length
          · have hka : (k : Int) < (I.length : Int) := by omega
            have hk0 : (0 : Int) ≤ (k : Int) := by omega
            obtain ⟨x, hx⟩ : ∃ x, I[k]? = some x := ⟨_, List.getElem?_eq_getElem hlt⟩
            obtain ⟨hxo, r, oa, P, cp, rfl, hr, hrg⟩ := ctr_at ((HI.out.below B0.out).below BW.out) hx
            have eat := add_at r oa (k * 11)
            have RGX := Lib.hid hrg
            have HX := Lib.hid hx
            clear hx hxo hr hrg
            obtain ⟨m, hmm⟩ : ∃ m, maxL s.1 ((I.take k).map rq) = m := ⟨_, rfl⟩
            rw [hmm] at X7
            have HMM := Lib.hid hmm
            clear hmm
            obtain ⟨wa, hwa⟩ : ∃ v, wr.alloc (.cells #[.string ⟨#[]⟩, .string ⟨#[]⟩, .int .i64 0, .int .i64 0, .int .i64 0, .int .i64 0, .int .i64 0, .int .i64 0, .slice none 0 0, .int .i64 0, .int .i64 0] 105) = v := ⟨_, rfl⟩
            have XA := Lib.hid (show wa.heap[wr.heap.size]? = some (.cells #[.string ⟨#[]⟩, .string ⟨#[]⟩, .int .i64 0, .int .i64 0, .int .i64 0, .int .i64 0, .int .i64 0, .int .i64 0, .slice none 0 0, .int .i64 0, .int .i64 0] 105 (0, 0)) by rw [← hwa]; exact heap_alloc_new _ _)
            have BA := Lib.hid (show Below wr.heap.size wr wa by rw [← hwa]; exact (Below.refl _ _).alloc (Nat.le_refl _) _)
            obtain ⟨wb, hwb⟩ : ∃ v, wa.setCells (wr.heap.size) 0 (x.cells P cp) = v := ⟨_, rfl⟩
            have THc := Lib.hid (show wa.there (wr.heap.size) 0 11 from Back.th XA.out rfl)
            have ONEc := Lib.hid (show ((x.cells P cp) : List Value).toArray.all (·.oneCell') = true by simp [Ctr.cells, Value.oneCell'])
            have HVc := Lib.hid hwb
            have XB := Lib.hid (show wb.heap[wr.heap.size]? = some (.cells (x.cells P cp).toArray 105 (0, 0)) by rw [← hwb]; exact Back.st XA.out rfl)
            have RF := Lib.hid (show wb.rangeAt wr.heap.size 2 (R3 (rq x)) from fun j v hv => by
              refine cell_of XB.out (2 + j) ?_
              match j, hv with
              | 0, hv => exact hv
              | 1, hv => exact hv
              | 2, hv => exact hv
              | j + 3, hv => simp at hv)
            have BB0 := Lib.hid (show Below wr.heap.size wr wb by rw [← hwb]; exact bel_set BA.out (Nat.le_refl _))
            have BB := Lib.hid (BW.out.trans (BB0.out.mono BW.out.size))
            clear hwb XA BA XB
            have Y7 := Lib.hid ((BB0.out.block _ (lt_of_at X7.out)).trans X7.out)
            have RY7 := Lib.hid (range_box (cs := R3 m) Y7.out)
            go_wp2_with (first | (refine wpList_load_mid rfl 105 _ rfl _ _ rfl _ _ RGX.out Tryz.underlying105 rfl (by kernel_rfl) ?_) | (refine wpList_store_at rfl 105 _ _ rfl _ _ _ rfl rfl THc.out (by kernel_rfl) ONEc.out HVc.out ?_) | (refine wpList_load_mid rfl 23 _ rfl _ _ rfl _ _ RF.out Tryz.underlying23 rfl (by kernel_rfl) ?_) | (refine wpList_load_mid rfl 23 _ rfl _ _ rfl _ _ RY7.out Tryz.underlying23 rfl (by kernel_rfl) ?_))
            refine (max_any m (rq x) wb).mono ?_
            rintro e w4 ⟨rfl, hb4⟩
            have Y8 := Lib.hid ((hb4.block _ (lt_of_at Y7.out)).trans Y7.out)
            have B8 := Lib.hid (BB.out.trans (hb4.mono BB.out.size))
            clear hb4 hwa
            obtain ⟨w5, hw5⟩ : ∃ v, w4.setCells (wq.heap.size) 0 (R3 (maxR m (rq x))) = v := ⟨_, rfl⟩
            have THm := Lib.hid (show w4.there (wq.heap.size) 0 3 from Back.th Y8.out rfl)
            have ONEm := Lib.hid (show ((R3 (maxR m (rq x))) : List Value).toArray.all (·.oneCell') = true by simp [Value.oneCell'])
            have HVm := Lib.hid hw5
            have Y9 := Lib.hid (show w5.heap[wq.heap.size]? = some (.cells (R3 (maxR m (rq x))).toArray 23 (0, 0)) by rw [← hw5]; exact Back.st Y8.out rfl)
            have B9 := Lib.hid (show Below w0.heap.size w0 w5 by rw [← hw5]; exact bel_set B8.out HV.out)
            clear hw5
            go_wp2_with (first | (refine wpList_store_at rfl 23 _ _ rfl _ _ _ rfl rfl THm.out (by kernel_rfl) ONEm.out HVm.out ?_))
            go_roundw
            case rel =>
              have e : maxL s.1 ((I.take (k + 1)).map rq) = maxR m (rq x) := by rw [take_snoc HX.out, List.map_append, List.map_cons, List.map_nil, maxL_snoc, HMM.out]
              refine ⟨k + 1, by omega, by go_num, B9.out, ?_⟩
              rw [e]; exact Y9.out
            case measure => simp [RowKit.intOf]; omega
          · have hka : ¬ (k : Int) < (I.length : Int) := by omega
            obtain rfl : k = I.length := by omega
            rw [List.take_length] at X7
            have RX7 := Lib.hid (range_box X7.out)
            have ZB := Lib.hid ((BW.out.block _ (lt_of_at Z0.out)).trans Z0.out)
            obtain ⟨m, hmm⟩ : ∃ m, maxL s.1 (I.map rq) = m := ⟨_, rfl⟩
            rw [hmm] at X7 RX7 HE
            clear hmm
            obtain ⟨w6, hw6⟩ : ∃ v, wr.setCells (w.heap.size + 1) 0 (R3 m) = v := ⟨_, rfl⟩
            have THy := Lib.hid (show wr.there (w.heap.size + 1) 0 3 from Back.th ZB.out rfl)
            have ONEy := Lib.hid (show ((R3 m) : List Value).toArray.all (·.oneCell') = true by simp [Value.oneCell'])
            have HVy := Lib.hid hw6
            have Z6 := Lib.hid (show w6.heap[w.heap.size + 1]? = some (.cells (R3 m).toArray 23 (0, 0)) by rw [← hw6]; exact Back.st ZB.out rfl)
            have B6 := Lib.hid (show Below w.heap.size w w6 by rw [← hw6]; exact bel_set (B0.out.trans (BW.out.mono B0.out.size)) (by omega))
            clear hw6
            go_wp2_with (first | (refine wpList_load_mid rfl 23 _ rfl _ _ rfl _ _ RX7.out Tryz.underlying23 rfl (by kernel_rfl) ?_) | (refine wpList_store_at rfl 23 _ _ rfl _ _ _ rfl rfl THy.out (by kernel_rfl) ONEy.out HVy.out ?_))
            refine bodyPost_ret (v := .tuple #[.agg (R3 m).toArray, .bool true]) (res_of _ _ _ (R3 m) _ rfl rfl Z6.out rfl) rfl ?_
            rw [HE.out]
            exact ⟨rfl, B6.out⟩
end Re
end Go.Proofs.YtbichomjpmmjmaaGreatDoor
