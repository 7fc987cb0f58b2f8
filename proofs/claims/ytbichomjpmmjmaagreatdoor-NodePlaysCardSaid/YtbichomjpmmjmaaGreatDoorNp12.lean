/-
  The document's answer: what a pod asks for. All that was there is left as it was. Conditions: the containers lie in memory, what they ask for are 64-bit integers.
-/
import Derived.Test.YtbichomjpmmjmaaGreatDoorNp11
import Derived.Test.YtbichomjpmmjmaaGreatDoorNp10
import Derived.Test.YtbichomjpmmjmaaGreatDoorNp1
import Derived.Test.YtbichomjpmmjmaaGreatDoorChecked
import Derived.WalkKit
import Derived.ProofKit
import Derived.Deep.QuietTactic
import Derived.BigQuiet
import Derived.IntWalk
set_option linter.unusedVariables false
set_option linter.unusedSimpArgs false
namespace Go.Proofs.YtbichomjpmmjmaaGreatDoor
open Go.ChangeShapes Go.WideShapes Go.ChangeAt Go.RowKit Go.Lib
open NumMath
namespace Re
open Sd
theorem rq_range {x : Ctr} {P : Option Addr} {cp : Nat} {w : World} {r o : Nat} (h : w.rangeAt r o (x.cells P cp)) : w.rangeAt r (o + 2) (R3 (rq x)) := fun j v hv => by
  have e := h (2 + j) v (by
    match j, hv with
    | 0, hv => exact hv
    | 1, hv => exact hv
    | 2, hv => exact hv
    | j + 3, hv => simp at hv)
  rwa [← Nat.add_assoc] at e
theorem res_refof (tmps : Array Value) (w : World) (p : Nat) (xs : List Value) (x : Value) (h2 : tmps.getD 2 undef = .pointer (some ⟨p, 0, none⟩)) (h3 : tmps.getD 3 undef = x) (hX : w.heap[p]? = some (.cells xs.toArray 23 (0, 0))) (hm : xs.length = 3) :
    (results Tryz.f56 tmps).run Tryz.prog w = .ok (.tuple #[.agg xs.toArray, x]) w := by
  have h1 : (loadVar 23 ⟨p, 0, none⟩).run Tryz.prog w = .ok (.agg xs.toArray) w := run_loadVar_mid w p 0 23 _ _ (range_box hX) Tryz.underlying23 rfl (by rw [hm]; kernel_rfl)
  simp only [results, Tryz.results56]
  simp only [Array.getD_eq_getD_getElem?] at h2 h3
  have ha : (asAddr (tmps[2]?.getD undef)).run Tryz.prog w = .ok ⟨p, 0, none⟩ w := by rw [h2]; rfl
  simp [Sem.run_bind, h1, ha, h3]
theorem sum_false : ∀ (l : List Rx) {s : Rx}, (sumR s l).2 = false → sumR s l = (z3, false)
  | [], s, h => by simp [sumR] at h
  | x :: l, s, h => by
    rw [sum_cons] at h ⊢
    split
    · rename_i e
      rw [if_pos e] at h
      exact sum_false l h
    · rfl
set_option maxRecDepth 100000 in
set_option maxHeartbeats 4000000 in
theorem refof_any (I M : List Ctr) (v0 v1 v4 v5 v6 : Value) (IA : Option Addr) (ic : Nat) (MA : Option Addr) (mc : Nat) (hi : I.length ≤ 1000) (hm : M.length ≤ 1000) (w : World) (hI : Ctrs w IA I) (hM : Ctrs w MA M) :
    Calls Tryz.prog 56 #[.agg #[v0, v1, .slice IA I.length ic, .slice MA M.length mc, v4, v5, v6]] w (Told3 (ofR (I.map rq) (M.map rq)) w) := by
  have HI := Lib.hid hI
  have HM := Lib.hid hM
  have HIL := Lib.hid hi
  have HML := Lib.hid hm
  clear hI hM hi hm
  obtain ⟨w0, hw0⟩ : ∃ v, (w.alloc (.cells #[v0, v1, .slice IA I.length ic, .slice MA M.length mc, v4, v5, v6] 35)).alloc (.cells #[.int .i64 0, .int .i64 0, .int .i64 0] 23) = v := ⟨_, rfl⟩
  have S0 := Lib.hid (show w0.heap[w.heap.size]? = some (.cells #[v0, v1, .slice IA I.length ic, .slice MA M.length mc, v4, v5, v6] 35 (0, 0)) by rw [← hw0, Below.heap_alloc _ _ _ (by simp)]; exact heap_alloc_new w _)
  have Z0 := Lib.hid (show w0.heap[w.heap.size + 1]? = some (.cells #[.int .i64 0, .int .i64 0, .int .i64 0] 23 (0, 0)) by rw [← hw0]; have := heap_alloc_new (w.alloc (.cells #[v0, v1, .slice IA I.length ic, .slice MA M.length mc, v4, v5, v6] 35)) (.cells #[.int .i64 0, .int .i64 0, .int .i64 0] 23); simpa using this)
  have B0 := Lib.hid (show Below w.heap.size w w0 by rw [← hw0]; go_grown)
  have hml : M.length ≤ 1000 := HML.out
  go_enter Tryz.func56, Tryz.ntmps56
  go_wp2_with fail
  clear hw0
  go_loopw [4, 5] (fun v i wr => ∃ (k : Nat) (A' : Option Addr) (c' : Nat), k ≤ M.length ∧ v = .slice A' k c' ∧ i = .int .i64 k ∧ Hid (wr.ownsRow w0.heap.size 23 3 (.slice A' k c') k (flatR ((M.take k).map rq))) ∧ Hid (Below w0.heap.size w0 wr) ∧ Hid (∀ x ∈ (M.take k).map rq, x.Ok)) (fun _ i _ => M.length - (RowKit.intOf i).toNat)
  case atStart => exact ⟨0, none, 0, Nat.zero_le _, rfl, rfl, World.ownsRow_nil _ _ _ _, Below.refl _ _, fun x hx => by cases hx⟩
  case round =>
    obtain ⟨k, A', c', hk, rfl, rfl, HO, BW, HS⟩ := hrel
    have hk6 : (k : Int) ≤ 1000 := by omega
    have SB := Lib.hid ((BW.out.block _ (lt_of_at S0.out)).trans S0.out)
    have c3 := cell_of SB.out 3 (v := .slice MA M.length mc) rfl
    by_cases hlt : k < M.length
    · have hka : (k : Int) < (M.length : Int) := by omega
      have hk0 : (0 : Int) ≤ (k : Int) := by omega
      obtain ⟨x, hx⟩ : ∃ x, M[k]? = some x := ⟨_, List.getElem?_eq_getElem hlt⟩
      obtain ⟨hxo, r, oa, P, cp, rfl, hr, hrg⟩ := ctr_at ((HM.out.below B0.out).below BW.out) hx
      have eat := add_at r oa (k * 11)
      have RGX := Lib.hid (rq_range hrg)
      have HX := Lib.hid hx
      have HXO := Lib.hid hxo
      clear hx hxo hr hrg
      obtain ⟨wd, hwd⟩ : ∃ v, wr.alloc (.cells #[.int .i64 (rq x).c, .int .i64 (rq x).m, .int .i64 (rq x).p] 23) = v := ⟨_, rfl⟩
      have X3 := Lib.hid (show wd.rangeAt wr.heap.size 0 (R3 (rq x)) by rw [← hwd]; exact range_box (heap_alloc_new wr _))
      have HO3 := Lib.hid (show wd.ownsRow w0.heap.size 23 3 (.slice A' k c') k (flatR ((M.take k).map rq)) by rw [← hwd]; exact (HO.out).alloc _)
      have BD := Lib.hid (show Below w0.heap.size w0 wd by rw [← hwd]; exact BW.out.alloc BW.out.size _)
      have HVd := Lib.hid hwd
      clear hwd HO
      go_wp2_with (first | (refine wpList_load_mid rfl 23 _ rfl _ _ rfl _ _ RGX.out Tryz.underlying23 rfl (by kernel_rfl) ?_) | (refine wpList_build_res rfl _ rfl (rq x) rfl HVd.out ?_) | (at_builtin; refine wpList_append_res rfl _ _ rfl w0.heap.size ((M.take k).map rq) A' k c' rfl HO3.out wr.heap.size 1 (rq x) rfl X3.out (by omega) BD.out.size ?_))
      intro A4 c4 w4 ho4 hb4
      have HO4 := Lib.hid ho4
      have B4 := Lib.hid (BD.out.trans hb4)
      clear ho4 hb4 c3
      go_wp2_with fail
      go_roundw
      case rel =>
        have e : (M.take (k + 1)).map rq = (M.take k).map rq ++ [rq x] := by rw [take_snoc HX.out, List.map_append]; rfl
        refine ⟨k + 1, A4, c4, by omega, by go_num, by go_num, ?_, B4.out, ?_⟩
        · rw [e]
          have q := HO4.out
          rw [← List.map_take] at q
          exact q
        · rw [e]
          intro y hy
          rcases List.mem_append.1 hy with hy | hy
          · exact HS.out y hy
          · obtain rfl : y = rq x := by simpa using hy
            exact HXO.out
      case measure => simp [RowKit.intOf]; omega
    · have hka : ¬ (k : Int) < (M.length : Int) := by omega
      obtain rfl : k = M.length := by omega
      rw [List.take_length] at HO HS
      have C1 := Lib.hid (refsum_any A' c' (M.map rq) (by rw [List.length_map]; omega) wr (ress_own HO.out (by rw [List.length_map]) HS.out))
      obtain ⟨s, hs⟩ : ∃ s, sumR z3 (M.map rq) = s := ⟨_, rfl⟩
      have HSM := Lib.hid hs
      rw [hs, List.length_map] at C1
      clear hs HO HS
      go_wp2_with fail
      have B := Lib.hid (B0.out.trans (BW.out.mono B0.out.size))
      have hwr := BW.out.size
      refine (C1.out).mono ?_
      rintro e wq ⟨rfl, hb1⟩
      have h7 : w0.heap.size ≤ wq.heap.size := by have := hb1.size; omega
      obtain ⟨u1, hu1⟩ : ∃ v, wq.alloc (.cells #[.int .i64 0, .int .i64 0, .int .i64 0] 23) = v := ⟨_, rfl⟩
      have ZB := Lib.hid (show u1.heap[wq.heap.size]? = some (.cells #[.int .i64 0, .int .i64 0, .int .i64 0] 23 (0, 0)) by rw [← hu1]; exact heap_alloc_new _ _)
      have BU := Lib.hid (show Below wq.heap.size wq u1 by rw [← hu1]; exact (Below.refl _ _).alloc (Nat.le_refl _) _)
      obtain ⟨v1, hv1⟩ : ∃ v, u1.setCells (wq.heap.size) 0 (R3 s.1) = v := ⟨_, rfl⟩
      have THz := Lib.hid (show u1.there (wq.heap.size) 0 3 from Back.th ZB.out rfl)
      have ONEz := Lib.hid (show ((R3 s.1) : List Value).toArray.all (·.oneCell') = true by simp [Value.oneCell'])
      have HVz := Lib.hid hv1
      have X7 := Lib.hid (show v1.heap[wq.heap.size]? = some (.cells ((R3 s.1) : List Value).toArray 23 (0, 0)) by rw [← hv1]; exact Back.st ZB.out rfl)
      have BV := Lib.hid (show Below wq.heap.size wq v1 by rw [← hv1]; exact bel_set BU.out (Nat.le_refl _))
      have BH := hb1.trans (BV.out.mono hb1.size)
      clear hv1
      have NBW := Lib.hid (BW.out.trans (BH.mono BW.out.size))
      clear BW SB c3
      have BW := Lib.hid NBW.out
      clear NBW BH BV ZB BU hb1 C1 B
      have HV := Lib.hid (show w0.heap.size ≤ wq.heap.size from h7)
      have SZ := Lib.hid (show w.heap.size + 2 ≤ w0.heap.size from by have := lt_of_at Z0.out; omega)
      have hil : I.length ≤ 1000 := HIL.out
      cases hs2 : s.2 with
      | false =>
        have HE := Lib.hid (show ofR (I.map rq) (M.map rq) = (s.1, false) by
          unfold ofR
          rw [HSM.out, hs2, if_neg (by decide)]
          have hz : s = (z3, false) := by
            have := sum_false (M.map rq) (s := z3) (by rw [HSM.out]; exact hs2)
            rw [HSM.out] at this; exact this
          rw [hz])
        clear hs2
        go_wp2_with (first | (refine wpList_store_at rfl 23 _ _ rfl _ _ _ rfl rfl THz.out (by kernel_rfl) ONEz.out HVz.out ?_))
        go_loopw [8] (fun i wn => i = .int .i64 0 ∧ wn = v1) (fun i _ => 0)
        case atStart => exact ⟨rfl, rfl⟩
        case round =>
          obtain ⟨rfl, rfl⟩ := hrel
          have RX7 := Lib.hid (range_box X7.out)
          have ZB := Lib.hid ((BW.out.block _ (lt_of_at Z0.out)).trans Z0.out)
          obtain ⟨w6, hw6⟩ : ∃ v, wr.setCells (w.heap.size + 1) 0 (R3 s.1) = v := ⟨_, rfl⟩
          have THy := Lib.hid (show wr.there (w.heap.size + 1) 0 3 from Back.th ZB.out rfl)
          have ONEy := Lib.hid (show ((R3 s.1) : List Value).toArray.all (·.oneCell') = true by simp [Value.oneCell'])
          have HVy := Lib.hid hw6
          have Z6 := Lib.hid (show w6.heap[w.heap.size + 1]? = some (.cells (R3 s.1).toArray 23 (0, 0)) by rw [← hw6]; exact Back.st ZB.out rfl)
          have B6 := Lib.hid (show Below w.heap.size w w6 by rw [← hw6]; exact bel_set (B0.out.trans (BW.out.mono B0.out.size)) (by omega))
          clear hw6
          go_wp2_with (first | (refine wpList_load_mid rfl 23 _ rfl _ _ rfl _ _ RX7.out Tryz.underlying23 rfl (by kernel_rfl) ?_) | (refine wpList_store_at rfl 23 _ _ rfl _ _ _ rfl rfl THy.out (by kernel_rfl) ONEy.out HVy.out ?_))
          refine bodyPost_ret (v := .tuple #[.agg (R3 s.1).toArray, .bool false]) (res_refof _ _ _ (R3 s.1) _ rfl rfl Z6.out rfl) rfl ?_
          rw [HE.out]
          exact ⟨rfl, B6.out⟩
      | true =>
        have HE := Lib.hid (show ofR (I.map rq) (M.map rq) = (maxL s.1 (I.map rq), true) by unfold ofR; rw [HSM.out, hs2, if_pos rfl])
        clear hs2
        go_wp2_with (first | (refine wpList_store_at rfl 23 _ _ rfl _ _ _ rfl rfl THz.out (by kernel_rfl) ONEz.out HVz.out ?_))
        go_loopw [8] (fun i wn => ∃ (k : Nat), k ≤ I.length ∧ i = .int .i64 k ∧ Hid (Below w0.heap.size w0 wn) ∧ Hid (wn.heap[wq.heap.size]? = some (.cells (R3 (maxL s.1 ((I.take k).map rq))).toArray 23 (0, 0)))) (fun i _ => I.length - (RowKit.intOf i).toNat)
        case atStart => exact ⟨0, Nat.zero_le _, rfl, BW.out, X7.out⟩
        case round =>
          clear BW X7
          obtain ⟨k, hk, rfl, BW, X7⟩ := hrel
          have hk6 : (k : Int) ≤ 1000 := by omega
          have SB := Lib.hid ((BW.out.block _ (lt_of_at S0.out)).trans S0.out)
          have c2 := cell_of SB.out 2 (v := .slice IA I.length ic) rfl
          by_cases hlt : k < I.length
          · have hka : (k : Int) < (I.length : Int) := by omega
            have hk0 : (0 : Int) ≤ (k : Int) := by omega
            obtain ⟨x, hx⟩ : ∃ x, I[k]? = some x := ⟨_, List.getElem?_eq_getElem hlt⟩
            have hrw : ∀ r o, IA = some ⟨r, o, none⟩ → r < w.heap.size := fun r o e => by
              obtain ⟨_, r2, o2, _, _, e2, h2, _⟩ := ctr_at HI.out hx
              rw [e] at e2; injection e2 with e2; injection e2 with e2; omega
            obtain ⟨hxo, r, oa, P, cp, rfl, hr, hrg⟩ := ctr_at ((HI.out.below B0.out).below BW.out) hx
            have hrw2 := hrw r oa rfl
            have eat := add_at r oa (k * 11)
            have RGX := Lib.hid (rq_range hrg)
            have RLT := Lib.hid hr
            have RNE := Lib.hid (show r ≠ wq.heap.size by have := SZ.out; omega)
            have SNE := Lib.hid (show w.heap.size ≠ wq.heap.size by have := SZ.out; omega)
            have HX := Lib.hid hx
            clear hx hxo hr hrg hrw hrw2
            obtain ⟨m, hmm⟩ : ∃ m, maxL s.1 ((I.take k).map rq) = m := ⟨_, rfl⟩
            rw [hmm] at X7
            have HMM := Lib.hid hmm
            clear hmm
            go_wp2_with fail
            clear c2
            refine Vls.wp_region (by kernel_rfl) (Jx.JE wr (wq.heap.size) 8 (R3 m) (R3 (maxR m (rq x))) 23 [(2, 1), (4, 2), (4, 3), (5, 4), (6, 5), (7, 0), (7, 6), (8, 7)] [.agg (R3 m).toArray, .pointer (some ⟨w.heap.size, 2, none⟩), .slice (some ⟨r, oa, none⟩) I.length ic, .int .i64 k, .pointer (some ⟨r, oa + k * 11, none⟩), .pointer (some ⟨r, oa + k * 11 + 2, none⟩), .agg (R3 (rq x)).toArray, .agg (R3 (maxR m (rq x))).toArray, undef]) (by kernel_rfl) (fun _ => undef) (Jx.JE.start X7.out _) ?_ ?_
            · refine ⟨?_, ?_, ?_, ?_, ?_, ?_, ?_, ?_, ?_, trivial⟩
              · intro s_ a_ u V hs hd hfr hpo hJ
                have f6 : a_.tmps.getD 6 undef = .pointer (some ⟨wq.heap.size, 0, none⟩) := hfr 6 (by kernel_rfl)
                refine .inl ⟨rfl, ?_⟩
                exact wp_load_mid 23 (.tmp 6) rfl (wq.heap.size) (0) f6 (R3 m) _ (range_box (hJ.old (hJ.back 8 (by simp) (hJ.back 7 (by simp) hs)))) Tryz.underlying23 rfl (by kernel_rfl) ⟨_, rfl, hJ.step 0 (by decide) rfl (Below.refl _ _) rfl⟩
              · intro s_ a_ u V hs hd hfr hpo hJ
                have f1 : a_.tmps.getD 1 undef = .pointer (some ⟨w.heap.size, 0, none⟩) := hfr 1 (by kernel_rfl)
                refine .inl ⟨rfl, ?_⟩
                unfold Oper.wp
                rw [show (execOp a_.eval _).run Tryz.prog u = .ok (.value (.pointer (some ⟨w.heap.size, 2, none⟩))) u from by simp [go_sem, Act.eval, f1]]
                exact ⟨_, rfl, hJ.step 1 (by decide) rfl (Below.refl _ _) rfl⟩
              · intro s_ a_ u V hs hd hfr hpo hJ
                have e1 : a_.tmps.getD 41 undef = .pointer (some ⟨w.heap.size, 2, none⟩) := (hpo 1 41 (by kernel_rfl)).trans (hJ.get 1 (by decide) (hd 1 (by kernel_rfl)) rfl)
                refine .inl ⟨rfl, ?_⟩
                have cx0 := cell_of ((hJ.but.block _ (lt_of_at SB.out) SNE.out).trans SB.out) 2 (v := .slice (some ⟨r, oa, none⟩) I.length ic) rfl
                unfold Oper.wp
                rw [show (execOp a_.eval _).run Tryz.prog u = .ok (.value (.slice (some ⟨r, oa, none⟩) I.length ic)) u from by simp [go_sem, Act.eval, e1, cx0]]
                exact ⟨_, rfl, hJ.step 2 (by decide) (by show (s_ 1 && true) = true; rw [hd 1 (by kernel_rfl)]; rfl) (Below.refl _ _) rfl⟩
              · intro s_ a_ u V hs hd hfr hpo hJ
                have f8 : a_.tmps.getD 8 undef = .int .i64 k := hfr 8 (by kernel_rfl)
                refine .inl ⟨rfl, ?_⟩
                unfold Oper.wp
                rw [show (execOp a_.eval _).run Tryz.prog u = .ok (.value (.int .i64 k)) u from by simp [go_sem, Act.eval, f8]]
                exact ⟨_, rfl, hJ.step 3 (by decide) rfl (Below.refl _ _) rfl⟩
              · intro s_ a_ u V hs hd hfr hpo hJ
                have e2 : a_.tmps.getD 42 undef = .slice (some ⟨r, oa, none⟩) I.length ic := (hpo 2 42 (by kernel_rfl)).trans (hJ.get 2 (by decide) (hd 2 (by kernel_rfl)) rfl)
                have e3 : a_.tmps.getD 43 undef = .int .i64 k := (hpo 3 43 (by kernel_rfl)).trans (hJ.get 3 (by decide) (hd 3 (by kernel_rfl)) rfl)
                refine .inl ⟨rfl, ?_⟩
                unfold Oper.wp
                rw [show (execOp a_.eval _).run Tryz.prog u = .ok (.value (.pointer (some ⟨r, oa + k * 11, none⟩))) u from by simp [go_sem, Act.eval, e2, e3, hk0, hka, eat]]
                exact ⟨_, rfl, hJ.step 4 (by decide) (by show (s_ 2 && (s_ 3 && true)) = true; rw [hd 2 (by kernel_rfl), hd 3 (by kernel_rfl)]; rfl) (Below.refl _ _) rfl⟩
              · intro s_ a_ u V hs hd hfr hpo hJ
                have e4 : a_.tmps.getD 44 undef = .pointer (some ⟨r, oa + k * 11, none⟩) := (hpo 4 44 (by kernel_rfl)).trans (hJ.get 4 (by decide) (hd 4 (by kernel_rfl)) rfl)
                refine .inl ⟨rfl, ?_⟩
                unfold Oper.wp
                rw [show (execOp a_.eval _).run Tryz.prog u = .ok (.value (.pointer (some ⟨r, oa + k * 11 + 2, none⟩))) u from by simp [go_sem, Act.eval, e4]]
                exact ⟨_, rfl, hJ.step 5 (by decide) (by show (s_ 4 && true) = true; rw [hd 4 (by kernel_rfl)]; rfl) (Below.refl _ _) rfl⟩
              · intro s_ a_ u V hs hd hfr hpo hJ
                have e5 : a_.tmps.getD 45 undef = .pointer (some ⟨r, oa + k * 11 + 2, none⟩) := (hpo 5 45 (by kernel_rfl)).trans (hJ.get 5 (by decide) (hd 5 (by kernel_rfl)) rfl)
                refine .inl ⟨rfl, ?_⟩
                exact wp_load_mid 23 (.tmp 45) rfl (r) (oa + k * 11 + 2) e5 (R3 (rq x)) _ (range_mv (hJ.but.block _ RLT.out RNE.out) RGX.out) Tryz.underlying23 rfl (by kernel_rfl) ⟨_, rfl, hJ.step 6 (by decide) (by show (s_ 5 && true) = true; rw [hd 5 (by kernel_rfl)]; rfl) (Below.refl _ _) rfl⟩
              · intro s_ a_ u V hs hd hfr hpo hJ
                have e0 : a_.tmps.getD 40 undef = .agg (R3 m).toArray := (hpo 0 40 (by kernel_rfl)).trans (hJ.get 0 (by decide) (hd 0 (by kernel_rfl)) rfl)
                have e6 : a_.tmps.getD 46 undef = .agg (R3 (rq x)).toArray := (hpo 6 46 (by kernel_rfl)).trans (hJ.get 6 (by decide) (hd 6 (by kernel_rfl)) rfl)
                refine .inl ⟨rfl, ?_⟩
                unfold Oper.wp
                rw [show (execOp a_.eval _).run Tryz.prog u = .ok (.enter 30 #[.agg (R3 m).toArray, .agg (R3 (rq x)).toArray]) u from by simp [go_sem, Act.eval, e0, e6]]
                refine Calls.mono (refmax_any m (rq x) u) ?_
                rintro e u2 ⟨rfl, hb⟩
                exact ⟨_, rfl, hJ.step 7 (by decide) (by show (s_ 0 && (s_ 6 && true)) = true; rw [hd 0 (by kernel_rfl), hd 6 (by kernel_rfl)]; rfl) hb rfl⟩
              · intro s_ a_ u V hs hd hfr hpo hJ
                have f6 : a_.tmps.getD 6 undef = .pointer (some ⟨wq.heap.size, 0, none⟩) := hfr 6 (by kernel_rfl)
                have e7 : a_.tmps.getD 47 undef = .agg (R3 (maxR m (rq x))).toArray := (hpo 7 47 (by kernel_rfl)).trans (hJ.get 7 (by decide) (hd 7 (by kernel_rfl)) rfl)
                refine .inl ⟨rfl, ?_⟩
                exact wp_store_mid 23 (.tmp 6) (.tmp 47) rfl (wq.heap.size) 0 (R3 (maxR m (rq x))).toArray f6 e7 (Back.th hJ.bx (by split <;> rfl)) (by kernel_rfl) (by simp [Value.oneCell']) ⟨undef, rfl, hJ.st (by show (s_ 7 && true) = true; rw [hd 7 (by kernel_rfl)]; rfl) rfl _⟩
            · intro s_ V w5 hall hJ
              have X8 : w5.heap[wq.heap.size]? = some (.cells (R3 (maxR m (rq x))).toArray 23 (0, 0)) := by have := hJ.bx; rwa [hall 8 (by decide), if_pos rfl] at this
              have X9 := Lib.hid X8
              have B9 := Lib.hid (hJ.but.below BW.out BW.out.size HV.out)
              clear hall hJ X8
              simp only [Bxs.puts, Nat.reduceAdd, put_none, put_lit, List.set_cons_succ, List.set_cons_zero]
              go_wp2_with fail
              go_roundw
              case rel =>
                have e : maxL s.1 ((I.take (k + 1)).map rq) = maxR m (rq x) := by rw [take_snoc HX.out, List.map_append, List.map_cons, List.map_nil, maxL_snoc, HMM.out]
                refine ⟨k + 1, by omega, by go_num, B9.out, ?_⟩
                rw [e]; exact X9.out
              case measure => simp [RowKit.intOf]; omega
          · have hka : ¬ (k : Int) < (I.length : Int) := by omega
            obtain rfl : k = I.length := by omega
            rw [List.take_length] at X7
            have RX7 := Lib.hid (range_box X7.out)
            have ZB := Lib.hid ((BW.out.block _ (lt_of_at Z0.out)).trans Z0.out)
            obtain ⟨m, hmm⟩ : ∃ m, maxL s.1 (I.map rq) = m := ⟨_, rfl⟩
            rw [hmm] at X7 RX7 HE
            clear hmm
            obtain ⟨w6, hw6⟩ : ∃ v, wr.setCells (w.heap.size + 1) 0 (R3 m) = v := ⟨_, rfl⟩
            have THy := Lib.hid (show wr.there (w.heap.size + 1) 0 3 from Back.th ZB.out rfl)
            have ONEy := Lib.hid (show ((R3 m) : List Value).toArray.all (·.oneCell') = true by simp [Value.oneCell'])
            have HVy := Lib.hid hw6
            have Z6 := Lib.hid (show w6.heap[w.heap.size + 1]? = some (.cells (R3 m).toArray 23 (0, 0)) by rw [← hw6]; exact Back.st ZB.out rfl)
            have B6 := Lib.hid (show Below w.heap.size w w6 by rw [← hw6]; exact bel_set (B0.out.trans (BW.out.mono B0.out.size)) (by omega))
            clear hw6
            go_wp2_with (first | (refine wpList_load_mid rfl 23 _ rfl _ _ rfl _ _ RX7.out Tryz.underlying23 rfl (by kernel_rfl) ?_) | (refine wpList_store_at rfl 23 _ _ rfl _ _ _ rfl rfl THy.out (by kernel_rfl) ONEy.out HVy.out ?_))
            refine bodyPost_ret (v := .tuple #[.agg (R3 m).toArray, .bool true]) (res_refof _ _ _ (R3 m) _ rfl rfl Z6.out rfl) rfl ?_
            rw [HE.out]
            exact ⟨rfl, B6.out⟩
end Re
end Go.Proofs.YtbichomjpmmjmaaGreatDoor

/-
  The contracts of the document's numbers and ports (provostref06.numbers, Has). No condition.
-/
namespace Go.Proofs.YtbichomjpmmjmaaGreatDoor
open Go.ChangeShapes Go.WideShapes Go.ChangeAt Go.RowKit Go.Lib
open Sd Lists
namespace SpecRef
theorem numV_yes {free : Bool} {x y : Int} (h0 : free = false ∨ x ≠ 0) (h1 : x < y ∨ 1099511627776 < x) : numV free x y = true := by
  have a1 : (decide (x < y) || decide (big < x)) = true := by
    rcases h1 with h1 | h1
    · rw [decide_eq_true h1]; rfl
    · rw [decide_eq_true (show big < x from h1)]; exact Bool.or_true _
  have a0 : (!free || x != 0) = true := by
    rcases h0 with rfl | h0
    · rfl
    · rw [show (x != 0) = true by simpa using h0]; exact Bool.or_true _
  unfold numV
  rw [a0, a1]; rfl
theorem numV_not {free : Bool} {x y : Int} (h : (free = true ∧ x = 0) ∨ (¬ x < y ∧ ¬ 1099511627776 < x)) : numV free x y = false := by
  unfold numV
  rcases h with ⟨rfl, rfl⟩ | ⟨h1, h2⟩
  · rfl
  · rw [decide_eq_false h1, decide_eq_false (show ¬ big < x from h2)]; exact Bool.and_false _
/-- the three, by number -/
def nth3 (a b c : Int) (k : Nat) : Int := if k = 0 then a else if k = 1 then b else c
theorem numsV_none {free : Bool} {a b c l m n : Int} (h : ∀ j, j < 3 → numV free (nth3 a b c j) (nth3 l m n j) = false) : numsV free a b c l m n = -1 := by
  have h0 := h 0 (by omega)
  have h1 := h 1 (by omega)
  have h2 := h 2 (by omega)
  simp only [nth3] at h0 h1 h2
  simp at h1 h2 h0
  unfold numsV
  simp [h0, h1, h2]
theorem numsV_some {free : Bool} {a b c l m n : Int} {k : Nat} (hk : k < 3) (h : ∀ j, j < k → numV free (nth3 a b c j) (nth3 l m n j) = false) (h1 : numV free (nth3 a b c k) (nth3 l m n k) = true) : numsV free a b c l m n = k := by
  unfold numsV
  obtain rfl | rfl | rfl : k = 0 ∨ k = 1 ∨ k = 2 := by omega
  · have h1' : numV free a l = true := h1
    simp [h1']
  · have h0' : numV free a l = false := h 0 (by omega)
    have h1' : numV free b m = true := h1
    simp [h0', h1']
  · have h0' : numV free a l = false := h 0 (by omega)
    have h2' : numV free b m = false := h 1 (by omega)
    have h1' : numV free c n = true := h1
    simp [h0', h1', h2']
theorem box_three (w : World) (a b c : Int) (t : TypeId) (k : Nat) (hk : k < 3) : (w.alloc (.cells #[.int .i64 a, .int .i64 b, .int .i64 c] t)).cell? ⟨w.heap.size, k, none⟩ = some (.int .i64 (nth3 a b c k)) := by
  have h := heap_alloc_new w (.cells #[.int .i64 a, .int .i64 b, .int .i64 c] t)
  obtain rfl | rfl | rfl : k = 0 ∨ k = 1 ∨ k = 2 := by omega
  · simp only [World.cell?]; rw [h]; rfl
  · simp only [World.cell?]; rw [h]; rfl
  · simp only [World.cell?]; rw [h]; rfl
theorem ret_i {a b : Int} (h : a = b) : Ending.returned (.int .i64 a) = .returned (.int .i64 b) := by rw [h]
set_option maxRecDepth 100000 in
set_option maxHeartbeats 2000000 in
theorem numbers_ref (free : Bool) (a b c l m n : Int) (w : World) :
    Calls Tryz.prog 133 #[.agg #[.int .i64 a, .int .i64 b, .int .i64 c], .agg #[.int .i64 l, .int .i64 m, .int .i64 n], .bool free] w fun e w' => e = .returned (.int .i64 (numsV free a b c l m n)) ∧ Below w.heap.size w w' := by
  go_enter Tryz.func133, Tryz.ntmps133
  go_wp2_with fail
  obtain ⟨w1, hw1⟩ : ∃ w1, (w.alloc (.cells #[.int .i64 a, .int .i64 b, .int .i64 c] 94)).alloc (.cells #[.int .i64 l, .int .i64 m, .int .i64 n] 94) = w1 := ⟨_, rfl⟩
  have hB : Below w.heap.size w w1 := by rw [← hw1]; exact ((Below.refl _ _).alloc (Nat.le_refl _) _).alloc (by simp) _
  have hN : ∀ k, k < 3 → w1.cell? ⟨w.heap.size, k, none⟩ = some (.int .i64 (nth3 a b c k)) := fun k hk => by
    rw [← hw1]
    exact (World.cell?_of_block (Below.heap_alloc _ _ _ (by simp))).trans (box_three w a b c _ k hk)
  have hM : ∀ k, k < 3 → w1.cell? ⟨w.heap.size + 1, k, none⟩ = some (.int .i64 (nth3 l m n k)) := fun k hk => by
    rw [← hw1]
    have := box_three (w.alloc (.cells #[.int .i64 a, .int .i64 b, .int .i64 c] 94)) l m n 94 k hk
    rwa [World.size_alloc] at this
  rw [hw1]
  have HZ := Lib.hid (show w.heap.size + 1 < w1.heap.size by rw [← hw1]; simp)
  have HB := Lib.hid hB
  have HN := Lib.hid hN
  have HM := Lib.hid hM
  clear hw1 hB hN hM
  go_loopw [7] (fun i wr => ∃ k : Nat, k ≤ 3 ∧ i = .int .i64 k ∧ Hid (∀ j, j < k → numV free (nth3 a b c j) (nth3 l m n j) = false) ∧ Hid (Below w1.heap.size w1 wr)) (fun i _ => 3 - (RowKit.intOf i).toNat)
  case atStart => exact ⟨0, Nat.zero_le _, rfl, fun j hj => by omega, Below.refl _ _⟩
  case round =>
    obtain ⟨k, hk, rfl, HK, HW⟩ := hrel
    have HE := Lib.hid (HB.out.trans (HW.out.mono HB.out.size))
    by_cases hlt : k < 3
    · have hk3 : (k : Int) < 3 := by omega
      have hkz : (0 : Int) ≤ (k : Int) := by omega
      have hsz := HZ.out
      have c1 := (HW.out.cell (p := ⟨w.heap.size, k, none⟩) (by show w.heap.size < _; omega)).trans (HN.out k hlt)
      have c2 := (HW.out.cell (p := ⟨w.heap.size + 1, k, none⟩) hsz).trans (HM.out k hlt)
      obtain ⟨x, hx⟩ : ∃ x, nth3 a b c k = x := ⟨_, rfl⟩
      obtain ⟨y, hy⟩ : ∃ y, nth3 l m n k = y := ⟨_, rfl⟩
      rw [hx] at c1
      rw [hy] at c2
      have HX := Lib.hid hx
      have HY := Lib.hid hy
      clear hx hy hsz
      have next : ∀ (hv : numV free x y = false) (w' : World), Below wr.heap.size wr w' → Hid (∀ j, j < k + 1 → numV free (nth3 a b c j) (nth3 l m n j) = false) := fun hv _ _ j hj => by
        rcases Nat.lt_or_ge j k with h | h
        · exact HK.out j h
        · obtain rfl : j = k := by omega
          rw [HX.out, HY.out]; exact hv
      have NEXT := Lib.hid next
      clear next
      cases free with
      | false =>
        by_cases hxy : x < y
        · clear NEXT
          have HD := Lib.hid (show numsV false a b c l m n = k from numsV_some hlt HK.out (by rw [HX.out, HY.out]; exact numV_yes (.inl rfl) (.inl hxy)))
          go_wp2_with fail
          go_quiet (fail)
          go_wp2
          go_ret
          exact ⟨ret_i HD.out.symm, HE.out.trans ((Kit.below_drewN _ _ _).mono HE.out.size)⟩
        · by_cases hxb : (1099511627776 : Int) < x
          · clear NEXT
            have HD := Lib.hid (show numsV false a b c l m n = k from numsV_some hlt HK.out (by rw [HX.out, HY.out]; exact numV_yes (.inl rfl) (.inr hxb)))
            go_wp2_with fail
            go_quiet (fail)
            go_wp2
            go_ret
            exact ⟨ret_i HD.out.symm, HE.out.trans ((Kit.below_drewN _ _ _).mono HE.out.size)⟩
          · have HNX := Lib.hid (NEXT.out (numV_not (.inr ⟨hxy, hxb⟩)) _ (Below.refl _ _))
            clear NEXT
            go_wp2_with fail
            go_quiet (fail)
            go_wp2
            go_roundw
            case rel => exact ⟨k + 1, by omega, by go_num, HNX.out, HW.out.trans ((Kit.below_drewN _ _ _).mono HW.out.size)⟩
            case measure => simp [RowKit.intOf]; omega
      | true =>
        by_cases hx0 : x = 0
        · subst hx0
          have HNX := Lib.hid (NEXT.out (numV_not (.inl ⟨rfl, rfl⟩)) _ (Below.refl _ _))
          clear NEXT
          go_wp2_with fail
          go_quiet (fail)
          go_wp2
          go_roundw
          case rel => exact ⟨k + 1, by omega, by go_num, HNX.out, HW.out.trans ((Kit.below_drewN _ _ _).mono HW.out.size)⟩
          case measure => simp [RowKit.intOf]; omega
        · have hxn : (x == 0) = false := by simpa using hx0
          by_cases hxy : x < y
          · clear NEXT
            have HD := Lib.hid (show numsV true a b c l m n = k from numsV_some hlt HK.out (by rw [HX.out, HY.out]; exact numV_yes (.inr hx0) (.inl hxy)))
            go_wp2_with fail
            go_quiet (fail)
            go_wp2
            go_ret
            exact ⟨ret_i HD.out.symm, HE.out.trans ((Kit.below_drewN _ _ _).mono HE.out.size)⟩
          · by_cases hxb : (1099511627776 : Int) < x
            · clear NEXT
              have HD := Lib.hid (show numsV true a b c l m n = k from numsV_some hlt HK.out (by rw [HX.out, HY.out]; exact numV_yes (.inr hx0) (.inr hxb)))
              go_wp2_with fail
              go_quiet (fail)
              go_wp2
              go_ret
              exact ⟨ret_i HD.out.symm, HE.out.trans ((Kit.below_drewN _ _ _).mono HE.out.size)⟩
            · have HNX := Lib.hid (NEXT.out (numV_not (.inr ⟨hxy, hxb⟩)) _ (Below.refl _ _))
              clear NEXT
              go_wp2_with fail
              go_quiet (fail)
              go_wp2
              go_roundw
              case rel => exact ⟨k + 1, by omega, by go_num, HNX.out, HW.out.trans ((Kit.below_drewN _ _ _).mono HW.out.size)⟩
              case measure => simp [RowKit.intOf]; omega
    · have HD := Lib.hid (show numsV free a b c l m n = -1 from numsV_none (fun j hj => HK.out j (by omega)))
      go_wp2
      go_ret
      exact ⟨ret_i HD.out.symm, HE.out⟩
end SpecRef
end Go.Proofs.YtbichomjpmmjmaaGreatDoor

/-
  The contract of the document's Has (provostref06.Has): has one of some containers a port? No condition.
-/
namespace Go.Proofs.YtbichomjpmmjmaaGreatDoor
open Go.ChangeShapes Go.WideShapes Go.ChangeAt Go.RowKit Go.Lib
open Sd Lists
namespace SpecRef
theorem ret_b {a b : Bool} (h : a = b) : Ending.returned (.bool a) = .returned (.bool b) := by rw [h]
theorem hasV_no {l : List Ctr} {p : Int} (h : ∀ x ∈ l, ∀ q ∈ x.ports, q ≠ p) : hasV l p = false := by
  cases e : hasV l p
  · rfl
  · obtain ⟨x, hx, hq⟩ := List.any_eq_true.1 e
    exact absurd rfl (h x hx p (by simpa using hq))
theorem hasV_yes {l : List Ctr} {p : Int} {x : Ctr} (hx : x ∈ l) (hq : p ∈ x.ports) : hasV l p = true := List.any_eq_true.2 ⟨x, hx, by simpa using hq⟩
set_option maxRecDepth 100000 in
theorem has_ref (A : Option Addr) (cap : Nat) (l : List Ctr) (p : Int) (hl : l.length ≤ 9223372036854775807) (w : World) (h : Ctrs w A l) :
    Calls Tryz.prog 135 #[.slice A l.length cap, .int .i64 p] w fun e w' => e = .returned (.bool (hasV l p)) ∧ w = w' := by
  have H := Lib.hid h
  have hl' : (l.length : Int) ≤ 9223372036854775807 := by omega
  clear h hl
  go_enter Tryz.func135, Tryz.ntmps135
  go_wp2_with fail
  go_loop [5] (fun i => ∃ k : Nat, k ≤ l.length ∧ i = .int .i64 k ∧ Hid (∀ x ∈ l.take k, ∀ q ∈ x.ports, q ≠ p)) (fun i => l.length - (RowKit.intOf i).toNat)
  case atStart => exact ⟨0, Nat.zero_le _, rfl, fun x hx => by simp at hx⟩
  case round =>
    obtain ⟨k, hk, rfl, HK⟩ := hrel
    by_cases hlt : k < l.length
    · obtain ⟨hF, a, P, c, rfl, ha, hc, hN⟩ := H.out.at hlt
      have hp := hF.ports
      obtain ⟨x, hx⟩ : ∃ x, l[k] = x := ⟨_, rfl⟩
      rw [hx] at hc hp hN
      have c8 := hc.2.2.2.2.2.2.2.2.1
      have HX := Lib.hid hx
      have HNN := Lib.hid hN
      have HM := Lib.hid (show x ∈ l from hx ▸ List.getElem_mem hlt)
      clear hx hF ha hN hc
      have hkn : (k : Int) < (l.length : Int) := by omega
      have hpn : (x.ports.length : Int) ≤ 9223372036854775807 := by omega
      go_wp2_with fail
      go_loop [6] (fun i => ∃ m : Nat, m ≤ x.ports.length ∧ i = .int .i64 m ∧ Hid (∀ q ∈ x.ports.take m, q ≠ p)) (fun i => x.ports.length - (RowKit.intOf i).toNat)
      case atStart => exact ⟨0, Nat.zero_le _, rfl, fun x hx => by simp at hx⟩
      case round =>
        obtain ⟨m, hm, rfl, HQ⟩ := hrel
        by_cases hmt : m < x.ports.length
        · obtain ⟨_, b, rfl, hb, hd⟩ := HNN.out.at hmt
          obtain ⟨q, hq⟩ : ∃ q, x.ports[m] = q := ⟨_, rfl⟩
          rw [hq] at hd
          have HQQ := Lib.hid hq
          clear hq hb
          have hmn : (m : Int) < (x.ports.length : Int) := by omega
          by_cases hqp : q = p
          · subst hqp
            have HD := Lib.hid (show hasV l q = true from hasV_yes HM.out (HQQ.out ▸ List.getElem_mem hmt))
            go_wp2
            go_ret
            exact ⟨ret_b HD.out.symm, rfl⟩
          · have hqp' : (q == p) = false := by simpa using hqp
            have HN2 := Lib.hid (show ∀ q ∈ x.ports.take (m + 1), q ≠ p from fun z hz => by
              rw [List.take_succ_eq_append_getElem hmt, HQQ.out] at hz
              rcases List.mem_append.1 hz with hz | hz
              · exact HQ.out z hz
              · rw [List.mem_singleton.1 hz]; exact hqp)
            clear hqp
            go_wp2
            go_round
            case rel => exact ⟨m + 1, by omega, by go_num, HN2.out⟩
            case measure => simp [RowKit.intOf]; omega
        · have HN3 := Lib.hid (show ∀ z ∈ l.take (k + 1), ∀ q ∈ z.ports, q ≠ p from fun z hz q hq => by
            rw [List.take_succ_eq_append_getElem hlt, HX.out] at hz
            rcases List.mem_append.1 hz with hz | hz
            · exact HK.out z hz q hq
            · rw [List.mem_singleton.1 hz] at hq
              exact HQ.out q (by rw [List.take_of_length_le (by omega)]; exact hq))
          have hmn : ¬ (m : Int) < (x.ports.length : Int) := by omega
          go_wp2
          go_round
          case rel => exact ⟨k + 1, by omega, by go_num, HN3.out⟩
          case measure => simp [RowKit.intOf]; omega
    · have HD := Lib.hid (show hasV l p = false from hasV_no (fun x hx => HK.out x (by rw [List.take_of_length_le (by omega)]; exact hx)))
      have hkn : ¬ (k : Int) < (l.length : Int) := by omega
      go_wp2
      go_ret
      exact ⟨ret_b HD.out.symm, rfl⟩
end SpecRef
end Go.Proofs.YtbichomjpmmjmaaGreatDoor
