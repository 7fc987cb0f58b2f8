/-
  Package res: Of, what a pod of a spec asks for. What was there is left as it was. Conditions: the containers lie as they should; at most 1000 of each.
-/
import Derived.Test.YtpllcnpmjnmcfaaDoorRc12
import Derived.Test.YtpllcnpmjnmcfaaDoorRc1
import Derived.OwnWalk
import Derived.Great.BuildSlice
import Derived.LoopN
import Derived.Laws.AppendOwn
import Derived.Laws.OwnMore
import Derived.Deep.AppendLies
set_option linter.unusedVariables false
set_option linter.unusedSimpArgs false
namespace Go.Proofs.YtpllcnpmjnmcfaaDoor
open Go.ChangeShapes Go.WideShapes Go.ChangeAt Go.RowKit Go.Lib
open NumMath
namespace Re
open Sd
/-- what a container asks for -/
def rq (x : Ctr) : Rx := ⟨x.rc, x.rm, x.rp⟩
theorem rq_ok {x : Ctr} (h : x.Fits) : (rq x).Ok := ⟨fits_iff.2 h.rc, fits_iff.2 h.rm, fits_iff.2 h.rp⟩
theorem add_at (r o k : Nat) : (⟨r, o, none⟩ : Addr).add k = ⟨r, o + k, none⟩ := by unfold Addr.add; split <;> simp_all
theorem spot_cell {W : World} {a : Addr} {v : Value} (h : W.cell? a = some v) : a.spot = none := by
  unfold World.cell? at h
  split at h
  · split at h
    · cases h
    · rename_i hs
      simpa using hs
  · cases h
theorem ctr_range {x : Ctr} {P : Option Addr} {c r o : Nat} {w : World} (h : x.cellsAt P c w ⟨r, o, none⟩) : w.rangeAt r o (x.cells P c) := by
  obtain ⟨h0, h1, h2, h3, h4, h5, h6, h7, h8, h9, h10, _⟩ := h
  intro j v hv
  match j, hv with
  | 0, hv => simp only [Ctr.cells, List.getElem?_cons_zero, Option.some.injEq] at hv; rw [← hv]; exact h0
  | 1, hv => simp only [Ctr.cells, List.getElem?_cons_succ, List.getElem?_cons_zero, Option.some.injEq] at hv; rw [← hv]; exact h1
  | 2, hv => simp only [Ctr.cells, List.getElem?_cons_succ, List.getElem?_cons_zero, Option.some.injEq] at hv; rw [← hv]; exact h2
  | 3, hv => simp only [Ctr.cells, List.getElem?_cons_succ, List.getElem?_cons_zero, Option.some.injEq] at hv; rw [← hv]; exact h3
  | 4, hv => simp only [Ctr.cells, List.getElem?_cons_succ, List.getElem?_cons_zero, Option.some.injEq] at hv; rw [← hv]; exact h4
  | 5, hv => simp only [Ctr.cells, List.getElem?_cons_succ, List.getElem?_cons_zero, Option.some.injEq] at hv; rw [← hv]; exact h5
  | 6, hv => simp only [Ctr.cells, List.getElem?_cons_succ, List.getElem?_cons_zero, Option.some.injEq] at hv; rw [← hv]; exact h6
  | 7, hv => simp only [Ctr.cells, List.getElem?_cons_succ, List.getElem?_cons_zero, Option.some.injEq] at hv; rw [← hv]; exact h7
  | 8, hv => simp only [Ctr.cells, List.getElem?_cons_succ, List.getElem?_cons_zero, Option.some.injEq] at hv; rw [← hv]; exact h8
  | 9, hv => simp only [Ctr.cells, List.getElem?_cons_succ, List.getElem?_cons_zero, Option.some.injEq] at hv; rw [← hv]; exact h9
  | 10, hv => simp only [Ctr.cells, List.getElem?_cons_succ, List.getElem?_cons_zero, Option.some.injEq] at hv; rw [← hv]; exact h10
  | j + 11, hv => simp [Ctr.cells] at hv
/-- a container of a list -/
theorem ctr_at {w : World} {A : Option Addr} {l : List Ctr} (h : Ctrs w A l) {k : Nat} {x : Ctr} (hk : l[k]? = some x) : (rq x).Ok ∧ ∃ r o P c, A = some ⟨r, o, none⟩ ∧ r < w.heap.size ∧ w.rangeAt r (o + k * 11) (x.cells P c) := by
  obtain ⟨hf, a, P, c, rfl, ha, hc, _⟩ := h k x hk
  have h0 : a.spot = none := by
    by_cases hk0 : k = 0
    · have := spot_cell hc.1
      rw [hk0] at this
      simpa [Addr.add] using this
    · obtain ⟨_, a', P', c', e, _, hc', _⟩ := h 0 (l[0]'(by have := (List.getElem?_eq_some_iff.1 hk).1; omega)) (List.getElem?_eq_getElem _)
      injection e with e
      subst e
      have := spot_cell hc'.1
      simpa [Addr.add] using this
  obtain ⟨r, o, s⟩ := a
  simp only at h0
  subst h0
  rw [add_at] at hc
  exact ⟨rq_ok hf, r, o, P, c, rfl, ha, ctr_range hc⟩
theorem maxL_snoc (s : Rx) (l : List Rx) (x : Rx) : maxL s (l ++ [x]) = maxR (maxL s l) x := by simp [maxL]
theorem take_snoc {α : Type} {l : List α} {k : Nat} {x : α} (h : l[k]? = some x) : l.take (k + 1) = l.take k ++ [x] := by
  rw [List.take_add_one, h]; rfl
theorem lt_of_range {w : World} {b o : Nat} {x : Rx} (h : w.rangeAt b o (R3 x)) : b < w.heap.size := World.block_lt_of_cell? w _ (h 0 _ rfl)
theorem own_stay {w v : World} {base n : Nat} {u : Value} {xs : List Value} (h : w.ownsRow base 23 3 u n xs) (hb : Below w.heap.size w v) : v.ownsRow base 23 3 u n xs := by
  obtain ⟨h1, h2⟩ := h
  refine ⟨h1, ?_⟩
  rcases h2 with h2 | ⟨g, cap, cur, e, e1, hg, e2⟩
  · exact .inl h2
  · exact .inr ⟨g, cap, cur, e, e1, (hb.block g (lt_of_at hg)).trans hg, e2⟩
theorem run_build_res (x : Rx) (w : World) : (Instr.buildSlice 30 1 #[(0, .agg #[.int .i64 x.c, .int .i64 x.m, .int .i64 x.p])]).run Tryd.prog w = .ok (.slice (some ⟨w.heap.size, 0, none⟩) 1 1) (w.alloc (.cells #[.int .i64 x.c, .int .i64 x.m, .int .i64 x.p] 23)) := by
  obtain ⟨ie, hie, hz, hs, _⟩ := res_info
  refine run_buildSlice w _ _ 1 _ _ ie _ Tryd.underlying30 hie hz (by rw [hs]; decide) (by rw [hs]; decide) ?_
  rw [hs]
  rw [show (Array.range (1 * 3)).map ((Value.agg #[.int .i64 0, .int .i64 0, .int .i64 0]).cells[· % (Value.agg #[.int .i64 0, .int .i64 0, .int .i64 0]).cells.size]!) = #[.int .i64 0, .int .i64 0, .int .i64 0] by kernel_rfl]
  simp [Instr.fill, Value.cells]
theorem wpList_build_res {ops : Array Oper} {rest : List Oper} {op : Oper} {a : Act} {w v : World} {Q : Exit → Act → World → Prop} (hgd : op.guard = none) (y : Operand) (ho : op.op = .buildSlice 30 1 #[(0, y)]) (x : Rx) (hx : a.eval y = .agg #[.int .i64 x.c, .int .i64 x.m, .int .i64 x.p]) (hv : w.alloc (.cells #[.int .i64 x.c, .int .i64 x.m, .int .i64 x.p] 23) = v)
    (h : wpList Tryd.prog ops Q rest (a.put op.dst (.slice (some ⟨w.heap.size, 0, none⟩) 1 1)) v) : wpList Tryd.prog ops Q (op :: rest) a w := by
  refine wpList_plain hgd fun K hK => ?_
  have hrun := run_build_res x w
  subst hv
  unfold Oper.wp
  simp [execOp, ho, hx, hrun, Result.andThen]
  exact hK _ _ h
theorem res_of (tmps : Array Value) (w : World) (p : Nat) (xs : List Value) (x : Value) (h2 : tmps.getD 2 undef = .pointer (some ⟨p, 0, none⟩)) (h3 : tmps.getD 3 undef = x) (hX : w.heap[p]? = some (.cells xs.toArray 23 (0, 0))) (hm : xs.length = 3) :
    (results Tryd.f26 tmps).run Tryd.prog w = .ok (.tuple #[.agg xs.toArray, x]) w := by
  have h1 : (loadVar 23 ⟨p, 0, none⟩).run Tryd.prog w = .ok (.agg xs.toArray) w := run_loadVar_mid w p 0 23 _ _ (range_box hX) Tryd.underlying23 rfl (by rw [hm]; kernel_rfl)
  simp only [results, Tryd.results26]
  simp only [Array.getD_eq_getD_getElem?] at h2 h3
  have ha : (asAddr (tmps[2]?.getD undef)).run Tryd.prog w = .ok ⟨p, 0, none⟩ w := by rw [h2]; rfl
  simp [Sem.run_bind, h1, ha, h3]
set_option maxRecDepth 100000 in
set_option maxHeartbeats 4000000 in
theorem of_any (I M : List Ctr) (v0 v1 v4 v5 v6 : Value) (IA : Option Addr) (ic : Nat) (MA : Option Addr) (mc : Nat) (hi : I.length ≤ 1000) (hm : M.length ≤ 1000) (w : World) (hI : Ctrs w IA I) (hM : Ctrs w MA M) :
    Calls Tryd.prog 26 #[.agg #[v0, v1, .slice IA I.length ic, .slice MA M.length mc, v4, v5, v6]] w (Told3 (ofR (I.map rq) (M.map rq)) w) := by
  have HI := Lib.hid hI
  have HM := Lib.hid hM
  have HIL := Lib.hid hi
  have HML := Lib.hid hm
  clear hI hM hi hm
  obtain ⟨i3, hi3, hz30, hz31, hz32⟩ := res_info
  obtain ⟨w0, hw0⟩ : ∃ v, (w.alloc (.cells #[v0, v1, .slice IA I.length ic, .slice MA M.length mc, v4, v5, v6] 40)).alloc (.cells #[.int .i64 0, .int .i64 0, .int .i64 0] 23) = v := ⟨_, rfl⟩
  have S0 := Lib.hid (show w0.heap[w.heap.size]? = some (.cells #[v0, v1, .slice IA I.length ic, .slice MA M.length mc, v4, v5, v6] 40 (0, 0)) by rw [← hw0, Below.heap_alloc _ _ _ (by simp)]; exact heap_alloc_new w _)
  have Z0 := Lib.hid (show w0.heap[w.heap.size + 1]? = some (.cells #[.int .i64 0, .int .i64 0, .int .i64 0] 23 (0, 0)) by rw [← hw0]; have := heap_alloc_new (w.alloc (.cells #[v0, v1, .slice IA I.length ic, .slice MA M.length mc, v4, v5, v6] 40)) (.cells #[.int .i64 0, .int .i64 0, .int .i64 0] 23); simpa using this)
  have B0 := Lib.hid (show Below w.heap.size w w0 by rw [← hw0]; go_grown)
  have c3 := cell_of S0.out 3 (v := .slice MA M.length mc) rfl
  have hml : M.length ≤ 1000 := HML.out
  go_enter Tryd.func26, Tryd.ntmps26
  go_wp2_with (at_make; refine wpList_make_own w0 rfl _ _ 30 rfl w0.heap.size 23 i3 _ 3 Tryd.underlying30 hi3 hz30 hz31 .i64 .i64 _ M.length rfl rfl rfl ?c1 ?c2 (Nat.le_refl _) ?_)
  case c1 => rw [hz32]; omega
  case c2 => unfold maxLen; omega
  intro w1 hown hgr
  have BK := Lib.hid (show Below w0.heap.size w0 w1 from (Below.refl _ w0).grown hgr (Nat.le_refl _) (by intro j hj; cases hj))
  have HO1 := Lib.hid hown
  clear hown hgr hw0 c3 hz30 hz31 hz32 hi3
  have c3 := cell_of ((BK.out.block _ (lt_of_at S0.out)).trans S0.out) 3 (v := .slice MA M.length mc) rfl
  go_wp2_with fail
  clear c3
  go_loopw [4, 18] (fun v i wr => ∃ (k : Nat) (A' : Option Addr) (c' : Nat), k ≤ M.length ∧ v = .slice A' k c' ∧ i = .int .i64 k ∧ Hid (wr.ownsRow w0.heap.size 23 3 (.slice A' k c') k (flatR ((M.take k).map rq))) ∧ Hid (Below w0.heap.size w0 wr) ∧ Hid (∀ x ∈ (M.take k).map rq, x.Ok)) (fun _ i _ => M.length - (RowKit.intOf i).toNat)
  case atStart => exact ⟨0, _, _, Nat.zero_le _, rfl, rfl, HO1.out, BK.out, fun x hx => by cases hx⟩
  case round =>
    obtain ⟨k, A', c', hk, rfl, rfl, HO, BW, HS⟩ := hrel
    have hk6 : (k : Int) ≤ 1000 := by omega
    by_cases hlt : k < M.length
    · have hka : (k : Int) < (M.length : Int) := by omega
      have hk0 : (0 : Int) ≤ (k : Int) := by omega
      obtain ⟨x, hx⟩ : ∃ x, M[k]? = some x := ⟨_, List.getElem?_eq_getElem hlt⟩
      obtain ⟨hxo, r, oa, P, cp, rfl, hr, hrg⟩ := ctr_at ((HM.out.below B0.out).below BW.out) hx
      have eat := add_at r oa (k * 11)
      have RGX := Lib.hid hrg
      have HX := Lib.hid hx
      have HXO := Lib.hid hxo
      clear hx hxo hr hrg
      obtain ⟨wa, hwa⟩ : ∃ v, wr.alloc (.cells #[.string ⟨#[]⟩, .string ⟨#[]⟩, .int .i64 0, .int .i64 0, .int .i64 0, .int .i64 0, .int .i64 0, .int .i64 0, .slice none 0 0, .int .i64 0, .int .i64 0] 50) = v := ⟨_, rfl⟩
      have XA := Lib.hid (show wa.heap[wr.heap.size]? = some (.cells #[.string ⟨#[]⟩, .string ⟨#[]⟩, .int .i64 0, .int .i64 0, .int .i64 0, .int .i64 0, .int .i64 0, .int .i64 0, .slice none 0 0, .int .i64 0, .int .i64 0] 50 (0, 0)) by rw [← hwa]; exact heap_alloc_new _ _)
      have BA := Lib.hid (show Below wr.heap.size wr wa by rw [← hwa]; exact (Below.refl _ _).alloc (Nat.le_refl _) _)
      obtain ⟨wb, hwb⟩ : ∃ v, wa.setCells (wr.heap.size) 0 (x.cells P cp) = v := ⟨_, rfl⟩
      have THc := Lib.hid (show wa.there (wr.heap.size) 0 11 from Back.th XA.out rfl)
      have ONEc := Lib.hid (show ((x.cells P cp) : List Value).toArray.all (·.oneCell') = true by simp [Ctr.cells, Value.oneCell'])
      have HVc := Lib.hid hwb
      have XB := Lib.hid (show wb.heap[wr.heap.size]? = some (.cells (x.cells P cp).toArray 50 (0, 0)) by rw [← hwb]; exact Back.st XA.out rfl)
      have RF := Lib.hid (show wb.rangeAt wr.heap.size 2 (R3 (rq x)) from fun j v hv => by
        refine cell_of XB.out (2 + j) ?_
        match j, hv with
        | 0, hv => exact hv
        | 1, hv => exact hv
        | 2, hv => exact hv
        | j + 3, hv => simp at hv)
      have BB0 := Lib.hid (show Below wr.heap.size wr wb by rw [← hwb]; exact bel_set BA.out (Nat.le_refl _))
      have BB := Lib.hid (BW.out.trans (BB0.out.mono BW.out.size))
      clear hwb XA BA XB
      obtain ⟨wd, hwd⟩ : ∃ v, wb.alloc (.cells #[.int .i64 (rq x).c, .int .i64 (rq x).m, .int .i64 (rq x).p] 23) = v := ⟨_, rfl⟩
      have X3 := Lib.hid (show wd.rangeAt wb.heap.size 0 (R3 (rq x)) by rw [← hwd]; exact range_box (heap_alloc_new wb _))
      have HO3 := Lib.hid (show wd.ownsRow w0.heap.size 23 3 (.slice A' k c') k (flatR ((M.take k).map rq)) by rw [← hwd]; exact (own_stay HO.out BB0.out).alloc _)
      have BD := Lib.hid (show Below w0.heap.size w0 wd by rw [← hwd]; exact BB.out.alloc BB.out.size _)
      have HVd := Lib.hid hwd
      clear hwd HO
      go_wp2_with (first | (refine wpList_load_mid rfl 50 _ rfl _ _ rfl _ _ RGX.out Tryd.underlying50 rfl (by kernel_rfl) ?_) | (refine wpList_store_at rfl 50 _ _ rfl _ _ _ rfl rfl THc.out (by kernel_rfl) ONEc.out HVc.out ?_) | (refine wpList_load_mid rfl 23 _ rfl _ _ rfl _ _ RF.out Tryd.underlying23 rfl (by kernel_rfl) ?_) | (refine wpList_build_res rfl _ rfl (rq x) rfl HVd.out ?_) | (at_builtin; refine wpList_append_res rfl _ _ rfl w0.heap.size ((M.take k).map rq) A' k c' rfl HO3.out wb.heap.size 1 (rq x) rfl X3.out (by omega) BD.out.size ?_))
      intro A4 c4 w4 ho4 hb4
      have HO4 := Lib.hid ho4
      have B4 := Lib.hid (BD.out.trans hb4)
      clear ho4 hb4 hwa
      go_wp2_with fail
      go_roundw
      case rel =>
        have e : (M.take (k + 1)).map rq = (M.take k).map rq ++ [rq x] := by rw [take_snoc HX.out, List.map_append]; rfl
        refine ⟨k + 1, A4, c4, by omega, by go_num, by go_num, ?_, B4.out, ?_⟩
        · rw [e]
          have q := HO4.out
          rw [← List.map_take] at q
          exact q
        · rw [e]
          intro y hy
          rcases List.mem_append.1 hy with hy | hy
          · exact HS.out y hy
          · obtain rfl : y = rq x := by simpa using hy
            exact HXO.out
      case measure => simp [RowKit.intOf]; omega
    · have hka : ¬ (k : Int) < (M.length : Int) := by omega
      obtain rfl : k = M.length := by omega
      rw [List.take_length] at HO HS
      have C1 := Lib.hid (sum_any A' c' (M.map rq) (by rw [List.length_map]; omega) wr (ress_own HO.out (by rw [List.length_map]) HS.out))
      obtain ⟨s, hs⟩ : ∃ s, sumR z3 (M.map rq) = s := ⟨_, rfl⟩
      have HSM := Lib.hid hs
      rw [hs, List.length_map] at C1
      clear hs HO HS
      go_wp2_with fail
      have B := Lib.hid (B0.out.trans (BW.out.mono B0.out.size))
      have hwr := BW.out.size
      refine (C1.out).mono ?_
      rintro e wq ⟨rfl, hb1⟩
      have h7 : w0.heap.size ≤ wq.heap.size := by have := hb1.size; omega
      obtain ⟨u1, hu1⟩ : ∃ v, wq.alloc (.cells #[.int .i64 0, .int .i64 0, .int .i64 0] 23) = v := ⟨_, rfl⟩
      have ZB := Lib.hid (show u1.heap[wq.heap.size]? = some (.cells #[.int .i64 0, .int .i64 0, .int .i64 0] 23 (0, 0)) by rw [← hu1]; exact heap_alloc_new _ _)
      have BU := Lib.hid (show Below wq.heap.size wq u1 by rw [← hu1]; exact (Below.refl _ _).alloc (Nat.le_refl _) _)
      obtain ⟨v1, hv1⟩ : ∃ v, u1.setCells (wq.heap.size) 0 (R3 s.1) = v := ⟨_, rfl⟩
      have THz := Lib.hid (show u1.there (wq.heap.size) 0 3 from Back.th ZB.out rfl)
      have ONEz := Lib.hid (show ((R3 s.1) : List Value).toArray.all (·.oneCell') = true by simp [Value.oneCell'])
      have HVz := Lib.hid hv1
      have NX := Lib.hid (show v1.heap[wq.heap.size]? = some (.cells ((R3 s.1) : List Value).toArray 23 (0, 0)) by rw [← hv1]; exact Back.st ZB.out rfl)
      have BV := Lib.hid (show Below wq.heap.size wq v1 by rw [← hv1]; exact bel_set BU.out (Nat.le_refl _))
      have BH := hb1.trans (BV.out.mono hb1.size)
      clear hv1
      have NBW := Lib.hid (BW.out.trans (BH.mono BW.out.size))
      clear BW
      have BW := Lib.hid NBW.out
      clear NBW
      have NB := Lib.hid (B.out.trans (BH.mono B.out.size))
      clear B 
      have B := Lib.hid NB.out
      clear NB 
      have X7 := Lib.hid NX.out
      have RX7 := Lib.hid (range_box (cs := (R3 s.1)) X7.out)
      clear BH BV NX ZB BU hb1
      clear C1 B
      have HV := Lib.hid (show w0.heap.size ≤ wq.heap.size from h7)
      cases hs2 : s.2 with
      | false =>
        have ZB := Lib.hid ((BW.out.block _ (lt_of_at Z0.out)).trans Z0.out)
        have HE := Lib.hid (show ofR (I.map rq) (M.map rq) = (z3, false) by unfold ofR; rw [HSM.out, hs2, if_neg (by decide)])
        obtain ⟨w6, hw6⟩ : ∃ v, v1.setCells (w.heap.size + 1) 0 (R3 z3) = v := ⟨_, rfl⟩
        have THy := Lib.hid (show v1.there (w.heap.size + 1) 0 3 from Back.th ZB.out rfl)
        have ONEy := Lib.hid (show ((R3 z3) : List Value).toArray.all (·.oneCell') = true by simp [Value.oneCell'])
        have HVy := Lib.hid hw6
        have Z6 := Lib.hid (show w6.heap[w.heap.size + 1]? = some (.cells (R3 z3).toArray 23 (0, 0)) by rw [← hw6]; exact Back.st ZB.out rfl)
        have B6 := Lib.hid (show Below w.heap.size w w6 by rw [← hw6]; exact bel_set (B0.out.trans (BW.out.mono B0.out.size)) (by omega))
        clear hw6 hs2
        go_wp2_with (first | (refine wpList_store_at rfl 23 _ _ rfl _ _ _ rfl rfl THz.out (by kernel_rfl) ONEz.out HVz.out ?_) | (refine wpList_store_at rfl 23 _ _ rfl _ _ _ rfl rfl THy.out (by kernel_rfl) ONEy.out HVy.out ?_))
        refine bodyPost_ret (v := .tuple #[.agg (R3 z3).toArray, .bool false]) (res_of _ _ _ (R3 z3) _ rfl rfl Z6.out rfl) rfl ?_
        rw [HE.out]
        exact ⟨rfl, B6.out⟩
      | true =>
        have HE := Lib.hid (show ofR (I.map rq) (M.map rq) = (maxL s.1 (I.map rq), true) by unfold ofR; rw [HSM.out, hs2, if_pos rfl])
        have c2 := cell_of ((BW.out.block _ (lt_of_at S0.out)).trans S0.out) 2 (v := .slice IA I.length ic) rfl
        have hil : I.length ≤ 1000 := HIL.out
        clear hs2
        go_wp2_with (first | (refine wpList_store_at rfl 23 _ _ rfl _ _ _ rfl rfl THz.out (by kernel_rfl) ONEz.out HVz.out ?_))
        clear c2
        go_loopw [39] (fun i wn => ∃ (k : Nat), k ≤ I.length ∧ i = .int .i64 k ∧ Hid (Below w0.heap.size w0 wn) ∧ Hid (wn.heap[wq.heap.size]? = some (.cells (R3 (maxL s.1 ((I.take k).map rq))).toArray 23 (0, 0)))) (fun i _ => I.length - (RowKit.intOf i).toNat)
        case atStart => exact ⟨0, Nat.zero_le _, rfl, BW.out, X7.out⟩
        case round =>
          clear BW X7 RX7
          obtain ⟨k, hk, rfl, BW, X7⟩ := hrel
          have hk6 : (k : Int) ≤ 1000 := by omega
          by_cases hlt : k < I.length
          · have hka : (k : Int) < (I.length : Int) := by omega
            have hk0 : (0 : Int) ≤ (k : Int) := by omega
            obtain ⟨x, hx⟩ : ∃ x, I[k]? = some x := ⟨_, List.getElem?_eq_getElem hlt⟩
            obtain ⟨hxo, r, oa, P, cp, rfl, hr, hrg⟩ := ctr_at ((HI.out.below B0.out).below BW.out) hx
            have eat := add_at r oa (k * 11)
            have RGX := Lib.hid hrg
            have HX := Lib.hid hx
            clear hx hxo hr hrg
            obtain ⟨m, hmm⟩ : ∃ m, maxL s.1 ((I.take k).map rq) = m := ⟨_, rfl⟩
            rw [hmm] at X7
            have HMM := Lib.hid hmm
            clear hmm
            obtain ⟨wa, hwa⟩ : ∃ v, wr.alloc (.cells #[.string ⟨#[]⟩, .string ⟨#[]⟩, .int .i64 0, .int .i64 0, .int .i64 0, .int .i64 0, .int .i64 0, .int .i64 0, .slice none 0 0, .int .i64 0, .int .i64 0] 50) = v := ⟨_, rfl⟩
            have XA := Lib.hid (show wa.heap[wr.heap.size]? = some (.cells #[.string ⟨#[]⟩, .string ⟨#[]⟩, .int .i64 0, .int .i64 0, .int .i64 0, .int .i64 0, .int .i64 0, .int .i64 0, .slice none 0 0, .int .i64 0, .int .i64 0] 50 (0, 0)) by rw [← hwa]; exact heap_alloc_new _ _)
            have BA := Lib.hid (show Below wr.heap.size wr wa by rw [← hwa]; exact (Below.refl _ _).alloc (Nat.le_refl _) _)
            obtain ⟨wb, hwb⟩ : ∃ v, wa.setCells (wr.heap.size) 0 (x.cells P cp) = v := ⟨_, rfl⟩
            have THc := Lib.hid (show wa.there (wr.heap.size) 0 11 from Back.th XA.out rfl)
            have ONEc := Lib.hid (show ((x.cells P cp) : List Value).toArray.all (·.oneCell') = true by simp [Ctr.cells, Value.oneCell'])
            have HVc := Lib.hid hwb
            have XB := Lib.hid (show wb.heap[wr.heap.size]? = some (.cells (x.cells P cp).toArray 50 (0, 0)) by rw [← hwb]; exact Back.st XA.out rfl)
            have RF := Lib.hid (show wb.rangeAt wr.heap.size 2 (R3 (rq x)) from fun j v hv => by
              refine cell_of XB.out (2 + j) ?_
              match j, hv with
              | 0, hv => exact hv
              | 1, hv => exact hv
              | 2, hv => exact hv
              | j + 3, hv => simp at hv)
            have BB0 := Lib.hid (show Below wr.heap.size wr wb by rw [← hwb]; exact bel_set BA.out (Nat.le_refl _))
            have BB := Lib.hid (BW.out.trans (BB0.out.mono BW.out.size))
            clear hwb XA BA XB
            have Y7 := Lib.hid ((BB0.out.block _ (lt_of_at X7.out)).trans X7.out)
            have RY7 := Lib.hid (range_box (cs := R3 m) Y7.out)
            go_wp2_with (first | (refine wpList_load_mid rfl 50 _ rfl _ _ rfl _ _ RGX.out Tryd.underlying50 rfl (by kernel_rfl) ?_) | (refine wpList_store_at rfl 50 _ _ rfl _ _ _ rfl rfl THc.out (by kernel_rfl) ONEc.out HVc.out ?_) | (refine wpList_load_mid rfl 23 _ rfl _ _ rfl _ _ RF.out Tryd.underlying23 rfl (by kernel_rfl) ?_) | (refine wpList_load_mid rfl 23 _ rfl _ _ rfl _ _ RY7.out Tryd.underlying23 rfl (by kernel_rfl) ?_))
            refine (max_any m (rq x) wb).mono ?_
            rintro e w4 ⟨rfl, hb4⟩
            have Y8 := Lib.hid ((hb4.block _ (lt_of_at Y7.out)).trans Y7.out)
            have B8 := Lib.hid (BB.out.trans (hb4.mono BB.out.size))
            clear hb4 hwa
            obtain ⟨w5, hw5⟩ : ∃ v, w4.setCells (wq.heap.size) 0 (R3 (maxR m (rq x))) = v := ⟨_, rfl⟩
            have THm := Lib.hid (show w4.there (wq.heap.size) 0 3 from Back.th Y8.out rfl)
            have ONEm := Lib.hid (show ((R3 (maxR m (rq x))) : List Value).toArray.all (·.oneCell') = true by simp [Value.oneCell'])
            have HVm := Lib.hid hw5
            have Y9 := Lib.hid (show w5.heap[wq.heap.size]? = some (.cells (R3 (maxR m (rq x))).toArray 23 (0, 0)) by rw [← hw5]; exact Back.st Y8.out rfl)
            have B9 := Lib.hid (show Below w0.heap.size w0 w5 by rw [← hw5]; exact bel_set B8.out HV.out)
            clear hw5
            go_wp2_with (first | (refine wpList_store_at rfl 23 _ _ rfl _ _ _ rfl rfl THm.out (by kernel_rfl) ONEm.out HVm.out ?_))
            go_roundw
            case rel =>
              have e : maxL s.1 ((I.take (k + 1)).map rq) = maxR m (rq x) := by rw [take_snoc HX.out, List.map_append, List.map_cons, List.map_nil, maxL_snoc, HMM.out]
              refine ⟨k + 1, by omega, by go_num, B9.out, ?_⟩
              rw [e]; exact Y9.out
            case measure => simp [RowKit.intOf]; omega
          · have hka : ¬ (k : Int) < (I.length : Int) := by omega
            obtain rfl : k = I.length := by omega
            rw [List.take_length] at X7
            have RX7 := Lib.hid (range_box X7.out)
            have ZB := Lib.hid ((BW.out.block _ (lt_of_at Z0.out)).trans Z0.out)
            obtain ⟨m, hmm⟩ : ∃ m, maxL s.1 (I.map rq) = m := ⟨_, rfl⟩
            rw [hmm] at X7 RX7 HE
            clear hmm
            obtain ⟨w6, hw6⟩ : ∃ v, wr.setCells (w.heap.size + 1) 0 (R3 m) = v := ⟨_, rfl⟩
            have THy := Lib.hid (show wr.there (w.heap.size + 1) 0 3 from Back.th ZB.out rfl)
            have ONEy := Lib.hid (show ((R3 m) : List Value).toArray.all (·.oneCell') = true by simp [Value.oneCell'])
            have HVy := Lib.hid hw6
            have Z6 := Lib.hid (show w6.heap[w.heap.size + 1]? = some (.cells (R3 m).toArray 23 (0, 0)) by rw [← hw6]; exact Back.st ZB.out rfl)
            have B6 := Lib.hid (show Below w.heap.size w w6 by rw [← hw6]; exact bel_set (B0.out.trans (BW.out.mono B0.out.size)) (by omega))
            clear hw6
            go_wp2_with (first | (refine wpList_load_mid rfl 23 _ rfl _ _ rfl _ _ RX7.out Tryd.underlying23 rfl (by kernel_rfl) ?_) | (refine wpList_store_at rfl 23 _ _ rfl _ _ _ rfl rfl THy.out (by kernel_rfl) ONEy.out HVy.out ?_))
            refine bodyPost_ret (v := .tuple #[.agg (R3 m).toArray, .bool true]) (res_of _ _ _ (R3 m) _ rfl rfl Z6.out rfl) rfl ?_
            rw [HE.out]
            exact ⟨rfl, B6.out⟩
end Re
end Go.Proofs.YtpllcnpmjnmcfaaDoor

/-
  Containers gathered in a row of the call's own, their ports where they were: what keeps them, one more behind them. No condition.
-/
namespace Go.Proofs.YtpllcnpmjnmcfaaDoor
open Go.RowKit
namespace Sd
open Lists

/-- a container, where its ports lie, and the room there -/
structure Held where
  x : Ctr
  P : Option Addr
  c : Nat
def Held.cells (t : Held) : List Value := t.x.cells t.P t.c
def flat : List Held → List Value
  | [] => []
  | t :: L => t.cells ++ flat L
theorem Held.cells_length (t : Held) : t.cells.length = 11 := rfl
theorem flat_length : ∀ L : List Held, (flat L).length = L.length * 11
  | [] => rfl
  | t :: L => by rw [flat, List.length_append, flat_length L, t.cells_length, List.length_cons]; omega
theorem flat_snoc : ∀ (L : List Held) (t : Held), flat (L ++ [t]) = flat L ++ t.cells
  | [], t => by simp [flat]
  | u :: L, t => by rw [List.cons_append, flat, flat_snoc L t, flat, List.append_assoc]
theorem flat_at : ∀ {L : List Held} {k : Nat} {t : Held}, L[k]? = some t → ∀ j, j < 11 → (flat L)[k * 11 + j]? = t.cells[j]?
  | [], _, _, h, _, _ => by simp at h
  | u :: L, 0, t, h, j, hj => by
    simp only [List.getElem?_cons_zero, Option.some.injEq] at h
    subst h
    rw [flat, Nat.zero_mul, Nat.zero_add, List.getElem?_append_left (by rw [Held.cells_length]; exact hj)]
  | u :: L, k + 1, t, h, j, hj => by
    rw [flat, List.getElem?_append_right (by rw [Held.cells_length]; omega), Held.cells_length, show (k + 1) * 11 + j - 11 = k * 11 + j by omega]
    exact flat_at (by simpa using h) j hj

/-- what a container that is held says -/
structure Held.Ok (t : Held) (w : World) : Prop where
  fits : t.x.Fits
  ports : Nums .i64 w t.P t.x.ports
  room : t.x.ports.length ≤ t.c

/-- containers in a row of the call's own -/
structure Gathered (e : TypeId) (w0 w : World) (v : Value) (L : List Held) : Prop where
  own : w.ownsRow w0.heap.size e 11 v L.length (flat L)
  held : ∀ t ∈ L, t.Ok w0
  below : Below w0.heap.size w0 w

theorem Gathered.nil (e : TypeId) {w0 w : World} (h : Below w0.heap.size w0 w) : Gathered e w0 w (.slice none 0 0) [] := ⟨World.ownsRow_nil _ _ _ _, fun t ht => by simp at ht, h⟩

theorem Gathered.next {e : TypeId} {w0 w w' : World} {v : Value} {L : List Held} (h : Gathered e w0 w v L) (hb : Below w.heap.size w w') : Gathered e w0 w' v L := by
  refine ⟨⟨h.own.1, ?_⟩, h.held, h.below.trans (hb.mono h.below.size)⟩
  rcases h.own.2 with h2 | ⟨g, cap, cur, e1, e2, e3, e4⟩
  · exact .inl h2
  · have hlt : g < w.heap.size := by
      rcases Nat.lt_or_ge g w.heap.size with hl | hl
      · exact hl
      · rw [Array.getElem?_eq_none hl] at e3; cases e3
    exact .inr ⟨g, cap, cur, e1, e2, (hb.block g hlt).trans e3, e4⟩

/-- they can be read as any list of containers -/
theorem Gathered.ctrs {e : TypeId} {w0 w : World} {v : Value} {L : List Held} (h : Gathered e w0 w v L) : ∃ A c, v = .slice A (L.map (·.x)).length c ∧ Ctrs w A (L.map (·.x)) := by
  rcases h.own.2 with ⟨e1, h0⟩ | ⟨g, cap, cur, e1, e2, e3, e4⟩
  · have : L = [] := List.length_eq_zero_iff.1 h0
    subst this
    exact ⟨none, 0, e1, fun k x hk => by simp at hk⟩
  · have hlt : g < w.heap.size := by
      rcases Nat.lt_or_ge g w.heap.size with hl | hl
      · exact hl
      · rw [Array.getElem?_eq_none hl] at e3; cases e3
    refine ⟨some ⟨g, 0, none⟩, cap, by rw [List.length_map]; exact e1, fun k x hk => ?_⟩
    rw [List.getElem?_map, Option.map_eq_some_iff] at hk
    obtain ⟨t, ht, rfl⟩ := hk
    have ho := h.held t (List.mem_of_getElem? ht)
    have hkl : k < L.length := (List.getElem?_eq_some_iff.1 ht).1
    have hown := h.own
    rw [e1] at hown
    have hc : ∀ j, j < 11 → w.cell? ⟨g, k * 11 + j, none⟩ = t.cells[j]? := fun j hj => by
      rw [hown.cellAt (k * 11 + j) (by omega), flat_at ht j hj]
    have e0 : (⟨g, 0, none⟩ : Addr).add (k * 11) = ⟨g, k * 11, none⟩ := by unfold Addr.add; split <;> simp_all
    refine ⟨ho.fits, _, t.P, t.c, rfl, hlt, ?_, Nums.below ho.ports h.below⟩
    rw [e0]
    exact ⟨hc 0 (by omega), hc 1 (by omega), hc 2 (by omega), hc 3 (by omega), hc 4 (by omega), hc 5 (by omega), hc 6 (by omega), hc 7 (by omega), hc 8 (by omega), hc 9 (by omega), hc 10 (by omega), ho.room⟩

/-- one more -/
theorem Gathered.push {e : TypeId} {w0 w w' : World} {v v' : Value} {L : List Held} {t : Held} (h : Gathered e w0 w v L) (ht : t.Ok w0) (ho : w'.ownsRow w0.heap.size e 11 v' (L.length + 1) (flat L ++ t.cells)) (hg : w.grownBy w' v.ownBlock) : Gathered e w0 w' v' (L ++ [t]) := by
  refine ⟨?_, fun u hu => ?_, ?_⟩
  · rw [flat_snoc, List.length_append]; exact ho
  · rcases List.mem_append.1 hu with hu | hu
    · exact h.held u hu
    · rw [List.mem_singleton.1 hu]; exact ht
  · have hb := h.below
    refine ⟨hg.os.trans hb.os, hg.tape.trans hb.tape, hg.output.trans hb.output, Nat.le_trans hb.size hg.size, fun k hk => (hg.block k (Nat.lt_of_lt_of_le hk hb.size) fun e1 => ?_).trans (hb.block k hk)⟩
    have := (h.own.lt k e1.symm).1
    omega

/-- a container of a list that was there, held -/
theorem Ctrs.held {w : World} {A : Option Addr} {l : List Ctr} (h : Ctrs w A l) {k : Nat} (hk : k < l.length) : ∃ (t : Held) (a : Addr), t.x = l[k] ∧ t.Ok w ∧ A = some a ∧ a.block < w.heap.size ∧ t.x.cellsAt t.P t.c w (a.add (k * 11)) := by
  obtain ⟨hf, a, P, c, hA, ha, hc, hn⟩ := h.at hk
  exact ⟨⟨l[k], P, c⟩, a, rfl, ⟨hf, hn, hc.2.2.2.2.2.2.2.2.2.2.2⟩, hA, ha, hc⟩
end Sd
end Go.Proofs.YtpllcnpmjnmcfaaDoor

/-
  Labels and containers in rows of a call's own, cell by cell; blocks from one on; blocks that may be written. No condition.
-/
namespace Go.Proofs.YtpllcnpmjnmcfaaDoor
open Go.RowKit
open Sd Lists
namespace SpecOwn

theorem flat_lt {w : World} {g : Nat} {o : Obj} (h : w.heap[g]? = some o) : g < w.heap.size := by
  rcases Nat.lt_or_ge g w.heap.size with hl | hl
  · exact hl
  · rw [Array.getElem?_eq_none hl] at h; cases h
/-- from block B on -/
def From (B : Nat) (A : Option Addr) : Prop := ∀ a, A = some a → B ≤ a.block

/-- no cell of the block is frozen -/
def Thaw (w : World) (A : Option Addr) : Prop := ∀ a, A = some a → a.block < w.heap.size ∧ ∀ j, w.frozen? ⟨a.block, j, none⟩ = false
theorem thaw_own {w : World} {B : Nat} {e : TypeId} {size : Nat} {A : Option Addr} {n c : Nat} {xs : List Value} (h : w.ownsRow B e size (.slice A n c) n xs) : Thaw w A := by
  intro a ha
  subst ha
  rcases h.2 with ⟨e1, _⟩ | ⟨g, cap, cur, e1, e2, e3, _⟩
  · cases e1
  · injection e1 with e1 _ _
    injection e1 with e1
    subst e1
    exact ⟨flat_lt e3, fun j => h.frozenAt j⟩
theorem Thaw.block {w w' : World} {A : Option Addr} (h : Thaw w A) (hs : w.heap.size ≤ w'.heap.size) (hb : ∀ a, A = some a → w'.heap[a.block]? = w.heap[a.block]?) : Thaw w' A := fun a ha =>
  ⟨Nat.lt_of_lt_of_le (h a ha).1 hs, fun j => (World.frozen?_of_block (w := w) (a := ⟨a.block, j, none⟩) (hb a ha)).trans ((h a ha).2 j)⟩
theorem Thaw.below {w w' : World} {A : Option Addr} (h : Thaw w A) (hb : Below w.heap.size w w') : Thaw w' A := h.block hb.size fun a ha => hb.block _ (h a ha).1

theorem add_plus (a : Addr) (i j : Nat) : (a.add i).add j = a.add (i + j) := by
  unfold Addr.add
  by_cases h1 : i = 0
  · subst h1; simp
  · by_cases h2 : j = 0
    · subst h2; simp
    · rw [if_neg h1, if_neg h2, if_neg (by omega)]
      simp; omega
theorem add_pos (a : Addr) (r : Nat) (hr : r ≠ 0) : a.add r = ⟨a.block, a.off + r, none⟩ := by unfold Addr.add; rw [if_neg hr]

/-- labels, cell by cell -/
def flatL : List Lbl → List Value
  | [] => []
  | x :: l => .string x.key :: .string x.val :: flatL l
theorem flatL_length : ∀ l : List Lbl, (flatL l).length = l.length * 2
  | [] => rfl
  | x :: l => by rw [flatL, List.length_cons, List.length_cons, flatL_length l, List.length_cons]; omega
theorem flatL_at : ∀ {l : List Lbl} {k : Nat} {x : Lbl}, l[k]? = some x → (flatL l)[k * 2]? = some (.string x.key) ∧ (flatL l)[k * 2 + 1]? = some (.string x.val)
  | [], _, _, h => by simp at h
  | y :: l, 0, x, h => by
    simp only [List.getElem?_cons_zero, Option.some.injEq] at h
    subst h
    exact ⟨rfl, rfl⟩
  | y :: l, k + 1, x, h => by
    have ih := flatL_at (l := l) (k := k) (x := x) (by simpa using h)
    rw [flatL, show (k + 1) * 2 = k * 2 + 1 + 1 by omega]
    simpa using ih
theorem flatL_str : ∀ (l : List Lbl), ∀ u ∈ flatL l, u.oneCell' = true
  | [], u, h => by simp [flatL] at h
  | x :: l, u, h => by
    simp only [flatL, List.mem_cons] at h
    rcases h with rfl | rfl | h
    · rfl
    · rfl
    · exact flatL_str l u h
theorem flatL_src {w : World} {a : Addr} {l : List Lbl} (h : ∀ (k : Nat) (x : Lbl), l[k]? = some x → x.cellsAt w (a.add (k * 2))) : ∀ (j : Nat) u, (flatL l)[j]? = some u → w.cell? (a.add j) = some u := by
  intro j u hu
  have hj := (List.getElem?_eq_some_iff.1 hu).1
  rw [flatL_length] at hj
  have hk : j / 2 < l.length := by omega
  obtain ⟨h0, h1⟩ := flatL_at (List.getElem?_eq_getElem hk)
  obtain ⟨c0, c1⟩ := h (j / 2) _ (List.getElem?_eq_getElem hk)
  have hjj : j = j / 2 * 2 ∨ j = j / 2 * 2 + 1 := by omega
  generalize l[j / 2] = x at *
  generalize j / 2 = k at *
  rcases hjj with rfl | rfl
  · rw [h0] at hu
    obtain rfl := Option.some.inj hu
    exact c0
  · rw [h1] at hu
    obtain rfl := Option.some.inj hu
    rw [← add_plus, add_pos _ 1 (by omega)]
    exact c1

theorem flat_cells : ∀ (L : List Held), ∀ u ∈ flat L, u.oneCell' = true
  | [], u, h => by simp [flat] at h
  | t :: L, u, h => by
    rw [flat, List.mem_append] at h
    rcases h with h | h
    · simp only [Held.cells, Ctr.cells, List.mem_cons, List.not_mem_nil, or_false] at h
      rcases h with rfl | rfl | rfl | rfl | rfl | rfl | rfl | rfl | rfl | rfl | rfl <;> rfl
    · exact flat_cells L u h
theorem flat_src {w : World} {a : Addr} {L : List Held} (h : ∀ (k : Nat) (t : Held), L[k]? = some t → t.x.cellsAt t.P t.c w (a.add (k * 11))) : ∀ (j : Nat) u, (flat L)[j]? = some u → w.cell? (a.add j) = some u := by
  intro j u hu
  have hj := (List.getElem?_eq_some_iff.1 hu).1
  rw [flat_length] at hj
  have hk : j / 11 < L.length := by omega
  obtain ⟨r, hr⟩ : ∃ r, j = j / 11 * 11 + r := ⟨j % 11, by omega⟩
  have hr11 : r < 11 := by omega
  have hf := flat_at (List.getElem?_eq_getElem hk) r hr11
  have hc := h (j / 11) _ (List.getElem?_eq_getElem hk)
  generalize j / 11 = k at *
  subst hr
  rw [hu] at hf
  generalize L[k] = t at *
  obtain ⟨c0, c1, c2, c3, c4, c5, c6, c7, c8, c9, c10, _⟩ := hc
  rw [← add_plus]
  rcases (show r = 0 ∨ r = 1 ∨ r = 2 ∨ r = 3 ∨ r = 4 ∨ r = 5 ∨ r = 6 ∨ r = 7 ∨ r = 8 ∨ r = 9 ∨ r = 10 by omega) with rfl | rfl | rfl | rfl | rfl | rfl | rfl | rfl | rfl | rfl | rfl
  all_goals
    have hq := Option.some.inj hf
    subst hq
  · exact c0
  · rw [add_pos _ 1 (by omega)]; exact c1
  · rw [add_pos _ 2 (by omega)]; exact c2
  · rw [add_pos _ 3 (by omega)]; exact c3
  · rw [add_pos _ 4 (by omega)]; exact c4
  · rw [add_pos _ 5 (by omega)]; exact c5
  · rw [add_pos _ 6 (by omega)]; exact c6
  · rw [add_pos _ 7 (by omega)]; exact c7
  · rw [add_pos _ 8 (by omega)]; exact c8
  · rw [add_pos _ 9 (by omega)]; exact c9
  · rw [add_pos _ 10 (by omega)]; exact c10
theorem lbls_own {w : World} {B : Nat} {e : TypeId} {A : Option Addr} {c : Nat} {l : List Lbl} (h : w.ownsRow B e 2 (.slice A l.length c) l.length (flatL l)) : Lbls w A l ∧ From B A := by
  rcases h.2 with ⟨e1, h0⟩ | ⟨g, cap, cur, e1, e2, e3, e4⟩
  · injection e1 with e1
    subst e1
    exact ⟨fun k x hk => by have := (List.getElem?_eq_some_iff.1 hk).1; omega, fun a ha => by cases ha⟩
  · injection e1 with e1 e5 e6
    subst e1
    refine ⟨fun k x hk => ⟨_, rfl, flat_lt e3, ?_⟩, fun a ha => by injection ha with ha; subst ha; exact e2⟩
    have hl := (List.getElem?_eq_some_iff.1 hk).1
    obtain ⟨f0, f1⟩ := flatL_at hk
    have e0 : (⟨g, 0, none⟩ : Addr).add (k * 2) = ⟨g, k * 2, none⟩ := by unfold Addr.add; split <;> simp_all
    rw [e0]
    exact ⟨by rw [h.cellAt (k * 2) (by omega), f0], by show w.cell? ⟨g, k * 2 + 1, none⟩ = _; rw [h.cellAt (k * 2 + 1) (by omega), f1]⟩
/-- containers in blocks from B on, their ports too -/
def CtrsFrom (B : Nat) (w : World) (A : Option Addr) (l : List Ctr) : Prop := ∀ (k : Nat) (x : Ctr), l[k]? = some x → x.Fits ∧ ∃ a P c, A = some a ∧ B ≤ a.block ∧ a.block < w.heap.size ∧ x.cellsAt P c w (a.add (k * 11)) ∧ Nums .i64 w P x.ports ∧ From B P ∧ Thaw w A ∧ Thaw w P ∧ ∀ p, P = some p → p.block ≠ a.block
end SpecOwn
end Go.Proofs.YtpllcnpmjnmcfaaDoor
