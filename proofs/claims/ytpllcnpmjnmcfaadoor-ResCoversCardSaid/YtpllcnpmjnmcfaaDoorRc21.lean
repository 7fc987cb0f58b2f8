/-
  ResCovers (14.2): what a pod that may be asks for is no less than what any of its containers asks for, nor than all main ones together; and without a container it is no more. Conditions: what the program's text lays in its tables.
-/
import Derived.Test.YtpllcnpmjnmcfaaDoorRc14
import Derived.Test.YtpllcnpmjnmcfaaDoorRc15
import Derived.Test.YtpllcnpmjnmcfaaDoorRc20
import Derived.Test.YtpllcnpmjnmcfaaDoorRc19
import Derived.Deep.QuietTactic
import Derived.OwnWalk
import Derived.LoopN
import Derived.Deep.DeepCutAuto
set_option linter.unusedVariables false
set_option linter.unusedSimpArgs false
namespace Go.Proofs.YtpllcnpmjnmcfaaDoor
open Go.ChangeShapes Go.WideShapes Go.ChangeAt Go.RowKit Go.Lib
open NumMath
namespace Re
namespace ResCoversWalk
open Sd SpecOwn
theorem own_form {w : World} {base : Nat} {ty : TypeId} {size n : Nat} {v : Value} {xs : List Value} (h : w.ownsRow base ty size v n xs) : ∃ A c, v = .slice A n c := by
  rcases h.2 with ⟨e1, e2⟩ | ⟨g, cap, cur, e1, _⟩
  · exact ⟨none, 0, by rw [e1, e2]⟩
  · exact ⟨_, _, e1⟩
/-- the containers' cells, at w -/
def LyC (w : World) (r oa : Nat) (L : List Held) : Prop := ∀ (k : Nat) (t : Held), L[k]? = some t → t.x.cellsAt t.P t.c w ⟨r, oa + k * 11, none⟩
theorem src_at {w u : World} {r oa : Nat} {L : List Held} (h : LyC w r oa L) (hb : u.heap[r]? = w.heap[r]?) {k : Nat} {t : Held} (hk : L[k]? = some t) : t.x.cellsAt t.P t.c u ⟨r, oa + k * 11, none⟩ := (h k t hk).keep hb
theorem src_take {w u : World} {r oa : Nat} {L : List Held} (h : LyC w r oa L) (hb : u.heap[r]? = w.heap[r]?) (k : Nat) : ∀ (j : Nat) v, (flat (L.take k))[j]? = some v → u.cell? ((⟨r, oa, none⟩ : Addr).add j) = some v :=
  flat_src fun i t hi => by
    have hil := (List.getElem?_eq_some_iff.1 hi).1
    rw [List.length_take] at hil
    rw [List.getElem?_take_of_lt (by omega)] at hi
    rw [add_at]
    exact src_at h hb hi
theorem src_drop {w u : World} {r oa : Nat} {L : List Held} (h : LyC w r oa L) (hb : u.heap[r]? = w.heap[r]?) (k : Nat) {q : Addr} (hq : q = ⟨r, oa + (k + 1) * 11, none⟩ ∨ L.length = k + 1) : ∀ (j : Nat) v, (flat (L.drop (k + 1)))[j]? = some v → u.cell? (q.add j) = some v := by
  rcases hq with rfl | hq
  · refine flat_src fun i t hi => ?_
    rw [List.getElem?_drop] at hi
    rw [add_at, show oa + (k + 1) * 11 + i * 11 = oa + (k + 1 + i) * 11 by omega]
    exact src_at h hb hi
  · intro j v hv
    rw [List.drop_of_length_le (by omega)] at hv
    simp [flat] at hv
theorem run_to (r oa n mc k : Nat) (hk : k ≤ mc) (u : World) : (Instr.slice 38 (.slice (some ⟨r, oa, none⟩) n mc) none (some (.int .i64 (k : Int))) none).run Tryd.prog u = .ok (.slice (some ⟨r, oa, none⟩) k mc) u := by
  rw [run_slice_h (ht := (by kernel_rfl : Tryd.prog.underlying 38 = some (.slice (Tryd.prog.elem 38)))) (kh := .i64) (h := (k : Int)) (h0 := by omega) (h2 := by omega)]
  rw [show (sizeOf (Tryd.prog.elem 38)).run Tryd.prog u = .ok 11 u from by kernel_rfl]
  simp [Result.andThen, sliced, Addr.add]
theorem run_from (r oa n mc k : Nat) (hk : k + 1 ≤ n) (hn : n ≤ mc) : ∃ q : Addr, (q = ⟨r, oa + (k + 1) * 11, none⟩ ∨ n = k + 1) ∧ ∀ u : World, (Instr.slice 38 (.slice (some ⟨r, oa, none⟩) n mc) (some (.int .i64 ((k : Int) + 1))) none none).run Tryd.prog u = .ok (.slice (some q) (n - (k + 1)) (mc - (k + 1))) u := by
  have e : ((k : Int) + 1).toNat = k + 1 := by omega
  by_cases hq : mc = k + 1
  · refine ⟨⟨r, oa, none⟩, .inr (by omega), fun u => ?_⟩
    rw [run_slice_l (ht := (by kernel_rfl : Tryd.prog.underlying 38 = some (.slice (Tryd.prog.elem 38)))) (kl := .i64) (l := (k : Int) + 1) (h0 := by omega) (h1 := by omega)]
    rw [show (sizeOf (Tryd.prog.elem 38)).run Tryd.prog u = .ok 11 u from by kernel_rfl]
    simp [Result.andThen, sliced, e, hq]
  · refine ⟨⟨r, oa + (k + 1) * 11, none⟩, .inl rfl, fun u => ?_⟩
    rw [run_slice_l (ht := (by kernel_rfl : Tryd.prog.underlying 38 = some (.slice (Tryd.prog.elem 38)))) (kl := .i64) (l := (k : Int) + 1) (h0 := by omega) (h1 := by omega)]
    rw [show (sizeOf (Tryd.prog.elem 38)).run Tryd.prog u = .ok 11 u from by kernel_rfl]
    simp [Result.andThen, sliced, e, hq, add_at]
theorem info_ctr : ∃ i, Tryd.prog.info? 50 = some i ∧ i.zero = some (.agg #[.string ⟨#[]⟩, .string ⟨#[]⟩, .int .i64 0, .int .i64 0, .int .i64 0, .int .i64 0, .int .i64 0, .int .i64 0, .slice none 0 0, .int .i64 0, .int .i64 0]) ∧ i.size = 11 ∧ i.bytes = 120 :=
  info_parts (by kernel_rfl)
def F11 (S : Spc) (r oa k ic g g3 : Nat) (x : Ctr) (R : Rx) : Nat → Value → Prop
  | 0, v => v = .pointer (some ⟨g, 2, none⟩)
  | 1, v => v = .slice (some ⟨r, oa, none⟩) S.init.length ic
  | 2, v => v = .int .i64 k
  | 3, v => v = .pointer (some ⟨r, oa + k * 11, none⟩)
  | 4, v => v = .pointer (some ⟨r, oa + k * 11 + 2, none⟩)
  | 5, v => v = .agg (R3 (rq x)).toArray
  | 6, v => v = .agg (R3 R).toArray
  | 7, v => v = .bool true
  | _, v => v = .bool false
def F20 (S : Spc) (r oa k mc g g3 g8 : Nat) (x : Ctr) (R a : Rx) : Nat → Value → Prop
  | 0, v => v = .bool true
  | 1, v => v = .bool false
  | 2, v => v = .bool false
  | 3, v => v = .agg (R3 a).toArray
  | 4, v => v = .agg (R3 R).toArray
  | 5, v => v = .bool true
  | 6, v => v = .bool false
  | 7, v => v = .bool false
  | 8, v => v = .bool false
  | 9, v => v = .pointer (some ⟨g, 3, none⟩)
  | 10, v => v = .slice (some ⟨r, oa, none⟩) S.main.length mc
  | 11, v => v = .int .i64 k
  | 12, v => v = .pointer (some ⟨r, oa + k * 11, none⟩)
  | 13, v => v = .pointer (some ⟨r, oa + k * 11 + 2, none⟩)
  | 14, v => v = .agg (R3 (rq x)).toArray
  | 15, v => v = .agg (R3 R).toArray
  | 16, v => v = .bool true
  | 17, v => v = .bool false
  | _, v => v = .bool false
set_option maxRecDepth 100000 in
set_option maxHeartbeats 4000000 in
theorem walk (S : Spc) (LA : Option Addr) (lc : Nat) (IA : Option Addr) (ic : Nat) (MA : Option Addr) (mc : Nat) (kM : S.main.length ≤ mc ∧ mc ≤ 9223372036854775807) (w : World) (hL : SLaid w) (hS : S.In w LA lc IA ic MA mc) : Calls Tryd.prog 6 #[.agg #[.string S.name, .slice LA S.labels.length lc, .slice IA S.init.length ic, .slice MA S.main.length mc, .int .i64 S.restart, .int .i64 S.grace, .int .i64 S.prio]] w fun e w' => e = .returned (.bool true) ∧ Below w.heap.size w w' := by
  have HL := Lib.hid hL
  have HS := Lib.hid hS
  clear hL hS
  obtain ⟨w0, hw0⟩ : ∃ v, w.alloc (.cells #[.string S.name, .slice LA S.labels.length lc, .slice IA S.init.length ic, .slice MA S.main.length mc, .int .i64 S.restart, .int .i64 S.grace, .int .i64 S.prio] 40) = v := ⟨_, rfl⟩
  have S0 := Lib.hid (show w0.heap[w.heap.size]? = some (.cells ([.string S.name, .slice LA S.labels.length lc, .slice IA S.init.length ic, .slice MA S.main.length mc, .int .i64 S.restart, .int .i64 S.grace, .int .i64 S.prio] : List Value).toArray 40 (0, 0)) by rw [← hw0]; exact heap_alloc_new w _)
  have B0 := Lib.hid (show Below w.heap.size w w0 by rw [← hw0]; go_grown)
  go_enter Tryd.func6, Tryd.ntmps6
  go_wp2_with fail
  clear hw0
  refine (works_any w0 (HL.out.tab.below B0.out)).mono ?_
  rintro e wk ⟨rfl, hbk⟩
  have BW := Lib.hid hbk
  have SQ := Lib.hid ((BW.out.block _ (lt_of_at S0.out)).trans S0.out)
  have RS := Lib.hid (range_box SQ.out)
  clear hbk
  go_wp2_with (first | (refine wpList_load_mid rfl 40 _ rfl _ _ rfl _ _ RS.out Tryd.underlying40 rfl (by kernel_rfl) ?_))
  refine (Book.light_any S LA lc IA ic MA mc wk ((HS.out.below B0.out).below (BW.out.mono (Nat.le_refl _)))).mono ?_
  rintro e wl ⟨rfl, hbl⟩
  have BL := Lib.hid (BW.out.trans (hbl.mono BW.out.size))
  clear hbl BW SQ RS
  have SQ := Lib.hid ((BL.out.block _ (lt_of_at S0.out)).trans S0.out)
  cases hl : Book.LightB S with
  | false =>
    go_wp2_with fail
    go_ret
    exact ⟨rfl, B0.out.trans (BL.out.mono B0.out.size)⟩
  | true =>
    have c0 := cell_of SQ.out 0 (v := .string S.name) rfl
    have c1 := cell_of SQ.out 1 (v := .slice LA S.labels.length lc) rfl
    have c2 := cell_of SQ.out 2 (v := .slice IA S.init.length ic) rfl
    have c3 := cell_of SQ.out 3 (v := .slice MA S.main.length mc) rfl
    have c4 := cell_of SQ.out 4 (v := .int .i64 S.restart) rfl
    have c5 := cell_of SQ.out 5 (v := .int .i64 S.grace) rfl
    have c6 := cell_of SQ.out 6 (v := .int .i64 S.prio) rfl
    go_wp2_with fail
    refine (check_any S LA lc IA ic MA mc (Book.LightB_iff.1 hl) wl ((HL.out.below B0.out).below BL.out) ((HS.out.below B0.out).below BL.out)).mono ?_
    rintro e wc ⟨E, rfl, hsy, hbc⟩
    have BC := Lib.hid (BL.out.trans (hbc.mono BL.out.size))
    have HSY := Lib.hid hsy
    clear hbc BL SQ c0 c1 c2 c3 c4 c5 c6 hsy
    have SC := Lib.hid ((BC.out.block _ (lt_of_at S0.out)).trans S0.out)
    have RS := Lib.hid (range_box SC.out)
    rcases HSY.out.form with rfl | ⟨ut, ux, rfl⟩
    · obtain ⟨hi3, hm4, hIn, hMn⟩ := checked (HSY.out.nil_iff.1 rfl)
      obtain ⟨R, p1, p2, p3⟩ := covers_plain hIn hMn hm4
      have P2 := Lib.hid p2
      have P3 := Lib.hid p3
      have CI := Lib.hid ((HS.out.below B0.out).below BC.out).init
      have CM := Lib.hid ((HS.out.below B0.out).below BC.out).main
      have C0 := Lib.hid (of_any S.init S.main (.string S.name) (.slice LA S.labels.length lc) (.int .i64 S.restart) (.int .i64 S.grace) (.int .i64 S.prio) IA ic MA mc (by omega) (by omega) wc CI.out CM.out)
      rw [p1] at C0
      clear p1 p2 p3 hIn hMn HSY hl
      go_wp2_with (first | (refine wpList_load_mid rfl 40 _ rfl _ _ rfl _ _ RS.out Tryd.underlying40 rfl (by kernel_rfl) ?_))
      refine (C0.out).mono ?_
      rintro e w1 ⟨rfl, hb1⟩
      obtain ⟨u1, hu1⟩ : ∃ v, w1.alloc (.cells #[.int .i64 0, .int .i64 0, .int .i64 0] 23) = v := ⟨_, rfl⟩
      have ZB := Lib.hid (show u1.heap[w1.heap.size]? = some (.cells #[.int .i64 0, .int .i64 0, .int .i64 0] 23 (0, 0)) by rw [← hu1]; exact heap_alloc_new _ _)
      have BU := Lib.hid (show Below w1.heap.size w1 u1 by rw [← hu1]; exact (Below.refl _ _).alloc (Nat.le_refl _) _)
      obtain ⟨v1, hv1⟩ : ∃ v, u1.setCells (w1.heap.size) 0 (R3 R) = v := ⟨_, rfl⟩
      have THz := Lib.hid (show u1.there (w1.heap.size) 0 3 from Back.th ZB.out rfl)
      have ONEz := Lib.hid (show ((R3 R) : List Value).toArray.all (·.oneCell') = true by simp [Value.oneCell'])
      have HVz := Lib.hid hv1
      have NX := Lib.hid (show v1.heap[w1.heap.size]? = some (.cells ((R3 R) : List Value).toArray 23 (0, 0)) by rw [← hv1]; exact Back.st ZB.out rfl)
      have BV := Lib.hid (show Below w1.heap.size w1 v1 by rw [← hv1]; exact bel_set BU.out (Nat.le_refl _))
      have BH := hb1.trans (BV.out.mono hb1.size)
      clear hv1
      have NQ := Lib.hid (BC.out.trans (BH.mono BC.out.size))
      clear BC
      have BC := Lib.hid NQ.out
      clear NQ
      have X3 := Lib.hid NX.out
      have RX3 := Lib.hid (range_box (cs := (R3 R)) X3.out)
      clear BH BV NX ZB BU hb1
      clear C0 RS
      have SV := Lib.hid ((BC.out.block _ (lt_of_at S0.out)).trans S0.out)
      have c2 := cell_of SV.out 2 (v := .slice IA S.init.length ic) rfl
      go_wp2_with (first | (refine wpList_store_at rfl 23 _ _ rfl _ _ _ rfl rfl THz.out (by kernel_rfl) ONEz.out HVz.out ?_))
      clear c2
      go_loopw [34] (fun i wr => ∃ (k : Nat), k ≤ S.init.length ∧ i = .int .i64 k ∧ Hid (Below v1.heap.size v1 wr)) (fun i _ => S.init.length - (RowKit.intOf i).toNat)
      case atStart => exact ⟨0, Nat.zero_le _, rfl, Below.refl _ _⟩
      case round =>
        obtain ⟨k, hk, rfl, BQ⟩ := hrel
        have hk6 : (k : Int) ≤ 1000 := by omega
        have SQ := Lib.hid ((BQ.out.block _ (lt_of_at SV.out)).trans SV.out)
        have Y3 := Lib.hid ((BQ.out.block _ (lt_of_at X3.out)).trans X3.out)
        by_cases hlt : k < S.init.length
        · have hka : (k : Int) < (S.init.length : Int) := by omega
          have hk0 : (0 : Int) ≤ (k : Int) := by omega
          obtain ⟨x, hx⟩ : ∃ x, S.init[k]? = some x := ⟨_, List.getElem?_eq_getElem hlt⟩
          obtain ⟨hxo, r, oa, Pp, cp, rfl, hr, hrg⟩ := ctr_at (((HS.out.init.below B0.out).below BC.out).below BQ.out) hx
          have eat := add_at r oa (k * 11)
          have RGQ := Lib.hid (req_range hrg)
          have RLT := Lib.hid hr
          have HF := Lib.hid (fun u => fits_any (rq x) R u)
          rw [P2.out x (List.mem_of_getElem? hx)] at HF
          clear hx hxo hr hrg
          go_upto_region 11 with (fail)
          refine Slt.wp_region (by kernel_rfl) (F11 S r oa k ic w.heap.size w1.heap.size x R) (fun _ v => Below wr.heap.size wr v) (by kernel_rfl) (Below.drew (Below.refl _ _)) ?_ ?_
          · refine ⟨?_, ?_, ?_, ?_, ?_, ?_, ?_, ?_, ?_, trivial⟩
            · intro s_ a_ u hs hd hfr hpo hJ
              have f1 : a_.tmps.getD 1 undef = .pointer (some ⟨w.heap.size, 0, none⟩) := hfr 1 (by kernel_rfl)
              refine .inl ⟨rfl, ?_⟩
              unfold Oper.wp
              rw [show (execOp a_.eval _).run Tryd.prog u = .ok (.value (.pointer (some ⟨w.heap.size, 2, none⟩))) u from by simp [go_sem, Act.eval, f1]]
              exact ⟨_, rfl, rfl, hJ⟩
            · intro s_ a_ u hs hd hfr hpo hJ
              have e0 : a_.tmps.getD 37 undef = .pointer (some ⟨w.heap.size, 2, none⟩) := hpo 0 37 (by kernel_rfl)
              refine .inl ⟨rfl, ?_⟩
              have cx := cell_of ((hJ.block _ (lt_of_at SQ.out)).trans SQ.out) 2 (v := .slice (some ⟨r, oa, none⟩) S.init.length ic) rfl
              unfold Oper.wp
              rw [show (execOp a_.eval _).run Tryd.prog u = .ok (.value (.slice (some ⟨r, oa, none⟩) S.init.length ic)) u from by simp [go_sem, Act.eval, e0, cx]]
              exact ⟨_, rfl, rfl, hJ⟩
            · intro s_ a_ u hs hd hfr hpo hJ
              have f5 : a_.tmps.getD 5 undef = .int .i64 k := hfr 5 (by kernel_rfl)
              refine .inl ⟨rfl, ?_⟩
              unfold Oper.wp
              rw [show (execOp a_.eval _).run Tryd.prog u = .ok (.value (.int .i64 k)) u from by simp [go_sem, Act.eval, f5]]
              exact ⟨_, rfl, rfl, hJ⟩
            · intro s_ a_ u hs hd hfr hpo hJ
              have e1 : a_.tmps.getD 38 undef = .slice (some ⟨r, oa, none⟩) S.init.length ic := hpo 1 38 (by kernel_rfl)
              have e2 : a_.tmps.getD 39 undef = .int .i64 k := hpo 2 39 (by kernel_rfl)
              refine .inl ⟨rfl, ?_⟩
              unfold Oper.wp
              rw [show (execOp a_.eval _).run Tryd.prog u = .ok (.value (.pointer (some ⟨r, oa + k * 11, none⟩))) u from by simp [go_sem, Act.eval, e1, e2, hk0, hka, eat]]
              exact ⟨_, rfl, rfl, hJ⟩
            · intro s_ a_ u hs hd hfr hpo hJ
              have e3 : a_.tmps.getD 40 undef = .pointer (some ⟨r, oa + k * 11, none⟩) := hpo 3 40 (by kernel_rfl)
              refine .inl ⟨rfl, ?_⟩
              unfold Oper.wp
              rw [show (execOp a_.eval _).run Tryd.prog u = .ok (.value (.pointer (some ⟨r, oa + k * 11 + 2, none⟩))) u from by simp [go_sem, Act.eval, e3]]
              exact ⟨_, rfl, rfl, hJ⟩
            · intro s_ a_ u hs hd hfr hpo hJ
              have e4 : a_.tmps.getD 41 undef = .pointer (some ⟨r, oa + k * 11 + 2, none⟩) := hpo 4 41 (by kernel_rfl)
              refine .inl ⟨rfl, ?_⟩
              exact wp_load_mid 23 (.tmp 41) rfl (r) (oa + k * 11 + 2) e4 (R3 (rq x)) _ (range_mv (hJ.block _ RLT.out) RGQ.out) Tryd.underlying23 rfl (by kernel_rfl) ⟨_, rfl, rfl, hJ⟩
            · intro s_ a_ u hs hd hfr hpo hJ
              have f3 : a_.tmps.getD 3 undef = .pointer (some ⟨w1.heap.size, 0, none⟩) := hfr 3 (by kernel_rfl)
              refine .inl ⟨rfl, ?_⟩
              exact wp_load_mid 23 (.tmp 3) rfl (w1.heap.size) (0) f3 (R3 R) _ (range_box ((hJ.block _ (lt_of_at Y3.out)).trans Y3.out)) Tryd.underlying23 rfl (by kernel_rfl) ⟨_, rfl, rfl, hJ⟩
            · intro s_ a_ u hs hd hfr hpo hJ
              have e5 : a_.tmps.getD 42 undef = .agg (R3 (rq x)).toArray := hpo 5 42 (by kernel_rfl)
              have e6 : a_.tmps.getD 43 undef = .agg (R3 R).toArray := hpo 6 43 (by kernel_rfl)
              refine .inl ⟨rfl, ?_⟩
              unfold Oper.wp
              rw [show (execOp a_.eval _).run Tryd.prog u = .ok (.enter 13 #[.agg (R3 (rq x)).toArray, .agg (R3 R).toArray]) u from by simp [go_sem, Act.eval, e5, e6]]
              refine Calls.mono ((HF.out u)) ?_
              rintro e u2 ⟨rfl, hb⟩
              exact ⟨_, rfl, rfl, hJ.trans (hb.mono hJ.size)⟩
            · intro s_ a_ u hs hd hfr hpo hJ
              have e7 : a_.tmps.getD 44 undef = .bool true := hpo 7 44 (by kernel_rfl)
              refine .inl ⟨rfl, ?_⟩
              unfold Oper.wp
              rw [show (execOp a_.eval _).run Tryd.prog u = .ok (.value (.bool false)) u from by simp [go_sem, Act.eval, e7]]
              exact ⟨_, rfl, rfl, hJ⟩
          · intro s_ V u hall hF hJ
            have ee : V 8 = .bool false := hF 8 _ _ rfl rfl
            have BN := Lib.hid (BQ.out.trans (hJ.mono BQ.out.size))
            clear hall hF hJ
            simp only [Bxs.puts, Nat.reduceAdd, put_none, put_lit, List.set_cons_succ, List.set_cons_zero]
            rw [ee]
            go_wp2_with fail
            go_roundw
            case rel => exact ⟨k + 1, by omega, by go_num, BN.out⟩
            case measure => simp [RowKit.intOf]; omega
        · have hka : ¬ (k : Int) < (S.init.length : Int) := by omega
          have c3 := cell_of SQ.out 3 (v := .slice MA S.main.length mc) rfl
          go_wp2_with fail
          clear c3
          go_loopw [50] (fun i wn => ∃ (k : Nat), k ≤ S.main.length ∧ i = .int .i64 k ∧ Hid (Below v1.heap.size v1 wn)) (fun i _ => S.main.length - (RowKit.intOf i).toNat)
          case atStart => exact ⟨0, Nat.zero_le _, rfl, BQ.out⟩
          case round =>
            clear BQ SQ Y3 hk6 hk hka hlt
            obtain ⟨k, hk, rfl, BQ⟩ := hrel
            have hk6 : (k : Int) ≤ 1000 := by omega
            have SQ := Lib.hid ((BQ.out.block _ (lt_of_at SV.out)).trans SV.out)
            have Y3 := Lib.hid ((BQ.out.block _ (lt_of_at X3.out)).trans X3.out)
            by_cases hlt : k < S.main.length
            · have hka : (k : Int) < (S.main.length : Int) := by omega
              have hk0 : (0 : Int) ≤ (k : Int) := by omega
              obtain ⟨x, hx⟩ : ∃ x, S.main[k]? = some x := ⟨_, List.getElem?_eq_getElem hlt⟩
              obtain ⟨a, b, t, hcov⟩ := P3.out k x hx
              obtain ⟨L, hLm, hLc⟩ := held_of HS.out.main
              obtain ⟨hxo, r, oa, Pp, cp, rfl, hr, hrg⟩ := ctr_at HS.out.main hx
              have eat := add_at r oa (k * 11)
              have BA := Lib.hid (B0.out.trans ((BC.out.trans (BQ.out.mono BC.out.size)).mono B0.out.size))
              have RW := Lib.hid (show r < w.heap.size from hr)
              have RWR := Lib.hid (show r < wr.heap.size by have := BA.out.size; omega)
              have RG0 := Lib.hid (req_range hrg)
              have HCOV := Lib.hid hcov
              have HXO := Lib.hid hxo
              have HKN := Lib.hid hlt
              have HLM := Lib.hid hLm
              have HLN := Lib.hid (show L.length = S.main.length by rw [← hLm, List.length_map])
              have HLW := Lib.hid (show LyC w r oa L from fun i y hy => by
                obtain ⟨_, a', e, _, hc, _⟩ := hLc i y hy
                injection e with e
                subst e
                rw [add_at] at hc
                exact hc)
              have HLP := Lib.hid (show ∀ y ∈ L, y.x.Fits ∧ Lists.Nums .i64 w y.P y.x.ports ∧ y.x.ports.length ≤ y.c from fun y hy => by
                obtain ⟨i, hi, e⟩ := List.mem_iff_getElem.1 hy
                obtain ⟨hf, a', _, _, hc, hn⟩ := hLc i y (by rw [List.getElem?_eq_getElem hi, e])
                exact ⟨hf, hn, hc.2.2.2.2.2.2.2.2.2.2.2⟩)
              have HMM := Lib.hid (show (L.take k ++ L.drop (k + 1)).map Held.x = S.main.take k ++ S.main.drop (k + 1) by rw [List.map_append, List.map_take, List.map_drop, hLm])
              have RS := Lib.hid (range_box SQ.out)
              clear hx hcov hLm hLc hxo hr hrg
              obtain ⟨va, hva⟩ : ∃ v, wr.alloc (.cells #[.string ⟨#[]⟩, .slice none 0 0, .slice none 0 0, .slice none 0 0, .int .i64 0, .int .i64 0, .int .i64 0] 40) = v := ⟨_, rfl⟩
              have XA := Lib.hid (show va.heap[wr.heap.size]? = some (.cells #[.string ⟨#[]⟩, .slice none 0 0, .slice none 0 0, .slice none 0 0, .int .i64 0, .int .i64 0, .int .i64 0] 40 (0, 0)) by rw [← hva]; exact heap_alloc_new _ _)
              have BB := Lib.hid (show Below wr.heap.size wr va by rw [← hva]; exact (Below.refl _ _).alloc (Nat.le_refl _) _)
              obtain ⟨vb, hvb⟩ : ∃ v, va.setCells wr.heap.size 0 [.string S.name, .slice LA S.labels.length lc, .slice IA S.init.length ic, .slice (some ⟨r, oa, none⟩) S.main.length mc, .int .i64 S.restart, .int .i64 S.grace, .int .i64 S.prio] = v := ⟨_, rfl⟩
              have THl := Lib.hid (show va.there wr.heap.size 0 7 from Back.th XA.out rfl)
              have ONEl := Lib.hid (show ([.string S.name, .slice LA S.labels.length lc, .slice IA S.init.length ic, .slice (some ⟨r, oa, none⟩) S.main.length mc, .int .i64 S.restart, .int .i64 S.grace, .int .i64 S.prio] : List Value).toArray.all (·.oneCell') = true by simp [Value.oneCell'])
              have HVl := Lib.hid hvb
              have XL := Lib.hid (show vb.heap[wr.heap.size]? = some (.cells ([.string S.name, .slice LA S.labels.length lc, .slice IA S.init.length ic, .slice (some ⟨r, oa, none⟩) S.main.length mc, .int .i64 S.restart, .int .i64 S.grace, .int .i64 S.prio] : List Value).toArray 40 (0, 0)) by rw [← hvb]; exact Back.st XA.out rfl)
              have BV0 := Lib.hid (show Below wr.heap.size wr vb by rw [← hvb]; exact bel_set BB.out (Nat.le_refl _))
              clear hvb XA BB
              go_upto_region 18 with (first | (refine wpList_load_mid rfl 40 _ rfl _ _ rfl _ _ RS.out Tryd.underlying40 rfl (by kernel_rfl) ?_) | (refine wpList_store_at rfl 40 _ _ rfl _ _ _ rfl rfl THl.out (by kernel_rfl) ONEl.out HVl.out ?_))
              clear hva
              have N1 := Lib.hid ((BV0.out.block _ (lt_of_at SQ.out)).trans SQ.out)
              have NE := Lib.hid (show w.heap.size < wr.heap.size from lt_of_at SQ.out)
              clear SQ
              have SQ := Lib.hid N1.out
              have SQL := Lib.hid (lt_of_at SQ.out)
              have LSL := Lib.hid (lt_of_at XL.out)
              have RNE := Lib.hid RWR.out
              have RLT := Lib.hid (show r < vb.heap.size by have := BV0.out.size; have := RWR.out; omega)
              have HLC := Lib.hid (show LyC vb r oa L from fun i y hy => src_at HLW.out ((BV0.out.block _ RWR.out).trans (BA.out.block _ RW.out)) hy)
              obtain ⟨iC, hiC, hzC0, hzC1, hzC2⟩ := info_ctr
              obtain ⟨q, hq, HFrom⟩ := run_from r oa S.main.length mc k (by omega) kM.1
              have HQ := Lib.hid hq
              have HTo := run_to r oa S.main.length mc k (by omega)
              have wi : wrap64 ((k : Int) + 1) = (k : Int) + 1 := IntWalk.wrap64_in _ (by omega)
              have wi2 : IntKind.i64.wrap ((k : Int) + 1) = (k : Int) + 1 := IntWalk.i64_in _ (by omega)
              clear N1 hq
              refine Vls.wp_region (by kernel_rfl) (JC vb wr.heap.size [.string S.name, .slice LA S.labels.length lc, .slice IA S.init.length ic, .slice (some ⟨r, oa, none⟩) S.main.length mc, .int .i64 S.restart, .int .i64 S.grace, .int .i64 S.prio] [undef, .pointer (some ⟨w.heap.size, 3, none⟩), .slice (some ⟨r, oa, none⟩) S.main.length mc, .int .i64 k, .slice (some ⟨r, oa, none⟩) k mc, undef, .pointer (some ⟨w.heap.size, 3, none⟩), .slice (some ⟨r, oa, none⟩) S.main.length mc, .int .i64 k, .int .i64 ((k : Int) + 1), .slice (some q) (S.main.length - (k + 1)) (mc - (k + 1)), undef, .pointer (some ⟨wr.heap.size, 3, none⟩), undef] k (S.main.length - 1) (flat (L.take k)) (flat (L.drop (k + 1)))) (by kernel_rfl) (fun _ => undef) (JC.start XL.out _) ?_ ?_
              · refine ⟨?_, ?_, ?_, ?_, ?_, ?_, ?_, ?_, ?_, ?_, ?_, ?_, ?_, ?_, trivial⟩
                · intro s_ a_ u V hs hd hfr hpo hJ
                  refine .inl ⟨rfl, ?_⟩
                  unfold Oper.wp
                  rw [show (execOp a_.eval _).run Tryd.prog u = .ok (.value (.slice (some ⟨u.heap.size, 0, none⟩) 0 0)) (u.alloc (.cells #[] 50 (0, 0))) from by simp [go_sem, Act.eval]]
                  exact ⟨_, rfl, hJ.mk0 hs LSL.out⟩
                · intro s_ a_ u V hs hd hfr hpo hJ
                  have f1 : a_.tmps.getD 1 undef = .pointer (some ⟨w.heap.size, 0, none⟩) := hfr 1 (by kernel_rfl)
                  refine .inl ⟨rfl, ?_⟩
                  unfold Oper.wp
                  rw [show (execOp a_.eval _).run Tryd.prog u = .ok (.value (.pointer (some ⟨w.heap.size, 3, none⟩))) u from by simp [go_sem, Act.eval, f1]]
                  exact ⟨_, rfl, hJ.step 1 (by decide) (by decide) (by decide) (by decide) rfl⟩
                · intro s_ a_ u V hs hd hfr hpo hJ
                  have e1 : a_.tmps.getD 55 undef = .pointer (some ⟨w.heap.size, 3, none⟩) := (hpo 1 55 (by kernel_rfl)).trans (hJ.get 1 (by decide) (by decide) (by decide) (by decide) (hd 1 (by kernel_rfl)) rfl)
                  refine .inl ⟨rfl, ?_⟩
                  have cx := cell_of ((hJ.but.block _ SQL.out (Nat.ne_of_lt NE.out)).trans SQ.out) 3 (v := .slice (some ⟨r, oa, none⟩) S.main.length mc) rfl
                  unfold Oper.wp
                  rw [show (execOp a_.eval _).run Tryd.prog u = .ok (.value (.slice (some ⟨r, oa, none⟩) S.main.length mc)) u from by simp [go_sem, Act.eval, e1, cx]]
                  exact ⟨_, rfl, hJ.step 2 (by decide) (by decide) (by decide) (by decide) rfl⟩
                · intro s_ a_ u V hs hd hfr hpo hJ
                  have f6 : a_.tmps.getD 6 undef = .int .i64 k := hfr 6 (by kernel_rfl)
                  refine .inl ⟨rfl, ?_⟩
                  unfold Oper.wp
                  rw [show (execOp a_.eval _).run Tryd.prog u = .ok (.value (.int .i64 k)) u from by simp [go_sem, Act.eval, f6]]
                  exact ⟨_, rfl, hJ.step 3 (by decide) (by decide) (by decide) (by decide) rfl⟩
                · intro s_ a_ u V hs hd hfr hpo hJ
                  have e2 : a_.tmps.getD 56 undef = .slice (some ⟨r, oa, none⟩) S.main.length mc := (hpo 2 56 (by kernel_rfl)).trans (hJ.get 2 (by decide) (by decide) (by decide) (by decide) (hd 2 (by kernel_rfl)) rfl)
                  have e3 : a_.tmps.getD 57 undef = .int .i64 k := (hpo 3 57 (by kernel_rfl)).trans (hJ.get 3 (by decide) (by decide) (by decide) (by decide) (hd 3 (by kernel_rfl)) rfl)
                  refine .inl ⟨rfl, ?_⟩
                  unfold Oper.wp
                  rw [show (execOp a_.eval _).run Tryd.prog u = .ok (.value (.slice (some ⟨r, oa, none⟩) k mc)) u from by simp [go_sem, Act.eval, e2, e3, HTo]]
                  exact ⟨_, rfl, hJ.step 4 (by decide) (by decide) (by decide) (by decide) rfl⟩
                · intro s_ a_ u V hs hd hfr hpo hJ
                  have h0 : s_ 0 = true := hd 0 (by kernel_rfl)
                  obtain ⟨A0, c0, hV0, ho0⟩ := hJ.r0 h0 hs
                  have e0 : a_.tmps.getD 54 undef = .slice A0 0 c0 := (hpo 0 54 (by kernel_rfl)).trans hV0
                  have e4 : a_.tmps.getD 58 undef = .slice (some ⟨r, oa, none⟩) k mc := (hpo 4 58 (by kernel_rfl)).trans (hJ.get 4 (by decide) (by decide) (by decide) (by decide) (hd 4 (by kernel_rfl)) rfl)
                  refine .inl ⟨rfl, ?_⟩
                  refine wp_append_own u (.tmp 54) (.tmp 58) 38 rfl vb.heap.size 50 iC (.agg #[.string ⟨#[]⟩, .string ⟨#[]⟩, .int .i64 0, .int .i64 0, .int .i64 0, .int .i64 0, .int .i64 0, .int .i64 0, .slice none 0 0, .int .i64 0, .int .i64 0]) 11 120 Tryd.underlying38 hiC hzC0 hzC1 hzC2 rfl (by decide) (.slice A0 0 c0) 0 [] e0 ho0 ⟨r, oa, none⟩ k mc (flat (L.take k)) e4 (by rw [flat_length, List.length_take, HLN.out, Nat.min_eq_left (Nat.le_of_lt HKN.out)]) (src_take HLC.out (hJ.but.block _ RLT.out (Nat.ne_of_lt RNE.out)) k) (flat_cells _) (by unfold maxLen; omega) (by omega) hJ.but.size (fun v' w' h1 h2 h3 => ?_)
                  obtain ⟨A', c', rfl⟩ := own_form h1
                  exact ⟨_, rfl, by
                    have q := hJ.ap5 hs h0 LSL.out (A := A') (c := c') (w' := w') (by simpa using h1) h2 (fun z hz => (ho0.lt z hz).1)
                    simpa using q⟩
                · intro s_ a_ u V hs hd hfr hpo hJ
                  have f1 : a_.tmps.getD 1 undef = .pointer (some ⟨w.heap.size, 0, none⟩) := hfr 1 (by kernel_rfl)
                  refine .inl ⟨rfl, ?_⟩
                  unfold Oper.wp
                  rw [show (execOp a_.eval _).run Tryd.prog u = .ok (.value (.pointer (some ⟨w.heap.size, 3, none⟩))) u from by simp [go_sem, Act.eval, f1]]
                  exact ⟨_, rfl, hJ.step 6 (by decide) (by decide) (by decide) (by decide) rfl⟩
                · intro s_ a_ u V hs hd hfr hpo hJ
                  have e6 : a_.tmps.getD 60 undef = .pointer (some ⟨w.heap.size, 3, none⟩) := (hpo 6 60 (by kernel_rfl)).trans (hJ.get 6 (by decide) (by decide) (by decide) (by decide) (hd 6 (by kernel_rfl)) rfl)
                  refine .inl ⟨rfl, ?_⟩
                  have cx := cell_of ((hJ.but.block _ SQL.out (Nat.ne_of_lt NE.out)).trans SQ.out) 3 (v := .slice (some ⟨r, oa, none⟩) S.main.length mc) rfl
                  unfold Oper.wp
                  rw [show (execOp a_.eval _).run Tryd.prog u = .ok (.value (.slice (some ⟨r, oa, none⟩) S.main.length mc)) u from by simp [go_sem, Act.eval, e6, cx]]
                  exact ⟨_, rfl, hJ.step 7 (by decide) (by decide) (by decide) (by decide) rfl⟩
                · intro s_ a_ u V hs hd hfr hpo hJ
                  have f6 : a_.tmps.getD 6 undef = .int .i64 k := hfr 6 (by kernel_rfl)
                  refine .inl ⟨rfl, ?_⟩
                  unfold Oper.wp
                  rw [show (execOp a_.eval _).run Tryd.prog u = .ok (.value (.int .i64 k)) u from by simp [go_sem, Act.eval, f6]]
                  exact ⟨_, rfl, hJ.step 8 (by decide) (by decide) (by decide) (by decide) rfl⟩
                · intro s_ a_ u V hs hd hfr hpo hJ
                  have e8 : a_.tmps.getD 62 undef = .int .i64 k := (hpo 8 62 (by kernel_rfl)).trans (hJ.get 8 (by decide) (by decide) (by decide) (by decide) (hd 8 (by kernel_rfl)) rfl)
                  refine .inl ⟨rfl, ?_⟩
                  unfold Oper.wp
                  rw [show (execOp a_.eval _).run Tryd.prog u = .ok (.value (.int .i64 ((k : Int) + 1))) u from by simp [go_sem, Act.eval, e8, wi, wi2]]
                  exact ⟨_, rfl, hJ.step 9 (by decide) (by decide) (by decide) (by decide) rfl⟩
                · intro s_ a_ u V hs hd hfr hpo hJ
                  have e7 : a_.tmps.getD 61 undef = .slice (some ⟨r, oa, none⟩) S.main.length mc := (hpo 7 61 (by kernel_rfl)).trans (hJ.get 7 (by decide) (by decide) (by decide) (by decide) (hd 7 (by kernel_rfl)) rfl)
                  have e9 : a_.tmps.getD 63 undef = .int .i64 ((k : Int) + 1) := (hpo 9 63 (by kernel_rfl)).trans (hJ.get 9 (by decide) (by decide) (by decide) (by decide) (hd 9 (by kernel_rfl)) rfl)
                  refine .inl ⟨rfl, ?_⟩
                  unfold Oper.wp
                  rw [show (execOp a_.eval _).run Tryd.prog u = .ok (.value (.slice (some q) (S.main.length - (k + 1)) (mc - (k + 1)))) u from by simp [go_sem, Act.eval, e7, e9, HFrom]]
                  exact ⟨_, rfl, hJ.step 10 (by decide) (by decide) (by decide) (by decide) rfl⟩
                · intro s_ a_ u V hs hd hfr hpo hJ
                  have h5 : s_ 5 = true := hd 5 (by kernel_rfl)
                  obtain ⟨A0, c0, hV0, ho0⟩ := hJ.r5 h5 hs
                  have e0 : a_.tmps.getD 59 undef = .slice A0 k c0 := (hpo 5 59 (by kernel_rfl)).trans hV0
                  have e4 : a_.tmps.getD 64 undef = .slice (some q) (S.main.length - (k + 1)) (mc - (k + 1)) := (hpo 10 64 (by kernel_rfl)).trans (hJ.get 10 (by decide) (by decide) (by decide) (by decide) (hd 10 (by kernel_rfl)) rfl)
                  refine .inl ⟨rfl, ?_⟩
                  refine wp_append_own u (.tmp 59) (.tmp 64) 38 rfl vb.heap.size 50 iC (.agg #[.string ⟨#[]⟩, .string ⟨#[]⟩, .int .i64 0, .int .i64 0, .int .i64 0, .int .i64 0, .int .i64 0, .int .i64 0, .slice none 0 0, .int .i64 0, .int .i64 0]) 11 120 Tryd.underlying38 hiC hzC0 hzC1 hzC2 rfl (by decide) (.slice A0 k c0) k (flat (L.take k)) e0 ho0 q (S.main.length - (k + 1)) (mc - (k + 1)) (flat (L.drop (k + 1))) e4 (by rw [flat_length, List.length_drop, HLN.out]) (src_drop HLC.out (hJ.but.block _ RLT.out (Nat.ne_of_lt RNE.out)) k (by rw [HLN.out]; exact HQ.out)) (flat_cells _) (by unfold maxLen; omega) (by omega) hJ.but.size (fun v' w' h1 h2 h3 => ?_)
                  obtain ⟨A', c', rfl⟩ := own_form h1
                  rw [show k + (S.main.length - (k + 1)) = S.main.length - 1 by omega] at h1 ⊢
                  exact ⟨_, rfl, hJ.ap11 hs h5 LSL.out h1 h2 (fun z hz => (ho0.lt z hz).1)⟩
                · intro s_ a_ u V hs hd hfr hpo hJ
                  have f7 : a_.tmps.getD 7 undef = .pointer (some ⟨wr.heap.size, 0, none⟩) := hfr 7 (by kernel_rfl)
                  refine .inl ⟨rfl, ?_⟩
                  unfold Oper.wp
                  rw [show (execOp a_.eval _).run Tryd.prog u = .ok (.value (.pointer (some ⟨wr.heap.size, 3, none⟩))) u from by simp [go_sem, Act.eval, f7]]
                  exact ⟨_, rfl, hJ.step 12 (by decide) (by decide) (by decide) (by decide) rfl⟩
                · intro s_ a_ u V hs hd hfr hpo hJ
                  have h11 : s_ 11 = true := hd 11 (by kernel_rfl)
                  obtain ⟨A1, c1, hV, ho, _⟩ := hJ.r11 h11
                  have e11 : a_.tmps.getD 65 undef = .slice A1 (S.main.length - 1) c1 := (hpo 11 65 (by kernel_rfl)).trans hV
                  have e12 : a_.tmps.getD 66 undef = .pointer (some ⟨wr.heap.size, 3, none⟩) := (hpo 12 66 (by kernel_rfl)).trans (hJ.get 12 (by decide) (by decide) (by decide) (by decide) (hd 12 (by kernel_rfl)) rfl)
                  have cg := cell_of (hJ.bx hs) 3 (v := .slice (some ⟨r, oa, none⟩) S.main.length mc) rfl
                  have fg := free_of (hJ.bx hs) 3
                  refine .inl ⟨rfl, ?_⟩
                  unfold Oper.wp
                  rw [show (execOp a_.eval _).run Tryd.prog u = .ok .skip (u.setCell ⟨wr.heap.size, 3, none⟩ (.slice A1 (S.main.length - 1) c1)) from by simp [go_sem, Act.eval, e11, e12, cg, fg]]
                  exact ⟨undef, rfl, hJ.st13 hs h11 LSL.out hV (by simp) undef⟩
              · intro s_ V u hall hJ
                obtain ⟨A1, c1, hV, ho, hbx⟩ := hJ.r11 (hall 11 (by decide))
                have XS := Lib.hid (show u.heap[wr.heap.size]? = some (.cells ([.string S.name, .slice LA S.labels.length lc, .slice IA S.init.length ic, .slice A1 (S.main.length - 1) c1, .int .i64 S.restart, .int .i64 S.grace, .int .i64 S.prio] : List Value).toArray 40 (0, 0)) from hbx (hall 13 (by decide)))
                have RXS := Lib.hid (range_box XS.out)
                have BU := Lib.hid (show Below wr.heap.size wr u from hJ.but.below BV0.out BV0.out.size (Nat.le_refl _))
                have NBQ := Lib.hid (BQ.out.trans (BU.out.mono BQ.out.size))
                have NSQ := Lib.hid ((hJ.but.block _ SQL.out (Nat.ne_of_lt NE.out)).trans SQ.out)
                have NY3 := Lib.hid ((BU.out.block _ (lt_of_at Y3.out)).trans Y3.out)
                have BAU := Lib.hid (BA.out.trans (BU.out.mono BA.out.size))
                have LEN := Lib.hid (show (S.main.take k ++ S.main.drop (k + 1)).length = S.main.length - 1 by rw [List.length_append, List.length_take, List.length_drop]; omega)
                have CL := Lib.hid (show Ctrs u A1 (S.main.take k ++ S.main.drop (k + 1)) from HMM.out ▸ ctrs_own (L := L.take k ++ L.drop (k + 1)) (by rw [flat_cat]; exact ho) (by rw [← LEN.out, ← HMM.out, List.length_map]) (fun y hy => by
                  have hyL : y ∈ L := by
                    rcases List.mem_append.1 hy with h | h
                    · exact List.mem_of_mem_take h
                    · exact List.mem_of_mem_drop h
                  obtain ⟨h1, h2, h3⟩ := HLP.out y hyL
                  exact ⟨h1, Sd.Nums.below h2 BAU.out, h3⟩))
                have RGQ := Lib.hid (range_mv (BAU.out.block _ RW.out) RG0.out)
                have RLU := Lib.hid (show r < u.heap.size by have := BAU.out.size; have := RW.out; omega)
                clear hall hJ hV ho hbx BQ SQ Y3 RLT BV0 THl ONEl HVl XL HFrom HTo wi wi2 SQL LSL RS hiC hzC0 hzC1 hzC2
                have BQ := Lib.hid NBQ.out
                have SQ := Lib.hid NSQ.out
                have Y3 := Lib.hid NY3.out
                have RLT := Lib.hid RLU.out
                have C1 := Lib.hid (fun z (hz : Ctrs z IA S.init) (hz2 : Ctrs z A1 (S.main.take k ++ S.main.drop (k + 1))) => of_any S.init (S.main.take k ++ S.main.drop (k + 1)) (.string S.name) (.slice LA S.labels.length lc) (.int .i64 S.restart) (.int .i64 S.grace) (.int .i64 S.prio) IA ic A1 c1 (by omega) (by rw [LEN.out]; omega) z hz hz2)
                have C2 := Lib.hid (fun z (hz2 : Ctrs z A1 (S.main.take k ++ S.main.drop (k + 1))) => of_any [] (S.main.take k ++ S.main.drop (k + 1)) (.string ⟨#[]⟩) (.slice none 0 0) (.int .i64 0) (.int .i64 0) (.int .i64 0) none 0 A1 c1 (by simp) (by rw [LEN.out]; omega) z (fun i y hy => by simp at hy) hz2)
                have HFa := Lib.hid (fun z => fits_any a R z)
                have HFx := Lib.hid (fun z => fits_any (rq x) R z)
                have HFt := Lib.hid (fun z => fits_any t R z)
                have HAd := Lib.hid (fun z => add_any b (rq x) HCOV.out.ob HXO.out z)
                simp only [HCOV.out.less, LEN.out] at C1
                simp only [List.map_nil, HCOV.out.alone, LEN.out, List.length_nil] at C2
                rw [HCOV.out.fa] at HFa
                rw [HCOV.out.fx] at HFx
                rw [HCOV.out.ft] at HFt
                rw [HCOV.out.both] at HAd
                clear NBQ NSQ NY3 RLU BU
                simp only [Bxs.puts, Nat.reduceAdd, put_none, put_lit, List.set_cons_succ, List.set_cons_zero]
                go_wp2_with (first | (refine wpList_load_mid rfl 40 _ rfl _ _ rfl _ _ RXS.out Tryd.underlying40 rfl (by kernel_rfl) ?_))
                refine (C1.out _ (((HS.out.init.below B0.out).below BC.out).below BQ.out) CL.out).mono ?_
                rintro e w2 ⟨rfl, hb2⟩
                obtain ⟨u2, hu2⟩ : ∃ v, w2.alloc (.cells #[.int .i64 0, .int .i64 0, .int .i64 0] 23) = v := ⟨_, rfl⟩
                have ZB := Lib.hid (show u2.heap[w2.heap.size]? = some (.cells #[.int .i64 0, .int .i64 0, .int .i64 0] 23 (0, 0)) by rw [← hu2]; exact heap_alloc_new _ _)
                have BU := Lib.hid (show Below w2.heap.size w2 u2 by rw [← hu2]; exact (Below.refl _ _).alloc (Nat.le_refl _) _)
                obtain ⟨v2, hv2⟩ : ∃ v, u2.setCells (w2.heap.size) 0 (R3 a) = v := ⟨_, rfl⟩
                have THz := Lib.hid (show u2.there (w2.heap.size) 0 3 from Back.th ZB.out rfl)
                have ONEz := Lib.hid (show ((R3 a) : List Value).toArray.all (·.oneCell') = true by simp [Value.oneCell'])
                have HVz := Lib.hid hv2
                have NX := Lib.hid (show v2.heap[w2.heap.size]? = some (.cells ((R3 a) : List Value).toArray 23 (0, 0)) by rw [← hv2]; exact Back.st ZB.out rfl)
                have BV := Lib.hid (show Below w2.heap.size w2 v2 by rw [← hv2]; exact bel_set BU.out (Nat.le_refl _))
                have BH := hb2.trans (BV.out.mono hb2.size)
                clear hv2
                have NQ := Lib.hid (BQ.out.trans (BH.mono BQ.out.size))
                clear BQ
                have BQ := Lib.hid NQ.out
                clear NQ
                have NSQ := Lib.hid ((BH.block _ (lt_of_at SQ.out)).trans SQ.out)
                clear SQ
                have SQ := Lib.hid NSQ.out
                clear NSQ
                have NY3 := Lib.hid ((BH.block _ (lt_of_at Y3.out)).trans Y3.out)
                clear Y3
                have Y3 := Lib.hid NY3.out
                clear NY3
                have NXS := Lib.hid ((BH.block _ (lt_of_at XS.out)).trans XS.out)
                clear XS
                have XS := Lib.hid NXS.out
                clear NXS
                have NCL := Lib.hid (CL.out.below BH)
                clear CL
                have CL := Lib.hid NCL.out
                clear NCL
                have NRGQ := Lib.hid (range_mv (BH.block _ RLT.out) RGQ.out)
                clear RGQ
                have RGQ := Lib.hid NRGQ.out
                clear NRGQ
                have NRLT := Lib.hid (Nat.lt_of_lt_of_le RLT.out BH.size)
                clear RLT
                have RLT := Lib.hid NRLT.out
                clear NRLT
                have X8 := Lib.hid NX.out
                have RX8 := Lib.hid (range_box (cs := (R3 a)) X8.out)
                clear BH BV NX ZB BU hb2
                clear C1 RXS
                go_upto_region 20 with (first | (refine wpList_store_at rfl 23 _ _ rfl _ _ _ rfl rfl THz.out (by kernel_rfl) ONEz.out HVz.out ?_))
                refine Slt.wp_region (by kernel_rfl) (F20 S r oa k mc w.heap.size w1.heap.size w2.heap.size x R a) (fun _ v => Below v2.heap.size v2 v) (by kernel_rfl) (Below.drew (Below.refl _ _)) ?_ ?_
                · refine ⟨?_, ?_, ?_, ?_, ?_, ?_, ?_, ?_, ?_, ?_, ?_, ?_, ?_, ?_, ?_, ?_, ?_, ?_, ?_, trivial⟩
                  · intro s_ a_ u hs hd hfr hpo hJ
                    have f9 : a_.tmps.getD 9 undef = .bool true := hfr 9 (by kernel_rfl)
                    refine .inl ⟨rfl, ?_⟩
                    unfold Oper.wp
                    rw [show (execOp a_.eval _).run Tryd.prog u = .ok (.value (.bool true)) u from by simp [go_sem, Act.eval, f9]]
                    exact ⟨_, rfl, rfl, hJ⟩
                  · intro s_ a_ u hs hd hfr hpo hJ
                    have e0 : a_.tmps.getD 72 undef = .bool true := hpo 0 72 (by kernel_rfl)
                    refine .inl ⟨rfl, ?_⟩
                    unfold Oper.wp
                    rw [show (execOp a_.eval _).run Tryd.prog u = .ok (.value (.bool false)) u from by simp [go_sem, Act.eval, e0]]
                    exact ⟨_, rfl, rfl, hJ⟩
                  · intro s_ a_ u hs hd hfr hpo hJ
                    have e1 : a_.tmps.getD 73 undef = .bool false := hpo 1 73 (by kernel_rfl)
                    refine .inl ⟨rfl, ?_⟩
                    unfold Oper.wp
                    rw [show (execOp a_.eval _).run Tryd.prog u = .ok (.value (.bool false)) u from by simp [go_sem, Act.eval, e1]]
                    exact ⟨_, rfl, rfl, hJ⟩
                  · intro s_ a_ u hs hd hfr hpo hJ
                    have f8 : a_.tmps.getD 8 undef = .pointer (some ⟨w2.heap.size, 0, none⟩) := hfr 8 (by kernel_rfl)
                    have gd : a_.tmps.getD 74 undef = .bool false := hpo 2 74 (by kernel_rfl)
                    refine .inl ⟨Loose.wanted_of rfl rfl gd, ?_⟩
                    exact wp_load_mid 23 (.tmp 8) rfl (w2.heap.size) (0) f8 (R3 a) _ (range_box ((hJ.block _ (lt_of_at X8.out)).trans X8.out)) Tryd.underlying23 rfl (by kernel_rfl) ⟨_, rfl, rfl, hJ⟩
                  · intro s_ a_ u hs hd hfr hpo hJ
                    have f3 : a_.tmps.getD 3 undef = .pointer (some ⟨w1.heap.size, 0, none⟩) := hfr 3 (by kernel_rfl)
                    have gd : a_.tmps.getD 74 undef = .bool false := hpo 2 74 (by kernel_rfl)
                    refine .inl ⟨Loose.wanted_of rfl rfl gd, ?_⟩
                    exact wp_load_mid 23 (.tmp 3) rfl (w1.heap.size) (0) f3 (R3 R) _ (range_box ((hJ.block _ (lt_of_at Y3.out)).trans Y3.out)) Tryd.underlying23 rfl (by kernel_rfl) ⟨_, rfl, rfl, hJ⟩
                  · intro s_ a_ u hs hd hfr hpo hJ
                    have e3 : a_.tmps.getD 75 undef = .agg (R3 a).toArray := hpo 3 75 (by kernel_rfl)
                    have e4 : a_.tmps.getD 76 undef = .agg (R3 R).toArray := hpo 4 76 (by kernel_rfl)
                    have gd : a_.tmps.getD 74 undef = .bool false := hpo 2 74 (by kernel_rfl)
                    refine .inl ⟨Loose.wanted_of rfl rfl gd, ?_⟩
                    unfold Oper.wp
                    rw [show (execOp a_.eval _).run Tryd.prog u = .ok (.enter 13 #[.agg (R3 a).toArray, .agg (R3 R).toArray]) u from by simp [go_sem, Act.eval, e3, e4]]
                    refine Calls.mono ((HFa.out u)) ?_
                    rintro e u2 ⟨rfl, hb⟩
                    exact ⟨_, rfl, rfl, hJ.trans (hb.mono hJ.size)⟩
                  · intro s_ a_ u hs hd hfr hpo hJ
                    have e5 : a_.tmps.getD 77 undef = .bool true := hpo 5 77 (by kernel_rfl)
                    have gd : a_.tmps.getD 74 undef = .bool false := hpo 2 74 (by kernel_rfl)
                    refine .inl ⟨Loose.wanted_of rfl rfl gd, ?_⟩
                    unfold Oper.wp
                    rw [show (execOp a_.eval _).run Tryd.prog u = .ok (.value (.bool false)) u from by simp [go_sem, Act.eval, e5]]
                    exact ⟨_, rfl, rfl, hJ⟩
                  · intro s_ a_ u hs hd hfr hpo hJ
                    have e2 : a_.tmps.getD 74 undef = .bool false := hpo 2 74 (by kernel_rfl)
                    have e6 : a_.tmps.getD 78 undef = .bool false := hpo 6 78 (by kernel_rfl)
                    refine .inl ⟨rfl, ?_⟩
                    unfold Oper.wp
                    rw [show (execOp a_.eval _).run Tryd.prog u = .ok (.value (.bool false)) u from by simp [go_sem, Act.eval, e2, e6]]
                    exact ⟨_, rfl, rfl, hJ⟩
                  · intro s_ a_ u hs hd hfr hpo hJ
                    have e7 : a_.tmps.getD 79 undef = .bool false := hpo 7 79 (by kernel_rfl)
                    refine .inl ⟨rfl, ?_⟩
                    unfold Oper.wp
                    rw [show (execOp a_.eval _).run Tryd.prog u = .ok (.value (.bool false)) u from by simp [go_sem, Act.eval, e7]]
                    exact ⟨_, rfl, rfl, hJ⟩
                  · intro s_ a_ u hs hd hfr hpo hJ
                    have f1 : a_.tmps.getD 1 undef = .pointer (some ⟨w.heap.size, 0, none⟩) := hfr 1 (by kernel_rfl)
                    have gd : a_.tmps.getD 80 undef = .bool false := hpo 8 80 (by kernel_rfl)
                    refine .inl ⟨Loose.wanted_of rfl rfl gd, ?_⟩
                    unfold Oper.wp
                    rw [show (execOp a_.eval _).run Tryd.prog u = .ok (.value (.pointer (some ⟨w.heap.size, 3, none⟩))) u from by simp [go_sem, Act.eval, f1]]
                    exact ⟨_, rfl, rfl, hJ⟩
                  · intro s_ a_ u hs hd hfr hpo hJ
                    have e9 : a_.tmps.getD 81 undef = .pointer (some ⟨w.heap.size, 3, none⟩) := hpo 9 81 (by kernel_rfl)
                    have gd : a_.tmps.getD 80 undef = .bool false := hpo 8 80 (by kernel_rfl)
                    refine .inl ⟨Loose.wanted_of rfl rfl gd, ?_⟩
                    have cx := cell_of ((hJ.block _ (lt_of_at SQ.out)).trans SQ.out) 3 (v := .slice (some ⟨r, oa, none⟩) S.main.length mc) rfl
                    unfold Oper.wp
                    rw [show (execOp a_.eval _).run Tryd.prog u = .ok (.value (.slice (some ⟨r, oa, none⟩) S.main.length mc)) u from by simp [go_sem, Act.eval, e9, cx]]
                    exact ⟨_, rfl, rfl, hJ⟩
                  · intro s_ a_ u hs hd hfr hpo hJ
                    have f6 : a_.tmps.getD 6 undef = .int .i64 k := hfr 6 (by kernel_rfl)
                    have gd : a_.tmps.getD 80 undef = .bool false := hpo 8 80 (by kernel_rfl)
                    refine .inl ⟨Loose.wanted_of rfl rfl gd, ?_⟩
                    unfold Oper.wp
                    rw [show (execOp a_.eval _).run Tryd.prog u = .ok (.value (.int .i64 k)) u from by simp [go_sem, Act.eval, f6]]
                    exact ⟨_, rfl, rfl, hJ⟩
                  · intro s_ a_ u hs hd hfr hpo hJ
                    have e10 : a_.tmps.getD 82 undef = .slice (some ⟨r, oa, none⟩) S.main.length mc := hpo 10 82 (by kernel_rfl)
                    have e11 : a_.tmps.getD 83 undef = .int .i64 k := hpo 11 83 (by kernel_rfl)
                    have gd : a_.tmps.getD 80 undef = .bool false := hpo 8 80 (by kernel_rfl)
                    refine .inl ⟨Loose.wanted_of rfl rfl gd, ?_⟩
                    unfold Oper.wp
                    rw [show (execOp a_.eval _).run Tryd.prog u = .ok (.value (.pointer (some ⟨r, oa + k * 11, none⟩))) u from by simp [go_sem, Act.eval, e10, e11, hk0, hka, eat]]
                    exact ⟨_, rfl, rfl, hJ⟩
                  · intro s_ a_ u hs hd hfr hpo hJ
                    have e12 : a_.tmps.getD 84 undef = .pointer (some ⟨r, oa + k * 11, none⟩) := hpo 12 84 (by kernel_rfl)
                    have gd : a_.tmps.getD 80 undef = .bool false := hpo 8 80 (by kernel_rfl)
                    refine .inl ⟨Loose.wanted_of rfl rfl gd, ?_⟩
                    unfold Oper.wp
                    rw [show (execOp a_.eval _).run Tryd.prog u = .ok (.value (.pointer (some ⟨r, oa + k * 11 + 2, none⟩))) u from by simp [go_sem, Act.eval, e12]]
                    exact ⟨_, rfl, rfl, hJ⟩
                  · intro s_ a_ u hs hd hfr hpo hJ
                    have e13 : a_.tmps.getD 85 undef = .pointer (some ⟨r, oa + k * 11 + 2, none⟩) := hpo 13 85 (by kernel_rfl)
                    have gd : a_.tmps.getD 80 undef = .bool false := hpo 8 80 (by kernel_rfl)
                    refine .inl ⟨Loose.wanted_of rfl rfl gd, ?_⟩
                    exact wp_load_mid 23 (.tmp 85) rfl (r) (oa + k * 11 + 2) e13 (R3 (rq x)) _ (range_mv (hJ.block _ RLT.out) RGQ.out) Tryd.underlying23 rfl (by kernel_rfl) ⟨_, rfl, rfl, hJ⟩
                  · intro s_ a_ u hs hd hfr hpo hJ
                    have f3 : a_.tmps.getD 3 undef = .pointer (some ⟨w1.heap.size, 0, none⟩) := hfr 3 (by kernel_rfl)
                    have gd : a_.tmps.getD 80 undef = .bool false := hpo 8 80 (by kernel_rfl)
                    refine .inl ⟨Loose.wanted_of rfl rfl gd, ?_⟩
                    exact wp_load_mid 23 (.tmp 3) rfl (w1.heap.size) (0) f3 (R3 R) _ (range_box ((hJ.block _ (lt_of_at Y3.out)).trans Y3.out)) Tryd.underlying23 rfl (by kernel_rfl) ⟨_, rfl, rfl, hJ⟩
                  · intro s_ a_ u hs hd hfr hpo hJ
                    have e14 : a_.tmps.getD 86 undef = .agg (R3 (rq x)).toArray := hpo 14 86 (by kernel_rfl)
                    have e15 : a_.tmps.getD 87 undef = .agg (R3 R).toArray := hpo 15 87 (by kernel_rfl)
                    have gd : a_.tmps.getD 80 undef = .bool false := hpo 8 80 (by kernel_rfl)
                    refine .inl ⟨Loose.wanted_of rfl rfl gd, ?_⟩
                    unfold Oper.wp
                    rw [show (execOp a_.eval _).run Tryd.prog u = .ok (.enter 13 #[.agg (R3 (rq x)).toArray, .agg (R3 R).toArray]) u from by simp [go_sem, Act.eval, e14, e15]]
                    refine Calls.mono ((HFx.out u)) ?_
                    rintro e u2 ⟨rfl, hb⟩
                    exact ⟨_, rfl, rfl, hJ.trans (hb.mono hJ.size)⟩
                  · intro s_ a_ u hs hd hfr hpo hJ
                    have e16 : a_.tmps.getD 88 undef = .bool true := hpo 16 88 (by kernel_rfl)
                    have gd : a_.tmps.getD 80 undef = .bool false := hpo 8 80 (by kernel_rfl)
                    refine .inl ⟨Loose.wanted_of rfl rfl gd, ?_⟩
                    unfold Oper.wp
                    rw [show (execOp a_.eval _).run Tryd.prog u = .ok (.value (.bool false)) u from by simp [go_sem, Act.eval, e16]]
                    exact ⟨_, rfl, rfl, hJ⟩
                  · intro s_ a_ u hs hd hfr hpo hJ
                    have e8 : a_.tmps.getD 80 undef = .bool false := hpo 8 80 (by kernel_rfl)
                    have e17 : a_.tmps.getD 89 undef = .bool false := hpo 17 89 (by kernel_rfl)
                    refine .inl ⟨rfl, ?_⟩
                    unfold Oper.wp
                    rw [show (execOp a_.eval _).run Tryd.prog u = .ok (.value (.bool false)) u from by simp [go_sem, Act.eval, e8, e17]]
                    exact ⟨_, rfl, rfl, hJ⟩
                · intro s_ V u20 hall hF hJ
                  have ee : V 18 = .bool false := hF 18 _ _ rfl rfl
                  have BJ := hJ
                  clear hall hF hJ
                  have NQ := Lib.hid (BQ.out.trans (BJ.mono BQ.out.size))
                  clear BQ
                  have BQ := Lib.hid NQ.out
                  clear NQ
                  have NSQ := Lib.hid ((BJ.block _ (lt_of_at SQ.out)).trans SQ.out)
                  clear SQ
                  have SQ := Lib.hid NSQ.out
                  clear NSQ
                  have NY3 := Lib.hid ((BJ.block _ (lt_of_at Y3.out)).trans Y3.out)
                  clear Y3
                  have Y3 := Lib.hid NY3.out
                  clear NY3
                  have NXS := Lib.hid ((BJ.block _ (lt_of_at XS.out)).trans XS.out)
                  clear XS
                  have XS := Lib.hid NXS.out
                  clear NXS
                  have NCL := Lib.hid (CL.out.below BJ)
                  clear CL
                  have CL := Lib.hid NCL.out
                  clear NCL
                  have NRGQ := Lib.hid (range_mv (BJ.block _ RLT.out) RGQ.out)
                  clear RGQ
                  have RGQ := Lib.hid NRGQ.out
                  clear NRGQ
                  have NRLT := Lib.hid (Nat.lt_of_lt_of_le RLT.out BJ.size)
                  clear RLT
                  have RLT := Lib.hid NRLT.out
                  clear NRLT
                  have NX8 := Lib.hid ((BJ.block _ (lt_of_at X8.out)).trans X8.out)
                  clear X8 RX8
                  have X8 := Lib.hid NX8.out
                  have RX8 := Lib.hid (range_box (cs := (R3 a)) X8.out)
                  clear NX8
                  clear BJ
                  simp only [Bxs.puts, Nat.reduceAdd, put_none, put_lit, List.set_cons_succ, List.set_cons_zero]
                  rw [ee]
                  have cl := cell_of XS.out 3 (v := .slice A1 (S.main.length - 1) c1) rfl
                  go_wp2_with fail
                  clear cl
                  refine (C2.out _ CL.out).mono ?_
                  rintro e w3 ⟨rfl, hb3⟩
                  obtain ⟨u3, hu3⟩ : ∃ v, w3.alloc (.cells #[.int .i64 0, .int .i64 0, .int .i64 0] 23) = v := ⟨_, rfl⟩
                  have ZB := Lib.hid (show u3.heap[w3.heap.size]? = some (.cells #[.int .i64 0, .int .i64 0, .int .i64 0] 23 (0, 0)) by rw [← hu3]; exact heap_alloc_new _ _)
                  have BU := Lib.hid (show Below w3.heap.size w3 u3 by rw [← hu3]; exact (Below.refl _ _).alloc (Nat.le_refl _) _)
                  obtain ⟨v3, hv3⟩ : ∃ v, u3.setCells (w3.heap.size) 0 (R3 b) = v := ⟨_, rfl⟩
                  have THz := Lib.hid (show u3.there (w3.heap.size) 0 3 from Back.th ZB.out rfl)
                  have ONEz := Lib.hid (show ((R3 b) : List Value).toArray.all (·.oneCell') = true by simp [Value.oneCell'])
                  have HVz := Lib.hid hv3
                  have NX := Lib.hid (show v3.heap[w3.heap.size]? = some (.cells ((R3 b) : List Value).toArray 23 (0, 0)) by rw [← hv3]; exact Back.st ZB.out rfl)
                  have BV := Lib.hid (show Below w3.heap.size w3 v3 by rw [← hv3]; exact bel_set BU.out (Nat.le_refl _))
                  have BH := hb3.trans (BV.out.mono hb3.size)
                  clear hv3
                  have NQ := Lib.hid (BQ.out.trans (BH.mono BQ.out.size))
                  clear BQ
                  have BQ := Lib.hid NQ.out
                  clear NQ
                  have NSQ := Lib.hid ((BH.block _ (lt_of_at SQ.out)).trans SQ.out)
                  clear SQ
                  have SQ := Lib.hid NSQ.out
                  clear NSQ
                  have NY3 := Lib.hid ((BH.block _ (lt_of_at Y3.out)).trans Y3.out)
                  clear Y3
                  have Y3 := Lib.hid NY3.out
                  clear NY3
                  have NXS := Lib.hid ((BH.block _ (lt_of_at XS.out)).trans XS.out)
                  clear XS
                  have XS := Lib.hid NXS.out
                  clear NXS
                  have NCL := Lib.hid (CL.out.below BH)
                  clear CL
                  have CL := Lib.hid NCL.out
                  clear NCL
                  have NRGQ := Lib.hid (range_mv (BH.block _ RLT.out) RGQ.out)
                  clear RGQ
                  have RGQ := Lib.hid NRGQ.out
                  clear NRGQ
                  have NRLT := Lib.hid (Nat.lt_of_lt_of_le RLT.out BH.size)
                  clear RLT
                  have RLT := Lib.hid NRLT.out
                  clear NRLT
                  have NX8 := Lib.hid ((BH.block _ (lt_of_at X8.out)).trans X8.out)
                  clear X8 RX8
                  have X8 := Lib.hid NX8.out
                  have RX8 := Lib.hid (range_box (cs := (R3 a)) X8.out)
                  clear NX8
                  have X10 := Lib.hid NX.out
                  have RX10 := Lib.hid (range_box (cs := (R3 b)) X10.out)
                  clear BH BV NX ZB BU hb3
                  clear C2
                  go_upto_region 23 with (first | (refine wpList_store_at rfl 23 _ _ rfl _ _ _ rfl rfl THz.out (by kernel_rfl) ONEz.out HVz.out ?_))
                  refine Vls.wp_region (by kernel_rfl) (J12 v3 [.agg (R3 b).toArray, .pointer (some ⟨w.heap.size, 3, none⟩), .slice (some ⟨r, oa, none⟩) S.main.length mc, .int .i64 k, .pointer (some ⟨r, oa + k * 11, none⟩), .pointer (some ⟨r, oa + k * 11 + 2, none⟩), .agg (R3 (rq x)).toArray, .tuple #[.agg (R3 t).toArray, .bool true], .tuple #[.agg (R3 t).toArray, .bool true], .agg (R3 t).toArray, .bool true, undef, undef, .bool true] (R3 t)) (by kernel_rfl) (fun _ => undef) (J12.start _ _ _ _) ?_ ?_
                  · refine ⟨?_, ?_, ?_, ?_, ?_, ?_, ?_, ?_, ?_, ?_, ?_, ?_, ?_, ?_, trivial⟩
                    · intro s_ a_ u V hs hd hfr hpo hJ
                      have f10 : a_.tmps.getD 10 undef = .pointer (some ⟨w3.heap.size, 0, none⟩) := hfr 10 (by kernel_rfl)
                      refine .inl ⟨rfl, ?_⟩
                      exact wp_load_mid 23 (.tmp 10) rfl (w3.heap.size) (0) f10 (R3 b) _ (range_box ((hJ.bel.block _ (lt_of_at X10.out)).trans X10.out)) Tryd.underlying23 rfl (by kernel_rfl) ⟨_, rfl, hJ.step 0 (by decide) (by decide) (Below.refl _ _) rfl⟩
                    · intro s_ a_ u V hs hd hfr hpo hJ
                      have f1 : a_.tmps.getD 1 undef = .pointer (some ⟨w.heap.size, 0, none⟩) := hfr 1 (by kernel_rfl)
                      refine .inl ⟨rfl, ?_⟩
                      unfold Oper.wp
                      rw [show (execOp a_.eval _).run Tryd.prog u = .ok (.value (.pointer (some ⟨w.heap.size, 3, none⟩))) u from by simp [go_sem, Act.eval, f1]]
                      exact ⟨_, rfl, hJ.step 1 (by decide) (by decide) (Below.refl _ _) rfl⟩
                    · intro s_ a_ u V hs hd hfr hpo hJ
                      have e1 : a_.tmps.getD 100 undef = .pointer (some ⟨w.heap.size, 3, none⟩) := (hpo 1 100 (by kernel_rfl)).trans (hJ.get 1 (by decide) (by decide) (hd 1 (by kernel_rfl)) rfl)
                      refine .inl ⟨rfl, ?_⟩
                      have cx := cell_of ((hJ.bel.block _ (lt_of_at SQ.out)).trans SQ.out) 3 (v := .slice (some ⟨r, oa, none⟩) S.main.length mc) rfl
                      unfold Oper.wp
                      rw [show (execOp a_.eval _).run Tryd.prog u = .ok (.value (.slice (some ⟨r, oa, none⟩) S.main.length mc)) u from by simp [go_sem, Act.eval, e1, cx]]
                      exact ⟨_, rfl, hJ.step 2 (by decide) (by decide) (Below.refl _ _) rfl⟩
                    · intro s_ a_ u V hs hd hfr hpo hJ
                      have f6 : a_.tmps.getD 6 undef = .int .i64 k := hfr 6 (by kernel_rfl)
                      refine .inl ⟨rfl, ?_⟩
                      unfold Oper.wp
                      rw [show (execOp a_.eval _).run Tryd.prog u = .ok (.value (.int .i64 k)) u from by simp [go_sem, Act.eval, f6]]
                      exact ⟨_, rfl, hJ.step 3 (by decide) (by decide) (Below.refl _ _) rfl⟩
                    · intro s_ a_ u V hs hd hfr hpo hJ
                      have e2 : a_.tmps.getD 101 undef = .slice (some ⟨r, oa, none⟩) S.main.length mc := (hpo 2 101 (by kernel_rfl)).trans (hJ.get 2 (by decide) (by decide) (hd 2 (by kernel_rfl)) rfl)
                      have e3 : a_.tmps.getD 102 undef = .int .i64 k := (hpo 3 102 (by kernel_rfl)).trans (hJ.get 3 (by decide) (by decide) (hd 3 (by kernel_rfl)) rfl)
                      refine .inl ⟨rfl, ?_⟩
                      unfold Oper.wp
                      rw [show (execOp a_.eval _).run Tryd.prog u = .ok (.value (.pointer (some ⟨r, oa + k * 11, none⟩))) u from by simp [go_sem, Act.eval, e2, e3, hk0, hka, eat]]
                      exact ⟨_, rfl, hJ.step 4 (by decide) (by decide) (Below.refl _ _) rfl⟩
                    · intro s_ a_ u V hs hd hfr hpo hJ
                      have e4 : a_.tmps.getD 103 undef = .pointer (some ⟨r, oa + k * 11, none⟩) := (hpo 4 103 (by kernel_rfl)).trans (hJ.get 4 (by decide) (by decide) (hd 4 (by kernel_rfl)) rfl)
                      refine .inl ⟨rfl, ?_⟩
                      unfold Oper.wp
                      rw [show (execOp a_.eval _).run Tryd.prog u = .ok (.value (.pointer (some ⟨r, oa + k * 11 + 2, none⟩))) u from by simp [go_sem, Act.eval, e4]]
                      exact ⟨_, rfl, hJ.step 5 (by decide) (by decide) (Below.refl _ _) rfl⟩
                    · intro s_ a_ u V hs hd hfr hpo hJ
                      have e5 : a_.tmps.getD 104 undef = .pointer (some ⟨r, oa + k * 11 + 2, none⟩) := (hpo 5 104 (by kernel_rfl)).trans (hJ.get 5 (by decide) (by decide) (hd 5 (by kernel_rfl)) rfl)
                      refine .inl ⟨rfl, ?_⟩
                      exact wp_load_mid 23 (.tmp 104) rfl (r) (oa + k * 11 + 2) e5 (R3 (rq x)) _ (range_mv (hJ.bel.block _ RLT.out) RGQ.out) Tryd.underlying23 rfl (by kernel_rfl) ⟨_, rfl, hJ.step 6 (by decide) (by decide) (Below.refl _ _) rfl⟩
                    · intro s_ a_ u V hs hd hfr hpo hJ
                      have e0 : a_.tmps.getD 99 undef = .agg (R3 b).toArray := (hpo 0 99 (by kernel_rfl)).trans (hJ.get 0 (by decide) (by decide) (hd 0 (by kernel_rfl)) rfl)
                      have e6 : a_.tmps.getD 105 undef = .agg (R3 (rq x)).toArray := (hpo 6 105 (by kernel_rfl)).trans (hJ.get 6 (by decide) (by decide) (hd 6 (by kernel_rfl)) rfl)
                      refine .inl ⟨rfl, ?_⟩
                      unfold Oper.wp
                      rw [show (execOp a_.eval _).run Tryd.prog u = .ok (.enter 7 #[.agg (R3 b).toArray, .agg (R3 (rq x)).toArray]) u from by simp [go_sem, Act.eval, e0, e6]]
                      refine Calls.mono ((HAd.out u)) ?_
                      rintro e u2 ⟨rfl, hb⟩
                      exact ⟨_, rfl, hJ.step 7 (by decide) (by decide) hb rfl⟩
                    · intro s_ a_ u V hs hd hfr hpo hJ
                      have e7 : a_.tmps.getD 106 undef = .tuple #[.agg (R3 t).toArray, .bool true] := (hpo 7 106 (by kernel_rfl)).trans (hJ.get 7 (by decide) (by decide) (hd 7 (by kernel_rfl)) rfl)
                      refine .inl ⟨rfl, ?_⟩
                      unfold Oper.wp
                      rw [show (execOp a_.eval _).run Tryd.prog u = .ok (.value (.tuple #[.agg (R3 t).toArray, .bool true])) u from by simp [go_sem, Act.eval, e7]]
                      exact ⟨_, rfl, hJ.step 8 (by decide) (by decide) (Below.refl _ _) rfl⟩
                    · intro s_ a_ u V hs hd hfr hpo hJ
                      have e8 : a_.tmps.getD 98 undef = .tuple #[.agg (R3 t).toArray, .bool true] := (hpo 8 98 (by kernel_rfl)).trans (hJ.get 8 (by decide) (by decide) (hd 8 (by kernel_rfl)) rfl)
                      refine .inl ⟨rfl, ?_⟩
                      unfold Oper.wp
                      rw [show (execOp a_.eval _).run Tryd.prog u = .ok (.value (.agg (R3 t).toArray)) u from by simp [go_sem, Act.eval, e8]]
                      exact ⟨_, rfl, hJ.step 9 (by decide) (by decide) (Below.refl _ _) rfl⟩
                    · intro s_ a_ u V hs hd hfr hpo hJ
                      have e8 : a_.tmps.getD 98 undef = .tuple #[.agg (R3 t).toArray, .bool true] := (hpo 8 98 (by kernel_rfl)).trans (hJ.get 8 (by decide) (by decide) (hd 8 (by kernel_rfl)) rfl)
                      refine .inl ⟨rfl, ?_⟩
                      unfold Oper.wp
                      rw [show (execOp a_.eval _).run Tryd.prog u = .ok (.value (.bool true)) u from by simp [go_sem, Act.eval, e8]]
                      exact ⟨_, rfl, hJ.step 10 (by decide) (by decide) (Below.refl _ _) rfl⟩
                    · intro s_ a_ u V hs hd hfr hpo hJ
                      refine .inl ⟨rfl, ?_⟩
                      unfold Oper.wp
                      rw [show (execOp a_.eval _).run Tryd.prog u = .ok (.value (.pointer (some ⟨u.heap.size, 0, none⟩))) (u.alloc (.cells #[.int .i64 0, .int .i64 0, .int .i64 0] 23 (0, 0))) from by simp [go_sem, Act.eval]]
                      exact ⟨_, rfl, hJ.al hs _ rfl⟩
                    · intro s_ a_ u V hs hd hfr hpo hJ
                      have h11 : s_ 11 = true := hd 11 (by kernel_rfl)
                      obtain ⟨qq, X, hq, hqv, hX, hXs, _⟩ := hJ.bx h11
                      have e1 : a_.tmps.getD 12 undef = .pointer (some ⟨qq, 0, none⟩) := (hpo 11 12 (by kernel_rfl)).trans hq
                      have e2 : a_.tmps.getD 107 undef = .agg (R3 t).toArray := (hpo 9 107 (by kernel_rfl)).trans (hJ.get 9 (by decide) (by decide) (hd 9 (by kernel_rfl)) rfl)
                      refine .inl ⟨rfl, ?_⟩
                      exact wp_store_mid 23 (.tmp 12) (.tmp 107) rfl qq 0 (R3 t).toArray e1 e2 (Back.th hX hXs) (by kernel_rfl) (by simp [Value.oneCell']) ⟨undef, rfl, hJ.st rfl h11 hq _⟩
                    · intro s_ a_ u V hs hd hfr hpo hJ
                      have e10 : a_.tmps.getD 108 undef = .bool true := (hpo 10 108 (by kernel_rfl)).trans (hJ.get 10 (by decide) (by decide) (hd 10 (by kernel_rfl)) rfl)
                      refine .inl ⟨rfl, ?_⟩
                      unfold Oper.wp
                      rw [show (execOp a_.eval _).run Tryd.prog u = .ok (.value (.bool true)) u from by simp [go_sem, Act.eval, e10]]
                      exact ⟨_, rfl, hJ.step 13 (by decide) (by decide) (Below.refl _ _) rfl⟩
                  · intro s_ V u23 hall hJ
                    obtain ⟨qb, X, hqe, hqv, hX, hXs, hXe⟩ := hJ.bx (hall 11 (by decide))
                    have e10 : V 10 = .bool true := hJ.get 10 (by decide) (by decide) (hall 10 (by decide)) rfl
                    have e13 : V 13 = .bool true := hJ.get 13 (by decide) (by decide) (hall 13 (by decide)) rfl
                    have XT := Lib.hid (show u23.heap[qb]? = some (.cells (R3 t).toArray 23 (0, 0)) by rw [hX, hXe (hall 12 (by decide))])
                    have Y4 := Lib.hid ((hJ.bel.block _ (lt_of_at Y3.out)).trans Y3.out)
                    have BN := Lib.hid (BQ.out.trans (hJ.bel.mono BQ.out.size))
                    clear hall hJ hqv hX hXs hXe
                    have ct0 := cell_of XT.out 0 (v := .int .i64 t.c) rfl
                    have cr0 := cell_of Y4.out 0 (v := .int .i64 R.c) rfl
                    have ct1 := cell_of XT.out 1 (v := .int .i64 t.m) rfl
                    have cr1 := cell_of Y4.out 1 (v := .int .i64 R.m) rfl
                    have ct2 := cell_of XT.out 2 (v := .int .i64 t.p) rfl
                    have cr2 := cell_of Y4.out 2 (v := .int .i64 R.p) rfl
                    simp only [Bxs.puts, Nat.reduceAdd, put_none, put_lit, List.set_cons_succ, List.set_cons_zero]
                    rw [hqe, e13]
                    go_wp2_with fail
                    refine (HFt.out _).mono ?_
                    rintro e u24 ⟨rfl, hb24⟩
                    have BE := Lib.hid (BN.out.trans (hb24.mono BN.out.size))
                    clear hb24
                    go_wp2_with fail
                    go_roundw
                    case rel => exact ⟨k + 1, by omega, by go_num, BE.out⟩
                    case measure => simp [RowKit.intOf]; omega
            · have hka : ¬ (k : Int) < (S.main.length : Int) := by omega
              go_wp2_with fail
              go_ret
              exact ⟨rfl, B0.out.trans ((BC.out.trans (BQ.out.mono BC.out.size)).mono B0.out.size)⟩
    · go_wp2_with fail
      go_ret
      exact ⟨rfl, B0.out.trans (BC.out.mono B0.out.size)⟩
end ResCoversWalk
end Re
end Go.Proofs.YtpllcnpmjnmcfaaDoor
