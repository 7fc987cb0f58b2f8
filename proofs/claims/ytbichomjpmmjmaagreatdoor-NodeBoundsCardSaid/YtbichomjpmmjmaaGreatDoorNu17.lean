/-
  A pod's ports are its own, as the program's node tells them. Conditions: the node is one (Nn), the spec is not too long and lies in memory, and so it is.
-/
import Derived.Test.YtbichomjpmmjmaaGreatDoorNu16
import Derived.Test.YtbichomjpmmjmaaGreatDoorNu8
import Derived.Test.YtbichomjpmmjmaaGreatDoorNu13
import Derived.Test.YtbichomjpmmjmaaGreatDoorNu14
set_option linter.unusedVariables false
set_option linter.unusedSimpArgs false
namespace Go.Proofs.YtbichomjpmmjmaaGreatDoor
open Go.ChangeShapes Go.WideShapes Go.ChangeAt Go.RowKit Go.Lib
open NumMath
namespace Nn
open Re Nd Sd SpecOwn
theorem act_range2 {w : World} {b : Nat} {x : Na} (h : w.heap[b]? = some (.cells x.vals.toArray 37 (0, 0))) : w.rangeAt b 2 [.string x.S.name, .slice x.LA x.S.labels.length x.lc, .slice x.IA x.S.init.length x.ic, .slice x.MA x.S.main.length x.mc, .int .i64 x.S.restart, .int .i64 x.S.grace, .int .i64 x.S.prio] := Na.spec_at (o := 0) fun j v hv => Pt.box_cell h (0 + j) (by simpa using hv)
set_option maxRecDepth 100000 in
set_option maxHeartbeats 4000000 in
theorem owns_any {B : Nat} {g : Nat} {has : Rx} {l : Pods} (x : Na) (w : World) (h : Nn B w g has l) (hL : Book.Light x.S) (hS : x.S.In w x.LA x.lc x.IA x.ic x.MA x.mc) (ho : ∀ p ∈ (askS x.S).ports, ownR l p = x.uid) :
    Calls Tryz.prog 49 #[.pointer (some ⟨g, 0, none⟩), .agg x.vals.toArray] w fun e w' => e = .returned (.bool true) ∧ Below w.heap.size w w' := by
  have H := Lib.hid h
  have HL := Lib.hid hL
  have HS := Lib.hid hS
  have HO := Lib.hid ho
  obtain ⟨w0, hw0⟩ : ∃ v, w.alloc (.cells x.vals.toArray 37) = v := ⟨_, rfl⟩
  have X0 := Lib.hid (show w0.heap[w.heap.size]? = some (.cells x.vals.toArray 37 (0, 0)) by rw [← hw0]; exact heap_alloc_new w _)
  have B0 := Lib.hid (show Below w.heap.size w w0 by rw [← hw0]; exact (Below.refl _ _).alloc (Nat.le_refl _) _)
  have RS := Lib.hid (act_range2 X0.out)
  clear h hL hS ho
  go_enter Tryz.func49, Tryz.ntmps49
  go_wp2_with (first | (refine wpList_load_mid rfl 35 _ rfl _ _ rfl _ _ RS.out Tryz.underlying35 rfl (by kernel_rfl) ?_))
  clear hw0 RS
  refine (ports_any x.S x.LA x.lc x.IA x.ic x.MA x.mc HL.out.2.2.2 (by have := HL.out.1.2.2; omega) w0 (HS.out.below B0.out)).mono ?_
  rintro e w1 ⟨v, rfl, ho1, hb1⟩
  obtain ⟨PA, pc, rfl⟩ := Pt.own_form ho1
  have B1 := Lib.hid (B0.out.trans (hb1.mono B0.out.size))
  have X1 := Lib.hid ((hb1.block _ (lt_of_block X0.out)).trans X0.out)
  obtain ⟨ps, hps⟩ : ∃ ps, x.S.main.flatMap (·.ports) = ps := ⟨_, rfl⟩
  have HPO := Lib.hid (show ∀ p ∈ ps, ownR l p = x.uid by rw [← hps]; exact HO.out)
  have HPL := Lib.hid (show ps.length ≤ 100000 from by
    rw [← hps]
    have := SpecOwn.flat_len x.S.main (fun y hy => (HL.out.2.2.2 y hy).2.2)
    have := HL.out.1.2.2
    omega)
  rw [hps] at ho1 ⊢
  have ROW := Lib.hid ho1
  obtain ⟨n, hn⟩ : ∃ n, ps.length = n := ⟨_, rfl⟩
  have HN := Lib.hid hn
  have hn1 : (n : Int) ≤ 100000 := by have := HPL.out; omega
  rw [hn]
  clear hps ho1 hb1 hn
  go_wp2_with fail
  go_loopw [6] (fun i wr => ∃ k : Nat, k ≤ n ∧ i = .int .i64 k ∧ Hid (Below w1.heap.size w1 wr)) (fun i _ => n - (RowKit.intOf i).toNat)
  case atStart => exact ⟨0, Nat.zero_le _, rfl, Below.refl _ _⟩
  case round =>
    obtain ⟨k, hk, rfl, HW⟩ := hrel
    by_cases hkn : k < n
    · have hka : (k : Int) < (n : Int) := by omega
      have hk0 : (0 : Int) ≤ (k : Int) := by omega
      obtain ⟨p, hp⟩ : ∃ p, ps[k]? = some p := ⟨_, List.getElem?_eq_getElem (by have := HN.out; omega)⟩
      have PW := Pt.owns_below ROW.out HW.out
      rw [HN.out] at PW
      obtain ⟨r, rfl, hr0, hr1⟩ : ∃ r, PA = some ⟨r, 0, none⟩ ∧ r < wr.heap.size ∧ wr.cell? ⟨r, k, none⟩ = some (.int .i64 p) := by
        rcases Pt.own_addr PW with ⟨_, h2, _⟩ | ⟨r, hA, _, hr⟩
        · omega
        · refine ⟨r, hA, hr, ?_⟩
          rw [hA] at PW
          rw [PW.cellAt k (by omega)]
          simp [hp]
      have eat := at_one r k
      have HR0 := Lib.hid hr0
      have HR1 := Lib.hid hr1
      have BW := Lib.hid (B1.out.trans (HW.out.mono B1.out.size))
      have XW := Lib.hid ((HW.out.block _ (lt_of_block X1.out)).trans X1.out)
      have CO := Lib.hid (show ∀ u, Below wr.heap.size wr u → Calls Tryz.prog 16 #[.pointer (some ⟨g, 0, none⟩), .int .i64 p] u (fun e w' => e = .returned (.int .i64 x.uid) ∧ Below u.heap.size u w') from fun u hu => by rw [← HPO.out p (List.mem_of_getElem? hp)]; exact owner_any p u (H.out.below (BW.out.trans (hu.mono BW.out.size))))
      clear hp PW hr0 hr1
      go_upto_region 5 with fail
      refine Vls.wp_region (by kernel_rfl) (Jx.JX (fun u => Below wr.heap.size wr u) (fun u => Below wr.heap.size wr u) 100 101 (fun _ _ => True) [(3, 1), (3, 2), (4, 3), (5, 0), (5, 4), (7, 6), (8, 5), (8, 7)] [.pointer (some ⟨g, 0, none⟩), .slice (some ⟨r, 0, none⟩) n pc, .int .i64 k, .pointer (some ⟨r, k, none⟩), .int .i64 p, .int .i64 x.uid, .pointer (some ⟨w.heap.size, 1, none⟩), .int .i64 x.uid, .bool false]) (by kernel_rfl) (fun _ => undef) (Jx.JX.start (P := fun u => Below wr.heap.size wr u) (Below.drew (Below.refl _ _)) _) ?_ ?_
      · refine ⟨?_, ?_, ?_, ?_, ?_, ?_, ?_, ?_, ?_, trivial⟩
        · intro s_ a_ u V hs hd hfr hpo hJ
          have f0 : a_.tmps.getD 0 undef = .pointer (some ⟨g, 0, none⟩) := hfr 0 (by kernel_rfl)
          refine .inl ⟨rfl, ?_⟩
          unfold Oper.wp
          rw [show (execOp a_.eval _).run Tryz.prog u = .ok (.value (.pointer (some ⟨g, 0, none⟩))) u from by simp [go_sem, Act.eval, f0]]
          exact ⟨_, rfl, hJ.stay 0 (by decide) (by decide) rfl rfl⟩
        · intro s_ a_ u V hs hd hfr hpo hJ
          have f5 : a_.tmps.getD 5 undef = .slice (some ⟨r, 0, none⟩) n pc := hfr 5 (by kernel_rfl)
          refine .inl ⟨rfl, ?_⟩
          unfold Oper.wp
          rw [show (execOp a_.eval _).run Tryz.prog u = .ok (.value (.slice (some ⟨r, 0, none⟩) n pc)) u from by simp [go_sem, Act.eval, f5]]
          exact ⟨_, rfl, hJ.stay 1 (by decide) (by decide) rfl rfl⟩
        · intro s_ a_ u V hs hd hfr hpo hJ
          have f6 : a_.tmps.getD 6 undef = .int .i64 k := hfr 6 (by kernel_rfl)
          refine .inl ⟨rfl, ?_⟩
          unfold Oper.wp
          rw [show (execOp a_.eval _).run Tryz.prog u = .ok (.value (.int .i64 k)) u from by simp [go_sem, Act.eval, f6]]
          exact ⟨_, rfl, hJ.stay 2 (by decide) (by decide) rfl rfl⟩
        · intro s_ a_ u V hs hd hfr hpo hJ
          have e1 : a_.tmps.getD 17 undef = .slice (some ⟨r, 0, none⟩) n pc := (hpo 1 17 (by kernel_rfl)).trans (hJ.get 1 (by decide) (by decide) (hd 1 (by kernel_rfl)) rfl)
          have e2 : a_.tmps.getD 18 undef = .int .i64 k := (hpo 2 18 (by kernel_rfl)).trans (hJ.get 2 (by decide) (by decide) (hd 2 (by kernel_rfl)) rfl)
          refine .inl ⟨rfl, ?_⟩
          unfold Oper.wp
          rw [show (execOp a_.eval _).run Tryz.prog u = .ok (.value (.pointer (some ⟨r, k, none⟩))) u from by simp [go_sem, Act.eval, e1, e2, hk0, hka, eat]]
          exact ⟨_, rfl, hJ.stay 3 (by decide) (by decide) (by show (s_ 1 && (s_ 2 && true)) = true; rw [hd 1 (by kernel_rfl), hd 2 (by kernel_rfl)]; rfl) rfl⟩
        · intro s_ a_ u V hs hd hfr hpo hJ
          have e3 : a_.tmps.getD 19 undef = .pointer (some ⟨r, k, none⟩) := (hpo 3 19 (by kernel_rfl)).trans (hJ.get 3 (by decide) (by decide) (hd 3 (by kernel_rfl)) rfl)
          have hP := hJ.both
          refine .inl ⟨rfl, ?_⟩
          have cx0 := (World.cell?_of_block (hP.block r HR0.out)).trans HR1.out
          unfold Oper.wp
          rw [show (execOp a_.eval _).run Tryz.prog u = .ok (.value (.int .i64 p)) u from by simp [go_sem, Act.eval, e3, cx0]]
          exact ⟨_, rfl, hJ.stay 4 (by decide) (by decide) (by show (s_ 3 && true) = true; rw [hd 3 (by kernel_rfl)]; rfl) rfl⟩
        · intro s_ a_ u V hs hd hfr hpo hJ
          have e0 : a_.tmps.getD 16 undef = .pointer (some ⟨g, 0, none⟩) := (hpo 0 16 (by kernel_rfl)).trans (hJ.get 0 (by decide) (by decide) (hd 0 (by kernel_rfl)) rfl)
          have e4 : a_.tmps.getD 20 undef = .int .i64 p := (hpo 4 20 (by kernel_rfl)).trans (hJ.get 4 (by decide) (by decide) (hd 4 (by kernel_rfl)) rfl)
          have hP := hJ.both
          refine .inl ⟨rfl, ?_⟩
          unfold Oper.wp
          rw [show (execOp a_.eval _).run Tryz.prog u = .ok (.enter 16 #[.pointer (some ⟨g, 0, none⟩), .int .i64 p]) u from by simp [go_sem, Act.eval, e0, e4]]
          refine Calls.mono (CO.out u hP) ?_
          rintro e u2 ⟨rfl, hb⟩
          exact ⟨_, rfl, hJ.step 5 (by decide) (by decide) (by show (s_ 0 && (s_ 4 && true)) = true; rw [hd 0 (by kernel_rfl), hd 4 (by kernel_rfl)]; rfl) (fun _ hP => hP.trans (hb.mono hP.size)) (fun _ hP => hP.trans (hb.mono hP.size)) (fun _ _ hR => hR) rfl⟩
        · intro s_ a_ u V hs hd hfr hpo hJ
          have f3 : a_.tmps.getD 3 undef = .pointer (some ⟨w.heap.size, 0, none⟩) := hfr 3 (by kernel_rfl)
          refine .inl ⟨rfl, ?_⟩
          unfold Oper.wp
          rw [show (execOp a_.eval _).run Tryz.prog u = .ok (.value (.pointer (some ⟨w.heap.size, 1, none⟩))) u from by simp [go_sem, Act.eval, f3]]
          exact ⟨_, rfl, hJ.stay 6 (by decide) (by decide) rfl rfl⟩
        · intro s_ a_ u V hs hd hfr hpo hJ
          have e6 : a_.tmps.getD 22 undef = .pointer (some ⟨w.heap.size, 1, none⟩) := (hpo 6 22 (by kernel_rfl)).trans (hJ.get 6 (by decide) (by decide) (hd 6 (by kernel_rfl)) rfl)
          have hP := hJ.both
          refine .inl ⟨rfl, ?_⟩
          have cx0 := (show u.cell? ⟨w.heap.size, 1, none⟩ = some (.int .i64 x.uid) from (World.cell?_of_block (hP.block _ (lt_of_block XW.out))).trans (Pt.box_cell XW.out 1 rfl))
          unfold Oper.wp
          rw [show (execOp a_.eval _).run Tryz.prog u = .ok (.value (.int .i64 x.uid)) u from by simp [go_sem, Act.eval, e6, cx0]]
          exact ⟨_, rfl, hJ.stay 7 (by decide) (by decide) (by show (s_ 6 && true) = true; rw [hd 6 (by kernel_rfl)]; rfl) rfl⟩
        · intro s_ a_ u V hs hd hfr hpo hJ
          have e5 : a_.tmps.getD 21 undef = .int .i64 x.uid := (hpo 5 21 (by kernel_rfl)).trans (hJ.get 5 (by decide) (by decide) (hd 5 (by kernel_rfl)) rfl)
          have e7 : a_.tmps.getD 23 undef = .int .i64 x.uid := (hpo 7 23 (by kernel_rfl)).trans (hJ.get 7 (by decide) (by decide) (hd 7 (by kernel_rfl)) rfl)
          refine .inl ⟨rfl, ?_⟩
          unfold Oper.wp
          rw [show (execOp a_.eval _).run Tryz.prog u = .ok (.value (.bool false)) u from by simp [go_sem, Act.eval, e5, e7]]
          exact ⟨_, rfl, hJ.stay 8 (by decide) (by decide) (by show (s_ 5 && (s_ 7 && true)) = true; rw [hd 5 (by kernel_rfl), hd 7 (by kernel_rfl)]; rfl) rfl⟩
      · intro s_ V w5 hall hJ
        have e8 : V 8 = .bool false := hJ.get 8 (by decide) (by decide) (hall 8 (by decide)) rfl
        have HW5 := Lib.hid (HW.out.trans (hJ.both.mono HW.out.size))
        clear hall hJ CO HR0 HR1 XW eat hk0 hka
        simp only [Bxs.puts, Nat.reduceAdd, put_none, Re.put_lit, List.set_cons_succ, List.set_cons_zero]
        rw [e8]
        clear e8
        go_wp2
        go_roundw
        case rel => exact ⟨k + 1, by omega, by go_num, HW5.out⟩
        case measure => simp [RowKit.intOf]; omega
    · have hka : ¬ (k : Int) < (n : Int) := by omega
      go_wp2
      go_ret
      exact ⟨rfl, B1.out.trans (HW.out.mono B1.out.size)⟩
end Nn
end Go.Proofs.YtbichomjpmmjmaaGreatDoor

/-
  The program's node and the document's beside boxes that are written: both stay. No condition.
-/
set_option linter.unusedVariables false
set_option linter.unusedSimpArgs false
namespace Go.Proofs.YtbichomjpmmjmaaGreatDoor
open Go.ChangeShapes Go.WideShapes Go.ChangeAt Go.RowKit Go.Lib
namespace Nn
open Re Nd
section
variable {B : Nat} {w u : World} {g : Nat} {has : Rx} {l : Pods}
theorem Nn.set {b : Nat} {X : Array Value} {t : TypeId} (h : Nn B u g has l) (hX : u.heap[b]? = some (.cells X t (0, 0))) (h1 : t ≠ 68) (h2 : t ≠ 100) (h3 : t ≠ 110) (o : Nat) (vs : List Value) : Nn B (u.setCells b o vs) g has l := by
  obtain ⟨m, p, T, h⟩ := h
  exact ⟨m, p, T, h.keep fun k hk hn => (Back.far b vs o u).2.2.2.2 k fun e => by subst e; exact not_n hX h1 h2 h3 hn⟩
theorem Nn.kept {v : World} (h : Nn B u g has l) (hk : ∀ k, k < u.heap.size → IsN u k → v.heap[k]? = u.heap[k]?) : Nn B v g has l := by
  obtain ⟨m, p, T, h⟩ := h
  exact ⟨m, p, T, h.keep hk⟩
end
end Nn
end Go.Proofs.YtbichomjpmmjmaaGreatDoor
