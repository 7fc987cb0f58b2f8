/-
  What is used is the sum of what the pods ask for, and each pod's ports are its own, as the program's node tells them. Conditions: the node is one (Nn), what was admitted lies in a row (Row9) and is what the node holds (There).
-/
import Derived.Test.YtbichomjpmmjmaaGreatDoorNu17
import Derived.Test.YtbichomjpmmjmaaGreatDoorNu15
import Derived.Test.YtbichomjpmmjmaaGreatDoorNu5
set_option linter.unusedVariables false
set_option linter.unusedSimpArgs false
namespace Go.Proofs.YtbichomjpmmjmaaGreatDoor
open Go.ChangeShapes Go.WideShapes Go.ChangeAt Go.RowKit Go.Lib
open NumMath
namespace Nn
open Re Nd Sd SpecOwn
/-- what was admitted, of each call its pod and its ports -/
abbrev told (th : List Na) : List (Int × List Int) := th.map fun a => (a.uid, (askS a.S).ports)
theorem eqIn_selfB (a : Rx) (w : World) : (Op.equalIn 10000 23 (.agg #[.int .i64 a.c, .int .i64 a.m, .int .i64 a.p]) (.agg #[.int .i64 a.c, .int .i64 a.m, .int .i64 a.p])).run Tryz.prog w = .ok true w := by rw [eqIn_res, eqR_self]
theorem mem_tot {f : Rx → Int} : ∀ {l : List Rx} {x : Rx}, (∀ y ∈ l, 0 ≤ f y) → x ∈ l → f x ≤ tot f l
  | y :: l, x, h, hx => by
    rw [tot_cons]
    have h1 := h y (by simp)
    have h2 := tot_nn (f := f) (l := l) fun z hz => h z (by simp [hz])
    rcases List.mem_cons.1 hx with rfl | hx
    · omega
    · have := mem_tot (l := l) (fun z hz => h z (by simp [hz])) hx
      omega
/-- at the head of a round -/
structure Bd (B : Nat) (w v : World) (g : Nat) (has : Rx) (l : Pods) (A : Option Addr) (c : Nat) (k : Nat) : Prop where
  nn : Nn B v g has l
  bel : Below w.heap.size w v
  sum : v.heap[w.heap.size]? = some (.cells (R3 (usedR (l.take k))).toArray 23 (0, 0))
  row : v.ownsRow 0 3 1 (.slice A l.length c) l.length ((l.map Pod.uid).map (Value.int .i64))
theorem Bd.below {B : Nat} {w v u : World} {g : Nat} {has : Rx} {l : Pods} {A : Option Addr} {c : Nat} {k : Nat} (h : Bd B w v g has l A c k) (hb : Below v.heap.size v u) : Bd B w u g has l A c k :=
  ⟨h.nn.below hb, h.bel.trans (hb.mono h.bel.size), (hb.block _ (lt_of_block h.sum)).trans h.sum, Pt.owns_below h.row hb⟩
theorem Bd.set {B : Nat} {w v : World} {g : Nat} {has : Rx} {l : Pods} {A : Option Addr} {c : Nat} {k : Nat} (h : Bd B w v g has l A c k) {j : Nat} : Bd B w (v.setCells w.heap.size 0 (R3 (usedR (l.take j)))) g has l A c j :=
  ⟨h.nn.set h.sum (by decide) (by decide) (by decide) _ _, bel_set h.bel (Nat.le_refl _), Back.st h.sum rfl, Pt.owns_of h.row fun r hr => (Back.far _ _ 0 v).2.2.2.2 r fun e => by
    obtain ⟨_, cur, h3⟩ := Pt.owns_at h.row hr
    rw [e, h.sum] at h3
    injection h3 with h3
    injection h3 with _ h3 _
    exact absurd h3 (by decide)⟩
set_option maxRecDepth 100000 in
set_option maxHeartbeats 16000000 in
theorem bounded_any {B : Nat} {g : Nat} {has : Rx} {l : Pods} {B2 : Nat} {A9 : Option Addr} {c9 : Nat} (th : List Na) (w : World) (h : Nn B w g has l) (hn : l.length ≤ 1000) (h9 : Row9 w B2 (.slice A9 th.length c9) th) (hm : th.length ≤ 1000) (hL : ∀ x ∈ th, Book.Light x.S) (hS : ∀ x ∈ th, x.S.In w x.LA x.lc x.IA x.ic x.MA x.mc) (hT : There l (told th)) :
    Calls Tryz.prog 25 #[.pointer (some ⟨g, 0, none⟩), .slice A9 th.length c9] w fun e w' => e = .returned (.bool true) ∧ Below w.heap.size w w' := by
  have H := Lib.hid h
  have H9 := Lib.hid h9
  have HL := Lib.hid hL
  have HS := Lib.hid hS
  have HT := Lib.hid hT
  have HOK := Lib.hid h.ok
  have HN := Lib.hid hn
  obtain ⟨m, hm1⟩ : ∃ m, th.length = m := ⟨_, rfl⟩
  obtain ⟨n, hn1⟩ : ∃ n, l.length = n := ⟨_, rfl⟩
  have HM := Lib.hid hm1
  have HNL := Lib.hid hn1
  have hm2 : (m : Int) ≤ 1000 := by omega
  have hn2 : (n : Int) ≤ 1000 := by omega
  rw [hm1]
  obtain ⟨w0, hw0⟩ : ∃ v, w.alloc (.cells #[.int .i64 0, .int .i64 0, .int .i64 0] 23) = v := ⟨_, rfl⟩
  have Z0 := Lib.hid (show w0.heap[w.heap.size]? = some (.cells #[.int .i64 0, .int .i64 0, .int .i64 0] 23 (0, 0)) by rw [← hw0]; exact heap_alloc_new w _)
  have B0 := Lib.hid (show Below w.heap.size w w0 by rw [← hw0]; exact (Below.refl _ _).alloc (Nat.le_refl _) _)
  have CP := Lib.hid (pods_any w0 (h.below B0.out) hn)
  clear h h9 hL hS hT hn hm hm1 hn1
  go_enter Tryz.func25, Tryz.ntmps25
  go_wp2_with fail
  clear hw0
  refine CP.out.mono ?_
  rintro e w1 ⟨A, c, rfl, hrow, hb1⟩
  have BD1 := Lib.hid (show Bd B w w1 g has l A c 0 from ⟨H.out.below (B0.out.trans (hb1.mono B0.out.size)), B0.out.trans (hb1.mono B0.out.size), (hb1.block _ (lt_of_block Z0.out)).trans Z0.out, Pt.owns_base hrow (Nat.zero_le _)⟩)
  clear hrow hb1 CP B0 Z0
  rw [HNL.out]
  go_wp2_with fail
  go_loopw [7] (fun i wr => ∃ k : Nat, k ≤ n ∧ i = .int .i64 k ∧ Hid (Bd B w wr g has l A c k)) (fun i _ => n - (RowKit.intOf i).toNat)
  case atStart => exact ⟨0, Nat.zero_le _, rfl, BD1.out⟩
  case round =>
    clear BD1
    obtain ⟨k, hk, rfl, BD⟩ := hrel
    by_cases hkn : k < n
    · have hka : (k : Int) < (n : Int) := by omega
      have hk0 : (0 : Int) ≤ (k : Int) := by omega
      obtain ⟨x, hx⟩ : ∃ x, l[k]? = some x := ⟨_, List.getElem?_eq_getElem (by have := HNL.out; omega)⟩
      have HXM := Lib.hid (List.mem_of_getElem? hx)
      have HNX := Lib.hid (HOK.out.next hx)
      obtain ⟨r, rfl, hr, k0⟩ : ∃ r, A = some ⟨r, 0, none⟩ ∧ r < wr.heap.size ∧ wr.cell? ⟨r, k, none⟩ = some (.int .i64 x.uid) := by
        have PW := BD.out.row
        rcases Pt.own_addr PW with ⟨_, h2, _⟩ | ⟨r, hA, _, hr⟩
        · have := HNL.out; omega
        · refine ⟨r, hA, hr, ?_⟩
          rw [hA] at PW
          rw [PW.cellAt k (by have := HNL.out; omega)]
          simp [hx]
      have HR := Lib.hid hr
      have HK0 := Lib.hid k0
      have eat1 := at_one r k
      have hin : isIn x.uid l = true := isIn_iff.2 ⟨x, HXM.out, rfl⟩
      have CO := of_any x.uid wr BD.out.nn
      have hof : ofU l x.uid = x.ask := by
        obtain ⟨y, h1, h2⟩ := idx_at hin
        rw [ofU_in h1]
        have hp := List.pairwise_iff_getElem.1 HOK.out.up
        obtain ⟨l1, e1⟩ := List.getElem?_eq_some_iff.1 h1
        obtain ⟨l2, e2⟩ := List.getElem?_eq_some_iff.1 hx
        rcases Nat.lt_trichotomy (idx x.uid l) k with hlt | heq | hlt
        · have := hp _ _ l1 l2 hlt; rw [e1, e2, h2] at this; omega
        · rw [heq, hx] at h1; injection h1 with h1; rw [h1]
        · have := hp _ _ l2 l1 hlt; rw [e1, e2, h2] at this; omega
      rw [hin, hof] at CO
      have CO := Lib.hid CO
      obtain ⟨a, ha⟩ : ∃ a, x.ask = a := ⟨_, rfl⟩
      obtain ⟨s0, hs0⟩ : ∃ s, usedR (l.take k) = s := ⟨_, rfl⟩
      obtain ⟨s1, hs1⟩ : ∃ s, usedR (l.take (k + 1)) = s := ⟨_, rfl⟩
      have HS1 := Lib.hid hs1
      have HS0 := Lib.hid hs0
      have HAO := Lib.hid (show a.Ok by
        have h1 := (HOK.out.one x HXM.out).2
        have h2 := HOK.out.within
        have h4 := HOK.out.hc; have h5 := HOK.out.hm; have h6 := HOK.out.hp
        have e := HOK.out.next hx
        have := add_ok (usedR (l.take k)) x.ask
        have q := mem_tot (f := Rx.c) (l := l.map Pod.ask) (fun y hy => by obtain ⟨z, hz, rfl⟩ := List.mem_map.1 hy; exact (HOK.out.one z hz).2.1) (List.mem_map.2 ⟨x, HXM.out, rfl⟩)
        have q2 := mem_tot (f := Rx.m) (l := l.map Pod.ask) (fun y hy => by obtain ⟨z, hz, rfl⟩ := List.mem_map.1 hy; exact (HOK.out.one z hz).2.2.1) (List.mem_map.2 ⟨x, HXM.out, rfl⟩)
        have q3 := mem_tot (f := Rx.p) (l := l.map Pod.ask) (fun y hy => by obtain ⟨z, hz, rfl⟩ := List.mem_map.1 hy; exact (HOK.out.one z hz).2.2.2.1) (List.mem_map.2 ⟨x, HXM.out, rfl⟩)
        have c1 := HOK.out.tc; have c2 := HOK.out.tm; have c3 := HOK.out.tp
        rw [← ha]
        exact ⟨fits_iff.2 (by omega), fits_iff.2 (by omega), fits_iff.2 (by omega)⟩)
      have HSO := Lib.hid (show s0.Ok by rw [← hs0]; exact usedF_ok _ z3_ok)
      rw [ha] at CO HNX
      rw [hs0, hs1] at HNX
      have CA := Lib.hid (fun u => add_any s0 a HSO.out HAO.out u)
      rw [HNX.out] at CA
      clear hx hr hin hof ha hs0 hs1
      go_wp2_with fail
      refine CO.out.mono ?_
      rintro e w2 ⟨rfl, hb2⟩
      obtain ⟨w3a, hw3a⟩ : ∃ v, w2.alloc (.cells #[.int .i64 0, .int .i64 0, .int .i64 0] 23) = v := ⟨_, rfl⟩
      have ZB := Lib.hid (show w3a.heap[w2.heap.size]? = some (.cells #[.int .i64 0, .int .i64 0, .int .i64 0] 23 (0, 0)) by rw [← hw3a]; exact heap_alloc_new _ _)
      have BU := Lib.hid (show Below w2.heap.size w2 w3a by rw [← hw3a]; exact (Below.refl _ _).alloc (Nat.le_refl _) _)
      obtain ⟨w3, hw3⟩ : ∃ v, w3a.setCells w2.heap.size 0 (R3 a) = v := ⟨_, rfl⟩
      have THz := Lib.hid (show w3a.there w2.heap.size 0 3 from Back.th ZB.out rfl)
      have ONEz := Lib.hid (show ((R3 a) : List Value).toArray.all (·.oneCell') = true by simp [Value.oneCell'])
      have HVz := Lib.hid hw3
      have ZA := Lib.hid (show w3.heap[w2.heap.size]? = some (.cells ((R3 a) : List Value).toArray 23 (0, 0)) by rw [← hw3]; exact Back.st ZB.out rfl)
      have BX := Lib.hid (show Below w2.heap.size w2 w3 by rw [← hw3]; exact bel_set BU.out (Nat.le_refl _))
      clear hw3
      have hb3 : Below wr.heap.size wr w3 := hb2.trans (BX.out.mono hb2.size)
      have BD3 := Lib.hid (BD.out.below hb3)
      have RSUM := Lib.hid (show w3.rangeAt w.heap.size 0 (R3 s0) by have := BD3.out.sum; rw [HS0.out] at this; exact range_box this)
      have RA := Lib.hid (range_box ZA.out)
      have K3 := Lib.hid ((World.cell?_of_block (hb3.block r HR.out)).trans HK0.out)
      clear k0 CO hb2
      go_wp2_with (first | (refine wpList_store_at rfl 23 _ _ rfl _ _ _ rfl rfl THz.out (by kernel_rfl) ONEz.out HVz.out ?_) | (refine wpList_load_mid rfl 23 _ rfl _ _ rfl _ _ RSUM.out Tryz.underlying23 rfl (by kernel_rfl) ?_) | (refine wpList_load_mid rfl 23 _ rfl _ _ rfl _ _ RA.out Tryz.underlying23 rfl (by kernel_rfl) ?_))
      clear hw3a THz ONEz HVz ZB BX BU RSUM RA
      refine (CA.out w3).mono ?_
      rintro e w4 ⟨rfl, hb4⟩
      obtain ⟨w5a, hw5a⟩ : ∃ v, w4.alloc (.cells #[.int .i64 0, .int .i64 0, .int .i64 0] 23) = v := ⟨_, rfl⟩
      have ZB := Lib.hid (show w5a.heap[w4.heap.size]? = some (.cells #[.int .i64 0, .int .i64 0, .int .i64 0] 23 (0, 0)) by rw [← hw5a]; exact heap_alloc_new _ _)
      have BU := Lib.hid (show Below w4.heap.size w4 w5a by rw [← hw5a]; exact (Below.refl _ _).alloc (Nat.le_refl _) _)
      obtain ⟨w5, hw5⟩ : ∃ v, w5a.setCells w4.heap.size 0 (R3 s1) = v := ⟨_, rfl⟩
      have THz := Lib.hid (show w5a.there w4.heap.size 0 3 from Back.th ZB.out rfl)
      have ONEz := Lib.hid (show ((R3 s1) : List Value).toArray.all (·.oneCell') = true by simp [Value.oneCell'])
      have HVz := Lib.hid hw5
      have ZS := Lib.hid (show w5.heap[w4.heap.size]? = some (.cells ((R3 s1) : List Value).toArray 23 (0, 0)) by rw [← hw5]; exact Back.st ZB.out rfl)
      have BX := Lib.hid (show Below w4.heap.size w4 w5 by rw [← hw5]; exact bel_set BU.out (Nat.le_refl _))
      clear hw5
      have hb5 : Below w3.heap.size w3 w5 := hb4.trans (BX.out.mono hb4.size)
      have BD5 := Lib.hid (BD3.out.below hb5)
      have RS1 := Lib.hid (range_box ZS.out)
      obtain ⟨w6, hw6⟩ : ∃ v, w5.setCells w.heap.size 0 (R3 s1) = v := ⟨_, rfl⟩
      have TH6 := Lib.hid (show w5.there w.heap.size 0 3 from Back.th BD5.out.sum rfl)
      have ONE6 := Lib.hid ONEz.out
      have HV6 := Lib.hid hw6
      have BD6 := Lib.hid (show Bd B w w6 g has l (some ⟨r, 0, none⟩) c (k + 1) by rw [← hw6, ← HS1.out]; exact BD5.out.set)
      have HRL := Lib.hid (show r < w6.heap.size by
        rw [← hw6, (Back.far w.heap.size (R3 s1) 0 w5).2.2.2.1]
        exact Nat.lt_of_lt_of_le HR.out (Nat.le_trans hb3.size hb5.size))
      have HKX := Lib.hid (show w6.cell? ⟨r, k, none⟩ = some (.int .i64 x.uid) by
        have hne : r ≠ w.heap.size := fun e => by
          have h1 := BD5.out.row
          rcases Pt.own_addr h1 with ⟨e1, _⟩ | ⟨r', e1, _, _⟩
          · cases e1
          · injection e1 with e1
            injection e1 with e1
            subst e1
            obtain ⟨_, cur, h3⟩ := Pt.owns_at h1 (r := r) rfl
            rw [e, BD5.out.sum] at h3
            injection h3 with h3
            injection h3 with _ h3 _
            exact absurd h3 (by decide)
        rw [← hw6]
        exact (World.cell?_of_block ((Back.far w.heap.size (R3 s1) 0 w5).2.2.2.2 r hne)).trans ((World.cell?_of_block ((hb3.trans (hb5.mono hb3.size)).block r HR.out)).trans HK0.out))
      clear hb4 CA hw6 K3
      go_wp2_with (first | (refine wpList_store_at rfl 23 _ _ rfl _ _ _ rfl rfl THz.out (by kernel_rfl) ONEz.out HVz.out ?_) | (refine wpList_load_mid rfl 23 _ rfl _ _ rfl _ _ RS1.out Tryz.underlying23 rfl (by kernel_rfl) ?_) | (refine wpList_store_at rfl 23 _ _ rfl _ _ _ rfl rfl TH6.out (by kernel_rfl) ONE6.out HV6.out ?_))
      clear hw5a THz ONEz HVz ZB BX BU RS1 TH6 ONE6 HV6 BD3 BD5 hb3 hb5 BD HK0 HR ZS ZA HSO HAO HNX
      go_loopw [12] (fun i wq => ∃ q : Nat, q ≤ m ∧ i = .int .i64 q ∧ Hid (Below w6.heap.size w6 wq)) (fun i _ => m - (RowKit.intOf i).toNat)
      case atStart => exact ⟨0, Nat.zero_le _, rfl, Below.refl _ _⟩
      case round =>
        obtain ⟨q, hq, rfl, HW⟩ := hrel
        by_cases hqm : q < m
        · have hqa : (q : Int) < (m : Int) := by omega
          have hq0 : (0 : Int) ≤ (q : Int) := by omega
          obtain ⟨y, hy⟩ : ∃ y, th[q]? = some y := ⟨_, List.getElem?_eq_getElem (by have := HM.out; omega)⟩
          have HYM := Lib.hid (List.mem_of_getElem? hy)
          obtain ⟨r9, rfl, hr9, _, hrg9⟩ := row9_at (Pt.owns_below H9.out (BD6.out.bel.trans (HW.out.mono BD6.out.bel.size))) hy
          have HR9 := Lib.hid hr9
          have RG9 := Lib.hid hrg9
          have HR6 := Lib.hid (Nat.lt_of_lt_of_le HRL.out HW.out.size)
          have HK6 := Lib.hid ((World.cell?_of_block (HW.out.block r HRL.out)).trans HKX.out)
          have eat9 := at_nine r9 q
          clear hy hr9 hrg9
          by_cases e : y.uid = x.uid
          · have huu : (y.uid == x.uid) = true := by simp [e]
            have CW := Lib.hid (show ∀ u, Below wr.heap.size wr u → Calls Tryz.prog 49 #[.pointer (some ⟨g, 0, none⟩), .agg y.vals.toArray] u (fun e w' => e = .returned (.bool true) ∧ Below u.heap.size u w') from fun u hu =>
              owns_any y u (BD6.out.nn.below (HW.out.trans (hu.mono HW.out.size))) (HL.out y HYM.out) ((HS.out y HYM.out).below (BD6.out.bel.trans ((HW.out.trans (hu.mono HW.out.size)).mono BD6.out.bel.size)))
                (HT.out.own HOK.out HXM.out (a := (y.uid, (askS y.S).ports)) (List.mem_map.2 ⟨y, HYM.out, rfl⟩) e))
            clear e
            go_upto_region 14 with fail
            refine Vls.wp_region (by kernel_rfl) (Jx.JX (fun u => Below wr.heap.size wr u) (fun u => Below wr.heap.size wr u) 100 101 (fun _ _ => True) [(2, 0), (2, 1), (3, 2), (4, 3), (7, 5), (7, 6), (8, 7), (9, 4), (9, 8), (10, 9), (11, 10), (12, 10), (13, 10), (14, 12), (14, 13), (14, 10), (15, 14), (15, 10), (16, 11), (16, 15), (16, 10), (17, 16), (17, 10), (18, 10), (18, 17)] [.slice (some ⟨r9, 0, none⟩) m c9, .int .i64 q, .pointer (some ⟨r9, q * 9, none⟩), .pointer (some ⟨r9, q * 9 + 1, none⟩), .int .i64 y.uid, .slice (some ⟨r, 0, none⟩) n c, .int .i64 k, .pointer (some ⟨r, k, none⟩), .int .i64 x.uid, .bool true, .bool true, .pointer (some ⟨g, 0, none⟩), .slice (some ⟨r9, 0, none⟩) m c9, .int .i64 q, .pointer (some ⟨r9, q * 9, none⟩), .agg y.vals.toArray, .bool true, .bool false, .bool false]) (by kernel_rfl) (fun _ => undef) (Jx.JX.start (P := fun u => Below wr.heap.size wr u) (Below.drew (Below.refl _ _)) _) ?_ ?_
            · refine ⟨?_, ?_, ?_, ?_, ?_, ?_, ?_, ?_, ?_, ?_, ?_, ?_, ?_, ?_, ?_, ?_, ?_, ?_, ?_, trivial⟩
              · intro s_ a_ u V hs hd hfr hpo hJ
                have f1 : a_.tmps.getD 1 undef = .slice (some ⟨r9, 0, none⟩) m c9 := hfr 1 (by kernel_rfl)
                refine .inl ⟨rfl, ?_⟩
                unfold Oper.wp
                rw [show (execOp a_.eval _).run Tryz.prog u = .ok (.value (.slice (some ⟨r9, 0, none⟩) m c9)) u from by simp [go_sem, Act.eval, f1]]
                exact ⟨_, rfl, hJ.stay 0 (by decide) (by decide) rfl rfl⟩
              · intro s_ a_ u V hs hd hfr hpo hJ
                have f12 : a_.tmps.getD 12 undef = .int .i64 q := hfr 12 (by kernel_rfl)
                refine .inl ⟨rfl, ?_⟩
                unfold Oper.wp
                rw [show (execOp a_.eval _).run Tryz.prog u = .ok (.value (.int .i64 q)) u from by simp [go_sem, Act.eval, f12]]
                exact ⟨_, rfl, hJ.stay 1 (by decide) (by decide) rfl rfl⟩
              · intro s_ a_ u V hs hd hfr hpo hJ
                have e0 : a_.tmps.getD 51 undef = .slice (some ⟨r9, 0, none⟩) m c9 := (hpo 0 51 (by kernel_rfl)).trans (hJ.get 0 (by decide) (by decide) (hd 0 (by kernel_rfl)) rfl)
                have e1 : a_.tmps.getD 52 undef = .int .i64 q := (hpo 1 52 (by kernel_rfl)).trans (hJ.get 1 (by decide) (by decide) (hd 1 (by kernel_rfl)) rfl)
                refine .inl ⟨rfl, ?_⟩
                unfold Oper.wp
                rw [show (execOp a_.eval _).run Tryz.prog u = .ok (.value (.pointer (some ⟨r9, q * 9, none⟩))) u from by simp [go_sem, Act.eval, e0, e1, hq0, hqa, eat9]]
                exact ⟨_, rfl, hJ.stay 2 (by decide) (by decide) (by show (s_ 0 && (s_ 1 && true)) = true; rw [hd 0 (by kernel_rfl), hd 1 (by kernel_rfl)]; rfl) rfl⟩
              · intro s_ a_ u V hs hd hfr hpo hJ
                have e2 : a_.tmps.getD 53 undef = .pointer (some ⟨r9, q * 9, none⟩) := (hpo 2 53 (by kernel_rfl)).trans (hJ.get 2 (by decide) (by decide) (hd 2 (by kernel_rfl)) rfl)
                refine .inl ⟨rfl, ?_⟩
                unfold Oper.wp
                rw [show (execOp a_.eval _).run Tryz.prog u = .ok (.value (.pointer (some ⟨r9, q * 9 + 1, none⟩))) u from by simp [go_sem, Act.eval, e2]]
                exact ⟨_, rfl, hJ.stay 3 (by decide) (by decide) (by show (s_ 2 && true) = true; rw [hd 2 (by kernel_rfl)]; rfl) rfl⟩
              · intro s_ a_ u V hs hd hfr hpo hJ
                have e3 : a_.tmps.getD 54 undef = .pointer (some ⟨r9, q * 9 + 1, none⟩) := (hpo 3 54 (by kernel_rfl)).trans (hJ.get 3 (by decide) (by decide) (hd 3 (by kernel_rfl)) rfl)
                have hP := hJ.both
                refine .inl ⟨rfl, ?_⟩
                have cx0 := (show u.cell? ⟨r9, q * 9 + 1, none⟩ = some (.int .i64 y.uid) from (World.cell?_of_block (hP.block r9 HR9.out)).trans (RG9.out 1 _ rfl))
                unfold Oper.wp
                rw [show (execOp a_.eval _).run Tryz.prog u = .ok (.value (.int .i64 y.uid)) u from by simp [go_sem, Act.eval, e3, cx0]]
                exact ⟨_, rfl, hJ.stay 4 (by decide) (by decide) (by show (s_ 3 && true) = true; rw [hd 3 (by kernel_rfl)]; rfl) rfl⟩
              · intro s_ a_ u V hs hd hfr hpo hJ
                have f6 : a_.tmps.getD 6 undef = .slice (some ⟨r, 0, none⟩) n c := hfr 6 (by kernel_rfl)
                refine .inl ⟨rfl, ?_⟩
                unfold Oper.wp
                rw [show (execOp a_.eval _).run Tryz.prog u = .ok (.value (.slice (some ⟨r, 0, none⟩) n c)) u from by simp [go_sem, Act.eval, f6]]
                exact ⟨_, rfl, hJ.stay 5 (by decide) (by decide) rfl rfl⟩
              · intro s_ a_ u V hs hd hfr hpo hJ
                have f7 : a_.tmps.getD 7 undef = .int .i64 k := hfr 7 (by kernel_rfl)
                refine .inl ⟨rfl, ?_⟩
                unfold Oper.wp
                rw [show (execOp a_.eval _).run Tryz.prog u = .ok (.value (.int .i64 k)) u from by simp [go_sem, Act.eval, f7]]
                exact ⟨_, rfl, hJ.stay 6 (by decide) (by decide) rfl rfl⟩
              · intro s_ a_ u V hs hd hfr hpo hJ
                have e5 : a_.tmps.getD 56 undef = .slice (some ⟨r, 0, none⟩) n c := (hpo 5 56 (by kernel_rfl)).trans (hJ.get 5 (by decide) (by decide) (hd 5 (by kernel_rfl)) rfl)
                have e6 : a_.tmps.getD 57 undef = .int .i64 k := (hpo 6 57 (by kernel_rfl)).trans (hJ.get 6 (by decide) (by decide) (hd 6 (by kernel_rfl)) rfl)
                refine .inl ⟨rfl, ?_⟩
                unfold Oper.wp
                rw [show (execOp a_.eval _).run Tryz.prog u = .ok (.value (.pointer (some ⟨r, k, none⟩))) u from by simp [go_sem, Act.eval, e5, e6, hk0, hka, eat1]]
                exact ⟨_, rfl, hJ.stay 7 (by decide) (by decide) (by show (s_ 5 && (s_ 6 && true)) = true; rw [hd 5 (by kernel_rfl), hd 6 (by kernel_rfl)]; rfl) rfl⟩
              · intro s_ a_ u V hs hd hfr hpo hJ
                have e7 : a_.tmps.getD 58 undef = .pointer (some ⟨r, k, none⟩) := (hpo 7 58 (by kernel_rfl)).trans (hJ.get 7 (by decide) (by decide) (hd 7 (by kernel_rfl)) rfl)
                have hP := hJ.both
                refine .inl ⟨rfl, ?_⟩
                have cx0 := (World.cell?_of_block (hP.block r HR6.out)).trans HK6.out
                unfold Oper.wp
                rw [show (execOp a_.eval _).run Tryz.prog u = .ok (.value (.int .i64 x.uid)) u from by simp [go_sem, Act.eval, e7, cx0]]
                exact ⟨_, rfl, hJ.stay 8 (by decide) (by decide) (by show (s_ 7 && true) = true; rw [hd 7 (by kernel_rfl)]; rfl) rfl⟩
              · intro s_ a_ u V hs hd hfr hpo hJ
                have e4 : a_.tmps.getD 55 undef = .int .i64 y.uid := (hpo 4 55 (by kernel_rfl)).trans (hJ.get 4 (by decide) (by decide) (hd 4 (by kernel_rfl)) rfl)
                have e8 : a_.tmps.getD 59 undef = .int .i64 x.uid := (hpo 8 59 (by kernel_rfl)).trans (hJ.get 8 (by decide) (by decide) (hd 8 (by kernel_rfl)) rfl)
                refine .inl ⟨rfl, ?_⟩
                unfold Oper.wp
                rw [show (execOp a_.eval _).run Tryz.prog u = .ok (.value (.bool true)) u from by simp [go_sem, Act.eval, e4, e8, huu]]
                exact ⟨_, rfl, hJ.stay 9 (by decide) (by decide) (by show (s_ 4 && (s_ 8 && true)) = true; rw [hd 4 (by kernel_rfl), hd 8 (by kernel_rfl)]; rfl) rfl⟩
              · intro s_ a_ u V hs hd hfr hpo hJ
                have e9 : a_.tmps.getD 60 undef = .bool true := (hpo 9 60 (by kernel_rfl)).trans (hJ.get 9 (by decide) (by decide) (hd 9 (by kernel_rfl)) rfl)
                refine .inl ⟨rfl, ?_⟩
                unfold Oper.wp
                rw [show (execOp a_.eval _).run Tryz.prog u = .ok (.value (.bool true)) u from by simp [go_sem, Act.eval, e9]]
                exact ⟨_, rfl, hJ.stay 10 (by decide) (by decide) (by show (s_ 9 && true) = true; rw [hd 9 (by kernel_rfl)]; rfl) rfl⟩
              · intro s_ a_ u V hs hd hfr hpo hJ
                have f0 : a_.tmps.getD 0 undef = .pointer (some ⟨g, 0, none⟩) := hfr 0 (by kernel_rfl)
                have e10 : a_.tmps.getD 61 undef = .bool true := (hpo 10 61 (by kernel_rfl)).trans (hJ.get 10 (by decide) (by decide) (hd 10 (by kernel_rfl)) rfl)
                refine .inl ⟨Jx.wanted_of rfl rfl e10, ?_⟩
                unfold Oper.wp
                rw [show (execOp a_.eval _).run Tryz.prog u = .ok (.value (.pointer (some ⟨g, 0, none⟩))) u from by simp [go_sem, Act.eval, f0, e10]]
                exact ⟨_, rfl, hJ.stay 11 (by decide) (by decide) (by show (s_ 10 && true) = true; rw [hd 10 (by kernel_rfl)]; rfl) rfl⟩
              · intro s_ a_ u V hs hd hfr hpo hJ
                have f1 : a_.tmps.getD 1 undef = .slice (some ⟨r9, 0, none⟩) m c9 := hfr 1 (by kernel_rfl)
                have e10 : a_.tmps.getD 61 undef = .bool true := (hpo 10 61 (by kernel_rfl)).trans (hJ.get 10 (by decide) (by decide) (hd 10 (by kernel_rfl)) rfl)
                refine .inl ⟨Jx.wanted_of rfl rfl e10, ?_⟩
                unfold Oper.wp
                rw [show (execOp a_.eval _).run Tryz.prog u = .ok (.value (.slice (some ⟨r9, 0, none⟩) m c9)) u from by simp [go_sem, Act.eval, f1, e10]]
                exact ⟨_, rfl, hJ.stay 12 (by decide) (by decide) (by show (s_ 10 && true) = true; rw [hd 10 (by kernel_rfl)]; rfl) rfl⟩
              · intro s_ a_ u V hs hd hfr hpo hJ
                have f12 : a_.tmps.getD 12 undef = .int .i64 q := hfr 12 (by kernel_rfl)
                have e10 : a_.tmps.getD 61 undef = .bool true := (hpo 10 61 (by kernel_rfl)).trans (hJ.get 10 (by decide) (by decide) (hd 10 (by kernel_rfl)) rfl)
                refine .inl ⟨Jx.wanted_of rfl rfl e10, ?_⟩
                unfold Oper.wp
                rw [show (execOp a_.eval _).run Tryz.prog u = .ok (.value (.int .i64 q)) u from by simp [go_sem, Act.eval, f12, e10]]
                exact ⟨_, rfl, hJ.stay 13 (by decide) (by decide) (by show (s_ 10 && true) = true; rw [hd 10 (by kernel_rfl)]; rfl) rfl⟩
              · intro s_ a_ u V hs hd hfr hpo hJ
                have e12 : a_.tmps.getD 63 undef = .slice (some ⟨r9, 0, none⟩) m c9 := (hpo 12 63 (by kernel_rfl)).trans (hJ.get 12 (by decide) (by decide) (hd 12 (by kernel_rfl)) rfl)
                have e13 : a_.tmps.getD 64 undef = .int .i64 q := (hpo 13 64 (by kernel_rfl)).trans (hJ.get 13 (by decide) (by decide) (hd 13 (by kernel_rfl)) rfl)
                have e10 : a_.tmps.getD 61 undef = .bool true := (hpo 10 61 (by kernel_rfl)).trans (hJ.get 10 (by decide) (by decide) (hd 10 (by kernel_rfl)) rfl)
                refine .inl ⟨Jx.wanted_of rfl rfl e10, ?_⟩
                unfold Oper.wp
                rw [show (execOp a_.eval _).run Tryz.prog u = .ok (.value (.pointer (some ⟨r9, q * 9, none⟩))) u from by simp [go_sem, Act.eval, e12, e13, e10, hq0, hqa, eat9]]
                exact ⟨_, rfl, hJ.stay 14 (by decide) (by decide) (by show (s_ 12 && (s_ 13 && (s_ 10 && true))) = true; rw [hd 12 (by kernel_rfl), hd 13 (by kernel_rfl), hd 10 (by kernel_rfl)]; rfl) rfl⟩
              · intro s_ a_ u V hs hd hfr hpo hJ
                have e14 : a_.tmps.getD 65 undef = .pointer (some ⟨r9, q * 9, none⟩) := (hpo 14 65 (by kernel_rfl)).trans (hJ.get 14 (by decide) (by decide) (hd 14 (by kernel_rfl)) rfl)
                have e10 : a_.tmps.getD 61 undef = .bool true := (hpo 10 61 (by kernel_rfl)).trans (hJ.get 10 (by decide) (by decide) (hd 10 (by kernel_rfl)) rfl)
                have hP := hJ.both
                refine .inl ⟨Jx.wanted_of rfl rfl e10, ?_⟩
                exact wp_load_mid 37 (.tmp 65) rfl (r9) ((q * 9)) e14 y.vals _ ((fun j v hv => (World.cell?_of_block (hP.block r9 HR9.out)).trans (RG9.out j v hv))) Tryz.underlying37 rfl (by kernel_rfl) ⟨_, rfl, hJ.stay 15 (by decide) (by decide) (by show (s_ 14 && (s_ 10 && true)) = true; rw [hd 14 (by kernel_rfl), hd 10 (by kernel_rfl)]; rfl) rfl⟩
              · intro s_ a_ u V hs hd hfr hpo hJ
                have e11 : a_.tmps.getD 62 undef = .pointer (some ⟨g, 0, none⟩) := (hpo 11 62 (by kernel_rfl)).trans (hJ.get 11 (by decide) (by decide) (hd 11 (by kernel_rfl)) rfl)
                have e15 : a_.tmps.getD 66 undef = .agg y.vals.toArray := (hpo 15 66 (by kernel_rfl)).trans (hJ.get 15 (by decide) (by decide) (hd 15 (by kernel_rfl)) rfl)
                have e10 : a_.tmps.getD 61 undef = .bool true := (hpo 10 61 (by kernel_rfl)).trans (hJ.get 10 (by decide) (by decide) (hd 10 (by kernel_rfl)) rfl)
                have hP := hJ.both
                refine .inl ⟨Jx.wanted_of rfl rfl e10, ?_⟩
                unfold Oper.wp
                rw [show (execOp a_.eval _).run Tryz.prog u = .ok (.enter 49 #[.pointer (some ⟨g, 0, none⟩), .agg y.vals.toArray]) u from by simp [go_sem, Act.eval, e11, e15, e10]]
                refine Calls.mono (CW.out u hP) ?_
                rintro e u2 ⟨rfl, hb⟩
                exact ⟨_, rfl, hJ.step 16 (by decide) (by decide) (by show (s_ 11 && (s_ 15 && (s_ 10 && true))) = true; rw [hd 11 (by kernel_rfl), hd 15 (by kernel_rfl), hd 10 (by kernel_rfl)]; rfl) (fun _ hP => hP.trans (hb.mono hP.size)) (fun _ hP => hP.trans (hb.mono hP.size)) (fun _ _ hR => hR) rfl⟩
              · intro s_ a_ u V hs hd hfr hpo hJ
                have e16 : a_.tmps.getD 67 undef = .bool true := (hpo 16 67 (by kernel_rfl)).trans (hJ.get 16 (by decide) (by decide) (hd 16 (by kernel_rfl)) rfl)
                have e10 : a_.tmps.getD 61 undef = .bool true := (hpo 10 61 (by kernel_rfl)).trans (hJ.get 10 (by decide) (by decide) (hd 10 (by kernel_rfl)) rfl)
                refine .inl ⟨Jx.wanted_of rfl rfl e10, ?_⟩
                unfold Oper.wp
                rw [show (execOp a_.eval _).run Tryz.prog u = .ok (.value (.bool false)) u from by simp [go_sem, Act.eval, e16, e10]]
                exact ⟨_, rfl, hJ.stay 17 (by decide) (by decide) (by show (s_ 16 && (s_ 10 && true)) = true; rw [hd 16 (by kernel_rfl), hd 10 (by kernel_rfl)]; rfl) rfl⟩
              · intro s_ a_ u V hs hd hfr hpo hJ
                have e10 : a_.tmps.getD 61 undef = .bool true := (hpo 10 61 (by kernel_rfl)).trans (hJ.get 10 (by decide) (by decide) (hd 10 (by kernel_rfl)) rfl)
                have e17 : a_.tmps.getD 68 undef = .bool false := (hpo 17 68 (by kernel_rfl)).trans (hJ.get 17 (by decide) (by decide) (hd 17 (by kernel_rfl)) rfl)
                refine .inl ⟨rfl, ?_⟩
                unfold Oper.wp
                rw [show (execOp a_.eval _).run Tryz.prog u = .ok (.value (.bool false)) u from by simp [go_sem, Act.eval, e10, e17]]
                exact ⟨_, rfl, hJ.stay 18 (by decide) (by decide) (by show (s_ 10 && (s_ 17 && true)) = true; rw [hd 10 (by kernel_rfl), hd 17 (by kernel_rfl)]; rfl) rfl⟩
            · intro s_ V w8 hall hJ
              have e18 : V 18 = .bool false := hJ.get 18 (by decide) (by decide) (hall 18 (by decide)) rfl
              have HW8 := Lib.hid (HW.out.trans (hJ.both.mono HW.out.size))
              clear hall hJ HR9 RG9 HR6 HK6 eat9
              simp only [Bxs.puts, Nat.reduceAdd, put_none, Re.put_lit, List.set_cons_succ, List.set_cons_zero]
              rw [e18]
              clear e18
              go_wp2
              go_roundw
              case rel => exact ⟨q + 1, by omega, by go_num, HW8.out⟩
              case measure => simp [RowKit.intOf]; omega
          · have huu : (y.uid == x.uid) = false := by simpa using e
            clear e
            go_upto_region 14 with fail
            refine Vls.wp_region (by kernel_rfl) (Jx.JX (fun u => Below wr.heap.size wr u) (fun u => Below wr.heap.size wr u) 100 101 (fun _ _ => True) [(2, 0), (2, 1), (3, 2), (4, 3), (7, 5), (7, 6), (8, 7), (9, 4), (9, 8), (10, 9), (11, 10), (12, 10), (13, 10), (14, 10), (15, 10), (16, 10), (17, 10), (18, 10)] [.slice (some ⟨r9, 0, none⟩) m c9, .int .i64 q, .pointer (some ⟨r9, q * 9, none⟩), .pointer (some ⟨r9, q * 9 + 1, none⟩), .int .i64 y.uid, .slice (some ⟨r, 0, none⟩) n c, .int .i64 k, .pointer (some ⟨r, k, none⟩), .int .i64 x.uid, .bool false, .bool false, undef, undef, undef, undef, undef, undef, undef, .bool false]) (by kernel_rfl) (fun _ => undef) (Jx.JX.start (P := fun u => Below wr.heap.size wr u) (Below.drew (Below.refl _ _)) _) ?_ ?_
            · refine ⟨?_, ?_, ?_, ?_, ?_, ?_, ?_, ?_, ?_, ?_, ?_, ?_, ?_, ?_, ?_, ?_, ?_, ?_, ?_, trivial⟩
              · intro s_ a_ u V hs hd hfr hpo hJ
                have f1 : a_.tmps.getD 1 undef = .slice (some ⟨r9, 0, none⟩) m c9 := hfr 1 (by kernel_rfl)
                refine .inl ⟨rfl, ?_⟩
                unfold Oper.wp
                rw [show (execOp a_.eval _).run Tryz.prog u = .ok (.value (.slice (some ⟨r9, 0, none⟩) m c9)) u from by simp [go_sem, Act.eval, f1]]
                exact ⟨_, rfl, hJ.stay 0 (by decide) (by decide) rfl rfl⟩
              · intro s_ a_ u V hs hd hfr hpo hJ
                have f12 : a_.tmps.getD 12 undef = .int .i64 q := hfr 12 (by kernel_rfl)
                refine .inl ⟨rfl, ?_⟩
                unfold Oper.wp
                rw [show (execOp a_.eval _).run Tryz.prog u = .ok (.value (.int .i64 q)) u from by simp [go_sem, Act.eval, f12]]
                exact ⟨_, rfl, hJ.stay 1 (by decide) (by decide) rfl rfl⟩
              · intro s_ a_ u V hs hd hfr hpo hJ
                have e0 : a_.tmps.getD 51 undef = .slice (some ⟨r9, 0, none⟩) m c9 := (hpo 0 51 (by kernel_rfl)).trans (hJ.get 0 (by decide) (by decide) (hd 0 (by kernel_rfl)) rfl)
                have e1 : a_.tmps.getD 52 undef = .int .i64 q := (hpo 1 52 (by kernel_rfl)).trans (hJ.get 1 (by decide) (by decide) (hd 1 (by kernel_rfl)) rfl)
                refine .inl ⟨rfl, ?_⟩
                unfold Oper.wp
                rw [show (execOp a_.eval _).run Tryz.prog u = .ok (.value (.pointer (some ⟨r9, q * 9, none⟩))) u from by simp [go_sem, Act.eval, e0, e1, hq0, hqa, eat9]]
                exact ⟨_, rfl, hJ.stay 2 (by decide) (by decide) (by show (s_ 0 && (s_ 1 && true)) = true; rw [hd 0 (by kernel_rfl), hd 1 (by kernel_rfl)]; rfl) rfl⟩
              · intro s_ a_ u V hs hd hfr hpo hJ
                have e2 : a_.tmps.getD 53 undef = .pointer (some ⟨r9, q * 9, none⟩) := (hpo 2 53 (by kernel_rfl)).trans (hJ.get 2 (by decide) (by decide) (hd 2 (by kernel_rfl)) rfl)
                refine .inl ⟨rfl, ?_⟩
                unfold Oper.wp
                rw [show (execOp a_.eval _).run Tryz.prog u = .ok (.value (.pointer (some ⟨r9, q * 9 + 1, none⟩))) u from by simp [go_sem, Act.eval, e2]]
                exact ⟨_, rfl, hJ.stay 3 (by decide) (by decide) (by show (s_ 2 && true) = true; rw [hd 2 (by kernel_rfl)]; rfl) rfl⟩
              · intro s_ a_ u V hs hd hfr hpo hJ
                have e3 : a_.tmps.getD 54 undef = .pointer (some ⟨r9, q * 9 + 1, none⟩) := (hpo 3 54 (by kernel_rfl)).trans (hJ.get 3 (by decide) (by decide) (hd 3 (by kernel_rfl)) rfl)
                have hP := hJ.both
                refine .inl ⟨rfl, ?_⟩
                have cx0 := (show u.cell? ⟨r9, q * 9 + 1, none⟩ = some (.int .i64 y.uid) from (World.cell?_of_block (hP.block r9 HR9.out)).trans (RG9.out 1 _ rfl))
                unfold Oper.wp
                rw [show (execOp a_.eval _).run Tryz.prog u = .ok (.value (.int .i64 y.uid)) u from by simp [go_sem, Act.eval, e3, cx0]]
                exact ⟨_, rfl, hJ.stay 4 (by decide) (by decide) (by show (s_ 3 && true) = true; rw [hd 3 (by kernel_rfl)]; rfl) rfl⟩
              · intro s_ a_ u V hs hd hfr hpo hJ
                have f6 : a_.tmps.getD 6 undef = .slice (some ⟨r, 0, none⟩) n c := hfr 6 (by kernel_rfl)
                refine .inl ⟨rfl, ?_⟩
                unfold Oper.wp
                rw [show (execOp a_.eval _).run Tryz.prog u = .ok (.value (.slice (some ⟨r, 0, none⟩) n c)) u from by simp [go_sem, Act.eval, f6]]
                exact ⟨_, rfl, hJ.stay 5 (by decide) (by decide) rfl rfl⟩
              · intro s_ a_ u V hs hd hfr hpo hJ
                have f7 : a_.tmps.getD 7 undef = .int .i64 k := hfr 7 (by kernel_rfl)
                refine .inl ⟨rfl, ?_⟩
                unfold Oper.wp
                rw [show (execOp a_.eval _).run Tryz.prog u = .ok (.value (.int .i64 k)) u from by simp [go_sem, Act.eval, f7]]
                exact ⟨_, rfl, hJ.stay 6 (by decide) (by decide) rfl rfl⟩
              · intro s_ a_ u V hs hd hfr hpo hJ
                have e5 : a_.tmps.getD 56 undef = .slice (some ⟨r, 0, none⟩) n c := (hpo 5 56 (by kernel_rfl)).trans (hJ.get 5 (by decide) (by decide) (hd 5 (by kernel_rfl)) rfl)
                have e6 : a_.tmps.getD 57 undef = .int .i64 k := (hpo 6 57 (by kernel_rfl)).trans (hJ.get 6 (by decide) (by decide) (hd 6 (by kernel_rfl)) rfl)
                refine .inl ⟨rfl, ?_⟩
                unfold Oper.wp
                rw [show (execOp a_.eval _).run Tryz.prog u = .ok (.value (.pointer (some ⟨r, k, none⟩))) u from by simp [go_sem, Act.eval, e5, e6, hk0, hka, eat1]]
                exact ⟨_, rfl, hJ.stay 7 (by decide) (by decide) (by show (s_ 5 && (s_ 6 && true)) = true; rw [hd 5 (by kernel_rfl), hd 6 (by kernel_rfl)]; rfl) rfl⟩
              · intro s_ a_ u V hs hd hfr hpo hJ
                have e7 : a_.tmps.getD 58 undef = .pointer (some ⟨r, k, none⟩) := (hpo 7 58 (by kernel_rfl)).trans (hJ.get 7 (by decide) (by decide) (hd 7 (by kernel_rfl)) rfl)
                have hP := hJ.both
                refine .inl ⟨rfl, ?_⟩
                have cx0 := (World.cell?_of_block (hP.block r HR6.out)).trans HK6.out
                unfold Oper.wp
                rw [show (execOp a_.eval _).run Tryz.prog u = .ok (.value (.int .i64 x.uid)) u from by simp [go_sem, Act.eval, e7, cx0]]
                exact ⟨_, rfl, hJ.stay 8 (by decide) (by decide) (by show (s_ 7 && true) = true; rw [hd 7 (by kernel_rfl)]; rfl) rfl⟩
              · intro s_ a_ u V hs hd hfr hpo hJ
                have e4 : a_.tmps.getD 55 undef = .int .i64 y.uid := (hpo 4 55 (by kernel_rfl)).trans (hJ.get 4 (by decide) (by decide) (hd 4 (by kernel_rfl)) rfl)
                have e8 : a_.tmps.getD 59 undef = .int .i64 x.uid := (hpo 8 59 (by kernel_rfl)).trans (hJ.get 8 (by decide) (by decide) (hd 8 (by kernel_rfl)) rfl)
                refine .inl ⟨rfl, ?_⟩
                unfold Oper.wp
                rw [show (execOp a_.eval _).run Tryz.prog u = .ok (.value (.bool false)) u from by simp [go_sem, Act.eval, e4, e8, huu]]
                exact ⟨_, rfl, hJ.stay 9 (by decide) (by decide) (by show (s_ 4 && (s_ 8 && true)) = true; rw [hd 4 (by kernel_rfl), hd 8 (by kernel_rfl)]; rfl) rfl⟩
              · intro s_ a_ u V hs hd hfr hpo hJ
                have e9 : a_.tmps.getD 60 undef = .bool false := (hpo 9 60 (by kernel_rfl)).trans (hJ.get 9 (by decide) (by decide) (hd 9 (by kernel_rfl)) rfl)
                refine .inl ⟨rfl, ?_⟩
                unfold Oper.wp
                rw [show (execOp a_.eval _).run Tryz.prog u = .ok (.value (.bool false)) u from by simp [go_sem, Act.eval, e9]]
                exact ⟨_, rfl, hJ.stay 10 (by decide) (by decide) (by show (s_ 9 && true) = true; rw [hd 9 (by kernel_rfl)]; rfl) rfl⟩
              · intro s_ a_ u V hs hd hfr hpo hJ
                have gd : a_.tmps.getD 61 undef = .bool false := (hpo 10 61 (by kernel_rfl)).trans (hJ.get 10 (by decide) (by decide) (hd 10 (by kernel_rfl)) rfl)
                exact .inr ⟨Jx.unwanted_of rfl rfl gd, hJ.stay 11 (by decide) (by decide) (by show (s_ 10 && true) = true; rw [hd 10 (by kernel_rfl)]; rfl) rfl⟩
              · intro s_ a_ u V hs hd hfr hpo hJ
                have gd : a_.tmps.getD 61 undef = .bool false := (hpo 10 61 (by kernel_rfl)).trans (hJ.get 10 (by decide) (by decide) (hd 10 (by kernel_rfl)) rfl)
                exact .inr ⟨Jx.unwanted_of rfl rfl gd, hJ.stay 12 (by decide) (by decide) (by show (s_ 10 && true) = true; rw [hd 10 (by kernel_rfl)]; rfl) rfl⟩
              · intro s_ a_ u V hs hd hfr hpo hJ
                have gd : a_.tmps.getD 61 undef = .bool false := (hpo 10 61 (by kernel_rfl)).trans (hJ.get 10 (by decide) (by decide) (hd 10 (by kernel_rfl)) rfl)
                exact .inr ⟨Jx.unwanted_of rfl rfl gd, hJ.stay 13 (by decide) (by decide) (by show (s_ 10 && true) = true; rw [hd 10 (by kernel_rfl)]; rfl) rfl⟩
              · intro s_ a_ u V hs hd hfr hpo hJ
                have gd : a_.tmps.getD 61 undef = .bool false := (hpo 10 61 (by kernel_rfl)).trans (hJ.get 10 (by decide) (by decide) (hd 10 (by kernel_rfl)) rfl)
                exact .inr ⟨Jx.unwanted_of rfl rfl gd, hJ.stay 14 (by decide) (by decide) (by show (s_ 10 && true) = true; rw [hd 10 (by kernel_rfl)]; rfl) rfl⟩
              · intro s_ a_ u V hs hd hfr hpo hJ
                have gd : a_.tmps.getD 61 undef = .bool false := (hpo 10 61 (by kernel_rfl)).trans (hJ.get 10 (by decide) (by decide) (hd 10 (by kernel_rfl)) rfl)
                exact .inr ⟨Jx.unwanted_of rfl rfl gd, hJ.stay 15 (by decide) (by decide) (by show (s_ 10 && true) = true; rw [hd 10 (by kernel_rfl)]; rfl) rfl⟩
              · intro s_ a_ u V hs hd hfr hpo hJ
                have gd : a_.tmps.getD 61 undef = .bool false := (hpo 10 61 (by kernel_rfl)).trans (hJ.get 10 (by decide) (by decide) (hd 10 (by kernel_rfl)) rfl)
                exact .inr ⟨Jx.unwanted_of rfl rfl gd, hJ.stay 16 (by decide) (by decide) (by show (s_ 10 && true) = true; rw [hd 10 (by kernel_rfl)]; rfl) rfl⟩
              · intro s_ a_ u V hs hd hfr hpo hJ
                have gd : a_.tmps.getD 61 undef = .bool false := (hpo 10 61 (by kernel_rfl)).trans (hJ.get 10 (by decide) (by decide) (hd 10 (by kernel_rfl)) rfl)
                exact .inr ⟨Jx.unwanted_of rfl rfl gd, hJ.stay 17 (by decide) (by decide) (by show (s_ 10 && true) = true; rw [hd 10 (by kernel_rfl)]; rfl) rfl⟩
              · intro s_ a_ u V hs hd hfr hpo hJ
                have e10 : a_.tmps.getD 61 undef = .bool false := (hpo 10 61 (by kernel_rfl)).trans (hJ.get 10 (by decide) (by decide) (hd 10 (by kernel_rfl)) rfl)
                refine .inl ⟨rfl, ?_⟩
                unfold Oper.wp
                rw [show (execOp a_.eval _).run Tryz.prog u = .ok (.value (.bool false)) u from by simp [go_sem, Act.eval, e10]]
                exact ⟨_, rfl, hJ.stay 18 (by decide) (by decide) (by show (s_ 10 && true) = true; rw [hd 10 (by kernel_rfl)]; rfl) rfl⟩
            · intro s_ V w8 hall hJ
              have e18 : V 18 = .bool false := hJ.get 18 (by decide) (by decide) (hall 18 (by decide)) rfl
              have HW8 := Lib.hid (HW.out.trans (hJ.both.mono HW.out.size))
              clear hall hJ HR9 RG9 HR6 HK6 eat9
              simp only [Bxs.puts, Nat.reduceAdd, put_none, Re.put_lit, List.set_cons_succ, List.set_cons_zero]
              rw [e18]
              clear e18
              go_wp2
              go_roundw
              case rel => exact ⟨q + 1, by omega, by go_num, HW8.out⟩
              case measure => simp [RowKit.intOf]; omega
        · have hqa : ¬ (q : Int) < (m : Int) := by omega
          have BD7 := Lib.hid (BD6.out.below HW.out)
          go_wp2
          go_roundw
          case rel => exact ⟨k + 1, by omega, by go_num, BD7.out⟩
          case measure => simp [RowKit.intOf]; omega
    · have hka : ¬ (k : Int) < (n : Int) := by omega
      obtain ⟨us, hus⟩ : ∃ us, usedR l = us := ⟨_, rfl⟩
      obtain ⟨lf, hlf⟩ : ∃ lf, (subR has us).1 = lf := ⟨_, rfl⟩
      have HSUM := Lib.hid (show wr.heap[w.heap.size]? = some (.cells (R3 us).toArray 23 (0, 0)) by
        have := BD.out.sum
        rw [List.take_of_length_le (by have := HNL.out; omega), hus] at this
        exact this)
      have CH := Lib.hid (show ∀ u, Below wr.heap.size wr u → Calls Tryz.prog 15 #[.pointer (some ⟨g, 0, none⟩)] u (Told1 has u) from fun u hu => has_any u (BD.out.nn.below hu))
      have CU := Lib.hid (show ∀ u, Below wr.heap.size wr u → Calls Tryz.prog 13 #[.pointer (some ⟨g, 0, none⟩)] u (Told1 us u) from fun u hu => by rw [← hus]; exact used_any u (BD.out.nn.below hu))
      have CL := Lib.hid (show ∀ u, Below wr.heap.size wr u → Calls Tryz.prog 14 #[.pointer (some ⟨g, 0, none⟩)] u (Told1 lf u) from fun u hu => by rw [← hlf, ← hus]; exact left_any u (BD.out.nn.below hu))
      have CS := Lib.hid (show ∀ u, Calls Tryz.prog 38 #[.agg (R3 has).toArray, .agg (R3 us).toArray] u (fun e w' => e = .returned (.tuple #[.agg (R3 lf).toArray, .bool true]) ∧ Below u.heap.size u w') from fun u => by
        have := sub_any has us HOK.out.has_ok (by rw [← hus]; exact HOK.out.used_ok) u
        rw [show subR has us = (lf, true) from Prod.ext hlf (by rw [← hus, HOK.out.left])] at this
        exact this)
      clear hus hlf
      go_wp2_with fail
      refine (CH.out wr (Below.refl _ _)).mono ?_
      rintro e w2 ⟨rfl, hb2⟩
      go_wp2_with fail
      refine (CU.out w2 hb2).mono ?_
      rintro e w3 ⟨rfl, hb3⟩
      go_wp2_with fail
      refine (CS.out w3).mono ?_
      rintro e w4 ⟨rfl, hb4⟩
      obtain ⟨w5a, hw5a⟩ : ∃ v, w4.alloc (.cells #[.int .i64 0, .int .i64 0, .int .i64 0] 23) = v := ⟨_, rfl⟩
      have ZB := Lib.hid (show w5a.heap[w4.heap.size]? = some (.cells #[.int .i64 0, .int .i64 0, .int .i64 0] 23 (0, 0)) by rw [← hw5a]; exact heap_alloc_new _ _)
      have BU := Lib.hid (show Below w4.heap.size w4 w5a by rw [← hw5a]; exact (Below.refl _ _).alloc (Nat.le_refl _) _)
      obtain ⟨w5, hw5⟩ : ∃ v, w5a.setCells w4.heap.size 0 (R3 lf) = v := ⟨_, rfl⟩
      have THz := Lib.hid (show w5a.there w4.heap.size 0 3 from Back.th ZB.out rfl)
      have ONEz := Lib.hid (show ((R3 lf) : List Value).toArray.all (·.oneCell') = true by simp [Value.oneCell'])
      have HVz := Lib.hid hw5
      have ZA := Lib.hid (show w5.heap[w4.heap.size]? = some (.cells ((R3 lf) : List Value).toArray 23 (0, 0)) by rw [← hw5]; exact Back.st ZB.out rfl)
      have BX := Lib.hid (show Below w4.heap.size w4 w5 by rw [← hw5]; exact bel_set BU.out (Nat.le_refl _))
      clear hw5
      have B5 := Lib.hid (((hb2.trans (hb3.mono hb2.size)).trans (hb4.mono (Nat.le_trans hb2.size hb3.size))).trans (BX.out.mono (Nat.le_trans hb2.size (Nat.le_trans hb3.size hb4.size))))
      clear hb2 hb3 hb4
      go_upto_region 17 with (first | (refine wpList_store_at rfl 23 _ _ rfl _ _ _ rfl rfl THz.out (by kernel_rfl) ONEz.out HVz.out ?_))
      clear hw5a THz ONEz HVz ZB BX BU CS CH
      refine Vls.wp_region (by kernel_rfl) (Jx.JX (fun u => Below w5.heap.size w5 u) (fun u => Below w5.heap.size w5 u) 100 101 (fun _ _ => True) [(2, 1), (3, 0), (3, 2), (4, 3), (5, 4), (6, 4), (6, 5), (7, 6), (8, 7), (9, 7), (10, 9), (10, 7), (11, 8), (11, 10), (11, 7), (12, 7), (12, 11), (13, 12)] [.agg (R3 us).toArray, .pointer (some ⟨g, 0, none⟩), .agg (R3 us).toArray, .bool true, .bool true, .bool true, .bool true, .bool true, .agg (R3 lf).toArray, .pointer (some ⟨g, 0, none⟩), .agg (R3 lf).toArray, .bool true, .bool true, .bool true]) (by kernel_rfl) (fun _ => undef) (Jx.JX.start (P := fun u => Below w5.heap.size w5 u) (Below.drew (Below.refl _ _)) _) ?_ ?_
      · refine ⟨?_, ?_, ?_, ?_, ?_, ?_, ?_, ?_, ?_, ?_, ?_, ?_, ?_, ?_, trivial⟩
        · intro s_ a_ u V hs hd hfr hpo hJ
          have f5 : a_.tmps.getD 5 undef = .pointer (some ⟨w.heap.size, 0, none⟩) := hfr 5 (by kernel_rfl)
          have hP := hJ.both
          refine .inl ⟨rfl, ?_⟩
          exact wp_load_mid 23 (.tmp 5) rfl (w.heap.size) (0) f5 (R3 us) _ (range_box (((B5.out.trans (hP.mono B5.out.size)).block _ (lt_of_block HSUM.out)).trans HSUM.out)) Tryz.underlying23 rfl (by kernel_rfl) ⟨_, rfl, hJ.stay 0 (by decide) (by decide) rfl rfl⟩
        · intro s_ a_ u V hs hd hfr hpo hJ
          have f0 : a_.tmps.getD 0 undef = .pointer (some ⟨g, 0, none⟩) := hfr 0 (by kernel_rfl)
          refine .inl ⟨rfl, ?_⟩
          unfold Oper.wp
          rw [show (execOp a_.eval _).run Tryz.prog u = .ok (.value (.pointer (some ⟨g, 0, none⟩))) u from by simp [go_sem, Act.eval, f0]]
          exact ⟨_, rfl, hJ.stay 1 (by decide) (by decide) rfl rfl⟩
        · intro s_ a_ u V hs hd hfr hpo hJ
          have e1 : a_.tmps.getD 79 undef = .pointer (some ⟨g, 0, none⟩) := (hpo 1 79 (by kernel_rfl)).trans (hJ.get 1 (by decide) (by decide) (hd 1 (by kernel_rfl)) rfl)
          have hP := hJ.both
          refine .inl ⟨rfl, ?_⟩
          unfold Oper.wp
          rw [show (execOp a_.eval _).run Tryz.prog u = .ok (.enter 13 #[.pointer (some ⟨g, 0, none⟩)]) u from by simp [go_sem, Act.eval, e1]]
          refine Calls.mono (CU.out u (B5.out.trans (hP.mono B5.out.size))) ?_
          rintro e u2 ⟨rfl, hb⟩
          exact ⟨_, rfl, hJ.step 2 (by decide) (by decide) (by show (s_ 1 && true) = true; rw [hd 1 (by kernel_rfl)]; rfl) (fun _ hP => hP.trans (hb.mono hP.size)) (fun _ hP => hP.trans (hb.mono hP.size)) (fun _ _ hR => hR) rfl⟩
        · intro s_ a_ u V hs hd hfr hpo hJ
          have e0 : a_.tmps.getD 78 undef = .agg (R3 us).toArray := (hpo 0 78 (by kernel_rfl)).trans (hJ.get 0 (by decide) (by decide) (hd 0 (by kernel_rfl)) rfl)
          have e2 : a_.tmps.getD 80 undef = .agg (R3 us).toArray := (hpo 2 80 (by kernel_rfl)).trans (hJ.get 2 (by decide) (by decide) (hd 2 (by kernel_rfl)) rfl)
          refine .inl ⟨rfl, ?_⟩
          unfold Oper.wp
          rw [show (execOp a_.eval _).run Tryz.prog u = .ok (.value (.bool true)) u from by simp [go_sem, Act.eval, e0, e2, eqIn_selfB]]
          exact ⟨_, rfl, hJ.stay 3 (by decide) (by decide) (by show (s_ 0 && (s_ 2 && true)) = true; rw [hd 0 (by kernel_rfl), hd 2 (by kernel_rfl)]; rfl) rfl⟩
        · intro s_ a_ u V hs hd hfr hpo hJ
          have e3 : a_.tmps.getD 81 undef = .bool true := (hpo 3 81 (by kernel_rfl)).trans (hJ.get 3 (by decide) (by decide) (hd 3 (by kernel_rfl)) rfl)
          refine .inl ⟨rfl, ?_⟩
          unfold Oper.wp
          rw [show (execOp a_.eval _).run Tryz.prog u = .ok (.value (.bool true)) u from by simp [go_sem, Act.eval, e3]]
          exact ⟨_, rfl, hJ.stay 4 (by decide) (by decide) (by show (s_ 3 && true) = true; rw [hd 3 (by kernel_rfl)]; rfl) rfl⟩
        · intro s_ a_ u V hs hd hfr hpo hJ
          have f14 : a_.tmps.getD 14 undef = .bool true := hfr 14 (by kernel_rfl)
          have e4 : a_.tmps.getD 82 undef = .bool true := (hpo 4 82 (by kernel_rfl)).trans (hJ.get 4 (by decide) (by decide) (hd 4 (by kernel_rfl)) rfl)
          refine .inl ⟨Jx.wanted_of rfl rfl e4, ?_⟩
          unfold Oper.wp
          rw [show (execOp a_.eval _).run Tryz.prog u = .ok (.value (.bool true)) u from by simp [go_sem, Act.eval, f14, e4]]
          exact ⟨_, rfl, hJ.stay 5 (by decide) (by decide) (by show (s_ 4 && true) = true; rw [hd 4 (by kernel_rfl)]; rfl) rfl⟩
        · intro s_ a_ u V hs hd hfr hpo hJ
          have e4 : a_.tmps.getD 82 undef = .bool true := (hpo 4 82 (by kernel_rfl)).trans (hJ.get 4 (by decide) (by decide) (hd 4 (by kernel_rfl)) rfl)
          have e5 : a_.tmps.getD 83 undef = .bool true := (hpo 5 83 (by kernel_rfl)).trans (hJ.get 5 (by decide) (by decide) (hd 5 (by kernel_rfl)) rfl)
          refine .inl ⟨rfl, ?_⟩
          unfold Oper.wp
          rw [show (execOp a_.eval _).run Tryz.prog u = .ok (.value (.bool true)) u from by simp [go_sem, Act.eval, e4, e5]]
          exact ⟨_, rfl, hJ.stay 6 (by decide) (by decide) (by show (s_ 4 && (s_ 5 && true)) = true; rw [hd 4 (by kernel_rfl), hd 5 (by kernel_rfl)]; rfl) rfl⟩
        · intro s_ a_ u V hs hd hfr hpo hJ
          have e6 : a_.tmps.getD 84 undef = .bool true := (hpo 6 84 (by kernel_rfl)).trans (hJ.get 6 (by decide) (by decide) (hd 6 (by kernel_rfl)) rfl)
          refine .inl ⟨rfl, ?_⟩
          unfold Oper.wp
          rw [show (execOp a_.eval _).run Tryz.prog u = .ok (.value (.bool true)) u from by simp [go_sem, Act.eval, e6]]
          exact ⟨_, rfl, hJ.stay 7 (by decide) (by decide) (by show (s_ 6 && true) = true; rw [hd 6 (by kernel_rfl)]; rfl) rfl⟩
        · intro s_ a_ u V hs hd hfr hpo hJ
          have f13 : a_.tmps.getD 13 undef = .pointer (some ⟨w4.heap.size, 0, none⟩) := hfr 13 (by kernel_rfl)
          have e7 : a_.tmps.getD 85 undef = .bool true := (hpo 7 85 (by kernel_rfl)).trans (hJ.get 7 (by decide) (by decide) (hd 7 (by kernel_rfl)) rfl)
          have hP := hJ.both
          refine .inl ⟨Jx.wanted_of rfl rfl e7, ?_⟩
          exact wp_load_mid 23 (.tmp 13) rfl (w4.heap.size) (0) f13 (R3 lf) _ (range_box ((hP.block _ (lt_of_block ZA.out)).trans ZA.out)) Tryz.underlying23 rfl (by kernel_rfl) ⟨_, rfl, hJ.stay 8 (by decide) (by decide) (by show (s_ 7 && true) = true; rw [hd 7 (by kernel_rfl)]; rfl) rfl⟩
        · intro s_ a_ u V hs hd hfr hpo hJ
          have f0 : a_.tmps.getD 0 undef = .pointer (some ⟨g, 0, none⟩) := hfr 0 (by kernel_rfl)
          have e7 : a_.tmps.getD 85 undef = .bool true := (hpo 7 85 (by kernel_rfl)).trans (hJ.get 7 (by decide) (by decide) (hd 7 (by kernel_rfl)) rfl)
          refine .inl ⟨Jx.wanted_of rfl rfl e7, ?_⟩
          unfold Oper.wp
          rw [show (execOp a_.eval _).run Tryz.prog u = .ok (.value (.pointer (some ⟨g, 0, none⟩))) u from by simp [go_sem, Act.eval, f0, e7]]
          exact ⟨_, rfl, hJ.stay 9 (by decide) (by decide) (by show (s_ 7 && true) = true; rw [hd 7 (by kernel_rfl)]; rfl) rfl⟩
        · intro s_ a_ u V hs hd hfr hpo hJ
          have e9 : a_.tmps.getD 87 undef = .pointer (some ⟨g, 0, none⟩) := (hpo 9 87 (by kernel_rfl)).trans (hJ.get 9 (by decide) (by decide) (hd 9 (by kernel_rfl)) rfl)
          have e7 : a_.tmps.getD 85 undef = .bool true := (hpo 7 85 (by kernel_rfl)).trans (hJ.get 7 (by decide) (by decide) (hd 7 (by kernel_rfl)) rfl)
          have hP := hJ.both
          refine .inl ⟨Jx.wanted_of rfl rfl e7, ?_⟩
          unfold Oper.wp
          rw [show (execOp a_.eval _).run Tryz.prog u = .ok (.enter 14 #[.pointer (some ⟨g, 0, none⟩)]) u from by simp [go_sem, Act.eval, e9, e7]]
          refine Calls.mono (CL.out u (B5.out.trans (hP.mono B5.out.size))) ?_
          rintro e u2 ⟨rfl, hb⟩
          exact ⟨_, rfl, hJ.step 10 (by decide) (by decide) (by show (s_ 9 && (s_ 7 && true)) = true; rw [hd 9 (by kernel_rfl), hd 7 (by kernel_rfl)]; rfl) (fun _ hP => hP.trans (hb.mono hP.size)) (fun _ hP => hP.trans (hb.mono hP.size)) (fun _ _ hR => hR) rfl⟩
        · intro s_ a_ u V hs hd hfr hpo hJ
          have e8 : a_.tmps.getD 86 undef = .agg (R3 lf).toArray := (hpo 8 86 (by kernel_rfl)).trans (hJ.get 8 (by decide) (by decide) (hd 8 (by kernel_rfl)) rfl)
          have e10 : a_.tmps.getD 88 undef = .agg (R3 lf).toArray := (hpo 10 88 (by kernel_rfl)).trans (hJ.get 10 (by decide) (by decide) (hd 10 (by kernel_rfl)) rfl)
          have e7 : a_.tmps.getD 85 undef = .bool true := (hpo 7 85 (by kernel_rfl)).trans (hJ.get 7 (by decide) (by decide) (hd 7 (by kernel_rfl)) rfl)
          refine .inl ⟨Jx.wanted_of rfl rfl e7, ?_⟩
          unfold Oper.wp
          rw [show (execOp a_.eval _).run Tryz.prog u = .ok (.value (.bool true)) u from by simp [go_sem, Act.eval, e8, e10, e7, eqIn_selfB]]
          exact ⟨_, rfl, hJ.stay 11 (by decide) (by decide) (by show (s_ 8 && (s_ 10 && (s_ 7 && true))) = true; rw [hd 8 (by kernel_rfl), hd 10 (by kernel_rfl), hd 7 (by kernel_rfl)]; rfl) rfl⟩
        · intro s_ a_ u V hs hd hfr hpo hJ
          have e7 : a_.tmps.getD 85 undef = .bool true := (hpo 7 85 (by kernel_rfl)).trans (hJ.get 7 (by decide) (by decide) (hd 7 (by kernel_rfl)) rfl)
          have e11 : a_.tmps.getD 89 undef = .bool true := (hpo 11 89 (by kernel_rfl)).trans (hJ.get 11 (by decide) (by decide) (hd 11 (by kernel_rfl)) rfl)
          refine .inl ⟨rfl, ?_⟩
          unfold Oper.wp
          rw [show (execOp a_.eval _).run Tryz.prog u = .ok (.value (.bool true)) u from by simp [go_sem, Act.eval, e7, e11]]
          exact ⟨_, rfl, hJ.stay 12 (by decide) (by decide) (by show (s_ 7 && (s_ 11 && true)) = true; rw [hd 7 (by kernel_rfl), hd 11 (by kernel_rfl)]; rfl) rfl⟩
        · intro s_ a_ u V hs hd hfr hpo hJ
          have e12 : a_.tmps.getD 90 undef = .bool true := (hpo 12 90 (by kernel_rfl)).trans (hJ.get 12 (by decide) (by decide) (hd 12 (by kernel_rfl)) rfl)
          refine .inl ⟨rfl, ?_⟩
          unfold Oper.wp
          rw [show (execOp a_.eval _).run Tryz.prog u = .ok (.value (.bool true)) u from by simp [go_sem, Act.eval, e12]]
          exact ⟨_, rfl, hJ.stay 13 (by decide) (by decide) (by show (s_ 12 && true) = true; rw [hd 12 (by kernel_rfl)]; rfl) rfl⟩
      · intro s_ V w6 hall hJ
        have e13 : V 13 = .bool true := hJ.get 13 (by decide) (by decide) (hall 13 (by decide)) rfl
        have B6 := Lib.hid (BD.out.bel.trans ((B5.out.trans (hJ.both.mono B5.out.size)).mono BD.out.bel.size))
        clear hall hJ
        simp only [Bxs.puts, Nat.reduceAdd, put_none, Re.put_lit, List.set_cons_succ, List.set_cons_zero]
        rw [e13]
        clear e13
        go_wp2
        go_ret
        exact ⟨rfl, B6.out⟩
end Nn
end Go.Proofs.YtbichomjpmmjmaaGreatDoor
