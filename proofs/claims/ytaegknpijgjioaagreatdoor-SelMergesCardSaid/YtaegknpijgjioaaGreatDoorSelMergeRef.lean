/-
  The contract of the document's Merge of two lists of labels: one by one put in where it belongs. All that was there is left as it was. Conditions: the lists are short.
-/
import Derived.Test.YtaegknpijgjioaaGreatDoorSelMerge
import Derived.Test.YtaegknpijgjioaaGreatDoorAppendAny
import Derived.BigQuiet
set_option linter.unusedVariables false
set_option linter.unusedSimpArgs false
namespace Go.Proofs.YtaegknpijgjioaaGreatDoor
open Go.ChangeShapes Go.WideShapes Go.ChangeAt Go.RowKit Go.Lib
open Sd Lists SpecOwn Book Go.Sort
namespace Sl

theorem insK_len (y : Lbl) : ∀ l, (insK y l).length = l.length + 1
  | [] => rfl
  | x :: l => by
    rw [insK]
    split
    · rw [List.length_cons, insK_len y l, List.length_cons]
    · rw [List.length_cons, List.length_cons]
theorem lbl_cells {w : World} {p : Addr} {l : List Lbl} {k : Nat} {x : Lbl} (h : Lbls w (some p) l) (hk : l[k]? = some x) : x.cellsAt w (p.add (k * 2)) := by
  obtain ⟨q, e, _, hc⟩ := h k x hk
  injection e with e
  subst e
  exact hc
theorem own_base {w : World} {base base' : Nat} {e : TypeId} {size n : Nat} {v : Value} {xs : List Value} (h : w.ownsRow base e size v n xs) (hb : base' ≤ base) : w.ownsRow base' e size v n xs := by
  refine ⟨h.1, ?_⟩
  rcases h.2 with h2 | ⟨g, cap, cur, e1, e2, e3⟩
  · exact .inl h2
  · exact .inr ⟨g, cap, cur, e1, Nat.le_trans hb e2, e3⟩
theorem own_cap {w : World} {base : Nat} {e : TypeId} {size n pc : Nat} {A : Option Addr} {xs : List Value} (h : w.ownsRow base e size (.slice A n pc) n xs) : n ≤ pc := by
  rcases h.2 with ⟨e1, h0⟩ | ⟨g, cap, cur, e1, e2, e3, e4, _⟩
  · omega
  · injection e1 with e1 e5 e6
    omega
theorem own_at {w : World} {base : Nat} {e : TypeId} {size n pc : Nat} {A : Option Addr} {xs : List Value} (h : w.ownsRow base e size (.slice A n pc) n xs) (hn : 0 < n) : ∃ g, A = some ⟨g, 0, none⟩ := by
  rcases h.2 with ⟨e1, h0⟩ | ⟨g, cap, cur, e1, e2, e3, e4, _⟩
  · omega
  · injection e1 with e1 e5 e6
    exact ⟨g, e1⟩
theorem add_zero_off (g i : Nat) : (⟨g, 0, none⟩ : Addr).add i = ⟨g, i, none⟩ := by unfold Addr.add; split <;> simp_all
theorem add_off (g o i : Nat) : (⟨g, o, none⟩ : Addr).add i = ⟨g, o + i, none⟩ := by unfold Addr.add; split <;> simp_all
theorem src_own {w : World} {base : Nat} {A : Option Addr} {n pc : Nat} {xs : List Value} (h : w.ownsRow base 49 2 (.slice A n pc) n xs) : (A = none ∧ n = 0) ∨ ∃ ad, A = some ad ∧ ∀ i u, xs[i]? = some u → w.cell? (ad.add i) = some u := by
  rcases h.2 with ⟨e1, h0⟩ | ⟨g, cap, cur, e1, e2, e3, e4, _⟩
  · injection e1 with e1
    exact .inl ⟨e1, h0⟩
  · injection e1 with e1 e5 e6
    subst e1
    refine .inr ⟨_, rfl, fun i u hu => ?_⟩
    have hl := (List.getElem?_eq_some_iff.1 hu).1
    rw [add_zero_off, h.cellAt i (by have := h.1; omega), hu]
theorem src_take {w : World} {base : Nat} {A : Option Addr} {n pc j : Nat} {l : List Lbl} (h : w.ownsRow base 49 2 (.slice A n pc) n (flatL l)) (hj : j ≤ n) : (A = none ∧ j = 0) ∨ ∃ ad, A = some ad ∧ ∀ i u, (flatL (l.take j))[i]? = some u → w.cell? (ad.add i) = some u := by
  rcases src_own h with ⟨e, h0⟩ | ⟨ad, e, hc⟩
  · exact .inl ⟨e, by omega⟩
  · refine .inr ⟨ad, e, fun i u hu => hc i u ?_⟩
    have e2 : flatL l = flatL (l.take j) ++ flatL (l.drop j) := by rw [← flatL_cat, List.take_append_drop]
    rw [e2, List.getElem?_append_left (List.getElem?_eq_some_iff.1 hu).1, hu]
theorem src_drop {w : World} {base : Nat} {A : Option Addr} {n pc j : Nat} {l : List Lbl} (h : w.ownsRow base 49 2 (.slice A n pc) n (flatL l)) (hj : j ≤ n) : ∃ SA, (if pc = j then A else A.map (·.add (j * 2))) = SA ∧ ((SA = none ∧ n - j = 0 ∧ pc - j = 0) ∨ ∃ ad, SA = some ad ∧ ∀ i u, (flatL (l.drop j))[i]? = some u → w.cell? (ad.add i) = some u) := by
  refine ⟨_, rfl, ?_⟩
  have hll : l.length = n := by have := h.1; rw [flatL_length] at this; omega
  rcases h.2 with ⟨e1, h0⟩ | ⟨g, cap, cur, e1, e2, e3, e4, _⟩
  · injection e1 with e1 _ e3
    subst e1
    refine .inl ⟨by split <;> rfl, by omega, by omega⟩
  · injection e1 with e1 e5 e6
    subst e1
    right
    by_cases hp : pc = j
    · rw [if_pos hp]
      refine ⟨_, rfl, fun i u hu => ?_⟩
      rw [List.drop_eq_nil_of_le (by omega)] at hu
      simp [flatL] at hu
    · rw [if_neg hp]
      refine ⟨_, rfl, fun i u hu => ?_⟩
      have e7 : flatL l = flatL (l.take j) ++ flatL (l.drop j) := by rw [← flatL_cat, List.take_append_drop]
      have hq : (flatL (l.take j)).length = j * 2 := by rw [flatL_length, List.length_take]; omega
      have hi := (List.getElem?_eq_some_iff.1 hu).1
      rw [flatL_length, List.length_drop] at hi
      show w.cell? (((⟨g, 0, none⟩ : Addr).add (j * 2)).add i) = some u
      rw [add_zero_off, add_off, h.cellAt (j * 2 + i) (by omega), e7, List.getElem?_append_right (by omega), hq, show j * 2 + i - j * 2 = i by omega, hu]
/-- both, in the caller's own row, or none -/
def MergedR (a b : List Lbl) (w : World) (e : Ending) (w' : World) : Prop := ∃ C cc, e = .returned (.tuple #[.slice C (mergeR a b a).1.length cc, .bool (mergeR a b a).2]) ∧ Lbls w' C (mergeR a b a).1 ∧ Below w.heap.size w w'
theorem mergeR_none {a r out : List Lbl} {y : Lbl} (h : getL a y.key = none) : mergeR a (y :: r) out = mergeR a r (insK y out) := by rw [mergeR, h]
theorem mergeR_same {a r out : List Lbl} {y : Lbl} {v : ByteArray} (h : getL a y.key = some v) (hv : (v.toList != y.val.toList) = false) : mergeR a (y :: r) out = mergeR a r out := by
  rw [mergeR, h]
  simp only
  rw [hv]
  rfl
theorem mergeR_bad {a r out : List Lbl} {y : Lbl} {v : ByteArray} (h : getL a y.key = some v) (hv : (v.toList != y.val.toList) = true) : mergeR a (y :: r) out = ([], false) := by
  rw [mergeR, h]
  simp only
  rw [hv]
  rfl
set_option maxRecDepth 100000 in
set_option maxHeartbeats 4000000 in
theorem merge_ref (A : Option Addr) (c : Nat) (a : List Lbl) (B : Option Addr) (d : Nat) (b : List Lbl) (ha : a.length ≤ 400) (hb : b.length ≤ 400) (w : World) (hA : Lbls w A a) (hB : Lbls w B b) :
    Calls Tryz.prog 15 #[.slice A a.length c, .slice B b.length d] w (MergedR a b w) := by
  obtain ⟨i0, hi, hz0, hz1, hz2⟩ := info_parts info_lab
  have HA := Lib.hid hA
  have HB := Lib.hid hB
  clear hA hB
  obtain ⟨R, hR⟩ : ∃ R, mergeR a b a = R := ⟨_, rfl⟩
  have HR := Lib.hid hR
  clear hR
  have HS0 := Lib.hid (src_of (HA.out.below (w' := w.alloc (.cells #[] 49)) ((Below.refl _ _).alloc (Nat.le_refl _) _)))
  go_enter Tryz.func15, Tryz.ntmps15
  go_wp2_with (at_builtin; refine wpList_append_or rfl _ _ 22 rfl w.heap.size 49 i0 _ 2 32 Tryz.underlying22 hi hz0 hz1 hz2 rfl (by decide) _ _ _ rfl (World.ownsRow_lit (base := w.heap.size) (size := 2) (e := 49) w #[] 0 (Nat.le_refl _) (Nat.zero_le _) rfl) A a.length c (flatL a) rfl (flatL_length a) HS0.out (flatL_str a) ?p1 ?p2 (by simp) ?_)
  case p1 => unfold maxLen; omega
  case p2 => omega
  intro v0 w0 hown0 hgrow0
  have HO0 := Lib.hid (show w0.ownsRow w.heap.size 49 2 v0 a.length (flatL a) by simpa using hown0)
  have B0 := Lib.hid (show Below w.heap.size w w0 from ((Below.refl w.heap.size w).alloc (Nat.le_refl _) _).grown hgrow0 (by simp) (fun q hq => by have e : some w.heap.size = some q := hq; injection e with e; omega))
  clear hown0 hgrow0 HS0
  obtain ⟨A0, c0, rfl⟩ := own_form HO0.out
  go_wp2_with fail
  go_loopw [6, 7] (fun v i wr => ∃ (k n : Nat) (PA : Option Addr) (pc : Nat) (out : List Lbl), k ≤ b.length ∧ v = .slice PA n pc ∧ i = .int .i64 k ∧ n ≤ a.length + k ∧ Hid (out.length = n) ∧ Hid (R = mergeR a (b.drop k) out) ∧ Hid (wr.ownsRow w.heap.size 49 2 (.slice PA n pc) n (flatL out)) ∧ Hid (Below w.heap.size w wr)) (fun _ i _ => b.length - (RowKit.intOf i).toNat)
  case atStart => exact ⟨0, a.length, A0, c0, a, Nat.zero_le _, rfl, rfl, by omega, rfl, by unfold Hid; rw [← HR.out, List.drop_zero], HO0.out, B0.out⟩
  case round =>
    obtain ⟨k, n, PA, pc, out, hk, rfl, rfl, hnk, HN, HK, HO, BW⟩ := hrel
    clear HO0 B0
    by_cases hlt : k < b.length
    · obtain ⟨p, rfl, hp, hc⟩ := (HB.out.below BW.out).at hlt
      have HD := Lib.hid (List.drop_eq_getElem_cons hlt)
      obtain ⟨y, hy⟩ : ∃ y, b[k] = y := ⟨_, rfl⟩
      rw [hy] at hc HD
      have HYK := Lib.hid (show b[k]? = some y by rw [List.getElem?_eq_getElem hlt, hy])
      obtain ⟨c0, c1⟩ := hc
      have hkn : (k : Int) < (b.length : Int) := by omega
      have hk0 : (0 : Int) ≤ (k : Int) := by omega
      clear hy hp
      have HG := Lib.hid (get_ref A c a y.key (by omega) wr (HA.out.below BW.out))
      obtain ⟨V, hV⟩ : ∃ V, getL a y.key = V := ⟨_, rfl⟩
      unfold getV getB at HG
      rw [hV] at HG
      cases V with
      | some v =>
        have HV := Lib.hid hV
        clear hV
        cases hne : (v.toList != y.val.toList) with
        | true =>
          have HE := Lib.hid (show R = ([], false) by rw [HK.out, HD.out, mergeR_bad HV.out hne])
          have hne2 : (v.toList == y.val.toList) = false := by simpa [bne] using hne
          go_wp2_with fail
          refine HG.out.mono ?_
          rintro e w2 ⟨rfl, rfl⟩
          go_wp2_with fail
          go_ret2
          exact ⟨none, 0, by rw [HR.out, HE.out]; rfl, by rw [HR.out, HE.out]; exact lbls_nil _ _, BW.out⟩
        | false =>
          have HE := Lib.hid (show R = mergeR a (b.drop (k + 1)) out by rw [HK.out, HD.out, mergeR_same HV.out hne])
          have hne2 : (v.toList == y.val.toList) = true := by simpa [bne] using hne
          go_wp2_with fail
          refine HG.out.mono ?_
          rintro e w2 ⟨rfl, rfl⟩
          go_wp2_with fail
          go_roundw
          case rel => exact ⟨k + 1, n, PA, pc, out, by omega, rfl, by go_num, by omega, HN.out, HE.out, HO.out, BW.out⟩
          case measure => simp [RowKit.intOf]; omega
      | none =>
        have HRN := Lib.hid (show R = mergeR a (b.drop (k + 1)) (insK y out) by rw [HK.out, HD.out, mergeR_none hV])
        clear hV
        go_wp2_with fail
        refine HG.out.mono ?_
        rintro e w2 ⟨rfl, rfl⟩
        clear c0 c1 HG
        obtain ⟨wo, hwo⟩ : ∃ v, v = wr := ⟨wr, rfl⟩
        subst hwo
        go_wp2_with fail
        go_loopw [10] (fun jv wi => ∃ j : Nat, j ≤ n ∧ jv = .int .i64 j ∧ Hid (insK y out = out.take j ++ insK y (out.drop j)) ∧ Hid (Below wo.heap.size wo wi)) (fun jv _ => n - (RowKit.intOf jv).toNat)
        case atStart => exact ⟨0, Nat.zero_le _, rfl, rfl, Below.refl _ _⟩
        case round =>
          obtain ⟨j, hj, rfl, HJ, BI⟩ := hrel
          obtain ⟨wi, hwi⟩ : ∃ v, v = wr := ⟨_, rfl⟩
          rw [← hwi] at BI ⊢
          clear hwi
          have HOI := Lib.hid (Err.own_keep HO.out BI.out)
          obtain ⟨c0, c1⟩ := lbl_cells (HB.out.below (BW.out.trans (BI.out.mono BW.out.size))) HYK.out
          by_cases hjn : j < n
          · have hlo : out.length = n := HN.out
            obtain ⟨g, rfl⟩ := own_at HO.out (by omega)
            obtain ⟨x, hx⟩ : ∃ x, out[j]? = some x := ⟨_, List.getElem?_eq_getElem (by omega)⟩
            obtain ⟨d0, d1⟩ := row_at HOI.out hjn hx
            have e0 : (⟨g, 0, none⟩ : Addr).add (j * 2) = ⟨g, j * 2, none⟩ := add_zero_off g _
            have hji : (j : Int) < (n : Int) := by omega
            have hj0 : (0 : Int) ≤ (j : Int) := by omega
            have hdr : out.drop j = x :: out.drop (j + 1) := by
              obtain ⟨h1, h2⟩ := List.getElem?_eq_some_iff.1 hx
              rw [List.drop_eq_getElem_cons h1, h2]
            have HX := Lib.hid hx
            have HDR := Lib.hid hdr
            clear hx hdr hlo d1
            cases hle : Op.bytesLess x.key.toList y.key.toList with
            | true =>
              have HJN := Lib.hid (show insK y out = out.take (j + 1) ++ insK y (out.drop (j + 1)) by
                rw [HJ.out, HDR.out, insK, if_pos hle, take_one HX.out, List.append_assoc]; rfl)
              go_wp2_with fail
              go_quiet (fail)
              go_wp2
              go_roundw
              case rel => exact ⟨j + 1, by omega, by go_num, HJN.out, BI.out.trans ((Kit.below_drewN _ _ _).mono BI.out.size)⟩
              case measure => simp [RowKit.intOf]; omega
            | false =>
              have HI := Lib.hid (show insK y out = out.take j ++ (y :: out.drop j) by
                rw [HJ.out, HDR.out, insK, if_neg (by rw [hle]; decide)])
              go_wp2_with fail
              go_quiet (fail)
              clear c0 c1 d0 e0 hle HJ HDR HX HOI
              obtain ⟨PA, hPA⟩ : ∃ PA, some (⟨g, 0, none⟩ : Addr) = PA := ⟨_, rfl⟩
              rw [hPA] at HO ⊢
              clear hPA
              obtain ⟨wz, hwz⟩ : ∃ v, wi.drewN nq = v := ⟨_, rfl⟩
              have BZ := Lib.hid (show Below wo.heap.size wo wz by rw [← hwz]; exact BI.out.trans ((Kit.below_drewN _ _ _).mono BI.out.size))
              rw [hwz]
              clear hwz
              have BWZ := Lib.hid (BW.out.trans (BZ.out.mono BW.out.size))
              have HOZ := Lib.hid (Err.own_keep HO.out BZ.out)
              have HYZ := Lib.hid (lbl_cells (HB.out.below BWZ.out) HYK.out)
              obtain ⟨c0, c1⟩ := HYZ.out
              have hbz : Below wz.heap.size wz (wz.drew.alloc (.cells #[.string y.key, .string y.val] 49)) := (Kit.below_drewN wz.heap.size wz 1).alloc (Nat.le_refl _) _
              obtain ⟨SA, hsa, hsrc⟩ := src_drop (j := j) (Err.own_keep HOZ.out hbz) (by omega)
              have HSRC := Lib.hid hsrc
              have HLD := Lib.hid (show (flatL (out.drop j)).length = (n - j) * 2 by rw [flatL_length, List.length_drop, HN.out])
              have HSM := Lib.hid (fun (v : World) hv => src_take (w := v) (base := w.heap.size) (A := PA) (n := n) (pc := pc) (l := out) (j := j) hv (by omega))
              have hjc : j ≤ pc := by have := own_cap HOZ.out; omega
              have hi1 : (j : Int) ≤ (n : Int) := by omega
              have hi2 : (j : Int) ≤ (pc : Int) := by omega
              have hi3 : (0 : Int) ≤ (j : Int) := by omega
              clear hbz hsrc
              go_wp2_with fail
              go_region_law (refine AppendAny.step_append_any rfl _ _ 22 rfl wz.heap.size 49 i0 (.agg #[.string ⟨#[]⟩, .string ⟨#[]⟩]) 2 32 Tryz.underlying22 hi hz0 hz1 hz2 rfl (by decide) (.slice (some ⟨wz.heap.size, 0, none⟩) 1 1) 1 [.string y.key, .string y.val] rfl (World.ownsRow_lit (base := wz.heap.size) (size := 2) (e := 49) wz.drew ([.string y.key, .string y.val] : List Value).toArray 1 (Nat.le_refl _) (by decide) rfl) SA (n - j) (pc - j) (flatL (out.drop j)) rfl HLD.out HSRC.out (flatL_str _) (by unfold maxLen; omega) (by omega) (by simp) ?_; intro A1 c1' w1 hown1 hgrow)
              all_goals
                have B1 := Lib.hid (show Below wz.heap.size wz w1 from ((Kit.below_drewN wz.heap.size wz 1).alloc (Nat.le_refl _) _).grown hgrow (by simp) (fun q hq => by have e : some wz.heap.size = some q := hq; injection e with e; omega))
                have HO1 := Lib.hid (show w1.ownsRow wz.heap.size 49 2 (.slice A1 (1 + (n - j)) c1') (1 + (n - j)) (flatL (y :: out.drop j)) from hown1)
                have HOW := Lib.hid (Err.own_keep HOZ.out B1.out)
                clear hown1 hgrow c0 c1 hsa
                have hb1 : Below w1.heap.size w1 (w1.alloc (.cells #[] 49)) := (Below.refl _ _).alloc (Nat.le_refl _) _
                have HST := Lib.hid (HSM.out _ (Err.own_keep HOW.out hb1))
                have HLT := Lib.hid (show (flatL (out.take j)).length = j * 2 by rw [flatL_length, List.length_take, HN.out]; omega)
                clear hb1
                go_wp2_with (at_builtin; refine wpList_append_or rfl _ _ 22 rfl w1.heap.size 49 i0 _ 2 32 Tryz.underlying22 hi hz0 hz1 hz2 rfl (by decide) _ _ _ rfl (World.ownsRow_lit (base := w1.heap.size) (size := 2) (e := 49) w1 #[] 0 (Nat.le_refl _) (Nat.zero_le _) rfl) PA j pc (flatL (out.take j)) rfl HLT.out HST.out (flatL_str _) ?q1 ?q2 (by simp) ?_)
                case q1 => unfold maxLen; omega
                case q2 => omega
                intro v2 w2 hown2 hgrow2
                have HO2 := Lib.hid (show w2.ownsRow w1.heap.size 49 2 v2 j (flatL (out.take j)) by simpa using hown2)
                have B2 := Lib.hid (show Below w1.heap.size w1 w2 from ((Below.refl w1.heap.size w1).alloc (Nat.le_refl _) _).grown hgrow2 (by simp) (fun q hq => by have e : some w1.heap.size = some q := hq; injection e with e; omega))
                clear hown2 hgrow2
                have HS1 := Lib.hid (src_own (Err.own_keep HO1.out B2.out))
                have HL1 := Lib.hid (show (flatL (y :: out.drop j)).length = (1 + (n - j)) * 2 by rw [flatL_length, List.length_cons, List.length_drop, HN.out]; omega)
                have hsw := B2.out.size
                go_wp2_with (at_builtin; refine wpList_append_or rfl _ _ 22 rfl w1.heap.size 49 i0 _ 2 32 Tryz.underlying22 hi hz0 hz1 hz2 rfl (by decide) _ _ _ rfl HO2.out A1 (1 + (n - j)) c1' (flatL (y :: out.drop j)) rfl HL1.out HS1.out (flatL_str _) ?q3 ?q4 hsw ?_)
                case q3 => unfold maxLen; omega
                case q4 => omega
                intro v3 w3 hown3 hgrow3
                have B3 := Lib.hid (show Below w1.heap.size w1 w3 from B2.out.grown hgrow3 hsw (fun q hq => (HO2.out.lt q hq).1))
                have HO3 := Lib.hid (show w3.ownsRow w.heap.size 49 2 v3 (n + 1) (flatL (insK y out)) by
                  have h := own_base hown3 (show w.heap.size ≤ w1.heap.size from Nat.le_trans BWZ.out.size B1.out.size)
                  rwa [← flatL_cat, ← HI.out, show j + (1 + (n - j)) = n + 1 by omega] at h)
                clear hown3 hgrow3 hsw
                obtain ⟨A3, c3, rfl⟩ := own_form HO3.out
                have B5 := Lib.hid (BWZ.out.trans ((B1.out.trans (B3.out.mono B1.out.size)).mono BWZ.out.size))
                have HNN := Lib.hid (show (insK y out).length = n + 1 by rw [insK_len, HN.out])
                go_wp2_with fail
                go_roundw
                case rel => exact ⟨k + 1, n + 1, A3, c3, insK y out, by omega, rfl, by go_num, by omega, HNN.out, HRN.out, HO3.out, B5.out⟩
                case measure => simp [RowKit.intOf]; omega
          · have HI := Lib.hid (show insK y out = out.take j ++ (y :: out.drop j) by
              rw [HJ.out, List.drop_eq_nil_of_le (by have := HN.out; omega)]; rfl)
            have hji : ¬ (j : Int) < (n : Int) := by omega
            go_wp2_with fail
            go_quiet (fail)
            clear c0 c1 HJ HOI
            obtain ⟨wz, hwz⟩ : ∃ v, wi.drewN nq = v := ⟨_, rfl⟩
            have BZ := Lib.hid (show Below wo.heap.size wo wz by rw [← hwz]; exact BI.out.trans ((Kit.below_drewN _ _ _).mono BI.out.size))
            rw [hwz]
            clear hwz
            have BWZ := Lib.hid (BW.out.trans (BZ.out.mono BW.out.size))
            have HOZ := Lib.hid (Err.own_keep HO.out BZ.out)
            have HYZ := Lib.hid (lbl_cells (HB.out.below BWZ.out) HYK.out)
            obtain ⟨c0, c1⟩ := HYZ.out
            have hbz : Below wz.heap.size wz (wz.drew.alloc (.cells #[.string y.key, .string y.val] 49)) := (Kit.below_drewN wz.heap.size wz 1).alloc (Nat.le_refl _) _
            obtain ⟨SA, hsa, hsrc⟩ := src_drop (j := j) (Err.own_keep HOZ.out hbz) (by omega)
            have HSRC := Lib.hid hsrc
            have HLD := Lib.hid (show (flatL (out.drop j)).length = (n - j) * 2 by rw [flatL_length, List.length_drop, HN.out])
            have HSM := Lib.hid (fun (v : World) hv => src_take (w := v) (base := w.heap.size) (A := PA) (n := n) (pc := pc) (l := out) (j := j) hv (by omega))
            have hjc : j ≤ pc := by have := own_cap HOZ.out; omega
            have hi1 : (j : Int) ≤ (n : Int) := by omega
            have hi2 : (j : Int) ≤ (pc : Int) := by omega
            have hi3 : (0 : Int) ≤ (j : Int) := by omega
            clear hbz hsrc
            go_wp2_with fail
            go_region_law (refine AppendAny.step_append_any rfl _ _ 22 rfl wz.heap.size 49 i0 (.agg #[.string ⟨#[]⟩, .string ⟨#[]⟩]) 2 32 Tryz.underlying22 hi hz0 hz1 hz2 rfl (by decide) (.slice (some ⟨wz.heap.size, 0, none⟩) 1 1) 1 [.string y.key, .string y.val] rfl (World.ownsRow_lit (base := wz.heap.size) (size := 2) (e := 49) wz.drew ([.string y.key, .string y.val] : List Value).toArray 1 (Nat.le_refl _) (by decide) rfl) SA (n - j) (pc - j) (flatL (out.drop j)) rfl HLD.out HSRC.out (flatL_str _) (by unfold maxLen; omega) (by omega) (by simp) ?_; intro A1 c1' w1 hown1 hgrow)
            all_goals
              have B1 := Lib.hid (show Below wz.heap.size wz w1 from ((Kit.below_drewN wz.heap.size wz 1).alloc (Nat.le_refl _) _).grown hgrow (by simp) (fun q hq => by have e : some wz.heap.size = some q := hq; injection e with e; omega))
              have HO1 := Lib.hid (show w1.ownsRow wz.heap.size 49 2 (.slice A1 (1 + (n - j)) c1') (1 + (n - j)) (flatL (y :: out.drop j)) from hown1)
              have HOW := Lib.hid (Err.own_keep HOZ.out B1.out)
              clear hown1 hgrow c0 c1 hsa
              have hb1 : Below w1.heap.size w1 (w1.alloc (.cells #[] 49)) := (Below.refl _ _).alloc (Nat.le_refl _) _
              have HST := Lib.hid (HSM.out _ (Err.own_keep HOW.out hb1))
              have HLT := Lib.hid (show (flatL (out.take j)).length = j * 2 by rw [flatL_length, List.length_take, HN.out]; omega)
              clear hb1
              go_wp2_with (at_builtin; refine wpList_append_or rfl _ _ 22 rfl w1.heap.size 49 i0 _ 2 32 Tryz.underlying22 hi hz0 hz1 hz2 rfl (by decide) _ _ _ rfl (World.ownsRow_lit (base := w1.heap.size) (size := 2) (e := 49) w1 #[] 0 (Nat.le_refl _) (Nat.zero_le _) rfl) PA j pc (flatL (out.take j)) rfl HLT.out HST.out (flatL_str _) ?r1 ?r2 (by simp) ?_)
              case r1 => unfold maxLen; omega
              case r2 => omega
              intro v2 w2 hown2 hgrow2
              have HO2 := Lib.hid (show w2.ownsRow w1.heap.size 49 2 v2 j (flatL (out.take j)) by simpa using hown2)
              have B2 := Lib.hid (show Below w1.heap.size w1 w2 from ((Below.refl w1.heap.size w1).alloc (Nat.le_refl _) _).grown hgrow2 (by simp) (fun q hq => by have e : some w1.heap.size = some q := hq; injection e with e; omega))
              clear hown2 hgrow2
              have HS1 := Lib.hid (src_own (Err.own_keep HO1.out B2.out))
              have HL1 := Lib.hid (show (flatL (y :: out.drop j)).length = (1 + (n - j)) * 2 by rw [flatL_length, List.length_cons, List.length_drop, HN.out]; omega)
              have hsw := B2.out.size
              go_wp2_with (at_builtin; refine wpList_append_or rfl _ _ 22 rfl w1.heap.size 49 i0 _ 2 32 Tryz.underlying22 hi hz0 hz1 hz2 rfl (by decide) _ _ _ rfl HO2.out A1 (1 + (n - j)) c1' (flatL (y :: out.drop j)) rfl HL1.out HS1.out (flatL_str _) ?r3 ?r4 hsw ?_)
              case r3 => unfold maxLen; omega
              case r4 => omega
              intro v3 w3 hown3 hgrow3
              have B3 := Lib.hid (show Below w1.heap.size w1 w3 from B2.out.grown hgrow3 hsw (fun q hq => (HO2.out.lt q hq).1))
              have HO3 := Lib.hid (show w3.ownsRow w.heap.size 49 2 v3 (n + 1) (flatL (insK y out)) by
                have h := own_base hown3 (show w.heap.size ≤ w1.heap.size from Nat.le_trans BWZ.out.size B1.out.size)
                rwa [← flatL_cat, ← HI.out, show j + (1 + (n - j)) = n + 1 by omega] at h)
              clear hown3 hgrow3 hsw
              obtain ⟨A3, c3, rfl⟩ := own_form HO3.out
              have B5 := Lib.hid (BWZ.out.trans ((B1.out.trans (B3.out.mono B1.out.size)).mono BWZ.out.size))
              have HNN := Lib.hid (show (insK y out).length = n + 1 by rw [insK_len, HN.out])
              go_wp2_with fail
              go_roundw
              case rel => exact ⟨k + 1, n + 1, A3, c3, insK y out, by omega, rfl, by go_num, by omega, HNN.out, HRN.out, HO3.out, B5.out⟩
              case measure => simp [RowKit.intOf]; omega
    · obtain rfl : k = b.length := by omega
      have HE := Lib.hid (show R = (out, true) by rw [HK.out, List.drop_eq_nil_of_le (Nat.le_refl _), mergeR])
      have HNO := Lib.hid (show out.length = n from HN.out)
      go_wp2_with fail
      go_ret2
      refine ⟨PA, pc, by rw [HR.out, HE.out, HNO.out]; rfl, ?_, BW.out⟩
      rw [HR.out, HE.out]
      have h := HO.out
      rw [← HNO.out] at h
      exact (lbls_own h).1
end Sl
end Go.Proofs.YtaegknpijgjioaaGreatDoor
