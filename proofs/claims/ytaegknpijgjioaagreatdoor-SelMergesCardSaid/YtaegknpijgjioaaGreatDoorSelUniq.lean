/-
  The contract of slices.Compact at labels, on a row of the caller's own: runs of one label become one; what was there besides the row is as it was. Condition: the row is not too long.
-/
import Derived.Test.YtaegknpijgjioaaGreatDoorSelCompact
set_option linter.unusedVariables false
set_option linter.unusedSimpArgs false
namespace Go.Proofs.YtaegknpijgjioaaGreatDoor
open Go.ChangeShapes Go.WideShapes Go.ChangeAt Go.RowKit Go.Lib
open Sd Lists SpecOwn Book Go.Sort
namespace Sl

/-- a row's cells at label k -/
theorem row_at {w : World} {base g n cap : Nat} {cur : List Lbl} {k : Nat} {x : Lbl} (h : w.ownsRow base 49 2 (.slice (some ⟨g, 0, none⟩) n cap) n (flatL cur)) (hk : k < n) (hx : cur[k]? = some x) : w.cell? ⟨g, k * 2, none⟩ = some (.string x.key) ∧ w.cell? ⟨g, k * 2 + 1, none⟩ = some (.string x.val) := by
  obtain ⟨f0, f1⟩ := flatL_at hx
  exact ⟨by rw [h.cellAt (k * 2) (by omega), f0], by rw [h.cellAt (k * 2 + 1) (by omega), f1]⟩
theorem kx_refl (g B : Nat) (w : World) : Kx g B w w := ⟨rfl, rfl, rfl, Nat.le_refl _, fun _ _ _ => rfl⟩
theorem own_drew {w : World} {base : Nat} {e : TypeId} {size : Nat} {v : Value} {n : Nat} {xs : List Value} (h : w.ownsRow base e size v n xs) : w.drew.ownsRow base e size v n xs := Err.own_keep h (Kit.below_drewN _ _ 1)
theorem set_row {w : World} {base g n cap : Nat} {cur : List Lbl} (h : w.ownsRow base 49 2 (.slice (some ⟨g, 0, none⟩) n cap) n (flatL cur)) (k : Nat) (x : Lbl) : ((w.setCell ⟨g, k * 2, none⟩ (.string x.key)).setCell ⟨g, k * 2 + 1, none⟩ (.string x.val)).ownsRow base 49 2 (.slice (some ⟨g, 0, none⟩) n cap) n (flatL (cur.set k x)) := by
  rw [flatL_set]
  exact ((h.stored (k * 2) (.string x.key)).1.stored (k * 2 + 1) (.string x.val)).1
theorem take_set {α : Type} {l : List α} {i : Nat} {x : α} (h : i < l.length) : (l.set i x).take (i + 1) = l.take i ++ [x] := by
  rw [List.take_succ_eq_append_getElem (by rw [List.length_set]; exact h), List.getElem_set_self, List.take_set_of_le (Nat.le_refl _)]
theorem run_neq_label (x y : Lbl) (t : Bool) (v : World) (h : (binOp BinOp.eql 49 (.agg #[.string x.key, .string x.val]) (.agg #[.string y.key, .string y.val])).run Tryz.prog v = .ok (.bool t) v) : (binOp BinOp.neq 49 (.agg #[.string x.key, .string x.val]) (.agg #[.string y.key, .string y.val])).run Tryz.prog v = .ok (.bool (!t)) v := by
  rw [run_eql_struct] at h
  rw [run_neq_struct]
  cases he : (Op.equalIn 10000 49 (.agg #[.string x.key, .string x.val]) (.agg #[.string y.key, .string y.val])).run Tryz.prog v with
  | ok b w' =>
    rw [he] at h
    simp [Result.andThen] at h ⊢
    exact ⟨by rw [h.1], h.2⟩
  | _ => rw [he] at h; simp [Result.andThen] at h
set_option maxRecDepth 100000 in
set_option maxHeartbeats 4000000 in
theorem compact_some (base g cap n : Nat) (l : List Lbl) (hln : l.length = n) (hl : n ≤ 1000000) (w : World) (h : w.ownsRow base 49 2 (.slice (some ⟨g, 0, none⟩) n cap) n (flatL l)) (hcap : n ≤ cap ∧ cap ≤ 9223372036854775807) :
    Calls Tryz.prog 31 #[.slice (some ⟨g, 0, none⟩) n cap] w fun e w' => e = .returned (.slice (some ⟨g, 0, none⟩) (compactL l).length cap) ∧ w'.ownsRow base 49 2 (.slice (some ⟨g, 0, none⟩) (compactL l).length cap) (compactL l).length (flatL (compactL l)) ∧ Kx g w.heap.size w w' := by
  have H := Lib.hid h
  have HLN := Lib.hid hln
  have hn' : (n : Int) ≤ 1000000 := by omega
  have hgd : Tryz.prog.eqGuardType Tryz.prog.depth 49 = false := by kernel_rfl
  clear h
  by_cases h2 : n < 2
  · have h2' : (n : Int) < 2 := by omega
    have HE := Lib.hid (compactL_short (l := l) (by omega))
    clear hln
    go_enter Tryz.func31, Tryz.ntmps31
    go_wp2_with fail
    go_ret
    rw [HE.out, HLN.out]
    exact ⟨rfl, H.out, kx_refl _ _ _⟩
  · have h2' : ¬ (n : Int) < 2 := by omega
    clear hln
    go_enter Tryz.func31, Tryz.ntmps31
    go_wp2_with fail
    go_loopw [3] (fun i wr => ∃ (m : Nat), m + 1 ≤ n ∧ i = .int .i64 ((m + 1 : Nat) : Int) ∧ Hid (compactL (l.take (m + 1)) = l.take (m + 1)) ∧ Hid (wr.ownsRow base 49 2 (.slice (some ⟨g, 0, none⟩) n cap) n (flatL l)) ∧ Hid (Kx g w.heap.size w wr)) (fun i _ => n - (RowKit.intOf i).toNat)
    case atStart => exact ⟨0, by omega, rfl, compactL_short (by rw [List.length_take]; omega), H.out, kx_refl _ _ _⟩
    case round =>
      obtain ⟨m, hm, rfl, HC, HR, HK⟩ := hrel
      have HLL := HLN.out
      by_cases hlt : m + 1 < n
      · obtain ⟨x, hx⟩ : ∃ x, l[m + 1]? = some x := ⟨_, List.getElem?_eq_getElem (by omega)⟩
        obtain ⟨y, hy⟩ : ∃ y, l[m]? = some y := ⟨_, List.getElem?_eq_getElem (by omega)⟩
        obtain ⟨c0, c1⟩ := row_at HR.out hlt hx
        obtain ⟨d0, d1⟩ := row_at HR.out (show m < n by omega) hy
        have HST := Lib.hid (compact_step hx hy)
        have HTK := Lib.hid (take_one hx)
        have e0 : (⟨g, 0, none⟩ : Addr).add ((m + 1) * 2) = ⟨g, (m + 1) * 2, none⟩ := by unfold Addr.add; split <;> simp_all
        have e1 : (⟨g, 0, none⟩ : Addr).add (m * 2) = ⟨g, m * 2, none⟩ := by unfold Addr.add; split <;> simp_all
        have hwr : IntKind.i64.wrap (m : Int) = (m : Int) := IntWalk.i64_in _ (by omega)
        have hm0 : (0 : Int) ≤ (m : Int) := by omega
        have hmn : (m : Int) < (n : Int) := by omega
        have hmn1 : (m : Int) + 1 < (n : Int) := by omega
        have hmn2 : m < n := by omega
        have hp0 : (0 : Int) ≤ (m : Int) + 1 := by omega
        have hp1 : ((m : Int) + 1).toNat = m + 1 := by omega
        obtain ⟨t, ht⟩ : ∃ t, sameL x y = t := ⟨_, rfl⟩
        have heq := fun v => eql_label x y v
        rw [ht] at heq HST
        have HT := Lib.hid ht
        have HX := Lib.hid hx
        have HY := Lib.hid hy
        clear hx hy ht HLL
        cases t with
        | false =>
          go_wp2_with fail
          go_quiet (fail)
          go_wp2
          go_roundw
          case rel =>
            refine ⟨m + 1, by omega, by go_num, ?_, Err.own_keep HR.out (Kit.below_drewN _ _ _), HK.out.next (Kit.below_drewN _ _ _) (Nat.le_refl _)⟩
            unfold Hid
            rw [HST.out, HTK.out, HC.out]; rfl
          case measure => simp [RowKit.intOf]; omega
        | true =>
          go_wp2_with fail
          go_quiet (fail)
          obtain ⟨w0, hw0⟩ : ∃ v, wr.drewN nq = v := ⟨_, rfl⟩
          have HR0 := Lib.hid (show w0.ownsRow base 49 2 (.slice (some ⟨g, 0, none⟩) n cap) n (flatL l) by rw [← hw0]; exact Err.own_keep HR.out (Kit.below_drewN _ _ _))
          have HK0 := Lib.hid (show Kx g w.heap.size w w0 by rw [← hw0]; exact HK.out.next (Kit.below_drewN _ _ _) (Nat.le_refl _))
          rw [hw0]
          clear hw0 c0 c1 d0 d1 heq hgd
          have hc1 : (n : Int) ≤ (cap : Int) := by omega
          have hc2 : (cap : Int) ≤ 9223372036854775807 := by omega
          have hc3 : m + 1 < cap := by omega
          have hc4 : m + 1 ≠ cap := by omega
          have hc5 : (m : Int) + 1 ≤ (n : Int) := by omega
          have hc6 : (m : Int) + 1 ≤ (cap : Int) := by omega
          go_wp2_with fail
          obtain ⟨p, hp⟩ : ∃ p, n - (m + 1) = p := ⟨_, rfl⟩
          obtain ⟨cp, hcp⟩ : ∃ cp, cap - (m + 1) = cp := ⟨_, rfl⟩
          obtain ⟨o2, ho2⟩ : ∃ o2, (m + 1) * 2 = o2 := ⟨_, rfl⟩
          rw [hp, hcp, ho2]
          have hpn : p + (m + 1) = n := by omega
          have HO2 := Lib.hid ho2
          have HS0 := Lib.hid (show l.take (m + 1) = compactL (l.take (m + 1 + (0 + 1))) by
            have e := HST.out
            simp only [if_true] at e
            rw [show m + 1 + (0 + 1) = m + 2 by omega, e, HC.out])
          clear hp hcp ho2 e0 e1 HST HTK HC HT HX HY HR HK
          go_loopw [3, 5] (fun kv jv wi => ∃ (i j : Nat) (cur : List Lbl), kv = .int .i64 i ∧ jv = .int .i64 ((j + 1 : Nat) : Int) ∧ j + 1 ≤ p ∧ i ≤ m + 1 + j ∧ cur.length = n ∧ Hid (cur.take i = compactL (l.take (m + 1 + (j + 1)))) ∧ Hid (cur.drop (m + 1 + j) = l.drop (m + 1 + j)) ∧ Hid (wi.ownsRow base 49 2 (.slice (some ⟨g, 0, none⟩) n cap) n (flatL cur)) ∧ Hid (Kx g w.heap.size w wi)) (fun _ jv _ => p - (RowKit.intOf jv).toNat)
          case atStart => exact ⟨m + 1, 0, l, by go_num, by go_num, by omega, by omega, HLN.out, HS0.out, rfl, HR0.out, HK0.out⟩
          case round =>
            obtain ⟨i, j, cur, rfl, rfl, hjp, hij, hcl, HT, HD, HRI, HKI⟩ := hrel
            obtain ⟨wi, hwi⟩ : ∃ v, v = wr := ⟨_, rfl⟩
            rw [← hwi] at HRI HKI ⊢
            clear hwi
            have HCL := Lib.hid hcl
            clear hcl
            by_cases hlt : j + 1 < p
            · have hlj : l.length = n := HLN.out
              obtain ⟨x, hx⟩ : ∃ x, l[m + 1 + j + 1]? = some x := ⟨_, List.getElem?_eq_getElem (by omega)⟩
              obtain ⟨y, hy⟩ : ∃ y, l[m + 1 + j]? = some y := ⟨_, List.getElem?_eq_getElem (by omega)⟩
              have hcx : cur[m + 1 + j + 1]? = some x := by
                have e : (cur.drop (m + 1 + j))[1]? = (l.drop (m + 1 + j))[1]? := by rw [HD.out]
                rw [List.getElem?_drop, List.getElem?_drop] at e
                exact e.trans hx
              have hcy : cur[m + 1 + j]? = some y := by
                have e : (cur.drop (m + 1 + j))[0]? = (l.drop (m + 1 + j))[0]? := by rw [HD.out]
                rw [List.getElem?_drop, List.getElem?_drop] at e
                exact e.trans hy
              obtain ⟨z, hz⟩ : ∃ z, cur[i]? = some z := ⟨_, List.getElem?_eq_getElem (by rw [HCL.out]; omega)⟩
              have HCC := Lib.hid (show wi.cell? ⟨g, o2 + (j + 1) * 2, none⟩ = some (.string x.key) ∧ wi.cell? ⟨g, o2 + (j + 1) * 2 + 1, none⟩ = some (.string x.val) by
                have := row_at HRI.out (by omega) hcx
                rwa [show (m + 1 + j + 1) * 2 = o2 + (j + 1) * 2 by have := HO2.out; omega] at this)
              have HDD := Lib.hid (show wi.cell? ⟨g, o2 + j * 2, none⟩ = some (.string y.key) ∧ wi.cell? ⟨g, o2 + j * 2 + 1, none⟩ = some (.string y.val) by
                have := row_at HRI.out (by omega) hcy
                rwa [show (m + 1 + j) * 2 = o2 + j * 2 by have := HO2.out; omega] at this)
              have HZZ := Lib.hid (row_at HRI.out (show i < n by omega) hz)
              have HFR := Lib.hid (show (∀ q, wi.frozen? ⟨g, q, none⟩ = false) from fun q => HRI.out.frozenAt q)
              obtain ⟨c0, c1⟩ := HCC.out
              obtain ⟨d0, d1⟩ := HDD.out
              have HST := Lib.hid (show compactL (l.take (m + 1 + (j + 1) + 1)) = if sameL x y then compactL (l.take (m + 1 + (j + 1))) else compactL (l.take (m + 1 + (j + 1))) ++ [x] from compact_step hx hy)
              have e0 : (⟨g, o2, none⟩ : Addr).add ((j + 1) * 2) = ⟨g, o2 + (j + 1) * 2, none⟩ := by unfold Addr.add; split <;> simp_all
              have e1 : (⟨g, o2, none⟩ : Addr).add (j * 2) = ⟨g, o2 + j * 2, none⟩ := by unfold Addr.add; split <;> simp_all
              have e2 : (⟨g, 0, none⟩ : Addr).add (i * 2) = ⟨g, i * 2, none⟩ := by unfold Addr.add; split <;> simp_all
              have hwr : IntKind.i64.wrap (j : Int) = (j : Int) := IntWalk.i64_in _ (by omega)
              have hm0 : (0 : Int) ≤ (j : Int) := by omega
              have hmn : (j : Int) < (p : Int) := by omega
              have hmn1 : (j : Int) + 1 < (p : Int) := by omega
              have hmn2 : j < p := by omega
              have hp0 : (0 : Int) ≤ (j : Int) + 1 := by omega
              have hp1 : ((j : Int) + 1).toNat = j + 1 := by omega
              have hin : (i : Int) < (n : Int) := by omega
              have hin2 : i < n := by omega
              have hgd : Tryz.prog.eqGuardType Tryz.prog.depth 49 = false := by kernel_rfl
              obtain ⟨t, ht⟩ : ∃ t, sameL x y = t := ⟨_, rfl⟩
              have heq := fun v => eql_label x y v
              rw [ht] at heq HST
              clear hx hy hz hcx hcy ht hlj
              have hneq : ∀ v, (binOp BinOp.neq 49 (.agg #[.string x.key, .string x.val]) (.agg #[.string y.key, .string y.val])).run Tryz.prog v = .ok (.bool (!t)) v := fun v => run_neq_label x y t v (heq v)
              clear heq
              cases t with
              | true =>
                go_wp2_with fail
                go_quiet (fail)
                go_wp2
                go_roundw
                case rel =>
                  refine ⟨i, j + 1, cur, rfl, by go_num, by omega, by omega, HCL.out, ?_, ?_, Err.own_keep HRI.out (Kit.below_drewN _ _ _), HKI.out.next (Kit.below_drewN _ _ _) (Nat.le_refl _)⟩
                  · unfold Hid
                    rw [HT.out, show m + 1 + (j + 1 + 1) = m + 1 + (j + 1) + 1 by omega, HST.out, if_pos True.intro]
                  · unfold Hid
                    have e := congrArg (List.drop 1) HD.out
                    rw [List.drop_drop, List.drop_drop] at e
                    exact e
                case measure => simp [RowKit.intOf]; omega
              | false =>
                have hfa := HFR.out (i * 2)
                have hfb := HFR.out (i * 2 + 1)
                obtain ⟨z0, z1⟩ := HZZ.out
                go_wp2_with fail
                go_quiet (fail)
                go_wp2_with fail
                go_roundw
                case rel =>
                  refine ⟨i + 1, j + 1, cur.set i x, by go_num, by go_num, by omega, by omega, by rw [List.length_set]; exact HCL.out, ?_, ?_, set_row (Err.own_keep HRI.out (Kit.below_drewN _ _ _)) i x, ((HKI.out.next (Kit.below_drewN _ _ _) (Nat.le_refl _)).set _ _).set _ _⟩
                  · unfold Hid
                    have e := HST.out
                    simp at e
                    rw [take_set (by rw [HCL.out]; omega), HT.out, show m + 1 + (j + 1 + 1) = m + 1 + (j + 1) + 1 by omega, e]
                  · unfold Hid
                    have e := congrArg (List.drop 1) HD.out
                    rw [List.drop_drop, List.drop_drop] at e
                    rw [List.drop_set_of_lt (by omega)]
                    exact e
                case measure => simp [RowKit.intOf]; omega
            · obtain rfl : p = j + 1 := by omega
              have hin : (i : Int) ≤ (n : Int) := by omega
              have hic : (i : Int) ≤ (cap : Int) := by omega
              have hin1 : i < n := by omega
              have hic1 : i < cap := by omega
              have hic2 : i ≠ cap := by omega
              have HE := Lib.hid (show cur.take i = compactL l by
                have e := HT.out
                rwa [List.take_of_length_le (show l.length ≤ m + 1 + (j + 1) by have := HLN.out; omega)] at e)
              have HEL := Lib.hid (show (compactL l).length = i by rw [← HE.out, List.length_take, HCL.out]; omega)
              have e2 : (⟨g, 0, none⟩ : Addr).add (i * 2) = ⟨g, i * 2, none⟩ := by unfold Addr.add; split <;> simp_all
              obtain ⟨vs, hcl⟩ := run_clear_two wi g (i * 2) (n - i) (cap - i) (by omega) (fun q hq => by rw [HRI.out.cellAt (i * 2 + q) (by omega), List.getElem?_eq_getElem (by rw [flatL_length, HCL.out]; omega)]; rfl) (fun q hq => HRI.out.frozenAt _)
              go_wp2_with fail
              go_ret
              rw [HEL.out]
              exact ⟨rfl, own_front HRI.out (by omega) HE.out HEL.out vs, setCells_kx vs (i * 2) HKI.out⟩
      · obtain rfl : n = m + 1 := by omega
        have HE := Lib.hid (show compactL l = l by have := HC.out; rwa [List.take_of_length_le (by omega)] at this)
        go_wp2_with fail
        go_ret
        rw [HE.out, HLN.out]
        exact ⟨rfl, HR.out, HK.out⟩
end Sl
end Go.Proofs.YtaegknpijgjioaaGreatDoor
