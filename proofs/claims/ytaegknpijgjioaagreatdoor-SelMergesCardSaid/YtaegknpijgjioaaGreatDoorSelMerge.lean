/-
  The contract of sel.Merge: two lists of labels, sorted and made one where they are alike; none where two are of one key. All that was there is left as it was. Conditions: the lists are short, and so are their texts.
-/
import Derived.Test.YtaegknpijgjioaaGreatDoorSelUniq
set_option linter.unusedVariables false
set_option linter.unusedSimpArgs false
namespace Go.Proofs.YtaegknpijgjioaaGreatDoor
open Go.ChangeShapes Go.WideShapes Go.ChangeAt Go.RowKit Go.Lib
open Sd Lists SpecOwn Book Go.Sort
namespace Sl

theorem kx_grown {w w' : World} {g : Nat} (h : w.grownBy w' (some g)) : Kx g w.heap.size w w' :=
  ⟨h.os, h.tape, h.output, h.size, fun b hb hne => h.block b hb (fun e => hne (by injection e))⟩
theorem compact_none (cap : Nat) (w : World) :
    Calls Tryz.prog 31 #[.slice none 0 cap] w fun e w' => e = .returned (.slice none 0 cap) ∧ w = w' := by
  go_enter Tryz.func31, Tryz.ntmps31
  go_wp2_with fail
  go_ret
  exact ⟨rfl, rfl⟩
theorem twins_drop {l : List Lbl} {m : Nat} {x y : Lbl} (hx : l[m + 1]? = some x) (hy : l[m]? = some y) : twins (l.drop m) = ((x.key.toList == y.key.toList) || twins (l.drop (m + 1))) := by
  obtain ⟨h1, e1⟩ := List.getElem?_eq_some_iff.1 hx
  obtain ⟨h0, e0⟩ := List.getElem?_eq_some_iff.1 hy
  rw [List.drop_eq_getElem_cons h0, List.drop_eq_getElem_cons h1, e0, e1, twins]
theorem twins_end {l : List Lbl} {m : Nat} (h : l.length ≤ m + 1) : twins (l.drop m) = false := by
  obtain ⟨d, hd⟩ : ∃ d, l.drop m = d := ⟨_, rfl⟩
  have hl : d.length ≤ 1 := by rw [← hd, List.length_drop]; omega
  rw [hd]
  match d, hl with
  | [], _ => rfl
  | [x], _ => rfl
/-- both, in the caller's own row, or none -/
def Merged (a b : List Lbl) (w : World) (e : Ending) (w' : World) : Prop := ∃ C cc, e = .returned (.tuple #[.slice C (mergeV a b).1.length cc, .bool (mergeV a b).2]) ∧ Lbls w' C (mergeV a b).1 ∧ Below w.heap.size w w'
set_option maxRecDepth 100000 in
set_option maxHeartbeats 4000000 in
theorem merge_any (A : Option Addr) (c : Nat) (a : List Lbl) (B : Option Addr) (d : Nat) (b : List Lbl) (ha : a.length ≤ 400) (hb : b.length ≤ 400) (hsz : ∀ x, x ∈ a ∨ x ∈ b → x.key.size ≤ 3000 ∧ x.val.size ≤ 3000) (w : World) (hA : Lbls w A a) (hB : Lbls w B b) :
    Calls Tryz.prog 14 #[.slice A a.length c, .slice B b.length d] w (Merged a b w) := by
  have HA := Lib.hid hA
  have HB := Lib.hid hB
  have HS := Lib.hid (show ∀ x ∈ compactL (sortL (a ++ b)), x.key.size ≤ 3000 ∧ x.val.size ≤ 3000 from fun x hx => hsz x ((merge_mem a b x).1 hx))
  obtain ⟨M, hM⟩ : ∃ M, compactL (sortL (a ++ b)) = M := ⟨_, rfl⟩
  have hML : M.length ≤ 800 := by
    rw [← hM]
    have h1 := compactL_len (sortL (a ++ b))
    rw [sortL_length, List.length_append] at h1
    omega
  have HV := Lib.hid (show mergeV a b = if twins M then ([], false) else (M, true) by unfold mergeV; rw [hM])
  have HM := Lib.hid hM
  rw [hM] at HS
  clear hA hB hsz hM
  go_enter Tryz.func14, Tryz.ntmps14
  go_wp2_with fail
  obtain ⟨w0, hw0⟩ : ∃ v, w.alloc (.cells #[.slice A a.length c, .slice B b.length d] 22) = v := ⟨_, rfl⟩
  have B0 := Lib.hid (show Below w.heap.size w w0 by rw [← hw0]; exact (Below.refl _ _).alloc (Nat.le_refl _) _)
  have X0 := Lib.hid (show w0.heap[w.heap.size]? = some (.cells #[.slice A a.length c, .slice B b.length d] 22 (0, 0)) by rw [← hw0]; exact heap_alloc_new w _)
  rw [hw0]
  clear hw0
  refine (concat_any A c a B d b (by omega) (by omega) w.heap.size w0 (HA.out.below B0.out) (HB.out.below B0.out) X0.out).mono ?_
  rintro e w1 ⟨v, rfl, hown, hb1⟩
  have B1 := Lib.hid (B0.out.trans (hb1.mono B0.out.size))
  have HL := Lib.hid (show (a ++ b).length = a.length + b.length from List.length_append)
  obtain ⟨l, hl⟩ : ∃ l, a ++ b = l := ⟨_, rfl⟩
  rw [hl] at hown HM HL
  have hll : l.length ≤ 800 := by have := HL.out; omega
  have HO := Lib.hid hown
  have hbs := B0.out.size
  clear hl hb1 hown X0
  rcases HO.out.2 with ⟨rfl, hn⟩ | ⟨g, cap, cur, rfl, hbg, hgg, hnc, hcm, -, -⟩
  · have HMN := Lib.hid (show M = [] by rw [← HM.out, List.eq_nil_of_length_eq_zero hn]; simp [sortL, compactL])
    have HT := Lib.hid (show mergeV a b = ([], true) by rw [HV.out, HMN.out]; rfl)
    clear HO
    go_wp2_with fail
    refine (sort_none 0 w1).mono ?_
    rintro e w2 ⟨rfl, rfl⟩
    go_wp2_with fail
    refine (compact_none 0 w1).mono ?_
    rintro e w2 ⟨rfl, rfl⟩
    go_wp2_with fail
    refine wp_loop_rounds 1 ?_
    rw [rounds_succ]
    go_wp2_with fail
    refine (ownTexts_none 0 w1).mono ?_
    rintro e w2 ⟨rfl, rfl⟩
    go_wp2_with fail
    go_ret2
    exact ⟨none, 0, by rw [HT.out]; rfl, by rw [HT.out]; exact lbls_nil _ _, B1.out⟩
  · have hgl := lt_of_block hgg
    have hnm : cap ≤ 9223372036854775807 := hcm
    clear hgg
    go_wp2_with fail
    refine (sort_some w0.heap.size g cap l (by omega) w1 HO.out hgl).mono ?_
    rintro e w2 ⟨rfl, hown2, hgr2⟩
    have K2 := Lib.hid (kx_grown hgr2)
    have HO2 := Lib.hid hown2
    have HLS := Lib.hid (sortL_length l)
    clear hown2 hgr2 HO
    go_wp2_with fail
    refine (compact_some w0.heap.size g cap l.length (sortL l) HLS.out (by omega) w2 HO2.out ⟨hnc, hnm⟩).mono ?_
    rintro e w3 ⟨rfl, hown3, hk3⟩
    rw [HM.out] at hown3 ⊢
    have K3 := Lib.hid (K2.out.trans hk3 K2.out.size)
    have HO3 := Lib.hid hown3
    have hgl3 : g < w3.heap.size := Nat.lt_of_lt_of_le hgl K3.out.size
    clear hown3 hk3 HO2 K2
    obtain ⟨n, hn⟩ : ∃ n, M.length = n := ⟨_, rfl⟩
    rw [hn] at HO3 hML ⊢
    have HN := Lib.hid hn
    clear hn
    go_wp2_with fail
    go_loopw [7] (fun i wr => ∃ m : Nat, m ≤ n ∧ i = .int .i64 ((m + 1 : Nat) : Int) ∧ Hid (twins M = twins (M.drop m)) ∧ Hid (Below w3.heap.size w3 wr)) (fun i _ => n + 1 - (RowKit.intOf i).toNat)
    case atStart => exact ⟨0, Nat.zero_le _, rfl, rfl, Below.refl _ _⟩
    case round =>
      obtain ⟨m, hm, rfl, HT, HW⟩ := hrel
      have HOR := Lib.hid (Err.own_keep HO3.out HW.out)
      have HKR := Lib.hid (K3.out.next HW.out (Nat.le_refl _))
      by_cases hlt : m + 1 < n
      · have hln : M.length = n := HN.out
        obtain ⟨x, hx⟩ : ∃ x, M[m + 1]? = some x := ⟨_, List.getElem?_eq_getElem (by omega)⟩
        obtain ⟨y, hy⟩ : ∃ y, M[m]? = some y := ⟨_, List.getElem?_eq_getElem (by omega)⟩
        obtain ⟨c0, c1⟩ := row_at HOR.out hlt hx
        obtain ⟨d0, d1⟩ := row_at HOR.out (show m < n by omega) hy
        have HTW := Lib.hid (twins_drop hx hy)
        have e0 : (⟨g, 0, none⟩ : Addr).add ((m + 1) * 2) = ⟨g, (m + 1) * 2, none⟩ := by unfold Addr.add; split <;> simp_all
        have e1 : (⟨g, 0, none⟩ : Addr).add (m * 2) = ⟨g, m * 2, none⟩ := by unfold Addr.add; split <;> simp_all
        have hwr : IntKind.i64.wrap (m : Int) = (m : Int) := IntWalk.i64_in _ (by omega)
        have hm0 : (0 : Int) ≤ (m : Int) := by omega
        have hmn : (m : Int) < (n : Int) := by omega
        have hmn1 : (m : Int) + 1 < (n : Int) := by omega
        have hmn2 : m < n := by omega
        have hp0 : (0 : Int) ≤ (m : Int) + 1 := by omega
        have hp1 : ((m : Int) + 1).toNat = m + 1 := by omega
        clear hx hy hln c1 d1
        cases hh : (x.key.toList == y.key.toList) with
        | true =>
          have HTT := Lib.hid (show mergeV a b = ([], false) by rw [HV.out, HT.out, HTW.out, hh]; rfl)
          go_wp2_with fail
          go_quiet (fail)
          go_wp2
          go_ret2
          exact ⟨none, 0, by rw [HTT.out]; rfl, by rw [HTT.out]; exact lbls_nil _ _, B1.out.trans (((HKR.out.next (Kit.below_drewN _ _ _) (Nat.le_refl _)).mono (B := w.heap.size) B1.out.size).below (by omega))⟩
        | false =>
          have HTT := Lib.hid (show twins M = twins (M.drop (m + 1)) by rw [HT.out, HTW.out, hh]; rfl)
          go_wp2_with fail
          go_quiet (fail)
          go_wp2
          go_roundw
          case rel => exact ⟨m + 1, by omega, by go_num, HTT.out, HW.out.trans ((Kit.below_drewN _ _ _).mono HW.out.size)⟩
          case measure => simp [RowKit.intOf]; omega
      · have HTT := Lib.hid (show mergeV a b = (M, true) by rw [HV.out, HT.out, twins_end (by have := HN.out; omega)]; rfl)
        have HOT := Lib.hid (ownTexts_some w0.heap.size g cap M hbg (by have := HN.out; omega) HS.out wr (by rw [HN.out]; exact HOR.out) (Nat.lt_of_lt_of_le hgl3 HW.out.size))
        rw [HN.out] at HOT
        go_wp2_with fail
        refine HOT.out.mono ?_
        rintro e w5 ⟨rfl, hown5, hk5⟩
        have K5 := Lib.hid (HKR.out.trans hk5 HKR.out.size)
        have HO5 := Lib.hid hown5
        clear hown5 hk5
        go_wp2_with fail
        go_ret2
        refine ⟨some ⟨g, 0, none⟩, cap, by rw [HTT.out, ← HN.out]; rfl, ?_, B1.out.trans ((K5.out.mono (B := w.heap.size) B1.out.size).below (by omega))⟩
        rw [HTT.out]
        have := HO5.out
        rw [← HN.out] at this
        exact (lbls_own this).1
end Sl
end Go.Proofs.YtaegknpijgjioaaGreatDoor
