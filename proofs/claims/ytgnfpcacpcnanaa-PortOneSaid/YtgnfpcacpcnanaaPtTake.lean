/-
  Ports taken: all of a call's ports are the owner's, or none of them. Condition: the table is one (Tb, Ok); the ports lie in memory, there are not too many.
-/
import Derived.Test.YtgnfpcacpcnanaaPtSorted
set_option linter.unusedVariables false
set_option linter.unusedSimpArgs false
namespace Go.Proofs.Ytgnfpcacpcnanaa
open Go.ChangeShapes Go.WideShapes Go.ChangeAt Go.RowKit Go.Lib
open Lists
namespace Pt

theorem owns_kt {B g : Nat} {w w' : World} {base : Nat} {e : TypeId} {size n : Nat} {v : Value} {xs : List Value} (h : w.ownsRow base e size v n xs) (hk : Kt B g w w') {l : Tab} (ht : Tb B w g l) (h1 : e ≠ 59) (h2 : e ≠ 48) : w'.ownsRow base e size v n xs :=
  owns_of h fun r hr => by
    obtain ⟨_, cur, hc⟩ := owns_at h hr
    refine hk.block r (lt_of_block hc) ?_ (.inr ?_)
    · rintro rfl
      obtain ⟨A, c, ht⟩ := ht
      rw [ht.box] at hc
      injection hc with hc
      injection hc with _ hc _
      exact h2 hc.symm
    · rintro ⟨cur', hc'⟩
      rw [hc] at hc'
      injection hc' with hc'
      injection hc' with _ hc' _
      exact h1 hc'
theorem ints_at {w : World} {base n : Nat} {A : Option Addr} {c : Nat} {l : List Int} (h : w.ownsRow base 3 1 (.slice A n c) n (l.map (Value.int .i64))) {k : Nat} {x : Int} (hx : l[k]? = some x) (hn : l.length = n) : ∃ r, A = some ⟨r, 0, none⟩ ∧ r < w.heap.size ∧ w.cell? ⟨r, k, none⟩ = some (.int .i64 x) := by
  have hk := (List.getElem?_eq_some_iff.1 hx).1
  rcases own_addr h with ⟨_, h0, _⟩ | ⟨r, rfl, _, hr⟩
  · omega
  · refine ⟨r, rfl, hr, ?_⟩
    rw [h.cellAt k (by omega), List.getElem?_map, hx]
    rfl
set_option maxRecDepth 100000 in
set_option maxHeartbeats 4000000 in
theorem take_fine {B g : Nat} {l : Tab} (o : Int) (ps : List Int) (P : Option Addr) (c : Nat) (w : World) (h : Tb B w g l) (hok : Ok l) (ho : o ≤ 9223372036854775807) (hA : Nums .i64 w P ps) (hlen : l.length + ps.length ≤ 100000) (hf : fineB o ps = true) :
    Calls Try.prog 8 #[.pointer (some ⟨g, 0, none⟩), .int .i64 o, .slice P ps.length c] w fun e w' => e = .returned (.int .i64 (takeC l o ps : Int)) ∧ Tb B w' g (takeL l o ps) ∧ Kt B g w w' := by
  have hco := contains_any P c ps w hA (by omega)
  have hall : ps.all inR = true := by unfold fineB at hf; simp only [Bool.and_eq_true] at hf; exact hf.2
  have ho1 : 1 ≤ o := by unfold fineB at hf; simp only [Bool.and_eq_true, decide_eq_true_eq] at hf; exact hf.1
  rw [hall] at hco
  have hva := values_any P ps.length c w
  obtain ⟨u, hu⟩ : ∃ u, u = w.alloc (.cells #[.slice P ps.length c] 26) := ⟨_, rfl⟩
  have hBu : Below w.heap.size w u := by rw [hu]; exact (Below.refl _ _).alloc (Nat.le_refl _) _
  have hbx : u.heap[w.heap.size]? = some (.cells #[.slice P ps.length c] 26 (0, 0)) := by rw [hu]; exact heap_alloc_new w _
  have hso := sorted_any w.heap.size ps P c u hbx (nums_below hA hBu) (by omega)
  rw [← hu] at hva
  have H := Lib.hid (h.below hBu)
  have HOK := Lib.hid hok
  have HBU := Lib.hid hBu
  have HKU := Lib.hid (show ∀ v, Below u.heap.size u v → Kt B g w v from fun v hv => Kt.of_below (hBu.trans (hv.mono hBu.size)))
  have HF := Lib.hid hf
  have HA := Lib.hid hall
  have hgB : B ≤ g := by obtain ⟨_, _, ht⟩ := h; exact ht.hB
  obtain ⟨rs, hrs⟩ : ∃ rs, sortI ps = rs := ⟨_, rfl⟩
  have hrl : rs.length = ps.length := by rw [← hrs]; exact (sort_perm ps).length_eq
  have HRS := Lib.hid hrs
  rw [hrs] at hso
  obtain ⟨n, hn⟩ : ∃ n, ps.length = n := ⟨_, rfl⟩
  rw [hn] at hso hva hco hrl hlen ⊢
  have HRL := Lib.hid hrl
  have HN := Lib.hid hn
  have hlt1 : decide (o < 1) = false := decide_eq_false (by omega)
  have hn' : (n : Int) ≤ 100000 := by omega
  have HLEN := Lib.hid hlen
  clear h hok hf hA hall hu hBu hbx hrs hrl hn hlen
  go_enter Try.func8, Try.ntmps8
  go_wp2_with (first
    | (go_at_call 18; refine hco.mono ?_; clear hco; rintro e w0 ⟨rfl, hw0⟩; obtain rfl := hw0.symm; clear hw0)
    | (go_at_call 21; refine hva.mono ?_; clear hva; rintro e w0 ⟨rfl, hw0⟩; obtain rfl := hw0.symm; clear hw0)
    | (go_at_call 20; refine hso.mono ?_; clear hso; rintro e w2 ⟨A', c', rfl, hrow, hbb⟩; have HROW := Lib.hid hrow; have HB2 := Lib.hid hbb; clear hrow hbb))
  go_loopw [25] (fun i wr => ∃ k : Nat, k ≤ n ∧ i = .int .i64 k ∧ Hid (∀ j, j < k → clashB l rs j = false) ∧ Hid (Below w2.heap.size w2 wr)) (fun i _ => n - (RowKit.intOf i).toNat)
  case atStart => exact ⟨0, Nat.zero_le _, rfl, fun j hj => absurd hj (Nat.not_lt_zero _), Below.refl _ _⟩
  case round =>
    obtain ⟨k, hk, rfl, HC, HW⟩ := hrel
    have HT := Lib.hid ((H.out.below HB2.out).below HW.out)
    have HRW := Lib.hid (owns_below HROW.out HW.out)
    by_cases hkn : k < n
    · obtain ⟨p, hp⟩ : ∃ p, rs[k]? = some p := ⟨_, List.getElem?_eq_getElem (by have := HRL.out; omega)⟩
      obtain ⟨r, rfl, hr, k1⟩ := ints_at HRW.out hp HRL.out
      have how := owner_any p wr HT.out HOK.out (by have := HLEN.out; omega)
      have hkn' : (k : Int) < (n : Int) := by omega
      obtain ⟨z, hz⟩ : ∃ z, ownerL l p = z := ⟨_, rfl⟩
      rw [hz] at how
      have HCL := Lib.hid (show clashB l rs k = (!decide (z = 0) || (decide (0 < k) && decide (rs[k - 1]?.getD 0 = p))) by unfold clashB; rw [hp]; subst hz; rfl)
      have HWW := Lib.hid (show ∀ v, Below wr.heap.size wr v → Kt B g w v from fun v hv => HKU.out v ((HB2.out.trans (HW.out.mono HB2.out.size)).trans (hv.mono (Nat.le_trans HB2.out.size HW.out.size))))
      clear hp hz
      by_cases hz0 : z = 0
      · subst hz0
        by_cases hk0 : 0 < k
        · obtain ⟨q, hq⟩ : ∃ q, rs[k - 1]? = some q := ⟨_, List.getElem?_eq_getElem (by have := HRL.out; omega)⟩
          obtain ⟨r2, er, _, k2⟩ := ints_at HRW.out hq HRL.out
          cases er
          have hk0' : (0 : Int) < (k : Int) := by omega
          have hk2' : (k : Int) - 1 < (n : Int) := by omega
          have hk3' : (0 : Int) ≤ (k : Int) - 1 := by omega
          have hk4' : ((k : Int) - 1).toNat = k - 1 := by omega
          have hw1 : IntKind.i64.wrap ((k : Int) - 1) = (k : Int) - 1 := by rw [IntKind.wrap_i64]; omega
          have HCL2 := Lib.hid (show clashB l rs k = decide (q = p) by rw [HCL.out, hq]; simp [hk0])
          clear hq
          by_cases hqp : q = p
          · have hqp' : (q == p) = true := by simpa using hqp
            have HX := Lib.hid (show clashB l rs k = true by rw [HCL2.out, hqp]; simp)
            clear hqp
            go_wp2_with (go_at_call 12; refine how.mono ?_; rintro e w3 ⟨rfl, hbb⟩; have k1' := (hbb.cell (p := ⟨r, k, none⟩) hr).trans k1; have k2' := (hbb.cell (p := ⟨r, k - 1, none⟩) hr).trans k2; have HB3 := Lib.hid hbb; clear hbb how)
            go_ret
            obtain ⟨t1, t2⟩ := take_clash (l := l) (o := o) (ps := ps) (i := k) HF.out (by rw [HRS.out, HRL.out]; exact hkn) (by rw [HRS.out]; exact HX.out)
            refine ⟨by rw [t1]; rfl, ?_, HWW.out _ HB3.out⟩
            rw [t2]; exact HT.out.below HB3.out
          · have hqp' : (q == p) = false := by simpa using hqp
            have HX := Lib.hid (show clashB l rs k = false by rw [HCL2.out]; simpa using hqp)
            clear hqp
            go_wp2_with (go_at_call 12; refine how.mono ?_; rintro e w3 ⟨rfl, hbb⟩; have k1' := (hbb.cell (p := ⟨r, k, none⟩) hr).trans k1; have k2' := (hbb.cell (p := ⟨r, k - 1, none⟩) hr).trans k2; have HB3 := Lib.hid hbb; clear hbb how)
            go_roundw
            case rel => exact ⟨k + 1, by omega, by simp, fun j hj => by
                rcases Nat.lt_or_ge j k with h1 | h1
                · exact HC.out j h1
                · rw [show j = k by omega]; exact HX.out, HW.out.trans (HB3.out.mono HW.out.size)⟩
            case measure => simp [RowKit.intOf]; omega
        · obtain rfl : k = 0 := by omega
          have HX := Lib.hid (show clashB l rs 0 = false by rw [HCL.out]; simp)
          go_wp2_with (go_at_call 12; refine how.mono ?_; rintro e w3 ⟨rfl, hbb⟩; have HB3 := Lib.hid hbb; clear hbb how)
          go_roundw
          case rel => exact ⟨1, by omega, by simp, fun j hj => by
              rw [show j = 0 by omega]; exact HX.out, HW.out.trans (HB3.out.mono HW.out.size)⟩
          case measure => simp [RowKit.intOf]; omega
      · have hz' : (z != 0) = true := by simpa using hz0
        have HX := Lib.hid (show clashB l rs k = true by rw [HCL.out]; simp [hz0])
        clear hz0
        go_wp2_with (go_at_call 12; refine how.mono ?_; rintro e w3 ⟨rfl, hbb⟩; have HB3 := Lib.hid hbb; clear hbb how)
        go_ret
        obtain ⟨t1, t2⟩ := take_clash (l := l) (o := o) (ps := ps) (i := k) HF.out (by rw [HRS.out, HRL.out]; exact hkn) (by rw [HRS.out]; exact HX.out)
        refine ⟨by rw [t1]; rfl, ?_, HWW.out _ HB3.out⟩
        rw [t2]; exact HT.out.below HB3.out
    · have hkn' : ¬ (k : Int) < (n : Int) := by omega
      obtain ⟨t1, t2⟩ := take_free (l := l) (o := o) (ps := ps) HOK.out ho HF.out (fun j hj => by rw [HRS.out] at hj ⊢; exact HC.out j (by rw [HRL.out] at hj; omega))
      have T1 := Lib.hid t1
      have T2 := Lib.hid t2
      have HFREE := Lib.hid (clash_none (l := l) (ps := ps) (fun j hj => by rw [HRS.out] at hj ⊢; exact HC.out j (by rw [HRL.out] at hj; omega)))
      have HK0 := Lib.hid (show Kt B g w wr from HKU.out wr (HB2.out.trans (HW.out.mono HB2.out.size)))
      have HT0 := Lib.hid ((H.out.below HB2.out).below HW.out)
      have HRW := Lib.hid (owns_below HROW.out HW.out)
      clear t1 t2 HC HT
      obtain ⟨wz, hwz⟩ : ∃ wz, wz = wr := ⟨_, rfl⟩
      subst hwz
      go_wp2
      go_loopw [50] (fun i wr => ∃ k : Nat, k ≤ n ∧ i = .int .i64 k ∧ Hid (Tb B wr g (layL o (rs.take k) l)) ∧ Hid (Kt B g wz wr)) (fun i _ => n - (RowKit.intOf i).toNat)
      case atStart => exact ⟨0, Nat.zero_le _, rfl, HT0.out, Kt.refl _ _ _⟩
      case round =>
        obtain ⟨k, hk, rfl, HT, HK⟩ := hrel
        have HRV := Lib.hid (owns_kt HRW.out HK.out HT0.out (by decide) (by decide))
        by_cases hkn : k < n
        · obtain ⟨p, hp⟩ : ∃ p, rs[k]? = some p := ⟨_, List.getElem?_eq_getElem (by have := HRL.out; omega)⟩
          obtain ⟨r, rfl, hr, k1⟩ := ints_at HRV.out hp HRL.out
          have hkn' : (k : Int) < (n : Int) := by omega
          have htk : rs.take (k + 1) = rs.take k ++ [p] := by rw [List.take_add_one, hp]; rfl
          have HST := Lib.hid (show layL o (rs.take (k + 1)) l = insL o p (layL o (rs.take k) l) by rw [htk]; unfold layL; rw [List.foldl_append]; rfl)
          have hfr : Free l (rs.take k) := by
            obtain ⟨f1, f2⟩ := HFREE.out
            have hpm : rs.Perm ps := by rw [← HRS.out]; exact sort_perm ps
            exact ⟨fun q hq => f1 q (hpm.subset (List.mem_of_mem_take hq)), (List.take_sublist k rs).nodup (hpm.nodup_iff.2 f2)⟩
          have hokk : Ok (layL o (rs.take k) l) := Ok.lay ⟨ho1, ho⟩ HOK.out hfr (fun q hq => by
            have hpm : rs.Perm ps := by rw [← HRS.out]; exact sort_perm ps
            exact (List.all_eq_true.1 HA.out) q (hpm.subset (List.mem_of_mem_take hq)))
          have hlk : (layL o (rs.take k) l).length ≤ 100000 := by rw [lay_length, List.length_take]; have := HLEN.out; omega
          obtain ⟨m, hm⟩ : ∃ m, layL o (rs.take k) l = m := ⟨_, rfl⟩
          rw [hm] at HT HST hokk hlk
          have hfi := find_any p wr HT.out hokk.up hlk
          have hloe := lo_le p m
          have HLO := Lib.hid (show insL o p m = m.take (lo p m) ++ (p, o) :: m.drop (lo p m) from rfl)
          have HHT := Lib.hid (And.intro hloe hlk)
          generalize lo p m = at' at hfi HLO HHT hloe
          generalize hasP m p = hb at hfi
          have HINS := Lib.hid (show ∀ v, Below wr.heap.size wr v → ∃ A c, v.cell? ⟨g, 0, none⟩ = some (.slice A m.length c) ∧ ∀ vb z, Below v.heap.size v z → z.heap[vb]? = some (.cells #[.int .i64 p, .int .i64 o] 59 (0, 0)) → v.heap.size ≤ vb →
              Calls Try.prog 23 #[.slice A m.length c, .int .i64 at', .slice (some ⟨vb, 0, none⟩) 1 1] z fun e w' => ∃ A' c', e = .returned (.slice A' (m.length + 1) c') ∧
                w'.cell? ⟨g, 0, none⟩ = some (.slice A m.length c) ∧ w'.frozen? ⟨g, 0, none⟩ = false ∧ Tb B (w'.setCell ⟨g, 0, none⟩ (.slice A' (m.length + 1) c')) g (insL o p m) ∧ Kt B g wr (w'.setCell ⟨g, 0, none⟩ (.slice A' (m.length + 1) c')) from by
            intro v hv
            obtain ⟨A, c, ht⟩ := HT.out.below hv
            refine ⟨A, c, ht.cell, fun vb z hz hvb hge => ?_⟩
            have htz := ht.below hz
            have hBz : B ≤ z.heap.size := Nat.le_trans htz.hB (Nat.le_of_lt htz.lt)
            refine (insert_any at' (p, o) vb z htz.row hloe hlk hBz hvb (fun r hr => by
              rintro rfl
              subst hr
              obtain ⟨_, cur, hc⟩ := owns_at ht.row rfl
              have hvl : vb < v.heap.size := lt_of_block hc
              omega)).mono ?_
            rintro e w' ⟨A', c', rfl, hrow, hgr⟩
            have hlen2 : (insL o p m).length = m.length + 1 := ins_length o p m
            rw [← HLO.out, ← hlen2] at hrow
            obtain ⟨q1, q2, q3, q4⟩ := tb_store htz hrow hgr
            rw [hlen2] at q3 q4
            exact ⟨A', c', rfl, q1, q2, q3, (Kt.of_below (hv.trans (hz.mono hv.size))).trans q4⟩)
          clear hp hm hfr hokk htk hlk hloe
          go_wp2_with (first
            | (go_at_call 22; refine hfi.mono ?_; clear hfi; rintro e w3 ⟨rfl, hbb⟩; obtain ⟨A, c, c0, hins⟩ := HINS.out _ hbb; clear hbb)
            | (go_at_call 23; refine (hins _ _ ((Below.refl _ _).alloc (Nat.le_refl _) _) (heap_alloc_new _ _) (Nat.le_refl _)).mono ?_; clear hins; rintro e w4 ⟨A2, c2, rfl, cg, fg, hT2, hK2⟩; have HT2 := Lib.hid hT2; have HK2 := Lib.hid hK2; clear hT2 hK2))
          go_roundw
          case rel => exact ⟨k + 1, by omega, by simp, by rw [HST.out]; exact HT2.out, HK.out.trans HK2.out⟩
          case measure => simp [RowKit.intOf]; omega
        · have hkn' : ¬ (k : Int) < (n : Int) := by omega
          have HD := Lib.hid (show rs.take k = rs from List.take_of_length_le (by have := HRL.out; omega))
          go_wp2
          go_ret
          refine ⟨by rw [T1.out]; rfl, ?_, HK0.out.trans HK.out⟩
          have := HT.out
          rw [HD.out] at this
          rw [T2.out, HRS.out]
          exact this
theorem take_any {B g : Nat} {l : Tab} (o : Int) (ps : List Int) (P : Option Addr) (c : Nat) (w : World) (h : Tb B w g l) (hok : Ok l) (ho : o ≤ 9223372036854775807) (hA : Nums .i64 w P ps) (hlen : l.length + ps.length ≤ 100000) :
    Calls Try.prog 8 #[.pointer (some ⟨g, 0, none⟩), .int .i64 o, .slice P ps.length c] w fun e w' => e = .returned (.int .i64 (takeC l o ps : Int)) ∧ Tb B w' g (takeL l o ps) ∧ Kt B g w w' := by
  cases hf : fineB o ps with
  | true => exact take_fine o ps P c w h hok ho hA hlen hf
  | false =>
    obtain ⟨t1, t2⟩ := take_range (l := l) hf
    rw [t1, t2]
    have hco := contains_any P c ps w hA (by omega)
    have H := Lib.hid h
    by_cases h1 : 1 ≤ o
    · have hall : ps.all inR = false := by
        unfold fineB at hf
        rw [decide_eq_true h1] at hf
        simpa using hf
      rw [hall] at hco
      have hlt1 : decide (o < 1) = false := decide_eq_false (by omega)
      generalize ps.length = n at hco ⊢
      clear hall hf h hok hA t1 t2
      go_enter Try.func8, Try.ntmps8
      go_wp2_with (go_at_call 18; refine hco.mono ?_; clear hco; rintro e w0 ⟨rfl, hw0⟩; obtain rfl := hw0.symm; clear hw0)
      go_ret
      exact ⟨rfl, H.out, Kt.refl _ _ _⟩
    · have hlt1 : decide (o < 1) = true := decide_eq_true (by omega)
      generalize ps.length = n at hco ⊢
      clear hf h hok hA t1 t2
      go_enter Try.func8, Try.ntmps8
      go_wp2_with fail
      go_ret
      exact ⟨rfl, H.out, Kt.refl _ _ _⟩
end Pt
end Go.Proofs.Ytgnfpcacpcnanaa
