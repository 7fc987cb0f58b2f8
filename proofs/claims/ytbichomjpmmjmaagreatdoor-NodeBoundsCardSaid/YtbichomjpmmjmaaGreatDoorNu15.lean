/-
  Ports taken: all of a call's ports are the owner's, or none of them. Condition: the table is one (Tb, Ok); the ports lie in memory, there are not too many.
-/
import Derived.Test.YtbichomjpmmjmaaGreatDoorNu14
import Derived.Test.YtbichomjpmmjmaaGreatDoorNu13
import Derived.Test.YtbichomjpmmjmaaGreatDoorShelf5
import Derived.Maps.OwnSet
import Derived.WalkKit
import Derived.ProofKit
set_option linter.unusedVariables false
set_option linter.unusedSimpArgs false
namespace Go.Proofs.YtbichomjpmmjmaaGreatDoor
open Go.ChangeShapes Go.WideShapes Go.ChangeAt Go.RowKit Go.Lib
open Lists
namespace Pt
theorem owns_kt {B g : Nat} {w w' : World} {base : Nat} {e : TypeId} {size n : Nat} {v : Value} {xs : List Value} (h : w.ownsRow base e size v n xs) (hk : Kt B g w w') {l : Tab} (ht : Tb B w g l) (h1 : e ≠ 110) (h2 : e ≠ 100) : w'.ownsRow base e size v n xs :=
  owns_of h fun r hr => by
    obtain ⟨_, cur, hc⟩ := owns_at h hr
    refine hk.block r (lt_of_block hc) ?_ (.inr ?_)
    · rintro rfl
      obtain ⟨A, c, ht⟩ := ht
      rw [ht.box] at hc
      injection hc with hc
      injection hc with _ hc _
      exact h2 hc.symm
    · rintro ⟨cur', hc'⟩
      rw [hc] at hc'
      injection hc' with hc'
      injection hc' with _ hc' _
      exact h1 hc'
theorem ints_at {w : World} {base n : Nat} {A : Option Addr} {c : Nat} {l : List Int} (h : w.ownsRow base 3 1 (.slice A n c) n (l.map (Value.int .i64))) {k : Nat} {x : Int} (hx : l[k]? = some x) (hn : l.length = n) : ∃ r, A = some ⟨r, 0, none⟩ ∧ r < w.heap.size ∧ w.cell? ⟨r, k, none⟩ = some (.int .i64 x) := by
  have hk := (List.getElem?_eq_some_iff.1 hx).1
  rcases own_addr h with ⟨_, h0, _⟩ | ⟨r, rfl, _, hr⟩
  · omega
  · refine ⟨r, rfl, hr, ?_⟩
    rw [h.cellAt k (by omega), List.getElem?_map, hx]
    rfl
set_option maxRecDepth 100000 in
set_option maxHeartbeats 4000000 in
theorem take_fine {B g : Nat} {l : Tab} (o : Int) (ps : List Int) (P : Option Addr) (c : Nat) (w : World) (h : Tb B w g l) (hok : Ok l) (ho : o ≤ 9223372036854775807) (hA : Nums .i64 w P ps) (hlen : l.length + ps.length ≤ 100000) (hf : fineB o ps = true) :
    Calls Tryz.prog 42 #[.pointer (some ⟨g, 0, none⟩), .int .i64 o, .slice P ps.length c] w fun e w' => e = .returned (.int .i64 (takeC l o ps : Int)) ∧ Tb B w' g (takeL l o ps) ∧ Kt B g w w' := by
  have hco := contains_any P c ps w hA (by omega)
  have hall : ps.all inR = true := by unfold fineB at hf; simp only [Bool.and_eq_true] at hf; exact hf.2
  have ho1 : 1 ≤ o := by unfold fineB at hf; simp only [Bool.and_eq_true, decide_eq_true_eq] at hf; exact hf.1
  rw [hall] at hco
  have hva := values_any P ps.length c w
  obtain ⟨u, hu⟩ : ∃ u, u = w.alloc (.cells #[.slice P ps.length c] 49) := ⟨_, rfl⟩
  have hBu : Below w.heap.size w u := by rw [hu]; exact (Below.refl _ _).alloc (Nat.le_refl _) _
  have hbx : u.heap[w.heap.size]? = some (.cells #[.slice P ps.length c] 49 (0, 0)) := by rw [hu]; exact heap_alloc_new w _
  have hso := sorted_any w.heap.size ps P c u hbx (nums_below hA hBu) (by omega)
  rw [← hu] at hva
  have H := Lib.hid (h.below hBu)
  have HOK := Lib.hid hok
  have HBU := Lib.hid hBu
  have HKU := Lib.hid (show ∀ v, Below u.heap.size u v → Kt B g w v from fun v hv => Kt.of_below (hBu.trans (hv.mono hBu.size)))
  have HF := Lib.hid hf
  have HA := Lib.hid hall
  have hgB : B ≤ g := by obtain ⟨_, _, ht⟩ := h; exact ht.hB
  obtain ⟨rs, hrs⟩ : ∃ rs, sortI ps = rs := ⟨_, rfl⟩
  have hrl : rs.length = ps.length := by rw [← hrs]; exact (sort_perm ps).length_eq
  have HRS := Lib.hid hrs
  rw [hrs] at hso
  obtain ⟨n, hn⟩ : ∃ n, ps.length = n := ⟨_, rfl⟩
  rw [hn] at hso hva hco hrl hlen ⊢
  have HRL := Lib.hid hrl
  have HN := Lib.hid hn
  have hlt1 : decide (o < 1) = false := decide_eq_false (by omega)
  have hn' : (n : Int) ≤ 100000 := by omega
  have HLEN := Lib.hid hlen
  clear h hok hf hA hall hu hBu hbx hrs hrl hn hlen
  go_enter Tryz.func42, Tryz.ntmps42
  go_wp2_with (first
    | (go_at_call 47; refine hco.mono ?_; clear hco; rintro e w0 ⟨rfl, hw0⟩; obtain rfl := hw0.symm; clear hw0)
    | (go_at_call 67; refine hva.mono ?_; clear hva; rintro e w0 ⟨rfl, hw0⟩; obtain rfl := hw0.symm; clear hw0)
    | (go_at_call 50; refine hso.mono ?_; clear hso; rintro e w2 ⟨A', c', rfl, hrow, hbb⟩; have HROW := Lib.hid hrow; have HB2 := Lib.hid hbb; clear hrow hbb))
  go_loopw [25] (fun i wr => ∃ k : Nat, k ≤ n ∧ i = .int .i64 k ∧ Hid (∀ j, j < k → clashB l rs j = false) ∧ Hid (Below w2.heap.size w2 wr)) (fun i _ => n - (RowKit.intOf i).toNat)
  case atStart => exact ⟨0, Nat.zero_le _, rfl, fun j hj => absurd hj (Nat.not_lt_zero _), Below.refl _ _⟩
  case round =>
    obtain ⟨k, hk, rfl, HC, HW⟩ := hrel
    have HT := Lib.hid ((H.out.below HB2.out).below HW.out)
    have HRW := Lib.hid (owns_below HROW.out HW.out)
    by_cases hkn : k < n
    · obtain ⟨p, hp⟩ : ∃ p, rs[k]? = some p := ⟨_, List.getElem?_eq_getElem (by have := HRL.out; omega)⟩
      obtain ⟨r, rfl, hr, k1⟩ := ints_at HRW.out hp HRL.out
      have how := owner_any p wr HT.out HOK.out (by have := HLEN.out; omega)
      have hkn' : (k : Int) < (n : Int) := by omega
      obtain ⟨z, hz⟩ : ∃ z, ownerL l p = z := ⟨_, rfl⟩
      rw [hz] at how
      have HCL := Lib.hid (show clashB l rs k = (!decide (z = 0) || (decide (0 < k) && decide (rs[k - 1]?.getD 0 = p))) by unfold clashB; rw [hp]; subst hz; rfl)
      have HWW := Lib.hid (show ∀ v, Below wr.heap.size wr v → Kt B g w v from fun v hv => HKU.out v ((HB2.out.trans (HW.out.mono HB2.out.size)).trans (hv.mono (Nat.le_trans HB2.out.size HW.out.size))))
      clear hp hz
      by_cases hz0 : z = 0
      · subst hz0
        by_cases hk0 : 0 < k
        · obtain ⟨q, hq⟩ : ∃ q, rs[k - 1]? = some q := ⟨_, List.getElem?_eq_getElem (by have := HRL.out; omega)⟩
          obtain ⟨r2, er, _, k2⟩ := ints_at HRW.out hq HRL.out
          cases er
          have hk0' : (0 : Int) < (k : Int) := by omega
          have hk2' : (k : Int) - 1 < (n : Int) := by omega
          have hk3' : (0 : Int) ≤ (k : Int) - 1 := by omega
          have hk4' : ((k : Int) - 1).toNat = k - 1 := by omega
          have hw1 : IntKind.i64.wrap ((k : Int) - 1) = (k : Int) - 1 := by rw [IntKind.wrap_i64]; omega
          have HCL2 := Lib.hid (show clashB l rs k = decide (q = p) by rw [HCL.out, hq]; simp [hk0])
          clear hq
          by_cases hqp : q = p
          · have hqp' : (q == p) = true := by simpa using hqp
            have HX := Lib.hid (show clashB l rs k = true by rw [HCL2.out, hqp]; simp)
            clear hqp
            go_wp2_with (go_at_call 39; refine how.mono ?_; rintro e w3 ⟨rfl, hbb⟩; have k1' := (hbb.cell (p := ⟨r, k, none⟩) hr).trans k1; have k2' := (hbb.cell (p := ⟨r, k - 1, none⟩) hr).trans k2; have HB3 := Lib.hid hbb; clear hbb how)
            go_ret
            obtain ⟨t1, t2⟩ := take_clash (l := l) (o := o) (ps := ps) (i := k) HF.out (by rw [HRS.out, HRL.out]; exact hkn) (by rw [HRS.out]; exact HX.out)
            refine ⟨by rw [t1]; rfl, ?_, HWW.out _ HB3.out⟩
            rw [t2]; exact HT.out.below HB3.out
          · have hqp' : (q == p) = false := by simpa using hqp
            have HX := Lib.hid (show clashB l rs k = false by rw [HCL2.out]; simpa using hqp)
            clear hqp
            go_wp2_with (go_at_call 39; refine how.mono ?_; rintro e w3 ⟨rfl, hbb⟩; have k1' := (hbb.cell (p := ⟨r, k, none⟩) hr).trans k1; have k2' := (hbb.cell (p := ⟨r, k - 1, none⟩) hr).trans k2; have HB3 := Lib.hid hbb; clear hbb how)
            go_roundw
            case rel => exact ⟨k + 1, by omega, by simp, fun j hj => by
                rcases Nat.lt_or_ge j k with h1 | h1
                · exact HC.out j h1
                · rw [show j = k by omega]; exact HX.out, HW.out.trans (HB3.out.mono HW.out.size)⟩
            case measure => simp [RowKit.intOf]; omega
        · obtain rfl : k = 0 := by omega
          have HX := Lib.hid (show clashB l rs 0 = false by rw [HCL.out]; simp)
          go_wp2_with (go_at_call 39; refine how.mono ?_; rintro e w3 ⟨rfl, hbb⟩; have HB3 := Lib.hid hbb; clear hbb how)
          go_roundw
          case rel => exact ⟨1, by omega, by simp, fun j hj => by
              rw [show j = 0 by omega]; exact HX.out, HW.out.trans (HB3.out.mono HW.out.size)⟩
          case measure => simp [RowKit.intOf]; omega
      · have hz' : (z != 0) = true := by simpa using hz0
        have HX := Lib.hid (show clashB l rs k = true by rw [HCL.out]; simp [hz0])
        clear hz0
        go_wp2_with (go_at_call 39; refine how.mono ?_; rintro e w3 ⟨rfl, hbb⟩; have HB3 := Lib.hid hbb; clear hbb how)
        go_ret
        obtain ⟨t1, t2⟩ := take_clash (l := l) (o := o) (ps := ps) (i := k) HF.out (by rw [HRS.out, HRL.out]; exact hkn) (by rw [HRS.out]; exact HX.out)
        refine ⟨by rw [t1]; rfl, ?_, HWW.out _ HB3.out⟩
        rw [t2]; exact HT.out.below HB3.out
    · have hkn' : ¬ (k : Int) < (n : Int) := by omega
      obtain ⟨t1, t2⟩ := take_free (l := l) (o := o) (ps := ps) HOK.out ho HF.out (fun j hj => by rw [HRS.out] at hj ⊢; exact HC.out j (by rw [HRL.out] at hj; omega))
      have T1 := Lib.hid t1
      have T2 := Lib.hid t2
      have HFREE := Lib.hid (clash_none (l := l) (ps := ps) (fun j hj => by rw [HRS.out] at hj ⊢; exact HC.out j (by rw [HRL.out] at hj; omega)))
      have HK0 := Lib.hid (show Kt B g w wr from HKU.out wr (HB2.out.trans (HW.out.mono HB2.out.size)))
      have HT0 := Lib.hid ((H.out.below HB2.out).below HW.out)
      have HRW := Lib.hid (owns_below HROW.out HW.out)
      clear t1 t2 HC HT
      obtain ⟨wz, hwz⟩ : ∃ wz, wz = wr := ⟨_, rfl⟩
      subst hwz
      go_wp2
      go_loopw [50] (fun i wr => ∃ k : Nat, k ≤ n ∧ i = .int .i64 k ∧ Hid (Tb B wr g (layL o (rs.take k) l)) ∧ Hid (Kt B g wz wr)) (fun i _ => n - (RowKit.intOf i).toNat)
      case atStart => exact ⟨0, Nat.zero_le _, rfl, HT0.out, Kt.refl _ _ _⟩
      case round =>
        obtain ⟨k, hk, rfl, HT, HK⟩ := hrel
        have HRV := Lib.hid (owns_kt HRW.out HK.out HT0.out (by decide) (by decide))
        by_cases hkn : k < n
        · obtain ⟨p, hp⟩ : ∃ p, rs[k]? = some p := ⟨_, List.getElem?_eq_getElem (by have := HRL.out; omega)⟩
          obtain ⟨r, rfl, hr, k1⟩ := ints_at HRV.out hp HRL.out
          have hkn' : (k : Int) < (n : Int) := by omega
          have htk : rs.take (k + 1) = rs.take k ++ [p] := by rw [List.take_add_one, hp]; rfl
          have HST := Lib.hid (show layL o (rs.take (k + 1)) l = insL o p (layL o (rs.take k) l) by rw [htk]; unfold layL; rw [List.foldl_append]; rfl)
          have hfr : Free l (rs.take k) := by
            obtain ⟨f1, f2⟩ := HFREE.out
            have hpm : rs.Perm ps := by rw [← HRS.out]; exact sort_perm ps
            exact ⟨fun q hq => f1 q (hpm.subset (List.mem_of_mem_take hq)), (List.take_sublist k rs).nodup (hpm.nodup_iff.2 f2)⟩
          have hokk : Ok (layL o (rs.take k) l) := Ok.lay ⟨ho1, ho⟩ HOK.out hfr (fun q hq => by
            have hpm : rs.Perm ps := by rw [← HRS.out]; exact sort_perm ps
            exact (List.all_eq_true.1 HA.out) q (hpm.subset (List.mem_of_mem_take hq)))
          have hlk : (layL o (rs.take k) l).length ≤ 100000 := by rw [lay_length, List.length_take]; have := HLEN.out; omega
          obtain ⟨m, hm⟩ : ∃ m, layL o (rs.take k) l = m := ⟨_, rfl⟩
          rw [hm] at HT HST hokk hlk
          have hfi := find_any p wr HT.out hokk.up hlk
          have hloe := lo_le p m
          have HLO := Lib.hid (show insL o p m = m.take (lo p m) ++ (p, o) :: m.drop (lo p m) from rfl)
          have HHT := Lib.hid (And.intro hloe hlk)
          generalize lo p m = at' at hfi HLO HHT hloe
          generalize hasP m p = hb at hfi
          have HINS := Lib.hid (show ∀ v, Below wr.heap.size wr v → ∃ A c, v.cell? ⟨g, 0, none⟩ = some (.slice A m.length c) ∧ ∀ vb z, Below v.heap.size v z → z.heap[vb]? = some (.cells #[.int .i64 p, .int .i64 o] 110 (0, 0)) → v.heap.size ≤ vb →
              Calls Tryz.prog 68 #[.slice A m.length c, .int .i64 at', .slice (some ⟨vb, 0, none⟩) 1 1] z fun e w' => ∃ A' c', e = .returned (.slice A' (m.length + 1) c') ∧
                w'.cell? ⟨g, 0, none⟩ = some (.slice A m.length c) ∧ w'.frozen? ⟨g, 0, none⟩ = false ∧ Tb B (w'.setCell ⟨g, 0, none⟩ (.slice A' (m.length + 1) c')) g (insL o p m) ∧ Kt B g wr (w'.setCell ⟨g, 0, none⟩ (.slice A' (m.length + 1) c')) from by
            intro v hv
            obtain ⟨A, c, ht⟩ := HT.out.below hv
            refine ⟨A, c, ht.cell, fun vb z hz hvb hge => ?_⟩
            have htz := ht.below hz
            have hBz : B ≤ z.heap.size := Nat.le_trans htz.hB (Nat.le_of_lt htz.lt)
            refine (insert_any at' (p, o) vb z htz.row hloe hlk hBz hvb (fun r hr => by
              rintro rfl
              subst hr
              obtain ⟨_, cur, hc⟩ := owns_at ht.row rfl
              have hvl : vb < v.heap.size := lt_of_block hc
              omega)).mono ?_
            rintro e w' ⟨A', c', rfl, hrow, hgr⟩
            have hlen2 : (insL o p m).length = m.length + 1 := ins_length o p m
            rw [← HLO.out, ← hlen2] at hrow
            obtain ⟨q1, q2, q3, q4⟩ := tb_store htz hrow hgr
            rw [hlen2] at q3 q4
            exact ⟨A', c', rfl, q1, q2, q3, (Kt.of_below (hv.trans (hz.mono hv.size))).trans q4⟩)
          clear hp hm hfr hokk htk hlk hloe
          go_wp2_with (first
            | (go_at_call 63; refine hfi.mono ?_; clear hfi; rintro e w3 ⟨rfl, hbb⟩; obtain ⟨A, c, c0, hins⟩ := HINS.out _ hbb; clear hbb)
            | (go_at_call 68; refine (hins _ _ ((Below.refl _ _).alloc (Nat.le_refl _) _) (heap_alloc_new _ _) (Nat.le_refl _)).mono ?_; clear hins; rintro e w4 ⟨A2, c2, rfl, cg, fg, hT2, hK2⟩; have HT2 := Lib.hid hT2; have HK2 := Lib.hid hK2; clear hT2 hK2))
          go_roundw
          case rel => exact ⟨k + 1, by omega, by simp, by rw [HST.out]; exact HT2.out, HK.out.trans HK2.out⟩
          case measure => simp [RowKit.intOf]; omega
        · have hkn' : ¬ (k : Int) < (n : Int) := by omega
          have HD := Lib.hid (show rs.take k = rs from List.take_of_length_le (by have := HRL.out; omega))
          go_wp2
          go_ret
          refine ⟨by rw [T1.out]; rfl, ?_, HK0.out.trans HK.out⟩
          have := HT.out
          rw [HD.out] at this
          rw [T2.out, HRS.out]
          exact this
theorem take_any {B g : Nat} {l : Tab} (o : Int) (ps : List Int) (P : Option Addr) (c : Nat) (w : World) (h : Tb B w g l) (hok : Ok l) (ho : o ≤ 9223372036854775807) (hA : Nums .i64 w P ps) (hlen : l.length + ps.length ≤ 100000) :
    Calls Tryz.prog 42 #[.pointer (some ⟨g, 0, none⟩), .int .i64 o, .slice P ps.length c] w fun e w' => e = .returned (.int .i64 (takeC l o ps : Int)) ∧ Tb B w' g (takeL l o ps) ∧ Kt B g w w' := by
  cases hf : fineB o ps with
  | true => exact take_fine o ps P c w h hok ho hA hlen hf
  | false =>
    obtain ⟨t1, t2⟩ := take_range (l := l) hf
    rw [t1, t2]
    have hco := contains_any P c ps w hA (by omega)
    have H := Lib.hid h
    by_cases h1 : 1 ≤ o
    · have hall : ps.all inR = false := by
        unfold fineB at hf
        rw [decide_eq_true h1] at hf
        simpa using hf
      rw [hall] at hco
      have hlt1 : decide (o < 1) = false := decide_eq_false (by omega)
      generalize ps.length = n at hco ⊢
      clear hall hf h hok hA t1 t2
      go_enter Tryz.func42, Tryz.ntmps42
      go_wp2_with (go_at_call 47; refine hco.mono ?_; clear hco; rintro e w0 ⟨rfl, hw0⟩; obtain rfl := hw0.symm; clear hw0)
      go_ret
      exact ⟨rfl, H.out, Kt.refl _ _ _⟩
    · have hlt1 : decide (o < 1) = true := decide_eq_true (by omega)
      generalize ps.length = n at hco ⊢
      clear hf h hok hA t1 t2
      go_enter Tryz.func42, Tryz.ntmps42
      go_wp2_with fail
      go_ret
      exact ⟨rfl, H.out, Kt.refl _ _ _⟩
end Pt
end Go.Proofs.YtbichomjpmmjmaaGreatDoor

/-
  The program's node: Admit. Conditions: the node is one (Nn); the spec is not too long and lies in memory, whatever the node does; the listed variables are laid.
-/
set_option linter.unusedVariables false
set_option linter.unusedSimpArgs false
namespace Go.Proofs.YtbichomjpmmjmaaGreatDoor
open Go.ChangeShapes Go.WideShapes Go.ChangeAt Go.RowKit Go.Lib
open NumMath
namespace Nn
open Re Nd Sd SpecOwn
set_option maxRecDepth 100000 in
set_option maxHeartbeats 8000000 in
theorem admit_any {B : Nat} {g : Nat} {has : Rx} {l : Pods} (ui : Int) (S : Spc) (LA : Option Addr) (lc : Nat) (IA : Option Addr) (ic : Nat) (MA : Option Addr) (mc : Nat) (hu : ui ≤ 9223372036854775807) (hL : Book.Light S) (w : World) (h : Nn B w g has l) (hSL : SLaid w) (hS : ∀ v, Kn B w v → S.In v LA lc IA ic MA mc) : Calls Tryz.prog 21 #[.pointer (some ⟨g, 0, none⟩), .int .i64 ui, .agg #[.string S.name, .slice LA S.labels.length lc, .slice IA S.init.length ic, .slice MA S.main.length mc, .int .i64 S.restart, .int .i64 S.grace, .int .i64 S.prio]] w fun e w' => e = .returned (.int .i64 (admC has l ui (askS S))) ∧ Nn B w' g has (admL has l ui (askS S)) ∧ Kn B w w' := by
  obtain ⟨m, p, T, h⟩ := h
  have H := Lib.hid h
  have HS := Lib.hid hS
  have HL := Lib.hid hL
  have HSL := Lib.hid hSL
  obtain ⟨w0, hw0⟩ : ∃ v, w.alloc (.cells #[.string S.name, .slice LA S.labels.length lc, .slice IA S.init.length ic, .slice MA S.main.length mc, .int .i64 S.restart, .int .i64 S.grace, .int .i64 S.prio] 35) = v := ⟨_, rfl⟩
  have S0 := Lib.hid (show w0.heap[w.heap.size]? = some (.cells ([.string S.name, .slice LA S.labels.length lc, .slice IA S.init.length ic, .slice MA S.main.length mc, .int .i64 S.restart, .int .i64 S.grace, .int .i64 S.prio] : List Value).toArray 35 (0, 0)) by rw [← hw0]; exact heap_alloc_new w _)
  have B0 := Lib.hid (show Below w.heap.size w w0 by rw [← hw0]; exact (Below.refl _ _).alloc (Nat.le_refl _) _)
  obtain ⟨F, hF⟩ : ∃ F, admC has l ui (askS S) = F := ⟨_, rfl⟩
  have HF := Lib.hid hF
  obtain ⟨l2, hl2⟩ : ∃ l2, admL has l ui (askS S) = l2 := ⟨_, rfl⟩
  have HL2 := Lib.hid hl2
  rw [hF, hl2]
  clear h hS hL hSL hF hl2
  by_cases hu1 : ui < 1
  · have HE := Lib.hid (show F = 1 from HF.out.symm.trans (adm_low hu1))
    have HN := Lib.hid (show l2 = l from HL2.out.symm.trans (adm_stay (by rw [adm_low hu1]; decide)))
    have hd : decide (ui < 1) = true := decide_eq_true hu1
    go_enter Tryz.func21, Tryz.ntmps21
    go_wp2_with fail
    go_ret
    exact ⟨by rw [HE.out]; rfl, by rw [HN.out]; exact ⟨m, p, T, H.out.below B0.out⟩, Kn.of_below B0.out⟩
  have HU1 := Lib.hid (show 1 ≤ ui by omega)
  have hd : decide (ui < 1) = false := decide_eq_false hu1
  clear hu1
  have H0 := Lib.hid (H.out.below B0.out)
  have HLK := Lib.hid (look_any H0.out ui)
  have c6 := H0.out.asked
  obtain ⟨a0, ha0⟩ : ∃ a, ofU l ui = a := ⟨_, rfl⟩
  rw [ha0] at HLK
  clear ha0
  obtain ⟨w1a, hw1a⟩ : ∃ v, w0.alloc (.cells #[.int .i64 0, .int .i64 0, .int .i64 0] 23) = v := ⟨_, rfl⟩
  have ZB := Lib.hid (show w1a.heap[w0.heap.size]? = some (.cells #[.int .i64 0, .int .i64 0, .int .i64 0] 23 (0, 0)) by rw [← hw1a]; exact heap_alloc_new _ _)
  have BU := Lib.hid (show Below w0.heap.size w0 w1a by rw [← hw1a]; exact (Below.refl _ _).alloc (Nat.le_refl _) _)
  obtain ⟨w1, hw1⟩ : ∃ v, w1a.setCells w0.heap.size 0 (R3 a0) = v := ⟨_, rfl⟩
  have THz := Lib.hid (show w1a.there w0.heap.size 0 3 from Back.th ZB.out rfl)
  have ONEz := Lib.hid (show ((R3 a0) : List Value).toArray.all (·.oneCell') = true by simp [Value.oneCell'])
  have HVz := Lib.hid hw1
  have Z0 := Lib.hid (show w1.heap[w0.heap.size]? = some (.cells ((R3 a0) : List Value).toArray 23 (0, 0)) by rw [← hw1]; exact Back.st ZB.out rfl)
  have BX := Lib.hid (show Below w0.heap.size w0 w1 by rw [← hw1]; exact bel_set BU.out (Nat.le_refl _))
  clear hw1
  have B1 := Lib.hid (B0.out.trans (BX.out.mono B0.out.size))
  have S1 := Lib.hid ((BX.out.block _ (lt_of_block S0.out)).trans S0.out)
  clear BX Z0 BU H0
  cases hi : isIn ui l with
  | true =>
    have HE := Lib.hid (show F = 7 from HF.out.symm.trans (adm_there HU1.out hi))
    have HN := Lib.hid (show l2 = l from HL2.out.symm.trans (adm_stay (by rw [adm_there HU1.out hi]; decide)))
    rw [hi] at HLK
    clear hi
    go_enter Tryz.func21, Tryz.ntmps21
    go_wp2_with (first | (refine Mp.wpList_lookup_run rfl _ _ _ _ rfl _ _ _ rfl rfl HLK.out ?_) | (refine wpList_store_at rfl 23 _ _ rfl _ _ _ rfl rfl THz.out (by kernel_rfl) ONEz.out HVz.out ?_))
    go_ret
    exact ⟨by rw [HE.out]; rfl, by rw [HN.out]; exact ⟨m, p, T, H.out.below B1.out⟩, Kn.of_below B1.out⟩
  | false =>
    have HI := Lib.hid hi
    have HFF := Lib.hid (show F = fitC has l (askS S) from HF.out.symm.trans (adm_fit HU1.out hi))
    rw [hi] at HLK
    clear hi
    have RS := Lib.hid (range_box S1.out)
    have CF := Lib.hid (fits_any (g := g) (has := has) (l := l) (B := B) S LA lc IA ic MA mc HL.out w1 ⟨m, p, T, H.out.below B1.out⟩ (HSL.out.below B1.out) (HS.out _ (Kn.of_below B1.out)))
    rw [← HFF.out] at CF
    have FF := Lib.hid (show F = 0 → _ from fun e => fit_zero (HFF.out.symm.trans e))
    go_enter Tryz.func21, Tryz.ntmps21
    go_wp2_with (first | (refine Mp.wpList_lookup_run rfl _ _ _ _ rfl _ _ _ rfl rfl HLK.out ?_) | (refine wpList_store_at rfl 23 _ _ rfl _ _ _ rfl rfl THz.out (by kernel_rfl) ONEz.out HVz.out ?_) | (refine wpList_load_mid rfl 35 _ rfl _ _ rfl _ _ RS.out Tryz.underlying35 rfl (by kernel_rfl) ?_))
    clear HLK c6 hw0 hw1a THz ONEz HVz ZB RS
    refine CF.out.mono ?_
    rintro e w2 ⟨rfl, hb2⟩
    have B2 := Lib.hid (B1.out.trans (hb2.mono B1.out.size))
    have S2 := Lib.hid ((hb2.block _ (lt_of_block S1.out)).trans S1.out)
    clear hb2 CF S0 S1 B0 B1
    by_cases hF0 : F = 0
    · obtain ⟨hr, hroom, hany⟩ := FF.out hF0
      have HF0 := Lib.hid hF0
      have HN := Lib.hid (show l2 = insP ⟨ui, (askS S).ask, (askS S).ports⟩ l from HL2.out.symm.trans (adm_come (by rw [HF.out, hF0])))
      obtain ⟨hq, hof, hfew⟩ := ask_ok hr
      have HQ := Lib.hid hq
      have HSUM := Lib.hid (used_ins H.out.ok ⟨HU1.out, hu⟩ HI.out hq hroom hany)
      have HSAME := Lib.hid (H.out.same.take H.out.ok ⟨HU1.out, hu⟩ hq hany)
      have HOK := Lib.hid (H.out.ok.ins ⟨HU1.out, hu⟩ HI.out hq hroom hany)
      have RS := Lib.hid (range_box S2.out)
      obtain ⟨a, ha⟩ : ∃ a, (askS S).ask = a := ⟨_, rfl⟩
      obtain ⟨ps, hps⟩ : ∃ ps, (askS S).ports = ps := ⟨_, rfl⟩
      have HPS := Lib.hid (show S.main.flatMap (·.ports) = ps from hps)
      have HAO := Lib.hid (show a.Ok by rw [← ha]; exact ask_rx (HS.out _ (Kn.refl _ _)))
      have HPR := Lib.hid (show ∀ q ∈ ps, 1 ≤ q ∧ q ≤ 65535 by rw [← hps]; exact hq.ps)
      have HPL := Lib.hid (show ps.length ≤ 12 by rw [← hps]; exact hfew)
      rw [ha, hps] at HN HSUM HOK
      rw [ha, hps] at HSAME
      obtain ⟨us, hus⟩ : ∃ us, usedR l = us := ⟨_, rfl⟩
      obtain ⟨us2, hus2⟩ : ∃ us2, usedR (insP ⟨ui, a, ps⟩ l) = us2 := ⟨_, rfl⟩
      have HUS2 := Lib.hid hus2
      rw [hus, hus2] at HSUM
      have hl2 := HL.out.1.2.2
      have CO := Re.of_any S.init S.main (.string S.name) (.slice LA S.labels.length lc) (.int .i64 S.restart) (.int .i64 S.grace) (.int .i64 S.prio) IA ic MA mc (by omega) (by omega) w2 (HS.out _ (Kn.of_below B2.out)).init (HS.out _ (Kn.of_below B2.out)).main
      rw [show ofR (S.init.map rq) (S.main.map rq) = (a, true) from Prod.ext ha hof] at CO
      have CO := Lib.hid CO
      subst hF0
      clear ha hq hof hl2 hps hfew hr hroom hany hus2
      go_wp2_with (first | (refine wpList_load_mid rfl 35 _ rfl _ _ rfl _ _ RS.out Tryz.underlying35 rfl (by kernel_rfl) ?_))
      refine CO.out.mono ?_
      rintro e w3 ⟨rfl, hb3⟩
      clear CO RS
      have B3 := Lib.hid (B2.out.trans (hb3.mono B2.out.size))
      have S3 := Lib.hid ((hb3.block _ (lt_of_block S2.out)).trans S2.out)
      clear hb3
      obtain ⟨w4a, hw4a⟩ : ∃ v, w3.alloc (.cells #[.int .i64 0, .int .i64 0, .int .i64 0] 23) = v := ⟨_, rfl⟩
      have ZB := Lib.hid (show w4a.heap[w3.heap.size]? = some (.cells #[.int .i64 0, .int .i64 0, .int .i64 0] 23 (0, 0)) by rw [← hw4a]; exact heap_alloc_new _ _)
      have BU := Lib.hid (show Below w3.heap.size w3 w4a by rw [← hw4a]; exact (Below.refl _ _).alloc (Nat.le_refl _) _)
      obtain ⟨w4, hw4⟩ : ∃ v, w4a.setCells w3.heap.size 0 (R3 a) = v := ⟨_, rfl⟩
      have THz := Lib.hid (show w4a.there w3.heap.size 0 3 from Back.th ZB.out rfl)
      have ONEz := Lib.hid (show ((R3 a) : List Value).toArray.all (·.oneCell') = true by simp [Value.oneCell'])
      have HVz := Lib.hid hw4
      have ZA := Lib.hid (show w4.heap[w3.heap.size]? = some (.cells ((R3 a) : List Value).toArray 23 (0, 0)) by rw [← hw4]; exact Back.st ZB.out rfl)
      have BX := Lib.hid (show Below w3.heap.size w3 w4 by rw [← hw4]; exact bel_set BU.out (Nat.le_refl _))
      clear hw4
      have B4 := Lib.hid (B3.out.trans (BX.out.mono B3.out.size))
      have S4 := Lib.hid ((BX.out.block _ (lt_of_block S3.out)).trans S3.out)
      have H4 := Lib.hid (H.out.below B4.out)
      have HG := Lib.hid (show ∀ v, Below w4.heap.size w4 v → v.heap[g]? = some (.cells (cells8 has us m p).toArray 68 (0, 0)) from fun v hv => by rw [← hus]; exact (H4.out.below hv).box)
      have HU := Lib.hid (show ∀ v, Below w4.heap.size w4 v → v.rangeAt g 3 (R3 us) from fun v hv => by rw [← hus]; exact (H4.out.below hv).used3)
      have HO := Lib.hid (show us.Ok by rw [← hus]; exact H.out.ok.used_ok)
      have CA := Lib.hid (fun v => add_any us a HO.out HAO.out v)
      rw [HSUM.out] at CA
      have HG3 := Lib.hid (show g < w3.heap.size from Nat.lt_of_lt_of_le H.out.lt B3.out.size)
      clear hus
      go_wp2_with (first | (refine wpList_store_at rfl 23 _ _ rfl _ _ _ rfl rfl THz.out (by kernel_rfl) ONEz.out HVz.out ?_))
      clear hw4a THz ONEz HVz ZB BX BU
      refine Vls.wp_region (by kernel_rfl) (Jx.JX (fun u => Below w4.heap.size w4 u) (fun u => u.heap[g]? = some (.cells (cells8 has us2 m p).toArray 68 (0, 0)) ∧ Jx.But w4.heap.size g w4 u) 12 101 (fun _ _ => True) [(2, 1), (3, 2), (4, 3), (6, 4), (6, 5), (7, 6), (8, 7), (9, 7), (10, 0), (11, 10), (12, 11), (12, 8)] [.pointer (some ⟨g, 0, none⟩), .pointer (some ⟨g, 0, none⟩), .pointer (some ⟨g, 0, none⟩), .pointer (some ⟨g, 3, none⟩), .agg (R3 us).toArray, .agg (R3 a).toArray, .tuple #[.agg (R3 us2).toArray, .bool true], .tuple #[.agg (R3 us2).toArray, .bool true], .agg (R3 us2).toArray, .bool true, .pointer (some ⟨g, 0, none⟩), .pointer (some ⟨g, 3, none⟩), undef]) (by kernel_rfl) (fun _ => undef) (Jx.JX.start (P := fun u => Below w4.heap.size w4 u) (Below.drew (Below.refl _ _)) _) ?_ ?_
      · refine ⟨?_, ?_, ?_, ?_, ?_, ?_, ?_, ?_, ?_, ?_, ?_, ?_, ?_, trivial⟩
        · intro s_ a_ u V hs hd hfr hpo hJ
          have f0 : a_.tmps.getD 0 undef = .pointer (some ⟨g, 0, none⟩) := hfr 0 (by kernel_rfl)
          refine .inl ⟨rfl, ?_⟩
          unfold Oper.wp
          rw [show (execOp a_.eval _).run Tryz.prog u = .ok (.value (.pointer (some ⟨g, 0, none⟩))) u from by simp [go_sem, Act.eval, f0]]
          exact ⟨_, rfl, hJ.stay 0 (by decide) (by decide) rfl rfl⟩
        · intro s_ a_ u V hs hd hfr hpo hJ
          have f0 : a_.tmps.getD 0 undef = .pointer (some ⟨g, 0, none⟩) := hfr 0 (by kernel_rfl)
          refine .inl ⟨rfl, ?_⟩
          unfold Oper.wp
          rw [show (execOp a_.eval _).run Tryz.prog u = .ok (.value (.pointer (some ⟨g, 0, none⟩))) u from by simp [go_sem, Act.eval, f0]]
          exact ⟨_, rfl, hJ.stay 1 (by decide) (by decide) rfl rfl⟩
        · intro s_ a_ u V hs hd hfr hpo hJ
          have e1 : a_.tmps.getD 37 undef = .pointer (some ⟨g, 0, none⟩) := (hpo 1 37 (by kernel_rfl)).trans (hJ.get 1 (by decide) (by decide) (hd 1 (by kernel_rfl)) rfl)
          refine .inl ⟨rfl, ?_⟩
          unfold Oper.wp
          rw [show (execOp a_.eval _).run Tryz.prog u = .ok (.value (.pointer (some ⟨g, 0, none⟩))) u from by simp [go_sem, Act.eval, e1]]
          exact ⟨_, rfl, hJ.stay 2 (by decide) (by decide) (by show (s_ 1 && true) = true; rw [hd 1 (by kernel_rfl)]; rfl) rfl⟩
        · intro s_ a_ u V hs hd hfr hpo hJ
          have e2 : a_.tmps.getD 38 undef = .pointer (some ⟨g, 0, none⟩) := (hpo 2 38 (by kernel_rfl)).trans (hJ.get 2 (by decide) (by decide) (hd 2 (by kernel_rfl)) rfl)
          refine .inl ⟨rfl, ?_⟩
          unfold Oper.wp
          rw [show (execOp a_.eval _).run Tryz.prog u = .ok (.value (.pointer (some ⟨g, 3, none⟩))) u from by simp [go_sem, Act.eval, e2]]
          exact ⟨_, rfl, hJ.stay 3 (by decide) (by decide) (by show (s_ 2 && true) = true; rw [hd 2 (by kernel_rfl)]; rfl) rfl⟩
        · intro s_ a_ u V hs hd hfr hpo hJ
          have e3 : a_.tmps.getD 39 undef = .pointer (some ⟨g, 3, none⟩) := (hpo 3 39 (by kernel_rfl)).trans (hJ.get 3 (by decide) (by decide) (hd 3 (by kernel_rfl)) rfl)
          have hn_ : s_ 12 = false := (hJ.back 12 (by simp) (hJ.back 8 (by simp) (hJ.back 7 (by simp) (hJ.back 6 (by simp) hs))))
          have hP := hJ.pre hn_
          refine .inl ⟨rfl, ?_⟩
          exact wp_load_mid 23 (.tmp 39) rfl (g) (3) e3 (R3 us) _ (HU.out u hP) Tryz.underlying23 rfl (by kernel_rfl) ⟨_, rfl, hJ.stay 4 (by decide) (by decide) (by show (s_ 3 && true) = true; rw [hd 3 (by kernel_rfl)]; rfl) rfl⟩
        · intro s_ a_ u V hs hd hfr hpo hJ
          have f10 : a_.tmps.getD 10 undef = .pointer (some ⟨w3.heap.size, 0, none⟩) := hfr 10 (by kernel_rfl)
          have hn_ : s_ 12 = false := (hJ.back 12 (by simp) (hJ.back 8 (by simp) (hJ.back 7 (by simp) (hJ.back 6 (by simp) hs))))
          have hP := hJ.pre hn_
          refine .inl ⟨rfl, ?_⟩
          exact wp_load_mid 23 (.tmp 10) rfl (w3.heap.size) (0) f10 (R3 a) _ (range_box ((hP.block _ (lt_of_block ZA.out)).trans ZA.out)) Tryz.underlying23 rfl (by kernel_rfl) ⟨_, rfl, hJ.stay 5 (by decide) (by decide) rfl rfl⟩
        · intro s_ a_ u V hs hd hfr hpo hJ
          have e4 : a_.tmps.getD 40 undef = .agg (R3 us).toArray := (hpo 4 40 (by kernel_rfl)).trans (hJ.get 4 (by decide) (by decide) (hd 4 (by kernel_rfl)) rfl)
          have e5 : a_.tmps.getD 41 undef = .agg (R3 a).toArray := (hpo 5 41 (by kernel_rfl)).trans (hJ.get 5 (by decide) (by decide) (hd 5 (by kernel_rfl)) rfl)
          have hn_ : s_ 12 = false := (hJ.back 12 (by simp) (hJ.back 8 (by simp) (hJ.back 7 (by simp) hs)))
          have hP := hJ.pre hn_
          refine .inl ⟨rfl, ?_⟩
          unfold Oper.wp
          rw [show (execOp a_.eval _).run Tryz.prog u = .ok (.enter 41 #[.agg (R3 us).toArray, .agg (R3 a).toArray]) u from by simp [go_sem, Act.eval, e4, e5]]
          refine Calls.mono (CA.out u) ?_
          rintro e u2 ⟨rfl, hb⟩
          exact ⟨_, rfl, hJ.step 6 (by decide) (by decide) (by show (s_ 4 && (s_ 5 && true)) = true; rw [hd 4 (by kernel_rfl), hd 5 (by kernel_rfl)]; rfl) (fun _ hP => hP.trans (hb.mono hP.size)) (fun hq => by rw [hn_] at hq; cases hq) (fun _ _ hR => hR) rfl⟩
        · intro s_ a_ u V hs hd hfr hpo hJ
          have e6 : a_.tmps.getD 42 undef = .tuple #[.agg (R3 us2).toArray, .bool true] := (hpo 6 42 (by kernel_rfl)).trans (hJ.get 6 (by decide) (by decide) (hd 6 (by kernel_rfl)) rfl)
          refine .inl ⟨rfl, ?_⟩
          unfold Oper.wp
          rw [show (execOp a_.eval _).run Tryz.prog u = .ok (.value (.tuple #[.agg (R3 us2).toArray, .bool true])) u from by simp [go_sem, Act.eval, e6]]
          exact ⟨_, rfl, hJ.stay 7 (by decide) (by decide) (by show (s_ 6 && true) = true; rw [hd 6 (by kernel_rfl)]; rfl) rfl⟩
        · intro s_ a_ u V hs hd hfr hpo hJ
          have e7 : a_.tmps.getD 35 undef = .tuple #[.agg (R3 us2).toArray, .bool true] := (hpo 7 35 (by kernel_rfl)).trans (hJ.get 7 (by decide) (by decide) (hd 7 (by kernel_rfl)) rfl)
          refine .inl ⟨rfl, ?_⟩
          unfold Oper.wp
          rw [show (execOp a_.eval _).run Tryz.prog u = .ok (.value (.agg (R3 us2).toArray)) u from by simp [go_sem, Act.eval, e7]]
          exact ⟨_, rfl, hJ.stay 8 (by decide) (by decide) (by show (s_ 7 && true) = true; rw [hd 7 (by kernel_rfl)]; rfl) rfl⟩
        · intro s_ a_ u V hs hd hfr hpo hJ
          have e7 : a_.tmps.getD 35 undef = .tuple #[.agg (R3 us2).toArray, .bool true] := (hpo 7 35 (by kernel_rfl)).trans (hJ.get 7 (by decide) (by decide) (hd 7 (by kernel_rfl)) rfl)
          refine .inl ⟨rfl, ?_⟩
          unfold Oper.wp
          rw [show (execOp a_.eval _).run Tryz.prog u = .ok (.value (.bool true)) u from by simp [go_sem, Act.eval, e7]]
          exact ⟨_, rfl, hJ.stay 9 (by decide) (by decide) (by show (s_ 7 && true) = true; rw [hd 7 (by kernel_rfl)]; rfl) rfl⟩
        · intro s_ a_ u V hs hd hfr hpo hJ
          have e0 : a_.tmps.getD 36 undef = .pointer (some ⟨g, 0, none⟩) := (hpo 0 36 (by kernel_rfl)).trans (hJ.get 0 (by decide) (by decide) (hd 0 (by kernel_rfl)) rfl)
          refine .inl ⟨rfl, ?_⟩
          unfold Oper.wp
          rw [show (execOp a_.eval _).run Tryz.prog u = .ok (.value (.pointer (some ⟨g, 0, none⟩))) u from by simp [go_sem, Act.eval, e0]]
          exact ⟨_, rfl, hJ.stay 10 (by decide) (by decide) (by show (s_ 0 && true) = true; rw [hd 0 (by kernel_rfl)]; rfl) rfl⟩
        · intro s_ a_ u V hs hd hfr hpo hJ
          have e10 : a_.tmps.getD 45 undef = .pointer (some ⟨g, 0, none⟩) := (hpo 10 45 (by kernel_rfl)).trans (hJ.get 10 (by decide) (by decide) (hd 10 (by kernel_rfl)) rfl)
          refine .inl ⟨rfl, ?_⟩
          unfold Oper.wp
          rw [show (execOp a_.eval _).run Tryz.prog u = .ok (.value (.pointer (some ⟨g, 3, none⟩))) u from by simp [go_sem, Act.eval, e10]]
          exact ⟨_, rfl, hJ.stay 11 (by decide) (by decide) (by show (s_ 10 && true) = true; rw [hd 10 (by kernel_rfl)]; rfl) rfl⟩
        · intro s_ a_ u V hs hd hfr hpo hJ
          have e11 : a_.tmps.getD 46 undef = .pointer (some ⟨g, 3, none⟩) := (hpo 11 46 (by kernel_rfl)).trans (hJ.get 11 (by decide) (by decide) (hd 11 (by kernel_rfl)) rfl)
          have e8 : a_.tmps.getD 43 undef = .agg (R3 us2).toArray := (hpo 8 43 (by kernel_rfl)).trans (hJ.get 8 (by decide) (by decide) (hd 8 (by kernel_rfl)) rfl)
          have hn_ : s_ 12 = false := hs
          have hP := hJ.pre hn_
          have G := HG.out u hP
          refine .inl ⟨rfl, ?_⟩
          exact wp_store_mid 23 (.tmp 46) (.tmp 43) rfl g 3 (R3 us2).toArray e11 e8 (th_mid G 3 3 (show 3 + 3 ≤ 8 by decide)) (by kernel_rfl) (by simp [Value.oneCell']) ⟨undef, rfl, hJ.fire (by show (s_ 11 && (s_ 8 && true)) = true; rw [hd 11 (by kernel_rfl), hd 8 (by kernel_rfl)]; rfl) ⟨set_used us2 G, but_set hP 3 (R3 us2)⟩ _⟩
      · intro s_ V w5 hall hJ
        obtain ⟨hG5, hb5⟩ := hJ.post (hall 12 (by decide))
        obtain ⟨hm5, ht5⟩ := H4.out.but hb5
        have G5 := Lib.hid hG5
        have M5 := Lib.hid hm5
        have T5 := Lib.hid ht5
        have K5 := Lib.hid ((Kn.of_below B4.out).trans (Kn.of_but hb5 H.out.hB H4.out.isN))
        have Z5 := Lib.hid ((hb5.block _ (lt_of_block ZA.out) (by have := HG3.out; omega)).trans ZA.out)
        have S5 := Lib.hid ((hb5.block _ (lt_of_block S4.out) (by have := H.out.lt; omega)).trans S4.out)
        clear hall hJ hG5 hb5 hm5 ht5 CA HU HG ZA S4 H4
        simp only [Bxs.puts, Nat.reduceAdd, put_none, Re.put_lit, List.set_cons_succ, List.set_cons_zero]
        obtain ⟨w5d, hw5d⟩ : ∃ v, w5.drew = v := ⟨_, rfl⟩
        have D5 := Lib.hid (show Below w5.heap.size w5 w5d by rw [← hw5d]; exact Below.drew (Below.refl _ _))
        have HD5 := Lib.hid hw5d
        have G6 := Lib.hid ((D5.out.block _ (lt_of_block G5.out)).trans G5.out)
        have M6 := Lib.hid (M5.out.keep (D5.out.block _ M5.out.lt))
        have Z6 := Lib.hid ((D5.out.block _ (lt_of_block Z5.out)).trans Z5.out)
        obtain ⟨w6, hrun, hm6, ho6⟩ := Mp.run_put_new (w := w5d) Tryz.underlying64 Tryz.underlying3 M6.out (look_out HI.out) (rv a)
        have HRUN := Lib.hid (show (Instr.mapUpdate 64 (.map (some m)) (.int .i64 ui) (.agg (R3 a).toArray)).run Tryz.prog w5d = .ok () w6 from hrun)
        have G7 := Lib.hid (only_box ho6 G6.out M6.out)
        have T7 := Lib.hid (only_tab ho6 M6.out (T5.out.below D5.out))
        have M7 := Lib.hid (show Mp.MapAt w6 m (kvs (insP ⟨ui, a, ps⟩ l)) from hm6.perm (kvs_ins ⟨ui, a, ps⟩ l))
        have K7 := Lib.hid ((K5.out.trans (Kn.of_below D5.out)).trans (Kn.only ho6 H.out.hm (by obtain ⟨es, c, e, _⟩ := M6.out; exact .inr (.inr (.inr ⟨es, c, e⟩)))))
        have S7 := Lib.hid ((ho6.block w.heap.size (fun e => by
          obtain ⟨es, c, e1, _⟩ := M6.out
          have e2 := (D5.out.block _ (lt_of_block S5.out)).trans S5.out
          rw [e, e1] at e2
          injection e2 with e2
          cases e2)).trans ((D5.out.block _ (lt_of_block S5.out)).trans S5.out))
        clear hrun hm6 ho6 hw5d
        go_upto_region 11 with fail
        refine Vls.wp_region (by kernel_rfl) (Jx.JX (fun u => u = w5d) (fun u => u = w6) 6 101 (fun _ _ => True) [(1, 0), (2, 1), (3, 2), (6, 3), (6, 4), (6, 5)] [.pointer (some ⟨g, 0, none⟩), .pointer (some ⟨g, 0, none⟩), .pointer (some ⟨g, 6, none⟩), .map (some m), .int .i64 ui, .agg (R3 a).toArray, undef]) (by kernel_rfl) (fun _ => undef) (Jx.JX.start (P := fun u => u = w5d) (HD5.out) _) ?_ ?_
        · refine ⟨?_, ?_, ?_, ?_, ?_, ?_, ?_, trivial⟩
          · intro s_ a_ u V hs hd hfr hpo hJ
            have f0 : a_.tmps.getD 0 undef = .pointer (some ⟨g, 0, none⟩) := hfr 0 (by kernel_rfl)
            refine .inl ⟨rfl, ?_⟩
            unfold Oper.wp
            rw [show (execOp a_.eval _).run Tryz.prog u = .ok (.value (.pointer (some ⟨g, 0, none⟩))) u from by simp [go_sem, Act.eval, f0]]
            exact ⟨_, rfl, hJ.stay 0 (by decide) (by decide) rfl rfl⟩
          · intro s_ a_ u V hs hd hfr hpo hJ
            have e0 : a_.tmps.getD 47 undef = .pointer (some ⟨g, 0, none⟩) := (hpo 0 47 (by kernel_rfl)).trans (hJ.get 0 (by decide) (by decide) (hd 0 (by kernel_rfl)) rfl)
            refine .inl ⟨rfl, ?_⟩
            unfold Oper.wp
            rw [show (execOp a_.eval _).run Tryz.prog u = .ok (.value (.pointer (some ⟨g, 0, none⟩))) u from by simp [go_sem, Act.eval, e0]]
            exact ⟨_, rfl, hJ.stay 1 (by decide) (by decide) (by show (s_ 0 && true) = true; rw [hd 0 (by kernel_rfl)]; rfl) rfl⟩
          · intro s_ a_ u V hs hd hfr hpo hJ
            have e1 : a_.tmps.getD 48 undef = .pointer (some ⟨g, 0, none⟩) := (hpo 1 48 (by kernel_rfl)).trans (hJ.get 1 (by decide) (by decide) (hd 1 (by kernel_rfl)) rfl)
            refine .inl ⟨rfl, ?_⟩
            unfold Oper.wp
            rw [show (execOp a_.eval _).run Tryz.prog u = .ok (.value (.pointer (some ⟨g, 6, none⟩))) u from by simp [go_sem, Act.eval, e1]]
            exact ⟨_, rfl, hJ.stay 2 (by decide) (by decide) (by show (s_ 1 && true) = true; rw [hd 1 (by kernel_rfl)]; rfl) rfl⟩
          · intro s_ a_ u V hs hd hfr hpo hJ
            have e2 : a_.tmps.getD 49 undef = .pointer (some ⟨g, 6, none⟩) := (hpo 2 49 (by kernel_rfl)).trans (hJ.get 2 (by decide) (by decide) (hd 2 (by kernel_rfl)) rfl)
            have hn_ : s_ 6 = false := (hJ.back 6 (by simp) hs)
            have hP := hJ.pre hn_
            refine .inl ⟨rfl, ?_⟩
            have cx0 := (show u.cell? ⟨g, 6, none⟩ = some (.map (some m)) by rw [hP]; exact Pt.box_cell G6.out 6 rfl)
            unfold Oper.wp
            rw [show (execOp a_.eval _).run Tryz.prog u = .ok (.value (.map (some m))) u from by simp [go_sem, Act.eval, e2, cx0]]
            exact ⟨_, rfl, hJ.stay 3 (by decide) (by decide) (by show (s_ 2 && true) = true; rw [hd 2 (by kernel_rfl)]; rfl) rfl⟩
          · intro s_ a_ u V hs hd hfr hpo hJ
            have f1 : a_.tmps.getD 1 undef = .int .i64 ui := hfr 1 (by kernel_rfl)
            refine .inl ⟨rfl, ?_⟩
            unfold Oper.wp
            rw [show (execOp a_.eval _).run Tryz.prog u = .ok (.value (.int .i64 ui)) u from by simp [go_sem, Act.eval, f1]]
            exact ⟨_, rfl, hJ.stay 4 (by decide) (by decide) rfl rfl⟩
          · intro s_ a_ u V hs hd hfr hpo hJ
            have f10 : a_.tmps.getD 10 undef = .pointer (some ⟨w3.heap.size, 0, none⟩) := hfr 10 (by kernel_rfl)
            have hn_ : s_ 6 = false := (hJ.back 6 (by simp) hs)
            have hP := hJ.pre hn_
            refine .inl ⟨rfl, ?_⟩
            exact wp_load_mid 23 (.tmp 10) rfl (w3.heap.size) (0) f10 (R3 a) _ (by rw [hP]; exact range_box Z6.out) Tryz.underlying23 rfl (by kernel_rfl) ⟨_, rfl, hJ.stay 5 (by decide) (by decide) rfl rfl⟩
          · intro s_ a_ u V hs hd hfr hpo hJ
            have e3 : a_.tmps.getD 50 undef = .map (some m) := (hpo 3 50 (by kernel_rfl)).trans (hJ.get 3 (by decide) (by decide) (hd 3 (by kernel_rfl)) rfl)
            have e4 : a_.tmps.getD 51 undef = .int .i64 ui := (hpo 4 51 (by kernel_rfl)).trans (hJ.get 4 (by decide) (by decide) (hd 4 (by kernel_rfl)) rfl)
            have e5 : a_.tmps.getD 52 undef = .agg (R3 a).toArray := (hpo 5 52 (by kernel_rfl)).trans (hJ.get 5 (by decide) (by decide) (hd 5 (by kernel_rfl)) rfl)
            have hn_ : s_ 6 = false := hs
            have hP := hJ.pre hn_
            subst hP
            refine .inl ⟨rfl, ?_⟩
            unfold Oper.wp
            rw [show (execOp a_.eval _).run Tryz.prog u = .ok .skip w6 from by simp [go_sem, Act.eval, e3, e4, e5, HRUN.out]]
            exact ⟨undef, rfl, hJ.fire (by show (s_ 3 && (s_ 4 && (s_ 5 && true))) = true; rw [hd 3 (by kernel_rfl), hd 4 (by kernel_rfl), hd 5 (by kernel_rfl)]; rfl) rfl _⟩
        · intro s_ V w6' hall hJ
          obtain rfl := hJ.post (hall 6 (by decide))
          clear hall hJ HRUN Z6 M6 G6 Z5 G5 M5 T5 K5 S5 D5 HD5
          simp only [Bxs.puts, Nat.reduceAdd, put_none, Re.put_lit, List.set_cons_succ, List.set_cons_zero]
          go_upto_region 12 with fail
          refine Vls.wp_region (by kernel_rfl) (Jx.JX (fun u => Below w6'.heap.size w6' u) (fun u => Pt.Tb B u p (Pt.takeL T ui ps) ∧ Pt.Kt B p w6' u) 7 6 (fun y u => ∃ (A : Option Addr) (c : Nat), y = .slice A ps.length c ∧ u.ownsRow w6'.heap.size 3 1 (.slice A ps.length c) ps.length (ps.map (Value.int .i64))) [(1, 0), (2, 1), (3, 2), (6, 5), (7, 3), (7, 4), (7, 6)] [.pointer (some ⟨g, 0, none⟩), .pointer (some ⟨g, 0, none⟩), .pointer (some ⟨g, 7, none⟩), .pointer (some ⟨p, 0, none⟩), .int .i64 ui, .agg [.string S.name, .slice LA S.labels.length lc, .slice IA S.init.length ic, .slice MA S.main.length mc, .int .i64 S.restart, .int .i64 S.grace, .int .i64 S.prio].toArray, undef, undef]) (by kernel_rfl) (fun _ => undef) (Jx.JX.start (P := fun u => Below w6'.heap.size w6' u) (Below.drew (Below.refl _ _)) _) ?_ ?_
          · refine ⟨?_, ?_, ?_, ?_, ?_, ?_, ?_, ?_, trivial⟩
            · intro s_ a_ u V hs hd hfr hpo hJ
              have f0 : a_.tmps.getD 0 undef = .pointer (some ⟨g, 0, none⟩) := hfr 0 (by kernel_rfl)
              refine .inl ⟨rfl, ?_⟩
              unfold Oper.wp
              rw [show (execOp a_.eval _).run Tryz.prog u = .ok (.value (.pointer (some ⟨g, 0, none⟩))) u from by simp [go_sem, Act.eval, f0]]
              exact ⟨_, rfl, hJ.stay 0 (by decide) (by decide) rfl rfl⟩
            · intro s_ a_ u V hs hd hfr hpo hJ
              have e0 : a_.tmps.getD 53 undef = .pointer (some ⟨g, 0, none⟩) := (hpo 0 53 (by kernel_rfl)).trans (hJ.get 0 (by decide) (by decide) (hd 0 (by kernel_rfl)) rfl)
              refine .inl ⟨rfl, ?_⟩
              unfold Oper.wp
              rw [show (execOp a_.eval _).run Tryz.prog u = .ok (.value (.pointer (some ⟨g, 0, none⟩))) u from by simp [go_sem, Act.eval, e0]]
              exact ⟨_, rfl, hJ.stay 1 (by decide) (by decide) (by show (s_ 0 && true) = true; rw [hd 0 (by kernel_rfl)]; rfl) rfl⟩
            · intro s_ a_ u V hs hd hfr hpo hJ
              have e1 : a_.tmps.getD 54 undef = .pointer (some ⟨g, 0, none⟩) := (hpo 1 54 (by kernel_rfl)).trans (hJ.get 1 (by decide) (by decide) (hd 1 (by kernel_rfl)) rfl)
              refine .inl ⟨rfl, ?_⟩
              unfold Oper.wp
              rw [show (execOp a_.eval _).run Tryz.prog u = .ok (.value (.pointer (some ⟨g, 7, none⟩))) u from by simp [go_sem, Act.eval, e1]]
              exact ⟨_, rfl, hJ.stay 2 (by decide) (by decide) (by show (s_ 1 && true) = true; rw [hd 1 (by kernel_rfl)]; rfl) rfl⟩
            · intro s_ a_ u V hs hd hfr hpo hJ
              have e2 : a_.tmps.getD 55 undef = .pointer (some ⟨g, 7, none⟩) := (hpo 2 55 (by kernel_rfl)).trans (hJ.get 2 (by decide) (by decide) (hd 2 (by kernel_rfl)) rfl)
              have hn_ : s_ 7 = false := (hJ.back 7 (by simp) hs)
              have hP := hJ.pre hn_
              refine .inl ⟨rfl, ?_⟩
              have cx0 := (World.cell?_of_block (hP.block _ (lt_of_block G7.out))).trans (Pt.box_cell G7.out 7 rfl)
              unfold Oper.wp
              rw [show (execOp a_.eval _).run Tryz.prog u = .ok (.value (.pointer (some ⟨p, 0, none⟩))) u from by simp [go_sem, Act.eval, e2, cx0]]
              exact ⟨_, rfl, hJ.stay 3 (by decide) (by decide) (by show (s_ 2 && true) = true; rw [hd 2 (by kernel_rfl)]; rfl) rfl⟩
            · intro s_ a_ u V hs hd hfr hpo hJ
              have f1 : a_.tmps.getD 1 undef = .int .i64 ui := hfr 1 (by kernel_rfl)
              refine .inl ⟨rfl, ?_⟩
              unfold Oper.wp
              rw [show (execOp a_.eval _).run Tryz.prog u = .ok (.value (.int .i64 ui)) u from by simp [go_sem, Act.eval, f1]]
              exact ⟨_, rfl, hJ.stay 4 (by decide) (by decide) rfl rfl⟩
            · intro s_ a_ u V hs hd hfr hpo hJ
              have f5 : a_.tmps.getD 5 undef = .pointer (some ⟨w.heap.size, 0, none⟩) := hfr 5 (by kernel_rfl)
              have hn_ : s_ 7 = false := (hJ.back 7 (by simp) (hJ.back 6 (by simp) hs))
              have hP := hJ.pre hn_
              refine .inl ⟨rfl, ?_⟩
              exact wp_load_mid 35 (.tmp 5) rfl (w.heap.size) (0) f5 [.string S.name, .slice LA S.labels.length lc, .slice IA S.init.length ic, .slice MA S.main.length mc, .int .i64 S.restart, .int .i64 S.grace, .int .i64 S.prio] _ (range_box ((hP.block _ (lt_of_block S7.out)).trans S7.out)) Tryz.underlying35 rfl (by kernel_rfl) ⟨_, rfl, hJ.stay 5 (by decide) (by decide) rfl rfl⟩
            · intro s_ a_ u V hs hd hfr hpo hJ
              have e5 : a_.tmps.getD 58 undef = .agg [.string S.name, .slice LA S.labels.length lc, .slice IA S.init.length ic, .slice MA S.main.length mc, .int .i64 S.restart, .int .i64 S.grace, .int .i64 S.prio].toArray := (hpo 5 58 (by kernel_rfl)).trans (hJ.get 5 (by decide) (by decide) (hd 5 (by kernel_rfl)) rfl)
              have hn_ : s_ 7 = false := (hJ.back 7 (by simp) hs)
              have hP := hJ.pre hn_
              refine .inl ⟨rfl, ?_⟩
              unfold Oper.wp
              rw [show (execOp a_.eval _).run Tryz.prog u = .ok (.enter 43 #[.agg [.string S.name, .slice LA S.labels.length lc, .slice IA S.init.length ic, .slice MA S.main.length mc, .int .i64 S.restart, .int .i64 S.grace, .int .i64 S.prio].toArray]) u from by simp [go_sem, Act.eval, e5]]
              refine Calls.mono (ports_any S LA lc IA ic MA mc HL.out.2.2.2 (by have := HL.out.1.2.2; omega) u (HS.out _ (K7.out.trans (Kn.of_below hP)))) ?_
              rintro e u2 ⟨y, rfl, ho, hb⟩
              obtain ⟨A, c, rfl⟩ := Pt.own_form ho
              rw [HPS.out] at ho
              exact ⟨_, rfl, hJ.told (by decide) (by show (s_ 5 && true) = true; rw [hd 5 (by kernel_rfl)]; rfl) hn_ (hP.trans (hb.mono hP.size)) ⟨A, c, by rw [HPS.out], Pt.owns_base ho hP.size⟩⟩
            · intro s_ a_ u V hs hd hfr hpo hJ
              have e3 : a_.tmps.getD 56 undef = .pointer (some ⟨p, 0, none⟩) := (hpo 3 56 (by kernel_rfl)).trans (hJ.get 3 (by decide) (by decide) (hd 3 (by kernel_rfl)) rfl)
              have e4 : a_.tmps.getD 57 undef = .int .i64 ui := (hpo 4 57 (by kernel_rfl)).trans (hJ.get 4 (by decide) (by decide) (hd 4 (by kernel_rfl)) rfl)
              have hn_ : s_ 7 = false := hs
              have hP := hJ.pre hn_
              obtain ⟨A, c, hV, hrow⟩ := hJ.rx hn_ (hd 6 (by kernel_rfl))
              have e6 : a_.tmps.getD 59 undef = .slice A ps.length c := (hpo 6 59 (by kernel_rfl)).trans hV
              refine .inl ⟨rfl, ?_⟩
              unfold Oper.wp
              rw [show (execOp a_.eval _).run Tryz.prog u = .ok (.enter 42 #[.pointer (some ⟨p, 0, none⟩), .int .i64 ui, .slice A ps.length c]) u from by simp [go_sem, Act.eval, e3, e4, e6]]
              refine Calls.mono (Pt.take_any ui ps A c u (T7.out.below hP) H.out.same.ok hu (nums_own hrow rfl HPR.out) (by have := H.out.few; have := HPL.out; omega)) ?_
              rintro e u2 ⟨rfl, hT, hK⟩
              exact ⟨_, rfl, hJ.fire (by show (s_ 3 && (s_ 4 && (s_ 6 && true))) = true; rw [hd 3 (by kernel_rfl), hd 4 (by kernel_rfl), hd 6 (by kernel_rfl)]; rfl) ⟨hT, (Pt.Kt.of_below hP).trans hK⟩ _⟩
          · intro s_ V w8 hall hJ
            obtain ⟨hT8, hK8⟩ := hJ.post (hall 7 (by decide))
            have G8 := Lib.hid (kt_box hK8 T7.out G7.out)
            have M8 := Lib.hid (kt_map hK8 T7.out M7.out)
            have T8 := Lib.hid hT8
            have K8 := Lib.hid (K7.out.trans (Kn.of_kt hK8 T7.out))
            clear hall hJ hT8 hK8
            simp only [Bxs.puts, Nat.reduceAdd, put_none, Re.put_lit, List.set_cons_succ, List.set_cons_zero]
            go_wp2
            go_ret
            refine ⟨rfl, ?_, K8.out⟩
            rw [HN.out]
            exact ⟨m, p, _, H.out.hB, by rw [HUS2.out]; exact G8.out, H.out.hm, M8.out, T8.out, HSAME.out.2, HOK.out⟩
    · have hc1 : (F == 0) = false := by simpa using hF0
      have HN := Lib.hid (show l2 = l from HL2.out.symm.trans (adm_stay (by rw [HF.out]; exact hF0)))
      clear hF0
      go_wp2
      go_ret
      exact ⟨rfl, by rw [HN.out]; exact ⟨m, p, T, H.out.below B2.out⟩, Kn.of_below B2.out⟩
end Nn
end Go.Proofs.YtbichomjpmmjmaaGreatDoor

/-
  maps.Keys and slices.Sorted of the program's node: Pods, the UIDs, rising. Conditions: the node is one (Nn), there are not too many pods.
-/
set_option linter.unusedVariables false
set_option linter.unusedSimpArgs false
namespace Go.Proofs.YtbichomjpmmjmaaGreatDoor
open Go.ChangeShapes Go.WideShapes Go.ChangeAt Go.RowKit Go.Lib Go.Maps Go.Shelf
open Go.WideElems (Fit rd rg)
namespace Nn
open Re Nd
open Pt (I64)
theorem keys_any (mb : Nat) (w : World) : Calls Tryz.prog 51 #[.map (some mb)] w fun e w' => e = .returned (.func (.func 81) #[] #[.pointer (some ⟨w.heap.size, 0, none⟩)]) ∧ w' = w.alloc (.cells #[.map (some mb)] 64) :=
  (callsIn_wide (n := 5)).1 (AnyZI.keys_in Tryz.keysL Fence.wide 5 trivial rfl (some mb) w)
theorem sorts (m : Nat) : AnyZI.SortsIn Tryz.prog Tryz.sortedL_ren Fence.wide m :=
  ⟨fun blk off cap ss W hH hblk hsz => callsIn_wide.2 (AnyM.slices_Sort_int Tryz.sortL blk off cap ss W hH hblk hsz),
   fun p cap W => callsIn_wide.2 (AnyM.slices_Sort_int_none Tryz.sortL p cap W)⟩
/-- whatever is laid up -/
def anyR (v : Value) : Option (DataW Unit × List MemPlace) := some (.nil, [])
theorem key_of {z : Int} (h : I64 z) : keyOf Tryz.prog 3 (.int .i64 z) = some (.int .i64 z) := keyOf_int_mk Tryz.underlying3 (by unfold I64 at h; simp [Lit.wf, IntKind.min, IntKind.max, IntKind.signed, IntKind.bits]; omega)
theorem owns_of {w : World} {mb : Nat} {l : List (Int × Value)} (h : Mp.MapAt w mb l) (hl : ∀ p ∈ l, I64 p.1) (hn : l.length ≤ 1000) : ∃ D : DataW Unit, w.ownsMap Tryz.prog 3 anyR mb 1000 D ∧ (intKeys D).Perm (l.map Prod.fst) ∧ Maps.size D ≤ 1000 := by
  obtain ⟨es, clock, hb, hst, hp⟩ := h
  have hsz : es.size = l.length := by have := hp.length_eq; simpa using this
  have hrd : ∀ x ∈ es.toList, ∃ p ∈ l, x.key = .int .i64 p.1 ∧ rd Tryz.prog 3 anyR x = some (.int .i64 p.1, .nil) := fun x hx => by
    have := hp.subset (List.mem_map.2 ⟨x, hx, rfl⟩)
    obtain ⟨p, hp, hpe⟩ := List.mem_map.1 this
    have hk : x.key = .int .i64 p.1 := (congrArg Prod.fst hpe).symm
    refine ⟨p, hp, hk, ?_⟩
    unfold rd
    rw [hk, key_of (hl p hp)]
    rfl
  have hmx : (1000 : Nat) ≤ maxLen := by unfold maxLen; omega
  have hpm : ((es.toList.map (rg Tryz.prog 3 anyR)).foldr DataW.insert []).Perm (es.toList.map (rg Tryz.prog 3 anyR)) := sorted_perm _
  refine ⟨_, ⟨es, clock, hb, ⟨by omega, hst, fun x hx => by obtain ⟨p, _, _, h2⟩ := hrd x hx; exact ⟨_, h2⟩⟩, by omega, rfl⟩, ?_, ?_⟩
  · show (((es.toList.map (rg Tryz.prog 3 anyR)).foldr DataW.insert []).map fun p => _root_.Go.intOf p.1).Perm _
    refine (hpm.map _).trans ?_
    rw [List.map_map]
    have e1 : es.toList.map ((fun p : Lit × DataW Unit => _root_.Go.intOf p.1) ∘ rg Tryz.prog 3 anyR) = (es.toList.map Mp.ev).map (fun q => Mp.ki q.1) := by
      rw [List.map_map]
      apply List.map_congr_left
      intro x hx
      obtain ⟨p, _, h1, h2⟩ := hrd x hx
      simp only [Function.comp, rg, h2, Mp.ev, h1, Mp.ki, Option.getD_some]
      rfl
    have e2 : (l.map Mp.kv).map (fun q => Mp.ki q.1) = l.map Prod.fst := by rw [List.map_map]; rfl
    rw [e1, ← e2]
    exact hp.map _
  · show ((es.toList.map (rg Tryz.prog 3 anyR)).foldr DataW.insert []).length ≤ 1000
    rw [hpm.length_eq, List.length_map, Array.length_toList, hsz]
    exact hn
set_option maxHeartbeats 1000000 in
theorem sorted_any {w : World} {mb g : Nat} {l : List (Int × Value)} (h : Mp.MapAt w mb l) (hl : ∀ p ∈ l, I64 p.1) (hn : l.length ≤ 1000) (hs : (l.map Prod.fst).Pairwise (· < ·)) (hg : w.heap[g]? = some (.cells #[.map (some mb)] 64 (0, 0))) :
    Calls Tryz.prog 50 #[.func (.func 81) #[] #[.pointer (some ⟨g, 0, none⟩)]] w fun e w' => ∃ A c, e = .returned (.slice A l.length c) ∧ w'.ownsRow w.heap.size 3 1 (.slice A l.length c) l.length ((l.map Prod.fst).map encZ) ∧ Below w.heap.size w w' := by
  obtain ⟨D0, hown, hperm, hmax⟩ := owns_of h hl hn
  have hmx : (1000 : Nat) ≤ maxLen := by unfold maxLen; omega
  have hseq : SeqGives Fence.wide 2 Tryz.prog 81 #[.pointer (some ⟨g, 0, none⟩)] encZ (fun ss => ss.Perm (intKeys D0)) (Maps.size D0) w :=
    AnyZI.keys_gives (ρ := Tryz.keysL_ren) { Tryz.keysL with } Fence.wide _ trivial rfl (by omega) g mb 1000 D0 _ (Pt.lt_of_block hg) (Pt.box_cell hg 0 rfl) hown
  have cS := AnyZI.sorted_in Tryz.sortedL Fence.wide 5 trivial trivial trivial trivial rfl (by omega) (sorts _) (enters_of Tryz.func80 (by kernel_rfl) rfl) 81 #[.pointer (some ⟨g, 0, none⟩)] trivial (enters_of Tryz.func81 (by kernel_rfl) rfl) _ _ (Nat.le_trans hmax hmx) (by omega) _ hseq
  change CallsIn _ _ Tryz.prog 50 _ _ _ at cS
  refine ((callsIn_wide (n := 5)).1 cS).mono ?_
  rintro e w' ⟨v, ss, rfl, hS, hrow, hnil, hb⟩
  have hlen : ss.length = l.length := by rw [(hS.trans hperm).length_eq, List.length_map]
  have hsort : ss.mergeSort (fun x y => decide (x ≤ y)) = l.map Prod.fst := by
    refine List.Perm.eq_of_pairwise (le := fun a b => a ≤ b) (fun a b _ _ h1 h2 => by omega) ?_ (hs.imp (fun {a b} h => by omega)) ((List.mergeSort_perm _ _).trans (hS.trans hperm))
    have := List.pairwise_mergeSort (le := fun x y : Int => decide (x ≤ y)) (fun a b c h1 h2 => by simp at *; omega) (fun a b => by simp; omega) ss
    exact this.imp (fun {a b} h => by simpa using h)
  rw [hsort, hlen] at hrow
  obtain ⟨A, c, rfl⟩ := Pt.own_form hrow
  exact ⟨A, c, rfl, hrow, hb⟩
theorem kvs_keys (l : Pods) : (kvs l).map Prod.fst = l.map Pod.uid := by rw [kvs, List.map_map]; rfl
set_option maxRecDepth 100000 in
set_option maxHeartbeats 1000000 in
theorem pods_any {B : Nat} {g : Nat} {has : Rx} {l : Pods} (w : World) (h : Nn B w g has l) (hn : l.length ≤ 1000) : Calls Tryz.prog 26 #[.pointer (some ⟨g, 0, none⟩)] w fun e w' => ∃ A c, e = .returned (.slice A l.length c) ∧ w'.ownsRow w.heap.size 3 1 (.slice A l.length c) l.length ((l.map Pod.uid).map (Value.int .i64)) ∧ Below w.heap.size w w' := by
  obtain ⟨m, p, T, h⟩ := h
  have c6 := h.asked
  obtain ⟨w1, hw1⟩ : ∃ v, w.alloc (.cells #[.map (some m)] 64) = v := ⟨_, rfl⟩
  have hb1 : Below w.heap.size w w1 := by rw [← hw1]; exact (Below.refl _ _).alloc (Nat.le_refl _) _
  have B1 := Lib.hid hb1
  have h1 := h.below hb1
  have hl : ∀ q ∈ kvs l, I64 q.1 := fun q hq => by
    obtain ⟨x, hx, rfl⟩ := List.mem_map.1 hq
    have := (h.ok.one x hx).1
    exact ⟨by show (-9223372036854775808 : Int) ≤ x.uid; omega, this.2⟩
  have cS := sorted_any (g := w.heap.size) h1.map hl (by rw [kvs, List.length_map]; exact hn) (by rw [kvs_keys]; exact List.pairwise_map.2 h.ok.up) (by rw [← hw1]; exact heap_alloc_new w _)
  rw [kvs_keys, show (kvs l).length = l.length by rw [kvs, List.length_map]] at cS
  have CS := Lib.hid cS
  have CK0 := keys_any m w
  rw [hw1] at CK0
  have CK := Lib.hid CK0
  obtain ⟨n, hln⟩ : ∃ n, l.length = n := ⟨_, rfl⟩
  rw [hln] at CS ⊢
  clear cS hl h1 hb1 h hn hln CK0 hw1
  go_enter Tryz.func26, Tryz.ntmps26
  go_wp2_with (first
    | (go_at_call 51; refine CK.out.mono ?_; rintro e w2 ⟨rfl, hw2⟩; obtain rfl := hw2.symm; clear hw2)
    | (go_at_call 50; refine CS.out.mono ?_; rintro e w3 ⟨A, c, rfl, hrow, hb3⟩; have HR := Lib.hid hrow; have HB := Lib.hid (B1.out.trans (hb3.mono B1.out.size)); have HS1 := Lib.hid B1.out.size; clear hrow hb3))
  go_ret
  exact ⟨A, c, rfl, Pt.owns_base HR.out HS1.out, HB.out⟩
end Nn
end Go.Proofs.YtbichomjpmmjmaaGreatDoor
