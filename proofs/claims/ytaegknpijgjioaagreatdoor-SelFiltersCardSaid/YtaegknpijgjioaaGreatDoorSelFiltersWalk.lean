/-
  The walk of the law SelFilters: it returns true, and leaves all that was there as it was. Condition: the listed variables hold what the program's text lays (SLaid).
-/
import Derived.Test.YtaegknpijgjioaaGreatDoorSelFilter
import Derived.Test.YtaegknpijgjioaaGreatDoorSelAll
import Derived.Test.YtaegknpijgjioaaGreatDoorTellSame
import Derived.Test.YtaegknpijgjioaaGreatDoorTellLight
set_option linter.unusedVariables false
set_option linter.unusedSimpArgs false
namespace Go.Proofs.YtaegknpijgjioaaGreatDoor
open Go.ChangeShapes Go.WideShapes Go.ChangeAt Go.RowKit Go.Lib
open LebMath WirePure Sd Wire SpecOwn SpecRef Book Pk
open Tl Sl
namespace SelFiltersWalk

theorem pds_own {w : World} {B : Nat} {A : Option Addr} {n cap : Nat} {L : List HP} (h : ∀ t ∈ L, t.x.In w t.LA t.lc t.IA t.ic t.MA t.mc t.RA) (ho : w.ownsRow B 33 13 (.slice A n cap) n (flatP L)) : Pds w A (L.map (·.x)) := by
  intro k x hk
  rw [List.getElem?_map, Option.map_eq_some_iff] at hk
  obtain ⟨t, ht, rfl⟩ := hk
  have hkl : k < L.length := (List.getElem?_eq_some_iff.1 ht).1
  have hln := ho.1
  rw [flatP_length] at hln
  rcases ho.2 with ⟨e1, h0⟩ | ⟨g, cap', cur, e1, e2, e3, e4⟩
  · omega
  · injection e1 with e1 e5 e6
    subst e1
    have hc : ∀ j, j < 13 → w.cell? ⟨g, k * 13 + j, none⟩ = t.vals[j]? := fun j hj => by
      rw [ho.cellAt (k * 13 + j) (by omega), flatP_at ht j hj]
    exact ⟨_, t.LA, t.lc, t.IA, t.ic, t.MA, t.mc, t.RA, t.rc, rfl, lt_of_block e3, cells_13 rfl hc, h t (List.mem_of_getElem? ht)⟩
set_option maxRecDepth 100000 in
set_option maxHeartbeats 4000000 in
theorem walk (A : Option Addr) (c : Nat) (s : List Lbl) (B : Option Addr) (d : Nat) (l : List Pd) (hs : s.length ≤ 9223372036854775807) (hl : l.length ≤ 9223372036854775807) (w : World) (hL : SLaid w) (hA : Lbls w A s) (hB : Pds w B l) :
    Calls Tryz.prog 3 #[.slice A s.length c, .slice B l.length d] w fun e w' => e = .returned (.bool true) ∧ Below w.heap.size w w' := by
  obtain ⟨i13, hi13, hz130, hz131, hz132⟩ := info_parts info_pod
  have HL := Lib.hid hL
  have HA := Lib.hid hA
  have HB := Lib.hid hB
  clear hL hA hB
  go_enter Tryz.func3, Tryz.ntmps3
  go_wp2_with fail
  refine (lightl_any A c s hs w HA.out).mono ?_
  rintro e w1 ⟨rfl, hb1⟩
  have B1 := Lib.hid hb1
  clear hb1
  cases ga : lightLL s with
  | false =>
    go_wp2_with fail
    refine (works_any w1 (HL.out.below B1.out)).mono ?_
    rintro e w2 ⟨rfl, hb2⟩
    have B2 := Lib.hid (B1.out.trans (hb2.mono B1.out.size))
    clear hb2
    go_wp2_with fail
    go_ret
    exact ⟨rfl, B2.out⟩
  | true =>
    clear ga
    by_cases h20 : l.length ≤ 20
    · have h20' : ¬ (20 : Int) < (l.length : Int) := by omega
      go_wp2_with fail
      go_loopw [5, 6] (fun v i wr => ∃ (k j : Nat) (L : List HP), k ≤ l.length ∧ i = .int .i64 k ∧ L.length = j ∧ j ≤ k ∧ Hid (L.map (·.x) = (l.take k).filter (fitsP s)) ∧ Hid (wr.ownsRow w.heap.size 33 13 v j (flatP L)) ∧ Hid (∀ t ∈ L, t.x.In w t.LA t.lc t.IA t.ic t.MA t.mc t.RA) ∧ Hid (∀ p ∈ l.take k, LightP p) ∧ Hid (Below w.heap.size w wr)) (fun _ i _ => l.length - (RowKit.intOf i).toNat)
      case atStart => exact ⟨0, 0, [], Nat.zero_le _, rfl, rfl, Nat.le_refl _, rfl, World.ownsRow_nil _ _ _ _, fun t ht => by simp at ht, fun p hp => by simp at hp, B1.out⟩
      case round =>
        obtain ⟨k, j, L, hk, rfl, hj, hjk, HLX, HO, HIN, HLT, BW⟩ := hrel
        have HJ := Lib.hid hj
        clear hj
        obtain ⟨PA, pc, rfl⟩ := own_form HO.out
        by_cases hlt : k < l.length
        · obtain ⟨a, LA, lc, IA, ic, MA, mc, RA, rc, rfl, ha, hcIN⟩ := HB.out.at hlt
          have hka : (k : Int) < (l.length : Int) := by omega
          have HTK := Lib.hid (take_fits s hlt)
          have HTO := Lib.hid (show l.take (k + 1) = l.take k ++ [l[k]] from List.take_succ_eq_append_getElem hlt)
          obtain ⟨x, ex⟩ : ∃ x, l[k] = x := ⟨_, rfl⟩
          rw [ex] at hcIN HTK HTO
          have HX := Lib.hid hcIN.2
          have HC := Lib.hid hcIN.1
          have HAB := Lib.hid ha
          have hc := hcIN.1.keep (w' := wr) (by rw [Lists.add_block]; exact BW.out.block _ ha)
          have HCW := Lib.hid hc
          have c2 : wr.cell? ⟨(a.add (k * 13)).block, (a.add (k * 13)).off + 2, none⟩ = some (.string x.spec.name) := hc.2 1 _ rfl
          have c3 : wr.cell? ⟨(a.add (k * 13)).block, (a.add (k * 13)).off + 3, none⟩ = some (.slice LA x.spec.labels.length lc) := hc.2 2 _ rfl
          have c4 : wr.cell? ⟨(a.add (k * 13)).block, (a.add (k * 13)).off + 4, none⟩ = some (.slice IA x.spec.init.length ic) := hc.2 3 _ rfl
          have c5 : wr.cell? ⟨(a.add (k * 13)).block, (a.add (k * 13)).off + 5, none⟩ = some (.slice MA x.spec.main.length mc) := hc.2 4 _ rfl
          have c6 : wr.cell? ⟨(a.add (k * 13)).block, (a.add (k * 13)).off + 6, none⟩ = some (.int .i64 x.spec.restart) := hc.2 5 _ rfl
          have c7 : wr.cell? ⟨(a.add (k * 13)).block, (a.add (k * 13)).off + 7, none⟩ = some (.int .i64 x.spec.grace) := hc.2 6 _ rfl
          have c8 : wr.cell? ⟨(a.add (k * 13)).block, (a.add (k * 13)).off + 8, none⟩ = some (.int .i64 x.spec.prio) := hc.2 7 _ rfl
          have c10 : wr.cell? ⟨(a.add (k * 13)).block, (a.add (k * 13)).off + 10, none⟩ = some (.slice RA x.rs.length rc) := hc.2 9 _ rfl
          have hrl := hcIN.2.nr
          have HLS := Lib.hid (light_any x.spec LA lc IA ic MA mc wr (hcIN.2.spec.below BW.out))
          clear hc ha ex hcIN
          go_wp2_with fail
          refine HLS.out.mono ?_
          rintro e w5 ⟨rfl, hb5⟩
          have B5 := Lib.hid (BW.out.trans (hb5.mono BW.out.size))
          have HB5 := Lib.hid hb5
          clear hb5 c2 c3 c4 c5 c6 c7 c8 c10 HLS
          cases hli : LightB x.spec with
          | false =>
            clear hli
            go_wp2_with fail
            refine (works_any w5 (HL.out.below B5.out)).mono ?_
            rintro e w6 ⟨rfl, hb6⟩
            have B6 := Lib.hid (B5.out.trans (hb6.mono B5.out.size))
            clear hb6
            go_wp2_with fail
            go_ret
            exact ⟨rfl, B6.out⟩
          | true =>
            have hc := HCW.out.keep (w' := w5) (by rw [Lists.add_block]; exact HB5.out.block _ (Nat.lt_of_lt_of_le HAB.out BW.out.size))
            have c3 : w5.cell? ⟨(a.add (k * 13)).block, (a.add (k * 13)).off + 3, none⟩ = some (.slice LA x.spec.labels.length lc) := hc.2 2 _ rfl
            have c10 : w5.cell? ⟨(a.add (k * 13)).block, (a.add (k * 13)).off + 10, none⟩ = some (.slice RA x.rs.length rc) := hc.2 9 _ rfl
            have HC5 := Lib.hid hc
            clear hc
            have HLIB := Lib.hid hli
            clear hli
            by_cases hr : x.rs.length ≤ 20
            · have hr' : ¬ (20 : Int) < (x.rs.length : Int) := by omega
              have HLP := Lib.hid (show ∀ p ∈ l.take (k + 1), LightP p from fun p hp => by
                rw [HTO.out] at hp
                rcases List.mem_append.1 hp with hp | hp
                · exact HLT.out p hp
                · rw [List.mem_singleton] at hp; subst hp; exact ⟨LightB_iff.1 HLIB.out, hr⟩)
              have HFR := Lib.hid (fits_ref A c s LA lc x.spec.labels hs HX.out.spec.nl w5 (HA.out.below B5.out) (HX.out.spec.labels.below B5.out))
              obtain ⟨f, hf⟩ : ∃ f, fitsL s x.spec.labels = f := ⟨_, rfl⟩
              rw [hf] at HFR
              have HF := Lib.hid hf
              clear hf
              go_wp2_with fail
              refine HFR.out.mono ?_
              rintro e w6 ⟨rfl, hb6⟩
              have HB6 := Lib.hid (HB5.out.trans (hb6.mono HB5.out.size))
              have B6 := Lib.hid (BW.out.trans (HB6.out.mono BW.out.size))
              have HO6 := Lib.hid (Err.own_keep HO.out HB6.out)
              clear hb6 HFR c3 c10
              cases f with
              | false =>
                have HLN := Lib.hid (show L.map (·.x) = (l.take (k + 1)).filter (fitsP s) by rw [HTK.out, if_neg (by unfold fitsP; rw [HF.out]; decide)]; exact HLX.out)
                go_wp2_with fail
                go_roundw
                case rel => exact ⟨k + 1, j, L, by omega, by go_num, HJ.out, by omega, HLN.out, HO6.out, HIN.out, HLP.out, B6.out⟩
                case measure => simp [RowKit.intOf]; omega
              | true =>
                have HLN := Lib.hid (show L.map (·.x) ++ [x] = (l.take (k + 1)).filter (fitsP s) by rw [HTK.out, if_pos (by unfold fitsP; exact HF.out), HLX.out])
                have HC6 := Lib.hid (CellsAt.all (HC.out.keep (w' := w6) (by rw [Lists.add_block]; exact B6.out.block _ HAB.out)))
                obtain ⟨w8, hw8⟩ : ∃ v, w6.alloc (.cells #[.int .i64 x.uid, .int .u64 x.rev, .string x.spec.name, .slice LA x.spec.labels.length lc, .slice IA x.spec.init.length ic, .slice MA x.spec.main.length mc, .int .i64 x.spec.restart, .int .i64 x.spec.grace, .int .i64 x.spec.prio, .int .i64 x.phase, .slice RA x.rs.length rc, .int .i64 x.mark, .int .i64 x.grace] 33) = v := ⟨_, rfl⟩
                have hb8 : Below w6.heap.size w6 w8 := by rw [← hw8]; exact (Below.refl _ _).alloc (Nat.le_refl _) _
                have X8 := Lib.hid (show w8.heap[w6.heap.size]? = some (.cells #[.int .i64 x.uid, .int .u64 x.rev, .string x.spec.name, .slice LA x.spec.labels.length lc, .slice IA x.spec.init.length ic, .slice MA x.spec.main.length mc, .int .i64 x.spec.restart, .int .i64 x.spec.grace, .int .i64 x.spec.prio, .int .i64 x.phase, .slice RA x.rs.length rc, .int .i64 x.mark, .int .i64 x.grace] 33 (0, 0)) by rw [← hw8]; exact heap_alloc_new w6 _)
                have B8 := Lib.hid (B6.out.trans (hb8.mono B6.out.size))
                have HO8 := Lib.hid (Err.own_keep HO6.out hb8)
                have HW8 := Lib.hid hw8
                have RG8 := Lib.hid (range_at X8.out 0 [.int .i64 x.uid, .int .u64 x.rev, .string x.spec.name, .slice LA x.spec.labels.length lc, .slice IA x.spec.init.length ic, .slice MA x.spec.main.length mc, .int .i64 x.spec.restart, .int .i64 x.spec.grace, .int .i64 x.spec.prio, .int .i64 x.phase, .slice RA x.rs.length rc, .int .i64 x.mark, .int .i64 x.grace] rfl)
                have hsz8 := B8.out.size
                clear hb8 hw8
                go_wp2_with (first
                  | (refine wpList_load_addr rfl 33 _ rfl _ rfl [.int .i64 x.uid, .int .u64 x.rev, .string x.spec.name, .slice LA x.spec.labels.length lc, .slice IA x.spec.init.length ic, .slice MA x.spec.main.length mc, .int .i64 x.spec.restart, .int .i64 x.spec.grace, .int .i64 x.spec.prio, .int .i64 x.phase, .slice RA x.rs.length rc, .int .i64 x.mark, .int .i64 x.grace] _ HC6.out Tryz.underlying33 rfl (by kernel_rfl) ?_)
                  | (refine wpList_buildPod rfl _ rfl _ _ _ _ _ _ _ _ _ _ _ _ _ rfl HW8.out ?_)
                  | (refine wpList_append_lay rfl _ _ 23 rfl w.heap.size 33 i13 (.agg #[.int .i64 0, .int .u64 0, .string ⟨#[]⟩, .slice none 0 0, .slice none 0 0, .slice none 0 0, .int .i64 0, .int .i64 0, .int .i64 0, .int .i64 0, .slice none 0 0, .int .i64 0, .int .i64 0]) 13 176 Tryz.underlying23 hi13 hz130 hz131 hz132 rfl (by decide) (.slice PA j pc) j (flatP L) rfl HO8.out ⟨w6.heap.size, 0, none⟩ 1 1 [.int .i64 x.uid, .int .u64 x.rev, .string x.spec.name, .slice LA x.spec.labels.length lc, .slice IA x.spec.init.length ic, .slice MA x.spec.main.length mc, .int .i64 x.spec.restart, .int .i64 x.spec.grace, .int .i64 x.spec.prio, .int .i64 x.phase, .slice RA x.rs.length rc, .int .i64 x.mark, .int .i64 x.grace] rfl rfl ?f1 ?f2 ?f3 ?f4 ?f5 ?_))
                case f1 => exact row_cells RG8.out
                case f2 => intro u hu; simp only [List.mem_cons, List.not_mem_nil, or_false] at hu; rcases hu with rfl | rfl | rfl | rfl | rfl | rfl | rfl | rfl | rfl | rfl | rfl | rfl | rfl <;> rfl
                case f3 => unfold maxLen; omega
                case f4 => omega
                case f5 => exact hsz8
                intro A' c' w9 hown9 hgrow hat
                have hne : ∀ r, (Value.slice PA j pc).ownBlock = some r → w.heap.size ≤ r := fun r hr => (HO8.out.lt r hr).1
                have B9 := Lib.hid (B8.out.grown hgrow B8.out.size hne)
                have HO9 := Lib.hid (show w9.ownsRow w.heap.size 33 13 (.slice A' (j + 1) c') (j + 1) (flatP (L ++ [(⟨x, LA, lc, IA, ic, MA, mc, RA, rc, 0, w⟩ : HP)])) by rw [flatP_snoc]; exact hown9)
                have HLM := Lib.hid (show (L ++ [(⟨x, LA, lc, IA, ic, MA, mc, RA, rc, 0, w⟩ : HP)]).map (·.x) = (l.take (k + 1)).filter (fitsP s) by rw [← HLN.out, List.map_append]; rfl)
                have HI9 := Lib.hid (show ∀ t ∈ L ++ [(⟨x, LA, lc, IA, ic, MA, mc, RA, rc, 0, w⟩ : HP)], t.x.In w t.LA t.lc t.IA t.ic t.MA t.mc t.RA from fun t ht => by
                  rcases List.mem_append.1 ht with ht | ht
                  · exact HIN.out t ht
                  · rw [List.mem_singleton] at ht; subst ht; exact HX.out)
                clear hown9 hgrow hat hne hsz8
                go_wp2_with fail
                go_roundw
                case rel => exact ⟨k + 1, j + 1, _, by omega, by go_num, by rw [List.length_append, HJ.out]; rfl, by omega, HLM.out, HO9.out, HI9.out, HLP.out, B9.out⟩
                case measure => simp [RowKit.intOf]; omega
            · have hr' : (20 : Int) < (x.rs.length : Int) := by omega
              go_wp2_with fail
              refine (works_any w5 (HL.out.below B5.out)).mono ?_
              rintro e w6 ⟨rfl, hb6⟩
              have B6 := Lib.hid (B5.out.trans (hb6.mono B5.out.size))
              clear hb6
              go_wp2_with fail
              go_ret
              exact ⟨rfl, B6.out⟩
        · have hka : ¬ (k : Int) < (l.length : Int) := by omega
          have HLM := Lib.hid (show L.map (·.x) = l.filter (fitsP s) by rw [HLX.out, List.take_of_length_le (by omega)])
          have HLL := Lib.hid (show ∀ p ∈ l, LightP p from fun p hp => HLT.out p (by rw [List.take_of_length_le (by omega)]; exact hp))
          have HN := Lib.hid (show (l.filter (fitsP s)).length = j by rw [← HLM.out, List.length_map]; exact HJ.out)
          have HFI := Lib.hid (filter_any A c s B d l hs (by omega) HLL.out wr (HA.out.below BW.out) (HB.out.below BW.out))
          unfold Filtered at HFI
          have HFN := Lib.hid (show (l.filter (fitsP s)).length ≤ 9223372036854775807 by rw [HN.out]; omega)
          obtain ⟨F, hF⟩ : ∃ F, l.filter (fitsP s) = F := ⟨_, rfl⟩
          rw [hF] at HLM HN HFI HFN
          clear hF
          go_wp2_with fail
          refine HFI.out.mono ?_
          rintro e w5 ⟨A', c', rfl, hp5, hb5⟩
          have B5 := Lib.hid (BW.out.trans (hb5.mono BW.out.size))
          have HW := Lib.hid (show Pds w5 PA F from by
            rw [← HLM.out]
            exact pds_own (fun t ht => (HIN.out t ht).below B5.out) (Err.own_keep HO.out hb5))
          have HSP := Lib.hid (show Calls Tryz.prog 11 #[.slice A' F.length c', .slice PA j pc] w5 fun e w' => e = .returned (.bool true) ∧ Below w5.heap.size w5 w' by
            have h := samePods_any A' c' F PA pc F HFN.out HFN.out w5 hp5 HW.out
            rw [(sameAll_iff samePB_iff F F).2 rfl] at h
            rw [HN.out] at h ⊢
            exact h)
          clear hb5 hp5 HFI
          go_wp2_with fail
          refine HSP.out.mono ?_
          rintro e w6 ⟨rfl, hb6⟩
          have B6 := Lib.hid (B5.out.trans (hb6.mono B5.out.size))
          clear hb6
          go_wp2_with fail
          refine (works_any w6 (HL.out.below B6.out)).mono ?_
          rintro e w7 ⟨rfl, hb7⟩
          have B7 := Lib.hid (B6.out.trans (hb7.mono B6.out.size))
          clear hb7
          go_wp2_with fail
          go_ret
          exact ⟨rfl, B7.out⟩
    · have h20' : (20 : Int) < (l.length : Int) := by omega
      go_wp2_with fail
      refine (works_any w1 (HL.out.below B1.out)).mono ?_
      rintro e w2 ⟨rfl, hb2⟩
      have B2 := Lib.hid (B1.out.trans (hb2.mono B1.out.size))
      clear hb2
      go_wp2_with fail
      go_ret
      exact ⟨rfl, B2.out⟩
end SelFiltersWalk
end Go.Proofs.YtaegknpijgjioaaGreatDoor
