/-
 The contract of the document's word on a spec (provostref06.Check). Condition: the spec is light (Book.Light).
-/
import Derived.Test.YtljbpelogjmciaaGreatDoorSpecOne
import Derived.Test.YtljbpelogjmciaaGreatDoorSpecAhead
import Derived.Test.YtljbpelogjmciaaGreatDoorSpecDataAll
import Derived.Test.YtljbpelogjmciaaGreatDoorAppendAny
namespace Go.Proofs.YtljbpelogjmciaaGreatDoor
open Go.ChangeShapes Go.WideShapes Go.ChangeAt Go.RowKit Go.Lib
open Sd Lists Go.Sort
namespace SpecRef
def SBox (S : Spc) (LA : Option Addr) (lc : Nat) (IA : Option Addr) (ic : Nat) (MA : Option Addr) (mc : Nat) (w : World) (b : Nat) : Prop :=
 w.heap[b]? = some (.cells #[.string S.name, .slice LA S.labels.length lc, .slice IA S.init.length ic, .slice MA S.main.length mc, .int .i64 S.restart, .int .i64 S.grace, .int .i64 S.prio] 28 (0, 0))
structure SCells (S : Spc) (LA : Option Addr) (lc : Nat) (IA : Option Addr) (ic : Nat) (MA : Option Addr) (mc : Nat) (w : World) (b : Nat) : Prop where
 c0 : w.cell? ⟨b, 0, none⟩ = some (.string S.name)
 c1 : w.cell? ⟨b, 1, none⟩ = some (.slice LA S.labels.length lc)
 c2 : w.cell? ⟨b, 2, none⟩ = some (.slice IA S.init.length ic)
 c3 : w.cell? ⟨b, 3, none⟩ = some (.slice MA S.main.length mc)
 c4 : w.cell? ⟨b, 4, none⟩ = some (.int .i64 S.restart)
 c5 : w.cell? ⟨b, 5, none⟩ = some (.int .i64 S.grace)
 c6 : w.cell? ⟨b, 6, none⟩ = some (.int .i64 S.prio)
theorem SBox.cells {S : Spc} {LA : Option Addr} {lc : Nat} {IA : Option Addr} {ic : Nat} {MA : Option Addr} {mc : Nat} {w : World} {b : Nat} (h : SBox S LA lc IA ic MA mc w b) : SCells S LA lc IA ic MA mc w b := by
 unfold SBox at h
 constructor <;> simp [World.cell?, h]
theorem SBox.lt {S : Spc} {LA : Option Addr} {lc : Nat} {IA : Option Addr} {ic : Nat} {MA : Option Addr} {mc : Nat} {w : World} {b : Nat} (h : SBox S LA lc IA ic MA mc w b) : b < w.heap.size := by
 rcases Nat.lt_or_ge b w.heap.size with hl | hl
 · exact hl
 · unfold SBox at h; rw [Array.getElem?_eq_none hl] at h; cases h
theorem SBox.below {S : Spc} {LA : Option Addr} {lc : Nat} {IA : Option Addr} {ic : Nat} {MA : Option Addr} {mc : Nat} {w w' : World} {b : Nat} (h : SBox S LA lc IA ic MA mc w b) (hb : Below w.heap.size w w') : SBox S LA lc IA ic MA mc w' b := (hb.block b h.lt).trans h
theorem info_ctr : (Tryz.prog.info? 74).map (fun i => (i.zero, i.size, i.bytes)) = some (some (.agg #[.string ⟨#[]⟩, .string ⟨#[]⟩, .int .i64 0, .int .i64 0, .int .i64 0, .int .i64 0, .int .i64 0, .int .i64 0, .slice none 0 0, .int .i64 0, .int .i64 0]), 11, 120) := by kernel_rfl
def CHere (name : ByteArray) (init : Bool) (pre l : List Ctr) (k : Nat) : Prop := ctrsFrom name init 0 pre l = ctrsFrom name init k (pre ++ l.take k) (l.drop k)
theorem chere_zero (name : ByteArray) (init : Bool) (pre l : List Ctr) : CHere name init pre l 0 := by unfold CHere; simp
theorem chere_end {name : ByteArray} {init : Bool} {pre l : List Ctr} {k : Nat} (h : CHere name init pre l k) (hk : l.length ≤ k) : ctrsFrom name init 0 pre l = fine := by
 unfold CHere at h
 rw [h, List.drop_eq_nil_of_le hk]; rfl
theorem chere_at {name : ByteArray} {init : Bool} {pre l : List Ctr} {k : Nat} (h : CHere name init pre l k) (hk : k < l.length) : ctrsFrom name init 0 pre l =
 if (oneV l[k] (pre ++ l.take k) init).1 ≠ 0 then ((oneV l[k] (pre ++ l.take k) init).1, atB name k ++ ⟨#[46]⟩ ++ (oneV l[k] (pre ++ l.take k) init).2) else ctrsFrom name init (k + 1) (pre ++ l.take k ++ [l[k]]) (l.drop (k + 1)) := by
 unfold CHere at h
 rw [h, List.drop_eq_getElem_cons hk]; rfl
theorem chere_next {name : ByteArray} {init : Bool} {pre l : List Ctr} {k : Nat} (h : CHere name init pre l k) (hk : k < l.length) (h1 : (oneV l[k] (pre ++ l.take k) init).1 = 0) : CHere name init pre l (k + 1) := by
 have := chere_at h hk
 rw [if_neg (by rw [h1]; simp)] at this
 unfold CHere
 rw [this, List.take_succ_eq_append_getElem hk, List.append_assoc]
theorem ports_size (l : List Ctr) : ∀ (zs : List Int) (k : Nat) (seen : List Int), k + zs.length ≤ 1000 → (portsFrom l k seen zs).2.size ≤ 40
 | [], _, _, _ => by show (0 : Nat) ≤ 40; omega
 | z :: zs, k, seen, h => by
  have ha : (atB t_ports k).size ≤ 40 := Nat.le_trans (atB_size t_ports k (by simp at h; omega)) (by decide)
  rw [portsFrom]
  split
  · exact ha
  · split
    · exact ha
    · exact ports_size l zs (k + 1) _ (by simp at h; omega)
theorem one_size (x : Ctr) (l : List Ctr) (init : Bool) (hp : x.ports.length ≤ 1000) : (oneV x l init).2.size ≤ 40 := by
 have hr : ∀ n, (t_req ++ t_res n).size ≤ 40 := fun n => by
  unfold t_res
  split
  · decide
  · split <;> decide
 have hl : ∀ n, (t_lim ++ t_res n).size ≤ 40 := fun n => by
  unfold t_res
  split
  · decide
  · split <;> decide
 unfold oneV
 split; · decide
 split; · decide
 split; · decide
 split; · exact hr _
 split; · exact hl _
 split; · decide
 split
 · exact ports_size l x.ports 0 [] (by omega)
 · unfold probeV
   split; · decide
   split <;> decide
set_option maxRecDepth 100000 in
set_option maxHeartbeats 8000000 in
theorem check_ref (S : Spc) (LA : Option Addr) (lc : Nat) (IA : Option Addr) (ic : Nat) (MA : Option Addr) (mc : Nat) (hL : Book.Light S) (w : World) (h : S.In w LA lc IA ic MA mc) :
 Calls Tryz.prog 105 #[.agg #[.string S.name, .slice LA S.labels.length lc, .slice IA S.init.length ic, .slice MA S.main.length mc, .int .i64 S.restart, .int .i64 S.grace, .int .i64 S.prio]] w
  fun e w' => e = .returned (.tuple #[.int .i64 (checkV S).1, .string (checkV S).2]) ∧ Below w.heap.size w w' := by
 have H := hid h
 have HL := hid hL
 have hn : S.name.size ≤ 100 := hL.1.1
 have hi' : (S.init.length : Int) ≤ 8 := by have := hL.1.2.2.1; omega
 have hm' : (S.main.length : Int) ≤ 8 := by have := hL.1.2.2.2; omega
 clear h hL
 go_enter Tryz.func105, Tryz.ntmps105
 go_wp2_with fail
 obtain ⟨w1, hw1⟩ : ∃ w1, w.alloc (.cells #[.string S.name, .slice LA S.labels.length lc, .slice IA S.init.length ic, .slice MA S.main.length mc, .int .i64 S.restart, .int .i64 S.grace, .int .i64 S.prio] 28) = w1 := ⟨_, rfl⟩
 have B1 := hid (show Below w.heap.size w w1 by rw [← hw1]; exact (Below.refl _ _).alloc (Nat.le_refl _) _)
 have SB := hid (show SBox S LA lc IA ic MA mc w1 w.heap.size by rw [← hw1]; exact heap_alloc_new w _)
 rw [hw1]
 obtain ⟨b, hb⟩ : ∃ b, w.heap.size = b := ⟨_, rfl⟩
 have HBB := hid hb
 rw [hb] at SB ⊢
 clear hw1 hb
 refine (Text.name_ref S.name (by unfold maxLen; omega) w1).mono ?_
 rintro e w2 ⟨rfl, rfl⟩
 cases hname : TextPure.nameL S.name.data.toList with
 | false =>
  have HD := hid (show checkV S = (30, t_name) by unfold checkV; rw [if_pos (show isName S.name = false from hname)]); clear hname; go_wp2
  go_ret2
  exact ⟨ret_two HD.out rfl rfl, HBB.out ▸ B1.out⟩
 | true =>
  have HNAME := hid (show isName S.name = true from hname); clear hname
  have c1 := SB.out.cells.c1
  go_wp2_with fail
  refine (labels_ref _ LA lc S.labels (by decide) (by have := HL.out.1.2.1; omega) HL.out.2.1 w1 (H.out.labels.below (HBB.out ▸ B1.out))).mono ?_
  rintro e w3 ⟨rfl, hb3⟩; have B3 := hid (B1.out.trans (hb3.mono B1.out.size)); have S3 := hid (SB.out.below hb3); have W3 := hid (show Below w1.heap.size w1 w3 from hb3); have I1 := hid (H.out.below B1.out); clear hb3 c1; obtain ⟨Y, hY⟩ : ∃ Y, labelsV t_labels S.labels = Y := ⟨_, rfl⟩; rw [show labelsV ⟨#[108, 97, 98, 101, 108, 115]⟩ S.labels = Y from hY]
  have HY := hid hY
  clear hY
  obtain ⟨cc, pp⟩ := Y
  by_cases hl0 : cc = 0
  rotate_left
  · have HD := hid (show checkV S = (cc, pp) by unfold checkV; rw [if_neg (show ¬ isName S.name = false by rw [HNAME.out]; simp), HY.out, if_pos (show cc ≠ 0 from hl0)])
    have hz : (cc == 0) = false := by simpa using hl0
    go_wp2
    go_ret2
    exact ⟨ret_two HD.out rfl rfl, HBB.out ▸ B3.out⟩
  · have HLAB := hid (show ¬ (labelsV t_labels S.labels).1 ≠ 0 by rw [HY.out]; exact fun h => h hl0)
    subst hl0
    have c2 := S3.out.cells.c2
    by_cases h3 : 3 < S.init.length
    · have HD := hid (show checkV S = (2, t_init) by unfold checkV; rw [if_neg (show ¬ isName S.name = false by rw [HNAME.out]; simp), if_neg HLAB.out, if_pos h3])
      have h3' : 3 < (S.init.length : Int) := by omega
      go_wp2
      go_ret2
      exact ⟨ret_two HD.out rfl rfl, HBB.out ▸ B3.out⟩
    · have HI3 := hid h3
      have h3' : ¬ 3 < (S.init.length : Int) := by omega
      go_wp2_with fail
      go_loopw [6, 7] (fun v i wr => ∃ k : Nat, k ≤ S.init.length ∧ i = .int .i64 k ∧ Hid (∃ L, Gathered 74 w1 wr v L ∧ L.map (·.x) = S.init.take k) ∧ Hid (CHere t_init true [] S.init k)) (fun _ i _ => S.init.length - (RowKit.intOf i).toNat)
      case atStart => exact ⟨0, Nat.zero_le _, rfl, ⟨[], Gathered.nil _ W3.out, rfl⟩, chere_zero _ _ _ _⟩
      case round =>
       obtain ⟨k, hk, rfl, HG, HC⟩ := hrel
       obtain ⟨L, hG, hLl⟩ := HG.out
       have HG' := hid hG
       have SBW := hid (SB.out.below hG.below)
       have d2 := SBW.out.cells.c2
       by_cases hlt : k < S.init.length
       · have hkn : (k : Int) < (S.init.length : Int) := by omega
         obtain ⟨A, cap, hv, hCt⟩ := hG.ctrs
         rw [hLl] at hv hCt
         obtain ⟨⟨x, P, c⟩, a, hx, hok, hIA, ha, hc⟩ := I1.out.init.held hlt
         have hc' := hc.keep (w' := wr) (by rw [add_block]; exact hG.below.block _ ha)
         simp only at hx hok hc'
         have HOK := hid hok
         have hlx := HL.out.2.2.1 x (hx ▸ List.getElem_mem hlt)
         have HX := hid hx
         obtain ⟨y0, y1, y2⟩ := hlx
         have HCt := hid hCt
         have hPn : Nums .i64 wr P x.ports := Nums.below hok.ports hG.below
         have hrun := one_ref x P c A cap (S.init.take k) true hok.fits y0 y1 y2 hok.room (by rw [List.length_take]; omega) wr hCt hPn
         have hsz := one_size x (S.init.take k) true (by omega)
         obtain ⟨l, hl⟩ : ∃ l, S.init.take k = l := ⟨_, rfl⟩
         rw [hl] at hrun hv hsz
         have HLL := hid hl
         have hll : L.length = l.length := by rw [← hl, ← hLl, List.length_map]
         have hl8 : l.length ≤ 8 := by rw [← hl, List.length_take]; omega
         have HLM := hid hLl
         have HCL := hid hc
         obtain ⟨f0, f1, f2, f3, f4, f5, f6, f7, f8, f9, f10, _⟩ := hc'
         subst hv; subst hIA; clear hG hLl hCt hPn hok hc hx hl HG; go_wp2_with fail
         refine hrun.mono ?_
         rintro e w5 ⟨rfl, hb5⟩; have G5 := hid (HG'.out.next hb5); obtain ⟨Y, hY⟩ : ∃ Y, oneV x l true = Y := ⟨_, rfl⟩
         rw [hY] at hsz ⊢
         have HY2 := hid hY
         obtain ⟨cc, qq⟩ := Y
         have hsz' : qq.size ≤ 40 := hsz
         clear hY hb5 hrun hsz f0 f1 f2 f3 f4 f5 f6 f7 f8 f9 f10 d2
         by_cases hz : cc = 0
         rotate_left
         · have hz' : (cc == 0) = false := by simpa using hz
           have HD := hid (show checkV S = (cc, atB t_init k ++ ⟨#[46]⟩ ++ qq) by
            have e : ctrsFrom t_init true 0 [] S.init = (cc, atB t_init k ++ ⟨#[46]⟩ ++ qq) := by
             rw [chere_at HC.out hlt, List.nil_append, ← HX.out, HLL.out, HY2.out, if_pos (show cc ≠ 0 from hz)]
            unfold checkV
            rw [if_neg (show ¬ isName S.name = false by rw [HNAME.out]; simp), if_neg HLAB.out, if_neg HI3.out, e, if_pos (show cc ≠ 0 from hz)])
           clear hz; go_wp2_with fail
           refine (at_any _ k (by decide) (by omega) w5).mono ?_
           rintro e w6 ⟨rfl, hb6⟩
           have asz := atB_size t_init k (by omega)
           obtain ⟨u, hu⟩ : ∃ u, atB t_init k = u := ⟨_, rfl⟩; rw [show atB ⟨#[105, 110, 105, 116]⟩ k = u from hu]
           rw [hu] at asz
           have HU := hid hu
           have asz' : u.size ≤ 27 := asz
           have hadd1 : ∀ v, (Op.stringOp .add u ⟨#[46]⟩).run Tryz.prog v = .ok (.string (u ++ ⟨#[46]⟩)) v := fun v => run_string_add_sum v _ _ (by show _ + 1 ≤ _; omega)
           have hadd2 : ∀ v, (Op.stringOp .add (u ++ ⟨#[46]⟩) qq).run Tryz.prog v = .ok (.string (u ++ ⟨#[46]⟩ ++ qq)) v := fun v => run_string_add_sum v _ _ (by rw [ByteArray.size_append]; show _ + 1 + _ ≤ _; omega)
           have BB := hid (B1.out.trans ((G5.out.below.trans (hb6.mono G5.out.below.size)).mono B1.out.size)); clear hb6 hu asz; go_wp2
           go_ret2
           exact ⟨ret_two HD.out rfl (by rw [HU.out]), HBB.out ▸ BB.out⟩
         · subst hz
           have HNX := hid (show CHere t_init true [] S.init (k + 1) from chere_next HC.out hlt (by rw [List.nil_append, ← HX.out, HLL.out, HY2.out]))
           have HMX := hid (show (L ++ [(⟨x, P, c⟩ : Held)]).map (·.x) = S.init.take (k + 1) by
            rw [List.map_append, HLM.out, List.take_succ_eq_append_getElem hlt, ← HX.out]; rfl)
           have SB5 := hid (SB.out.below G5.out.below)
           have d2 := SB5.out.cells.c2
           obtain ⟨f0, f1, f2, f3, f4, f5, f6, f7, f8, f9, f10, _⟩ := HCL.out.keep (w' := w5) (by rw [add_block]; exact G5.out.below.block _ ha)
           obtain ⟨i0, hi0, hz0, hz1, hz2⟩ := info_parts info_ctr
           have HOWN := hid (G5.out.own.alloc (.cells #[.string x.name, .string x.image, .int .i64 x.rc, .int .i64 x.rm, .int .i64 x.rp, .int .i64 x.lc, .int .i64 x.lm, .int .i64 x.lp, .slice P x.ports.length c, .int .i64 x.ev, .int .i64 x.fl] 74))
           go_wp2_with (at_builtin; refine wpList_append_own _ rfl _ _ 26 rfl w1.heap.size 74 i0 _ 11 120 Tryz.underlying26 hi0 hz0 hz1 hz2 rfl (by decide) _ L.length (flat L) rfl HOWN.out ⟨w5.heap.size, 0, none⟩ 1 1 (Held.cells ⟨x, P, c⟩) rfl rfl ?c1 ?c2 ?c3 ?c4 ?c5 ?_)
           case c1 => exact (World.ownsRow_lit (base := 0) (size := 11) (e := 74) w5 (Held.cells ⟨x, P, c⟩).toArray 1 (Nat.zero_le _) (by decide) rfl).cells rfl
           case c2 =>
            intro u hu
            simp only [Held.cells, Ctr.cells, List.mem_cons, List.not_mem_nil, or_false] at hu
            rcases hu with rfl | rfl | rfl | rfl | rfl | rfl | rfl | rfl | rfl | rfl | rfl <;> rfl
           case c3 => unfold maxLen; omega
           case c4 => omega
           case c5 => have := G5.out.below.size; simp; omega
           intro v' w7 hown' hgrow _
           rw [← hll] at hown'
           have G7 := hid ((G5.out.next ((Below.refl _ _).alloc (Nat.le_refl _) _)).push HOK.out hown' hgrow); clear hown' hgrow HOWN f0 f1 f2 f3 f4 f5 f6 f7 f8 f9 f10 d2; go_wp2
           go_roundw
           case rel => exact ⟨k + 1, by omega, by go_num, ⟨_, G7.out, HMX.out⟩, HNX.out⟩
           case measure => simp [RowKit.intOf]; omega
       · have hkn : ¬ (k : Int) < (S.init.length : Int) := by omega
         have HINIT := hid (chere_end HC.out (show S.init.length ≤ k by omega)); have HLI := hid (show L.map (·.x) = S.init by rw [hLl, List.take_of_length_le (by omega)])
         have d3 := SBW.out.cells.c3
         have B4 := hid (B1.out.trans (hG.below.mono B1.out.size)); clear hG hLl HG
         by_cases hm : S.main.length < 1 ∨ 4 < S.main.length
         · have HD := hid (show checkV S = (2, t_main) by
            unfold checkV
            rw [if_neg (show ¬ isName S.name = false by rw [HNAME.out]; simp), if_neg HLAB.out, if_neg HI3.out, HINIT.out, if_neg (show ¬ fine.1 ≠ 0 by decide), if_pos hm])
           by_cases hm1 : S.main.length < 1
           · have hm1' : (S.main.length : Int) < 1 := by omega
             clear hm; go_wp2
             go_ret2
             exact ⟨ret_two HD.out rfl rfl, HBB.out ▸ B4.out⟩
           · have hm2 : 4 < (S.main.length : Int) := by omega
             have hm1' : ¬ (S.main.length : Int) < 1 := by omega
             clear hm; go_wp2
             go_ret2
             exact ⟨ret_two HD.out rfl rfl, HBB.out ▸ B4.out⟩
         · have HM := hid hm
           have hm1' : ¬ (S.main.length : Int) < 1 := by omega
           have hm2' : ¬ 4 < (S.main.length : Int) := by omega
           clear hm; go_wp2_with fail
           go_loopw [6, 8] (fun v i wr => ∃ k : Nat, k ≤ S.main.length ∧ i = .int .i64 k ∧ Hid (∃ L, Gathered 74 w1 wr v L ∧ L.map (·.x) = S.init ++ S.main.take k) ∧ Hid (CHere t_main false S.init S.main k)) (fun _ i _ => S.main.length - (RowKit.intOf i).toNat)
           case atStart => exact ⟨0, Nat.zero_le _, rfl, ⟨L, HG'.out, by rw [HLI.out]; simp⟩, chere_zero _ _ _ _⟩
           case round =>
            clear d2 d3 hkn HC hlt HLI HG' SBW B4 hk
            obtain ⟨k, hk, rfl, HG, HC⟩ := hrel
            obtain ⟨L, hG, hLl⟩ := HG.out
            have HG' := hid hG
            have SBW := hid (SB.out.below hG.below)
            have d3 := SBW.out.cells.c3
            by_cases hlt : k < S.main.length
            · have hkn : (k : Int) < (S.main.length : Int) := by omega
              obtain ⟨A, cap, hv, hCt⟩ := hG.ctrs
              rw [hLl] at hv hCt
              obtain ⟨⟨x, P, c⟩, a, hx, hok, hMA, ha, hc⟩ := I1.out.main.held hlt
              have hc' := hc.keep (w' := wr) (by rw [add_block]; exact hG.below.block _ ha)
              simp only at hx hok hc'
              have HOK := hid hok
              have hlx := HL.out.2.2.2 x (hx ▸ List.getElem_mem hlt)
              have HX := hid hx
              obtain ⟨y0, y1, y2⟩ := hlx
              have HCt := hid hCt
              have hPn : Nums .i64 wr P x.ports := Nums.below hok.ports hG.below
              have hrun := one_ref x P c A cap (S.init ++ S.main.take k) false hok.fits y0 y1 y2 hok.room (by rw [List.length_append, List.length_take]; omega) wr hCt hPn
              have hsz := one_size x (S.init ++ S.main.take k) false (by omega)
              obtain ⟨l, hl⟩ : ∃ l, S.init ++ S.main.take k = l := ⟨_, rfl⟩
              rw [hl] at hrun hv hsz
              have HLL := hid hl
              have hll : L.length = l.length := by rw [← hl, ← hLl, List.length_map]
              have hl8 : l.length ≤ 18 := by rw [← hl, List.length_append, List.length_take]; omega
              have HLM := hid hLl
              have HCL := hid hc
              obtain ⟨f0, f1, f2, f3, f4, f5, f6, f7, f8, f9, f10, _⟩ := hc'
              subst hv; subst hMA; clear hG hLl hCt hPn hok hc hx hl HG; go_wp2_with fail
              refine hrun.mono ?_
              rintro e w5 ⟨rfl, hb5⟩; have G5 := hid (HG'.out.next hb5); obtain ⟨Y, hY⟩ : ∃ Y, oneV x l false = Y := ⟨_, rfl⟩
              rw [hY] at hsz ⊢
              have HY2 := hid hY
              obtain ⟨cc, qq⟩ := Y
              have hsz' : qq.size ≤ 40 := hsz
              clear hY hb5 hrun hsz f0 f1 f2 f3 f4 f5 f6 f7 f8 f9 f10 d3
              by_cases hz : cc = 0
              rotate_left
              · have hz' : (cc == 0) = false := by simpa using hz
                have HD := hid (show checkV S = (cc, atB t_main k ++ ⟨#[46]⟩ ++ qq) by
                 have e : ctrsFrom t_main false 0 S.init S.main = (cc, atB t_main k ++ ⟨#[46]⟩ ++ qq) := by
                  rw [chere_at HC.out hlt, ← HX.out, HLL.out, HY2.out, if_pos (show cc ≠ 0 from hz)]
                 unfold checkV
                 rw [if_neg (show ¬ isName S.name = false by rw [HNAME.out]; simp), if_neg HLAB.out, if_neg HI3.out, HINIT.out, if_neg (show ¬ fine.1 ≠ 0 by decide), if_neg HM.out, e, if_pos (show cc ≠ 0 from hz)])
                clear hz; go_wp2_with fail
                refine (at_any _ k (by decide) (by omega) w5).mono ?_
                rintro e w6 ⟨rfl, hb6⟩
                have asz := atB_size t_main k (by omega)
                obtain ⟨u, hu⟩ : ∃ u, atB t_main k = u := ⟨_, rfl⟩; rw [show atB ⟨#[109, 97, 105, 110]⟩ k = u from hu]
                rw [hu] at asz
                have HU := hid hu
                have asz' : u.size ≤ 27 := asz
                have hadd1 : ∀ v, (Op.stringOp .add u ⟨#[46]⟩).run Tryz.prog v = .ok (.string (u ++ ⟨#[46]⟩)) v := fun v => run_string_add_sum v _ _ (by show _ + 1 ≤ _; omega)
                have hadd2 : ∀ v, (Op.stringOp .add (u ++ ⟨#[46]⟩) qq).run Tryz.prog v = .ok (.string (u ++ ⟨#[46]⟩ ++ qq)) v := fun v => run_string_add_sum v _ _ (by rw [ByteArray.size_append]; show _ + 1 + _ ≤ _; omega)
                have BB := hid (B1.out.trans ((G5.out.below.trans (hb6.mono G5.out.below.size)).mono B1.out.size)); clear hb6 hu asz; go_wp2
                go_ret2
                exact ⟨ret_two HD.out rfl (by rw [HU.out]), HBB.out ▸ BB.out⟩
              · subst hz
                have HNX := hid (show CHere t_main false S.init S.main (k + 1) from chere_next HC.out hlt (by rw [← HX.out, HLL.out, HY2.out]))
                have HMX := hid (show (L ++ [(⟨x, P, c⟩ : Held)]).map (·.x) = S.init ++ S.main.take (k + 1) by
                 rw [List.map_append, HLM.out, List.take_succ_eq_append_getElem hlt, ← HX.out, List.append_assoc]; rfl)
                have SB5 := hid (SB.out.below G5.out.below)
                have d3 := SB5.out.cells.c3
                obtain ⟨f0, f1, f2, f3, f4, f5, f6, f7, f8, f9, f10, _⟩ := HCL.out.keep (w' := w5) (by rw [add_block]; exact G5.out.below.block _ ha)
                obtain ⟨i0, hi0, hz0, hz1, hz2⟩ := info_parts info_ctr
                have HOWN := hid (G5.out.own.alloc (.cells #[.string x.name, .string x.image, .int .i64 x.rc, .int .i64 x.rm, .int .i64 x.rp, .int .i64 x.lc, .int .i64 x.lm, .int .i64 x.lp, .slice P x.ports.length c, .int .i64 x.ev, .int .i64 x.fl] 74))
                go_wp2_with (at_builtin; refine wpList_append_own _ rfl _ _ 26 rfl w1.heap.size 74 i0 _ 11 120 Tryz.underlying26 hi0 hz0 hz1 hz2 rfl (by decide) _ L.length (flat L) rfl HOWN.out ⟨w5.heap.size, 0, none⟩ 1 1 (Held.cells ⟨x, P, c⟩) rfl rfl ?c1 ?c2 ?c3 ?c4 ?c5 ?_)
                case c1 => exact (World.ownsRow_lit (base := 0) (size := 11) (e := 74) w5 (Held.cells ⟨x, P, c⟩).toArray 1 (Nat.zero_le _) (by decide) rfl).cells rfl
                case c2 =>
                 intro u hu
                 simp only [Held.cells, Ctr.cells, List.mem_cons, List.not_mem_nil, or_false] at hu
                 rcases hu with rfl | rfl | rfl | rfl | rfl | rfl | rfl | rfl | rfl | rfl | rfl <;> rfl
                case c3 => unfold maxLen; omega
                case c4 => omega
                case c5 => have := G5.out.below.size; simp; omega
                intro v' w7 hown' hgrow _
                rw [← hll] at hown'
                have G7 := hid ((G5.out.next ((Below.refl _ _).alloc (Nat.le_refl _) _)).push HOK.out hown' hgrow); clear hown' hgrow HOWN f0 f1 f2 f3 f4 f5 f6 f7 f8 f9 f10 d3; go_wp2
                go_roundw
                case rel => exact ⟨k + 1, by omega, by go_num, ⟨_, G7.out, HMX.out⟩, HNX.out⟩
                case measure => simp [RowKit.intOf]; omega
            · have hkn : ¬ (k : Int) < (S.main.length : Int) := by omega
              have HT := hid (show checkV S = tailV S by
               unfold checkV
               rw [if_neg (show ¬ isName S.name = false by rw [HNAME.out]; simp), if_neg HLAB.out, if_neg HI3.out, HINIT.out, if_neg (show ¬ fine.1 ≠ 0 by decide), if_neg HM.out, chere_end HC.out (by omega), if_neg (show ¬ fine.1 ≠ 0 by decide)])
              have d4 := SBW.out.cells.c4
              have d5 := SBW.out.cells.c5
              have d6 := SBW.out.cells.c6
              have B7 := hid (B1.out.trans (hG.below.mono B1.out.size)); obtain ⟨r, hr⟩ : ∃ r, S.restart = r := ⟨_, rfl⟩; obtain ⟨g, hg⟩ : ∃ g, S.grace = g := ⟨_, rfl⟩; obtain ⟨q, hq⟩ : ∃ q, S.prio = q := ⟨_, rfl⟩
              rw [hr] at d4
              rw [hg] at d5
              rw [hq] at d6
              have HU := hid (show tailV S = if r < 1 ∨ 3 < r then (1, t_restart) else if g < 0 ∨ 1000 < g then (1, t_grace) else if q < 0 ∨ 10 < q then (1, t_prio) else fine by unfold tailV; rw [hr, hg, hq]); clear hr hg hq hG hLl HG
              by_cases h1 : r < 1
              · have HD := hid (show checkV S = (1, t_restart) by rw [HT.out, HU.out, if_pos (.inl h1)])
                go_wp2
                go_ret2
                exact ⟨ret_two HD.out rfl rfl, HBB.out ▸ B7.out⟩
              · by_cases h2 : 3 < r
                · have HD := hid (show checkV S = (1, t_restart) by rw [HT.out, HU.out, if_pos (.inr h2)])
                  go_wp2
                  go_ret2
                  exact ⟨ret_two HD.out rfl rfl, HBB.out ▸ B7.out⟩
                · by_cases h4 : g < 0
                  · have HD := hid (show checkV S = (1, t_grace) by rw [HT.out, HU.out, if_neg (by omega), if_pos (.inl h4)])
                    go_wp2
                    go_ret2
                    exact ⟨ret_two HD.out rfl rfl, HBB.out ▸ B7.out⟩
                  · by_cases h5 : 1000 < g
                    · have HD := hid (show checkV S = (1, t_grace) by rw [HT.out, HU.out, if_neg (by omega), if_pos (.inr h5)])
                      go_wp2
                      go_ret2
                      exact ⟨ret_two HD.out rfl rfl, HBB.out ▸ B7.out⟩
                    · by_cases h6 : q < 0
                      · have HD := hid (show checkV S = (1, t_prio) by rw [HT.out, HU.out, if_neg (by omega), if_neg (by omega), if_pos (.inl h6)])
                        go_wp2
                        go_ret2
                        exact ⟨ret_two HD.out rfl rfl, HBB.out ▸ B7.out⟩
                      · by_cases h7 : 10 < q
                        · have HD := hid (show checkV S = (1, t_prio) by rw [HT.out, HU.out, if_neg (by omega), if_neg (by omega), if_pos (.inr h7)])
                          go_wp2
                          go_ret2
                          exact ⟨ret_two HD.out rfl rfl, HBB.out ▸ B7.out⟩
                        · have HD := hid (show checkV S = fine by rw [HT.out, HU.out, if_neg (by omega), if_neg (by omega), if_neg (by omega)])
                          go_wp2
                          go_ret2
                          exact ⟨ret_two HD.out rfl rfl, HBB.out ▸ B7.out⟩
end SpecRef
end Go.Proofs.YtljbpelogjmciaaGreatDoor
