/-
 An event's line, and a message's (tell.eventLine, tell.Line). Conditions: numbers of 64 bits, the texts short; the listed variables hold what the program's text lays (Laid).
-/
import Derived.Test.YtalnncgomlibbaaGreatDoorTellLine
import Derived.Deep.MidRow
set_option linter.unusedVariables false
set_option linter.unusedSimpArgs false
namespace Go.Proofs.YtalnncgomlibbaaGreatDoor
open Go.ChangeShapes Go.WideShapes Go.ChangeAt Go.RowKit Go.Lib
open LebMath WirePure Sd Wire SpecOwn SpecRef Book Pk
namespace Tl
open SpecOwn
def evT : Nat → ByteArray
 | 1 => ⟨#[97, 100, 100]⟩
 | 2 => ⟨#[109, 111, 100]⟩
 | 3 => ⟨#[100, 101, 108]⟩
 | 4 => ⟨#[109, 97, 114, 107]⟩
 | 5 => ⟨#[111, 118, 101, 114]⟩
 | _ => ⟨#[45]⟩
def evName (k : Int) : ByteArray := if k < 0 ∨ 6 ≤ k then ⟨#[45]⟩ else evT k.toNat
structure EvLaid (w : World) : Prop where
 names : ∀ k, k < 6 → w.cell? ⟨0, k, none⟩ = some (.string (evT k))
theorem EvLaid.below {w w' : World} (h : EvLaid w) (hb : Below w.heap.size w w') : EvLaid w' :=
 ⟨fun k hk => by have := h.names k hk; rw [hb.cell (World.block_lt_of_cell? _ _ this)]; exact this⟩
structure Laid (w : World) : Prop where
 spec : SLaid w
 names : EvLaid w
theorem Laid.below {w w' : World} (h : Laid w) (hb : Below w.heap.size w w') : Laid w' := ⟨h.spec.below hb, h.names.below hb⟩
theorem evT_short : ∀ k, k < 6 → (evT k).size ≤ 10 := by decide
theorem evName_short (k : Int) : (evName k).size ≤ 10 := by
 unfold evName
 split
 · decide
 · exact evT_short _ (by omega)
theorem evname_any (k : Int) (w : World) (hv : EvLaid w) : Calls Tryz.prog 121 #[.int .i64 k] w fun e w' => e = .returned (.string (evName k)) ∧ Below w.heap.size w w' := by
 by_cases h0 : k < 0
 · have he : evName k = ⟨#[45]⟩ := by unfold evName; rw [if_pos (.inl h0)]
   have HE := Lib.hid he
   clear he
   go_enter Tryz.func121, Tryz.ntmps121
   go_wp2_with fail
   go_ret
   exact ⟨by rw [HE.out]; rfl, Below.refl _ _⟩
 by_cases h6 : 6 ≤ k
 · have he : evName k = ⟨#[45]⟩ := by unfold evName; rw [if_pos (.inr h6)]
   have HE := Lib.hid he
   clear he
   go_enter Tryz.func121, Tryz.ntmps121
   go_wp2_with fail
   go_ret
   exact ⟨by rw [HE.out]; rfl, Below.refl _ _⟩
 obtain ⟨j, rfl⟩ : ∃ j : Nat, k = j := ⟨k.toNat, by omega⟩
 have hj : j < 6 := by omega
 have he : evName (j : Int) = evT j := by unfold evName; rw [if_neg (by omega)]; rfl
 have HE := Lib.hid he
 have hc := hv.names j hj
 have h0' : ¬ ((j : Int) < 0) := h0
 have h6' : ¬ ((6 : Int) ≤ (j : Int)) := h6
 have hjI : (j : Int) < 6 := by omega
 clear he hv h0 h6
 go_enter Tryz.func121, Tryz.ntmps121
 go_wp2_with fail
 go_ret
 exact ⟨by rw [HE.out]; rfl, Below.refl _ _⟩
def evParts (n : Int) (u : Ev) : List ByteArray := [⟨#[101, 118, 101, 110, 116]⟩, ⟨(itoa n).toArray⟩, evName u.kind, ⟨(decDigits u.rev).toArray⟩] ++ (if hasB u.kind then [u.pod.spec.name] else [])
def lineE (n : Int) (u : Ev) : List UInt8 := Lib.join ((evParts n u).map (·.data.toList)) [32]
def lineM (m : Mg) : List UInt8 := if m.kind = 1 then lineR m.num m.reply else if m.kind = 2 then lineE m.num m.event else []
theorem lineE_len (n : Int) (u : Ev) (hn : -9223372036854775808 ≤ n ∧ n ≤ 9223372036854775807) (hr : u.rev < 18446744073709551616) (hname : u.pod.spec.name.size ≤ 1000) : (lineE n u).length ≤ 140737488355328 := by
 have h1 := itoa_short n hn
 have h2 := dec_short hr
 have h3 := evName_short u.kind
 have h4 : (⟨#[101, 118, 101, 110, 116]⟩ : ByteArray).size ≤ 1100 := by decide
 refine join_le _ ?_ ?_
 · intro x hx
   unfold evParts at hx
   cases hbk : hasB u.kind
   · rw [hbk] at hx
     simp only [List.mem_append, List.mem_cons, List.not_mem_nil, or_false, Bool.false_eq_true, if_false] at hx
     rcases hx with rfl | rfl | rfl | rfl <;> omega
   · rw [hbk] at hx
     simp only [List.mem_append, List.mem_cons, List.not_mem_nil, or_false, if_true] at hx
     rcases hx with (rfl | rfl | rfl | rfl) | rfl <;> omega
 · unfold evParts
   cases hasB u.kind <;> simp
def FE (n : Int) (u : Ev) (y B : Nat) : Nat → Value → World → Prop
 | 0 => fun v _ => v = .int .i64 n
 | 1 => fun v _ => v = .string ⟨(itoa n).toArray⟩
 | 2 => fun v _ => v = .pointer (some ⟨y, 0, none⟩)
 | 3 => fun v _ => v = .int .i64 u.kind
 | 4 => fun v _ => v = .string (evName u.kind)
 | 5 => fun v _ => v = .pointer (some ⟨y, 1, none⟩)
 | 6 => fun v _ => v = .int .u64 (u.rev : Nat)
 | 7 => fun v _ => v = .string ⟨(decDigits u.rev).toArray⟩
 | 8 => fun v w => ∃ g, v = .slice (some ⟨g, 0, none⟩) 4 4 ∧ B ≤ g ∧ w.heap[g]? = some (.cells #[.string ⟨#[101, 118, 101, 110, 116]⟩, .string ⟨(itoa n).toArray⟩, .string (evName u.kind), .string ⟨(decDigits u.rev).toArray⟩] 9 (0, 0))
 | _ => fun v w => ∃ g, v = .slice (some ⟨g, 0, none⟩) 4 4 ∧ B ≤ g ∧ w.heap[g]? = some (.cells #[.string ⟨#[101, 118, 101, 110, 116]⟩, .string ⟨(itoa n).toArray⟩, .string (evName u.kind), .string ⟨(decDigits u.rev).toArray⟩] 9 (0, 0))
theorem FE_keep (n : Int) (u : Ev) (y B : Nat) (i : Nat) (v : Value) (w w' : World) (h : FE n u y B i v w) (hb : Below w.heap.size w w') : FE n u y B i v w' := by
 unfold FE at h ⊢
 split at h <;> first | exact h | (obtain ⟨g, h1, h2, h3⟩ := h; exact ⟨g, h1, h2, (hb.block g (lt_of_block h3)).trans h3⟩)
set_option maxRecDepth 100000 in
set_option maxHeartbeats 4000000 in
theorem event_line (n : Int) (hn : -9223372036854775808 ≤ n ∧ n ≤ 9223372036854775807) (u : Ev) (hrev : u.rev < 18446744073709551616) (hname : u.pod.spec.name.size ≤ 1000) (LA : Option Addr) (lc : Nat) (IA : Option Addr) (ic : Nat) (MA : Option Addr) (mc : Nat) (RA : Option Addr) (rc : Nat) (w : World) (hL : Laid w) :
 Calls Tryz.prog 66 #[.int .i64 n, .agg #[.int .i64 u.kind, .int .u64 u.rev, .int .i64 u.pod.uid, .int .u64 u.pod.rev, .string u.pod.spec.name, .slice LA u.pod.spec.labels.length lc, .slice IA u.pod.spec.init.length ic, .slice MA u.pod.spec.main.length mc, .int .i64 u.pod.spec.restart, .int .i64 u.pod.spec.grace, .int .i64 u.pod.spec.prio, .int .i64 u.pod.phase, .slice RA u.pod.rs.length rc, .int .i64 u.pod.mark, .int .i64 u.pod.grace]] w fun e w' => e = .returned (.string ⟨(lineE n u).toArray⟩) ∧ Below w.heap.size w w' := by
 obtain ⟨y, hy⟩ : ∃ y, w.heap.size = y := ⟨_, rfl⟩
 obtain ⟨w2, hw2⟩ : ∃ v, w.alloc (.cells #[.int .i64 u.kind, .int .u64 u.rev, .int .i64 u.pod.uid, .int .u64 u.pod.rev, .string u.pod.spec.name, .slice LA u.pod.spec.labels.length lc, .slice IA u.pod.spec.init.length ic, .slice MA u.pod.spec.main.length mc, .int .i64 u.pod.spec.restart, .int .i64 u.pod.spec.grace, .int .i64 u.pod.spec.prio, .int .i64 u.pod.phase, .slice RA u.pod.rs.length rc, .int .i64 u.pod.mark, .int .i64 u.pod.grace] 48) = v := ⟨_, rfl⟩
 have HY := Lib.hid (show w2.heap[y]? = some (.cells #[.int .i64 u.kind, .int .u64 u.rev, .int .i64 u.pod.uid, .int .u64 u.pod.rev, .string u.pod.spec.name, .slice LA u.pod.spec.labels.length lc, .slice IA u.pod.spec.init.length ic, .slice MA u.pod.spec.main.length mc, .int .i64 u.pod.spec.restart, .int .i64 u.pod.spec.grace, .int .i64 u.pod.spec.prio, .int .i64 u.pod.phase, .slice RA u.pod.rs.length rc, .int .i64 u.pod.mark, .int .i64 u.pod.grace] 48 (0, 0)) by rw [← hw2, ← hy]; exact heap_alloc_new w _)
 have B2 := Lib.hid (show Below w.heap.size w w2 by rw [← hw2]; exact (Below.refl _ _).alloc (Nat.le_refl _) _)
 have HT := Lib.hid (hL.spec.tab.below B2.out)
 have HV := Lib.hid (show EvLaid w2 from hL.names.below B2.out)
 have HN := Lib.hid hn
 have HREV := Lib.hid hrev
 have HNM := Lib.hid hname
 have HYL := Lib.hid (show y < w2.heap.size from lt_of_block HY.out)
 have HYE := Lib.hid hy
 have HWE := Lib.hid hw2
 clear hL hn hrev hname hy hw2
 go_enter Tryz.func66, Tryz.ntmps66
 go_wp2_with fail
 rw [HYE.out, HWE.out]
 obtain ⟨B, hB⟩ : ∃ b, w2.heap.size = b := ⟨_, rfl⟩
 have HBB := Lib.hid (show B ≤ w2.heap.size by rw [hB]; exact Nat.le_refl _)
 have HYB := Lib.hid (show y < B by rw [← hB]; exact HYL.out)
 have HWB := Lib.hid (show w.heap.size ≤ B by rw [← hB]; exact B2.out.size)
 clear hB
 refine Loose.wp_region_walk (by kernel_rfl) (by kernel_rfl) (FE n u y B) (FE_keep n u y B) ?_ ?_
 · refine ⟨?_, ?_, ?_, ?_, ?_, ?_, ?_, ?_, ?_, ?_, trivial⟩
   · intro a w1 hfr hdep
     have f0 : a.tmps.getD 0 undef = .int .i64 n := hfr.slot 0 (by kernel_rfl)
     refine Loose.Step.value rfl (v := .int .i64 n) (w' := w1) ?_ rfl (Below.refl _ _)
     simp [go_sem, Act.eval, f0]
   · intro a w1 hfr hdep
     have e0 : a.tmps.getD 6 undef = .int .i64 n := Loose.dep_of hdep 0 6 (by kernel_rfl)
     refine Loose.Step.call rfl (f := 118) (args := #[.int .i64 n]) ?_ ?_
     · simp [go_sem, Act.eval, e0]
     · refine (NumText.numtext_any n w1 HN.out.1 HN.out.2 (HT.out.below hfr.below)).mono ?_
       rintro e w2 ⟨rfl, hb⟩
       exact ⟨_, rfl, rfl, hb⟩
   · intro a w1 hfr hdep
     have f0 : a.tmps.getD 3 undef = .pointer (some ⟨y, 0, none⟩) := hfr.slot 3 (by kernel_rfl)
     refine Loose.Step.value rfl (v := .pointer (some ⟨y, 0, none⟩)) (w' := w1) ?_ rfl (Below.refl _ _)
     simp [go_sem, Act.eval, f0]
   · intro a w1 hfr hdep
     have hc_ := box_cell ((hfr.below.block y HYL.out).trans HY.out) 0 rfl
     have e0 : a.tmps.getD 8 undef = .pointer (some ⟨y, 0, none⟩) := Loose.dep_of hdep 2 8 (by kernel_rfl)
     refine Loose.Step.value rfl (v := .int .i64 u.kind) (w' := w1) ?_ rfl (Below.refl _ _)
     simp [go_sem, Act.eval, e0, hc_]
   · intro a w1 hfr hdep
     have e0 : a.tmps.getD 9 undef = .int .i64 u.kind := Loose.dep_of hdep 3 9 (by kernel_rfl)
     refine Loose.Step.call rfl (f := 121) (args := #[.int .i64 u.kind]) ?_ ?_
     · simp [go_sem, Act.eval, e0]
     · refine (evname_any u.kind w1 (HV.out.below hfr.below)).mono ?_
       rintro e w2 ⟨rfl, hb⟩
       exact ⟨_, rfl, rfl, hb⟩
   · intro a w1 hfr hdep
     have f0 : a.tmps.getD 3 undef = .pointer (some ⟨y, 0, none⟩) := hfr.slot 3 (by kernel_rfl)
     refine Loose.Step.value rfl (v := .pointer (some ⟨y, 1, none⟩)) (w' := w1) ?_ rfl (Below.refl _ _)
     simp [go_sem, Act.eval, f0]
   · intro a w1 hfr hdep
     have hc_ := box_cell ((hfr.below.block y HYL.out).trans HY.out) 1 rfl
     have e0 : a.tmps.getD 11 undef = .pointer (some ⟨y, 1, none⟩) := Loose.dep_of hdep 5 11 (by kernel_rfl)
     refine Loose.Step.value rfl (v := .int .u64 (u.rev : Nat)) (w' := w1) ?_ rfl (Below.refl _ _)
     simp [go_sem, Act.eval, e0, hc_]
   · intro a w1 hfr hdep
     have e0 : a.tmps.getD 12 undef = .int .u64 (u.rev : Nat) := Loose.dep_of hdep 6 12 (by kernel_rfl)
     refine Loose.Step.call rfl (f := 120) (args := #[.int .u64 (u.rev : Nat)]) ?_ ?_
     · simp [go_sem, Act.eval, e0]
     · refine (bigtext_any u.rev HREV.out w1 (HT.out.below hfr.below)).mono ?_
       rintro e w2 ⟨rfl, hb⟩
       exact ⟨_, rfl, rfl, hb⟩
   · intro a w1 hfr hdep
     have e0 : a.tmps.getD 7 undef = .string ⟨(itoa n).toArray⟩ := Loose.dep_of hdep 1 7 (by kernel_rfl)
     have e1 : a.tmps.getD 10 undef = .string (evName u.kind) := Loose.dep_of hdep 4 10 (by kernel_rfl)
     have e2 : a.tmps.getD 13 undef = .string ⟨(decDigits u.rev).toArray⟩ := Loose.dep_of hdep 7 13 (by kernel_rfl)
     refine Loose.Step.value rfl (v := .slice (some ⟨w1.heap.size, 0, none⟩) 4 4) (w' := (w1.alloc (.cells #[.string ⟨#[101, 118, 101, 110, 116]⟩, .string ⟨(itoa n).toArray⟩, .string (evName u.kind), .string ⟨(decDigits u.rev).toArray⟩] 9))) ?_ ⟨_, rfl, Nat.le_trans HBB.out hfr.below.size, heap_alloc_new w1 _⟩ ((Below.refl _ _).alloc (Nat.le_refl _) _)
     rw [Array.getD_eq_getD_getElem?] at e0 e1 e2; simp [go_sem, Act.eval, e0, e1, e2]
   · intro a w1 hfr hdep
     obtain ⟨g, e0, hgB, hgc⟩ := (Loose.dep_of hdep 8 14 (by kernel_rfl) : (fun v w => ∃ g, v = .slice (some ⟨g, 0, none⟩) 4 4 ∧ B ≤ g ∧ w.heap[g]? = some (.cells #[.string ⟨#[101, 118, 101, 110, 116]⟩, .string ⟨(itoa n).toArray⟩, .string (evName u.kind), .string ⟨(decDigits u.rev).toArray⟩] 9 (0, 0))) (a.tmps.getD 14 undef) w1)
     refine Loose.Step.value rfl (v := .slice (some ⟨g, 0, none⟩) 4 4) (w' := w1) ?_ ⟨g, rfl, hgB, hgc⟩ (Below.refl _ _)
     simp [go_sem, Act.eval, e0]
 intro u6 u7 u8 u9 u10 u11 u12 u13 u14 u5 w6 hb6 hC
 have h5 : (fun v w => ∃ g, v = .slice (some ⟨g, 0, none⟩) 4 4 ∧ B ≤ g ∧ w.heap[g]? = some (.cells #[.string ⟨#[101, 118, 101, 110, 116]⟩, .string ⟨(itoa n).toArray⟩, .string (evName u.kind), .string ⟨(decDigits u.rev).toArray⟩] 9 (0, 0))) u5 w6 := hC.2
 clear hC
 simp only [put_lit, List.set_cons_succ, List.set_cons_zero]
 obtain ⟨g, e5, hgB, hgc⟩ := h5
 subst e5
 have B6 := Lib.hid (B2.out.trans (hb6.mono B2.out.size))
 have HY6 := Lib.hid ((hb6.block y HYL.out).trans HY.out)
 have HO6 := Lib.hid (show w6.ownsRow B 9 1 (.slice (some ⟨g, 0, none⟩) 4 4) 4 ([⟨#[101, 118, 101, 110, 116]⟩, ⟨(itoa n).toArray⟩, evName u.kind, ⟨(decDigits u.rev).toArray⟩].map Value.string) from ⟨rfl, .inr ⟨g, 4, _, rfl, hgB, hgc, Nat.le_refl _, by unfold maxLen; omega, rfl, rfl⟩⟩)
 have HBS6 := Lib.hid (Nat.le_trans HBB.out hb6.size)
 have HGL := Lib.hid (lt_of_block hgc)
 clear hb6 hgc
 obtain ⟨b, hb⟩ : ∃ b, hasB u.kind = b := ⟨_, rfl⟩
 have HBV := Lib.hid hb
 have HRUN := Lib.hid (hasB_any u.kind w6)
 rw [hb] at HRUN
 clear hb
 have hc_ := box_cell HY6.out 0 rfl
 go_wp2_with fail
 refine HRUN.out.mono ?_
 rintro e_ wy_ ⟨rfl, rfl⟩
 clear hc_ HRUN
 have HLEN := Lib.hid (lineE_len n u HN.out HREV.out HNM.out)
 cases b with
 | false =>
  have HJ := Lib.hid (show Lib.join ([⟨#[101, 118, 101, 110, 116]⟩, ⟨(itoa n).toArray⟩, evName u.kind, ⟨(decDigits u.rev).toArray⟩].map (·.data.toList)) [32] = lineE n u by unfold lineE evParts; rw [HBV.out]; rfl)
  go_wp2_with fail
  refine (join_sp [⟨#[101, 118, 101, 110, 116]⟩, ⟨(itoa n).toArray⟩, evName u.kind, ⟨(decDigits u.rev).toArray⟩] HO6.out (by show 4 ≤ 1000000; decide) (by rw [HJ.out]; exact HLEN.out)).mono ?_
  rintro e wz ⟨rfl, hbz⟩
  rw [HJ.out]
  go_wp2_with fail
  go_ret
  exact ⟨rfl, B6.out.trans (hbz.mono B6.out.size)⟩
 | true =>
  obtain ⟨xs, hxs⟩ : ∃ xs, [(⟨#[101, 118, 101, 110, 116]⟩ : ByteArray), ⟨(itoa n).toArray⟩, evName u.kind, ⟨(decDigits u.rev).toArray⟩] = xs := ⟨_, rfl⟩
  have HXL := Lib.hid (show xs.length = 4 by rw [← hxs]; rfl)
  have HO := Lib.hid (show w6.ownsRow B 9 1 (.slice (some ⟨g, 0, none⟩) 4 4) 4 (xs.map Value.string) by rw [← hxs]; exact HO6.out)
  have HJ := Lib.hid (show Lib.join ((xs ++ [u.pod.spec.name]).map (·.data.toList)) [32] = lineE n u by unfold lineE evParts; rw [HBV.out, ← hxs]; rfl)
  clear hxs
  have hc_ := box_cell HY6.out 4 rfl
  obtain ⟨i0, hi, hz0, hz1, hz2⟩ := info_parts (show (Tryz.prog.info? 9).map (fun i => (i.zero, i.size, i.bytes)) = some (some (.string ⟨#[]⟩), 1, 16) by kernel_rfl)
  have hBs := HBS6.out
  go_wp2_with (at_builtin; refine AppendAny.wpList_append_want rfl _ _ 116 rfl B 9 i0 (.string ⟨#[]⟩) 1 16 Tryz.underlying116 hi hz0 hz1 hz2 rfl (by decide) (.slice (some ⟨g, 0, none⟩) 4 4) 4 (xs.map Value.string) rfl (HO.out.alloc (.cells #[.string u.pod.spec.name] 9)) (some ⟨w6.heap.size, 0, none⟩) 1 1 [.string u.pod.spec.name] rfl rfl ?c1 ?c2 ?c3 ?c4 ?c5 ?_)
  case c1 => exact .inr ⟨_, rfl, (World.ownsRow_lit (base := 0) (size := 1) (e := 9) w6 ([.string u.pod.spec.name] : List Value).toArray 1 (Nat.zero_le _) (by decide) rfl).cells rfl⟩
  case c2 => intro x hu; simp only [List.mem_cons, List.not_mem_nil, or_false] at hu; rcases hu with rfl; rfl
  case c3 => unfold maxLen; omega
  case c4 => omega
  case c5 => simp; omega
  intro v' w8 hown1 hgrow
  have HO8 := Lib.hid (show w8.ownsRow B 9 1 v' (xs ++ [u.pod.spec.name]).length ((xs ++ [u.pod.spec.name]).map Value.string) by rw [List.length_append, HXL.out, List.map_append]; exact hown1)
  have HB8 := Lib.hid (show Below B w6 w8 from (((Below.refl B w6).alloc HBS6.out _)).grown hgrow (by simp; omega) (fun k hk => by
   have hk2 : g = k := Option.some.inj hk
   omega))
  clear hown1 hgrow hc_
  go_wp2_with fail
  refine (join_sp (xs ++ [u.pod.spec.name]) HO8.out (by rw [List.length_append, HXL.out]; show 5 ≤ 1000000; decide) (by rw [HJ.out]; exact HLEN.out)).mono ?_
  rintro e wz ⟨rfl, hbz⟩
  rw [HJ.out]
  go_wp2_with fail
  go_ret
  exact ⟨rfl, (B6.out.trans (HB8.out.mono HWB.out)).trans (hbz.mono (Nat.le_trans B6.out.size HB8.out.size))⟩

structure FitM (m : Mg) : Prop where
 num : -9223372036854775808 ≤ m.num ∧ m.num ≤ 9223372036854775807
 reply : FitR m.reply
 rev : m.event.rev < 18446744073709551616
 name : m.event.pod.spec.name.size ≤ 1000
set_option maxRecDepth 100000 in
set_option maxHeartbeats 4000000 in
theorem line_any (m : Mg) (hf : FitM m) (PA : Option Addr) (pc : Nat) (UA : Option Addr) (uc : Nat) (LA : Option Addr) (lc : Nat) (IA : Option Addr) (ic : Nat) (MA : Option Addr) (mc : Nat) (RA : Option Addr) (rc : Nat) (w : World) (hL : Laid w) :
 Calls Tryz.prog 27 #[.agg #[.int .i64 m.kind, .int .i64 m.num, .int .i64 m.reply.code, .int .i64 m.reply.uid, .int .i64 m.reply.id, .int .u64 m.reply.rev, .string m.reply.data, .slice PA m.reply.pods.length pc, .slice UA m.reply.use.length uc, .int .i64 m.event.kind, .int .u64 m.event.rev, .int .i64 m.event.pod.uid, .int .u64 m.event.pod.rev, .string m.event.pod.spec.name, .slice LA m.event.pod.spec.labels.length lc, .slice IA m.event.pod.spec.init.length ic, .slice MA m.event.pod.spec.main.length mc, .int .i64 m.event.pod.spec.restart, .int .i64 m.event.pod.spec.grace, .int .i64 m.event.pod.spec.prio, .int .i64 m.event.pod.phase, .slice RA m.event.pod.rs.length rc, .int .i64 m.event.pod.mark, .int .i64 m.event.pod.grace]] w fun e w' => e = .returned (.string ⟨(lineM m).toArray⟩) ∧ Below w.heap.size w w' := by
 obtain ⟨y, hy⟩ : ∃ y, w.heap.size = y := ⟨_, rfl⟩
 obtain ⟨w2, hw2⟩ : ∃ v, w.alloc (.cells #[.int .i64 m.kind, .int .i64 m.num, .int .i64 m.reply.code, .int .i64 m.reply.uid, .int .i64 m.reply.id, .int .u64 m.reply.rev, .string m.reply.data, .slice PA m.reply.pods.length pc, .slice UA m.reply.use.length uc, .int .i64 m.event.kind, .int .u64 m.event.rev, .int .i64 m.event.pod.uid, .int .u64 m.event.pod.rev, .string m.event.pod.spec.name, .slice LA m.event.pod.spec.labels.length lc, .slice IA m.event.pod.spec.init.length ic, .slice MA m.event.pod.spec.main.length mc, .int .i64 m.event.pod.spec.restart, .int .i64 m.event.pod.spec.grace, .int .i64 m.event.pod.spec.prio, .int .i64 m.event.pod.phase, .slice RA m.event.pod.rs.length rc, .int .i64 m.event.pod.mark, .int .i64 m.event.pod.grace] 50) = v := ⟨_, rfl⟩
 have HY := Lib.hid (show w2.heap[y]? = some (.cells #[.int .i64 m.kind, .int .i64 m.num, .int .i64 m.reply.code, .int .i64 m.reply.uid, .int .i64 m.reply.id, .int .u64 m.reply.rev, .string m.reply.data, .slice PA m.reply.pods.length pc, .slice UA m.reply.use.length uc, .int .i64 m.event.kind, .int .u64 m.event.rev, .int .i64 m.event.pod.uid, .int .u64 m.event.pod.rev, .string m.event.pod.spec.name, .slice LA m.event.pod.spec.labels.length lc, .slice IA m.event.pod.spec.init.length ic, .slice MA m.event.pod.spec.main.length mc, .int .i64 m.event.pod.spec.restart, .int .i64 m.event.pod.spec.grace, .int .i64 m.event.pod.spec.prio, .int .i64 m.event.pod.phase, .slice RA m.event.pod.rs.length rc, .int .i64 m.event.pod.mark, .int .i64 m.event.pod.grace] 50 (0, 0)) by rw [← hw2, ← hy]; exact heap_alloc_new w _)
 have B2 := Lib.hid (show Below w.heap.size w w2 by rw [← hw2]; exact (Below.refl _ _).alloc (Nat.le_refl _) _)
 have HL := Lib.hid (hL.below B2.out)
 have HF := Lib.hid hf
 have HYE := Lib.hid hy
 have HWE := Lib.hid hw2
 clear hL hf hy hw2
 by_cases h1 : m.kind = 1
 · have hk : (m.kind == 1) = true := by simpa using h1
   have HE := Lib.hid (show lineM m = lineR m.num m.reply by unfold lineM; rw [if_pos h1])
   clear h1
   have HRUN := Lib.hid (reply_line m.num HF.out.num m.reply HF.out.reply PA pc UA uc w2 HL.out.spec.tab)
   go_enter Tryz.func27, Tryz.ntmps27
   have c0 := box_cell HY.out 0 rfl
   have c1 := box_cell HY.out 1 rfl
   have RG := Lib.hid (range_at HY.out 2 [.int .i64 m.reply.code, .int .i64 m.reply.uid, .int .i64 m.reply.id, .int .u64 m.reply.rev, .string m.reply.data, .slice PA m.reply.pods.length pc, .slice UA m.reply.use.length uc] rfl)
   go_wp2_with (refine wpList_load_mid rfl _ _ rfl _ _ rfl _ _ RG.out Tryz.underlying46 rfl (by kernel_rfl) ?_)
   rw [HWE.out]
   refine HRUN.out.mono ?_
   rintro e w3 ⟨rfl, hb3⟩
   go_wp2_with fail
   go_ret
   exact ⟨by rw [HE.out]; rfl, B2.out.trans (hb3.mono B2.out.size)⟩
 have hk : (m.kind == 1) = false := beq_eq_false_iff_ne.2 h1
 by_cases h2 : m.kind = 2
 · have hk2 : (m.kind == 2) = true := by simpa using h2
   have HE := Lib.hid (show lineM m = lineE m.num m.event by unfold lineM; rw [if_neg h1, if_pos h2])
   clear h1 h2
   have HRUN := Lib.hid (event_line m.num HF.out.num m.event HF.out.rev HF.out.name LA lc IA ic MA mc RA rc w2 HL.out)
   go_enter Tryz.func27, Tryz.ntmps27
   have c0 := box_cell HY.out 0 rfl
   have c1 := box_cell HY.out 1 rfl
   have RG := Lib.hid (range_at HY.out 9 [.int .i64 m.event.kind, .int .u64 m.event.rev, .int .i64 m.event.pod.uid, .int .u64 m.event.pod.rev, .string m.event.pod.spec.name, .slice LA m.event.pod.spec.labels.length lc, .slice IA m.event.pod.spec.init.length ic, .slice MA m.event.pod.spec.main.length mc, .int .i64 m.event.pod.spec.restart, .int .i64 m.event.pod.spec.grace, .int .i64 m.event.pod.spec.prio, .int .i64 m.event.pod.phase, .slice RA m.event.pod.rs.length rc, .int .i64 m.event.pod.mark, .int .i64 m.event.pod.grace] rfl)
   go_wp2_with (refine wpList_load_mid rfl _ _ rfl _ _ rfl _ _ RG.out Tryz.underlying48 rfl (by kernel_rfl) ?_)
   rw [HWE.out]
   refine HRUN.out.mono ?_
   rintro e w3 ⟨rfl, hb3⟩
   go_wp2_with fail
   go_ret
   exact ⟨by rw [HE.out]; rfl, B2.out.trans (hb3.mono B2.out.size)⟩
 have hk2 : (m.kind == 2) = false := beq_eq_false_iff_ne.2 h2
 have HE := Lib.hid (show lineM m = [] by unfold lineM; rw [if_neg h1, if_neg h2])
 clear h1 h2
 go_enter Tryz.func27, Tryz.ntmps27
 have c0 := box_cell HY.out 0 rfl
 go_wp2_with fail
 go_ret
 exact ⟨by rw [HE.out]; rfl, by rw [HWE.out]; exact B2.out⟩

end Tl
end Go.Proofs.YtalnncgomlibbaaGreatDoor
