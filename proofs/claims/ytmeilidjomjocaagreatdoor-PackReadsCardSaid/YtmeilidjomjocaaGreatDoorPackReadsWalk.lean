/-
  The walk of the law PackReads: it returns true, and leaves all that was there as it was. Condition: as SpecStep.
-/
import Derived.Test.YtmeilidjomjocaaGreatDoorPackAll
import Derived.Test.YtmeilidjomjocaaGreatDoorPackRefSpec
set_option linter.unusedVariables false
set_option linter.unusedSimpArgs false
namespace Go.Proofs.YtmeilidjomjocaaGreatDoor.PackReadsWalk
open Go.ChangeShapes Go.WideShapes Go.ChangeAt Go.RowKit Go.Lib
open LebMath WirePure Sd Wire SpecOwn SpecRef Book Pk

def Z0 : Spc := ⟨⟨#[]⟩, [], [], [], 0, 0, 0⟩
theorem z0_in (w : World) : Z0.In w none 0 none 0 none 0 :=
  ⟨fun k x hk => by simp [Z0] at hk, fun k x hk => by simp [Z0] at hk, fun k x hk => by simp [Z0] at hk, by simp [Z0], by simp [Z0], by simp [Z0], by unfold I64 Z0; decide, by unfold I64 Z0; decide, by unfold I64 Z0; decide⟩
theorem of_ref2 (S : ByteArray) (hS : S.size ≤ 70368744177664) (Y : Spc) (c1 : Int) (l1 : List UInt8) (hq : specC.rd 0 S.data.toList = (Y, c1, l1)) (w : World) :
    Calls Tryz.prog 18 #[.string S] w fun e w' => (((firstV [newV (endE c1 l1) t_wire, checkV Y]).1 = 0 ∧ ∃ LA lc IA ic MA mc, e = .returned (.tuple #[.agg #[.string Y.name, .slice LA Y.labels.length lc, .slice IA Y.init.length ic, .slice MA Y.main.length mc, .int .i64 Y.restart, .int .i64 Y.grace, .int .i64 Y.prio], .int .i64 0, .string ⟨#[]⟩]) ∧ SpcUp w.heap.size Y w' LA IA MA) ∨ ((firstV [newV (endE c1 l1) t_wire, checkV Y]).1 ≠ 0 ∧ e = .returned (.tuple #[.agg #[.string ⟨#[]⟩, .slice none 0 0, .slice none 0 0, .slice none 0 0, .int .i64 0, .int .i64 0, .int .i64 0], .int .i64 (firstV [newV (endE c1 l1) t_wire, checkV Y]).1, .string (firstV [newV (endE c1 l1) t_wire, checkV Y]).2]))) ∧ Below w.heap.size w w' := by
  refine (of_ref S hS Y c1 l1 hq w).mono ?_
  rintro e w' ⟨h, hb⟩
  refine ⟨?_, hb⟩
  rcases h with ⟨h1, rfl⟩ | ⟨h1, h2, rfl⟩ | ⟨h1, h2, LA, lc, IA, ic, MA, mc, rfl, hup⟩
  · have e1 : firstV [newV (endE c1 l1) t_wire, checkV Y] = (endE c1 l1, t_wire) := by simp [firstV, newV, h1]
    rw [e1]
    exact .inr ⟨h1, rfl⟩
  · have e1 : firstV [newV (endE c1 l1) t_wire, checkV Y] = checkV Y := by simp [firstV, newV, h1, fine, h2]
    rw [e1]
    exact .inr ⟨h2, rfl⟩
  · have e1 : firstV [newV (endE c1 l1) t_wire, checkV Y] = fine := by simp [firstV, newV, h1, fine, h2]
    rw [e1]
    exact .inl ⟨rfl, LA, lc, IA, ic, MA, mc, rfl, hup⟩
theorem unwanted_of {ops : Array Oper} {o : Oper} {a : Act} {j d : Nat} {b : Bool} (hg : o.guard = some (j, !b)) (hj : (ops[j]?).bind (·.dst) = some d) (hv : a.tmps.getD d undef = .bool b) : Region.wanted o (yielded ops a.tmps) = false := by
  have hs : a.tmps[d]? = some (.bool b) := by
    rw [Array.getD_eq_getD_getElem?] at hv
    cases h : a.tmps[d]? with
    | none => rw [h] at hv; simp [undef] at hv
    | some x => rw [h] at hv; simp at hv; rw [hv]
  unfold Region.wanted
  rw [hg]
  simp [yielded, hj, hs]
theorem unwanted_no {ops : Array Oper} {o : Oper} {a : Act} {j d : Nat} {b : Bool} (hg : o.guard = some (j, b)) (hj : (ops[j]?).bind (·.dst) = some d) (hv : a.tmps.getD d undef = undef) : Region.wanted o (yielded ops a.tmps) = false := by
  rw [Array.getD_eq_getD_getElem?] at hv
  unfold Region.wanted
  rw [hg]
  cases h : a.tmps[d]? with
  | none => simp [yielded, hj, h]
  | some x =>
    rw [h] at hv
    simp only [Option.getD_some] at hv
    subst hv
    simp [yielded, hj, h, undef]

/-- what each operation leaves -/
def FZ (s : ByteArray) (S : Spc) (LX : Option Addr) (lx : Nat) (IX : Option Addr) (ix : Nat) (MX : Option Addr) (mx : Nat) (LB : Option Addr) (ld : Nat) (IB : Option Addr) (ie : Nat) (MB : Option Addr) (md : Nat) (g bx bq A1 : Nat) (c1 cz : Int) : Nat → Value → World → Prop
  | 0 => fun v _ => v = .agg #[.string S.name, .slice LX S.labels.length lx, .slice IX S.init.length ix, .slice MX S.main.length mx, .int .i64 S.restart, .int .i64 S.grace, .int .i64 S.prio]
  | 1 => fun v _ => v = .agg #[.string S.name, .slice LB S.labels.length ld, .slice IB S.init.length ie, .slice MB S.main.length md, .int .i64 S.restart, .int .i64 S.grace, .int .i64 S.prio]
  | 2 => fun v _ => v = .bool true
  | 3 => fun v _ => v = .bool true
  | 4 => fun v _ => v = .pointer (some ⟨g, 0, none⟩)
  | 5 => fun v _ => v = .int .i64 0
  | 6 => fun v _ => v = .int .i64 0
  | 7 => fun v _ => v = .bool true
  | 8 => fun v _ => v = .bool true
  | 9 => fun v _ => v = .bool true
  | 10 => fun v _ => v = .int .i64 0
  | 11 => fun v _ => v = .bool false
  | 12 => fun v _ => v = .bool false
  | 13 => fun v _ => v = .pointer (some ⟨g, 0, none⟩)
  | 14 => fun v _ => v = .int .i64 ((s.size : Int) - (A1 : Int))
  | 15 => fun v _ => v = .string s
  | 16 => fun v _ => v = .int .i64 (s.size : Int)
  | 17 => fun v _ => v = .pointer (some ⟨bq, 1, none⟩)
  | 18 => fun v _ => v = .int .i64 (A1 : Int)
  | 19 => fun v _ => v = .int .i64 ((s.size : Int) - (A1 : Int))
  | 20 => fun v _ => v = .bool true
  | 21 => fun v _ => v = .bool true
  | 22 => fun v _ => v = .bool true
  | 23 => fun v _ => v = .bool true
  | 24 => fun v _ => v = .bool true
  | 25 => fun v _ => v = .bool true
  | _ => fun v _ => v = .bool true
theorem FZ_keep (s : ByteArray) (S : Spc) (LX : Option Addr) (lx : Nat) (IX : Option Addr) (ix : Nat) (MX : Option Addr) (mx : Nat) (LB : Option Addr) (ld : Nat) (IB : Option Addr) (ie : Nat) (MB : Option Addr) (md : Nat) (g bx bq A1 : Nat) (c1 cz : Int) (i_ : Nat) (v_ : Value) (w_ w2_ : World) (h_ : FZ s S LX lx IX ix MX mx LB ld IB ie MB md g bx bq A1 c1 cz i_ v_ w_) (hb_ : Below w_.heap.size w_ w2_) : FZ s S LX lx IX ix MX mx LB ld IB ie MB md g bx bq A1 c1 cz i_ v_ w2_ := by
  unfold FZ at h_ ⊢
  split at h_ <;> exact h_

/-- what each operation leaves -/
def FN (s : ByteArray) (S : Spc) (LX : Option Addr) (lx : Nat) (IX : Option Addr) (ix : Nat) (MX : Option Addr) (mx : Nat) (LB : Option Addr) (ld : Nat) (IB : Option Addr) (ie : Nat) (MB : Option Addr) (md : Nat) (g bx bq A1 : Nat) (c1 cz : Int) : Nat → Value → World → Prop
  | 0 => fun v _ => v = .agg #[.string ⟨#[]⟩, .slice none 0 0, .slice none 0 0, .slice none 0 0, .int .i64 0, .int .i64 0, .int .i64 0]
  | 1 => fun v _ => v = .agg #[.string ⟨#[]⟩, .slice none 0 0, .slice none 0 0, .slice none 0 0, .int .i64 0, .int .i64 0, .int .i64 0]
  | 2 => fun v _ => v = .bool true
  | 3 => fun v _ => v = .bool true
  | 4 => fun v _ => v = .pointer (some ⟨g, 0, none⟩)
  | 5 => fun v _ => v = .int .i64 cz
  | 6 => fun v _ => v = .int .i64 cz
  | 7 => fun v _ => v = .bool true
  | 8 => fun v _ => v = .bool true
  | 9 => fun v _ => v = .bool true
  | 10 => fun v _ => v = .int .i64 cz
  | 11 => fun v _ => v = .bool true
  | 12 => fun v _ => v = .bool true
  | 13 => fun v _ => v = undef
  | 14 => fun v _ => v = undef
  | 15 => fun v _ => v = undef
  | 16 => fun v _ => v = undef
  | 17 => fun v _ => v = undef
  | 18 => fun v _ => v = undef
  | 19 => fun v _ => v = undef
  | 20 => fun v _ => v = undef
  | 21 => fun v _ => v = .bool true
  | 22 => fun v _ => v = .bool true
  | 23 => fun v _ => v = .bool true
  | 24 => fun v _ => v = .bool true
  | 25 => fun v _ => v = .bool true
  | _ => fun v _ => v = .bool true
theorem FN_keep (s : ByteArray) (S : Spc) (LX : Option Addr) (lx : Nat) (IX : Option Addr) (ix : Nat) (MX : Option Addr) (mx : Nat) (LB : Option Addr) (ld : Nat) (IB : Option Addr) (ie : Nat) (MB : Option Addr) (md : Nat) (g bx bq A1 : Nat) (c1 cz : Int) (i_ : Nat) (v_ : Value) (w_ w2_ : World) (h_ : FN s S LX lx IX ix MX mx LB ld IB ie MB md g bx bq A1 c1 cz i_ v_ w_) (hb_ : Below w_.heap.size w_ w2_) : FN s S LX lx IX ix MX mx LB ld IB ie MB md g bx bq A1 c1 cz i_ v_ w2_ := by
  unfold FN at h_ ⊢
  split at h_ <;> exact h_

set_option maxRecDepth 100000 in
set_option maxHeartbeats 8000000 in
theorem walk (s : ByteArray) (w : World) (hL : SLaid w) :
    Calls Tryz.prog 4 #[.string s] w fun e w' => e = .returned (.bool true) ∧ Below w.heap.size w w' := by
  have HL := Lib.hid hL
  obtain ⟨⟨S, c1, l1⟩, hq⟩ : ∃ q, specC.rd 0 s.data.toList = q := ⟨_, rfl⟩
  have hok := specC.okay 0 s.data.toList
  rw [hq] at hok
  have HOK := Lib.hid hok
  have HQ := Lib.hid hq
  clear hL hq hok
  go_enter Tryz.func4, Tryz.ntmps4
  by_cases hlen : 3000 < s.size
  · have hlen' : (3000 : Int) < (s.size : Int) := by omega
    go_wp2_with fail
    refine (works_any w HL.out).mono ?_
    rintro e w1 ⟨rfl, hb1⟩
    have B1 := Lib.hid hb1
    clear hb1
    go_wp2_with fail
    go_ret
    exact ⟨rfl, B1.out⟩
  have hlen' : ¬ (3000 : Int) < (s.size : Int) := by omega
  have HSL := Lib.hid (show s.size ≤ 3000 by omega)
  have HFW := Lib.hid (show Few s.data.toList by show s.data.toList.length ≤ 281474976710656; rw [Array.length_toList]; show s.size ≤ _; omega)
  have HA := Lib.hid (show At s 0 s.data.toList from ⟨Nat.zero_le _, rfl⟩)
  clear hlen
  by_cases hc1 : c1 = 0
  · have HC1 := Lib.hid hc1
    by_cases hck : (checkV S).1 = 0
    · have HCK := Lib.hid hck
      have HFS := Lib.hid (show fst c1 (checkV S).1 = 0 by rw [hc1, hck]; rfl)
      by_cases hl1 : l1 = []
      · have HY := Lib.hid (show (firstV [newV (endE c1 l1) t_wire, checkV S]).1 = 0 by rw [hc1, hl1]; simp [firstV, newV, endE, hck, fine])
        clear hc1 hck hl1
        go_wp2_with fail
        refine (of_any s HFW.out S c1 l1 HQ.out w HL.out).mono ?_
        rintro e w1 ⟨E, hE, hb1, hcase⟩
        have B1 := Lib.hid hb1
        rcases hcase with ⟨_, LP, lp, IP, ip, MP, mp, rfl, hup⟩ | ⟨hno, _⟩
        rotate_left
        · exact absurd HY.out hno
        obtain rfl : E = .nilIface := hE.nil_iff.2 HY.out
        have UA1 := Lib.hid hup
        clear hup
        have HE1 := Lib.hid hE
        clear hE hb1
        obtain ⟨w2, hw2⟩ : ∃ v, w1.alloc (.cells #[.string S.name, .slice LP S.labels.length lp, .slice IP S.init.length ip, .slice MP S.main.length mp, .int .i64 S.restart, .int .i64 S.grace, .int .i64 S.prio] 28) = v := ⟨_, rfl⟩
        have hb : Below w1.heap.size w1 w2 := by rw [← hw2]; exact (Below.refl _ _).alloc (Nat.le_refl _) _
        have AB2 := Lib.hid (show w2.heap[w1.heap.size]? = some (.cells #[.string S.name, .slice LP S.labels.length lp, .slice IP S.init.length ip, .slice MP S.main.length mp, .int .i64 S.restart, .int .i64 S.grace, .int .i64 S.prio] 28) by rw [← hw2]; exact heap_alloc_new w1 _)
        have B2 := Lib.hid (B1.out.trans (hb.mono B1.out.size))
        have HE2 := Lib.hid (Says.keep HE1.out (fun b _ hl => ⟨Nat.zero_le b, hb.block b hl⟩))
        have UA2 := Lib.hid (UA1.out.below hb)
        clear hb
        clear HE1 UA1
        go_wp2_with fail
        obtain ⟨ba, hba⟩ : ∃ b, w1.heap.size = b := ⟨_, rfl⟩
        rw [hba] at AB2 ⊢
        clear hba
        first | rw [hw2] | skip
        clear hw2
        refine (of_ref2 s (by have := HSL.out; omega) S c1 l1 HQ.out w2).mono ?_
        rintro e w3 ⟨hcase, hb3⟩
        rcases hcase with ⟨_, LO, lo, IQ, io, MO, mo, rfl, hup⟩ | ⟨hno, _⟩
        rotate_left
        · exact absurd HY.out hno
        have B3 := Lib.hid (B2.out.trans (hb3.mono B2.out.size))
        have AB3 := Lib.hid ((hb3.block ba (lt_of_block AB2.out)).trans AB2.out)
        have HE3 := Lib.hid (Says.keep HE2.out (fun b _ hl => ⟨Nat.zero_le b, hb3.block b hl⟩))
        have UA3 := Lib.hid (UA2.out.below hb3)
        have UB3 := Lib.hid hup
        clear hup UA2
        clear hb3 AB2 HE2
        obtain ⟨w4, hw4⟩ : ∃ v, w3.alloc (.cells #[.string S.name, .slice LO S.labels.length lo, .slice IQ S.init.length io, .slice MO S.main.length mo, .int .i64 S.restart, .int .i64 S.grace, .int .i64 S.prio] 28) = v := ⟨_, rfl⟩
        have hb : Below w3.heap.size w3 w4 := by rw [← hw4]; exact (Below.refl _ _).alloc (Nat.le_refl _) _
        have BB4 := Lib.hid (show w4.heap[w3.heap.size]? = some (.cells #[.string S.name, .slice LO S.labels.length lo, .slice IQ S.init.length io, .slice MO S.main.length mo, .int .i64 S.restart, .int .i64 S.grace, .int .i64 S.prio] 28) by rw [← hw4]; exact heap_alloc_new w3 _)
        have B4 := Lib.hid (B3.out.trans (hb.mono B3.out.size))
        have HE4 := Lib.hid (Says.keep HE3.out (fun b _ hl => ⟨Nat.zero_le b, hb.block b hl⟩))
        have AB4 := Lib.hid ((hb.block ba (lt_of_block AB3.out)).trans AB3.out)
        have UA4 := Lib.hid (UA3.out.below hb)
        have UB4 := Lib.hid (UB3.out.below hb)
        clear hb
        clear HE3 AB3 UA3 UB3
        have ca0 := box_cell AB4.out 0 rfl
        have cb0 := box_cell BB4.out 0 rfl
        have ca1 := box_cell AB4.out 1 rfl
        have cb1 := box_cell BB4.out 1 rfl
        have ca2 := box_cell AB4.out 2 rfl
        have cb2 := box_cell BB4.out 2 rfl
        have ca3 := box_cell AB4.out 3 rfl
        have cb3 := box_cell BB4.out 3 rfl
        have ca4 := box_cell AB4.out 4 rfl
        have cb4 := box_cell BB4.out 4 rfl
        have ca5 := box_cell AB4.out 5 rfl
        have cb5 := box_cell BB4.out 5 rfl
        have ca6 := box_cell AB4.out 6 rfl
        have cb6 := box_cell BB4.out 6 rfl
        have hyf := HE4.out.zero HY.out
        rw [hyf] at HE4
        have HE4z := Lib.hid (show Says (KB 0 w4) w4 .nilIface ((0, ⟨#[]⟩) : Say) from HE4.out)
        clear HE4 hyf
        have HE4 := HE4z
        clear HE4z
        go_wp2_with fail
        obtain ⟨bb, hbb⟩ : ∃ b, w3.heap.size = b := ⟨_, rfl⟩
        rw [hbb] at BB4 ⊢
        clear hbb
        first | rw [hw4] | skip
        clear hw4
        have hrun := sameSpec_any S LP lp IP ip MP mp S LO lo IQ io MO mo w4 UA4.out.in UB4.out.in
        rw [(sameS_iff S S).2 rfl] at hrun
        refine hrun.mono ?_
        rintro e w5 ⟨rfl, hb5⟩
        clear hrun
        have B5 := Lib.hid (B4.out.trans (hb5.mono B4.out.size))
        have HE5 := Lib.hid (Says.keep HE4.out (fun b _ hl => ⟨Nat.zero_le b, hb5.block b hl⟩))
        clear hb5 HE4 ca0 cb0 ca1 cb1 ca2 cb2 ca3 cb3 ca4 cb4 ca5 cb5 ca6 cb6 UA4 UB4
        go_wp2_with fail
        refine (code_says HE5.out (HL.out.below B5.out).err).mono ?_
        rintro e w6 ⟨rfl, hb6⟩
        have B6 := Lib.hid (B5.out.trans (hb6.mono B5.out.size))
        have HE6 := Lib.hid (Says.keep HE5.out (fun b _ hl => ⟨Nat.zero_le b, hb6.block b hl⟩))
        clear hb6 HE5
        go_wp2_with fail
        refine (text_says HE6.out).mono ?_
        rintro e w7 ⟨rfl, hb7⟩
        have B7 := Lib.hid (B6.out.trans (hb7.mono B6.out.size))
        clear hb7 HE6 AB4 BB4
        go_wp2_with fail
        refine (read_any s w7).mono ?_
        rintro e w8 ⟨rfl, h8, hb8, hs8⟩
        obtain ⟨g, hg⟩ : ∃ b, w7.heap.size = b := ⟨_, rfl⟩
        have HGG := Lib.hid hg
        have B8 := Lib.hid (B7.out.trans (hb8.mono B7.out.size))
        have HWG := Lib.hid (show w.heap.size ≤ g by rw [← hg]; exact B7.out.size)
        rw [hg] at h8 ⊢
        have R8 := Lib.hid h8
        clear h8 hb8 hs8 hg
        go_wp2_with fail
        refine (take_rd g 0 s.data.toList HFW.out S c1 l1 HQ.out w w8 HL.out B8.out HWG.out R8.out).mono ?_
        rintro e w9 ⟨h9, k9, hcase⟩
        have B9 := Lib.hid (B8.out.trans (k9.below (fun k hk => ⟨Nat.lt_of_lt_of_le hk B8.out.size, by have := HWG.out; omega⟩)))
        rcases hcase with ⟨_, LX, lx, IX, ix, MX, mx, rfl, hup⟩ | ⟨hno, _⟩
        rotate_left
        · exact absurd HFS.out hno
        rw [HFS.out] at h9
        have UX9 := Lib.hid hup
        clear hup
        have R9 := Lib.hid h9
        clear h9 k9 R8
        obtain ⟨w10, hw10⟩ : ∃ v, w9.alloc (.cells #[.string S.name, .slice LX S.labels.length lx, .slice IX S.init.length ix, .slice MX S.main.length mx, .int .i64 S.restart, .int .i64 S.grace, .int .i64 S.prio] 28) = v := ⟨_, rfl⟩
        have hb : Below w9.heap.size w9 w10 := by rw [← hw10]; exact (Below.refl _ _).alloc (Nat.le_refl _) _
        have XB10 := Lib.hid (show w10.heap[w9.heap.size]? = some (.cells #[.string S.name, .slice LX S.labels.length lx, .slice IX S.init.length ix, .slice MX S.main.length mx, .int .i64 S.restart, .int .i64 S.grace, .int .i64 S.prio] 28) by rw [← hw10]; exact heap_alloc_new w9 _)
        have B10 := Lib.hid (B9.out.trans (hb.mono B9.out.size))
        have R10 := Lib.hid (R9.out.below hb)
        have UX10 := Lib.hid (UX9.out.below hb)
        clear hb
        have HR9 := Lib.hid (show g < w9.heap.size from lt_of_block R9.out)
        clear R9 UX9
        go_wp2_with fail
        obtain ⟨bx, hbx⟩ : ∃ b, w9.heap.size = b := ⟨_, rfl⟩
        have HXG := Lib.hid (show g < bx by rw [← hbx]; exact HR9.out)
        rw [hbx] at XB10 ⊢
        clear hbx
        first | rw [hw10] | skip
        clear hw10
        refine (take_ref s (by have := HSL.out; omega) 0 0 s.data.toList HA.out S c1 l1 HQ.out w10).mono ?_
        rintro e w11 ⟨A1, LB, IB, MB, n2, ld, n3, ie, n4, md, rfl, h11, hup, hb11⟩
        have A11 := Lib.hid h11
        have B11 := Lib.hid (B10.out.trans (hb11.mono B10.out.size))
        have HGX := Lib.hid (show g < bx by have := lt_of_block R10.out; have := HXG.out; omega)
        have XB11 := Lib.hid ((hb11.block bx (lt_of_block XB10.out)).trans XB10.out)
        have R11 := Lib.hid (R10.out.below hb11)
        have UX11 := Lib.hid (UX10.out.below hb11)
        obtain ⟨rfl, rfl, rfl, hu⟩ := hup HC1.out
        have UY11 := Lib.hid hu
        clear hu
        clear h11 hup hb11 XB10 R10 UX10
        obtain ⟨w13, hw13⟩ : ∃ v, (w11.alloc (.cells #[.string s, .int .i64 A1, .int .i64 c1] 31)).alloc (.cells #[.string S.name, .slice LB S.labels.length ld, .slice IB S.init.length ie, .slice MB S.main.length md, .int .i64 S.restart, .int .i64 S.grace, .int .i64 S.prio] 28) = v := ⟨_, rfl⟩
        have HBX := Lib.hid (two_boxes w11 _ _ w13 hw13)
        have hb : Below w11.heap.size w11 w13 := HBX.out.1
        have QB13 := Lib.hid HBX.out.2.1
        have YB13 := Lib.hid HBX.out.2.2
        clear HBX
        have B13 := Lib.hid (B11.out.trans (hb.mono B11.out.size))
        have XB13 := Lib.hid ((hb.block bx (lt_of_block XB11.out)).trans XB11.out)
        have R13 := Lib.hid (R11.out.below hb)
        have UX13 := Lib.hid (UX11.out.below hb)
        have UY13 := Lib.hid (UY11.out.below hb)
        clear hb
        have hne1 : bx < w11.heap.size := lt_of_block XB11.out
        have hq2 := box_cell QB13.out 2 rfl
        have cy0 := box_cell YB13.out 0 rfl
        have cy1 := box_cell YB13.out 1 rfl
        have cy2 := box_cell YB13.out 2 rfl
        have cy3 := box_cell YB13.out 3 rfl
        have cy4 := box_cell YB13.out 4 rfl
        have cy5 := box_cell YB13.out 5 rfl
        have cy6 := box_cell YB13.out 6 rfl
        have hlen := A11.out.len
        have hle := A11.out.1
        obtain rfl : c1 = 0 := HC1.out
        clear XB11 R11 UX11 UY11
        go_wp2_with fail
        obtain ⟨bq, hbq⟩ : ∃ b, w11.heap.size = b := ⟨_, rfl⟩
        first | rw [hw13] | skip
        rw [hbq] at QB13 YB13 hq2 hne1 cy0 cy1 cy2 cy3 cy4 cy5 cy6 ⊢
        clear hw13 hbq
        refine (check_ref S LB ld IB ie MB md (spec_light HOK.out) w13 UY13.out.in).mono ?_
        rintro e w14 ⟨rfl, hb14⟩
        have B14 := Lib.hid (B13.out.trans (hb14.mono B13.out.size))
        have XB14 := Lib.hid ((hb14.block bx (lt_of_block XB13.out)).trans XB13.out)
        have QB14 := Lib.hid ((hb14.block bq (lt_of_block QB13.out)).trans QB13.out)
        have YB14 := Lib.hid ((hb14.block (bq + 1) (lt_of_block YB13.out)).trans YB13.out)
        have R14 := Lib.hid (R13.out.below hb14)
        have UX14 := Lib.hid (UX13.out.below hb14)
        have UY14 := Lib.hid (UY13.out.below hb14)
        clear hb14 hq2 XB13 QB13 YB13 R13 UY13 cy0 cy1 cy2 cy3 cy4 cy5 cy6 UX13
        rw [HCK.out]
        have HLEN := Lib.hid (show ((l1.length : Nat) : Int) = (s.size : Int) - (A1 : Int) by omega)
        have HWR := Lib.hid (show IntKind.i64.wrap ((s.size : Int) - (A1 : Int)) = (s.size : Int) - (A1 : Int) from IntWalk.i64_in _ (by have := HSL.out; omega))
        have QB := QB14
        have XB := XB14
        have YB := YB14
        have RR := R14
        have UX := UX14
        have UY := UY14
        have B9 := B14
        clear hlen hle
        go_wp2_with fail
        refine Loose.wp_region_walk (by kernel_rfl) (by kernel_rfl) (FZ s S LX lx IX ix MX mx LB ld IB ie MB md g bx bq A1 0 0) (FZ_keep s S LX lx IX ix MX mx LB ld IB ie MB md g bx bq A1 0 0) ?_ ?_
        · refine ⟨?_, ?_, ?_, ?_, ?_, ?_, ?_, ?_, ?_, ?_, ?_, ?_, ?_, ?_, ?_, ?_, ?_, ?_, ?_, ?_, ?_, ?_, ?_, ?_, ?_, ?_, ?_, trivial⟩
          · intro a w1 hfr hdep
            have hq_ := (hfr.below.block bx (lt_of_block XB.out)).trans XB.out
            have hc0_ := box_cell hq_ 0 rfl
            have hc1_ := box_cell hq_ 1 rfl
            have hc2_ := box_cell hq_ 2 rfl
            have hc3_ := box_cell hq_ 3 rfl
            have hc4_ := box_cell hq_ 4 rfl
            have hc5_ := box_cell hq_ 5 rfl
            have hc6_ := box_cell hq_ 6 rfl
            have f0 : a.tmps.getD 9 undef = .pointer (some ⟨bx, 0, none⟩) := hfr.slot 9 (by kernel_rfl)
            refine Loose.Step.value rfl (v := .agg #[.string S.name, .slice LX S.labels.length lx, .slice IX S.init.length ix, .slice MX S.main.length mx, .int .i64 S.restart, .int .i64 S.grace, .int .i64 S.prio]) (w' := w1) ?_ rfl (Below.refl _ _)
            simp [go_sem, Act.eval, f0, hc0_, hc1_, hc2_, hc3_, hc4_, hc5_, hc6_]
          · intro a w1 hfr hdep
            have hq_ := (hfr.below.block (bq + 1) (lt_of_block YB.out)).trans YB.out
            have hc0_ := box_cell hq_ 0 rfl
            have hc1_ := box_cell hq_ 1 rfl
            have hc2_ := box_cell hq_ 2 rfl
            have hc3_ := box_cell hq_ 3 rfl
            have hc4_ := box_cell hq_ 4 rfl
            have hc5_ := box_cell hq_ 5 rfl
            have hc6_ := box_cell hq_ 6 rfl
            have f0 : a.tmps.getD 11 undef = .pointer (some ⟨bq + 1, 0, none⟩) := hfr.slot 11 (by kernel_rfl)
            refine Loose.Step.value rfl (v := .agg #[.string S.name, .slice LB S.labels.length ld, .slice IB S.init.length ie, .slice MB S.main.length md, .int .i64 S.restart, .int .i64 S.grace, .int .i64 S.prio]) (w' := w1) ?_ rfl (Below.refl _ _)
            simp [go_sem, Act.eval, f0, hc0_, hc1_, hc2_, hc3_, hc4_, hc5_, hc6_]
          · intro a w1 hfr hdep
            have e0 : a.tmps.getD 75 undef = .agg #[.string S.name, .slice LX S.labels.length lx, .slice IX S.init.length ix, .slice MX S.main.length mx, .int .i64 S.restart, .int .i64 S.grace, .int .i64 S.prio] := Loose.dep_of hdep 0 75 (by kernel_rfl)
            have e1 : a.tmps.getD 76 undef = .agg #[.string S.name, .slice LB S.labels.length ld, .slice IB S.init.length ie, .slice MB S.main.length md, .int .i64 S.restart, .int .i64 S.grace, .int .i64 S.prio] := Loose.dep_of hdep 1 76 (by kernel_rfl)
            refine Loose.Step.call rfl (f := 15) (args := #[.agg #[.string S.name, .slice LX S.labels.length lx, .slice IX S.init.length ix, .slice MX S.main.length mx, .int .i64 S.restart, .int .i64 S.grace, .int .i64 S.prio], .agg #[.string S.name, .slice LB S.labels.length ld, .slice IB S.init.length ie, .slice MB S.main.length md, .int .i64 S.restart, .int .i64 S.grace, .int .i64 S.prio]]) ?_ ?_
            · simp [go_sem, Act.eval, e0, e1]
            · refine (sameSpec_any S LX lx IX ix MX mx S LB ld IB ie MB md w1 (UX.out.below hfr.below).in (UY.out.below hfr.below).in).mono ?_
              rw [(sameS_iff S S).2 rfl]
              rintro e w2 ⟨rfl, hb⟩
              exact ⟨_, rfl, rfl, hb⟩
          · intro a w1 hfr hdep
            have e0 : a.tmps.getD 77 undef = .bool true := Loose.dep_of hdep 2 77 (by kernel_rfl)
            refine Loose.Step.value rfl (v := .bool true) (w' := w1) ?_ rfl (Below.refl _ _)
            simp [go_sem, Act.eval, e0]
          · intro a w1 hfr hdep
            have gd : a.tmps.getD 78 undef = .bool true := Loose.dep_of hdep 3 78 (by kernel_rfl)
            have f0 : a.tmps.getD 8 undef = .pointer (some ⟨g, 0, none⟩) := hfr.slot 8 (by kernel_rfl)
            refine Loose.Step.valueG (Loose.wanted_of rfl rfl gd) (v := .pointer (some ⟨g, 0, none⟩)) (w' := w1) ?_ rfl (Below.refl _ _)
            simp [go_sem, Act.eval, f0]
          · intro a w1 hfr hdep
            have gd : a.tmps.getD 78 undef = .bool true := Loose.dep_of hdep 3 78 (by kernel_rfl)
            have e0 : a.tmps.getD 79 undef = .pointer (some ⟨g, 0, none⟩) := Loose.dep_of hdep 4 79 (by kernel_rfl)
            refine Loose.Step.callG (Loose.wanted_of rfl rfl gd) (f := 14) (args := #[.pointer (some ⟨g, 0, none⟩)]) ?_ ?_
            · simp [go_sem, Act.eval, e0]
            · refine (code_any g 0 l1 w1 (RR.out.below hfr.below)).mono ?_
              rintro e w2 ⟨rfl, rfl⟩
              exact ⟨_, rfl, rfl, Below.refl _ _⟩
          · intro a w1 hfr hdep
            have gd : a.tmps.getD 78 undef = .bool true := Loose.dep_of hdep 3 78 (by kernel_rfl)
            have f0 : a.tmps.getD 12 undef = .int .i64 0 := hfr.slot 12 (by kernel_rfl)
            refine Loose.Step.valueG (Loose.wanted_of rfl rfl gd) (v := .int .i64 0) (w' := w1) ?_ rfl (Below.refl _ _)
            simp [go_sem, Act.eval, f0]
          · intro a w1 hfr hdep
            have gd : a.tmps.getD 78 undef = .bool true := Loose.dep_of hdep 3 78 (by kernel_rfl)
            have e0 : a.tmps.getD 80 undef = .int .i64 0 := Loose.dep_of hdep 5 80 (by kernel_rfl)
            have e1 : a.tmps.getD 81 undef = .int .i64 0 := Loose.dep_of hdep 6 81 (by kernel_rfl)
            refine Loose.Step.valueG (Loose.wanted_of rfl rfl gd) (v := .bool true) (w' := w1) ?_ rfl (Below.refl _ _)
            simp [go_sem, Act.eval, e0, e1]
          · intro a w1 hfr hdep
            have e0 : a.tmps.getD 78 undef = .bool true := Loose.dep_of hdep 3 78 (by kernel_rfl)
            have e1 : a.tmps.getD 82 undef = .bool true := Loose.dep_of hdep 7 82 (by kernel_rfl)
            refine Loose.Step.value rfl (v := .bool true) (w' := w1) ?_ rfl (Below.refl _ _)
            simp [go_sem, Act.eval, e0, e1]
          · intro a w1 hfr hdep
            have e0 : a.tmps.getD 83 undef = .bool true := Loose.dep_of hdep 8 83 (by kernel_rfl)
            refine Loose.Step.value rfl (v := .bool true) (w' := w1) ?_ rfl (Below.refl _ _)
            simp [go_sem, Act.eval, e0]
          · intro a w1 hfr hdep
            have gd : a.tmps.getD 84 undef = .bool true := Loose.dep_of hdep 9 84 (by kernel_rfl)
            have f0 : a.tmps.getD 12 undef = .int .i64 0 := hfr.slot 12 (by kernel_rfl)
            refine Loose.Step.valueG (Loose.wanted_of rfl rfl gd) (v := .int .i64 0) (w' := w1) ?_ rfl (Below.refl _ _)
            simp [go_sem, Act.eval, f0]
          · intro a w1 hfr hdep
            have gd : a.tmps.getD 84 undef = .bool true := Loose.dep_of hdep 9 84 (by kernel_rfl)
            have e0 : a.tmps.getD 85 undef = .int .i64 0 := Loose.dep_of hdep 10 85 (by kernel_rfl)
            refine Loose.Step.valueG (Loose.wanted_of rfl rfl gd) (v := .bool false) (w' := w1) ?_ rfl (Below.refl _ _)
            simp [go_sem, Act.eval, e0]
          · intro a w1 hfr hdep
            have gd : a.tmps.getD 84 undef = .bool true := Loose.dep_of hdep 9 84 (by kernel_rfl)
            have e0 : a.tmps.getD 86 undef = .bool false := Loose.dep_of hdep 11 86 (by kernel_rfl)
            refine Loose.Step.valueG (Loose.wanted_of rfl rfl gd) (v := .bool false) (w' := w1) ?_ rfl (Below.refl _ _)
            simp [go_sem, Act.eval, e0]
          · intro a w1 hfr hdep
            have gd : a.tmps.getD 87 undef = .bool false := Loose.dep_of hdep 12 87 (by kernel_rfl)
            have f0 : a.tmps.getD 8 undef = .pointer (some ⟨g, 0, none⟩) := hfr.slot 8 (by kernel_rfl)
            refine Loose.Step.valueG (Loose.wanted_of rfl rfl gd) (v := .pointer (some ⟨g, 0, none⟩)) (w' := w1) ?_ rfl (Below.refl _ _)
            simp [go_sem, Act.eval, f0]
          · intro a w1 hfr hdep
            have gd : a.tmps.getD 87 undef = .bool false := Loose.dep_of hdep 12 87 (by kernel_rfl)
            have e0 : a.tmps.getD 88 undef = .pointer (some ⟨g, 0, none⟩) := Loose.dep_of hdep 13 88 (by kernel_rfl)
            refine Loose.Step.callG (Loose.wanted_of rfl rfl gd) (f := 16) (args := #[.pointer (some ⟨g, 0, none⟩)]) ?_ ?_
            · simp [go_sem, Act.eval, e0]
            · refine (left_any g 0 l1 w1 (RR.out.below hfr.below)).mono ?_
              rw [HLEN.out]
              rintro e w2 ⟨rfl, rfl⟩
              exact ⟨_, rfl, rfl, Below.refl _ _⟩
          · intro a w1 hfr hdep
            have gd : a.tmps.getD 87 undef = .bool false := Loose.dep_of hdep 12 87 (by kernel_rfl)
            have f0 : a.tmps.getD 0 undef = .string s := hfr.slot 0 (by kernel_rfl)
            refine Loose.Step.valueG (Loose.wanted_of rfl rfl gd) (v := .string s) (w' := w1) ?_ rfl (Below.refl _ _)
            simp [go_sem, Act.eval, f0]
          · intro a w1 hfr hdep
            have gd : a.tmps.getD 87 undef = .bool false := Loose.dep_of hdep 12 87 (by kernel_rfl)
            have e0 : a.tmps.getD 90 undef = .string s := Loose.dep_of hdep 15 90 (by kernel_rfl)
            refine Loose.Step.valueG (Loose.wanted_of rfl rfl gd) (v := .int .i64 (s.size : Int)) (w' := w1) ?_ rfl (Below.refl _ _)
            simp [go_sem, Act.eval, e0]
          · intro a w1 hfr hdep
            have gd : a.tmps.getD 87 undef = .bool false := Loose.dep_of hdep 12 87 (by kernel_rfl)
            have f0 : a.tmps.getD 10 undef = .pointer (some ⟨bq, 0, none⟩) := hfr.slot 10 (by kernel_rfl)
            refine Loose.Step.valueG (Loose.wanted_of rfl rfl gd) (v := .pointer (some ⟨bq, 1, none⟩)) (w' := w1) ?_ rfl (Below.refl _ _)
            simp [go_sem, Act.eval, f0]
          · intro a w1 hfr hdep
            have hq_ := (hfr.below.block bq (lt_of_block QB.out)).trans QB.out
            have hc_ := box_cell hq_ 1 rfl
            have gd : a.tmps.getD 87 undef = .bool false := Loose.dep_of hdep 12 87 (by kernel_rfl)
            have e0 : a.tmps.getD 92 undef = .pointer (some ⟨bq, 1, none⟩) := Loose.dep_of hdep 17 92 (by kernel_rfl)
            refine Loose.Step.valueG (Loose.wanted_of rfl rfl gd) (v := .int .i64 (A1 : Int)) (w' := w1) ?_ rfl (Below.refl _ _)
            simp [go_sem, Act.eval, e0, hc_]
          · intro a w1 hfr hdep
            have gd : a.tmps.getD 87 undef = .bool false := Loose.dep_of hdep 12 87 (by kernel_rfl)
            have e0 : a.tmps.getD 91 undef = .int .i64 (s.size : Int) := Loose.dep_of hdep 16 91 (by kernel_rfl)
            have e1 : a.tmps.getD 93 undef = .int .i64 (A1 : Int) := Loose.dep_of hdep 18 93 (by kernel_rfl)
            refine Loose.Step.valueG (Loose.wanted_of rfl rfl gd) (v := .int .i64 ((s.size : Int) - (A1 : Int))) (w' := w1) ?_ rfl (Below.refl _ _)
            simp [go_sem, Act.eval, e0, e1, HWR.out]
          · intro a w1 hfr hdep
            have gd : a.tmps.getD 87 undef = .bool false := Loose.dep_of hdep 12 87 (by kernel_rfl)
            have e0 : a.tmps.getD 89 undef = .int .i64 ((s.size : Int) - (A1 : Int)) := Loose.dep_of hdep 14 89 (by kernel_rfl)
            have e1 : a.tmps.getD 94 undef = .int .i64 ((s.size : Int) - (A1 : Int)) := Loose.dep_of hdep 19 94 (by kernel_rfl)
            refine Loose.Step.valueG (Loose.wanted_of rfl rfl gd) (v := .bool true) (w' := w1) ?_ rfl (Below.refl _ _)
            simp [go_sem, Act.eval, e0, e1]
          · intro a w1 hfr hdep
            have gd : a.tmps.getD 84 undef = .bool true := Loose.dep_of hdep 9 84 (by kernel_rfl)
            have e0 : a.tmps.getD 87 undef = .bool false := Loose.dep_of hdep 12 87 (by kernel_rfl)
            have e1 : a.tmps.getD 95 undef = .bool true := Loose.dep_of hdep 20 95 (by kernel_rfl)
            refine Loose.Step.valueG (Loose.wanted_of rfl rfl gd) (v := .bool true) (w' := w1) ?_ rfl (Below.refl _ _)
            simp [go_sem, Act.eval, e0, e1]
          · intro a w1 hfr hdep
            have e0 : a.tmps.getD 84 undef = .bool true := Loose.dep_of hdep 9 84 (by kernel_rfl)
            have e1 : a.tmps.getD 96 undef = .bool true := Loose.dep_of hdep 21 96 (by kernel_rfl)
            refine Loose.Step.value rfl (v := .bool true) (w' := w1) ?_ rfl (Below.refl _ _)
            simp [go_sem, Act.eval, e0, e1]
          · intro a w1 hfr hdep
            have e0 : a.tmps.getD 97 undef = .bool true := Loose.dep_of hdep 22 97 (by kernel_rfl)
            refine Loose.Step.value rfl (v := .bool true) (w' := w1) ?_ rfl (Below.refl _ _)
            simp [go_sem, Act.eval, e0]
          · intro a w1 hfr hdep
            have gd : a.tmps.getD 98 undef = .bool true := Loose.dep_of hdep 23 98 (by kernel_rfl)
            refine Loose.Step.callG (Loose.wanted_of rfl rfl gd) (f := 10) (args := #[]) ?_ ?_
            · simp [go_sem]
            · refine (works_any w1 (HL.out.below (B9.out.trans (hfr.below.mono B9.out.size)))).mono ?_
              rintro e w2 ⟨rfl, hb⟩
              exact ⟨_, rfl, rfl, hb⟩
          · intro a w1 hfr hdep
            have e0 : a.tmps.getD 98 undef = .bool true := Loose.dep_of hdep 23 98 (by kernel_rfl)
            have e1 : a.tmps.getD 99 undef = .bool true := Loose.dep_of hdep 24 99 (by kernel_rfl)
            refine Loose.Step.value rfl (v := .bool true) (w' := w1) ?_ rfl (Below.refl _ _)
            simp [go_sem, Act.eval, e0, e1]
          · intro a w1 hfr hdep
            have e0 : a.tmps.getD 100 undef = .bool true := Loose.dep_of hdep 25 100 (by kernel_rfl)
            refine Loose.Step.value rfl (v := .bool true) (w' := w1) ?_ rfl (Below.refl _ _)
            simp [go_sem, Act.eval, e0]
        · intro v0 v1 v2 v3 v4 v5 v6 v7 v8 v9 v10 v11 v12 v13 v14 v15 v16 v17 v18 v19 v20 v21 v22 v23 v24 v25 v26 w8 hb8 hC
          have hlast : v26 = .bool true := hC.2
          subst hlast
          have B20 := Lib.hid (B9.out.trans (hb8.mono B9.out.size))
          clear hC hb8
          simp only [SpecOwn.put_lit, List.set_cons_succ, List.set_cons_zero]
          go_wp2_with fail
          go_ret
          exact ⟨rfl, B20.out⟩
      · have HY := Lib.hid (show (firstV [newV (endE c1 l1) t_wire, checkV S]).1 ≠ 0 by rw [hc1]; simp [firstV, newV, endE, hl1, fst, fine])
        clear hc1 hck hl1
        go_wp2_with fail
        refine (of_any s HFW.out S c1 l1 HQ.out w HL.out).mono ?_
        rintro e w1 ⟨E, hE, hb1, hcase⟩
        have B1 := Lib.hid hb1
        rcases hcase with ⟨h0, _⟩ | ⟨_, rfl⟩
        · exact absurd h0 HY.out
        rcases hE.form with rfl | ⟨eu, ex, rfl⟩
        · exact absurd (hE.nil_iff.1 rfl) HY.out
        have HE1 := Lib.hid hE
        clear hE hb1
        obtain ⟨qw2, hqw2⟩ : ∃ v, w1.alloc (.cells #[.string ⟨#[]⟩, .slice none 0 0, .slice none 0 0, .slice none 0 0, .int .i64 0, .int .i64 0, .int .i64 0] 28) = v := ⟨_, rfl⟩
        have hba_ : Below w1.heap.size w1 qw2 := by rw [← hqw2]; exact (Below.refl _ _).alloc (Nat.le_refl _) _
        have hbz_ : qw2.heap[w1.heap.size]? = some (.cells #[.string ⟨#[]⟩, .slice none 0 0, .slice none 0 0, .slice none 0 0, .int .i64 0, .int .i64 0, .int .i64 0] 28) := by rw [← hqw2]; exact heap_alloc_new w1 _
        have qw2vc0 := box_cell hbz_ 0 rfl
        have qw2vf0 := box_free hbz_ 0
        obtain ⟨qw2v1, qw2ve1⟩ : ∃ v, qw2.setCell ⟨(w1.heap.size), 0, none⟩ (.string ⟨#[]⟩) = v := ⟨_, rfl⟩
        have qw2vz1 := box_set hbz_ 0 (.string ⟨#[]⟩) (B := #[.string ⟨#[]⟩, .slice none 0 0, .slice none 0 0, .slice none 0 0, .int .i64 0, .int .i64 0, .int .i64 0]) rfl
        rw [qw2ve1] at qw2vz1
        have qw2vo1 : Only (w1.heap.size) qw2 qw2v1 := by rw [← qw2ve1]; exact (Only.refl (w1.heap.size) qw2).set 0 _
        have qw2vc1 := box_cell qw2vz1 1 rfl
        have qw2vf1 := box_free qw2vz1 1
        obtain ⟨qw2v2, qw2ve2⟩ : ∃ v, qw2v1.setCell ⟨(w1.heap.size), 1, none⟩ (.slice none 0 0) = v := ⟨_, rfl⟩
        have qw2vz2 := box_set qw2vz1 1 (.slice none 0 0) (B := #[.string ⟨#[]⟩, .slice none 0 0, .slice none 0 0, .slice none 0 0, .int .i64 0, .int .i64 0, .int .i64 0]) rfl
        rw [qw2ve2] at qw2vz2
        have qw2vo2 : Only (w1.heap.size) qw2 qw2v2 := by rw [← qw2ve2]; exact qw2vo1.set 1 _
        have qw2vc2 := box_cell qw2vz2 2 rfl
        have qw2vf2 := box_free qw2vz2 2
        obtain ⟨qw2v3, qw2ve3⟩ : ∃ v, qw2v2.setCell ⟨(w1.heap.size), 2, none⟩ (.slice none 0 0) = v := ⟨_, rfl⟩
        have qw2vz3 := box_set qw2vz2 2 (.slice none 0 0) (B := #[.string ⟨#[]⟩, .slice none 0 0, .slice none 0 0, .slice none 0 0, .int .i64 0, .int .i64 0, .int .i64 0]) rfl
        rw [qw2ve3] at qw2vz3
        have qw2vo3 : Only (w1.heap.size) qw2 qw2v3 := by rw [← qw2ve3]; exact qw2vo2.set 2 _
        have qw2vc3 := box_cell qw2vz3 3 rfl
        have qw2vf3 := box_free qw2vz3 3
        obtain ⟨qw2v4, qw2ve4⟩ : ∃ v, qw2v3.setCell ⟨(w1.heap.size), 3, none⟩ (.slice none 0 0) = v := ⟨_, rfl⟩
        have qw2vz4 := box_set qw2vz3 3 (.slice none 0 0) (B := #[.string ⟨#[]⟩, .slice none 0 0, .slice none 0 0, .slice none 0 0, .int .i64 0, .int .i64 0, .int .i64 0]) rfl
        rw [qw2ve4] at qw2vz4
        have qw2vo4 : Only (w1.heap.size) qw2 qw2v4 := by rw [← qw2ve4]; exact qw2vo3.set 3 _
        have qw2vc4 := box_cell qw2vz4 4 rfl
        have qw2vf4 := box_free qw2vz4 4
        obtain ⟨qw2v5, qw2ve5⟩ : ∃ v, qw2v4.setCell ⟨(w1.heap.size), 4, none⟩ (.int .i64 0) = v := ⟨_, rfl⟩
        have qw2vz5 := box_set qw2vz4 4 (.int .i64 0) (B := #[.string ⟨#[]⟩, .slice none 0 0, .slice none 0 0, .slice none 0 0, .int .i64 0, .int .i64 0, .int .i64 0]) rfl
        rw [qw2ve5] at qw2vz5
        have qw2vo5 : Only (w1.heap.size) qw2 qw2v5 := by rw [← qw2ve5]; exact qw2vo4.set 4 _
        have qw2vc5 := box_cell qw2vz5 5 rfl
        have qw2vf5 := box_free qw2vz5 5
        obtain ⟨qw2v6, qw2ve6⟩ : ∃ v, qw2v5.setCell ⟨(w1.heap.size), 5, none⟩ (.int .i64 0) = v := ⟨_, rfl⟩
        have qw2vz6 := box_set qw2vz5 5 (.int .i64 0) (B := #[.string ⟨#[]⟩, .slice none 0 0, .slice none 0 0, .slice none 0 0, .int .i64 0, .int .i64 0, .int .i64 0]) rfl
        rw [qw2ve6] at qw2vz6
        have qw2vo6 : Only (w1.heap.size) qw2 qw2v6 := by rw [← qw2ve6]; exact qw2vo5.set 5 _
        have qw2vc6 := box_cell qw2vz6 6 rfl
        have qw2vf6 := box_free qw2vz6 6
        obtain ⟨w2, qw2ve7⟩ : ∃ v, qw2v6.setCell ⟨(w1.heap.size), 6, none⟩ (.int .i64 0) = v := ⟨_, rfl⟩
        have qw2vz7 := box_set qw2vz6 6 (.int .i64 0) (B := #[.string ⟨#[]⟩, .slice none 0 0, .slice none 0 0, .slice none 0 0, .int .i64 0, .int .i64 0, .int .i64 0]) rfl
        rw [qw2ve7] at qw2vz7
        have qw2vo7 : Only (w1.heap.size) qw2 w2 := by rw [← qw2ve7]; exact qw2vo6.set 6 _
        have qw2vr0 := box_cell qw2vz7 0 rfl
        have qw2vr1 := box_cell qw2vz7 1 rfl
        have qw2vr2 := box_cell qw2vz7 2 rfl
        have qw2vr3 := box_cell qw2vz7 3 rfl
        have qw2vr4 := box_cell qw2vz7 4 rfl
        have qw2vr5 := box_cell qw2vz7 5 rfl
        have qw2vr6 := box_cell qw2vz7 6 rfl
        have qw2vO := Lib.hid qw2vo7
        have AB2 := Lib.hid qw2vz7
        clear qw2vz1 qw2vo1 qw2vz2 qw2vo2 qw2vz3 qw2vo3 qw2vz4 qw2vo4 qw2vz5 qw2vo5 qw2vz6 qw2vo6 qw2vz7 qw2vo7
        have hb : Below w1.heap.size w1 w2 := qw2vO.out.below hba_ (Nat.le_refl _)
        have B2 := Lib.hid (B1.out.trans (hb.mono B1.out.size))
        have HE2 := Lib.hid (Says.keep HE1.out (fun b _ hl => ⟨Nat.zero_le b, hb.block b hl⟩))
        clear hb hba_ hbz_ qw2vO
        have hw2 : True := trivial
        clear HE1
        go_wp2_with fail
        obtain ⟨ba, hba⟩ : ∃ b, w1.heap.size = b := ⟨_, rfl⟩
        rw [hba] at AB2 ⊢
        clear hba
        first | rw [hw2] | skip
        clear hw2
        refine (of_ref2 s (by have := HSL.out; omega) S c1 l1 HQ.out w2).mono ?_
        rintro e w3 ⟨hcase, hb3⟩
        rcases hcase with ⟨h0, _⟩ | ⟨_, rfl⟩
        · exact absurd h0 HY.out
        have B3 := Lib.hid (B2.out.trans (hb3.mono B2.out.size))
        have AB3 := Lib.hid ((hb3.block ba (lt_of_block AB2.out)).trans AB2.out)
        have HE3 := Lib.hid (Says.keep HE2.out (fun b _ hl => ⟨Nat.zero_le b, hb3.block b hl⟩))
        clear hb3 AB2 HE2
        obtain ⟨qw4, hqw4⟩ : ∃ v, w3.alloc (.cells #[.string ⟨#[]⟩, .slice none 0 0, .slice none 0 0, .slice none 0 0, .int .i64 0, .int .i64 0, .int .i64 0] 28) = v := ⟨_, rfl⟩
        have hba_ : Below w3.heap.size w3 qw4 := by rw [← hqw4]; exact (Below.refl _ _).alloc (Nat.le_refl _) _
        have hbz_ : qw4.heap[w3.heap.size]? = some (.cells #[.string ⟨#[]⟩, .slice none 0 0, .slice none 0 0, .slice none 0 0, .int .i64 0, .int .i64 0, .int .i64 0] 28) := by rw [← hqw4]; exact heap_alloc_new w3 _
        have qw4vc0 := box_cell hbz_ 0 rfl
        have qw4vf0 := box_free hbz_ 0
        obtain ⟨qw4v1, qw4ve1⟩ : ∃ v, qw4.setCell ⟨(w3.heap.size), 0, none⟩ (.string ⟨#[]⟩) = v := ⟨_, rfl⟩
        have qw4vz1 := box_set hbz_ 0 (.string ⟨#[]⟩) (B := #[.string ⟨#[]⟩, .slice none 0 0, .slice none 0 0, .slice none 0 0, .int .i64 0, .int .i64 0, .int .i64 0]) rfl
        rw [qw4ve1] at qw4vz1
        have qw4vo1 : Only (w3.heap.size) qw4 qw4v1 := by rw [← qw4ve1]; exact (Only.refl (w3.heap.size) qw4).set 0 _
        have qw4vc1 := box_cell qw4vz1 1 rfl
        have qw4vf1 := box_free qw4vz1 1
        obtain ⟨qw4v2, qw4ve2⟩ : ∃ v, qw4v1.setCell ⟨(w3.heap.size), 1, none⟩ (.slice none 0 0) = v := ⟨_, rfl⟩
        have qw4vz2 := box_set qw4vz1 1 (.slice none 0 0) (B := #[.string ⟨#[]⟩, .slice none 0 0, .slice none 0 0, .slice none 0 0, .int .i64 0, .int .i64 0, .int .i64 0]) rfl
        rw [qw4ve2] at qw4vz2
        have qw4vo2 : Only (w3.heap.size) qw4 qw4v2 := by rw [← qw4ve2]; exact qw4vo1.set 1 _
        have qw4vc2 := box_cell qw4vz2 2 rfl
        have qw4vf2 := box_free qw4vz2 2
        obtain ⟨qw4v3, qw4ve3⟩ : ∃ v, qw4v2.setCell ⟨(w3.heap.size), 2, none⟩ (.slice none 0 0) = v := ⟨_, rfl⟩
        have qw4vz3 := box_set qw4vz2 2 (.slice none 0 0) (B := #[.string ⟨#[]⟩, .slice none 0 0, .slice none 0 0, .slice none 0 0, .int .i64 0, .int .i64 0, .int .i64 0]) rfl
        rw [qw4ve3] at qw4vz3
        have qw4vo3 : Only (w3.heap.size) qw4 qw4v3 := by rw [← qw4ve3]; exact qw4vo2.set 2 _
        have qw4vc3 := box_cell qw4vz3 3 rfl
        have qw4vf3 := box_free qw4vz3 3
        obtain ⟨qw4v4, qw4ve4⟩ : ∃ v, qw4v3.setCell ⟨(w3.heap.size), 3, none⟩ (.slice none 0 0) = v := ⟨_, rfl⟩
        have qw4vz4 := box_set qw4vz3 3 (.slice none 0 0) (B := #[.string ⟨#[]⟩, .slice none 0 0, .slice none 0 0, .slice none 0 0, .int .i64 0, .int .i64 0, .int .i64 0]) rfl
        rw [qw4ve4] at qw4vz4
        have qw4vo4 : Only (w3.heap.size) qw4 qw4v4 := by rw [← qw4ve4]; exact qw4vo3.set 3 _
        have qw4vc4 := box_cell qw4vz4 4 rfl
        have qw4vf4 := box_free qw4vz4 4
        obtain ⟨qw4v5, qw4ve5⟩ : ∃ v, qw4v4.setCell ⟨(w3.heap.size), 4, none⟩ (.int .i64 0) = v := ⟨_, rfl⟩
        have qw4vz5 := box_set qw4vz4 4 (.int .i64 0) (B := #[.string ⟨#[]⟩, .slice none 0 0, .slice none 0 0, .slice none 0 0, .int .i64 0, .int .i64 0, .int .i64 0]) rfl
        rw [qw4ve5] at qw4vz5
        have qw4vo5 : Only (w3.heap.size) qw4 qw4v5 := by rw [← qw4ve5]; exact qw4vo4.set 4 _
        have qw4vc5 := box_cell qw4vz5 5 rfl
        have qw4vf5 := box_free qw4vz5 5
        obtain ⟨qw4v6, qw4ve6⟩ : ∃ v, qw4v5.setCell ⟨(w3.heap.size), 5, none⟩ (.int .i64 0) = v := ⟨_, rfl⟩
        have qw4vz6 := box_set qw4vz5 5 (.int .i64 0) (B := #[.string ⟨#[]⟩, .slice none 0 0, .slice none 0 0, .slice none 0 0, .int .i64 0, .int .i64 0, .int .i64 0]) rfl
        rw [qw4ve6] at qw4vz6
        have qw4vo6 : Only (w3.heap.size) qw4 qw4v6 := by rw [← qw4ve6]; exact qw4vo5.set 5 _
        have qw4vc6 := box_cell qw4vz6 6 rfl
        have qw4vf6 := box_free qw4vz6 6
        obtain ⟨w4, qw4ve7⟩ : ∃ v, qw4v6.setCell ⟨(w3.heap.size), 6, none⟩ (.int .i64 0) = v := ⟨_, rfl⟩
        have qw4vz7 := box_set qw4vz6 6 (.int .i64 0) (B := #[.string ⟨#[]⟩, .slice none 0 0, .slice none 0 0, .slice none 0 0, .int .i64 0, .int .i64 0, .int .i64 0]) rfl
        rw [qw4ve7] at qw4vz7
        have qw4vo7 : Only (w3.heap.size) qw4 w4 := by rw [← qw4ve7]; exact qw4vo6.set 6 _
        have qw4vr0 := box_cell qw4vz7 0 rfl
        have qw4vr1 := box_cell qw4vz7 1 rfl
        have qw4vr2 := box_cell qw4vz7 2 rfl
        have qw4vr3 := box_cell qw4vz7 3 rfl
        have qw4vr4 := box_cell qw4vz7 4 rfl
        have qw4vr5 := box_cell qw4vz7 5 rfl
        have qw4vr6 := box_cell qw4vz7 6 rfl
        have qw4vO := Lib.hid qw4vo7
        have BB4 := Lib.hid qw4vz7
        clear qw4vz1 qw4vo1 qw4vz2 qw4vo2 qw4vz3 qw4vo3 qw4vz4 qw4vo4 qw4vz5 qw4vo5 qw4vz6 qw4vo6 qw4vz7 qw4vo7
        have hb : Below w3.heap.size w3 w4 := qw4vO.out.below hba_ (Nat.le_refl _)
        have B4 := Lib.hid (B3.out.trans (hb.mono B3.out.size))
        have HE4 := Lib.hid (Says.keep HE3.out (fun b _ hl => ⟨Nat.zero_le b, hb.block b hl⟩))
        have AB4 := Lib.hid ((hb.block ba (lt_of_block AB3.out)).trans AB3.out)
        clear hb hba_ hbz_ qw4vO
        have hw4 : True := trivial
        clear HE3 AB3
        have ca0 := box_cell AB4.out 0 rfl
        have cb0 := box_cell BB4.out 0 rfl
        have ca1 := box_cell AB4.out 1 rfl
        have cb1 := box_cell BB4.out 1 rfl
        have ca2 := box_cell AB4.out 2 rfl
        have cb2 := box_cell BB4.out 2 rfl
        have ca3 := box_cell AB4.out 3 rfl
        have cb3 := box_cell BB4.out 3 rfl
        have ca4 := box_cell AB4.out 4 rfl
        have cb4 := box_cell BB4.out 4 rfl
        have ca5 := box_cell AB4.out 5 rfl
        have cb5 := box_cell BB4.out 5 rfl
        have ca6 := box_cell AB4.out 6 rfl
        have cb6 := box_cell BB4.out 6 rfl
        obtain ⟨Y0, hY0⟩ : ∃ d, (firstV [newV (endE c1 l1) t_wire, checkV S]) = d := ⟨_, rfl⟩
        rw [hY0] at HE4 HY ⊢
        obtain ⟨cy, py⟩ := Y0
        have hcy : (cy == 0) = false := by simpa using HY.out
        go_wp2_with fail
        obtain ⟨bb, hbb⟩ : ∃ b, w3.heap.size = b := ⟨_, rfl⟩
        rw [hbb] at BB4 ⊢
        clear hbb
        first | rw [hw4] | skip
        clear hw4
        have hrun := sameSpec_any Z0 none 0 none 0 none 0 Z0 none 0 none 0 none 0 w4 (z0_in w4) (z0_in w4)
        rw [(sameS_iff Z0 Z0).2 rfl] at hrun
        refine hrun.mono ?_
        rintro e w5 ⟨rfl, hb5⟩
        clear hrun
        have B5 := Lib.hid (B4.out.trans (hb5.mono B4.out.size))
        have HE5 := Lib.hid (Says.keep HE4.out (fun b _ hl => ⟨Nat.zero_le b, hb5.block b hl⟩))
        clear hb5 HE4 ca0 cb0 ca1 cb1 ca2 cb2 ca3 cb3 ca4 cb4 ca5 cb5 ca6 cb6
        go_wp2_with fail
        refine (code_says HE5.out (HL.out.below B5.out).err).mono ?_
        rintro e w6 ⟨rfl, hb6⟩
        have B6 := Lib.hid (B5.out.trans (hb6.mono B5.out.size))
        have HE6 := Lib.hid (Says.keep HE5.out (fun b _ hl => ⟨Nat.zero_le b, hb6.block b hl⟩))
        clear hb6 HE5
        go_wp2_with fail
        refine (text_says HE6.out).mono ?_
        rintro e w7 ⟨rfl, hb7⟩
        have B7 := Lib.hid (B6.out.trans (hb7.mono B6.out.size))
        clear hb7 HE6 AB4 BB4
        go_wp2_with fail
        refine (read_any s w7).mono ?_
        rintro e w8 ⟨rfl, h8, hb8, hs8⟩
        obtain ⟨g, hg⟩ : ∃ b, w7.heap.size = b := ⟨_, rfl⟩
        have HGG := Lib.hid hg
        have B8 := Lib.hid (B7.out.trans (hb8.mono B7.out.size))
        have HWG := Lib.hid (show w.heap.size ≤ g by rw [← hg]; exact B7.out.size)
        rw [hg] at h8 ⊢
        have R8 := Lib.hid h8
        clear h8 hb8 hs8 hg
        go_wp2_with fail
        refine (take_rd g 0 s.data.toList HFW.out S c1 l1 HQ.out w w8 HL.out B8.out HWG.out R8.out).mono ?_
        rintro e w9 ⟨h9, k9, hcase⟩
        have B9 := Lib.hid (B8.out.trans (k9.below (fun k hk => ⟨Nat.lt_of_lt_of_le hk B8.out.size, by have := HWG.out; omega⟩)))
        rcases hcase with ⟨_, LX, lx, IX, ix, MX, mx, rfl, hup⟩ | ⟨hno, _⟩
        rotate_left
        · exact absurd HFS.out hno
        rw [HFS.out] at h9
        have UX9 := Lib.hid hup
        clear hup
        have R9 := Lib.hid h9
        clear h9 k9 R8
        obtain ⟨w10, hw10⟩ : ∃ v, w9.alloc (.cells #[.string S.name, .slice LX S.labels.length lx, .slice IX S.init.length ix, .slice MX S.main.length mx, .int .i64 S.restart, .int .i64 S.grace, .int .i64 S.prio] 28) = v := ⟨_, rfl⟩
        have hb : Below w9.heap.size w9 w10 := by rw [← hw10]; exact (Below.refl _ _).alloc (Nat.le_refl _) _
        have XB10 := Lib.hid (show w10.heap[w9.heap.size]? = some (.cells #[.string S.name, .slice LX S.labels.length lx, .slice IX S.init.length ix, .slice MX S.main.length mx, .int .i64 S.restart, .int .i64 S.grace, .int .i64 S.prio] 28) by rw [← hw10]; exact heap_alloc_new w9 _)
        have B10 := Lib.hid (B9.out.trans (hb.mono B9.out.size))
        have R10 := Lib.hid (R9.out.below hb)
        have UX10 := Lib.hid (UX9.out.below hb)
        clear hb
        have HR9 := Lib.hid (show g < w9.heap.size from lt_of_block R9.out)
        clear R9 UX9
        go_wp2_with fail
        obtain ⟨bx, hbx⟩ : ∃ b, w9.heap.size = b := ⟨_, rfl⟩
        have HXG := Lib.hid (show g < bx by rw [← hbx]; exact HR9.out)
        rw [hbx] at XB10 ⊢
        clear hbx
        first | rw [hw10] | skip
        clear hw10
        refine (take_ref s (by have := HSL.out; omega) 0 0 s.data.toList HA.out S c1 l1 HQ.out w10).mono ?_
        rintro e w11 ⟨A1, LB, IB, MB, n2, ld, n3, ie, n4, md, rfl, h11, hup, hb11⟩
        have A11 := Lib.hid h11
        have B11 := Lib.hid (B10.out.trans (hb11.mono B10.out.size))
        have HGX := Lib.hid (show g < bx by have := lt_of_block R10.out; have := HXG.out; omega)
        have XB11 := Lib.hid ((hb11.block bx (lt_of_block XB10.out)).trans XB10.out)
        have R11 := Lib.hid (R10.out.below hb11)
        have UX11 := Lib.hid (UX10.out.below hb11)
        obtain ⟨rfl, rfl, rfl, hu⟩ := hup HC1.out
        have UY11 := Lib.hid hu
        clear hu
        clear h11 hup hb11 XB10 R10 UX10
        obtain ⟨w13, hw13⟩ : ∃ v, (w11.alloc (.cells #[.string s, .int .i64 A1, .int .i64 c1] 31)).alloc (.cells #[.string S.name, .slice LB S.labels.length ld, .slice IB S.init.length ie, .slice MB S.main.length md, .int .i64 S.restart, .int .i64 S.grace, .int .i64 S.prio] 28) = v := ⟨_, rfl⟩
        have HBX := Lib.hid (two_boxes w11 _ _ w13 hw13)
        have hb : Below w11.heap.size w11 w13 := HBX.out.1
        have QB13 := Lib.hid HBX.out.2.1
        have YB13 := Lib.hid HBX.out.2.2
        clear HBX
        have B13 := Lib.hid (B11.out.trans (hb.mono B11.out.size))
        have XB13 := Lib.hid ((hb.block bx (lt_of_block XB11.out)).trans XB11.out)
        have R13 := Lib.hid (R11.out.below hb)
        have UX13 := Lib.hid (UX11.out.below hb)
        have UY13 := Lib.hid (UY11.out.below hb)
        clear hb
        have hne1 : bx < w11.heap.size := lt_of_block XB11.out
        have hq2 := box_cell QB13.out 2 rfl
        have cy0 := box_cell YB13.out 0 rfl
        have cy1 := box_cell YB13.out 1 rfl
        have cy2 := box_cell YB13.out 2 rfl
        have cy3 := box_cell YB13.out 3 rfl
        have cy4 := box_cell YB13.out 4 rfl
        have cy5 := box_cell YB13.out 5 rfl
        have cy6 := box_cell YB13.out 6 rfl
        have hlen := A11.out.len
        have hle := A11.out.1
        obtain rfl : c1 = 0 := HC1.out
        clear XB11 R11 UX11 UY11
        go_wp2_with fail
        obtain ⟨bq, hbq⟩ : ∃ b, w11.heap.size = b := ⟨_, rfl⟩
        first | rw [hw13] | skip
        rw [hbq] at QB13 YB13 hq2 hne1 cy0 cy1 cy2 cy3 cy4 cy5 cy6 ⊢
        clear hw13 hbq
        refine (check_ref S LB ld IB ie MB md (spec_light HOK.out) w13 UY13.out.in).mono ?_
        rintro e w14 ⟨rfl, hb14⟩
        have B14 := Lib.hid (B13.out.trans (hb14.mono B13.out.size))
        have XB14 := Lib.hid ((hb14.block bx (lt_of_block XB13.out)).trans XB13.out)
        have QB14 := Lib.hid ((hb14.block bq (lt_of_block QB13.out)).trans QB13.out)
        have YB14 := Lib.hid ((hb14.block (bq + 1) (lt_of_block YB13.out)).trans YB13.out)
        have R14 := Lib.hid (R13.out.below hb14)
        have UX14 := Lib.hid (UX13.out.below hb14)
        have UY14 := Lib.hid (UY13.out.below hb14)
        clear hb14 hq2 XB13 QB13 YB13 R13 UY13 cy0 cy1 cy2 cy3 cy4 cy5 cy6 UX13
        rw [HCK.out]
        have HLEN := Lib.hid (show ((l1.length : Nat) : Int) = (s.size : Int) - (A1 : Int) by omega)
        have HWR := Lib.hid (show IntKind.i64.wrap ((s.size : Int) - (A1 : Int)) = (s.size : Int) - (A1 : Int) from IntWalk.i64_in _ (by have := HSL.out; omega))
        have QB := QB14
        have XB := XB14
        have YB := YB14
        have RR := R14
        have UX := UX14
        have UY := UY14
        have B9 := B14
        clear hlen hle
        go_wp2_with fail
        refine Loose.wp_region_walk (by kernel_rfl) (by kernel_rfl) (FZ s S LX lx IX ix MX mx LB ld IB ie MB md g bx bq A1 0 0) (FZ_keep s S LX lx IX ix MX mx LB ld IB ie MB md g bx bq A1 0 0) ?_ ?_
        · refine ⟨?_, ?_, ?_, ?_, ?_, ?_, ?_, ?_, ?_, ?_, ?_, ?_, ?_, ?_, ?_, ?_, ?_, ?_, ?_, ?_, ?_, ?_, ?_, ?_, ?_, ?_, ?_, trivial⟩
          · intro a w1 hfr hdep
            have hq_ := (hfr.below.block bx (lt_of_block XB.out)).trans XB.out
            have hc0_ := box_cell hq_ 0 rfl
            have hc1_ := box_cell hq_ 1 rfl
            have hc2_ := box_cell hq_ 2 rfl
            have hc3_ := box_cell hq_ 3 rfl
            have hc4_ := box_cell hq_ 4 rfl
            have hc5_ := box_cell hq_ 5 rfl
            have hc6_ := box_cell hq_ 6 rfl
            have f0 : a.tmps.getD 9 undef = .pointer (some ⟨bx, 0, none⟩) := hfr.slot 9 (by kernel_rfl)
            refine Loose.Step.value rfl (v := .agg #[.string S.name, .slice LX S.labels.length lx, .slice IX S.init.length ix, .slice MX S.main.length mx, .int .i64 S.restart, .int .i64 S.grace, .int .i64 S.prio]) (w' := w1) ?_ rfl (Below.refl _ _)
            simp [go_sem, Act.eval, f0, hc0_, hc1_, hc2_, hc3_, hc4_, hc5_, hc6_]
          · intro a w1 hfr hdep
            have hq_ := (hfr.below.block (bq + 1) (lt_of_block YB.out)).trans YB.out
            have hc0_ := box_cell hq_ 0 rfl
            have hc1_ := box_cell hq_ 1 rfl
            have hc2_ := box_cell hq_ 2 rfl
            have hc3_ := box_cell hq_ 3 rfl
            have hc4_ := box_cell hq_ 4 rfl
            have hc5_ := box_cell hq_ 5 rfl
            have hc6_ := box_cell hq_ 6 rfl
            have f0 : a.tmps.getD 11 undef = .pointer (some ⟨bq + 1, 0, none⟩) := hfr.slot 11 (by kernel_rfl)
            refine Loose.Step.value rfl (v := .agg #[.string S.name, .slice LB S.labels.length ld, .slice IB S.init.length ie, .slice MB S.main.length md, .int .i64 S.restart, .int .i64 S.grace, .int .i64 S.prio]) (w' := w1) ?_ rfl (Below.refl _ _)
            simp [go_sem, Act.eval, f0, hc0_, hc1_, hc2_, hc3_, hc4_, hc5_, hc6_]
          · intro a w1 hfr hdep
            have e0 : a.tmps.getD 75 undef = .agg #[.string S.name, .slice LX S.labels.length lx, .slice IX S.init.length ix, .slice MX S.main.length mx, .int .i64 S.restart, .int .i64 S.grace, .int .i64 S.prio] := Loose.dep_of hdep 0 75 (by kernel_rfl)
            have e1 : a.tmps.getD 76 undef = .agg #[.string S.name, .slice LB S.labels.length ld, .slice IB S.init.length ie, .slice MB S.main.length md, .int .i64 S.restart, .int .i64 S.grace, .int .i64 S.prio] := Loose.dep_of hdep 1 76 (by kernel_rfl)
            refine Loose.Step.call rfl (f := 15) (args := #[.agg #[.string S.name, .slice LX S.labels.length lx, .slice IX S.init.length ix, .slice MX S.main.length mx, .int .i64 S.restart, .int .i64 S.grace, .int .i64 S.prio], .agg #[.string S.name, .slice LB S.labels.length ld, .slice IB S.init.length ie, .slice MB S.main.length md, .int .i64 S.restart, .int .i64 S.grace, .int .i64 S.prio]]) ?_ ?_
            · simp [go_sem, Act.eval, e0, e1]
            · refine (sameSpec_any S LX lx IX ix MX mx S LB ld IB ie MB md w1 (UX.out.below hfr.below).in (UY.out.below hfr.below).in).mono ?_
              rw [(sameS_iff S S).2 rfl]
              rintro e w2 ⟨rfl, hb⟩
              exact ⟨_, rfl, rfl, hb⟩
          · intro a w1 hfr hdep
            have e0 : a.tmps.getD 77 undef = .bool true := Loose.dep_of hdep 2 77 (by kernel_rfl)
            refine Loose.Step.value rfl (v := .bool true) (w' := w1) ?_ rfl (Below.refl _ _)
            simp [go_sem, Act.eval, e0]
          · intro a w1 hfr hdep
            have gd : a.tmps.getD 78 undef = .bool true := Loose.dep_of hdep 3 78 (by kernel_rfl)
            have f0 : a.tmps.getD 8 undef = .pointer (some ⟨g, 0, none⟩) := hfr.slot 8 (by kernel_rfl)
            refine Loose.Step.valueG (Loose.wanted_of rfl rfl gd) (v := .pointer (some ⟨g, 0, none⟩)) (w' := w1) ?_ rfl (Below.refl _ _)
            simp [go_sem, Act.eval, f0]
          · intro a w1 hfr hdep
            have gd : a.tmps.getD 78 undef = .bool true := Loose.dep_of hdep 3 78 (by kernel_rfl)
            have e0 : a.tmps.getD 79 undef = .pointer (some ⟨g, 0, none⟩) := Loose.dep_of hdep 4 79 (by kernel_rfl)
            refine Loose.Step.callG (Loose.wanted_of rfl rfl gd) (f := 14) (args := #[.pointer (some ⟨g, 0, none⟩)]) ?_ ?_
            · simp [go_sem, Act.eval, e0]
            · refine (code_any g 0 l1 w1 (RR.out.below hfr.below)).mono ?_
              rintro e w2 ⟨rfl, rfl⟩
              exact ⟨_, rfl, rfl, Below.refl _ _⟩
          · intro a w1 hfr hdep
            have gd : a.tmps.getD 78 undef = .bool true := Loose.dep_of hdep 3 78 (by kernel_rfl)
            have f0 : a.tmps.getD 12 undef = .int .i64 0 := hfr.slot 12 (by kernel_rfl)
            refine Loose.Step.valueG (Loose.wanted_of rfl rfl gd) (v := .int .i64 0) (w' := w1) ?_ rfl (Below.refl _ _)
            simp [go_sem, Act.eval, f0]
          · intro a w1 hfr hdep
            have gd : a.tmps.getD 78 undef = .bool true := Loose.dep_of hdep 3 78 (by kernel_rfl)
            have e0 : a.tmps.getD 80 undef = .int .i64 0 := Loose.dep_of hdep 5 80 (by kernel_rfl)
            have e1 : a.tmps.getD 81 undef = .int .i64 0 := Loose.dep_of hdep 6 81 (by kernel_rfl)
            refine Loose.Step.valueG (Loose.wanted_of rfl rfl gd) (v := .bool true) (w' := w1) ?_ rfl (Below.refl _ _)
            simp [go_sem, Act.eval, e0, e1]
          · intro a w1 hfr hdep
            have e0 : a.tmps.getD 78 undef = .bool true := Loose.dep_of hdep 3 78 (by kernel_rfl)
            have e1 : a.tmps.getD 82 undef = .bool true := Loose.dep_of hdep 7 82 (by kernel_rfl)
            refine Loose.Step.value rfl (v := .bool true) (w' := w1) ?_ rfl (Below.refl _ _)
            simp [go_sem, Act.eval, e0, e1]
          · intro a w1 hfr hdep
            have e0 : a.tmps.getD 83 undef = .bool true := Loose.dep_of hdep 8 83 (by kernel_rfl)
            refine Loose.Step.value rfl (v := .bool true) (w' := w1) ?_ rfl (Below.refl _ _)
            simp [go_sem, Act.eval, e0]
          · intro a w1 hfr hdep
            have gd : a.tmps.getD 84 undef = .bool true := Loose.dep_of hdep 9 84 (by kernel_rfl)
            have f0 : a.tmps.getD 12 undef = .int .i64 0 := hfr.slot 12 (by kernel_rfl)
            refine Loose.Step.valueG (Loose.wanted_of rfl rfl gd) (v := .int .i64 0) (w' := w1) ?_ rfl (Below.refl _ _)
            simp [go_sem, Act.eval, f0]
          · intro a w1 hfr hdep
            have gd : a.tmps.getD 84 undef = .bool true := Loose.dep_of hdep 9 84 (by kernel_rfl)
            have e0 : a.tmps.getD 85 undef = .int .i64 0 := Loose.dep_of hdep 10 85 (by kernel_rfl)
            refine Loose.Step.valueG (Loose.wanted_of rfl rfl gd) (v := .bool false) (w' := w1) ?_ rfl (Below.refl _ _)
            simp [go_sem, Act.eval, e0]
          · intro a w1 hfr hdep
            have gd : a.tmps.getD 84 undef = .bool true := Loose.dep_of hdep 9 84 (by kernel_rfl)
            have e0 : a.tmps.getD 86 undef = .bool false := Loose.dep_of hdep 11 86 (by kernel_rfl)
            refine Loose.Step.valueG (Loose.wanted_of rfl rfl gd) (v := .bool false) (w' := w1) ?_ rfl (Below.refl _ _)
            simp [go_sem, Act.eval, e0]
          · intro a w1 hfr hdep
            have gd : a.tmps.getD 87 undef = .bool false := Loose.dep_of hdep 12 87 (by kernel_rfl)
            have f0 : a.tmps.getD 8 undef = .pointer (some ⟨g, 0, none⟩) := hfr.slot 8 (by kernel_rfl)
            refine Loose.Step.valueG (Loose.wanted_of rfl rfl gd) (v := .pointer (some ⟨g, 0, none⟩)) (w' := w1) ?_ rfl (Below.refl _ _)
            simp [go_sem, Act.eval, f0]
          · intro a w1 hfr hdep
            have gd : a.tmps.getD 87 undef = .bool false := Loose.dep_of hdep 12 87 (by kernel_rfl)
            have e0 : a.tmps.getD 88 undef = .pointer (some ⟨g, 0, none⟩) := Loose.dep_of hdep 13 88 (by kernel_rfl)
            refine Loose.Step.callG (Loose.wanted_of rfl rfl gd) (f := 16) (args := #[.pointer (some ⟨g, 0, none⟩)]) ?_ ?_
            · simp [go_sem, Act.eval, e0]
            · refine (left_any g 0 l1 w1 (RR.out.below hfr.below)).mono ?_
              rw [HLEN.out]
              rintro e w2 ⟨rfl, rfl⟩
              exact ⟨_, rfl, rfl, Below.refl _ _⟩
          · intro a w1 hfr hdep
            have gd : a.tmps.getD 87 undef = .bool false := Loose.dep_of hdep 12 87 (by kernel_rfl)
            have f0 : a.tmps.getD 0 undef = .string s := hfr.slot 0 (by kernel_rfl)
            refine Loose.Step.valueG (Loose.wanted_of rfl rfl gd) (v := .string s) (w' := w1) ?_ rfl (Below.refl _ _)
            simp [go_sem, Act.eval, f0]
          · intro a w1 hfr hdep
            have gd : a.tmps.getD 87 undef = .bool false := Loose.dep_of hdep 12 87 (by kernel_rfl)
            have e0 : a.tmps.getD 90 undef = .string s := Loose.dep_of hdep 15 90 (by kernel_rfl)
            refine Loose.Step.valueG (Loose.wanted_of rfl rfl gd) (v := .int .i64 (s.size : Int)) (w' := w1) ?_ rfl (Below.refl _ _)
            simp [go_sem, Act.eval, e0]
          · intro a w1 hfr hdep
            have gd : a.tmps.getD 87 undef = .bool false := Loose.dep_of hdep 12 87 (by kernel_rfl)
            have f0 : a.tmps.getD 10 undef = .pointer (some ⟨bq, 0, none⟩) := hfr.slot 10 (by kernel_rfl)
            refine Loose.Step.valueG (Loose.wanted_of rfl rfl gd) (v := .pointer (some ⟨bq, 1, none⟩)) (w' := w1) ?_ rfl (Below.refl _ _)
            simp [go_sem, Act.eval, f0]
          · intro a w1 hfr hdep
            have hq_ := (hfr.below.block bq (lt_of_block QB.out)).trans QB.out
            have hc_ := box_cell hq_ 1 rfl
            have gd : a.tmps.getD 87 undef = .bool false := Loose.dep_of hdep 12 87 (by kernel_rfl)
            have e0 : a.tmps.getD 92 undef = .pointer (some ⟨bq, 1, none⟩) := Loose.dep_of hdep 17 92 (by kernel_rfl)
            refine Loose.Step.valueG (Loose.wanted_of rfl rfl gd) (v := .int .i64 (A1 : Int)) (w' := w1) ?_ rfl (Below.refl _ _)
            simp [go_sem, Act.eval, e0, hc_]
          · intro a w1 hfr hdep
            have gd : a.tmps.getD 87 undef = .bool false := Loose.dep_of hdep 12 87 (by kernel_rfl)
            have e0 : a.tmps.getD 91 undef = .int .i64 (s.size : Int) := Loose.dep_of hdep 16 91 (by kernel_rfl)
            have e1 : a.tmps.getD 93 undef = .int .i64 (A1 : Int) := Loose.dep_of hdep 18 93 (by kernel_rfl)
            refine Loose.Step.valueG (Loose.wanted_of rfl rfl gd) (v := .int .i64 ((s.size : Int) - (A1 : Int))) (w' := w1) ?_ rfl (Below.refl _ _)
            simp [go_sem, Act.eval, e0, e1, HWR.out]
          · intro a w1 hfr hdep
            have gd : a.tmps.getD 87 undef = .bool false := Loose.dep_of hdep 12 87 (by kernel_rfl)
            have e0 : a.tmps.getD 89 undef = .int .i64 ((s.size : Int) - (A1 : Int)) := Loose.dep_of hdep 14 89 (by kernel_rfl)
            have e1 : a.tmps.getD 94 undef = .int .i64 ((s.size : Int) - (A1 : Int)) := Loose.dep_of hdep 19 94 (by kernel_rfl)
            refine Loose.Step.valueG (Loose.wanted_of rfl rfl gd) (v := .bool true) (w' := w1) ?_ rfl (Below.refl _ _)
            simp [go_sem, Act.eval, e0, e1]
          · intro a w1 hfr hdep
            have gd : a.tmps.getD 84 undef = .bool true := Loose.dep_of hdep 9 84 (by kernel_rfl)
            have e0 : a.tmps.getD 87 undef = .bool false := Loose.dep_of hdep 12 87 (by kernel_rfl)
            have e1 : a.tmps.getD 95 undef = .bool true := Loose.dep_of hdep 20 95 (by kernel_rfl)
            refine Loose.Step.valueG (Loose.wanted_of rfl rfl gd) (v := .bool true) (w' := w1) ?_ rfl (Below.refl _ _)
            simp [go_sem, Act.eval, e0, e1]
          · intro a w1 hfr hdep
            have e0 : a.tmps.getD 84 undef = .bool true := Loose.dep_of hdep 9 84 (by kernel_rfl)
            have e1 : a.tmps.getD 96 undef = .bool true := Loose.dep_of hdep 21 96 (by kernel_rfl)
            refine Loose.Step.value rfl (v := .bool true) (w' := w1) ?_ rfl (Below.refl _ _)
            simp [go_sem, Act.eval, e0, e1]
          · intro a w1 hfr hdep
            have e0 : a.tmps.getD 97 undef = .bool true := Loose.dep_of hdep 22 97 (by kernel_rfl)
            refine Loose.Step.value rfl (v := .bool true) (w' := w1) ?_ rfl (Below.refl _ _)
            simp [go_sem, Act.eval, e0]
          · intro a w1 hfr hdep
            have gd : a.tmps.getD 98 undef = .bool true := Loose.dep_of hdep 23 98 (by kernel_rfl)
            refine Loose.Step.callG (Loose.wanted_of rfl rfl gd) (f := 10) (args := #[]) ?_ ?_
            · simp [go_sem]
            · refine (works_any w1 (HL.out.below (B9.out.trans (hfr.below.mono B9.out.size)))).mono ?_
              rintro e w2 ⟨rfl, hb⟩
              exact ⟨_, rfl, rfl, hb⟩
          · intro a w1 hfr hdep
            have e0 : a.tmps.getD 98 undef = .bool true := Loose.dep_of hdep 23 98 (by kernel_rfl)
            have e1 : a.tmps.getD 99 undef = .bool true := Loose.dep_of hdep 24 99 (by kernel_rfl)
            refine Loose.Step.value rfl (v := .bool true) (w' := w1) ?_ rfl (Below.refl _ _)
            simp [go_sem, Act.eval, e0, e1]
          · intro a w1 hfr hdep
            have e0 : a.tmps.getD 100 undef = .bool true := Loose.dep_of hdep 25 100 (by kernel_rfl)
            refine Loose.Step.value rfl (v := .bool true) (w' := w1) ?_ rfl (Below.refl _ _)
            simp [go_sem, Act.eval, e0]
        · intro v0 v1 v2 v3 v4 v5 v6 v7 v8 v9 v10 v11 v12 v13 v14 v15 v16 v17 v18 v19 v20 v21 v22 v23 v24 v25 v26 w8 hb8 hC
          have hlast : v26 = .bool true := hC.2
          subst hlast
          have B20 := Lib.hid (B9.out.trans (hb8.mono B9.out.size))
          clear hC hb8
          simp only [SpecOwn.put_lit, List.set_cons_succ, List.set_cons_zero]
          go_wp2_with fail
          go_ret
          exact ⟨rfl, B20.out⟩
    · have HCK := Lib.hid hck
      have HFC := Lib.hid (show fst c1 (checkV S).1 = (checkV S).1 by rw [hc1]; rfl)
      have HFS := Lib.hid (show fst c1 (checkV S).1 ≠ 0 by rw [hc1]; exact hck)
      have HY := Lib.hid (show (firstV [newV (endE c1 l1) t_wire, checkV S]).1 ≠ 0 by
        by_cases he : endE c1 l1 = 0
        · simp [firstV, newV, he, fine, hck]
        · simp [firstV, newV, he])
      clear hc1 hck
      go_wp2_with fail
      refine (of_any s HFW.out S c1 l1 HQ.out w HL.out).mono ?_
      rintro e w1 ⟨E, hE, hb1, hcase⟩
      have B1 := Lib.hid hb1
      rcases hcase with ⟨h0, _⟩ | ⟨_, rfl⟩
      · exact absurd h0 HY.out
      rcases hE.form with rfl | ⟨eu, ex, rfl⟩
      · exact absurd (hE.nil_iff.1 rfl) HY.out
      have HE1 := Lib.hid hE
      clear hE hb1
      obtain ⟨qw2, hqw2⟩ : ∃ v, w1.alloc (.cells #[.string ⟨#[]⟩, .slice none 0 0, .slice none 0 0, .slice none 0 0, .int .i64 0, .int .i64 0, .int .i64 0] 28) = v := ⟨_, rfl⟩
      have hba_ : Below w1.heap.size w1 qw2 := by rw [← hqw2]; exact (Below.refl _ _).alloc (Nat.le_refl _) _
      have hbz_ : qw2.heap[w1.heap.size]? = some (.cells #[.string ⟨#[]⟩, .slice none 0 0, .slice none 0 0, .slice none 0 0, .int .i64 0, .int .i64 0, .int .i64 0] 28) := by rw [← hqw2]; exact heap_alloc_new w1 _
      have qw2vc0 := box_cell hbz_ 0 rfl
      have qw2vf0 := box_free hbz_ 0
      obtain ⟨qw2v1, qw2ve1⟩ : ∃ v, qw2.setCell ⟨(w1.heap.size), 0, none⟩ (.string ⟨#[]⟩) = v := ⟨_, rfl⟩
      have qw2vz1 := box_set hbz_ 0 (.string ⟨#[]⟩) (B := #[.string ⟨#[]⟩, .slice none 0 0, .slice none 0 0, .slice none 0 0, .int .i64 0, .int .i64 0, .int .i64 0]) rfl
      rw [qw2ve1] at qw2vz1
      have qw2vo1 : Only (w1.heap.size) qw2 qw2v1 := by rw [← qw2ve1]; exact (Only.refl (w1.heap.size) qw2).set 0 _
      have qw2vc1 := box_cell qw2vz1 1 rfl
      have qw2vf1 := box_free qw2vz1 1
      obtain ⟨qw2v2, qw2ve2⟩ : ∃ v, qw2v1.setCell ⟨(w1.heap.size), 1, none⟩ (.slice none 0 0) = v := ⟨_, rfl⟩
      have qw2vz2 := box_set qw2vz1 1 (.slice none 0 0) (B := #[.string ⟨#[]⟩, .slice none 0 0, .slice none 0 0, .slice none 0 0, .int .i64 0, .int .i64 0, .int .i64 0]) rfl
      rw [qw2ve2] at qw2vz2
      have qw2vo2 : Only (w1.heap.size) qw2 qw2v2 := by rw [← qw2ve2]; exact qw2vo1.set 1 _
      have qw2vc2 := box_cell qw2vz2 2 rfl
      have qw2vf2 := box_free qw2vz2 2
      obtain ⟨qw2v3, qw2ve3⟩ : ∃ v, qw2v2.setCell ⟨(w1.heap.size), 2, none⟩ (.slice none 0 0) = v := ⟨_, rfl⟩
      have qw2vz3 := box_set qw2vz2 2 (.slice none 0 0) (B := #[.string ⟨#[]⟩, .slice none 0 0, .slice none 0 0, .slice none 0 0, .int .i64 0, .int .i64 0, .int .i64 0]) rfl
      rw [qw2ve3] at qw2vz3
      have qw2vo3 : Only (w1.heap.size) qw2 qw2v3 := by rw [← qw2ve3]; exact qw2vo2.set 2 _
      have qw2vc3 := box_cell qw2vz3 3 rfl
      have qw2vf3 := box_free qw2vz3 3
      obtain ⟨qw2v4, qw2ve4⟩ : ∃ v, qw2v3.setCell ⟨(w1.heap.size), 3, none⟩ (.slice none 0 0) = v := ⟨_, rfl⟩
      have qw2vz4 := box_set qw2vz3 3 (.slice none 0 0) (B := #[.string ⟨#[]⟩, .slice none 0 0, .slice none 0 0, .slice none 0 0, .int .i64 0, .int .i64 0, .int .i64 0]) rfl
      rw [qw2ve4] at qw2vz4
      have qw2vo4 : Only (w1.heap.size) qw2 qw2v4 := by rw [← qw2ve4]; exact qw2vo3.set 3 _
      have qw2vc4 := box_cell qw2vz4 4 rfl
      have qw2vf4 := box_free qw2vz4 4
      obtain ⟨qw2v5, qw2ve5⟩ : ∃ v, qw2v4.setCell ⟨(w1.heap.size), 4, none⟩ (.int .i64 0) = v := ⟨_, rfl⟩
      have qw2vz5 := box_set qw2vz4 4 (.int .i64 0) (B := #[.string ⟨#[]⟩, .slice none 0 0, .slice none 0 0, .slice none 0 0, .int .i64 0, .int .i64 0, .int .i64 0]) rfl
      rw [qw2ve5] at qw2vz5
      have qw2vo5 : Only (w1.heap.size) qw2 qw2v5 := by rw [← qw2ve5]; exact qw2vo4.set 4 _
      have qw2vc5 := box_cell qw2vz5 5 rfl
      have qw2vf5 := box_free qw2vz5 5
      obtain ⟨qw2v6, qw2ve6⟩ : ∃ v, qw2v5.setCell ⟨(w1.heap.size), 5, none⟩ (.int .i64 0) = v := ⟨_, rfl⟩
      have qw2vz6 := box_set qw2vz5 5 (.int .i64 0) (B := #[.string ⟨#[]⟩, .slice none 0 0, .slice none 0 0, .slice none 0 0, .int .i64 0, .int .i64 0, .int .i64 0]) rfl
      rw [qw2ve6] at qw2vz6
      have qw2vo6 : Only (w1.heap.size) qw2 qw2v6 := by rw [← qw2ve6]; exact qw2vo5.set 5 _
      have qw2vc6 := box_cell qw2vz6 6 rfl
      have qw2vf6 := box_free qw2vz6 6
      obtain ⟨w2, qw2ve7⟩ : ∃ v, qw2v6.setCell ⟨(w1.heap.size), 6, none⟩ (.int .i64 0) = v := ⟨_, rfl⟩
      have qw2vz7 := box_set qw2vz6 6 (.int .i64 0) (B := #[.string ⟨#[]⟩, .slice none 0 0, .slice none 0 0, .slice none 0 0, .int .i64 0, .int .i64 0, .int .i64 0]) rfl
      rw [qw2ve7] at qw2vz7
      have qw2vo7 : Only (w1.heap.size) qw2 w2 := by rw [← qw2ve7]; exact qw2vo6.set 6 _
      have qw2vr0 := box_cell qw2vz7 0 rfl
      have qw2vr1 := box_cell qw2vz7 1 rfl
      have qw2vr2 := box_cell qw2vz7 2 rfl
      have qw2vr3 := box_cell qw2vz7 3 rfl
      have qw2vr4 := box_cell qw2vz7 4 rfl
      have qw2vr5 := box_cell qw2vz7 5 rfl
      have qw2vr6 := box_cell qw2vz7 6 rfl
      have qw2vO := Lib.hid qw2vo7
      have AB2 := Lib.hid qw2vz7
      clear qw2vz1 qw2vo1 qw2vz2 qw2vo2 qw2vz3 qw2vo3 qw2vz4 qw2vo4 qw2vz5 qw2vo5 qw2vz6 qw2vo6 qw2vz7 qw2vo7
      have hb : Below w1.heap.size w1 w2 := qw2vO.out.below hba_ (Nat.le_refl _)
      have B2 := Lib.hid (B1.out.trans (hb.mono B1.out.size))
      have HE2 := Lib.hid (Says.keep HE1.out (fun b _ hl => ⟨Nat.zero_le b, hb.block b hl⟩))
      clear hb hba_ hbz_ qw2vO
      have hw2 : True := trivial
      clear HE1
      go_wp2_with fail
      obtain ⟨ba, hba⟩ : ∃ b, w1.heap.size = b := ⟨_, rfl⟩
      rw [hba] at AB2 ⊢
      clear hba
      first | rw [hw2] | skip
      clear hw2
      refine (of_ref2 s (by have := HSL.out; omega) S c1 l1 HQ.out w2).mono ?_
      rintro e w3 ⟨hcase, hb3⟩
      rcases hcase with ⟨h0, _⟩ | ⟨_, rfl⟩
      · exact absurd h0 HY.out
      have B3 := Lib.hid (B2.out.trans (hb3.mono B2.out.size))
      have AB3 := Lib.hid ((hb3.block ba (lt_of_block AB2.out)).trans AB2.out)
      have HE3 := Lib.hid (Says.keep HE2.out (fun b _ hl => ⟨Nat.zero_le b, hb3.block b hl⟩))
      clear hb3 AB2 HE2
      obtain ⟨qw4, hqw4⟩ : ∃ v, w3.alloc (.cells #[.string ⟨#[]⟩, .slice none 0 0, .slice none 0 0, .slice none 0 0, .int .i64 0, .int .i64 0, .int .i64 0] 28) = v := ⟨_, rfl⟩
      have hba_ : Below w3.heap.size w3 qw4 := by rw [← hqw4]; exact (Below.refl _ _).alloc (Nat.le_refl _) _
      have hbz_ : qw4.heap[w3.heap.size]? = some (.cells #[.string ⟨#[]⟩, .slice none 0 0, .slice none 0 0, .slice none 0 0, .int .i64 0, .int .i64 0, .int .i64 0] 28) := by rw [← hqw4]; exact heap_alloc_new w3 _
      have qw4vc0 := box_cell hbz_ 0 rfl
      have qw4vf0 := box_free hbz_ 0
      obtain ⟨qw4v1, qw4ve1⟩ : ∃ v, qw4.setCell ⟨(w3.heap.size), 0, none⟩ (.string ⟨#[]⟩) = v := ⟨_, rfl⟩
      have qw4vz1 := box_set hbz_ 0 (.string ⟨#[]⟩) (B := #[.string ⟨#[]⟩, .slice none 0 0, .slice none 0 0, .slice none 0 0, .int .i64 0, .int .i64 0, .int .i64 0]) rfl
      rw [qw4ve1] at qw4vz1
      have qw4vo1 : Only (w3.heap.size) qw4 qw4v1 := by rw [← qw4ve1]; exact (Only.refl (w3.heap.size) qw4).set 0 _
      have qw4vc1 := box_cell qw4vz1 1 rfl
      have qw4vf1 := box_free qw4vz1 1
      obtain ⟨qw4v2, qw4ve2⟩ : ∃ v, qw4v1.setCell ⟨(w3.heap.size), 1, none⟩ (.slice none 0 0) = v := ⟨_, rfl⟩
      have qw4vz2 := box_set qw4vz1 1 (.slice none 0 0) (B := #[.string ⟨#[]⟩, .slice none 0 0, .slice none 0 0, .slice none 0 0, .int .i64 0, .int .i64 0, .int .i64 0]) rfl
      rw [qw4ve2] at qw4vz2
      have qw4vo2 : Only (w3.heap.size) qw4 qw4v2 := by rw [← qw4ve2]; exact qw4vo1.set 1 _
      have qw4vc2 := box_cell qw4vz2 2 rfl
      have qw4vf2 := box_free qw4vz2 2
      obtain ⟨qw4v3, qw4ve3⟩ : ∃ v, qw4v2.setCell ⟨(w3.heap.size), 2, none⟩ (.slice none 0 0) = v := ⟨_, rfl⟩
      have qw4vz3 := box_set qw4vz2 2 (.slice none 0 0) (B := #[.string ⟨#[]⟩, .slice none 0 0, .slice none 0 0, .slice none 0 0, .int .i64 0, .int .i64 0, .int .i64 0]) rfl
      rw [qw4ve3] at qw4vz3
      have qw4vo3 : Only (w3.heap.size) qw4 qw4v3 := by rw [← qw4ve3]; exact qw4vo2.set 2 _
      have qw4vc3 := box_cell qw4vz3 3 rfl
      have qw4vf3 := box_free qw4vz3 3
      obtain ⟨qw4v4, qw4ve4⟩ : ∃ v, qw4v3.setCell ⟨(w3.heap.size), 3, none⟩ (.slice none 0 0) = v := ⟨_, rfl⟩
      have qw4vz4 := box_set qw4vz3 3 (.slice none 0 0) (B := #[.string ⟨#[]⟩, .slice none 0 0, .slice none 0 0, .slice none 0 0, .int .i64 0, .int .i64 0, .int .i64 0]) rfl
      rw [qw4ve4] at qw4vz4
      have qw4vo4 : Only (w3.heap.size) qw4 qw4v4 := by rw [← qw4ve4]; exact qw4vo3.set 3 _
      have qw4vc4 := box_cell qw4vz4 4 rfl
      have qw4vf4 := box_free qw4vz4 4
      obtain ⟨qw4v5, qw4ve5⟩ : ∃ v, qw4v4.setCell ⟨(w3.heap.size), 4, none⟩ (.int .i64 0) = v := ⟨_, rfl⟩
      have qw4vz5 := box_set qw4vz4 4 (.int .i64 0) (B := #[.string ⟨#[]⟩, .slice none 0 0, .slice none 0 0, .slice none 0 0, .int .i64 0, .int .i64 0, .int .i64 0]) rfl
      rw [qw4ve5] at qw4vz5
      have qw4vo5 : Only (w3.heap.size) qw4 qw4v5 := by rw [← qw4ve5]; exact qw4vo4.set 4 _
      have qw4vc5 := box_cell qw4vz5 5 rfl
      have qw4vf5 := box_free qw4vz5 5
      obtain ⟨qw4v6, qw4ve6⟩ : ∃ v, qw4v5.setCell ⟨(w3.heap.size), 5, none⟩ (.int .i64 0) = v := ⟨_, rfl⟩
      have qw4vz6 := box_set qw4vz5 5 (.int .i64 0) (B := #[.string ⟨#[]⟩, .slice none 0 0, .slice none 0 0, .slice none 0 0, .int .i64 0, .int .i64 0, .int .i64 0]) rfl
      rw [qw4ve6] at qw4vz6
      have qw4vo6 : Only (w3.heap.size) qw4 qw4v6 := by rw [← qw4ve6]; exact qw4vo5.set 5 _
      have qw4vc6 := box_cell qw4vz6 6 rfl
      have qw4vf6 := box_free qw4vz6 6
      obtain ⟨w4, qw4ve7⟩ : ∃ v, qw4v6.setCell ⟨(w3.heap.size), 6, none⟩ (.int .i64 0) = v := ⟨_, rfl⟩
      have qw4vz7 := box_set qw4vz6 6 (.int .i64 0) (B := #[.string ⟨#[]⟩, .slice none 0 0, .slice none 0 0, .slice none 0 0, .int .i64 0, .int .i64 0, .int .i64 0]) rfl
      rw [qw4ve7] at qw4vz7
      have qw4vo7 : Only (w3.heap.size) qw4 w4 := by rw [← qw4ve7]; exact qw4vo6.set 6 _
      have qw4vr0 := box_cell qw4vz7 0 rfl
      have qw4vr1 := box_cell qw4vz7 1 rfl
      have qw4vr2 := box_cell qw4vz7 2 rfl
      have qw4vr3 := box_cell qw4vz7 3 rfl
      have qw4vr4 := box_cell qw4vz7 4 rfl
      have qw4vr5 := box_cell qw4vz7 5 rfl
      have qw4vr6 := box_cell qw4vz7 6 rfl
      have qw4vO := Lib.hid qw4vo7
      have BB4 := Lib.hid qw4vz7
      clear qw4vz1 qw4vo1 qw4vz2 qw4vo2 qw4vz3 qw4vo3 qw4vz4 qw4vo4 qw4vz5 qw4vo5 qw4vz6 qw4vo6 qw4vz7 qw4vo7
      have hb : Below w3.heap.size w3 w4 := qw4vO.out.below hba_ (Nat.le_refl _)
      have B4 := Lib.hid (B3.out.trans (hb.mono B3.out.size))
      have HE4 := Lib.hid (Says.keep HE3.out (fun b _ hl => ⟨Nat.zero_le b, hb.block b hl⟩))
      have AB4 := Lib.hid ((hb.block ba (lt_of_block AB3.out)).trans AB3.out)
      clear hb hba_ hbz_ qw4vO
      have hw4 : True := trivial
      clear HE3 AB3
      have ca0 := box_cell AB4.out 0 rfl
      have cb0 := box_cell BB4.out 0 rfl
      have ca1 := box_cell AB4.out 1 rfl
      have cb1 := box_cell BB4.out 1 rfl
      have ca2 := box_cell AB4.out 2 rfl
      have cb2 := box_cell BB4.out 2 rfl
      have ca3 := box_cell AB4.out 3 rfl
      have cb3 := box_cell BB4.out 3 rfl
      have ca4 := box_cell AB4.out 4 rfl
      have cb4 := box_cell BB4.out 4 rfl
      have ca5 := box_cell AB4.out 5 rfl
      have cb5 := box_cell BB4.out 5 rfl
      have ca6 := box_cell AB4.out 6 rfl
      have cb6 := box_cell BB4.out 6 rfl
      obtain ⟨Y0, hY0⟩ : ∃ d, (firstV [newV (endE c1 l1) t_wire, checkV S]) = d := ⟨_, rfl⟩
      rw [hY0] at HE4 HY ⊢
      obtain ⟨cy, py⟩ := Y0
      have hcy : (cy == 0) = false := by simpa using HY.out
      go_wp2_with fail
      obtain ⟨bb, hbb⟩ : ∃ b, w3.heap.size = b := ⟨_, rfl⟩
      rw [hbb] at BB4 ⊢
      clear hbb
      first | rw [hw4] | skip
      clear hw4
      have hrun := sameSpec_any Z0 none 0 none 0 none 0 Z0 none 0 none 0 none 0 w4 (z0_in w4) (z0_in w4)
      rw [(sameS_iff Z0 Z0).2 rfl] at hrun
      refine hrun.mono ?_
      rintro e w5 ⟨rfl, hb5⟩
      clear hrun
      have B5 := Lib.hid (B4.out.trans (hb5.mono B4.out.size))
      have HE5 := Lib.hid (Says.keep HE4.out (fun b _ hl => ⟨Nat.zero_le b, hb5.block b hl⟩))
      clear hb5 HE4 ca0 cb0 ca1 cb1 ca2 cb2 ca3 cb3 ca4 cb4 ca5 cb5 ca6 cb6
      go_wp2_with fail
      refine (code_says HE5.out (HL.out.below B5.out).err).mono ?_
      rintro e w6 ⟨rfl, hb6⟩
      have B6 := Lib.hid (B5.out.trans (hb6.mono B5.out.size))
      have HE6 := Lib.hid (Says.keep HE5.out (fun b _ hl => ⟨Nat.zero_le b, hb6.block b hl⟩))
      clear hb6 HE5
      go_wp2_with fail
      refine (text_says HE6.out).mono ?_
      rintro e w7 ⟨rfl, hb7⟩
      have B7 := Lib.hid (B6.out.trans (hb7.mono B6.out.size))
      clear hb7 HE6 AB4 BB4
      go_wp2_with fail
      refine (read_any s w7).mono ?_
      rintro e w8 ⟨rfl, h8, hb8, hs8⟩
      obtain ⟨g, hg⟩ : ∃ b, w7.heap.size = b := ⟨_, rfl⟩
      have HGG := Lib.hid hg
      have B8 := Lib.hid (B7.out.trans (hb8.mono B7.out.size))
      have HWG := Lib.hid (show w.heap.size ≤ g by rw [← hg]; exact B7.out.size)
      rw [hg] at h8 ⊢
      have R8 := Lib.hid h8
      clear h8 hb8 hs8 hg
      go_wp2_with fail
      refine (take_rd g 0 s.data.toList HFW.out S c1 l1 HQ.out w w8 HL.out B8.out HWG.out R8.out).mono ?_
      rintro e w9 ⟨h9, k9, hcase⟩
      have B9 := Lib.hid (B8.out.trans (k9.below (fun k hk => ⟨Nat.lt_of_lt_of_le hk B8.out.size, by have := HWG.out; omega⟩)))
      rcases hcase with ⟨h0, _⟩ | ⟨_, rfl⟩
      · exact absurd h0 HFS.out
      rw [HFC.out] at h9
      have R9 := Lib.hid h9
      clear h9 k9 R8
      obtain ⟨qw10, hqw10⟩ : ∃ v, w9.alloc (.cells #[.string ⟨#[]⟩, .slice none 0 0, .slice none 0 0, .slice none 0 0, .int .i64 0, .int .i64 0, .int .i64 0] 28) = v := ⟨_, rfl⟩
      have hba_ : Below w9.heap.size w9 qw10 := by rw [← hqw10]; exact (Below.refl _ _).alloc (Nat.le_refl _) _
      have hbz_ : qw10.heap[w9.heap.size]? = some (.cells #[.string ⟨#[]⟩, .slice none 0 0, .slice none 0 0, .slice none 0 0, .int .i64 0, .int .i64 0, .int .i64 0] 28) := by rw [← hqw10]; exact heap_alloc_new w9 _
      have qw10vc0 := box_cell hbz_ 0 rfl
      have qw10vf0 := box_free hbz_ 0
      obtain ⟨qw10v1, qw10ve1⟩ : ∃ v, qw10.setCell ⟨(w9.heap.size), 0, none⟩ (.string ⟨#[]⟩) = v := ⟨_, rfl⟩
      have qw10vz1 := box_set hbz_ 0 (.string ⟨#[]⟩) (B := #[.string ⟨#[]⟩, .slice none 0 0, .slice none 0 0, .slice none 0 0, .int .i64 0, .int .i64 0, .int .i64 0]) rfl
      rw [qw10ve1] at qw10vz1
      have qw10vo1 : Only (w9.heap.size) qw10 qw10v1 := by rw [← qw10ve1]; exact (Only.refl (w9.heap.size) qw10).set 0 _
      have qw10vc1 := box_cell qw10vz1 1 rfl
      have qw10vf1 := box_free qw10vz1 1
      obtain ⟨qw10v2, qw10ve2⟩ : ∃ v, qw10v1.setCell ⟨(w9.heap.size), 1, none⟩ (.slice none 0 0) = v := ⟨_, rfl⟩
      have qw10vz2 := box_set qw10vz1 1 (.slice none 0 0) (B := #[.string ⟨#[]⟩, .slice none 0 0, .slice none 0 0, .slice none 0 0, .int .i64 0, .int .i64 0, .int .i64 0]) rfl
      rw [qw10ve2] at qw10vz2
      have qw10vo2 : Only (w9.heap.size) qw10 qw10v2 := by rw [← qw10ve2]; exact qw10vo1.set 1 _
      have qw10vc2 := box_cell qw10vz2 2 rfl
      have qw10vf2 := box_free qw10vz2 2
      obtain ⟨qw10v3, qw10ve3⟩ : ∃ v, qw10v2.setCell ⟨(w9.heap.size), 2, none⟩ (.slice none 0 0) = v := ⟨_, rfl⟩
      have qw10vz3 := box_set qw10vz2 2 (.slice none 0 0) (B := #[.string ⟨#[]⟩, .slice none 0 0, .slice none 0 0, .slice none 0 0, .int .i64 0, .int .i64 0, .int .i64 0]) rfl
      rw [qw10ve3] at qw10vz3
      have qw10vo3 : Only (w9.heap.size) qw10 qw10v3 := by rw [← qw10ve3]; exact qw10vo2.set 2 _
      have qw10vc3 := box_cell qw10vz3 3 rfl
      have qw10vf3 := box_free qw10vz3 3
      obtain ⟨qw10v4, qw10ve4⟩ : ∃ v, qw10v3.setCell ⟨(w9.heap.size), 3, none⟩ (.slice none 0 0) = v := ⟨_, rfl⟩
      have qw10vz4 := box_set qw10vz3 3 (.slice none 0 0) (B := #[.string ⟨#[]⟩, .slice none 0 0, .slice none 0 0, .slice none 0 0, .int .i64 0, .int .i64 0, .int .i64 0]) rfl
      rw [qw10ve4] at qw10vz4
      have qw10vo4 : Only (w9.heap.size) qw10 qw10v4 := by rw [← qw10ve4]; exact qw10vo3.set 3 _
      have qw10vc4 := box_cell qw10vz4 4 rfl
      have qw10vf4 := box_free qw10vz4 4
      obtain ⟨qw10v5, qw10ve5⟩ : ∃ v, qw10v4.setCell ⟨(w9.heap.size), 4, none⟩ (.int .i64 0) = v := ⟨_, rfl⟩
      have qw10vz5 := box_set qw10vz4 4 (.int .i64 0) (B := #[.string ⟨#[]⟩, .slice none 0 0, .slice none 0 0, .slice none 0 0, .int .i64 0, .int .i64 0, .int .i64 0]) rfl
      rw [qw10ve5] at qw10vz5
      have qw10vo5 : Only (w9.heap.size) qw10 qw10v5 := by rw [← qw10ve5]; exact qw10vo4.set 4 _
      have qw10vc5 := box_cell qw10vz5 5 rfl
      have qw10vf5 := box_free qw10vz5 5
      obtain ⟨qw10v6, qw10ve6⟩ : ∃ v, qw10v5.setCell ⟨(w9.heap.size), 5, none⟩ (.int .i64 0) = v := ⟨_, rfl⟩
      have qw10vz6 := box_set qw10vz5 5 (.int .i64 0) (B := #[.string ⟨#[]⟩, .slice none 0 0, .slice none 0 0, .slice none 0 0, .int .i64 0, .int .i64 0, .int .i64 0]) rfl
      rw [qw10ve6] at qw10vz6
      have qw10vo6 : Only (w9.heap.size) qw10 qw10v6 := by rw [← qw10ve6]; exact qw10vo5.set 5 _
      have qw10vc6 := box_cell qw10vz6 6 rfl
      have qw10vf6 := box_free qw10vz6 6
      obtain ⟨w10, qw10ve7⟩ : ∃ v, qw10v6.setCell ⟨(w9.heap.size), 6, none⟩ (.int .i64 0) = v := ⟨_, rfl⟩
      have qw10vz7 := box_set qw10vz6 6 (.int .i64 0) (B := #[.string ⟨#[]⟩, .slice none 0 0, .slice none 0 0, .slice none 0 0, .int .i64 0, .int .i64 0, .int .i64 0]) rfl
      rw [qw10ve7] at qw10vz7
      have qw10vo7 : Only (w9.heap.size) qw10 w10 := by rw [← qw10ve7]; exact qw10vo6.set 6 _
      have qw10vr0 := box_cell qw10vz7 0 rfl
      have qw10vr1 := box_cell qw10vz7 1 rfl
      have qw10vr2 := box_cell qw10vz7 2 rfl
      have qw10vr3 := box_cell qw10vz7 3 rfl
      have qw10vr4 := box_cell qw10vz7 4 rfl
      have qw10vr5 := box_cell qw10vz7 5 rfl
      have qw10vr6 := box_cell qw10vz7 6 rfl
      have qw10vO := Lib.hid qw10vo7
      have XB10 := Lib.hid qw10vz7
      clear qw10vz1 qw10vo1 qw10vz2 qw10vo2 qw10vz3 qw10vo3 qw10vz4 qw10vo4 qw10vz5 qw10vo5 qw10vz6 qw10vo6 qw10vz7 qw10vo7
      have hb : Below w9.heap.size w9 w10 := qw10vO.out.below hba_ (Nat.le_refl _)
      have B10 := Lib.hid (B9.out.trans (hb.mono B9.out.size))
      have R10 := Lib.hid (R9.out.below hb)
      clear hb hba_ hbz_ qw10vO
      have hw10 : True := trivial
      have HR9 := Lib.hid (show g < w9.heap.size from lt_of_block R9.out)
      clear R9
      go_wp2_with fail
      obtain ⟨bx, hbx⟩ : ∃ b, w9.heap.size = b := ⟨_, rfl⟩
      have HXG := Lib.hid (show g < bx by rw [← hbx]; exact HR9.out)
      rw [hbx] at XB10 ⊢
      clear hbx
      first | rw [hw10] | skip
      clear hw10
      refine (take_ref s (by have := HSL.out; omega) 0 0 s.data.toList HA.out S c1 l1 HQ.out w10).mono ?_
      rintro e w11 ⟨A1, LB, IB, MB, n2, ld, n3, ie, n4, md, rfl, h11, hup, hb11⟩
      have A11 := Lib.hid h11
      have B11 := Lib.hid (B10.out.trans (hb11.mono B10.out.size))
      have HGX := Lib.hid (show g < bx by have := lt_of_block R10.out; have := HXG.out; omega)
      have XB11 := Lib.hid ((hb11.block bx (lt_of_block XB10.out)).trans XB10.out)
      have R11 := Lib.hid (R10.out.below hb11)
      obtain ⟨rfl, rfl, rfl, hu⟩ := hup HC1.out
      have UY11 := Lib.hid hu
      clear hu
      clear h11 hup hb11 XB10 R10
      obtain ⟨w13, hw13⟩ : ∃ v, (w11.alloc (.cells #[.string s, .int .i64 A1, .int .i64 c1] 31)).alloc (.cells #[.string S.name, .slice LB S.labels.length ld, .slice IB S.init.length ie, .slice MB S.main.length md, .int .i64 S.restart, .int .i64 S.grace, .int .i64 S.prio] 28) = v := ⟨_, rfl⟩
      have HBX := Lib.hid (two_boxes w11 _ _ w13 hw13)
      have hb : Below w11.heap.size w11 w13 := HBX.out.1
      have QB13 := Lib.hid HBX.out.2.1
      have YB13 := Lib.hid HBX.out.2.2
      clear HBX
      have B13 := Lib.hid (B11.out.trans (hb.mono B11.out.size))
      have XB13 := Lib.hid ((hb.block bx (lt_of_block XB11.out)).trans XB11.out)
      have R13 := Lib.hid (R11.out.below hb)
      have UY13 := Lib.hid (UY11.out.below hb)
      clear hb
      have hne1 : bx < w11.heap.size := lt_of_block XB11.out
      have hq2 := box_cell QB13.out 2 rfl
      have cy0 := box_cell YB13.out 0 rfl
      have cy1 := box_cell YB13.out 1 rfl
      have cy2 := box_cell YB13.out 2 rfl
      have cy3 := box_cell YB13.out 3 rfl
      have cy4 := box_cell YB13.out 4 rfl
      have cy5 := box_cell YB13.out 5 rfl
      have cy6 := box_cell YB13.out 6 rfl
      have hlen := A11.out.len
      have hle := A11.out.1
      obtain rfl : c1 = 0 := HC1.out
      clear XB11 R11 UY11
      go_wp2_with fail
      obtain ⟨bq, hbq⟩ : ∃ b, w11.heap.size = b := ⟨_, rfl⟩
      first | rw [hw13] | skip
      rw [hbq] at QB13 YB13 hq2 hne1 cy0 cy1 cy2 cy3 cy4 cy5 cy6 ⊢
      clear hw13 hbq
      refine (check_ref S LB ld IB ie MB md (spec_light HOK.out) w13 UY13.out.in).mono ?_
      rintro e w14 ⟨rfl, hb14⟩
      have B14 := Lib.hid (B13.out.trans (hb14.mono B13.out.size))
      have XB14 := Lib.hid ((hb14.block bx (lt_of_block XB13.out)).trans XB13.out)
      have QB14 := Lib.hid ((hb14.block bq (lt_of_block QB13.out)).trans QB13.out)
      have YB14 := Lib.hid ((hb14.block (bq + 1) (lt_of_block YB13.out)).trans YB13.out)
      have R14 := Lib.hid (R13.out.below hb14)
      have UY14 := Lib.hid (UY13.out.below hb14)
      clear hb14 hq2 XB13 QB13 YB13 R13 UY13 cy0 cy1 cy2 cy3 cy4 cy5 cy6
      obtain ⟨cz, hcz⟩ : ∃ d, (checkV S).1 = d := ⟨_, rfl⟩
      rw [hcz] at R14 HCK ⊢
      clear hcz
      have hcz2 : (cz != 0) = true := by simpa using HCK.out
      have HCZ := Lib.hid (show ¬ cz = 0 from HCK.out)
      have z13 := YB14.out
      have zzc0 := box_cell z13 0 rfl
      have zzf0 := box_free z13 0
      obtain ⟨zz1, zze1⟩ : ∃ v, w14.setCell ⟨(bq + 1), 0, none⟩ (.string ⟨#[]⟩) = v := ⟨_, rfl⟩
      have zzz1 := box_set z13 0 (.string ⟨#[]⟩) (B := #[.string ⟨#[]⟩, .slice LB S.labels.length ld, .slice IB S.init.length ie, .slice MB S.main.length md, .int .i64 S.restart, .int .i64 S.grace, .int .i64 S.prio]) rfl
      rw [zze1] at zzz1
      have zzo1 : Only (bq + 1) w14 zz1 := by rw [← zze1]; exact (Only.refl (bq + 1) w14).set 0 _
      have zzc1 := box_cell zzz1 1 rfl
      have zzf1 := box_free zzz1 1
      obtain ⟨zz2, zze2⟩ : ∃ v, zz1.setCell ⟨(bq + 1), 1, none⟩ (.slice none 0 0) = v := ⟨_, rfl⟩
      have zzz2 := box_set zzz1 1 (.slice none 0 0) (B := #[.string ⟨#[]⟩, .slice none 0 0, .slice IB S.init.length ie, .slice MB S.main.length md, .int .i64 S.restart, .int .i64 S.grace, .int .i64 S.prio]) rfl
      rw [zze2] at zzz2
      have zzo2 : Only (bq + 1) w14 zz2 := by rw [← zze2]; exact zzo1.set 1 _
      have zzc2 := box_cell zzz2 2 rfl
      have zzf2 := box_free zzz2 2
      obtain ⟨zz3, zze3⟩ : ∃ v, zz2.setCell ⟨(bq + 1), 2, none⟩ (.slice none 0 0) = v := ⟨_, rfl⟩
      have zzz3 := box_set zzz2 2 (.slice none 0 0) (B := #[.string ⟨#[]⟩, .slice none 0 0, .slice none 0 0, .slice MB S.main.length md, .int .i64 S.restart, .int .i64 S.grace, .int .i64 S.prio]) rfl
      rw [zze3] at zzz3
      have zzo3 : Only (bq + 1) w14 zz3 := by rw [← zze3]; exact zzo2.set 2 _
      have zzc3 := box_cell zzz3 3 rfl
      have zzf3 := box_free zzz3 3
      obtain ⟨zz4, zze4⟩ : ∃ v, zz3.setCell ⟨(bq + 1), 3, none⟩ (.slice none 0 0) = v := ⟨_, rfl⟩
      have zzz4 := box_set zzz3 3 (.slice none 0 0) (B := #[.string ⟨#[]⟩, .slice none 0 0, .slice none 0 0, .slice none 0 0, .int .i64 S.restart, .int .i64 S.grace, .int .i64 S.prio]) rfl
      rw [zze4] at zzz4
      have zzo4 : Only (bq + 1) w14 zz4 := by rw [← zze4]; exact zzo3.set 3 _
      have zzc4 := box_cell zzz4 4 rfl
      have zzf4 := box_free zzz4 4
      obtain ⟨zz5, zze5⟩ : ∃ v, zz4.setCell ⟨(bq + 1), 4, none⟩ (.int .i64 0) = v := ⟨_, rfl⟩
      have zzz5 := box_set zzz4 4 (.int .i64 0) (B := #[.string ⟨#[]⟩, .slice none 0 0, .slice none 0 0, .slice none 0 0, .int .i64 0, .int .i64 S.grace, .int .i64 S.prio]) rfl
      rw [zze5] at zzz5
      have zzo5 : Only (bq + 1) w14 zz5 := by rw [← zze5]; exact zzo4.set 4 _
      have zzc5 := box_cell zzz5 5 rfl
      have zzf5 := box_free zzz5 5
      obtain ⟨zz6, zze6⟩ : ∃ v, zz5.setCell ⟨(bq + 1), 5, none⟩ (.int .i64 0) = v := ⟨_, rfl⟩
      have zzz6 := box_set zzz5 5 (.int .i64 0) (B := #[.string ⟨#[]⟩, .slice none 0 0, .slice none 0 0, .slice none 0 0, .int .i64 0, .int .i64 0, .int .i64 S.prio]) rfl
      rw [zze6] at zzz6
      have zzo6 : Only (bq + 1) w14 zz6 := by rw [← zze6]; exact zzo5.set 5 _
      have zzc6 := box_cell zzz6 6 rfl
      have zzf6 := box_free zzz6 6
      obtain ⟨zz7, zze7⟩ : ∃ v, zz6.setCell ⟨(bq + 1), 6, none⟩ (.int .i64 0) = v := ⟨_, rfl⟩
      have zzz7 := box_set zzz6 6 (.int .i64 0) (B := #[.string ⟨#[]⟩, .slice none 0 0, .slice none 0 0, .slice none 0 0, .int .i64 0, .int .i64 0, .int .i64 0]) rfl
      rw [zze7] at zzz7
      have zzo7 : Only (bq + 1) w14 zz7 := by rw [← zze7]; exact zzo6.set 6 _
      have zzr0 := box_cell zzz7 0 rfl
      have zzr1 := box_cell zzz7 1 rfl
      have zzr2 := box_cell zzz7 2 rfl
      have zzr3 := box_cell zzz7 3 rfl
      have zzr4 := box_cell zzz7 4 rfl
      have zzr5 := box_cell zzz7 5 rfl
      have zzr6 := box_cell zzz7 6 rfl
      have zzO := Lib.hid zzo7
      have YB := Lib.hid zzz7
      clear zzz1 zzo1 zzz2 zzo2 zzz3 zzo3 zzz4 zzo4 zzz5 zzo5 zzz6 zzo6 zzz7 zzo7
      go_wp2_with fail
      have hO := zzO.out
      have XB := Lib.hid ((hO.block bx (by omega)).trans XB14.out)
      have QB := Lib.hid ((hO.block bq (by omega)).trans QB14.out)
      have RR := Lib.hid (hO.rd R14.out (by have := lt_of_block R14.out; have := HGX.out; omega))
      have B9 := Lib.hid (hO.below B14.out (by have := HWG.out; have := HGX.out; omega))
      clear hO hlen hle
      refine Loose.wp_region_walk (by kernel_rfl) (by kernel_rfl) (FN s S none 0 none 0 none 0 none 0 none 0 none 0 g bx bq A1 0 cz) (FN_keep s S none 0 none 0 none 0 none 0 none 0 none 0 g bx bq A1 0 cz) ?_ ?_
      · refine ⟨?_, ?_, ?_, ?_, ?_, ?_, ?_, ?_, ?_, ?_, ?_, ?_, ?_, ?_, ?_, ?_, ?_, ?_, ?_, ?_, ?_, ?_, ?_, ?_, ?_, ?_, ?_, trivial⟩
        · intro a w1 hfr hdep
          have hq_ := (hfr.below.block bx (lt_of_block XB.out)).trans XB.out
          have hc0_ := box_cell hq_ 0 rfl
          have hc1_ := box_cell hq_ 1 rfl
          have hc2_ := box_cell hq_ 2 rfl
          have hc3_ := box_cell hq_ 3 rfl
          have hc4_ := box_cell hq_ 4 rfl
          have hc5_ := box_cell hq_ 5 rfl
          have hc6_ := box_cell hq_ 6 rfl
          have f0 : a.tmps.getD 9 undef = .pointer (some ⟨bx, 0, none⟩) := hfr.slot 9 (by kernel_rfl)
          refine Loose.Step.value rfl (v := .agg #[.string ⟨#[]⟩, .slice none 0 0, .slice none 0 0, .slice none 0 0, .int .i64 0, .int .i64 0, .int .i64 0]) (w' := w1) ?_ rfl (Below.refl _ _)
          simp [go_sem, Act.eval, f0, hc0_, hc1_, hc2_, hc3_, hc4_, hc5_, hc6_]
        · intro a w1 hfr hdep
          have hq_ := (hfr.below.block (bq + 1) (lt_of_block YB.out)).trans YB.out
          have hc0_ := box_cell hq_ 0 rfl
          have hc1_ := box_cell hq_ 1 rfl
          have hc2_ := box_cell hq_ 2 rfl
          have hc3_ := box_cell hq_ 3 rfl
          have hc4_ := box_cell hq_ 4 rfl
          have hc5_ := box_cell hq_ 5 rfl
          have hc6_ := box_cell hq_ 6 rfl
          have f0 : a.tmps.getD 11 undef = .pointer (some ⟨bq + 1, 0, none⟩) := hfr.slot 11 (by kernel_rfl)
          refine Loose.Step.value rfl (v := .agg #[.string ⟨#[]⟩, .slice none 0 0, .slice none 0 0, .slice none 0 0, .int .i64 0, .int .i64 0, .int .i64 0]) (w' := w1) ?_ rfl (Below.refl _ _)
          simp [go_sem, Act.eval, f0, hc0_, hc1_, hc2_, hc3_, hc4_, hc5_, hc6_]
        · intro a w1 hfr hdep
          have e0 : a.tmps.getD 75 undef = .agg #[.string ⟨#[]⟩, .slice none 0 0, .slice none 0 0, .slice none 0 0, .int .i64 0, .int .i64 0, .int .i64 0] := Loose.dep_of hdep 0 75 (by kernel_rfl)
          have e1 : a.tmps.getD 76 undef = .agg #[.string ⟨#[]⟩, .slice none 0 0, .slice none 0 0, .slice none 0 0, .int .i64 0, .int .i64 0, .int .i64 0] := Loose.dep_of hdep 1 76 (by kernel_rfl)
          refine Loose.Step.call rfl (f := 15) (args := #[.agg #[.string ⟨#[]⟩, .slice none 0 0, .slice none 0 0, .slice none 0 0, .int .i64 0, .int .i64 0, .int .i64 0], .agg #[.string ⟨#[]⟩, .slice none 0 0, .slice none 0 0, .slice none 0 0, .int .i64 0, .int .i64 0, .int .i64 0]]) ?_ ?_
          · simp [go_sem, Act.eval, e0, e1]
          · refine (sameSpec_any Z0 none 0 none 0 none 0 Z0 none 0 none 0 none 0 w1 (z0_in w1) (z0_in w1)).mono ?_
            rw [(sameS_iff Z0 Z0).2 rfl]
            rintro e w2 ⟨rfl, hb⟩
            exact ⟨_, rfl, rfl, hb⟩
        · intro a w1 hfr hdep
          have e0 : a.tmps.getD 77 undef = .bool true := Loose.dep_of hdep 2 77 (by kernel_rfl)
          refine Loose.Step.value rfl (v := .bool true) (w' := w1) ?_ rfl (Below.refl _ _)
          simp [go_sem, Act.eval, e0]
        · intro a w1 hfr hdep
          have gd : a.tmps.getD 78 undef = .bool true := Loose.dep_of hdep 3 78 (by kernel_rfl)
          have f0 : a.tmps.getD 8 undef = .pointer (some ⟨g, 0, none⟩) := hfr.slot 8 (by kernel_rfl)
          refine Loose.Step.valueG (Loose.wanted_of rfl rfl gd) (v := .pointer (some ⟨g, 0, none⟩)) (w' := w1) ?_ rfl (Below.refl _ _)
          simp [go_sem, Act.eval, f0]
        · intro a w1 hfr hdep
          have gd : a.tmps.getD 78 undef = .bool true := Loose.dep_of hdep 3 78 (by kernel_rfl)
          have e0 : a.tmps.getD 79 undef = .pointer (some ⟨g, 0, none⟩) := Loose.dep_of hdep 4 79 (by kernel_rfl)
          refine Loose.Step.callG (Loose.wanted_of rfl rfl gd) (f := 14) (args := #[.pointer (some ⟨g, 0, none⟩)]) ?_ ?_
          · simp [go_sem, Act.eval, e0]
          · refine (code_any g cz l1 w1 (RR.out.below hfr.below)).mono ?_
            rintro e w2 ⟨rfl, rfl⟩
            exact ⟨_, rfl, rfl, Below.refl _ _⟩
        · intro a w1 hfr hdep
          have gd : a.tmps.getD 78 undef = .bool true := Loose.dep_of hdep 3 78 (by kernel_rfl)
          have f0 : a.tmps.getD 12 undef = .int .i64 cz := hfr.slot 12 (by kernel_rfl)
          refine Loose.Step.valueG (Loose.wanted_of rfl rfl gd) (v := .int .i64 cz) (w' := w1) ?_ rfl (Below.refl _ _)
          simp [go_sem, Act.eval, f0]
        · intro a w1 hfr hdep
          have gd : a.tmps.getD 78 undef = .bool true := Loose.dep_of hdep 3 78 (by kernel_rfl)
          have e0 : a.tmps.getD 80 undef = .int .i64 cz := Loose.dep_of hdep 5 80 (by kernel_rfl)
          have e1 : a.tmps.getD 81 undef = .int .i64 cz := Loose.dep_of hdep 6 81 (by kernel_rfl)
          refine Loose.Step.valueG (Loose.wanted_of rfl rfl gd) (v := .bool true) (w' := w1) ?_ rfl (Below.refl _ _)
          simp [go_sem, Act.eval, e0, e1]
        · intro a w1 hfr hdep
          have e0 : a.tmps.getD 78 undef = .bool true := Loose.dep_of hdep 3 78 (by kernel_rfl)
          have e1 : a.tmps.getD 82 undef = .bool true := Loose.dep_of hdep 7 82 (by kernel_rfl)
          refine Loose.Step.value rfl (v := .bool true) (w' := w1) ?_ rfl (Below.refl _ _)
          simp [go_sem, Act.eval, e0, e1]
        · intro a w1 hfr hdep
          have e0 : a.tmps.getD 83 undef = .bool true := Loose.dep_of hdep 8 83 (by kernel_rfl)
          refine Loose.Step.value rfl (v := .bool true) (w' := w1) ?_ rfl (Below.refl _ _)
          simp [go_sem, Act.eval, e0]
        · intro a w1 hfr hdep
          have gd : a.tmps.getD 84 undef = .bool true := Loose.dep_of hdep 9 84 (by kernel_rfl)
          have f0 : a.tmps.getD 12 undef = .int .i64 cz := hfr.slot 12 (by kernel_rfl)
          refine Loose.Step.valueG (Loose.wanted_of rfl rfl gd) (v := .int .i64 cz) (w' := w1) ?_ rfl (Below.refl _ _)
          simp [go_sem, Act.eval, f0]
        · intro a w1 hfr hdep
          have gd : a.tmps.getD 84 undef = .bool true := Loose.dep_of hdep 9 84 (by kernel_rfl)
          have e0 : a.tmps.getD 85 undef = .int .i64 cz := Loose.dep_of hdep 10 85 (by kernel_rfl)
          refine Loose.Step.valueG (Loose.wanted_of rfl rfl gd) (v := .bool true) (w' := w1) ?_ rfl (Below.refl _ _)
          simp [go_sem, Act.eval, e0, HCZ.out]
        · intro a w1 hfr hdep
          have gd : a.tmps.getD 84 undef = .bool true := Loose.dep_of hdep 9 84 (by kernel_rfl)
          have e0 : a.tmps.getD 86 undef = .bool true := Loose.dep_of hdep 11 86 (by kernel_rfl)
          refine Loose.Step.valueG (Loose.wanted_of rfl rfl gd) (v := .bool true) (w' := w1) ?_ rfl (Below.refl _ _)
          simp [go_sem, Act.eval, e0]
        · intro a w1 hfr hdep
          have gd : a.tmps.getD 87 undef = .bool true := Loose.dep_of hdep 12 87 (by kernel_rfl)
          exact .inr ⟨unwanted_of rfl rfl gd, rfl⟩
        · intro a w1 hfr hdep
          have gd : a.tmps.getD 87 undef = .bool true := Loose.dep_of hdep 12 87 (by kernel_rfl)
          exact .inr ⟨unwanted_of rfl rfl gd, rfl⟩
        · intro a w1 hfr hdep
          have gd : a.tmps.getD 87 undef = .bool true := Loose.dep_of hdep 12 87 (by kernel_rfl)
          exact .inr ⟨unwanted_of rfl rfl gd, rfl⟩
        · intro a w1 hfr hdep
          have gd : a.tmps.getD 87 undef = .bool true := Loose.dep_of hdep 12 87 (by kernel_rfl)
          exact .inr ⟨unwanted_of rfl rfl gd, rfl⟩
        · intro a w1 hfr hdep
          have gd : a.tmps.getD 87 undef = .bool true := Loose.dep_of hdep 12 87 (by kernel_rfl)
          exact .inr ⟨unwanted_of rfl rfl gd, rfl⟩
        · intro a w1 hfr hdep
          have gd : a.tmps.getD 87 undef = .bool true := Loose.dep_of hdep 12 87 (by kernel_rfl)
          exact .inr ⟨unwanted_of rfl rfl gd, rfl⟩
        · intro a w1 hfr hdep
          have gd : a.tmps.getD 87 undef = .bool true := Loose.dep_of hdep 12 87 (by kernel_rfl)
          exact .inr ⟨unwanted_of rfl rfl gd, rfl⟩
        · intro a w1 hfr hdep
          have gd : a.tmps.getD 87 undef = .bool true := Loose.dep_of hdep 12 87 (by kernel_rfl)
          exact .inr ⟨unwanted_of rfl rfl gd, rfl⟩
        · intro a w1 hfr hdep
          have gd : a.tmps.getD 84 undef = .bool true := Loose.dep_of hdep 9 84 (by kernel_rfl)
          have e0 : a.tmps.getD 87 undef = .bool true := Loose.dep_of hdep 12 87 (by kernel_rfl)
          refine Loose.Step.valueG (Loose.wanted_of rfl rfl gd) (v := .bool true) (w' := w1) ?_ rfl (Below.refl _ _)
          simp [go_sem, Act.eval, e0]
        · intro a w1 hfr hdep
          have e0 : a.tmps.getD 84 undef = .bool true := Loose.dep_of hdep 9 84 (by kernel_rfl)
          have e1 : a.tmps.getD 96 undef = .bool true := Loose.dep_of hdep 21 96 (by kernel_rfl)
          refine Loose.Step.value rfl (v := .bool true) (w' := w1) ?_ rfl (Below.refl _ _)
          simp [go_sem, Act.eval, e0, e1]
        · intro a w1 hfr hdep
          have e0 : a.tmps.getD 97 undef = .bool true := Loose.dep_of hdep 22 97 (by kernel_rfl)
          refine Loose.Step.value rfl (v := .bool true) (w' := w1) ?_ rfl (Below.refl _ _)
          simp [go_sem, Act.eval, e0]
        · intro a w1 hfr hdep
          have gd : a.tmps.getD 98 undef = .bool true := Loose.dep_of hdep 23 98 (by kernel_rfl)
          refine Loose.Step.callG (Loose.wanted_of rfl rfl gd) (f := 10) (args := #[]) ?_ ?_
          · simp [go_sem]
          · refine (works_any w1 (HL.out.below (B9.out.trans (hfr.below.mono B9.out.size)))).mono ?_
            rintro e w2 ⟨rfl, hb⟩
            exact ⟨_, rfl, rfl, hb⟩
        · intro a w1 hfr hdep
          have e0 : a.tmps.getD 98 undef = .bool true := Loose.dep_of hdep 23 98 (by kernel_rfl)
          have e1 : a.tmps.getD 99 undef = .bool true := Loose.dep_of hdep 24 99 (by kernel_rfl)
          refine Loose.Step.value rfl (v := .bool true) (w' := w1) ?_ rfl (Below.refl _ _)
          simp [go_sem, Act.eval, e0, e1]
        · intro a w1 hfr hdep
          have e0 : a.tmps.getD 100 undef = .bool true := Loose.dep_of hdep 25 100 (by kernel_rfl)
          refine Loose.Step.value rfl (v := .bool true) (w' := w1) ?_ rfl (Below.refl _ _)
          simp [go_sem, Act.eval, e0]
      · intro v0 v1 v2 v3 v4 v5 v6 v7 v8 v9 v10 v11 v12 v13 v14 v15 v16 v17 v18 v19 v20 v21 v22 v23 v24 v25 v26 w8 hb8 hC
        have hlast : v26 = .bool true := hC.2
        subst hlast
        have B20 := Lib.hid (B9.out.trans (hb8.mono B9.out.size))
        clear hC hb8
        simp only [SpecOwn.put_lit, List.set_cons_succ, List.set_cons_zero]
        go_wp2_with fail
        go_ret
        exact ⟨rfl, B20.out⟩
  · have HC1 := Lib.hid hc1
    have HFC := Lib.hid (show fst c1 (checkV S).1 = c1 from fst_yes hc1 _)
    have HFS := Lib.hid (show fst c1 (checkV S).1 ≠ 0 by rw [fst_yes hc1]; exact hc1)
    have HY := Lib.hid (show (firstV [newV (endE c1 l1) t_wire, checkV S]).1 ≠ 0 by
      have he : endE c1 l1 ≠ 0 := by unfold endE; split; exact hc1; rw [fst_yes hc1]; exact hc1
      simp [firstV, newV, he])
    clear hc1
    go_wp2_with fail
    refine (of_any s HFW.out S c1 l1 HQ.out w HL.out).mono ?_
    rintro e w1 ⟨E, hE, hb1, hcase⟩
    have B1 := Lib.hid hb1
    rcases hcase with ⟨h0, _⟩ | ⟨_, rfl⟩
    · exact absurd h0 HY.out
    rcases hE.form with rfl | ⟨eu, ex, rfl⟩
    · exact absurd (hE.nil_iff.1 rfl) HY.out
    have HE1 := Lib.hid hE
    clear hE hb1
    obtain ⟨qw2, hqw2⟩ : ∃ v, w1.alloc (.cells #[.string ⟨#[]⟩, .slice none 0 0, .slice none 0 0, .slice none 0 0, .int .i64 0, .int .i64 0, .int .i64 0] 28) = v := ⟨_, rfl⟩
    have hba_ : Below w1.heap.size w1 qw2 := by rw [← hqw2]; exact (Below.refl _ _).alloc (Nat.le_refl _) _
    have hbz_ : qw2.heap[w1.heap.size]? = some (.cells #[.string ⟨#[]⟩, .slice none 0 0, .slice none 0 0, .slice none 0 0, .int .i64 0, .int .i64 0, .int .i64 0] 28) := by rw [← hqw2]; exact heap_alloc_new w1 _
    have qw2vc0 := box_cell hbz_ 0 rfl
    have qw2vf0 := box_free hbz_ 0
    obtain ⟨qw2v1, qw2ve1⟩ : ∃ v, qw2.setCell ⟨(w1.heap.size), 0, none⟩ (.string ⟨#[]⟩) = v := ⟨_, rfl⟩
    have qw2vz1 := box_set hbz_ 0 (.string ⟨#[]⟩) (B := #[.string ⟨#[]⟩, .slice none 0 0, .slice none 0 0, .slice none 0 0, .int .i64 0, .int .i64 0, .int .i64 0]) rfl
    rw [qw2ve1] at qw2vz1
    have qw2vo1 : Only (w1.heap.size) qw2 qw2v1 := by rw [← qw2ve1]; exact (Only.refl (w1.heap.size) qw2).set 0 _
    have qw2vc1 := box_cell qw2vz1 1 rfl
    have qw2vf1 := box_free qw2vz1 1
    obtain ⟨qw2v2, qw2ve2⟩ : ∃ v, qw2v1.setCell ⟨(w1.heap.size), 1, none⟩ (.slice none 0 0) = v := ⟨_, rfl⟩
    have qw2vz2 := box_set qw2vz1 1 (.slice none 0 0) (B := #[.string ⟨#[]⟩, .slice none 0 0, .slice none 0 0, .slice none 0 0, .int .i64 0, .int .i64 0, .int .i64 0]) rfl
    rw [qw2ve2] at qw2vz2
    have qw2vo2 : Only (w1.heap.size) qw2 qw2v2 := by rw [← qw2ve2]; exact qw2vo1.set 1 _
    have qw2vc2 := box_cell qw2vz2 2 rfl
    have qw2vf2 := box_free qw2vz2 2
    obtain ⟨qw2v3, qw2ve3⟩ : ∃ v, qw2v2.setCell ⟨(w1.heap.size), 2, none⟩ (.slice none 0 0) = v := ⟨_, rfl⟩
    have qw2vz3 := box_set qw2vz2 2 (.slice none 0 0) (B := #[.string ⟨#[]⟩, .slice none 0 0, .slice none 0 0, .slice none 0 0, .int .i64 0, .int .i64 0, .int .i64 0]) rfl
    rw [qw2ve3] at qw2vz3
    have qw2vo3 : Only (w1.heap.size) qw2 qw2v3 := by rw [← qw2ve3]; exact qw2vo2.set 2 _
    have qw2vc3 := box_cell qw2vz3 3 rfl
    have qw2vf3 := box_free qw2vz3 3
    obtain ⟨qw2v4, qw2ve4⟩ : ∃ v, qw2v3.setCell ⟨(w1.heap.size), 3, none⟩ (.slice none 0 0) = v := ⟨_, rfl⟩
    have qw2vz4 := box_set qw2vz3 3 (.slice none 0 0) (B := #[.string ⟨#[]⟩, .slice none 0 0, .slice none 0 0, .slice none 0 0, .int .i64 0, .int .i64 0, .int .i64 0]) rfl
    rw [qw2ve4] at qw2vz4
    have qw2vo4 : Only (w1.heap.size) qw2 qw2v4 := by rw [← qw2ve4]; exact qw2vo3.set 3 _
    have qw2vc4 := box_cell qw2vz4 4 rfl
    have qw2vf4 := box_free qw2vz4 4
    obtain ⟨qw2v5, qw2ve5⟩ : ∃ v, qw2v4.setCell ⟨(w1.heap.size), 4, none⟩ (.int .i64 0) = v := ⟨_, rfl⟩
    have qw2vz5 := box_set qw2vz4 4 (.int .i64 0) (B := #[.string ⟨#[]⟩, .slice none 0 0, .slice none 0 0, .slice none 0 0, .int .i64 0, .int .i64 0, .int .i64 0]) rfl
    rw [qw2ve5] at qw2vz5
    have qw2vo5 : Only (w1.heap.size) qw2 qw2v5 := by rw [← qw2ve5]; exact qw2vo4.set 4 _
    have qw2vc5 := box_cell qw2vz5 5 rfl
    have qw2vf5 := box_free qw2vz5 5
    obtain ⟨qw2v6, qw2ve6⟩ : ∃ v, qw2v5.setCell ⟨(w1.heap.size), 5, none⟩ (.int .i64 0) = v := ⟨_, rfl⟩
    have qw2vz6 := box_set qw2vz5 5 (.int .i64 0) (B := #[.string ⟨#[]⟩, .slice none 0 0, .slice none 0 0, .slice none 0 0, .int .i64 0, .int .i64 0, .int .i64 0]) rfl
    rw [qw2ve6] at qw2vz6
    have qw2vo6 : Only (w1.heap.size) qw2 qw2v6 := by rw [← qw2ve6]; exact qw2vo5.set 5 _
    have qw2vc6 := box_cell qw2vz6 6 rfl
    have qw2vf6 := box_free qw2vz6 6
    obtain ⟨w2, qw2ve7⟩ : ∃ v, qw2v6.setCell ⟨(w1.heap.size), 6, none⟩ (.int .i64 0) = v := ⟨_, rfl⟩
    have qw2vz7 := box_set qw2vz6 6 (.int .i64 0) (B := #[.string ⟨#[]⟩, .slice none 0 0, .slice none 0 0, .slice none 0 0, .int .i64 0, .int .i64 0, .int .i64 0]) rfl
    rw [qw2ve7] at qw2vz7
    have qw2vo7 : Only (w1.heap.size) qw2 w2 := by rw [← qw2ve7]; exact qw2vo6.set 6 _
    have qw2vr0 := box_cell qw2vz7 0 rfl
    have qw2vr1 := box_cell qw2vz7 1 rfl
    have qw2vr2 := box_cell qw2vz7 2 rfl
    have qw2vr3 := box_cell qw2vz7 3 rfl
    have qw2vr4 := box_cell qw2vz7 4 rfl
    have qw2vr5 := box_cell qw2vz7 5 rfl
    have qw2vr6 := box_cell qw2vz7 6 rfl
    have qw2vO := Lib.hid qw2vo7
    have AB2 := Lib.hid qw2vz7
    clear qw2vz1 qw2vo1 qw2vz2 qw2vo2 qw2vz3 qw2vo3 qw2vz4 qw2vo4 qw2vz5 qw2vo5 qw2vz6 qw2vo6 qw2vz7 qw2vo7
    have hb : Below w1.heap.size w1 w2 := qw2vO.out.below hba_ (Nat.le_refl _)
    have B2 := Lib.hid (B1.out.trans (hb.mono B1.out.size))
    have HE2 := Lib.hid (Says.keep HE1.out (fun b _ hl => ⟨Nat.zero_le b, hb.block b hl⟩))
    clear hb hba_ hbz_ qw2vO
    have hw2 : True := trivial
    clear HE1
    go_wp2_with fail
    obtain ⟨ba, hba⟩ : ∃ b, w1.heap.size = b := ⟨_, rfl⟩
    rw [hba] at AB2 ⊢
    clear hba
    first | rw [hw2] | skip
    clear hw2
    refine (of_ref2 s (by have := HSL.out; omega) S c1 l1 HQ.out w2).mono ?_
    rintro e w3 ⟨hcase, hb3⟩
    rcases hcase with ⟨h0, _⟩ | ⟨_, rfl⟩
    · exact absurd h0 HY.out
    have B3 := Lib.hid (B2.out.trans (hb3.mono B2.out.size))
    have AB3 := Lib.hid ((hb3.block ba (lt_of_block AB2.out)).trans AB2.out)
    have HE3 := Lib.hid (Says.keep HE2.out (fun b _ hl => ⟨Nat.zero_le b, hb3.block b hl⟩))
    clear hb3 AB2 HE2
    obtain ⟨qw4, hqw4⟩ : ∃ v, w3.alloc (.cells #[.string ⟨#[]⟩, .slice none 0 0, .slice none 0 0, .slice none 0 0, .int .i64 0, .int .i64 0, .int .i64 0] 28) = v := ⟨_, rfl⟩
    have hba_ : Below w3.heap.size w3 qw4 := by rw [← hqw4]; exact (Below.refl _ _).alloc (Nat.le_refl _) _
    have hbz_ : qw4.heap[w3.heap.size]? = some (.cells #[.string ⟨#[]⟩, .slice none 0 0, .slice none 0 0, .slice none 0 0, .int .i64 0, .int .i64 0, .int .i64 0] 28) := by rw [← hqw4]; exact heap_alloc_new w3 _
    have qw4vc0 := box_cell hbz_ 0 rfl
    have qw4vf0 := box_free hbz_ 0
    obtain ⟨qw4v1, qw4ve1⟩ : ∃ v, qw4.setCell ⟨(w3.heap.size), 0, none⟩ (.string ⟨#[]⟩) = v := ⟨_, rfl⟩
    have qw4vz1 := box_set hbz_ 0 (.string ⟨#[]⟩) (B := #[.string ⟨#[]⟩, .slice none 0 0, .slice none 0 0, .slice none 0 0, .int .i64 0, .int .i64 0, .int .i64 0]) rfl
    rw [qw4ve1] at qw4vz1
    have qw4vo1 : Only (w3.heap.size) qw4 qw4v1 := by rw [← qw4ve1]; exact (Only.refl (w3.heap.size) qw4).set 0 _
    have qw4vc1 := box_cell qw4vz1 1 rfl
    have qw4vf1 := box_free qw4vz1 1
    obtain ⟨qw4v2, qw4ve2⟩ : ∃ v, qw4v1.setCell ⟨(w3.heap.size), 1, none⟩ (.slice none 0 0) = v := ⟨_, rfl⟩
    have qw4vz2 := box_set qw4vz1 1 (.slice none 0 0) (B := #[.string ⟨#[]⟩, .slice none 0 0, .slice none 0 0, .slice none 0 0, .int .i64 0, .int .i64 0, .int .i64 0]) rfl
    rw [qw4ve2] at qw4vz2
    have qw4vo2 : Only (w3.heap.size) qw4 qw4v2 := by rw [← qw4ve2]; exact qw4vo1.set 1 _
    have qw4vc2 := box_cell qw4vz2 2 rfl
    have qw4vf2 := box_free qw4vz2 2
    obtain ⟨qw4v3, qw4ve3⟩ : ∃ v, qw4v2.setCell ⟨(w3.heap.size), 2, none⟩ (.slice none 0 0) = v := ⟨_, rfl⟩
    have qw4vz3 := box_set qw4vz2 2 (.slice none 0 0) (B := #[.string ⟨#[]⟩, .slice none 0 0, .slice none 0 0, .slice none 0 0, .int .i64 0, .int .i64 0, .int .i64 0]) rfl
    rw [qw4ve3] at qw4vz3
    have qw4vo3 : Only (w3.heap.size) qw4 qw4v3 := by rw [← qw4ve3]; exact qw4vo2.set 2 _
    have qw4vc3 := box_cell qw4vz3 3 rfl
    have qw4vf3 := box_free qw4vz3 3
    obtain ⟨qw4v4, qw4ve4⟩ : ∃ v, qw4v3.setCell ⟨(w3.heap.size), 3, none⟩ (.slice none 0 0) = v := ⟨_, rfl⟩
    have qw4vz4 := box_set qw4vz3 3 (.slice none 0 0) (B := #[.string ⟨#[]⟩, .slice none 0 0, .slice none 0 0, .slice none 0 0, .int .i64 0, .int .i64 0, .int .i64 0]) rfl
    rw [qw4ve4] at qw4vz4
    have qw4vo4 : Only (w3.heap.size) qw4 qw4v4 := by rw [← qw4ve4]; exact qw4vo3.set 3 _
    have qw4vc4 := box_cell qw4vz4 4 rfl
    have qw4vf4 := box_free qw4vz4 4
    obtain ⟨qw4v5, qw4ve5⟩ : ∃ v, qw4v4.setCell ⟨(w3.heap.size), 4, none⟩ (.int .i64 0) = v := ⟨_, rfl⟩
    have qw4vz5 := box_set qw4vz4 4 (.int .i64 0) (B := #[.string ⟨#[]⟩, .slice none 0 0, .slice none 0 0, .slice none 0 0, .int .i64 0, .int .i64 0, .int .i64 0]) rfl
    rw [qw4ve5] at qw4vz5
    have qw4vo5 : Only (w3.heap.size) qw4 qw4v5 := by rw [← qw4ve5]; exact qw4vo4.set 4 _
    have qw4vc5 := box_cell qw4vz5 5 rfl
    have qw4vf5 := box_free qw4vz5 5
    obtain ⟨qw4v6, qw4ve6⟩ : ∃ v, qw4v5.setCell ⟨(w3.heap.size), 5, none⟩ (.int .i64 0) = v := ⟨_, rfl⟩
    have qw4vz6 := box_set qw4vz5 5 (.int .i64 0) (B := #[.string ⟨#[]⟩, .slice none 0 0, .slice none 0 0, .slice none 0 0, .int .i64 0, .int .i64 0, .int .i64 0]) rfl
    rw [qw4ve6] at qw4vz6
    have qw4vo6 : Only (w3.heap.size) qw4 qw4v6 := by rw [← qw4ve6]; exact qw4vo5.set 5 _
    have qw4vc6 := box_cell qw4vz6 6 rfl
    have qw4vf6 := box_free qw4vz6 6
    obtain ⟨w4, qw4ve7⟩ : ∃ v, qw4v6.setCell ⟨(w3.heap.size), 6, none⟩ (.int .i64 0) = v := ⟨_, rfl⟩
    have qw4vz7 := box_set qw4vz6 6 (.int .i64 0) (B := #[.string ⟨#[]⟩, .slice none 0 0, .slice none 0 0, .slice none 0 0, .int .i64 0, .int .i64 0, .int .i64 0]) rfl
    rw [qw4ve7] at qw4vz7
    have qw4vo7 : Only (w3.heap.size) qw4 w4 := by rw [← qw4ve7]; exact qw4vo6.set 6 _
    have qw4vr0 := box_cell qw4vz7 0 rfl
    have qw4vr1 := box_cell qw4vz7 1 rfl
    have qw4vr2 := box_cell qw4vz7 2 rfl
    have qw4vr3 := box_cell qw4vz7 3 rfl
    have qw4vr4 := box_cell qw4vz7 4 rfl
    have qw4vr5 := box_cell qw4vz7 5 rfl
    have qw4vr6 := box_cell qw4vz7 6 rfl
    have qw4vO := Lib.hid qw4vo7
    have BB4 := Lib.hid qw4vz7
    clear qw4vz1 qw4vo1 qw4vz2 qw4vo2 qw4vz3 qw4vo3 qw4vz4 qw4vo4 qw4vz5 qw4vo5 qw4vz6 qw4vo6 qw4vz7 qw4vo7
    have hb : Below w3.heap.size w3 w4 := qw4vO.out.below hba_ (Nat.le_refl _)
    have B4 := Lib.hid (B3.out.trans (hb.mono B3.out.size))
    have HE4 := Lib.hid (Says.keep HE3.out (fun b _ hl => ⟨Nat.zero_le b, hb.block b hl⟩))
    have AB4 := Lib.hid ((hb.block ba (lt_of_block AB3.out)).trans AB3.out)
    clear hb hba_ hbz_ qw4vO
    have hw4 : True := trivial
    clear HE3 AB3
    have ca0 := box_cell AB4.out 0 rfl
    have cb0 := box_cell BB4.out 0 rfl
    have ca1 := box_cell AB4.out 1 rfl
    have cb1 := box_cell BB4.out 1 rfl
    have ca2 := box_cell AB4.out 2 rfl
    have cb2 := box_cell BB4.out 2 rfl
    have ca3 := box_cell AB4.out 3 rfl
    have cb3 := box_cell BB4.out 3 rfl
    have ca4 := box_cell AB4.out 4 rfl
    have cb4 := box_cell BB4.out 4 rfl
    have ca5 := box_cell AB4.out 5 rfl
    have cb5 := box_cell BB4.out 5 rfl
    have ca6 := box_cell AB4.out 6 rfl
    have cb6 := box_cell BB4.out 6 rfl
    obtain ⟨Y0, hY0⟩ : ∃ d, (firstV [newV (endE c1 l1) t_wire, checkV S]) = d := ⟨_, rfl⟩
    rw [hY0] at HE4 HY ⊢
    obtain ⟨cy, py⟩ := Y0
    have hcy : (cy == 0) = false := by simpa using HY.out
    go_wp2_with fail
    obtain ⟨bb, hbb⟩ : ∃ b, w3.heap.size = b := ⟨_, rfl⟩
    rw [hbb] at BB4 ⊢
    clear hbb
    first | rw [hw4] | skip
    clear hw4
    have hrun := sameSpec_any Z0 none 0 none 0 none 0 Z0 none 0 none 0 none 0 w4 (z0_in w4) (z0_in w4)
    rw [(sameS_iff Z0 Z0).2 rfl] at hrun
    refine hrun.mono ?_
    rintro e w5 ⟨rfl, hb5⟩
    clear hrun
    have B5 := Lib.hid (B4.out.trans (hb5.mono B4.out.size))
    have HE5 := Lib.hid (Says.keep HE4.out (fun b _ hl => ⟨Nat.zero_le b, hb5.block b hl⟩))
    clear hb5 HE4 ca0 cb0 ca1 cb1 ca2 cb2 ca3 cb3 ca4 cb4 ca5 cb5 ca6 cb6
    go_wp2_with fail
    refine (code_says HE5.out (HL.out.below B5.out).err).mono ?_
    rintro e w6 ⟨rfl, hb6⟩
    have B6 := Lib.hid (B5.out.trans (hb6.mono B5.out.size))
    have HE6 := Lib.hid (Says.keep HE5.out (fun b _ hl => ⟨Nat.zero_le b, hb6.block b hl⟩))
    clear hb6 HE5
    go_wp2_with fail
    refine (text_says HE6.out).mono ?_
    rintro e w7 ⟨rfl, hb7⟩
    have B7 := Lib.hid (B6.out.trans (hb7.mono B6.out.size))
    clear hb7 HE6 AB4 BB4
    go_wp2_with fail
    refine (read_any s w7).mono ?_
    rintro e w8 ⟨rfl, h8, hb8, hs8⟩
    obtain ⟨g, hg⟩ : ∃ b, w7.heap.size = b := ⟨_, rfl⟩
    have HGG := Lib.hid hg
    have B8 := Lib.hid (B7.out.trans (hb8.mono B7.out.size))
    have HWG := Lib.hid (show w.heap.size ≤ g by rw [← hg]; exact B7.out.size)
    rw [hg] at h8 ⊢
    have R8 := Lib.hid h8
    clear h8 hb8 hs8 hg
    go_wp2_with fail
    refine (take_rd g 0 s.data.toList HFW.out S c1 l1 HQ.out w w8 HL.out B8.out HWG.out R8.out).mono ?_
    rintro e w9 ⟨h9, k9, hcase⟩
    have B9 := Lib.hid (B8.out.trans (k9.below (fun k hk => ⟨Nat.lt_of_lt_of_le hk B8.out.size, by have := HWG.out; omega⟩)))
    rcases hcase with ⟨h0, _⟩ | ⟨_, rfl⟩
    · exact absurd h0 HFS.out
    rw [HFC.out] at h9
    have R9 := Lib.hid h9
    clear h9 k9 R8
    obtain ⟨qw10, hqw10⟩ : ∃ v, w9.alloc (.cells #[.string ⟨#[]⟩, .slice none 0 0, .slice none 0 0, .slice none 0 0, .int .i64 0, .int .i64 0, .int .i64 0] 28) = v := ⟨_, rfl⟩
    have hba_ : Below w9.heap.size w9 qw10 := by rw [← hqw10]; exact (Below.refl _ _).alloc (Nat.le_refl _) _
    have hbz_ : qw10.heap[w9.heap.size]? = some (.cells #[.string ⟨#[]⟩, .slice none 0 0, .slice none 0 0, .slice none 0 0, .int .i64 0, .int .i64 0, .int .i64 0] 28) := by rw [← hqw10]; exact heap_alloc_new w9 _
    have qw10vc0 := box_cell hbz_ 0 rfl
    have qw10vf0 := box_free hbz_ 0
    obtain ⟨qw10v1, qw10ve1⟩ : ∃ v, qw10.setCell ⟨(w9.heap.size), 0, none⟩ (.string ⟨#[]⟩) = v := ⟨_, rfl⟩
    have qw10vz1 := box_set hbz_ 0 (.string ⟨#[]⟩) (B := #[.string ⟨#[]⟩, .slice none 0 0, .slice none 0 0, .slice none 0 0, .int .i64 0, .int .i64 0, .int .i64 0]) rfl
    rw [qw10ve1] at qw10vz1
    have qw10vo1 : Only (w9.heap.size) qw10 qw10v1 := by rw [← qw10ve1]; exact (Only.refl (w9.heap.size) qw10).set 0 _
    have qw10vc1 := box_cell qw10vz1 1 rfl
    have qw10vf1 := box_free qw10vz1 1
    obtain ⟨qw10v2, qw10ve2⟩ : ∃ v, qw10v1.setCell ⟨(w9.heap.size), 1, none⟩ (.slice none 0 0) = v := ⟨_, rfl⟩
    have qw10vz2 := box_set qw10vz1 1 (.slice none 0 0) (B := #[.string ⟨#[]⟩, .slice none 0 0, .slice none 0 0, .slice none 0 0, .int .i64 0, .int .i64 0, .int .i64 0]) rfl
    rw [qw10ve2] at qw10vz2
    have qw10vo2 : Only (w9.heap.size) qw10 qw10v2 := by rw [← qw10ve2]; exact qw10vo1.set 1 _
    have qw10vc2 := box_cell qw10vz2 2 rfl
    have qw10vf2 := box_free qw10vz2 2
    obtain ⟨qw10v3, qw10ve3⟩ : ∃ v, qw10v2.setCell ⟨(w9.heap.size), 2, none⟩ (.slice none 0 0) = v := ⟨_, rfl⟩
    have qw10vz3 := box_set qw10vz2 2 (.slice none 0 0) (B := #[.string ⟨#[]⟩, .slice none 0 0, .slice none 0 0, .slice none 0 0, .int .i64 0, .int .i64 0, .int .i64 0]) rfl
    rw [qw10ve3] at qw10vz3
    have qw10vo3 : Only (w9.heap.size) qw10 qw10v3 := by rw [← qw10ve3]; exact qw10vo2.set 2 _
    have qw10vc3 := box_cell qw10vz3 3 rfl
    have qw10vf3 := box_free qw10vz3 3
    obtain ⟨qw10v4, qw10ve4⟩ : ∃ v, qw10v3.setCell ⟨(w9.heap.size), 3, none⟩ (.slice none 0 0) = v := ⟨_, rfl⟩
    have qw10vz4 := box_set qw10vz3 3 (.slice none 0 0) (B := #[.string ⟨#[]⟩, .slice none 0 0, .slice none 0 0, .slice none 0 0, .int .i64 0, .int .i64 0, .int .i64 0]) rfl
    rw [qw10ve4] at qw10vz4
    have qw10vo4 : Only (w9.heap.size) qw10 qw10v4 := by rw [← qw10ve4]; exact qw10vo3.set 3 _
    have qw10vc4 := box_cell qw10vz4 4 rfl
    have qw10vf4 := box_free qw10vz4 4
    obtain ⟨qw10v5, qw10ve5⟩ : ∃ v, qw10v4.setCell ⟨(w9.heap.size), 4, none⟩ (.int .i64 0) = v := ⟨_, rfl⟩
    have qw10vz5 := box_set qw10vz4 4 (.int .i64 0) (B := #[.string ⟨#[]⟩, .slice none 0 0, .slice none 0 0, .slice none 0 0, .int .i64 0, .int .i64 0, .int .i64 0]) rfl
    rw [qw10ve5] at qw10vz5
    have qw10vo5 : Only (w9.heap.size) qw10 qw10v5 := by rw [← qw10ve5]; exact qw10vo4.set 4 _
    have qw10vc5 := box_cell qw10vz5 5 rfl
    have qw10vf5 := box_free qw10vz5 5
    obtain ⟨qw10v6, qw10ve6⟩ : ∃ v, qw10v5.setCell ⟨(w9.heap.size), 5, none⟩ (.int .i64 0) = v := ⟨_, rfl⟩
    have qw10vz6 := box_set qw10vz5 5 (.int .i64 0) (B := #[.string ⟨#[]⟩, .slice none 0 0, .slice none 0 0, .slice none 0 0, .int .i64 0, .int .i64 0, .int .i64 0]) rfl
    rw [qw10ve6] at qw10vz6
    have qw10vo6 : Only (w9.heap.size) qw10 qw10v6 := by rw [← qw10ve6]; exact qw10vo5.set 5 _
    have qw10vc6 := box_cell qw10vz6 6 rfl
    have qw10vf6 := box_free qw10vz6 6
    obtain ⟨w10, qw10ve7⟩ : ∃ v, qw10v6.setCell ⟨(w9.heap.size), 6, none⟩ (.int .i64 0) = v := ⟨_, rfl⟩
    have qw10vz7 := box_set qw10vz6 6 (.int .i64 0) (B := #[.string ⟨#[]⟩, .slice none 0 0, .slice none 0 0, .slice none 0 0, .int .i64 0, .int .i64 0, .int .i64 0]) rfl
    rw [qw10ve7] at qw10vz7
    have qw10vo7 : Only (w9.heap.size) qw10 w10 := by rw [← qw10ve7]; exact qw10vo6.set 6 _
    have qw10vr0 := box_cell qw10vz7 0 rfl
    have qw10vr1 := box_cell qw10vz7 1 rfl
    have qw10vr2 := box_cell qw10vz7 2 rfl
    have qw10vr3 := box_cell qw10vz7 3 rfl
    have qw10vr4 := box_cell qw10vz7 4 rfl
    have qw10vr5 := box_cell qw10vz7 5 rfl
    have qw10vr6 := box_cell qw10vz7 6 rfl
    have qw10vO := Lib.hid qw10vo7
    have XB10 := Lib.hid qw10vz7
    clear qw10vz1 qw10vo1 qw10vz2 qw10vo2 qw10vz3 qw10vo3 qw10vz4 qw10vo4 qw10vz5 qw10vo5 qw10vz6 qw10vo6 qw10vz7 qw10vo7
    have hb : Below w9.heap.size w9 w10 := qw10vO.out.below hba_ (Nat.le_refl _)
    have B10 := Lib.hid (B9.out.trans (hb.mono B9.out.size))
    have R10 := Lib.hid (R9.out.below hb)
    clear hb hba_ hbz_ qw10vO
    have hw10 : True := trivial
    have HR9 := Lib.hid (show g < w9.heap.size from lt_of_block R9.out)
    clear R9
    go_wp2_with fail
    obtain ⟨bx, hbx⟩ : ∃ b, w9.heap.size = b := ⟨_, rfl⟩
    have HXG := Lib.hid (show g < bx by rw [← hbx]; exact HR9.out)
    rw [hbx] at XB10 ⊢
    clear hbx
    first | rw [hw10] | skip
    clear hw10
    refine (take_ref s (by have := HSL.out; omega) 0 0 s.data.toList HA.out S c1 l1 HQ.out w10).mono ?_
    rintro e w11 ⟨A1, LB, IB, MB, n2, ld, n3, ie, n4, md, rfl, h11, hup, hb11⟩
    have A11 := Lib.hid h11
    have B11 := Lib.hid (B10.out.trans (hb11.mono B10.out.size))
    have HGX := Lib.hid (show g < bx by have := lt_of_block R10.out; have := HXG.out; omega)
    have XB11 := Lib.hid ((hb11.block bx (lt_of_block XB10.out)).trans XB10.out)
    have R11 := Lib.hid (R10.out.below hb11)
    clear h11 hup hb11 XB10 R10
    obtain ⟨w13, hw13⟩ : ∃ v, (w11.alloc (.cells #[.string s, .int .i64 A1, .int .i64 c1] 31)).alloc (.cells #[.string S.name, .slice LB n2 ld, .slice IB n3 ie, .slice MB n4 md, .int .i64 S.restart, .int .i64 S.grace, .int .i64 S.prio] 28) = v := ⟨_, rfl⟩
    have HBX := Lib.hid (two_boxes w11 _ _ w13 hw13)
    have hb : Below w11.heap.size w11 w13 := HBX.out.1
    have QB13 := Lib.hid HBX.out.2.1
    have YB13 := Lib.hid HBX.out.2.2
    clear HBX
    have B13 := Lib.hid (B11.out.trans (hb.mono B11.out.size))
    have XB13 := Lib.hid ((hb.block bx (lt_of_block XB11.out)).trans XB11.out)
    have R13 := Lib.hid (R11.out.below hb)
    clear hb
    have hne1 : bx < w11.heap.size := lt_of_block XB11.out
    have hq2 := box_cell QB13.out 2 rfl
    have hlen := A11.out.len
    have hle := A11.out.1
    have hc1 : (c1 == 0) = false := by simpa using HC1.out
    have hc2 : (c1 != 0) = true := by simpa using HC1.out
    clear XB11 R11
    have z13 := YB13.out
    have zzc0 := box_cell z13 0 rfl
    have zzf0 := box_free z13 0
    obtain ⟨zz1, zze1⟩ : ∃ v, w13.setCell ⟨(w11.heap.size + 1), 0, none⟩ (.string ⟨#[]⟩) = v := ⟨_, rfl⟩
    have zzz1 := box_set z13 0 (.string ⟨#[]⟩) (B := #[.string ⟨#[]⟩, .slice LB n2 ld, .slice IB n3 ie, .slice MB n4 md, .int .i64 S.restart, .int .i64 S.grace, .int .i64 S.prio]) rfl
    rw [zze1] at zzz1
    have zzo1 : Only (w11.heap.size + 1) w13 zz1 := by rw [← zze1]; exact (Only.refl (w11.heap.size + 1) w13).set 0 _
    have zzc1 := box_cell zzz1 1 rfl
    have zzf1 := box_free zzz1 1
    obtain ⟨zz2, zze2⟩ : ∃ v, zz1.setCell ⟨(w11.heap.size + 1), 1, none⟩ (.slice none 0 0) = v := ⟨_, rfl⟩
    have zzz2 := box_set zzz1 1 (.slice none 0 0) (B := #[.string ⟨#[]⟩, .slice none 0 0, .slice IB n3 ie, .slice MB n4 md, .int .i64 S.restart, .int .i64 S.grace, .int .i64 S.prio]) rfl
    rw [zze2] at zzz2
    have zzo2 : Only (w11.heap.size + 1) w13 zz2 := by rw [← zze2]; exact zzo1.set 1 _
    have zzc2 := box_cell zzz2 2 rfl
    have zzf2 := box_free zzz2 2
    obtain ⟨zz3, zze3⟩ : ∃ v, zz2.setCell ⟨(w11.heap.size + 1), 2, none⟩ (.slice none 0 0) = v := ⟨_, rfl⟩
    have zzz3 := box_set zzz2 2 (.slice none 0 0) (B := #[.string ⟨#[]⟩, .slice none 0 0, .slice none 0 0, .slice MB n4 md, .int .i64 S.restart, .int .i64 S.grace, .int .i64 S.prio]) rfl
    rw [zze3] at zzz3
    have zzo3 : Only (w11.heap.size + 1) w13 zz3 := by rw [← zze3]; exact zzo2.set 2 _
    have zzc3 := box_cell zzz3 3 rfl
    have zzf3 := box_free zzz3 3
    obtain ⟨zz4, zze4⟩ : ∃ v, zz3.setCell ⟨(w11.heap.size + 1), 3, none⟩ (.slice none 0 0) = v := ⟨_, rfl⟩
    have zzz4 := box_set zzz3 3 (.slice none 0 0) (B := #[.string ⟨#[]⟩, .slice none 0 0, .slice none 0 0, .slice none 0 0, .int .i64 S.restart, .int .i64 S.grace, .int .i64 S.prio]) rfl
    rw [zze4] at zzz4
    have zzo4 : Only (w11.heap.size + 1) w13 zz4 := by rw [← zze4]; exact zzo3.set 3 _
    have zzc4 := box_cell zzz4 4 rfl
    have zzf4 := box_free zzz4 4
    obtain ⟨zz5, zze5⟩ : ∃ v, zz4.setCell ⟨(w11.heap.size + 1), 4, none⟩ (.int .i64 0) = v := ⟨_, rfl⟩
    have zzz5 := box_set zzz4 4 (.int .i64 0) (B := #[.string ⟨#[]⟩, .slice none 0 0, .slice none 0 0, .slice none 0 0, .int .i64 0, .int .i64 S.grace, .int .i64 S.prio]) rfl
    rw [zze5] at zzz5
    have zzo5 : Only (w11.heap.size + 1) w13 zz5 := by rw [← zze5]; exact zzo4.set 4 _
    have zzc5 := box_cell zzz5 5 rfl
    have zzf5 := box_free zzz5 5
    obtain ⟨zz6, zze6⟩ : ∃ v, zz5.setCell ⟨(w11.heap.size + 1), 5, none⟩ (.int .i64 0) = v := ⟨_, rfl⟩
    have zzz6 := box_set zzz5 5 (.int .i64 0) (B := #[.string ⟨#[]⟩, .slice none 0 0, .slice none 0 0, .slice none 0 0, .int .i64 0, .int .i64 0, .int .i64 S.prio]) rfl
    rw [zze6] at zzz6
    have zzo6 : Only (w11.heap.size + 1) w13 zz6 := by rw [← zze6]; exact zzo5.set 5 _
    have zzc6 := box_cell zzz6 6 rfl
    have zzf6 := box_free zzz6 6
    obtain ⟨zz7, zze7⟩ : ∃ v, zz6.setCell ⟨(w11.heap.size + 1), 6, none⟩ (.int .i64 0) = v := ⟨_, rfl⟩
    have zzz7 := box_set zzz6 6 (.int .i64 0) (B := #[.string ⟨#[]⟩, .slice none 0 0, .slice none 0 0, .slice none 0 0, .int .i64 0, .int .i64 0, .int .i64 0]) rfl
    rw [zze7] at zzz7
    have zzo7 : Only (w11.heap.size + 1) w13 zz7 := by rw [← zze7]; exact zzo6.set 6 _
    have zzr0 := box_cell zzz7 0 rfl
    have zzr1 := box_cell zzz7 1 rfl
    have zzr2 := box_cell zzz7 2 rfl
    have zzr3 := box_cell zzz7 3 rfl
    have zzr4 := box_cell zzz7 4 rfl
    have zzr5 := box_cell zzz7 5 rfl
    have zzr6 := box_cell zzz7 6 rfl
    have zzO := Lib.hid zzo7
    have YB := Lib.hid zzz7
    clear zzz1 zzo1 zzz2 zzo2 zzz3 zzo3 zzz4 zzo4 zzz5 zzo5 zzz6 zzo6 zzz7 zzo7
    go_wp2_with fail
    obtain ⟨bq, hbq⟩ : ∃ b, w11.heap.size = b := ⟨_, rfl⟩
    have hO := zzO.out
    rw [hbq] at QB13 YB hO hne1 ⊢
    have XB := Lib.hid ((hO.block bx (by omega)).trans XB13.out)
    have QB := Lib.hid ((hO.block bq (by omega)).trans QB13.out)
    have RR := Lib.hid (hO.rd R13.out (by have := HGX.out; omega))
    have B9 := Lib.hid (hO.below B13.out (by have := HWG.out; have := HGX.out; omega))
    have HCZ := Lib.hid (show ¬ c1 = 0 from HC1.out)
    clear hO hlen hle hbq hw13
    refine Loose.wp_region_walk (by kernel_rfl) (by kernel_rfl) (FN s S none 0 none 0 none 0 none 0 none 0 none 0 g bx bq A1 c1 c1) (FN_keep s S none 0 none 0 none 0 none 0 none 0 none 0 g bx bq A1 c1 c1) ?_ ?_
    · refine ⟨?_, ?_, ?_, ?_, ?_, ?_, ?_, ?_, ?_, ?_, ?_, ?_, ?_, ?_, ?_, ?_, ?_, ?_, ?_, ?_, ?_, ?_, ?_, ?_, ?_, ?_, ?_, trivial⟩
      · intro a w1 hfr hdep
        have hq_ := (hfr.below.block bx (lt_of_block XB.out)).trans XB.out
        have hc0_ := box_cell hq_ 0 rfl
        have hc1_ := box_cell hq_ 1 rfl
        have hc2_ := box_cell hq_ 2 rfl
        have hc3_ := box_cell hq_ 3 rfl
        have hc4_ := box_cell hq_ 4 rfl
        have hc5_ := box_cell hq_ 5 rfl
        have hc6_ := box_cell hq_ 6 rfl
        have f0 : a.tmps.getD 9 undef = .pointer (some ⟨bx, 0, none⟩) := hfr.slot 9 (by kernel_rfl)
        refine Loose.Step.value rfl (v := .agg #[.string ⟨#[]⟩, .slice none 0 0, .slice none 0 0, .slice none 0 0, .int .i64 0, .int .i64 0, .int .i64 0]) (w' := w1) ?_ rfl (Below.refl _ _)
        simp [go_sem, Act.eval, f0, hc0_, hc1_, hc2_, hc3_, hc4_, hc5_, hc6_]
      · intro a w1 hfr hdep
        have hq_ := (hfr.below.block (bq + 1) (lt_of_block YB.out)).trans YB.out
        have hc0_ := box_cell hq_ 0 rfl
        have hc1_ := box_cell hq_ 1 rfl
        have hc2_ := box_cell hq_ 2 rfl
        have hc3_ := box_cell hq_ 3 rfl
        have hc4_ := box_cell hq_ 4 rfl
        have hc5_ := box_cell hq_ 5 rfl
        have hc6_ := box_cell hq_ 6 rfl
        have f0 : a.tmps.getD 11 undef = .pointer (some ⟨bq + 1, 0, none⟩) := hfr.slot 11 (by kernel_rfl)
        refine Loose.Step.value rfl (v := .agg #[.string ⟨#[]⟩, .slice none 0 0, .slice none 0 0, .slice none 0 0, .int .i64 0, .int .i64 0, .int .i64 0]) (w' := w1) ?_ rfl (Below.refl _ _)
        simp [go_sem, Act.eval, f0, hc0_, hc1_, hc2_, hc3_, hc4_, hc5_, hc6_]
      · intro a w1 hfr hdep
        have e0 : a.tmps.getD 75 undef = .agg #[.string ⟨#[]⟩, .slice none 0 0, .slice none 0 0, .slice none 0 0, .int .i64 0, .int .i64 0, .int .i64 0] := Loose.dep_of hdep 0 75 (by kernel_rfl)
        have e1 : a.tmps.getD 76 undef = .agg #[.string ⟨#[]⟩, .slice none 0 0, .slice none 0 0, .slice none 0 0, .int .i64 0, .int .i64 0, .int .i64 0] := Loose.dep_of hdep 1 76 (by kernel_rfl)
        refine Loose.Step.call rfl (f := 15) (args := #[.agg #[.string ⟨#[]⟩, .slice none 0 0, .slice none 0 0, .slice none 0 0, .int .i64 0, .int .i64 0, .int .i64 0], .agg #[.string ⟨#[]⟩, .slice none 0 0, .slice none 0 0, .slice none 0 0, .int .i64 0, .int .i64 0, .int .i64 0]]) ?_ ?_
        · simp [go_sem, Act.eval, e0, e1]
        · refine (sameSpec_any Z0 none 0 none 0 none 0 Z0 none 0 none 0 none 0 w1 (z0_in w1) (z0_in w1)).mono ?_
          rw [(sameS_iff Z0 Z0).2 rfl]
          rintro e w2 ⟨rfl, hb⟩
          exact ⟨_, rfl, rfl, hb⟩
      · intro a w1 hfr hdep
        have e0 : a.tmps.getD 77 undef = .bool true := Loose.dep_of hdep 2 77 (by kernel_rfl)
        refine Loose.Step.value rfl (v := .bool true) (w' := w1) ?_ rfl (Below.refl _ _)
        simp [go_sem, Act.eval, e0]
      · intro a w1 hfr hdep
        have gd : a.tmps.getD 78 undef = .bool true := Loose.dep_of hdep 3 78 (by kernel_rfl)
        have f0 : a.tmps.getD 8 undef = .pointer (some ⟨g, 0, none⟩) := hfr.slot 8 (by kernel_rfl)
        refine Loose.Step.valueG (Loose.wanted_of rfl rfl gd) (v := .pointer (some ⟨g, 0, none⟩)) (w' := w1) ?_ rfl (Below.refl _ _)
        simp [go_sem, Act.eval, f0]
      · intro a w1 hfr hdep
        have gd : a.tmps.getD 78 undef = .bool true := Loose.dep_of hdep 3 78 (by kernel_rfl)
        have e0 : a.tmps.getD 79 undef = .pointer (some ⟨g, 0, none⟩) := Loose.dep_of hdep 4 79 (by kernel_rfl)
        refine Loose.Step.callG (Loose.wanted_of rfl rfl gd) (f := 14) (args := #[.pointer (some ⟨g, 0, none⟩)]) ?_ ?_
        · simp [go_sem, Act.eval, e0]
        · refine (code_any g c1 l1 w1 (RR.out.below hfr.below)).mono ?_
          rintro e w2 ⟨rfl, rfl⟩
          exact ⟨_, rfl, rfl, Below.refl _ _⟩
      · intro a w1 hfr hdep
        have gd : a.tmps.getD 78 undef = .bool true := Loose.dep_of hdep 3 78 (by kernel_rfl)
        have f0 : a.tmps.getD 12 undef = .int .i64 c1 := hfr.slot 12 (by kernel_rfl)
        refine Loose.Step.valueG (Loose.wanted_of rfl rfl gd) (v := .int .i64 c1) (w' := w1) ?_ rfl (Below.refl _ _)
        simp [go_sem, Act.eval, f0]
      · intro a w1 hfr hdep
        have gd : a.tmps.getD 78 undef = .bool true := Loose.dep_of hdep 3 78 (by kernel_rfl)
        have e0 : a.tmps.getD 80 undef = .int .i64 c1 := Loose.dep_of hdep 5 80 (by kernel_rfl)
        have e1 : a.tmps.getD 81 undef = .int .i64 c1 := Loose.dep_of hdep 6 81 (by kernel_rfl)
        refine Loose.Step.valueG (Loose.wanted_of rfl rfl gd) (v := .bool true) (w' := w1) ?_ rfl (Below.refl _ _)
        simp [go_sem, Act.eval, e0, e1]
      · intro a w1 hfr hdep
        have e0 : a.tmps.getD 78 undef = .bool true := Loose.dep_of hdep 3 78 (by kernel_rfl)
        have e1 : a.tmps.getD 82 undef = .bool true := Loose.dep_of hdep 7 82 (by kernel_rfl)
        refine Loose.Step.value rfl (v := .bool true) (w' := w1) ?_ rfl (Below.refl _ _)
        simp [go_sem, Act.eval, e0, e1]
      · intro a w1 hfr hdep
        have e0 : a.tmps.getD 83 undef = .bool true := Loose.dep_of hdep 8 83 (by kernel_rfl)
        refine Loose.Step.value rfl (v := .bool true) (w' := w1) ?_ rfl (Below.refl _ _)
        simp [go_sem, Act.eval, e0]
      · intro a w1 hfr hdep
        have gd : a.tmps.getD 84 undef = .bool true := Loose.dep_of hdep 9 84 (by kernel_rfl)
        have f0 : a.tmps.getD 12 undef = .int .i64 c1 := hfr.slot 12 (by kernel_rfl)
        refine Loose.Step.valueG (Loose.wanted_of rfl rfl gd) (v := .int .i64 c1) (w' := w1) ?_ rfl (Below.refl _ _)
        simp [go_sem, Act.eval, f0]
      · intro a w1 hfr hdep
        have gd : a.tmps.getD 84 undef = .bool true := Loose.dep_of hdep 9 84 (by kernel_rfl)
        have e0 : a.tmps.getD 85 undef = .int .i64 c1 := Loose.dep_of hdep 10 85 (by kernel_rfl)
        refine Loose.Step.valueG (Loose.wanted_of rfl rfl gd) (v := .bool true) (w' := w1) ?_ rfl (Below.refl _ _)
        simp [go_sem, Act.eval, e0, HCZ.out]
      · intro a w1 hfr hdep
        have gd : a.tmps.getD 84 undef = .bool true := Loose.dep_of hdep 9 84 (by kernel_rfl)
        have e0 : a.tmps.getD 86 undef = .bool true := Loose.dep_of hdep 11 86 (by kernel_rfl)
        refine Loose.Step.valueG (Loose.wanted_of rfl rfl gd) (v := .bool true) (w' := w1) ?_ rfl (Below.refl _ _)
        simp [go_sem, Act.eval, e0]
      · intro a w1 hfr hdep
        have gd : a.tmps.getD 87 undef = .bool true := Loose.dep_of hdep 12 87 (by kernel_rfl)
        exact .inr ⟨unwanted_of rfl rfl gd, rfl⟩
      · intro a w1 hfr hdep
        have gd : a.tmps.getD 87 undef = .bool true := Loose.dep_of hdep 12 87 (by kernel_rfl)
        exact .inr ⟨unwanted_of rfl rfl gd, rfl⟩
      · intro a w1 hfr hdep
        have gd : a.tmps.getD 87 undef = .bool true := Loose.dep_of hdep 12 87 (by kernel_rfl)
        exact .inr ⟨unwanted_of rfl rfl gd, rfl⟩
      · intro a w1 hfr hdep
        have gd : a.tmps.getD 87 undef = .bool true := Loose.dep_of hdep 12 87 (by kernel_rfl)
        exact .inr ⟨unwanted_of rfl rfl gd, rfl⟩
      · intro a w1 hfr hdep
        have gd : a.tmps.getD 87 undef = .bool true := Loose.dep_of hdep 12 87 (by kernel_rfl)
        exact .inr ⟨unwanted_of rfl rfl gd, rfl⟩
      · intro a w1 hfr hdep
        have gd : a.tmps.getD 87 undef = .bool true := Loose.dep_of hdep 12 87 (by kernel_rfl)
        exact .inr ⟨unwanted_of rfl rfl gd, rfl⟩
      · intro a w1 hfr hdep
        have gd : a.tmps.getD 87 undef = .bool true := Loose.dep_of hdep 12 87 (by kernel_rfl)
        exact .inr ⟨unwanted_of rfl rfl gd, rfl⟩
      · intro a w1 hfr hdep
        have gd : a.tmps.getD 87 undef = .bool true := Loose.dep_of hdep 12 87 (by kernel_rfl)
        exact .inr ⟨unwanted_of rfl rfl gd, rfl⟩
      · intro a w1 hfr hdep
        have gd : a.tmps.getD 84 undef = .bool true := Loose.dep_of hdep 9 84 (by kernel_rfl)
        have e0 : a.tmps.getD 87 undef = .bool true := Loose.dep_of hdep 12 87 (by kernel_rfl)
        refine Loose.Step.valueG (Loose.wanted_of rfl rfl gd) (v := .bool true) (w' := w1) ?_ rfl (Below.refl _ _)
        simp [go_sem, Act.eval, e0]
      · intro a w1 hfr hdep
        have e0 : a.tmps.getD 84 undef = .bool true := Loose.dep_of hdep 9 84 (by kernel_rfl)
        have e1 : a.tmps.getD 96 undef = .bool true := Loose.dep_of hdep 21 96 (by kernel_rfl)
        refine Loose.Step.value rfl (v := .bool true) (w' := w1) ?_ rfl (Below.refl _ _)
        simp [go_sem, Act.eval, e0, e1]
      · intro a w1 hfr hdep
        have e0 : a.tmps.getD 97 undef = .bool true := Loose.dep_of hdep 22 97 (by kernel_rfl)
        refine Loose.Step.value rfl (v := .bool true) (w' := w1) ?_ rfl (Below.refl _ _)
        simp [go_sem, Act.eval, e0]
      · intro a w1 hfr hdep
        have gd : a.tmps.getD 98 undef = .bool true := Loose.dep_of hdep 23 98 (by kernel_rfl)
        refine Loose.Step.callG (Loose.wanted_of rfl rfl gd) (f := 10) (args := #[]) ?_ ?_
        · simp [go_sem]
        · refine (works_any w1 (HL.out.below (B9.out.trans (hfr.below.mono B9.out.size)))).mono ?_
          rintro e w2 ⟨rfl, hb⟩
          exact ⟨_, rfl, rfl, hb⟩
      · intro a w1 hfr hdep
        have e0 : a.tmps.getD 98 undef = .bool true := Loose.dep_of hdep 23 98 (by kernel_rfl)
        have e1 : a.tmps.getD 99 undef = .bool true := Loose.dep_of hdep 24 99 (by kernel_rfl)
        refine Loose.Step.value rfl (v := .bool true) (w' := w1) ?_ rfl (Below.refl _ _)
        simp [go_sem, Act.eval, e0, e1]
      · intro a w1 hfr hdep
        have e0 : a.tmps.getD 100 undef = .bool true := Loose.dep_of hdep 25 100 (by kernel_rfl)
        refine Loose.Step.value rfl (v := .bool true) (w' := w1) ?_ rfl (Below.refl _ _)
        simp [go_sem, Act.eval, e0]
    · intro v0 v1 v2 v3 v4 v5 v6 v7 v8 v9 v10 v11 v12 v13 v14 v15 v16 v17 v18 v19 v20 v21 v22 v23 v24 v25 v26 w8 hb8 hC
      have hlast : v26 = .bool true := hC.2
      subst hlast
      have B20 := Lib.hid (B9.out.trans (hb8.mono B9.out.size))
      clear hC hb8
      simp only [SpecOwn.put_lit, List.set_cons_succ, List.set_cons_zero]
      go_wp2_with fail
      go_ret
      exact ⟨rfl, B20.out⟩
end Go.Proofs.YtmeilidjomjocaaGreatDoor.PackReadsWalk
