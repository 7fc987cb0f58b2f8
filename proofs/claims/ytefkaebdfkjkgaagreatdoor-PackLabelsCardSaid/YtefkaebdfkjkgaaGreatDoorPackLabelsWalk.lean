/-
  The walk of the law PackLabels: it returns true, and leaves all that was there as it was. Condition: as SpecStep.
-/
import Derived.Test.YtefkaebdfkjkgaaGreatDoorPackRefAll
set_option linter.unusedVariables false
set_option linter.unusedSimpArgs false
namespace Go.Proofs.YtefkaebdfkjkgaaGreatDoor.PackLabelsWalk
open Go.ChangeShapes Go.WideShapes Go.ChangeAt Go.RowKit Go.Lib
open LebMath WirePure Sd Wire SpecOwn SpecRef Book Pk

theorem bx_eq (l : List UInt8) : (⟨l.toArray⟩ : ByteArray) = bx l := rfl
def onlyL (l : List Lbl) : Spc := ⟨⟨#[]⟩, l, [], [], 0, 0, 0⟩
theorem i64_zero : I64 0 := by unfold I64; decide
/-- a block that is new is none of the writer's -/
theorem wr_new {w w' : World} {g : Nat} {D : Nat → Prop} {c : Int} {xs : List UInt8} (h : Wr w g D c xs) (hb : Below w.heap.size w w') (hs : w.heap.size < w'.heap.size) : Wr w' g (fun k => D k ∨ k = w.heap.size) c xs := by
  have hl := h.lt
  have h' := h.below hb
  obtain ⟨h0, A, cap, h1, h2, h3⟩ := h'
  refine ⟨fun k hk => ?_, A, cap, h1, h2, fun r hr hd => ?_⟩
  · rcases hk with hk | rfl
    · exact h0 k hk
    · exact ⟨hs, by omega⟩
  · rcases hd with hd | rfl
    · exact h3 r hr hd
    · obtain ⟨_, A2, cap2, g1, g2, g3⟩ := h
      have e : (Value.slice A xs.length cap) = .slice A2 xs.length cap2 := by
        have := (hb.block g hl).trans g1
        rw [this] at h1
        injection h1 with h1
        injection h1 with h1
        have := congrArg (fun a : Array Value => a[1]?) h1
        simpa using this.symm
      rw [e] at hr
      exact Nat.lt_irrefl _ (owns_lt g2 hr).2
theorem onlyL_in {l : List Lbl} {w : World} {A : Option Addr} {c : Nat} (h : Lbls w A l) (hn : l.length ≤ 9223372036854775807) : (onlyL l).In w A c none 0 none 0 :=
  ⟨h, fun k x hk => by simp [onlyL] at hk, fun k x hk => by simp [onlyL] at hk, hn, Nat.zero_le _, Nat.zero_le _, i64_zero, i64_zero, i64_zero⟩

theorem unwanted_of {ops : Array Oper} {o : Oper} {a : Act} {j d : Nat} {b : Bool} (hg : o.guard = some (j, !b)) (hj : (ops[j]?).bind (·.dst) = some d) (hv : a.tmps.getD d undef = .bool b) : Region.wanted o (yielded ops a.tmps) = false := by
  have hs : a.tmps[d]? = some (.bool b) := by
    rw [Array.getD_eq_getD_getElem?] at hv
    cases h : a.tmps[d]? with
    | none => rw [h] at hv; simp [undef] at hv
    | some x => rw [h] at hv; simp at hv; rw [hv]
  unfold Region.wanted
  rw [hg]
  simp [yielded, hj, hs]
theorem labels_none {l l' : List UInt8} {c c' : Int} {xs : List Lbl} (hq : labelsC.rd c l = (xs, c', l')) (h : c' ≠ 0) : xs = [] := by
  have hq' : ((if (repS labelC.rd (numE 4 c l) (numL 4 c l) (WirePure.numV 4 c l)).1 = 0 then repX labelC.rd (numE 4 c l) (numL 4 c l) (WirePure.numV 4 c l) else []), repS labelC.rd (numE 4 c l) (numL 4 c l) (WirePure.numV 4 c l)) = (xs, c', l') := hq
  injection hq' with hq1 hq2
  rw [hq2, if_neg h] at hq1
  exact hq1.symm
theorem lbls_below {w w' : World} {A : Option Addr} {l : List Lbl} (h : Lbls w A l) (hb : Below w.heap.size w w') : Lbls w' A l := h.below hb
-- F BEGIN
/-- what each operation leaves -/
def FZ (A : Option Addr) (c : Nat) (l : List Lbl) (s : ByteArray) (P : Option Addr) (pc : Nat) (Q : Option Addr) (qc : Nat) (xs : List Lbl) (h bq A6 : Nat) (cc : Int) : Nat → Value → World → Prop
  | 0 => fun v _ => v = .string (bx (labelsC.put l))
  | 1 => fun v _ => v = .slice A l.length c
  | 2 => fun v _ => v = .string (bx (labelsC.put l))
  | 3 => fun v _ => v = .bool true
  | 4 => fun v _ => v = .bool true
  | 5 => fun v _ => v = .int .i64 0
  | 6 => fun v _ => v = .bool true
  | 7 => fun v _ => v = .bool true
  | 8 => fun v _ => v = .bool true
  | 9 => fun v _ => v = .slice P xs.length pc
  | 10 => fun v _ => v = .slice Q xs.length qc
  | 11 => fun v _ => v = .bool true
  | 12 => fun v _ => v = .bool true
  | 13 => fun v _ => v = .bool true
  | 14 => fun v _ => v = .pointer (some ⟨h, 0, none⟩)
  | 15 => fun v _ => v = .int .i64 0
  | 16 => fun v _ => v = .pointer (some ⟨bq, 2, none⟩)
  | 17 => fun v _ => v = .int .i64 0
  | 18 => fun v _ => v = .bool true
  | 19 => fun v _ => v = .bool true
  | 20 => fun v _ => v = .bool true
  | 21 => fun v _ => v = .pointer (some ⟨bq, 2, none⟩)
  | 22 => fun v _ => v = .int .i64 0
  | 23 => fun v _ => v = .bool false
  | 24 => fun v _ => v = .bool false
  | 25 => fun v _ => v = .pointer (some ⟨h, 0, none⟩)
  | 26 => fun v _ => v = .int .i64 ((s.size : Int) - (A6 : Int))
  | 27 => fun v _ => v = .string s
  | 28 => fun v _ => v = .int .i64 (s.size : Int)
  | 29 => fun v _ => v = .pointer (some ⟨bq, 1, none⟩)
  | 30 => fun v _ => v = .int .i64 (A6 : Int)
  | 31 => fun v _ => v = .int .i64 ((s.size : Int) - (A6 : Int))
  | 32 => fun v _ => v = .bool true
  | 33 => fun v _ => v = .bool true
  | 34 => fun v _ => v = .bool true
  | 35 => fun v _ => v = .bool true
  | 36 => fun v _ => v = .bool true
  | 37 => fun v _ => v = .bool true
  | _ => fun v _ => v = .bool true
theorem FZ_keep (A : Option Addr) (c : Nat) (l : List Lbl) (s : ByteArray) (P : Option Addr) (pc : Nat) (Q : Option Addr) (qc : Nat) (xs : List Lbl) (hh bq A6 : Nat) (cc : Int) (i : Nat) (v : Value) (w w' : World) (h : FZ A c l s P pc Q qc xs hh bq A6 cc i v w) (hb : Below w.heap.size w w') : FZ A c l s P pc Q qc xs hh bq A6 cc i v w' := by
  unfold FZ at h ⊢
  split at h <;> exact h
/-- what each operation leaves -/
def FN (A : Option Addr) (c : Nat) (l : List Lbl) (s : ByteArray) (P : Option Addr) (pc : Nat) (Q : Option Addr) (qc : Nat) (xs : List Lbl) (h bq A6 : Nat) (cc : Int) : Nat → Value → World → Prop
  | 0 => fun v _ => v = .string (bx (labelsC.put l))
  | 1 => fun v _ => v = .slice A l.length c
  | 2 => fun v _ => v = .string (bx (labelsC.put l))
  | 3 => fun v _ => v = .bool true
  | 4 => fun v _ => v = .bool true
  | 5 => fun v _ => v = .int .i64 0
  | 6 => fun v _ => v = .bool true
  | 7 => fun v _ => v = .bool true
  | 8 => fun v _ => v = .bool true
  | 9 => fun v _ => v = .slice P 0 pc
  | 10 => fun v _ => v = .slice none 0 0
  | 11 => fun v _ => v = .bool true
  | 12 => fun v _ => v = .bool true
  | 13 => fun v _ => v = .bool true
  | 14 => fun v _ => v = .pointer (some ⟨h, 0, none⟩)
  | 15 => fun v _ => v = .int .i64 cc
  | 16 => fun v _ => v = .pointer (some ⟨bq, 2, none⟩)
  | 17 => fun v _ => v = .int .i64 cc
  | 18 => fun v _ => v = .bool true
  | 19 => fun v _ => v = .bool true
  | 20 => fun v _ => v = .bool true
  | 21 => fun v _ => v = .pointer (some ⟨bq, 2, none⟩)
  | 22 => fun v _ => v = .int .i64 cc
  | 23 => fun v _ => v = .bool true
  | 24 => fun v _ => v = .bool true
  | 25 => fun v _ => v = undef
  | 26 => fun v _ => v = undef
  | 27 => fun v _ => v = undef
  | 28 => fun v _ => v = undef
  | 29 => fun v _ => v = undef
  | 30 => fun v _ => v = undef
  | 31 => fun v _ => v = undef
  | 32 => fun v _ => v = undef
  | 33 => fun v _ => v = .bool true
  | 34 => fun v _ => v = .bool true
  | 35 => fun v _ => v = .bool true
  | 36 => fun v _ => v = .bool true
  | 37 => fun v _ => v = .bool true
  | _ => fun v _ => v = .bool true
theorem FN_keep (A : Option Addr) (c : Nat) (l : List Lbl) (s : ByteArray) (P : Option Addr) (pc : Nat) (Q : Option Addr) (qc : Nat) (xs : List Lbl) (hh bq A6 : Nat) (cc : Int) (i : Nat) (v : Value) (w w' : World) (h : FN A c l s P pc Q qc xs hh bq A6 cc i v w) (hb : Below w.heap.size w w') : FN A c l s P pc Q qc xs hh bq A6 cc i v w' := by
  unfold FN at h ⊢
  split at h <;> exact h
-- F END
set_option maxRecDepth 100000 in
set_option maxHeartbeats 4000000 in
theorem walk (A : Option Addr) (c : Nat) (l : List Lbl) (hlc : l.length ≤ c) (hc : c ≤ 9223372036854775807) (s : ByteArray) (w : World) (hL : SLaid w) (h : Lbls w A l) :
    Calls Tryz.prog 6 #[.slice A l.length c, .string s] w fun e w' => e = .returned (.bool true) ∧ Below w.heap.size w w' := by
  have HL := Lib.hid hL
  have H := Lib.hid h
  have hn' : (l.length : Int) ≤ 9223372036854775807 := by omega
  clear hL h
  by_cases h1 : 10 < (l.length : Int)
  · go_enter Tryz.func6, Tryz.ntmps6
    go_wp2_with fail
    refine (works_any w HL.out).mono ?_
    rintro e w4 ⟨rfl, hb4⟩
    go_wp2
    go_ret
    exact ⟨rfl, hb4⟩
  by_cases h2 : 3000 < (s.size : Int)
  · go_enter Tryz.func6, Tryz.ntmps6
    go_wp2_with fail
    refine (works_any w HL.out).mono ?_
    rintro e w4 ⟨rfl, hb4⟩
    go_wp2
    go_ret
    exact ⟨rfl, hb4⟩
  go_enter Tryz.func6, Tryz.ntmps6
  go_wp2_with fail
  refine (light_any (onlyL l) A c none 0 none 0 w (onlyL_in H.out (by omega))).mono ?_
  rintro e w1 ⟨rfl, hb1⟩
  have B1 := Lib.hid hb1
  clear hb1
  cases hlt : LightB (onlyL l) with
  | false =>
    go_wp2_with fail
    refine (works_any w1 (HL.out.below B1.out)).mono ?_
    rintro e w4 ⟨rfl, hb4⟩
    go_wp2
    go_ret
    exact ⟨rfl, B1.out.trans (hb4.mono B1.out.size)⟩
  | true =>
    have hls : ∀ x ∈ l, x.key.size ≤ 1000 ∧ x.val.size ≤ 1000 := fun x hx => by
      have := (LightB_iff.1 hlt).2.1 x hx
      exact ⟨Nat.le_trans this.1 (by decide), Nat.le_trans this.2 (by decide)⟩
    have HLS := Lib.hid hls
    clear hls hlt
    go_wp2_with fail
    refine (write_any w1).mono ?_
    rintro e w2 ⟨rfl, h2, hb2, hs2⟩
    have B2 := Lib.hid (B1.out.trans (hb2.mono B1.out.size))
    have W2 := Lib.hid h2
    obtain ⟨g, hg⟩ : ∃ g, w1.heap.size = g := ⟨_, rfl⟩
    rw [hg] at W2 ⊢
    have HG := Lib.hid (show w.heap.size ≤ g by rw [← hg]; exact B1.out.size)
    clear h2 hb2 hs2 hg
    go_wp2_with fail
    refine (read_any s w2).mono ?_
    rintro e w3 ⟨rfl, h3, hb3, hs3⟩
    have B3 := Lib.hid (B2.out.trans (hb3.mono B2.out.size))
    have R3 := Lib.hid h3
    have W3 := Lib.hid (wr_new W2.out hb3 (by omega))
    obtain ⟨h, hh⟩ : ∃ h, w2.heap.size = h := ⟨_, rfl⟩
    rw [hh] at R3 W3 ⊢
    have HH := Lib.hid (show w.heap.size ≤ h ∧ g < h from ⟨by rw [← hh]; exact B2.out.size, by rw [← hh]; exact W2.out.lt⟩)
    clear h3 hb3 hs3 hh
    go_wp2_with fail
    refine (putLabels_wr g _ 0 [] A c l (by omega) HLS.out (by simp) w w3 B3.out (fun k hk => Or.inl (by have := HG.out; omega)) H.out W3.out).mono ?_
    rintro e w4 ⟨rfl, h4, k4⟩
    rw [addB_no, List.nil_append] at h4
    have W4 := Lib.hid h4
    have R4 := Lib.hid (R3.out.keep k4 (Or.inr rfl))
    have B4 := Lib.hid (show Below w.heap.size w w4 from B3.out.trans (k4.below (fun k hk => Or.inl (by have := HG.out; omega))))
    clear h4 k4 W3 R3
    go_wp2_with fail
    refine (end_ok g _ _ w4 W4.out).mono ?_
    rintro e w5 ⟨rfl, rfl⟩
    rw [bx_eq]
    obtain ⟨⟨xs, cc, ll⟩, hq⟩ : ∃ t, labelsC.rd 0 s.data.toList = t := ⟨_, rfl⟩
    have HQ := Lib.hid hq
    have hsl : s.data.toList.length = s.size := Array.length_toList
    have HFEW := Lib.hid (show Few s.data.toList by unfold Few; omega)
    have hxl : xs.length ≤ 4 := by
      have := list_len 4 labelC.rd 0 s.data.toList
      have e : (listR 4 labelC.rd 0 s.data.toList).1 = xs := congrArg Prod.fst hq
      rw [e] at this; exact this
    clear hq hsl
    go_wp2_with fail
    refine (takeLabels_rd h 0 s.data.toList HFEW.out xs cc ll HQ.out w4 R4.out).mono ?_
    rintro e w5 ⟨P, pc, rfl, hl5, _, _, h5, k5⟩
    have L5 := Lib.hid hl5
    have R5 := Lib.hid h5
    have B5 := Lib.hid (show Below w.heap.size w w5 from B4.out.trans (k5.below (fun k hk => ⟨Nat.lt_of_lt_of_le hk B4.out.size, by have := HH.out; omega⟩)))
    clear hl5 h5 k5 W4 R4
    go_wp2_with fail
    refine (takeLabels_ref s (by omega) 0 0 s.data.toList ⟨Nat.zero_le _, rfl⟩ xs cc ll HQ.out w5).mono ?_
    rintro e w6 ⟨A6, Q, m, qc, rfl, h6, hmc, _, hl6, hb6⟩
    have B6 := Lib.hid (B5.out.trans (hb6.mono B5.out.size))
    have L6 := Lib.hid (L5.out.below hb6)
    have R6 := Lib.hid (R5.out.below hb6)
    have A6H := Lib.hid h6
    have M6 := Lib.hid hl6
    clear h6 hl6 hb6 L5 R5
    by_cases hz : cc = 0
    · subst hz
      obtain ⟨rfl, hl6⟩ := M6.out rfl
      have N6 := Lib.hid hl6
      clear hl6 M6
      have hlen := A6H.out.len
      have hle := A6H.out.1
      have HLEN := Lib.hid (show ((ll.length : Nat) : Int) = (s.size : Int) - (A6 : Int) by omega)
      have HWR := Lib.hid (show IntKind.i64.wrap ((s.size : Int) - (A6 : Int)) = (s.size : Int) - (A6 : Int) from IntWalk.i64_in _ (by omega))
      clear hlen hle
      go_wp2_with fail
      obtain ⟨w7, hw7⟩ : ∃ v, w6.alloc (.cells #[.string s, .int .i64 A6, .int .i64 0] 65) = v := ⟨_, rfl⟩
      have ZQ := Lib.hid (show w7.heap[w6.heap.size]? = some (.cells #[.string s, .int .i64 A6, .int .i64 0] 65 (0, 0)) by rw [← hw7]; exact heap_alloc_new w6 _)
      have BQ := Lib.hid (show Below w6.heap.size w6 w7 by rw [← hw7]; exact (Below.refl _ _).alloc (Nat.le_refl _) _)
      have B7 := Lib.hid (B6.out.trans (BQ.out.mono B6.out.size))
      rw [hw7]
      obtain ⟨bq, hbq⟩ : ∃ b, w6.heap.size = b := ⟨_, rfl⟩
      rw [hbq] at ZQ ⊢
      clear hw7 hbq
      refine Loose.wp_region_walk (by kernel_rfl) (by kernel_rfl) (FZ A c l s P pc Q qc xs h bq A6 0) (FZ_keep A c l s P pc Q qc xs h bq A6 0) ?_ ?_
      · refine ⟨?_, ?_, ?_, ?_, ?_, ?_, ?_, ?_, ?_, ?_, ?_, ?_, ?_, ?_, ?_, ?_, ?_, ?_, ?_, ?_, ?_, ?_, ?_, ?_, ?_, ?_, ?_, ?_, ?_, ?_, ?_, ?_, ?_, ?_, ?_, ?_, ?_, ?_, ?_, trivial⟩
        · intro a w1 hfr hdep
          have f0 : a.tmps.getD 7 undef = .string (bx (labelsC.put l)) := hfr.slot 7 (by kernel_rfl)
          refine Loose.Step.value rfl (v := .string (bx (labelsC.put l))) (w' := w1) ?_ rfl (Below.refl _ _)
          simp [go_sem, Act.eval, f0]
        · intro a w1 hfr hdep
          have f0 : a.tmps.getD 0 undef = .slice A l.length c := hfr.slot 0 (by kernel_rfl)
          refine Loose.Step.value rfl (v := .slice A l.length c) (w' := w1) ?_ rfl (Below.refl _ _)
          simp [go_sem, Act.eval, f0]
        · intro a w1 hfr hdep
          have e0 : a.tmps.getD 56 undef = .slice A l.length c := Loose.dep_of hdep 1 56 (by kernel_rfl)
          refine Loose.Step.call rfl (f := 37) (args := #[.slice A l.length c]) ?_ ?_
          · simp [go_sem, Act.eval, e0]
          · refine (labels_bytes A c l (by omega) HLS.out w1 (lbls_below H.out (B7.out.trans (hfr.below.mono B7.out.size)))).mono ?_
            rintro e w2 ⟨rfl, hb⟩
            exact ⟨_, rfl, rfl, hb⟩
        · intro a w1 hfr hdep
          have e0 : a.tmps.getD 55 undef = .string (bx (labelsC.put l)) := Loose.dep_of hdep 0 55 (by kernel_rfl)
          have e1 : a.tmps.getD 57 undef = .string (bx (labelsC.put l)) := Loose.dep_of hdep 2 57 (by kernel_rfl)
          refine Loose.Step.value rfl (v := .bool true) (w' := w1) ?_ rfl (Below.refl _ _)
          simp [go_sem, Act.eval, e0, e1]
        · intro a w1 hfr hdep
          have e0 : a.tmps.getD 58 undef = .bool true := Loose.dep_of hdep 3 58 (by kernel_rfl)
          refine Loose.Step.value rfl (v := .bool true) (w' := w1) ?_ rfl (Below.refl _ _)
          simp [go_sem, Act.eval, e0]
        · intro a w1 hfr hdep
          have gd : a.tmps.getD 59 undef = .bool true := Loose.dep_of hdep 4 59 (by kernel_rfl)
          have f0 : a.tmps.getD 8 undef = .int .i64 0 := hfr.slot 8 (by kernel_rfl)
          refine Loose.Step.valueG (Loose.wanted_of rfl rfl gd) (v := .int .i64 0) (w' := w1) ?_ rfl (Below.refl _ _)
          simp [go_sem, Act.eval, f0]
        · intro a w1 hfr hdep
          have gd : a.tmps.getD 59 undef = .bool true := Loose.dep_of hdep 4 59 (by kernel_rfl)
          have e0 : a.tmps.getD 60 undef = .int .i64 0 := Loose.dep_of hdep 5 60 (by kernel_rfl)
          refine Loose.Step.valueG (Loose.wanted_of rfl rfl gd) (v := .bool true) (w' := w1) ?_ rfl (Below.refl _ _)
          simp [go_sem, Act.eval, e0]
        · intro a w1 hfr hdep
          have e0 : a.tmps.getD 59 undef = .bool true := Loose.dep_of hdep 4 59 (by kernel_rfl)
          have e1 : a.tmps.getD 61 undef = .bool true := Loose.dep_of hdep 6 61 (by kernel_rfl)
          refine Loose.Step.value rfl (v := .bool true) (w' := w1) ?_ rfl (Below.refl _ _)
          simp [go_sem, Act.eval, e0, e1]
        · intro a w1 hfr hdep
          have e0 : a.tmps.getD 62 undef = .bool true := Loose.dep_of hdep 7 62 (by kernel_rfl)
          refine Loose.Step.value rfl (v := .bool true) (w' := w1) ?_ rfl (Below.refl _ _)
          simp [go_sem, Act.eval, e0]
        · intro a w1 hfr hdep
          have gd : a.tmps.getD 63 undef = .bool true := Loose.dep_of hdep 8 63 (by kernel_rfl)
          have f0 : a.tmps.getD 9 undef = .slice P xs.length pc := hfr.slot 9 (by kernel_rfl)
          refine Loose.Step.valueG (Loose.wanted_of rfl rfl gd) (v := .slice P xs.length pc) (w' := w1) ?_ rfl (Below.refl _ _)
          simp [go_sem, Act.eval, f0]
        · intro a w1 hfr hdep
          have gd : a.tmps.getD 63 undef = .bool true := Loose.dep_of hdep 8 63 (by kernel_rfl)
          have f0 : a.tmps.getD 11 undef = .slice Q xs.length qc := hfr.slot 11 (by kernel_rfl)
          refine Loose.Step.valueG (Loose.wanted_of rfl rfl gd) (v := .slice Q xs.length qc) (w' := w1) ?_ rfl (Below.refl _ _)
          simp [go_sem, Act.eval, f0]
        · intro a w1 hfr hdep
          have gd : a.tmps.getD 63 undef = .bool true := Loose.dep_of hdep 8 63 (by kernel_rfl)
          have e0 : a.tmps.getD 64 undef = .slice P xs.length pc := Loose.dep_of hdep 9 64 (by kernel_rfl)
          have e1 : a.tmps.getD 65 undef = .slice Q xs.length qc := Loose.dep_of hdep 10 65 (by kernel_rfl)
          refine Loose.Step.callG (Loose.wanted_of rfl rfl gd) (f := 38) (args := #[.slice P xs.length pc, .slice Q xs.length qc]) ?_ ?_
          · simp [go_sem, Act.eval, e0, e1]
          · refine (sameLabels_any P pc xs Q qc xs (by omega) (by omega) w1 (lbls_below L6.out (BQ.out.trans (hfr.below.mono BQ.out.size))) (lbls_below N6.out (BQ.out.trans (hfr.below.mono BQ.out.size)))).mono ?_
            rw [(sameLs_iff (a := xs) (b := xs)).2 rfl]
            rintro e w2 ⟨rfl, hb⟩
            exact ⟨_, rfl, rfl, hb⟩
        · intro a w1 hfr hdep
          have e0 : a.tmps.getD 63 undef = .bool true := Loose.dep_of hdep 8 63 (by kernel_rfl)
          have e1 : a.tmps.getD 66 undef = .bool true := Loose.dep_of hdep 11 66 (by kernel_rfl)
          refine Loose.Step.value rfl (v := .bool true) (w' := w1) ?_ rfl (Below.refl _ _)
          simp [go_sem, Act.eval, e0, e1]
        · intro a w1 hfr hdep
          have e0 : a.tmps.getD 67 undef = .bool true := Loose.dep_of hdep 12 67 (by kernel_rfl)
          refine Loose.Step.value rfl (v := .bool true) (w' := w1) ?_ rfl (Below.refl _ _)
          simp [go_sem, Act.eval, e0]
        · intro a w1 hfr hdep
          have gd : a.tmps.getD 68 undef = .bool true := Loose.dep_of hdep 13 68 (by kernel_rfl)
          have f0 : a.tmps.getD 6 undef = .pointer (some ⟨h, 0, none⟩) := hfr.slot 6 (by kernel_rfl)
          refine Loose.Step.valueG (Loose.wanted_of rfl rfl gd) (v := .pointer (some ⟨h, 0, none⟩)) (w' := w1) ?_ rfl (Below.refl _ _)
          simp [go_sem, Act.eval, f0]
        · intro a w1 hfr hdep
          have gd : a.tmps.getD 68 undef = .bool true := Loose.dep_of hdep 13 68 (by kernel_rfl)
          have e0 : a.tmps.getD 69 undef = .pointer (some ⟨h, 0, none⟩) := Loose.dep_of hdep 14 69 (by kernel_rfl)
          refine Loose.Step.callG (Loose.wanted_of rfl rfl gd) (f := 39) (args := #[.pointer (some ⟨h, 0, none⟩)]) ?_ ?_
          · simp [go_sem, Act.eval, e0]
          · refine (code_any h 0 ll w1 (R6.out.below (BQ.out.trans (hfr.below.mono BQ.out.size)))).mono ?_
            rintro e w2 ⟨rfl, rfl⟩
            exact ⟨_, rfl, rfl, Below.refl _ _⟩
        · intro a w1 hfr hdep
          have gd : a.tmps.getD 68 undef = .bool true := Loose.dep_of hdep 13 68 (by kernel_rfl)
          have f0 : a.tmps.getD 10 undef = .pointer (some ⟨bq, 0, none⟩) := hfr.slot 10 (by kernel_rfl)
          refine Loose.Step.valueG (Loose.wanted_of rfl rfl gd) (v := .pointer (some ⟨bq, 2, none⟩)) (w' := w1) ?_ rfl (Below.refl _ _)
          simp [go_sem, Act.eval, f0]
        · intro a w1 hfr hdep
          obtain ⟨⟨hc0, hc1, hc2⟩, _, _, _⟩ := r3_cells ((hfr.below.block bq (lt_of_block ZQ.out)).trans ZQ.out)
          have gd : a.tmps.getD 68 undef = .bool true := Loose.dep_of hdep 13 68 (by kernel_rfl)
          have e0 : a.tmps.getD 71 undef = .pointer (some ⟨bq, 2, none⟩) := Loose.dep_of hdep 16 71 (by kernel_rfl)
          refine Loose.Step.valueG (Loose.wanted_of rfl rfl gd) (v := .int .i64 0) (w' := w1) ?_ rfl (Below.refl _ _)
          simp [go_sem, Act.eval, e0, hc0, hc1, hc2]
        · intro a w1 hfr hdep
          have gd : a.tmps.getD 68 undef = .bool true := Loose.dep_of hdep 13 68 (by kernel_rfl)
          have e0 : a.tmps.getD 70 undef = .int .i64 0 := Loose.dep_of hdep 15 70 (by kernel_rfl)
          have e1 : a.tmps.getD 72 undef = .int .i64 0 := Loose.dep_of hdep 17 72 (by kernel_rfl)
          refine Loose.Step.valueG (Loose.wanted_of rfl rfl gd) (v := .bool true) (w' := w1) ?_ rfl (Below.refl _ _)
          simp [go_sem, Act.eval, e0, e1]
        · intro a w1 hfr hdep
          have e0 : a.tmps.getD 68 undef = .bool true := Loose.dep_of hdep 13 68 (by kernel_rfl)
          have e1 : a.tmps.getD 73 undef = .bool true := Loose.dep_of hdep 18 73 (by kernel_rfl)
          refine Loose.Step.value rfl (v := .bool true) (w' := w1) ?_ rfl (Below.refl _ _)
          simp [go_sem, Act.eval, e0, e1]
        · intro a w1 hfr hdep
          have e0 : a.tmps.getD 74 undef = .bool true := Loose.dep_of hdep 19 74 (by kernel_rfl)
          refine Loose.Step.value rfl (v := .bool true) (w' := w1) ?_ rfl (Below.refl _ _)
          simp [go_sem, Act.eval, e0]
        · intro a w1 hfr hdep
          have gd : a.tmps.getD 75 undef = .bool true := Loose.dep_of hdep 20 75 (by kernel_rfl)
          have f0 : a.tmps.getD 10 undef = .pointer (some ⟨bq, 0, none⟩) := hfr.slot 10 (by kernel_rfl)
          refine Loose.Step.valueG (Loose.wanted_of rfl rfl gd) (v := .pointer (some ⟨bq, 2, none⟩)) (w' := w1) ?_ rfl (Below.refl _ _)
          simp [go_sem, Act.eval, f0]
        · intro a w1 hfr hdep
          obtain ⟨⟨hc0, hc1, hc2⟩, _, _, _⟩ := r3_cells ((hfr.below.block bq (lt_of_block ZQ.out)).trans ZQ.out)
          have gd : a.tmps.getD 75 undef = .bool true := Loose.dep_of hdep 20 75 (by kernel_rfl)
          have e0 : a.tmps.getD 76 undef = .pointer (some ⟨bq, 2, none⟩) := Loose.dep_of hdep 21 76 (by kernel_rfl)
          refine Loose.Step.valueG (Loose.wanted_of rfl rfl gd) (v := .int .i64 0) (w' := w1) ?_ rfl (Below.refl _ _)
          simp [go_sem, Act.eval, e0, hc0, hc1, hc2]
        · intro a w1 hfr hdep
          have gd : a.tmps.getD 75 undef = .bool true := Loose.dep_of hdep 20 75 (by kernel_rfl)
          have e0 : a.tmps.getD 77 undef = .int .i64 0 := Loose.dep_of hdep 22 77 (by kernel_rfl)
          refine Loose.Step.valueG (Loose.wanted_of rfl rfl gd) (v := .bool false) (w' := w1) ?_ rfl (Below.refl _ _)
          simp [go_sem, Act.eval, e0]
        · intro a w1 hfr hdep
          have gd : a.tmps.getD 75 undef = .bool true := Loose.dep_of hdep 20 75 (by kernel_rfl)
          have e0 : a.tmps.getD 78 undef = .bool false := Loose.dep_of hdep 23 78 (by kernel_rfl)
          refine Loose.Step.valueG (Loose.wanted_of rfl rfl gd) (v := .bool false) (w' := w1) ?_ rfl (Below.refl _ _)
          simp [go_sem, Act.eval, e0]
        · intro a w1 hfr hdep
          have gd : a.tmps.getD 79 undef = .bool false := Loose.dep_of hdep 24 79 (by kernel_rfl)
          have f0 : a.tmps.getD 6 undef = .pointer (some ⟨h, 0, none⟩) := hfr.slot 6 (by kernel_rfl)
          refine Loose.Step.valueG (Loose.wanted_of rfl rfl gd) (v := .pointer (some ⟨h, 0, none⟩)) (w' := w1) ?_ rfl (Below.refl _ _)
          simp [go_sem, Act.eval, f0]
        · intro a w1 hfr hdep
          have gd : a.tmps.getD 79 undef = .bool false := Loose.dep_of hdep 24 79 (by kernel_rfl)
          have e0 : a.tmps.getD 80 undef = .pointer (some ⟨h, 0, none⟩) := Loose.dep_of hdep 25 80 (by kernel_rfl)
          refine Loose.Step.callG (Loose.wanted_of rfl rfl gd) (f := 40) (args := #[.pointer (some ⟨h, 0, none⟩)]) ?_ ?_
          · simp [go_sem, Act.eval, e0]
          · refine (left_any h 0 ll w1 (R6.out.below (BQ.out.trans (hfr.below.mono BQ.out.size)))).mono ?_
            rw [HLEN.out]
            rintro e w2 ⟨rfl, rfl⟩
            exact ⟨_, rfl, rfl, Below.refl _ _⟩
        · intro a w1 hfr hdep
          have gd : a.tmps.getD 79 undef = .bool false := Loose.dep_of hdep 24 79 (by kernel_rfl)
          have f0 : a.tmps.getD 1 undef = .string s := hfr.slot 1 (by kernel_rfl)
          refine Loose.Step.valueG (Loose.wanted_of rfl rfl gd) (v := .string s) (w' := w1) ?_ rfl (Below.refl _ _)
          simp [go_sem, Act.eval, f0]
        · intro a w1 hfr hdep
          have gd : a.tmps.getD 79 undef = .bool false := Loose.dep_of hdep 24 79 (by kernel_rfl)
          have e0 : a.tmps.getD 82 undef = .string s := Loose.dep_of hdep 27 82 (by kernel_rfl)
          refine Loose.Step.valueG (Loose.wanted_of rfl rfl gd) (v := .int .i64 (s.size : Int)) (w' := w1) ?_ rfl (Below.refl _ _)
          simp [go_sem, Act.eval, e0]
        · intro a w1 hfr hdep
          have gd : a.tmps.getD 79 undef = .bool false := Loose.dep_of hdep 24 79 (by kernel_rfl)
          have f0 : a.tmps.getD 10 undef = .pointer (some ⟨bq, 0, none⟩) := hfr.slot 10 (by kernel_rfl)
          refine Loose.Step.valueG (Loose.wanted_of rfl rfl gd) (v := .pointer (some ⟨bq, 1, none⟩)) (w' := w1) ?_ rfl (Below.refl _ _)
          simp [go_sem, Act.eval, f0]
        · intro a w1 hfr hdep
          obtain ⟨⟨hc0, hc1, hc2⟩, _, _, _⟩ := r3_cells ((hfr.below.block bq (lt_of_block ZQ.out)).trans ZQ.out)
          have gd : a.tmps.getD 79 undef = .bool false := Loose.dep_of hdep 24 79 (by kernel_rfl)
          have e0 : a.tmps.getD 84 undef = .pointer (some ⟨bq, 1, none⟩) := Loose.dep_of hdep 29 84 (by kernel_rfl)
          refine Loose.Step.valueG (Loose.wanted_of rfl rfl gd) (v := .int .i64 (A6 : Int)) (w' := w1) ?_ rfl (Below.refl _ _)
          simp [go_sem, Act.eval, e0, hc0, hc1, hc2]
        · intro a w1 hfr hdep
          have gd : a.tmps.getD 79 undef = .bool false := Loose.dep_of hdep 24 79 (by kernel_rfl)
          have e0 : a.tmps.getD 83 undef = .int .i64 (s.size : Int) := Loose.dep_of hdep 28 83 (by kernel_rfl)
          have e1 : a.tmps.getD 85 undef = .int .i64 (A6 : Int) := Loose.dep_of hdep 30 85 (by kernel_rfl)
          refine Loose.Step.valueG (Loose.wanted_of rfl rfl gd) (v := .int .i64 ((s.size : Int) - (A6 : Int))) (w' := w1) ?_ rfl (Below.refl _ _)
          simp [go_sem, Act.eval, e0, e1, HWR.out]
        · intro a w1 hfr hdep
          have gd : a.tmps.getD 79 undef = .bool false := Loose.dep_of hdep 24 79 (by kernel_rfl)
          have e0 : a.tmps.getD 81 undef = .int .i64 ((s.size : Int) - (A6 : Int)) := Loose.dep_of hdep 26 81 (by kernel_rfl)
          have e1 : a.tmps.getD 86 undef = .int .i64 ((s.size : Int) - (A6 : Int)) := Loose.dep_of hdep 31 86 (by kernel_rfl)
          refine Loose.Step.valueG (Loose.wanted_of rfl rfl gd) (v := .bool true) (w' := w1) ?_ rfl (Below.refl _ _)
          simp [go_sem, Act.eval, e0, e1]
        · intro a w1 hfr hdep
          have gd : a.tmps.getD 75 undef = .bool true := Loose.dep_of hdep 20 75 (by kernel_rfl)
          have e0 : a.tmps.getD 79 undef = .bool false := Loose.dep_of hdep 24 79 (by kernel_rfl)
          have e1 : a.tmps.getD 87 undef = .bool true := Loose.dep_of hdep 32 87 (by kernel_rfl)
          refine Loose.Step.valueG (Loose.wanted_of rfl rfl gd) (v := .bool true) (w' := w1) ?_ rfl (Below.refl _ _)
          simp [go_sem, Act.eval, e0, e1]
        · intro a w1 hfr hdep
          have e0 : a.tmps.getD 75 undef = .bool true := Loose.dep_of hdep 20 75 (by kernel_rfl)
          have e1 : a.tmps.getD 88 undef = .bool true := Loose.dep_of hdep 33 88 (by kernel_rfl)
          refine Loose.Step.value rfl (v := .bool true) (w' := w1) ?_ rfl (Below.refl _ _)
          simp [go_sem, Act.eval, e0, e1]
        · intro a w1 hfr hdep
          have e0 : a.tmps.getD 89 undef = .bool true := Loose.dep_of hdep 34 89 (by kernel_rfl)
          refine Loose.Step.value rfl (v := .bool true) (w' := w1) ?_ rfl (Below.refl _ _)
          simp [go_sem, Act.eval, e0]
        · intro a w1 hfr hdep
          have gd : a.tmps.getD 90 undef = .bool true := Loose.dep_of hdep 35 90 (by kernel_rfl)
          refine Loose.Step.callG (Loose.wanted_of rfl rfl gd) (f := 25) (args := #[]) ?_ ?_
          · simp [go_sem]
          · refine (works_any w1 (HL.out.below (B7.out.trans (hfr.below.mono B7.out.size)))).mono ?_
            rintro e w2 ⟨rfl, hb⟩
            exact ⟨_, rfl, rfl, hb⟩
        · intro a w1 hfr hdep
          have e0 : a.tmps.getD 90 undef = .bool true := Loose.dep_of hdep 35 90 (by kernel_rfl)
          have e1 : a.tmps.getD 91 undef = .bool true := Loose.dep_of hdep 36 91 (by kernel_rfl)
          refine Loose.Step.value rfl (v := .bool true) (w' := w1) ?_ rfl (Below.refl _ _)
          simp [go_sem, Act.eval, e0, e1]
        · intro a w1 hfr hdep
          have e0 : a.tmps.getD 92 undef = .bool true := Loose.dep_of hdep 37 92 (by kernel_rfl)
          refine Loose.Step.value rfl (v := .bool true) (w' := w1) ?_ rfl (Below.refl _ _)
          simp [go_sem, Act.eval, e0]
      · intro v0 v1 v2 v3 v4 v5 v6 v7 v8 v9 v10 v11 v12 v13 v14 v15 v16 v17 v18 v19 v20 v21 v22 v23 v24 v25 v26 v27 v28 v29 v30 v31 v32 v33 v34 v35 v36 v37 v38 w8 hb8 hC
        have h38 : v38 = .bool true := hC.2
        subst h38
        have B8 := Lib.hid (B7.out.trans (hb8.mono B7.out.size))
        clear hC hb8
        simp only [SpecOwn.put_lit, List.set_cons_succ, List.set_cons_zero]
        go_wp2_with fail
        go_ret
        exact ⟨rfl, B8.out⟩
    · have hz' : (cc != 0) = true := by simpa using hz
      have HCZ := Lib.hid hz
      have hxe : xs = [] := labels_none HQ.out hz
      subst hxe
      clear hz
      go_wp2_with fail
      obtain ⟨w7, hw7⟩ : ∃ v, w6.alloc (.cells #[.string s, .int .i64 A6, .int .i64 cc] 65) = v := ⟨_, rfl⟩
      have ZQ := Lib.hid (show w7.heap[w6.heap.size]? = some (.cells #[.string s, .int .i64 A6, .int .i64 cc] 65 (0, 0)) by rw [← hw7]; exact heap_alloc_new w6 _)
      have BQ := Lib.hid (show Below w6.heap.size w6 w7 by rw [← hw7]; exact (Below.refl _ _).alloc (Nat.le_refl _) _)
      have B7 := Lib.hid (B6.out.trans (BQ.out.mono B6.out.size))
      rw [hw7]
      obtain ⟨bq, hbq⟩ : ∃ b, w6.heap.size = b := ⟨_, rfl⟩
      rw [hbq] at ZQ ⊢
      clear hw7 hbq
      refine Loose.wp_region_walk (by kernel_rfl) (by kernel_rfl) (FN A c l s P pc Q qc [] h bq A6 cc) (FN_keep A c l s P pc Q qc [] h bq A6 cc) ?_ ?_
      · refine ⟨?_, ?_, ?_, ?_, ?_, ?_, ?_, ?_, ?_, ?_, ?_, ?_, ?_, ?_, ?_, ?_, ?_, ?_, ?_, ?_, ?_, ?_, ?_, ?_, ?_, ?_, ?_, ?_, ?_, ?_, ?_, ?_, ?_, ?_, ?_, ?_, ?_, ?_, ?_, trivial⟩
        · intro a w1 hfr hdep
          have f0 : a.tmps.getD 7 undef = .string (bx (labelsC.put l)) := hfr.slot 7 (by kernel_rfl)
          refine Loose.Step.value rfl (v := .string (bx (labelsC.put l))) (w' := w1) ?_ rfl (Below.refl _ _)
          simp [go_sem, Act.eval, f0]
        · intro a w1 hfr hdep
          have f0 : a.tmps.getD 0 undef = .slice A l.length c := hfr.slot 0 (by kernel_rfl)
          refine Loose.Step.value rfl (v := .slice A l.length c) (w' := w1) ?_ rfl (Below.refl _ _)
          simp [go_sem, Act.eval, f0]
        · intro a w1 hfr hdep
          have e0 : a.tmps.getD 56 undef = .slice A l.length c := Loose.dep_of hdep 1 56 (by kernel_rfl)
          refine Loose.Step.call rfl (f := 37) (args := #[.slice A l.length c]) ?_ ?_
          · simp [go_sem, Act.eval, e0]
          · refine (labels_bytes A c l (by omega) HLS.out w1 (lbls_below H.out (B7.out.trans (hfr.below.mono B7.out.size)))).mono ?_
            rintro e w2 ⟨rfl, hb⟩
            exact ⟨_, rfl, rfl, hb⟩
        · intro a w1 hfr hdep
          have e0 : a.tmps.getD 55 undef = .string (bx (labelsC.put l)) := Loose.dep_of hdep 0 55 (by kernel_rfl)
          have e1 : a.tmps.getD 57 undef = .string (bx (labelsC.put l)) := Loose.dep_of hdep 2 57 (by kernel_rfl)
          refine Loose.Step.value rfl (v := .bool true) (w' := w1) ?_ rfl (Below.refl _ _)
          simp [go_sem, Act.eval, e0, e1]
        · intro a w1 hfr hdep
          have e0 : a.tmps.getD 58 undef = .bool true := Loose.dep_of hdep 3 58 (by kernel_rfl)
          refine Loose.Step.value rfl (v := .bool true) (w' := w1) ?_ rfl (Below.refl _ _)
          simp [go_sem, Act.eval, e0]
        · intro a w1 hfr hdep
          have gd : a.tmps.getD 59 undef = .bool true := Loose.dep_of hdep 4 59 (by kernel_rfl)
          have f0 : a.tmps.getD 8 undef = .int .i64 0 := hfr.slot 8 (by kernel_rfl)
          refine Loose.Step.valueG (Loose.wanted_of rfl rfl gd) (v := .int .i64 0) (w' := w1) ?_ rfl (Below.refl _ _)
          simp [go_sem, Act.eval, f0]
        · intro a w1 hfr hdep
          have gd : a.tmps.getD 59 undef = .bool true := Loose.dep_of hdep 4 59 (by kernel_rfl)
          have e0 : a.tmps.getD 60 undef = .int .i64 0 := Loose.dep_of hdep 5 60 (by kernel_rfl)
          refine Loose.Step.valueG (Loose.wanted_of rfl rfl gd) (v := .bool true) (w' := w1) ?_ rfl (Below.refl _ _)
          simp [go_sem, Act.eval, e0]
        · intro a w1 hfr hdep
          have e0 : a.tmps.getD 59 undef = .bool true := Loose.dep_of hdep 4 59 (by kernel_rfl)
          have e1 : a.tmps.getD 61 undef = .bool true := Loose.dep_of hdep 6 61 (by kernel_rfl)
          refine Loose.Step.value rfl (v := .bool true) (w' := w1) ?_ rfl (Below.refl _ _)
          simp [go_sem, Act.eval, e0, e1]
        · intro a w1 hfr hdep
          have e0 : a.tmps.getD 62 undef = .bool true := Loose.dep_of hdep 7 62 (by kernel_rfl)
          refine Loose.Step.value rfl (v := .bool true) (w' := w1) ?_ rfl (Below.refl _ _)
          simp [go_sem, Act.eval, e0]
        · intro a w1 hfr hdep
          have gd : a.tmps.getD 63 undef = .bool true := Loose.dep_of hdep 8 63 (by kernel_rfl)
          have f0 : a.tmps.getD 9 undef = .slice P 0 pc := hfr.slot 9 (by kernel_rfl)
          refine Loose.Step.valueG (Loose.wanted_of rfl rfl gd) (v := .slice P 0 pc) (w' := w1) ?_ rfl (Below.refl _ _)
          simp [go_sem, Act.eval, f0]
        · intro a w1 hfr hdep
          have gd : a.tmps.getD 63 undef = .bool true := Loose.dep_of hdep 8 63 (by kernel_rfl)
          have f0 : a.tmps.getD 11 undef = .slice none 0 0 := hfr.slot 11 (by kernel_rfl)
          refine Loose.Step.valueG (Loose.wanted_of rfl rfl gd) (v := .slice none 0 0) (w' := w1) ?_ rfl (Below.refl _ _)
          simp [go_sem, Act.eval, f0]
        · intro a w1 hfr hdep
          have gd : a.tmps.getD 63 undef = .bool true := Loose.dep_of hdep 8 63 (by kernel_rfl)
          have e0 : a.tmps.getD 64 undef = .slice P 0 pc := Loose.dep_of hdep 9 64 (by kernel_rfl)
          have e1 : a.tmps.getD 65 undef = .slice none 0 0 := Loose.dep_of hdep 10 65 (by kernel_rfl)
          refine Loose.Step.callG (Loose.wanted_of rfl rfl gd) (f := 38) (args := #[.slice P 0 pc, .slice none 0 0]) ?_ ?_
          · simp [go_sem, Act.eval, e0, e1]
          · refine (sameLabels_any P pc [] none 0 [] (by simp) (by simp) w1 (fun k x hk => by simp at hk) (fun k x hk => by simp at hk)).mono ?_
            rw [(sameLs_iff (a := []) (b := [])).2 rfl]
            rintro e w2 ⟨rfl, hb⟩
            exact ⟨_, rfl, rfl, hb⟩
        · intro a w1 hfr hdep
          have e0 : a.tmps.getD 63 undef = .bool true := Loose.dep_of hdep 8 63 (by kernel_rfl)
          have e1 : a.tmps.getD 66 undef = .bool true := Loose.dep_of hdep 11 66 (by kernel_rfl)
          refine Loose.Step.value rfl (v := .bool true) (w' := w1) ?_ rfl (Below.refl _ _)
          simp [go_sem, Act.eval, e0, e1]
        · intro a w1 hfr hdep
          have e0 : a.tmps.getD 67 undef = .bool true := Loose.dep_of hdep 12 67 (by kernel_rfl)
          refine Loose.Step.value rfl (v := .bool true) (w' := w1) ?_ rfl (Below.refl _ _)
          simp [go_sem, Act.eval, e0]
        · intro a w1 hfr hdep
          have gd : a.tmps.getD 68 undef = .bool true := Loose.dep_of hdep 13 68 (by kernel_rfl)
          have f0 : a.tmps.getD 6 undef = .pointer (some ⟨h, 0, none⟩) := hfr.slot 6 (by kernel_rfl)
          refine Loose.Step.valueG (Loose.wanted_of rfl rfl gd) (v := .pointer (some ⟨h, 0, none⟩)) (w' := w1) ?_ rfl (Below.refl _ _)
          simp [go_sem, Act.eval, f0]
        · intro a w1 hfr hdep
          have gd : a.tmps.getD 68 undef = .bool true := Loose.dep_of hdep 13 68 (by kernel_rfl)
          have e0 : a.tmps.getD 69 undef = .pointer (some ⟨h, 0, none⟩) := Loose.dep_of hdep 14 69 (by kernel_rfl)
          refine Loose.Step.callG (Loose.wanted_of rfl rfl gd) (f := 39) (args := #[.pointer (some ⟨h, 0, none⟩)]) ?_ ?_
          · simp [go_sem, Act.eval, e0]
          · refine (code_any h cc ll w1 (R6.out.below (BQ.out.trans (hfr.below.mono BQ.out.size)))).mono ?_
            rintro e w2 ⟨rfl, rfl⟩
            exact ⟨_, rfl, rfl, Below.refl _ _⟩
        · intro a w1 hfr hdep
          have gd : a.tmps.getD 68 undef = .bool true := Loose.dep_of hdep 13 68 (by kernel_rfl)
          have f0 : a.tmps.getD 10 undef = .pointer (some ⟨bq, 0, none⟩) := hfr.slot 10 (by kernel_rfl)
          refine Loose.Step.valueG (Loose.wanted_of rfl rfl gd) (v := .pointer (some ⟨bq, 2, none⟩)) (w' := w1) ?_ rfl (Below.refl _ _)
          simp [go_sem, Act.eval, f0]
        · intro a w1 hfr hdep
          obtain ⟨⟨hc0, hc1, hc2⟩, _, _, _⟩ := r3_cells ((hfr.below.block bq (lt_of_block ZQ.out)).trans ZQ.out)
          have gd : a.tmps.getD 68 undef = .bool true := Loose.dep_of hdep 13 68 (by kernel_rfl)
          have e0 : a.tmps.getD 71 undef = .pointer (some ⟨bq, 2, none⟩) := Loose.dep_of hdep 16 71 (by kernel_rfl)
          refine Loose.Step.valueG (Loose.wanted_of rfl rfl gd) (v := .int .i64 cc) (w' := w1) ?_ rfl (Below.refl _ _)
          simp [go_sem, Act.eval, e0, hc0, hc1, hc2]
        · intro a w1 hfr hdep
          have gd : a.tmps.getD 68 undef = .bool true := Loose.dep_of hdep 13 68 (by kernel_rfl)
          have e0 : a.tmps.getD 70 undef = .int .i64 cc := Loose.dep_of hdep 15 70 (by kernel_rfl)
          have e1 : a.tmps.getD 72 undef = .int .i64 cc := Loose.dep_of hdep 17 72 (by kernel_rfl)
          refine Loose.Step.valueG (Loose.wanted_of rfl rfl gd) (v := .bool true) (w' := w1) ?_ rfl (Below.refl _ _)
          simp [go_sem, Act.eval, e0, e1]
        · intro a w1 hfr hdep
          have e0 : a.tmps.getD 68 undef = .bool true := Loose.dep_of hdep 13 68 (by kernel_rfl)
          have e1 : a.tmps.getD 73 undef = .bool true := Loose.dep_of hdep 18 73 (by kernel_rfl)
          refine Loose.Step.value rfl (v := .bool true) (w' := w1) ?_ rfl (Below.refl _ _)
          simp [go_sem, Act.eval, e0, e1]
        · intro a w1 hfr hdep
          have e0 : a.tmps.getD 74 undef = .bool true := Loose.dep_of hdep 19 74 (by kernel_rfl)
          refine Loose.Step.value rfl (v := .bool true) (w' := w1) ?_ rfl (Below.refl _ _)
          simp [go_sem, Act.eval, e0]
        · intro a w1 hfr hdep
          have gd : a.tmps.getD 75 undef = .bool true := Loose.dep_of hdep 20 75 (by kernel_rfl)
          have f0 : a.tmps.getD 10 undef = .pointer (some ⟨bq, 0, none⟩) := hfr.slot 10 (by kernel_rfl)
          refine Loose.Step.valueG (Loose.wanted_of rfl rfl gd) (v := .pointer (some ⟨bq, 2, none⟩)) (w' := w1) ?_ rfl (Below.refl _ _)
          simp [go_sem, Act.eval, f0]
        · intro a w1 hfr hdep
          obtain ⟨⟨hc0, hc1, hc2⟩, _, _, _⟩ := r3_cells ((hfr.below.block bq (lt_of_block ZQ.out)).trans ZQ.out)
          have gd : a.tmps.getD 75 undef = .bool true := Loose.dep_of hdep 20 75 (by kernel_rfl)
          have e0 : a.tmps.getD 76 undef = .pointer (some ⟨bq, 2, none⟩) := Loose.dep_of hdep 21 76 (by kernel_rfl)
          refine Loose.Step.valueG (Loose.wanted_of rfl rfl gd) (v := .int .i64 cc) (w' := w1) ?_ rfl (Below.refl _ _)
          simp [go_sem, Act.eval, e0, hc0, hc1, hc2]
        · intro a w1 hfr hdep
          have gd : a.tmps.getD 75 undef = .bool true := Loose.dep_of hdep 20 75 (by kernel_rfl)
          have e0 : a.tmps.getD 77 undef = .int .i64 cc := Loose.dep_of hdep 22 77 (by kernel_rfl)
          refine Loose.Step.valueG (Loose.wanted_of rfl rfl gd) (v := .bool true) (w' := w1) ?_ rfl (Below.refl _ _)
          simp [go_sem, Act.eval, e0, HCZ.out]
        · intro a w1 hfr hdep
          have gd : a.tmps.getD 75 undef = .bool true := Loose.dep_of hdep 20 75 (by kernel_rfl)
          have e0 : a.tmps.getD 78 undef = .bool true := Loose.dep_of hdep 23 78 (by kernel_rfl)
          refine Loose.Step.valueG (Loose.wanted_of rfl rfl gd) (v := .bool true) (w' := w1) ?_ rfl (Below.refl _ _)
          simp [go_sem, Act.eval, e0]
        · intro a w1 hfr hdep
          have gd : a.tmps.getD 79 undef = .bool true := Loose.dep_of hdep 24 79 (by kernel_rfl)
          exact .inr ⟨unwanted_of rfl rfl gd, rfl⟩
        · intro a w1 hfr hdep
          have gd : a.tmps.getD 79 undef = .bool true := Loose.dep_of hdep 24 79 (by kernel_rfl)
          exact .inr ⟨unwanted_of rfl rfl gd, rfl⟩
        · intro a w1 hfr hdep
          have gd : a.tmps.getD 79 undef = .bool true := Loose.dep_of hdep 24 79 (by kernel_rfl)
          exact .inr ⟨unwanted_of rfl rfl gd, rfl⟩
        · intro a w1 hfr hdep
          have gd : a.tmps.getD 79 undef = .bool true := Loose.dep_of hdep 24 79 (by kernel_rfl)
          exact .inr ⟨unwanted_of rfl rfl gd, rfl⟩
        · intro a w1 hfr hdep
          have gd : a.tmps.getD 79 undef = .bool true := Loose.dep_of hdep 24 79 (by kernel_rfl)
          exact .inr ⟨unwanted_of rfl rfl gd, rfl⟩
        · intro a w1 hfr hdep
          have gd : a.tmps.getD 79 undef = .bool true := Loose.dep_of hdep 24 79 (by kernel_rfl)
          exact .inr ⟨unwanted_of rfl rfl gd, rfl⟩
        · intro a w1 hfr hdep
          have gd : a.tmps.getD 79 undef = .bool true := Loose.dep_of hdep 24 79 (by kernel_rfl)
          exact .inr ⟨unwanted_of rfl rfl gd, rfl⟩
        · intro a w1 hfr hdep
          have gd : a.tmps.getD 79 undef = .bool true := Loose.dep_of hdep 24 79 (by kernel_rfl)
          exact .inr ⟨unwanted_of rfl rfl gd, rfl⟩
        · intro a w1 hfr hdep
          have gd : a.tmps.getD 75 undef = .bool true := Loose.dep_of hdep 20 75 (by kernel_rfl)
          have e0 : a.tmps.getD 79 undef = .bool true := Loose.dep_of hdep 24 79 (by kernel_rfl)
          refine Loose.Step.valueG (Loose.wanted_of rfl rfl gd) (v := .bool true) (w' := w1) ?_ rfl (Below.refl _ _)
          simp [go_sem, Act.eval, e0]
        · intro a w1 hfr hdep
          have e0 : a.tmps.getD 75 undef = .bool true := Loose.dep_of hdep 20 75 (by kernel_rfl)
          have e1 : a.tmps.getD 88 undef = .bool true := Loose.dep_of hdep 33 88 (by kernel_rfl)
          refine Loose.Step.value rfl (v := .bool true) (w' := w1) ?_ rfl (Below.refl _ _)
          simp [go_sem, Act.eval, e0, e1]
        · intro a w1 hfr hdep
          have e0 : a.tmps.getD 89 undef = .bool true := Loose.dep_of hdep 34 89 (by kernel_rfl)
          refine Loose.Step.value rfl (v := .bool true) (w' := w1) ?_ rfl (Below.refl _ _)
          simp [go_sem, Act.eval, e0]
        · intro a w1 hfr hdep
          have gd : a.tmps.getD 90 undef = .bool true := Loose.dep_of hdep 35 90 (by kernel_rfl)
          refine Loose.Step.callG (Loose.wanted_of rfl rfl gd) (f := 25) (args := #[]) ?_ ?_
          · simp [go_sem]
          · refine (works_any w1 (HL.out.below (B7.out.trans (hfr.below.mono B7.out.size)))).mono ?_
            rintro e w2 ⟨rfl, hb⟩
            exact ⟨_, rfl, rfl, hb⟩
        · intro a w1 hfr hdep
          have e0 : a.tmps.getD 90 undef = .bool true := Loose.dep_of hdep 35 90 (by kernel_rfl)
          have e1 : a.tmps.getD 91 undef = .bool true := Loose.dep_of hdep 36 91 (by kernel_rfl)
          refine Loose.Step.value rfl (v := .bool true) (w' := w1) ?_ rfl (Below.refl _ _)
          simp [go_sem, Act.eval, e0, e1]
        · intro a w1 hfr hdep
          have e0 : a.tmps.getD 92 undef = .bool true := Loose.dep_of hdep 37 92 (by kernel_rfl)
          refine Loose.Step.value rfl (v := .bool true) (w' := w1) ?_ rfl (Below.refl _ _)
          simp [go_sem, Act.eval, e0]
      · intro v0 v1 v2 v3 v4 v5 v6 v7 v8 v9 v10 v11 v12 v13 v14 v15 v16 v17 v18 v19 v20 v21 v22 v23 v24 v25 v26 v27 v28 v29 v30 v31 v32 v33 v34 v35 v36 v37 v38 w8 hb8 hC
        have h38 : v38 = .bool true := hC.2
        subst h38
        have B8 := Lib.hid (B7.out.trans (hb8.mono B7.out.size))
        clear hC hb8
        simp only [SpecOwn.put_lit, List.set_cons_succ, List.set_cons_zero]
        go_wp2_with fail
        go_ret
        exact ⟨rfl, B8.out⟩
end Go.Proofs.YtefkaebdfkjkgaaGreatDoor.PackLabelsWalk
